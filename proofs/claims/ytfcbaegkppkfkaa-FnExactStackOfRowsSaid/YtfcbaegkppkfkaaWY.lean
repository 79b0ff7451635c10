import Derived.Test.YtfcbaegkppkfkaaWX
import Derived.Deep.LoopGhost
import Derived.Lib.SliceRun
namespace Go.Pan
open Go Go.RowKit
theorem sum_take_le {q : List Int} (h : ∀ x ∈ q, 0 ≤ x) (k : Nat) : (q.take k).sum ≤ q.sum := by
  have e : (q.take k).sum + (q.drop k).sum = q.sum := by rw [← List.sum_append, List.take_append_drop]
  have h2 : ∀ (l : List Int), (∀ x ∈ l, 0 ≤ x) → 0 ≤ l.sum := fun l => by
    induction l with
    | nil => intro _; simp
    | cons a l ih =>
      intro h
      have h1 := h a (List.mem_cons_self ..)
      have h3 := ih fun x hx => h x (List.mem_cons_of_mem _ hx)
      rw [List.sum_cons]; omega
  have := h2 (q.drop k) fun x hx => h x (List.mem_of_mem_drop hx)
  omega

end Go.Pan

namespace Go.Proofs.Ytfcbaegkppkfkaa
open Go Go.RowKit Go.Pan

set_option maxHeartbeats 1600000 in
theorem isShape_any (v : Value) (xs : List Int) (w : World) (hv : OwnI w v xs) (hn : xs.length ≤ 1048576) :
    Calls Try.prog 54 #[v] w fun e w' => e = .returned (.bool (shpB xs)) ∧ Below w.heap.size w w' := by
  obtain ⟨ad, cap, rfl, hc, _, _⟩ := hv.shape
  go_enter Try.func54, Try.ntmps54
  go_wp2
  go_loopw [3, 4, 9] (fun lg lf i wr => ∃ (k : Nat) (L F : Int), k ≤ xs.length ∧ i = .int .i64 k ∧ lg = .int .i64 L ∧ lf = .int .i64 F ∧ F + (xs.take k).sum = 9 ∧ 0 ≤ F ∧ (k : Int) ≤ 9 - F ∧ 1 ≤ L ∧ L ≤ 9 ∧ (k = 0 → L = 9) ∧ Hid (∀ j, k = j + 1 → L = xs.getD j 0) ∧ Hid (∀ j, j < k → 1 ≤ xs.getD j 0 ∧ xs.getD j 0 ≤ 9) ∧ Hid (∀ j, j < k → 0 < j → xs.getD j 0 ≤ xs.getD (j - 1) 0) ∧ Below w.heap.size w wr) (fun _ _ i _ => xs.length - (intOf i).toNat)
  case atStart => exact ⟨0, 9, 9, Nat.zero_le _, rfl, rfl, rfl, by simp, by omega, by omega, by omega, by omega, fun _ => rfl, Lib.hid (fun j h => by omega), Lib.hid (fun j h => by omega), Lib.hid (fun j h => by omega), Below.refl _ _⟩
  case round =>
    obtain ⟨k, L, F, hk, rfl, rfl, rfl, hF, hF0, hkF, hL1, hL9, hLz, hLp, hA, hD, hbr⟩ := hrel
    by_cases hlt : k < xs.length
    · have hlt' : (k : Int) < xs.length := by omega
      have hv1 := hv.below hbr (Nat.le_refl _)
      obtain ⟨g, off, rfl, hgl, hcell⟩ := cells9 hv1 (by omega)
      have hck := hcell k hlt
      have HT := Lib.hid (show (xs.take (k + 1)).sum = (xs.take k).sum + xs.getD k 0 by rw [sum_take_succ hlt, getDI hlt])
      have HMEM := Lib.hid (show xs.getD k 0 ∈ xs by rw [getDI hlt]; exact List.getElem_mem hlt)
      obtain ⟨S, hS⟩ : ∃ S, (xs.take k).sum = S := ⟨_, rfl⟩
      have HSS := Lib.hid hS
      obtain ⟨x, hx⟩ : ∃ x, xs.getD k 0 = x := ⟨_, rfl⟩
      rw [hS] at hF HT
      rw [hx] at hck HT HMEM
      have HX := Lib.hid hx
      clear hv hv1 hcell hS hx
      by_cases h1 : x < 1
      · have HS := Lib.hid (shpB_no (q := xs) fun h => by have := h.2.2.1 x HMEM.out; omega)
        go_wp2
        go_ret
        exact ⟨by rw [HS.out]; rfl, hbr⟩
      · by_cases h2 : L < x
        · have HS := Lib.hid (shpB_no (q := xs) fun h => by
            have h3 := h.2.2.1 x HMEM.out
            by_cases hk0 : k = 0
            · have := hLz hk0; omega
            · have h4 := h.2.2.2.1 k hlt (by omega)
              have h5 := hLp.out (k - 1) (by omega)
              rw [HX.out] at h4
              omega)
          go_wp2
          go_ret
          exact ⟨by rw [HS.out]; rfl, hbr⟩
        · by_cases h3 : F < x
          · have HS := Lib.hid (shpB_no (q := xs) fun h => by
              have h4 := sum_take_le (q := xs) (fun x hx => by have := h.2.2.1 x hx; omega) (k + 1)
              rw [HT.out] at h4
              have := h.2.2.2.2
              omega)
            go_wp2
            go_ret
            exact ⟨by rw [HS.out]; rfl, hbr⟩
          · have HL2 := Lib.hid (show ∀ j, k + 1 = j + 1 → x = xs.getD j 0 from fun j h => by obtain rfl : k = j := by omega
                                                                                              exact HX.out.symm)
            have HA2 := Lib.hid (show ∀ j, j < k + 1 → 1 ≤ xs.getD j 0 ∧ xs.getD j 0 ≤ 9 from fun j h => by
              by_cases e : j = k
              · subst e; rw [HX.out]; omega
              · exact hA.out j (by omega))
            have HD2 := Lib.hid (show ∀ j, j < k + 1 → 0 < j → xs.getD j 0 ≤ xs.getD (j - 1) 0 from fun j h h0 => by
              by_cases e : j = k
              · subst e
                have h5 := hLp.out (j - 1) (by omega)
                rw [HX.out, ← h5]; omega
              · exact hD.out j (by omega) h0)
            have HT2 := Lib.hid (show F - x + (xs.take (k + 1)).sum = 9 by rw [HT.out]; omega)
            go_wp2
            go_roundw
            case rel => exact ⟨k + 1, x, F - x, by omega, by go_num, rfl, rfl, HT2.out, by omega, by omega, by omega, by omega, fun h => by omega, HL2, HA2, HD2, hbr⟩
            case measure => simp [intOf] <;> omega
    · obtain rfl : k = xs.length := by omega
      rw [List.take_length] at hF
      have HS := Lib.hid (show shpB xs = decide (0 < xs.length) by
        by_cases h : 0 < xs.length
        · rw [decide_eq_true h]
          refine shpB_iff.2 ⟨by omega, by omega, fun x hx => ?_, hD.out, by omega⟩
          obtain ⟨i, hi, rfl⟩ := List.mem_iff_getElem.1 hx
          rw [← getDI hi]
          exact hA.out i hi
        · rw [decide_eq_false h]; exact shpB_no fun h2 => h (by omega))
      go_wp2
      go_ret
      exact ⟨by rw [HS.out]; rfl, hbr⟩

set_option maxHeartbeats 1600000 in
theorem CloneO_any (v : Value) (xs : List Int) (w : World) (hv : OwnI w v xs) (h1 : 1 ≤ xs.length) (hn : xs.length ≤ 1048576) :
    Calls Try.prog 56 #[v] w fun e w' => ∃ r, e = .returned r ∧ OwnI w' r xs ∧ From w.heap.size r ∧ Below w.heap.size w w' := by
  obtain ⟨ad, cap, rfl, hc, _, _⟩ := hv.shape
  have hs := Own.src hv
  obtain ⟨g0, off, rfl, _, _, _⟩ := hv.at (by omega)
  have qT : ∀ (w : World) (a : Option Addr) (n c n' c' : Nat), (binOp .eql 22 (.slice a n c) (.slice none n' c')).run Try.prog w = .ok (.bool a.isNone) w := fun w a n c n' c' => Lib.run_eql_slice_nil w _ _ a n c n' c' Try.underlying22
  go_enter Try.func56, Try.ntmps56
  go_wp2_with (at_builtin; refine wpList_appI Try.intSl rfl _ _ rfl (.slice (some ⟨w.heap.size, 0, none⟩) 0 0) [] rfl (OwnI.lit w _ [] 0 rfl (by simp) _ rfl) w.heap.size (From.at _ _ _ _ _ (Nat.le_refl _)) (some ⟨g0, off, none⟩) xs.length cap xs rfl rfl (hs.alloc _) w (below_new w _) (by simp) (by simp) hn ?_)
  intro v' w1 ho hf hb _
  go_wp2
  go_ret
  exact ⟨_, rfl, by simpa using ho, hf, hb⟩

end Go.Proofs.Ytfcbaegkppkfkaa

