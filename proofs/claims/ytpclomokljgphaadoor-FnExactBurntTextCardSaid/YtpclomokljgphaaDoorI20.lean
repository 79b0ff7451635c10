import Derived.Test.YtpclomokljgphaaDoorI5
import Derived.Test.YtpclomokljgphaaDoorI16
import Derived.Test.YtpclomokljgphaaDoorM11
import Derived.Lib.MinMax
namespace Go.Proofs.YtpclomokljgphaaDoor
open Go Go.RowKit Go.Pan

set_option maxRecDepth 100000 in
set_option maxHeartbeats 400000 in
theorem withoutSides_any (v : Value) (xs : List Int) (w : World) (hv : OwnI w v xs) (hn : xs.length ≤ 1048576) :
    Calls Tryd.prog 17 #[v] w fun e w' => ∃ r, e = .returned r ∧ OwnI w' r (sidesL xs) ∧ From w.heap.size r ∧ Below w.heap.size w w' := by
  obtain ⟨ad, cap, rfl, hc, _, _⟩ := hv.shape
  have HL := Lib.hid (sidesL_length xs)
  obtain ⟨i0, hi, hz0, hz1, hz2⟩ := info_parts Tryd.info3
  go_enter Tryd.func17, Tryd.ntmps17
  go_wp2_with (at_make; refine wpList_make_full _ rfl _ _ 22 rfl w.heap.size 3 i0 (.int .i64 0) 1 Tryd.underlying22 hi hz0 hz1 _ _ _ _ xs.length rfl rfl rfl rfl ?b1 ?b2 ?b3 ?_)
  case b1 => rw [hz2]; omega
  case b2 => unfold maxLen; omega
  case b3 => exact Nat.le_refl _
  intro w1 hown hgrow
  have ho0 : OwnI w1 (.slice (some ⟨w.heap.size, 0, none⟩) xs.length xs.length) (fillTo (sidesL xs) 0) := by rw [fillTo_zero, HL.out]; exact OwnI.of_made hown
  have hb0 : Below w.heap.size w w1 := (Below.refl _ _).grown hgrow (Nat.le_refl _) (by intro k hk; cases hk)
  clear hi hz0 hz1 hz2 hgrow hown
  go_wp2
  go_loopw [4, 5, 11] (fun _ _ i wr => ∃ k : Nat, k ≤ xs.length ∧ i = .int .i64 k ∧ OwnI wr (.slice (some ⟨w.heap.size, 0, none⟩) xs.length xs.length) (fillTo (sidesL xs) k) ∧ Below w.heap.size w wr) (fun _ _ i _ => xs.length - (intOf i).toNat)
  case atStart => exact ⟨0, Nat.zero_le _, rfl, ho0, hb0⟩
  case round =>
    obtain ⟨k, hk, rfl, ho, hbr⟩ := hrel
    by_cases hlt : k < xs.length
    · obtain ⟨g, off, rfl, hgl, hcell, hf⟩ := hv.at (by omega)
      have hck := hcell k (by omega)
      rw [List.getElem?_map, List.getElem?_eq_getElem hlt] at hck
      have hc1 := (hbr.cell (p := ⟨g, off + k, none⟩) hgl).trans hck
      obtain ⟨hd, hfd, hst⟩ := OwnI.cellAt ho k (by rw [fillTo_length _ _ (by rw [HL.out]; omega), HL.out]; exact hlt)
      have hst := hst (max xs[k] (wrap64 (-xs[k])))
      rw [fillTo_step (sidesL xs) k (by rw [HL.out]; exact hlt) (max xs[k] (wrap64 (-xs[k]))) (by simp only [sidesL, List.getElem_map, sizeW])] at hst
      have hb2 := hbr.setCell (p := ⟨w.heap.size, k, none⟩) (Nat.le_refl _) (iv (max xs[k] (wrap64 (-xs[k]))))
      clear hcell hf hck hv ho hbr ho0 hb0
      go_wp2
      go_roundw
      case rel => exact ⟨k + 1, by omega, by go_num, hst, hb2⟩
      case measure => simp [intOf] <;> omega
    · obtain rfl : k = xs.length := by omega
      have he : fillTo (sidesL xs) xs.length = sidesL xs := by have := fillTo_all (sidesL xs); rwa [HL.out] at this
      rw [he] at ho
      clear hv ho0 hb0 he
      have ho2 : Hid (OwnI wr (.slice (some ⟨w.heap.size, 0, none⟩) xs.length xs.length) (sidesL xs)) := Lib.hid ho
      clear ho
      go_wp2
      go_ret
      exact ⟨_, rfl, ho2.out, From.at _ _ _ _ _ (Nat.le_refl _), hbr⟩

theorem IsBurnt_any (v : Value) (xs : List Int) (w : World) (hv : OwnI w v xs) (hn : xs.length ≤ 1048576) (hw : Wf64 xs) :
    Calls Tryd.prog 10 #[v] w fun e w' => e = .returned (.bool (burntB xs)) ∧ Below w.heap.size w w' := by
  have hl : (sidesL xs).length ≤ 1048576 := by rw [sidesL_length]; exact hn
  have HW := Lib.hid (good_sides hw)
  clear hw
  go_enter Tryd.func10, Tryd.ntmps10
  go_wp2_with fail
  refine (withoutSides_any _ _ _ hv hn).mono ?_
  rintro e w1 ⟨r, rfl, ho, hf, hb⟩
  go_wp2_with fail
  refine (IsStack_any _ _ _ ho hl).mono ?_
  rintro e w2 ⟨rfl, hb2⟩
  go_wp2
  go_ret
  exact ⟨by rw [← HW.out]; rfl, hb.trans (hb2.mono hb.size)⟩

theorem twl_neg (ys : List Int) (j : Nat) (h : j < ys.length) : (twl (negTo ys j)).set j (iv (-ys[j])) = twl (negTo ys (j + 1)) := by
  rw [twl_set _ _ _ (by rw [negTo_length]; exact h), negTo_step ys j h]