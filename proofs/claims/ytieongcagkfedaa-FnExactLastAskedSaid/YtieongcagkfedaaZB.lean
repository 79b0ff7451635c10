import Derived.Test.YtieongcagkfedaaZA
import Derived.Test.YtieongcagkfedaaU15
namespace Go.Pan

-- the books in the order of their last times
def ddS (out : List Int) (b : Int) : List Int := if b ∈ out then out else out ++ [b]
def ddL (l : List Int) : List Int := l.foldl ddS []
theorem ddL_nil : ddL [] = [] := rfl
theorem ddL_step (l : List Int) (k : Nat) (h : k < l.length) : ddL (l.take (k + 1)) = ddS (ddL (l.take k)) l[k] := by
  unfold ddL
  rw [List.take_succ_eq_append_getElem h, List.foldl_append]
  rfl
theorem ddS_length (out : List Int) (b : Int) : (ddS out b).length ≤ out.length + 1 := by
  unfold ddS
  split
  · omega
  · simp
theorem ddF_length (l out : List Int) : (l.foldl ddS out).length ≤ out.length + l.length := by
  induction l generalizing out with
  | nil => simp
  | cons b l ih => have h1 := ih (ddS out b); have h2 := ddS_length out b; simp only [List.foldl_cons, List.length_cons]; omega
theorem ddL_length (l : List Int) : (ddL l).length ≤ l.length := by have := ddF_length l []; simpa [ddL] using this
def lastL (xs ps : List Int) : List Int := ddL (ps.reverse ++ xs)
def mLastAsked (xs ps : List Int) : List Int := if askB xs ps = true then lastL xs ps else []
theorem len_mLastAsked (xs ps : List Int) : (mLastAsked xs ps).length ≤ 1048576 := by
  unfold mLastAsked
  split
  · rename_i h
    obtain ⟨hg, h60, _⟩ := askB_iff.1 h
    have h1 := ddL_length (ps.reverse ++ xs)
    have h9 := hg.2.1
    unfold lastL
    rw [List.length_append, List.length_reverse] at h1
    omega
  · simp
end Go.Pan

namespace Go.Proofs.Ytieongcagkfedaa
open Go Go.RowKit Go.Pan

set_option maxHeartbeats 800000 in
theorem sLastAsked_any (v : Value) (xs : List Int) (u : Value) (ys : List Int) (w : World) (hv : OwnI w v xs) (hn : xs.length ≤ 1048576) (hu : OwnI w u ys) (hm : ys.length ≤ 1048576) :
    Calls Try.prog 45 #[v, u] w fun e w' => ∃ r, e = .returned (.tuple #[r, .bool (askB xs ys)]) ∧ OwnI w' r (mLastAsked xs ys) ∧ From w.heap.size r ∧ Below w.heap.size w w' := by
  obtain ⟨ad, cap, rfl, hc, _, _⟩ := hv.shape
  cases hg : askB xs ys with
  | true =>
    have HM := Lib.hid (show mLastAsked xs ys = lastL xs ys from if_pos hg)
    obtain ⟨hgx, h60, _⟩ := askB_iff.1 hg
    have h9 := hgx.2.1
    have hAL : (ys.reverse ++ xs).length ≤ 69 := by rw [List.length_append, List.length_reverse]; omega
    clear hgx
    go_enter Try.func45, Try.ntmps45
    go_wp2_with fail
    refine (shAsked_any _ xs _ ys _ hv hn hu hm).mono ?_
    rintro e w1 ⟨rfl, hb1⟩
    go_wp2_with fail
    refine (stReverse_any _ ys _ (hu.same hb1) hm).mono ?_
    rintro e w2 ⟨r, rfl, hor, hfr, hb2⟩
    have hB2 := hb1.trans (hb2.mono hb1.size)
    have hs2 := hB2.size
    have hfr' : From w.heap.size r := hfr.mono hb1.size
    have hsrc := Own.src (hv.same hB2)
    have hrl : (ys.reverse).length ≤ 1048576 := by rw [List.length_reverse]; exact hm
    clear hb1 hb2 hfr
    go_wp2_with (at_builtin; refine wpList_appI Try.intSl rfl _ _ rfl r ys.reverse rfl hor w.heap.size hfr' ad xs.length cap xs rfl rfl hsrc w hB2 hs2 hrl hn ?_)
    intro v3 w3 ho3 hf3 hb3 _
    obtain ⟨L, hL⟩ : ∃ L, ys.reverse ++ xs = L := ⟨_, rfl⟩
    have HL := Lib.hid hL
    rw [hL] at ho3 hAL
    obtain ⟨a3, c3, rfl, hc3, _, _⟩ := ho3.shape
    clear hL hsrc hor hfr' hB2 hs2 hrl hv
    go_wp2
    go_loopw [6, 8, 18] (fun o _ i wr => ∃ k : Nat, k ≤ L.length ∧ i = .int .i64 k ∧ OwnI wr o (ddL (L.take k)) ∧ From w3.heap.size o ∧ Below w3.heap.size w3 wr) (fun _ _ i _ => L.length - (intOf i).toNat)
    case atStart => exact ⟨0, Nat.zero_le _, rfl, by simpa [ddL] using OwnI.nil w3, From.nil _ _ _, Below.refl _ _⟩
    case round =>
      obtain ⟨k, hk, rfl, ho, hf, hbr⟩ := hrel
      by_cases hlt : k < L.length
      · have ho3r := ho3.below hbr (Nat.le_refl _)
        obtain ⟨g, off, rfl, hgl, hcell, hfz⟩ := ho3r.at (by omega)
        have hck := hcell k (by omega)
        rw [List.getElem?_map, List.getElem?_eq_getElem hlt] at hck
        obtain ⟨b, hb⟩ : ∃ b, L[k] = b := ⟨_, rfl⟩
        have HS := Lib.hid (ddL_step L k hlt)
        rw [hb] at hck HS
        obtain ⟨D, hD⟩ : ∃ D, ddL (L.take k) = D := ⟨_, rfl⟩
        rw [hD] at ho HS
        have hDl : D.length ≤ 1048576 := by rw [← hD]; have := ddL_length (L.take k); rw [List.length_take] at this; omega
        have cH := l1Has_any _ D b wr ho hDl
        clear hcell hfz ho3 ho3r hb hD
        by_cases he : b ∈ D
        · have H := Lib.hid (show ddL (L.take (k + 1)) = D by rw [HS.out]; exact if_pos he)
          rw [decide_eq_true he] at cH
          clear he HS
          go_wp2_with fail
          refine (cH).mono ?_
          rintro e w4 ⟨rfl, hb4⟩
          have ho4 := Own.same ho hb4
          have hB4 := hbr.trans (hb4.mono hbr.size)
          clear cH ho hb4 hbr
          go_wp2
          go_roundw
          case rel => exact ⟨k + 1, by omega, by go_num, by rw [H.out]; exact ho4, hf, hB4⟩
          case measure => simp [intOf] <;> omega
        · have H := Lib.hid (show ddL (L.take (k + 1)) = D ++ [b] by rw [HS.out]; exact if_neg he)
          rw [decide_eq_false he] at cH
          clear he HS
          go_wp2_with fail
          refine (cH).mono ?_
          rintro e w4 ⟨rfl, hb4⟩
          have ho4 := Own.same ho hb4
          have hB4 := hbr.trans (hb4.mono hbr.size)
          have hs4 := hB4.size
          clear cH ho hb4 hbr
          go_wp2_with (at_builtin; refine wpList_app1 Try.intSl rfl _ _ rfl _ D rfl (ho4.alloc _) w3.heap.size hf w4.heap.size b rfl ?c1 w3 (hB4.alloc hs4 _) ?c2 hDl ?_)
          case c1 => simp [go_sem]
          case c2 => simp; exact Nat.le_succ_of_le hs4
          intro v' w5 ho' hf' hb' _
          rw [← H.out] at ho'
          clear ho4 hf hB4 hck
          go_wp2
          go_roundw
          case rel => exact ⟨k + 1, by omega, by go_num, ho', hf', hb'⟩
          case measure => simp [intOf] <;> omega
      · obtain rfl : k = L.length := by omega
        rw [List.take_length, ← HL.out] at ho
        clear ho3
        go_wp2
        go_ret2
        exact ⟨_, rfl, by rw [HM.out]; exact ho, hf.mono hb3.size, hb3.trans (hbr.mono hb3.size)⟩
  | false =>
    have HM := Lib.hid (show mLastAsked xs ys = [] from if_neg (by rw [hg]; exact Bool.false_ne_true))
    go_enter Try.func45, Try.ntmps45
    go_wp2_with fail
    refine (shAsked_any _ xs _ ys _ hv hn hu hm).mono ?_
    rintro e w1 ⟨rfl, hb1⟩
    go_wp2
    go_ret2
    exact ⟨_, rfl, by rw [HM.out]; exact OwnI.nil _, From.nil _ _ _, hb1⟩

end Go.Proofs.Ytieongcagkfedaa
