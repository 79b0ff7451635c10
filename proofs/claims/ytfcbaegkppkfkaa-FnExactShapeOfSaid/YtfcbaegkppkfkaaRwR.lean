import Derived.Test.YtfcbaegkppkfkaaRwS
namespace Go.Pan
open Go Go.RowKit
theorem len_mRowsOf (xs : List Int) : (mRowsOf xs).length ≤ 1048576 := by
  unfold mRowsOf
  split
  · rename_i h
    have h1 := (tabTo_in xs xs.length).1.len
    have h2 := (goodB_iff.1 h).le9
    omega
  · simp
theorem rows_mRowsOf (xs : List Int) : ∀ r ∈ mRowsOf xs, r.length ≤ 1048576 := by
  unfold mRowsOf
  split
  · rename_i h
    intro r hr
    have h1 := (tabTo_in xs xs.length).1.row hr
    have h2 := (goodB_iff.1 h).le9
    omega
  · intro r hr; cases hr
theorem pre_nPiles (P : List (List Int)) : pre P P.length = nPiles P := by unfold pre nPiles; rw [List.take_length]
theorem tot_mRowsOf (xs : List Int) : pre (mRowsOf xs) (mRowsOf xs).length ≤ 1048576 := by
  unfold mRowsOf
  split
  · rename_i h
    have h1 := (tabTo_in xs xs.length).1.2
    have h2 := (goodB_iff.1 h).le9
    rw [pre_nPiles, h1]
    omega
  · simp [pre]
theorem len_mPlacesOfRows (xs : List Int) : (mPlacesOfRows xs).length ≤ 1048576 := by
  unfold mPlacesOfRows
  split
  · rename_i h
    have h1 := (tabTo_in xs xs.length).2.1.len
    have h2 := (goodB_iff.1 h).le9
    omega
  · simp
theorem rows_mPlacesOfRows (xs : List Int) : ∀ r ∈ mPlacesOfRows xs, r.length ≤ 1048576 := by
  unfold mPlacesOfRows
  split
  · rename_i h
    intro r hr
    have h1 := (tabTo_in xs xs.length).2.1.row hr
    have h2 := (goodB_iff.1 h).le9
    omega
  · intro r hr; cases hr
theorem tot_mPlacesOfRows (xs : List Int) : pre (mPlacesOfRows xs) (mPlacesOfRows xs).length ≤ 1048576 := by
  unfold mPlacesOfRows
  split
  · rename_i h
    have h1 := (tabTo_in xs xs.length).2.1.2
    have h2 := (goodB_iff.1 h).le9
    rw [pre_nPiles, h1]
    omega
  · simp [pre]
theorem len_mShapeOf (xs : List Int) : (mShapeOf xs).length ≤ 1048576 := by
  have := len_mRowsOf xs
  unfold mRowsOf at this
  unfold mShapeOf
  split <;> simp_all
end Go.Pan

namespace Go.Proofs.Ytfcbaegkppkfkaa
open Go Go.RowKit Go.Pan

set_option maxHeartbeats 1600000 in
set_option maxRecDepth 100000 in
theorem sRowsOf_any (v : Value) (xs : List Int) (w : World) (hv : OwnI w v xs) (hn : xs.length ≤ 1048576) :
    Calls Try.prog 16 #[v] w fun e w' => ∃ r hs, e = .returned (.tuple #[r, .bool (goodB xs)]) ∧ SS w' w.heap.size w'.heap.size r hs (mRowsOf xs) ∧ Below w.heap.size w w' := by
  obtain ⟨ad, cap, rfl, hc, _, _⟩ := hv.shape
  have cg := stGood_any _ _ _ hv hn
  cases hg : goodB xs with
  | true =>
    have HM := Lib.hid (show mRowsOf xs = (tabTo xs xs.length).1 from if_pos hg)
    have h9 := (goodB_iff.1 hg).le9
    rw [hg] at cg
    clear hg
    go_enter Try.func16, Try.ntmps16
    go_wp2_with fail
    refine (cg).mono ?_
    rintro e w1 ⟨rfl, hb1⟩
    have HV := Lib.hid (hv.same hb1)
    have hz1 := hb1.size
    clear cg hv
    go_wp2_with fail
    refine (inRows_any _ xs w1 HV.out h9).mono ?_
    rintro e w2 ⟨r, hR, p, hP, rfl, hS, hb2⟩
    have HF := Lib.hid (show SS w2 w.heap.size w2.heap.size r hR (mRowsOf xs) by rw [HM.out]; exact hS.r.mono hz1 (Nat.le_refl _))
    have hB2 := hb1.trans (hb2.mono hz1)
    clear hS
    go_wp2
    go_ret2
    exact ⟨_, _, rfl, HF.out, hB2⟩
  | false =>
    have HM := Lib.hid (show mRowsOf xs = [] from if_neg (by rw [hg]; exact Bool.false_ne_true))
    rw [hg] at cg
    clear hg
    go_enter Try.func16, Try.ntmps16
    go_wp2_with fail
    refine (cg).mono ?_
    rintro e w1 ⟨rfl, hb1⟩
    go_wp2
    go_ret2
    exact ⟨_, [], rfl, by rw [HM.out]; exact SS.nil _ _ _, hb1⟩

set_option maxHeartbeats 1600000 in
set_option maxRecDepth 100000 in
theorem sPlacesOfRows_any (v : Value) (xs : List Int) (w : World) (hv : OwnI w v xs) (hn : xs.length ≤ 1048576) :
    Calls Try.prog 18 #[v] w fun e w' => ∃ r hs, e = .returned (.tuple #[r, .bool (goodB xs)]) ∧ SS w' w.heap.size w'.heap.size r hs (mPlacesOfRows xs) ∧ Below w.heap.size w w' := by
  obtain ⟨ad, cap, rfl, hc, _, _⟩ := hv.shape
  have cg := stGood_any _ _ _ hv hn
  cases hg : goodB xs with
  | true =>
    have HM := Lib.hid (show mPlacesOfRows xs = (tabTo xs xs.length).2 from if_pos hg)
    have h9 := (goodB_iff.1 hg).le9
    rw [hg] at cg
    clear hg
    go_enter Try.func18, Try.ntmps18
    go_wp2_with fail
    refine (cg).mono ?_
    rintro e w1 ⟨rfl, hb1⟩
    have HV := Lib.hid (hv.same hb1)
    have hz1 := hb1.size
    clear cg hv
    go_wp2_with fail
    refine (inRows_any _ xs w1 HV.out h9).mono ?_
    rintro e w2 ⟨r, hR, p, hP, rfl, hS, hb2⟩
    have HF := Lib.hid (show SS w2 w.heap.size w2.heap.size p hP (mPlacesOfRows xs) by rw [HM.out]; exact hS.p.mono hz1 (Nat.le_refl _))
    have hB2 := hb1.trans (hb2.mono hz1)
    clear hS
    go_wp2
    go_ret2
    exact ⟨_, _, rfl, HF.out, hB2⟩
  | false =>
    have HM := Lib.hid (show mPlacesOfRows xs = [] from if_neg (by rw [hg]; exact Bool.false_ne_true))
    rw [hg] at cg
    clear hg
    go_enter Try.func18, Try.ntmps18
    go_wp2_with fail
    refine (cg).mono ?_
    rintro e w1 ⟨rfl, hb1⟩
    go_wp2
    go_ret2
    exact ⟨_, [], rfl, by rw [HM.out]; exact SS.nil _ _ _, hb1⟩

end Go.Proofs.Ytfcbaegkppkfkaa
