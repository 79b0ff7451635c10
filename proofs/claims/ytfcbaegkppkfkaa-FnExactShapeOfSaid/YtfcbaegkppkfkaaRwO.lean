import Derived.Test.YtfcbaegkppkfkaaRwK
import Derived.Test.YtfcbaegkppkfkaaRwH
import Derived.Test.YtfcbaegkppkfkaaRwR
namespace Go.Proofs.Ytfcbaegkppkfkaa
open Go Go.RowKit Go.Pan

set_option maxRecDepth 100000 in
theorem RowsOf_any (v : Value) (xs : List Int) (w : World) (hv : OwnI w v xs) (hn : xs.length ≤ 1048576) :
    Calls Try.prog 17 #[v] w fun e w' => ∃ r hs, e = .returned (.tuple #[r, .bool (goodB xs)]) ∧ SS w' w.heap.size w'.heap.size r hs (mRowsOf xs) ∧ Below w.heap.size w w' := by
  have c := tablesOf_any v xs w hv hn
  obtain ⟨g, hg⟩ : ∃ g, goodB xs = g := ⟨_, rfl⟩
  rw [hg] at c ⊢
  clear hg
  go_enter Try.func17, Try.ntmps17
  go_wp2_with fail
  refine c.mono ?_
  rintro e w1 ⟨r, hs, p, hp, rfl, hS, hP, hb⟩
  clear c
  go_wp2
  go_ret2
  exact ⟨_, _, rfl, hS.out, hb⟩

set_option maxRecDepth 100000 in
theorem PlacesOfRows_any (v : Value) (xs : List Int) (w : World) (hv : OwnI w v xs) (hn : xs.length ≤ 1048576) :
    Calls Try.prog 19 #[v] w fun e w' => ∃ r hs, e = .returned (.tuple #[r, .bool (goodB xs)]) ∧ SS w' w.heap.size w'.heap.size r hs (mPlacesOfRows xs) ∧ Below w.heap.size w w' := by
  have c := tablesOf_any v xs w hv hn
  obtain ⟨g, hg⟩ : ∃ g, goodB xs = g := ⟨_, rfl⟩
  rw [hg] at c ⊢
  clear hg
  go_enter Try.func19, Try.ntmps19
  go_wp2_with fail
  refine c.mono ?_
  rintro e w1 ⟨r, hs, p, hp, rfl, hS, hP, hb⟩
  clear c
  go_wp2
  go_ret2
  exact ⟨_, _, rfl, hP.out, hb⟩

set_option maxRecDepth 100000 in
theorem ShapeOf_any (v : Value) (xs : List Int) (w : World) (hv : OwnI w v xs) (hn : xs.length ≤ 1048576) :
    Calls Try.prog 21 #[v] w fun e w' => ∃ r, e = .returned (.tuple #[r, .bool (goodB xs)]) ∧ OwnI w' r (mShapeOf xs) ∧ From w.heap.size r ∧ Below w.heap.size w w' := by
  have c := RowsOf_any v xs w hv hn
  have HL := Lib.hid (lensL_mShapeOf xs)
  have hml : (mRowsOf xs).length ≤ 1048576 := by have := len_mRowsOf xs; omega
  obtain ⟨g, hg⟩ : ∃ g, goodB xs = g := ⟨_, rfl⟩
  rw [hg] at c ⊢
  clear hg
  go_enter Try.func21, Try.ntmps21
  go_wp2_with fail
  refine c.mono ?_
  rintro e w1 ⟨r, hs, rfl, hS, hb⟩
  clear c
  go_wp2_with fail
  refine (lengthsOf_any _ _ _ _ _ _ hS (Nat.le_refl _) hml).mono ?_
  rintro e w2 ⟨r2, rfl, ho2, hf2, hb2⟩
  have HO := Lib.hid (show OwnI w2 r2 (mShapeOf xs) by rw [← HL.out]; exact ho2)
  have HF := Lib.hid (From.mono hf2 hb.size)
  have hB2 := hb.trans (hb2.mono hb.size)
  clear ho2 hf2 hb2 hS hb
  go_wp2
  go_ret2
  exact ⟨_, rfl, HO.out, HF.out, hB2⟩

end Go.Proofs.Ytfcbaegkppkfkaa
