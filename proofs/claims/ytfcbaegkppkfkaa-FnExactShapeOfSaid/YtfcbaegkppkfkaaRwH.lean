import Derived.Test.YtfcbaegkppkfkaaRwR
import Derived.Test.YtfcbaegkppkfkaaMb
namespace Go.Proofs.Ytfcbaegkppkfkaa
open Go Go.RowKit Go.Pan

theorem lensL_mShapeOf (xs : List Int) : lensL (mRowsOf xs) = mShapeOf xs := by
  unfold mRowsOf mShapeOf
  split <;> rfl
set_option maxHeartbeats 1600000 in
set_option maxRecDepth 100000 in
theorem sShapeOf_any (v : Value) (xs : List Int) (w : World) (hv : OwnI w v xs) (hn : xs.length ≤ 1048576) :
    Calls Try.prog 20 #[v] w fun e w' => ∃ r, e = .returned (.tuple #[r, .bool (goodB xs)]) ∧ OwnI w' r (mShapeOf xs) ∧ From w.heap.size r ∧ Below w.heap.size w w' := by
  obtain ⟨ad, cap, rfl, hc, _, _⟩ := hv.shape
  have cg := stGood_any _ _ _ hv hn
  cases hg : goodB xs with
  | true =>
    have HM := Lib.hid (show mRowsOf xs = (tabTo xs xs.length).1 from if_pos hg)
    have h9 := (goodB_iff.1 hg).le9
    rw [hg] at cg
    clear hg
    go_enter Try.func20, Try.ntmps20
    go_wp2_with fail
    refine (cg).mono ?_
    rintro e w1 ⟨rfl, hb1⟩
    have HV := Lib.hid (hv.same hb1)
    have hz1 := hb1.size
    clear cg hv
    go_wp2_with fail
    refine (inRows_any _ xs w1 HV.out h9).mono ?_
    rintro e w2 ⟨r, hR, p, hP, rfl, hS, hb2⟩
    have HS2 := Lib.hid hS
    have hB2 := hb1.trans (hb2.mono hz1)
    have hz2 := hB2.size
    clear hS hb2
    go_wp2_with fail
    refine (inShape_any r _ _ hR _ w2 HS2.out.r (Nat.le_refl _) (by rw [← HM.out]; exact len_mRowsOf xs)).mono ?_
    rintro e w3 ⟨r3, rfl, ho3, hf3, hb3⟩
    have HO := Lib.hid (show OwnI w3 r3 (mShapeOf xs) by rw [← lensL_mShapeOf, HM.out]; exact ho3)
    have HF := Lib.hid (From.mono hf3 hz2)
    have hB3 := hB2.trans (hb3.mono hz2)
    clear ho3 hf3 hb3
    go_wp2
    go_ret2
    exact ⟨_, rfl, HO.out, HF.out, hB3⟩
  | false =>
    have HM := Lib.hid (show mShapeOf xs = [] from if_neg (by rw [hg]; exact Bool.false_ne_true))
    rw [hg] at cg
    clear hg
    go_enter Try.func20, Try.ntmps20
    go_wp2_with fail
    refine (cg).mono ?_
    rintro e w1 ⟨rfl, hb1⟩
    go_wp2
    go_ret2
    exact ⟨_, rfl, by rw [HM.out]; exact OwnI.nil _, fun g hg => by simp [Value.ownBlock] at hg, hb1⟩

end Go.Proofs.Ytfcbaegkppkfkaa
