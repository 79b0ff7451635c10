import Derived.Test.YtlhagdldmpnbfaaI3
namespace Go.Proofs.Ytlhagdldmpnbfaa
open Go Go.RowKit Go.Pan

theorem tower_eq (xs ys : List Int) (hx : xs.length ≤ 9) (hl : xs.length = ys.length) : ∀ W, (Op.equalIn 10000 43 (tw xs) (tw ys)).run Try.prog W = .ok (decide (xs = ys)) W := fun W => by
  obtain ⟨i0, hi, _⟩ := info_parts Try.info3
  have h := run_equalIn_ints W 9998 (xs ++ List.replicate (9 - xs.length) 0) (ys ++ List.replicate (9 - ys.length) 0) Try.underlying43 hi Try.underlying3 (by kernel_rfl) (by simp; omega) (by simp; omega)
  rw [show decide (xs = ys) = decide (xs ++ List.replicate (9 - xs.length) (0 : Int) = ys ++ List.replicate (9 - ys.length) 0) from by rw [decide_eq_decide]; exact (twl_inj hl).symm]
  exact h

theorem planB_nil {n : Int} : planB n [] = inB n 1 9 := by
  rw [Bool.eq_iff_iff, planB_iff, inB_iff]
  simp [Plan]
theorem okPlay_nil (xs : List Int) : okPlay xs [] = goodB xs := by
  unfold okPlay
  rw [planB_nil]
  cases h : goodB xs with
  | true =>
    have hg := goodB_iff.1 h
    rw [inB_true ⟨by have := hg.1; omega, by have := hg.2.1; omega⟩]
    rfl
  | false => rfl

theorem PlaceIn_any (v : Value) (xs : List Int) (x : Int) (w : World) (hv : OwnI w v xs) (hn : xs.length ≤ 1048576) :
    Calls Try.prog 136 #[v, .int .i64 x] w fun e w' => e = .returned (.tuple #[.int .i64 (mPlaceIn xs x), .bool (okPlace xs x)]) ∧ Below w.heap.size w w' := by
  cases hg : goodB xs with
  | true =>
    have hgd := goodB_iff.1 hg
    by_cases hi : x ∈ xs
    · have HO := Lib.hid (show okPlace xs x = true by unfold okPlace; rw [hg, inB_true ((mem_iff_in hgd).1 hi)]; rfl)
      have HM := Lib.hid (show mPlaceIn xs x = placeL xs x from if_pos HO.out)
      have hbd := placeL_bd hi
      have h1 : 0 < placeL xs x := by omega
      have h2 : placeL xs x ≤ 1048576 := by omega
      have hbd1 := hbd.1
      clear hgd hi hbd
      go_enter Try.func136, Try.ntmps136
      go_wp2_with fail
      refine (IsStack_any _ _ _ hv hn).mono ?_
      rintro e w1 ⟨rfl, hb⟩
      go_wp2_with fail
      refine (Index_any _ _ _ _ (hv.same hb) hn).mono ?_
      rintro e w2 ⟨rfl, hb2⟩
      go_wp2
      go_ret2
      exact ⟨by rw [HM.out, HO.out, ← Int.sub_add_cancel (placeL xs x) 1]; rfl, hb.trans (hb2.mono hb.size)⟩
    · have HO := Lib.hid (show okPlace xs x = false by unfold okPlace; rw [hg, inB_false (fun h => hi ((mem_iff_in hgd).2 h))]; rfl)
      have HM := Lib.hid (show mPlaceIn xs x = 0 from if_neg (by rw [HO.out]; exact Bool.false_ne_true))
      have hp : placeL xs x = 0 := by unfold placeL; rw [if_neg hi]
      have HI := Lib.hid hi
      clear hgd hi
      have c := Index_any v xs x
      rw [hp] at c
      clear hp
      go_enter Try.func136, Try.ntmps136
      go_wp2_with fail
      refine (IsStack_any _ _ _ hv hn).mono ?_
      rintro e w1 ⟨rfl, hb⟩
      go_wp2_with fail
      refine (c _ (hv.same hb) hn).mono ?_
      rintro e w2 ⟨rfl, hb2⟩
      go_wp2
      go_ret2
      exact ⟨by rw [HM.out, HO.out]; rfl, hb.trans (hb2.mono hb.size)⟩
  | false =>
    have HO := Lib.hid (show okPlace xs x = false by unfold okPlace; rw [hg]; rfl)
    have HM := Lib.hid (show mPlaceIn xs x = 0 from if_neg (by rw [HO.out]; exact Bool.false_ne_true))
    go_enter Try.func136, Try.ntmps136
    go_wp2_with fail
    refine (IsStack_any _ _ _ hv hn).mono ?_
    rintro e w1 ⟨rfl, hb⟩
    go_wp2
    go_ret2
    exact ⟨by rw [HM.out, HO.out]; rfl, hb⟩

end Go.Proofs.Ytlhagdldmpnbfaa

