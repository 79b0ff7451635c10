import Derived.Test.YtlhagdldmpnbfaaI4
import Derived.Test.YtlhagdldmpnbfaaS6
namespace Go.Proofs.Ytlhagdldmpnbfaa
open Go Go.RowKit Go.Pan

theorem BringTo_any (v : Value) (xs : List Int) (x k : Int) (w : World) (hv : OwnI w v xs) (hn : xs.length ≤ 1048576) :
    Calls Try.prog 126 #[v, .int .i64 x, .int .i64 k] w fun e w' => ∃ r, e = .returned (.tuple #[r, .bool (okBring xs x k)]) ∧ OwnI w' r (mBringTo xs x k) ∧ From w.heap.size r ∧ Below w.heap.size w w' := by
  obtain ⟨ad, cap, rfl, hc, _, _⟩ := hv.shape
  cases hp : okPlace xs x with
  | true =>
    cases hj : inB k 1 xs.length with
    | true =>
      have HO := Lib.hid (show okBring xs x k = true by unfold okBring; rw [hp, hj]; rfl)
      have HM := Lib.hid (show mBringTo xs x k = bringL xs x k from if_pos HO.out)
      obtain ⟨p, he⟩ : ∃ p, p = placeL xs x := ⟨_, rfl⟩
      have c := PlaceIn_any (.slice ad xs.length cap) xs x
      rw [show mPlaceIn xs x = p by rw [he]; exact if_pos hp, hp] at c
      have HB := Lib.hid (show bringL xs x k = if p = k then [] else noOne [p, k] by unfold bringL; rw [← he])
      clear he
      by_cases h1 : p = k
      · have hq : (p == k) = true := by simp [h1]
        have H := Lib.hid (show mBringTo xs x k = noOne [] by rw [HM.out, HB.out, if_pos h1]; rfl)
        clear h1 HB
        go_enter Try.func126, Try.ntmps126
        go_wp2_with fail
        refine (c _ hv hn).mono ?_
        rintro e w1 ⟨rfl, hb⟩
        go_wp2_with fail
        refine (isPlace_any _ _ _ _ _).mono ?_
        rintro e w1' ⟨rfl, rfl⟩
        go_wp2_with fail
        refine (planOf_any _ [] _ (OwnI.nil _) (by simp)).mono ?_
        rintro e w3 ⟨r, rfl, ho, hf, hb3⟩
        go_wp2
        go_ret2
        exact ⟨_, by rw [HO.out]; rfl, by rw [H.out]; exact ho, hf.mono hb.size, hb.trans (hb3.mono hb.size)⟩
      · have hq : (p == k) = false := by simp [h1]
        have H := Lib.hid (show mBringTo xs x k = noOne [p, k] by rw [HM.out, HB.out, if_neg h1])
        clear h1 HB
        go_enter Try.func126, Try.ntmps126
        go_wp2_with fail
        refine (c _ hv hn).mono ?_
        rintro e w1 ⟨rfl, hb⟩
        go_wp2_with fail
        refine (isPlace_any _ _ _ _ _).mono ?_
        rintro e w1' ⟨rfl, rfl⟩
        go_wp2_with fail
        refine (planOf_any _ [p, k] _ (OwnI.lit _ _ [p, k] 2 rfl (by omega) _ rfl) (by simp)).mono ?_
        rintro e w3 ⟨r, rfl, ho, hf, hb3⟩
        have hb1 := hb.alloc hb.size (.cells #[.int .i64 p, .int .i64 k] 3)
        go_wp2
        go_ret2
        exact ⟨_, by rw [HO.out]; rfl, by rw [H.out]; exact ho, hf.mono hb1.size, hb1.trans (hb3.mono hb1.size)⟩
    | false =>
      have HO := Lib.hid (show okBring xs x k = false by unfold okBring; rw [hp, hj]; rfl)
      have HM := Lib.hid (show mBringTo xs x k = [] from if_neg (by rw [HO.out]; exact Bool.false_ne_true))
      have c := PlaceIn_any (.slice ad xs.length cap) xs x
      rw [hp] at c
      go_enter Try.func126, Try.ntmps126
      go_wp2_with fail
      refine (c _ hv hn).mono ?_
      rintro e w1 ⟨rfl, hb⟩
      go_wp2_with fail
      refine (isPlace_any _ _ _ _ _).mono ?_
      rintro e w1' ⟨rfl, rfl⟩
      go_wp2
      go_ret2
      exact ⟨_, by rw [HO.out]; rfl, by rw [HM.out]; exact OwnI.nil _, From.nil _ _ _, hb⟩
  | false =>
    have HO := Lib.hid (show okBring xs x k = false by unfold okBring; rw [hp]; rfl)
    have HM := Lib.hid (show mBringTo xs x k = [] from if_neg (by rw [HO.out]; exact Bool.false_ne_true))
    have c := PlaceIn_any (.slice ad xs.length cap) xs x
    rw [hp] at c
    go_enter Try.func126, Try.ntmps126
    go_wp2_with fail
    refine (c _ hv hn).mono ?_
    rintro e w1 ⟨rfl, hb⟩
    go_wp2
    go_ret2
    exact ⟨_, by rw [HO.out]; rfl, by rw [HM.out]; exact OwnI.nil _, From.nil _ _ _, hb⟩

end Go.Proofs.Ytlhagdldmpnbfaa

