import Derived.Test.YtdkidfilnbglgaaI3
namespace Go.Proofs.Ytdkidfilnbglgaa
open Go Go.RowKit Go.Pan

theorem tower_eq (xs ys : List Int) (hx : xs.length ≤ 9) (hl : xs.length = ys.length) : ∀ W, (Op.equalIn 10000 69 (tw xs) (tw ys)).run Try.prog W = .ok (decide (xs = ys)) W := fun W => by
  obtain ⟨i0, hi, _⟩ := info_parts Try.info3
  have h := run_equalIn_ints W 9998 (xs ++ List.replicate (9 - xs.length) 0) (ys ++ List.replicate (9 - ys.length) 0) Try.underlying69 hi Try.underlying3 (by kernel_rfl) (by simp; omega) (by simp; omega)
  rw [show decide (xs = ys) = decide (xs ++ List.replicate (9 - xs.length) (0 : Int) = ys ++ List.replicate (9 - ys.length) 0) from by rw [decide_eq_decide]; exact (twl_inj hl).symm]
  exact h

theorem planB_nil {n : Int} : planB n [] = inB n 1 9 := by
  rw [Bool.eq_iff_iff, planB_iff, inB_iff]
  simp [Plan]
theorem okPlay_nil (xs : List Int) : okPlay xs [] = goodB xs := by
  unfold okPlay
  rw [planB_nil]
  cases h : goodB xs with
  | true =>
    have hg := goodB_iff.1 h
    rw [inB_true ⟨by have := hg.1; omega, by have := hg.2.1; omega⟩]
    rfl
  | false => rfl

theorem TurnStack_any (v : Value) (xs : List Int) (k : Int) (w : World) (hv : OwnI w v xs) (hn : xs.length ≤ 1048576) :
    Calls Try.prog 155 #[v, .int .i64 k] w fun e w' => ∃ r, e = .returned (.tuple #[r, .bool (okTurn xs k)]) ∧ OwnI w' r (mTurnStack xs k) ∧ From w.heap.size r ∧ Below w.heap.size w w' := by
  obtain ⟨ad, cap, rfl, hc, _, _⟩ := hv.shape
  cases hg : goodB xs with
  | true =>
    cases hi : inB k 1 xs.length with
    | true =>
      have hk := inB_iff.1 hi
      obtain ⟨n, rfl⟩ : ∃ n : Nat, k = n := ⟨k.toNat, by omega⟩
      have hkl : n ≤ xs.length := by omega
      have h9 := (goodB_iff.1 hg).le9
      have HO := Lib.hid (show okTurn xs n = true by unfold okTurn; rw [hg, hi]; rfl)
      have HM := Lib.hid (show mTurnStack xs n = turnL xs n by unfold mTurnStack; rw [if_pos HO.out]; simp)
      go_enter Try.func155, Try.ntmps155
      go_wp2_with fail
      refine (IsStack_any _ _ _ hv hn).mono ?_
      rintro e w1 ⟨rfl, hb⟩
      go_wp2_with fail
      refine (isPlace_any _ _ _ _ _).mono ?_
      rintro e w1' ⟨rfl, rfl⟩
      go_wp2_with fail
      refine (towerOf_any _ _ _ (hv.same hb) h9).mono ?_
      rintro e w2 ⟨rfl, hb2⟩
      go_wp2_with fail
      refine (turned_any _ _ _ h9 hkl).mono ?_
      rintro e w3 ⟨rfl, hb3⟩
      go_wp2_with fail
      refine (list_any _ _ _ (turnL_length _ _) h9).mono ?_
      rintro e w4 ⟨r, rfl, ho, hf, hb4⟩
      go_wp2
      go_ret2
      have hb12 := hb.trans (hb2.mono hb.size)
      have hb13 := hb12.trans (hb3.mono hb12.size)
      exact ⟨_, by rw [HO.out]; rfl, by rw [HM.out]; exact ho, hf.mono hb13.size, hb13.trans (hb4.mono hb13.size)⟩
    | false =>
      have HO := Lib.hid (show okTurn xs k = false by unfold okTurn; rw [hg, hi]; rfl)
      have HM := Lib.hid (show mTurnStack xs k = [] from if_neg (by rw [HO.out]; exact Bool.false_ne_true))
      go_enter Try.func155, Try.ntmps155
      go_wp2_with fail
      refine (IsStack_any _ _ _ hv hn).mono ?_
      rintro e w1 ⟨rfl, hb⟩
      go_wp2_with fail
      refine (isPlace_any _ _ _ _ _).mono ?_
      rintro e w1' ⟨rfl, rfl⟩
      go_wp2
      go_ret2
      exact ⟨_, by rw [HO.out]; rfl, by rw [HM.out]; exact OwnI.nil _, From.nil _ _ _, hb⟩
  | false =>
    have HO := Lib.hid (show okTurn xs k = false by unfold okTurn; rw [hg]; rfl)
    have HM := Lib.hid (show mTurnStack xs k = [] from if_neg (by rw [HO.out]; exact Bool.false_ne_true))
    go_enter Try.func155, Try.ntmps155
    go_wp2_with fail
    refine (IsStack_any _ _ _ hv hn).mono ?_
    rintro e w1 ⟨rfl, hb⟩
    go_wp2
    go_ret2
    exact ⟨_, by rw [HO.out]; rfl, by rw [HM.out]; exact OwnI.nil _, From.nil _ _ _, hb⟩

theorem BackStack_any (v : Value) (xs : List Int) (w : World) (hv : OwnI w v xs) (hn : xs.length ≤ 1048576) :
    Calls Try.prog 96 #[v] w fun e w' => ∃ r, e = .returned (.tuple #[r, .bool (goodB xs)]) ∧ OwnI w' r (mBackStack xs) ∧ From w.heap.size r ∧ Below w.heap.size w w' := by
  have HO := Lib.hid (show okTurn xs xs.length = goodB xs by
    unfold okTurn
    cases h : goodB xs with
    | true => rw [inB_true ⟨by have := (goodB_iff.1 h).1; omega, Int.le_refl _⟩]; rfl
    | false => rfl)
  have HM := Lib.hid (show mTurnStack xs xs.length = mBackStack xs by
    unfold mTurnStack mBackStack
    rw [HO.out, Int.toNat_natCast, turnL_all])
  obtain ⟨ad, cap, rfl, hc, _, _⟩ := hv.shape
  go_enter Try.func96, Try.ntmps96
  go_wp2_with fail
  refine (TurnStack_any _ xs _ _ hv hn).mono ?_
  rintro e w1 ⟨r, rfl, ho, hf, hb⟩
  rw [HM.out] at ho
  rw [HO.out]
  go_wp2
  go_ret2
  exact ⟨_, rfl, ho, hf, hb⟩

end Go.Proofs.Ytdkidfilnbglgaa
