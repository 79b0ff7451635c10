import Derived.Test.YtlomdnldokbjoaaS3
namespace Go.Proofs.Ytlomdnldokbjoaa
open Go Go.RowKit Go.Pan

theorem sIsSortedStack_any (v : Value) (xs : List Int) (w : World) (hv : OwnI w v xs) (hn : xs.length ≤ 1048576) :
    Calls Try.prog 46 #[v] w fun e w' => e = .returned (.tuple #[.bool (mIsSorted xs), .bool (goodB xs)]) ∧ Below w.heap.size w w' := by
  unfold mIsSorted
  cases hg : goodB xs with
  | true =>
    go_enter Try.func46, Try.ntmps46
    go_wp2_with (first | (go_at_call 121; refine (stGood_any _ _ _ hv hn).mono ?_; rintro e w1 ⟨rfl, hb⟩) | (go_at_call 138; refine (stSorted_any _ _ _ (hv.same hb) hn).mono ?_; rintro e w' ⟨rfl, hb2⟩))
    go_ret2
    exact ⟨rfl, hb.trans (hb2.mono hb.size)⟩
  | false =>
    go_enter Try.func46, Try.ntmps46
    go_wp2_with (first | (go_at_call 121; refine (stGood_any _ _ _ hv hn).mono ?_; rintro e w1 ⟨rfl, hb⟩))
    go_ret2
    exact ⟨rfl, hb⟩

theorem sTurnStack_any (v : Value) (xs : List Int) (k : Int) (w : World) (hv : OwnI w v xs) (hn : xs.length ≤ 1048576) :
    Calls Try.prog 29 #[v, .int .i64 k] w fun e w' => ∃ r, e = .returned (.tuple #[r, .bool (okTurn xs k)]) ∧ OwnI w' r (mTurnStack xs k) ∧ From w.heap.size r ∧ Below w.heap.size w w' := by
  obtain ⟨ad, cap, rfl, hc, _, _⟩ := hv.shape
  cases hg : goodB xs with
  | true =>
    cases hi : inB k 1 xs.length with
    | true =>
      have hk := inB_iff.1 hi
      obtain ⟨n, rfl⟩ : ∃ n : Nat, k = n := ⟨k.toNat, by omega⟩
      have hkl : n ≤ xs.length := by omega
      have HO := Lib.hid (show okTurn xs n = true by unfold okTurn; rw [hg, hi]; rfl)
      have HM := Lib.hid (show mTurnStack xs n = turnL xs n by unfold mTurnStack; rw [if_pos HO.out]; simp)
      go_enter Try.func29, Try.ntmps29
      go_wp2_with (first | (go_at_call 121; refine (stGood_any _ _ _ hv hn).mono ?_; rintro e w1 ⟨rfl, hb⟩) | (go_at_call 128; refine (l1In_any _ _ _ _).mono ?_; rintro e w' ⟨rfl, rfl⟩) | (go_at_call 114; refine (stTurn_any _ _ _ _ (hv.same hb) hn hkl).mono ?_; rintro e w2 ⟨r, rfl, ho, hf, hb2⟩))
      go_ret2
      exact ⟨_, by rw [HO.out]; rfl, by rw [HM.out]; exact ho, hf.mono hb.size, hb.trans (hb2.mono hb.size)⟩
    | false =>
      have HO := Lib.hid (show okTurn xs k = false by unfold okTurn; rw [hg, hi]; rfl)
      have HM := Lib.hid (show mTurnStack xs k = [] by unfold mTurnStack; rw [HO.out]; rfl)
      go_enter Try.func29, Try.ntmps29
      go_wp2_with (first | (go_at_call 121; refine (stGood_any _ _ _ hv hn).mono ?_; rintro e w1 ⟨rfl, hb⟩) | (go_at_call 128; refine (l1In_any _ _ _ _).mono ?_; rintro e w' ⟨rfl, rfl⟩))
      go_ret2
      exact ⟨_, by rw [HO.out]; rfl, by rw [HM.out]; exact OwnI.nil _, From.nil _ _ _, hb⟩
  | false =>
    have HO := Lib.hid (show okTurn xs k = false by unfold okTurn; rw [hg]; rfl)
    have HM := Lib.hid (show mTurnStack xs k = [] by unfold mTurnStack; rw [HO.out]; rfl)
    go_enter Try.func29, Try.ntmps29
    go_wp2_with (first | (go_at_call 121; refine (stGood_any _ _ _ hv hn).mono ?_; rintro e w1 ⟨rfl, hb⟩))
    go_ret2
    exact ⟨_, by rw [HO.out]; rfl, by rw [HM.out]; exact OwnI.nil _, From.nil _ _ _, hb⟩

theorem sPlayPlan_any (v : Value) (xs : List Int) (u : Value) (ys : List Int) (w : World) (hv : OwnI w v xs) (hn : xs.length ≤ 1048576) (hu : OwnI w u ys) (hm : ys.length ≤ 1048576) :
    Calls Try.prog 13 #[v, u] w fun e w' => ∃ r, e = .returned (.tuple #[r, .bool (okPlay xs ys)]) ∧ OwnI w' r (mPlayPlan xs ys) ∧ From w.heap.size r ∧ Below w.heap.size w w' := by
  unfold mPlayPlan
  cases hg : okPlay xs ys with
  | true =>
    have HP := Lib.hid (okPlay_iff.1 hg).2.2.2
    go_enter Try.func13, Try.ntmps13
    go_wp2_with (first | (go_at_call 112; refine (stAsked_any _ _ _ _ _ hv hn hu hm).mono ?_; rintro e w1 ⟨rfl, hb⟩) | (go_at_call 117; refine (stPlay_any _ _ _ _ _ (hv.same hb) hn (hu.same hb) hm HP).mono ?_; rintro e w2 ⟨r, rfl, ho, hf, hb2⟩))
    go_ret2
    exact ⟨_, rfl, ho, hf.mono hb.size, hb.trans (hb2.mono hb.size)⟩
  | false =>
    go_enter Try.func13, Try.ntmps13
    go_wp2_with (first | (go_at_call 112; refine (stAsked_any _ _ _ _ _ hv hn hu hm).mono ?_; rintro e w1 ⟨rfl, hb⟩))
    go_ret2
    exact ⟨_, rfl, OwnI.nil _, From.nil _ _ _, hb⟩

theorem sSortsStack_any (v : Value) (xs : List Int) (u : Value) (ys : List Int) (w : World) (hv : OwnI w v xs) (hn : xs.length ≤ 1048576) (hu : OwnI w u ys) (hm : ys.length ≤ 1048576) :
    Calls Try.prog 32 #[v, u] w fun e w' => e = .returned (.tuple #[.bool (mSorts xs ys), .bool (okPlay xs ys)]) ∧ Below w.heap.size w w' := by
  unfold mSorts
  cases hg : okPlay xs ys with
  | true =>
    have HP := Lib.hid (okPlay_iff.1 hg).2.2.2
    have hl : (playL xs ys).length ≤ 1048576 := by rw [playL_length]; exact hn
    go_enter Try.func32, Try.ntmps32
    go_wp2_with (first | (go_at_call 112; refine (stAsked_any _ _ _ _ _ hv hn hu hm).mono ?_; rintro e w1 ⟨rfl, hb⟩) | (go_at_call 117; refine (stPlay_any _ _ _ _ _ (hv.same hb) hn (hu.same hb) hm HP).mono ?_; rintro e w2 ⟨r, rfl, ho, hf, hb2⟩) | (go_at_call 138; refine (stSorted_any _ _ _ ho hl).mono ?_; rintro e w3 ⟨rfl, hb3⟩))
    go_ret2
    exact ⟨rfl, (hb.trans (hb2.mono hb.size)).trans (hb3.mono (Nat.le_trans hb.size hb2.size))⟩
  | false =>
    go_enter Try.func32, Try.ntmps32
    go_wp2_with (first | (go_at_call 112; refine (stAsked_any _ _ _ _ _ hv hn hu hm).mono ?_; rintro e w1 ⟨rfl, hb⟩))
    go_ret2
    exact ⟨rfl, hb⟩

theorem sPlaceIn_any (v : Value) (xs : List Int) (x : Int) (w : World) (hv : OwnI w v xs) (hn : xs.length ≤ 1048576) :
    Calls Try.prog 57 #[v, .int .i64 x] w fun e w' => e = .returned (.tuple #[.int .i64 (mPlaceIn xs x), .bool (okPlace xs x)]) ∧ Below w.heap.size w w' := by
  obtain ⟨ad, cap, rfl, hc, _, _⟩ := hv.shape
  cases hg : goodB xs with
  | true =>
    cases hi : inB x 1 xs.length with
    | true =>
      have HO := Lib.hid (show okPlace xs x = true by unfold okPlace; rw [hg, hi]; rfl)
      have HM := Lib.hid (show mPlaceIn xs x = placeL xs x by unfold mPlaceIn; rw [if_pos HO.out])
      go_enter Try.func57, Try.ntmps57
      go_wp2_with (first | (go_at_call 121; refine (stGood_any _ _ _ hv hn).mono ?_; rintro e w1 ⟨rfl, hb⟩) | (go_at_call 128; refine (l1In_any _ _ _ _).mono ?_; rintro e w' ⟨rfl, rfl⟩) | (go_at_call 148; refine (stPlace_any _ _ _ _ (hv.same hb) hn).mono ?_; rintro e w2 ⟨rfl, hb2⟩))
      go_ret2
      exact ⟨by rw [HM.out, HO.out]; rfl, hb.trans (hb2.mono hb.size)⟩
    | false =>
      have HO := Lib.hid (show okPlace xs x = false by unfold okPlace; rw [hg, hi]; rfl)
      have HM := Lib.hid (show mPlaceIn xs x = 0 by unfold mPlaceIn; rw [HO.out]; rfl)
      go_enter Try.func57, Try.ntmps57
      go_wp2_with (first | (go_at_call 121; refine (stGood_any _ _ _ hv hn).mono ?_; rintro e w1 ⟨rfl, hb⟩) | (go_at_call 128; refine (l1In_any _ _ _ _).mono ?_; rintro e w' ⟨rfl, rfl⟩))
      go_ret2
      exact ⟨by rw [HM.out, HO.out]; rfl, hb⟩
  | false =>
    have HO := Lib.hid (show okPlace xs x = false by unfold okPlace; rw [hg]; rfl)
    have HM := Lib.hid (show mPlaceIn xs x = 0 by unfold mPlaceIn; rw [HO.out]; rfl)
    go_enter Try.func57, Try.ntmps57
    go_wp2_with (first | (go_at_call 121; refine (stGood_any _ _ _ hv hn).mono ?_; rintro e w1 ⟨rfl, hb⟩))
    go_ret2
    exact ⟨by rw [HM.out, HO.out]; rfl, hb⟩

theorem sTopTo_any (v : Value) (xs : List Int) (k : Int) (w : World) (hv : OwnI w v xs) (hn : xs.length ≤ 1048576) :
    Calls Try.prog 56 #[v, .int .i64 k] w fun e w' => ∃ r, e = .returned (.tuple #[r, .bool (okTurn xs k)]) ∧ OwnI w' r (mTopTo xs k) ∧ From w.heap.size r ∧ Below w.heap.size w w' := by
  obtain ⟨ad, cap, rfl, hc, _, _⟩ := hv.shape
  cases hg : goodB xs with
  | true =>
    cases hi : inB k 1 xs.length with
    | true =>
      have HO := Lib.hid (show okTurn xs k = true by unfold okTurn; rw [hg, hi]; rfl)
      by_cases h1 : k = 1
      · have hq : (k == 1) = true := by simp [h1]
        have HM := Lib.hid (show mTopTo xs k = [] by unfold mTopTo; rw [if_pos HO.out, h1]; rfl)
        have H1 := Lib.hid h1
        clear h1
        go_enter Try.func56, Try.ntmps56
        go_wp2_with (first | (go_at_call 121; refine (stGood_any _ _ _ hv hn).mono ?_; rintro e w1 ⟨rfl, hb⟩) | (go_at_call 128; refine (l1In_any _ _ _ _).mono ?_; rintro e w' ⟨rfl, rfl⟩))
        go_ret2
        exact ⟨_, by rw [HO.out]; rfl, by rw [HM.out]; exact OwnI.nil _, From.nil _ _ _, hb⟩
      · have hq : (k == 1) = false := by simp [h1]
        have HM := Lib.hid (show mTopTo xs k = [k] by unfold mTopTo noOne; rw [if_pos HO.out]; simp [h1])
        have H1 := Lib.hid h1
        clear h1
        go_enter Try.func56, Try.ntmps56
        go_wp2_with (first | (go_at_call 121; refine (stGood_any _ _ _ hv hn).mono ?_; rintro e w1 ⟨rfl, hb⟩) | (go_at_call 128; refine (l1In_any _ _ _ _).mono ?_; rintro e w' ⟨rfl, rfl⟩))
        go_ret2
        exact ⟨_, by rw [HO.out]; rfl, by rw [HM.out]; exact OwnI.lit _ _ [k] 1 rfl (by omega) _ rfl, From.at _ _ _ _ _ hb.size, hb.alloc hb.size _⟩
    | false =>
      have HO := Lib.hid (show okTurn xs k = false by unfold okTurn; rw [hg, hi]; rfl)
      have HM := Lib.hid (show mTopTo xs k = [] by unfold mTopTo; rw [HO.out]; rfl)
      go_enter Try.func56, Try.ntmps56
      go_wp2_with (first | (go_at_call 121; refine (stGood_any _ _ _ hv hn).mono ?_; rintro e w1 ⟨rfl, hb⟩) | (go_at_call 128; refine (l1In_any _ _ _ _).mono ?_; rintro e w' ⟨rfl, rfl⟩))
      go_ret2
      exact ⟨_, by rw [HO.out]; rfl, by rw [HM.out]; exact OwnI.nil _, From.nil _ _ _, hb⟩
  | false =>
    have HO := Lib.hid (show okTurn xs k = false by unfold okTurn; rw [hg]; rfl)
    have HM := Lib.hid (show mTopTo xs k = [] by unfold mTopTo; rw [HO.out]; rfl)
    go_enter Try.func56, Try.ntmps56
    go_wp2_with (first | (go_at_call 121; refine (stGood_any _ _ _ hv hn).mono ?_; rintro e w1 ⟨rfl, hb⟩))
    go_ret2
    exact ⟨_, by rw [HO.out]; rfl, by rw [HM.out]; exact OwnI.nil _, From.nil _ _ _, hb⟩

theorem sThenStack_any (v : Value) (xs : List Int) (u : Value) (ys : List Int) (w : World) (hv : OwnI w v xs) (hn : xs.length ≤ 1048576) (hu : OwnI w u ys) (hm : ys.length ≤ 1048576) :
    Calls Try.prog 50 #[v, u] w fun e w' => ∃ r, e = .returned (.tuple #[r, .bool (okThen xs ys)]) ∧ OwnI w' r (mThenStack xs ys) ∧ From w.heap.size r ∧ Below w.heap.size w w' := by
  obtain ⟨ad, cap, rfl, hc, _, _⟩ := hv.shape
  obtain ⟨bd, cbp, rfl, hc', _, _⟩ := hu.shape
  cases hg : goodB xs with
  | true =>
    cases hi : goodB ys with
    | true =>
      by_cases hl : xs.length = ys.length
      · have HO := Lib.hid (show okThen xs ys = true by unfold okThen; rw [hg, hi]; simp [hl])
        have HM := Lib.hid (show mThenStack xs ys = thenL xs ys by unfold mThenStack; rw [if_pos HO.out])
        have hgy := goodB_iff.1 hi
        have HP := Lib.hid (show ∀ k ∈ ys, 1 ≤ k ∧ k ≤ (xs.length : Int) by rw [hl]; exact hgy.2.2.1)
        have h9 := hgy.le9
        have hq : ((xs.length : Int) != (ys.length : Int)) = false := by simp [hl]
        clear hl hgy
        go_enter Try.func50, Try.ntmps50
        go_wp2_with fail
        refine (stGood_any _ xs _ hv hn).mono ?_
        rintro e w1 ⟨rfl, hb⟩
        go_wp2_with fail
        refine (stGood_any _ ys _ (hu.same hb) hm).mono ?_
        rintro e w2 ⟨rfl, hb2⟩
        go_wp2_with fail
        refine (stThen_any _ _ _ _ _ ((hv.same hb).same hb2) hn ((hu.same hb).same hb2) (by omega) HP).mono ?_
        rintro e w3 ⟨r, rfl, ho, hf, hb3⟩
        go_wp2
        go_ret2
        exact ⟨_, by rw [HO.out]; rfl, by rw [HM.out]; exact ho, hf.mono (Nat.le_trans hb.size hb2.size), (hb.trans (hb2.mono hb.size)).trans (hb3.mono (Nat.le_trans hb.size hb2.size))⟩
      · have HO := Lib.hid (show okThen xs ys = false by unfold okThen; rw [decide_eq_false hl, Bool.and_false])
        have HM := Lib.hid (show mThenStack xs ys = [] from if_neg (by rw [HO.out]; exact Bool.false_ne_true))
        have hq : ((xs.length : Int) != (ys.length : Int)) = true := by simp; omega
        have HL := Lib.hid hl
        clear hl
        go_enter Try.func50, Try.ntmps50
        go_wp2_with fail
        refine (stGood_any _ xs _ hv hn).mono ?_
        rintro e w1 ⟨rfl, hb⟩
        go_wp2_with fail
        refine (stGood_any _ ys _ (hu.same hb) hm).mono ?_
        rintro e w2 ⟨rfl, hb2⟩
        go_wp2
        go_ret2
        exact ⟨_, by rw [HO.out]; rfl, by rw [HM.out]; exact OwnI.nil _, From.nil _ _ _, hb.trans (hb2.mono hb.size)⟩
    | false =>
      have HO := Lib.hid (show okThen xs ys = false by unfold okThen; rw [hg, hi]; rfl)
      have HM := Lib.hid (show mThenStack xs ys = [] from if_neg (by rw [HO.out]; exact Bool.false_ne_true))
      go_enter Try.func50, Try.ntmps50
      go_wp2_with fail
      refine (stGood_any _ xs _ hv hn).mono ?_
      rintro e w1 ⟨rfl, hb⟩
      go_wp2_with fail
      refine (stGood_any _ ys _ (hu.same hb) hm).mono ?_
      rintro e w2 ⟨rfl, hb2⟩
      go_wp2
      go_ret2
      exact ⟨_, by rw [HO.out]; rfl, by rw [HM.out]; exact OwnI.nil _, From.nil _ _ _, hb.trans (hb2.mono hb.size)⟩
  | false =>
    have HO := Lib.hid (show okThen xs ys = false by unfold okThen; rw [hg]; rfl)
    have HM := Lib.hid (show mThenStack xs ys = [] from if_neg (by rw [HO.out]; exact Bool.false_ne_true))
    go_enter Try.func50, Try.ntmps50
    go_wp2_with fail
    refine (stGood_any _ xs _ hv hn).mono ?_
    rintro e w1 ⟨rfl, hb⟩
    go_wp2
    go_ret2
    exact ⟨_, by rw [HO.out]; rfl, by rw [HM.out]; exact OwnI.nil _, From.nil _ _ _, hb⟩

theorem sBackStack_any (v : Value) (xs : List Int) (w : World) (hv : OwnI w v xs) (hn : xs.length ≤ 1048576) :
    Calls Try.prog 40 #[v] w fun e w' => ∃ r, e = .returned (.tuple #[r, .bool (goodB xs)]) ∧ OwnI w' r (mBackStack xs) ∧ From w.heap.size r ∧ Below w.heap.size w w' := by
  unfold mBackStack
  cases hg : goodB xs with
  | true =>
    go_enter Try.func40, Try.ntmps40
    go_wp2_with (first | (go_at_call 121; refine (stGood_any _ _ _ hv hn).mono ?_; rintro e w1 ⟨rfl, hb⟩) | (go_at_call 136; refine (stReverse_any _ _ _ (hv.same hb) hn).mono ?_; rintro e w2 ⟨r, rfl, ho, hf, hb2⟩))
    go_ret2
    exact ⟨_, rfl, ho, hf.mono hb.size, hb.trans (hb2.mono hb.size)⟩
  | false =>
    go_enter Try.func40, Try.ntmps40
    go_wp2_with (first | (go_at_call 121; refine (stGood_any _ _ _ hv hn).mono ?_; rintro e w1 ⟨rfl, hb⟩))
    go_ret2
    exact ⟨_, rfl, OwnI.nil _, From.nil _ _ _, hb⟩

end Go.Proofs.Ytlomdnldokbjoaa

