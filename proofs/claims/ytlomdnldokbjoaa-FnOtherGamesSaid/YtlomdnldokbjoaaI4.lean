import Derived.Test.YtlomdnldokbjoaaI3
namespace Go.Proofs.Ytlomdnldokbjoaa
open Go Go.RowKit Go.Pan

theorem tower_eq (xs ys : List Int) (hx : xs.length ≤ 9) (hl : xs.length = ys.length) : ∀ W, (Op.equalIn 10000 74 (tw xs) (tw ys)).run Try.prog W = .ok (decide (xs = ys)) W := fun W => by
  obtain ⟨i0, hi, _⟩ := info_parts Try.info3
  have h := run_equalIn_ints W 9998 (xs ++ List.replicate (9 - xs.length) 0) (ys ++ List.replicate (9 - ys.length) 0) Try.underlying74 hi Try.underlying3 (by kernel_rfl) (by simp; omega) (by simp; omega)
  rw [show decide (xs = ys) = decide (xs ++ List.replicate (9 - xs.length) (0 : Int) = ys ++ List.replicate (9 - ys.length) 0) from by rw [decide_eq_decide]; exact (twl_inj hl).symm]
  exact h

theorem SortsStack_any (v : Value) (xs : List Int) (u : Value) (ys : List Int) (w : World) (hv : OwnI w v xs) (hn : xs.length ≤ 1048576) (hu : OwnI w u ys) (hm : ys.length ≤ 1048576) :
    Calls Try.prog 25 #[v, u] w fun e w' => e = .returned (.tuple #[.bool (mSorts xs ys), .bool (okPlay xs ys)]) ∧ Below w.heap.size w w' := by
  obtain ⟨ad, cap, rfl, hc, _, _⟩ := hv.shape
  unfold mSorts
  cases hg : okPlay xs ys with
  | true =>
    have hok := okPlay_iff.1 hg
    have HP := Lib.hid hok.2.2.2
    have h9 := hok.1.le9
    have HS := Lib.hid (show sortedB (playL xs ys) = decide (playL xs ys = ramp 1 xs.length) by rw [sortedB_eq (playL_good hok.1 ys), playL_length])
    have heq := tower_eq (playL xs ys) (ramp 1 xs.length) (by rw [playL_length]; exact h9) (by rw [playL_length, ramp_length])
    clear hok
    go_enter Try.func25, Try.ntmps25
    go_wp2_with fail
    refine (isPlanFor_any _ _ _ _ _ hv hn hu hm).mono ?_
    rintro e w1 ⟨rfl, hb⟩
    go_wp2_with fail
    refine (towerOf_any _ _ _ (hv.same hb) h9).mono ?_
    rintro e w2 ⟨rfl, hb2⟩
    go_wp2_with fail
    refine (played_any _ _ _ _ h9 ((hu.same hb).same hb2) HP hm).mono ?_
    rintro e w3 ⟨rfl, hb3⟩
    go_wp2_with fail
    refine (sortedTower_any _ _ h9).mono ?_
    rintro e w4 ⟨rfl, hb4⟩
    go_wp2
    go_ret2
    exact ⟨by rw [HS.out]; rfl, ((hb.trans (hb2.mono hb.size)).trans (hb3.mono (Nat.le_trans hb.size hb2.size))).trans (hb4.mono (Nat.le_trans (Nat.le_trans hb.size hb2.size) hb3.size))⟩
  | false =>
    go_enter Try.func25, Try.ntmps25
    go_wp2_with fail
    refine (isPlanFor_any _ _ _ _ _ hv hn hu hm).mono ?_
    rintro e w1 ⟨rfl, hb⟩
    go_wp2
    go_ret2
    exact ⟨rfl, hb⟩

theorem planB_nil {n : Int} : planB n [] = inB n 1 9 := by
  rw [Bool.eq_iff_iff, planB_iff, inB_iff]
  simp [Plan]
theorem okPlay_nil (xs : List Int) : okPlay xs [] = goodB xs := by
  unfold okPlay
  rw [planB_nil]
  cases h : goodB xs with
  | true =>
    have hg := goodB_iff.1 h
    rw [inB_true ⟨by have := hg.1; omega, by have := hg.2.1; omega⟩]
    rfl
  | false => rfl

theorem IsSortedStack_any (v : Value) (xs : List Int) (w : World) (hv : OwnI w v xs) (hn : xs.length ≤ 1048576) :
    Calls Try.prog 45 #[v] w fun e w' => e = .returned (.tuple #[.bool (mIsSorted xs), .bool (goodB xs)]) ∧ Below w.heap.size w w' := by
  have HS := Lib.hid (show mIsSorted xs = mSorts xs [] by unfold mIsSorted mSorts; rw [okPlay_nil]; rfl)
  have HO := Lib.hid (okPlay_nil xs)
  go_enter Try.func45, Try.ntmps45
  go_wp2_with fail
  refine (SortsStack_any _ _ _ [] _ hv hn (OwnI.nil w) (by simp)).mono ?_
  rintro e w1 ⟨rfl, hb⟩
  go_wp2
  go_ret2
  exact ⟨by rw [HS.out, ← HO.out]; rfl, hb⟩

theorem TurnStack_any (v : Value) (xs : List Int) (k : Int) (w : World) (hv : OwnI w v xs) (hn : xs.length ≤ 1048576) :
    Calls Try.prog 19 #[v, .int .i64 k] w fun e w' => ∃ r, e = .returned (.tuple #[r, .bool (okTurn xs k)]) ∧ OwnI w' r (mTurnStack xs k) ∧ From w.heap.size r ∧ Below w.heap.size w w' := by
  obtain ⟨ad, cap, rfl, hc, _, _⟩ := hv.shape
  cases hg : goodB xs with
  | true =>
    cases hi : inB k 1 xs.length with
    | true =>
      have hk := inB_iff.1 hi
      obtain ⟨n, rfl⟩ : ∃ n : Nat, k = n := ⟨k.toNat, by omega⟩
      have hkl : n ≤ xs.length := by omega
      have h9 := (goodB_iff.1 hg).le9
      have HO := Lib.hid (show okTurn xs n = true by unfold okTurn; rw [hg, hi]; rfl)
      have HM := Lib.hid (show mTurnStack xs n = turnL xs n by unfold mTurnStack; rw [if_pos HO.out]; simp)
      go_enter Try.func19, Try.ntmps19
      go_wp2_with fail
      refine (IsStack_any _ _ _ hv hn).mono ?_
      rintro e w1 ⟨rfl, hb⟩
      go_wp2_with fail
      refine (isPlace_any _ _ _ _ _).mono ?_
      rintro e w1' ⟨rfl, rfl⟩
      go_wp2_with fail
      refine (towerOf_any _ _ _ (hv.same hb) h9).mono ?_
      rintro e w2 ⟨rfl, hb2⟩
      go_wp2_with fail
      refine (turned_any _ _ _ h9 hkl).mono ?_
      rintro e w3 ⟨rfl, hb3⟩
      go_wp2_with fail
      refine (list_any _ _ _ (turnL_length _ _) h9).mono ?_
      rintro e w4 ⟨r, rfl, ho, hf, hb4⟩
      go_wp2
      go_ret2
      have hb12 := hb.trans (hb2.mono hb.size)
      have hb13 := hb12.trans (hb3.mono hb12.size)
      exact ⟨_, by rw [HO.out]; rfl, by rw [HM.out]; exact ho, hf.mono hb13.size, hb13.trans (hb4.mono hb13.size)⟩
    | false =>
      have HO := Lib.hid (show okTurn xs k = false by unfold okTurn; rw [hg, hi]; rfl)
      have HM := Lib.hid (show mTurnStack xs k = [] from if_neg (by rw [HO.out]; exact Bool.false_ne_true))
      go_enter Try.func19, Try.ntmps19
      go_wp2_with fail
      refine (IsStack_any _ _ _ hv hn).mono ?_
      rintro e w1 ⟨rfl, hb⟩
      go_wp2_with fail
      refine (isPlace_any _ _ _ _ _).mono ?_
      rintro e w1' ⟨rfl, rfl⟩
      go_wp2
      go_ret2
      exact ⟨_, by rw [HO.out]; rfl, by rw [HM.out]; exact OwnI.nil _, From.nil _ _ _, hb⟩
  | false =>
    have HO := Lib.hid (show okTurn xs k = false by unfold okTurn; rw [hg]; rfl)
    have HM := Lib.hid (show mTurnStack xs k = [] from if_neg (by rw [HO.out]; exact Bool.false_ne_true))
    go_enter Try.func19, Try.ntmps19
    go_wp2_with fail
    refine (IsStack_any _ _ _ hv hn).mono ?_
    rintro e w1 ⟨rfl, hb⟩
    go_wp2
    go_ret2
    exact ⟨_, by rw [HO.out]; rfl, by rw [HM.out]; exact OwnI.nil _, From.nil _ _ _, hb⟩

theorem PlayPlan_any (v : Value) (xs : List Int) (u : Value) (ys : List Int) (w : World) (hv : OwnI w v xs) (hn : xs.length ≤ 1048576) (hu : OwnI w u ys) (hm : ys.length ≤ 1048576) :
    Calls Try.prog 12 #[v, u] w fun e w' => ∃ r, e = .returned (.tuple #[r, .bool (okPlay xs ys)]) ∧ OwnI w' r (mPlayPlan xs ys) ∧ From w.heap.size r ∧ Below w.heap.size w w' := by
  obtain ⟨ad, cap, rfl, hc, _, _⟩ := hv.shape
  cases hg : okPlay xs ys with
  | true =>
    have hok := okPlay_iff.1 hg
    have HP := Lib.hid hok.2.2.2
    have h9 := hok.1.le9
    have HM := Lib.hid (show mPlayPlan xs ys = playL xs ys from if_pos hg)
    clear hok
    go_enter Try.func12, Try.ntmps12
    go_wp2_with fail
    refine (isPlanFor_any _ _ _ _ _ hv hn hu hm).mono ?_
    rintro e w1 ⟨rfl, hb⟩
    go_wp2_with fail
    refine (towerOf_any _ _ _ (hv.same hb) h9).mono ?_
    rintro e w2 ⟨rfl, hb2⟩
    go_wp2_with fail
    refine (played_any _ _ _ _ h9 ((hu.same hb).same hb2) HP hm).mono ?_
    rintro e w3 ⟨rfl, hb3⟩
    go_wp2_with fail
    refine (list_any _ _ _ (playL_length _ _) h9).mono ?_
    rintro e w4 ⟨r, rfl, ho, hf, hb4⟩
    go_wp2
    go_ret2
    have hb12 := hb.trans (hb2.mono hb.size)
    have hb13 := hb12.trans (hb3.mono hb12.size)
    exact ⟨_, rfl, by rw [HM.out]; exact ho, hf.mono hb13.size, hb13.trans (hb4.mono hb13.size)⟩
  | false =>
    have HM := Lib.hid (show mPlayPlan xs ys = [] from if_neg (by rw [hg]; exact Bool.false_ne_true))
    go_enter Try.func12, Try.ntmps12
    go_wp2_with fail
    refine (isPlanFor_any _ _ _ _ _ hv hn hu hm).mono ?_
    rintro e w1 ⟨rfl, hb⟩
    go_wp2
    go_ret2
    exact ⟨_, rfl, by rw [HM.out]; exact OwnI.nil _, From.nil _ _ _, hb⟩

theorem PlaceIn_any (v : Value) (xs : List Int) (x : Int) (w : World) (hv : OwnI w v xs) (hn : xs.length ≤ 1048576) :
    Calls Try.prog 48 #[v, .int .i64 x] w fun e w' => e = .returned (.tuple #[.int .i64 (mPlaceIn xs x), .bool (okPlace xs x)]) ∧ Below w.heap.size w w' := by
  cases hg : goodB xs with
  | true =>
    have hgd := goodB_iff.1 hg
    by_cases hi : x ∈ xs
    · have HO := Lib.hid (show okPlace xs x = true by unfold okPlace; rw [hg, inB_true ((mem_iff_in hgd).1 hi)]; rfl)
      have HM := Lib.hid (show mPlaceIn xs x = placeL xs x from if_pos HO.out)
      have hbd := placeL_bd hi
      have h1 : 0 < placeL xs x := by omega
      have h2 : placeL xs x ≤ 1048576 := by omega
      have hbd1 := hbd.1
      clear hgd hi hbd
      go_enter Try.func48, Try.ntmps48
      go_wp2_with fail
      refine (IsStack_any _ _ _ hv hn).mono ?_
      rintro e w1 ⟨rfl, hb⟩
      go_wp2_with fail
      refine (Index_any _ _ _ _ (hv.same hb) hn).mono ?_
      rintro e w2 ⟨rfl, hb2⟩
      go_wp2
      go_ret2
      exact ⟨by rw [HM.out, HO.out, ← Int.sub_add_cancel (placeL xs x) 1]; rfl, hb.trans (hb2.mono hb.size)⟩
    · have HO := Lib.hid (show okPlace xs x = false by unfold okPlace; rw [hg, inB_false (fun h => hi ((mem_iff_in hgd).2 h))]; rfl)
      have HM := Lib.hid (show mPlaceIn xs x = 0 from if_neg (by rw [HO.out]; exact Bool.false_ne_true))
      have hp : placeL xs x = 0 := by unfold placeL; rw [if_neg hi]
      have HI := Lib.hid hi
      clear hgd hi
      have c := Index_any v xs x
      rw [hp] at c
      clear hp
      go_enter Try.func48, Try.ntmps48
      go_wp2_with fail
      refine (IsStack_any _ _ _ hv hn).mono ?_
      rintro e w1 ⟨rfl, hb⟩
      go_wp2_with fail
      refine (c _ (hv.same hb) hn).mono ?_
      rintro e w2 ⟨rfl, hb2⟩
      go_wp2
      go_ret2
      exact ⟨by rw [HM.out, HO.out]; rfl, hb.trans (hb2.mono hb.size)⟩
  | false =>
    have HO := Lib.hid (show okPlace xs x = false by unfold okPlace; rw [hg]; rfl)
    have HM := Lib.hid (show mPlaceIn xs x = 0 from if_neg (by rw [HO.out]; exact Bool.false_ne_true))
    go_enter Try.func48, Try.ntmps48
    go_wp2_with fail
    refine (IsStack_any _ _ _ hv hn).mono ?_
    rintro e w1 ⟨rfl, hb⟩
    go_wp2
    go_ret2
    exact ⟨by rw [HM.out, HO.out]; rfl, hb⟩

theorem TopTo_any (v : Value) (xs : List Int) (k : Int) (w : World) (hv : OwnI w v xs) (hn : xs.length ≤ 1048576) :
    Calls Try.prog 55 #[v, .int .i64 k] w fun e w' => ∃ r, e = .returned (.tuple #[r, .bool (okTurn xs k)]) ∧ OwnI w' r (mTopTo xs k) ∧ From w.heap.size r ∧ Below w.heap.size w w' := by
  obtain ⟨ad, cap, rfl, hc, _, _⟩ := hv.shape
  cases hg : goodB xs with
  | true =>
    cases hi : inB k 1 xs.length with
    | true =>
      have HO := Lib.hid (show okTurn xs k = true by unfold okTurn; rw [hg, hi]; rfl)
      have HM := Lib.hid (show mTopTo xs k = noOne [k] from if_pos HO.out)
      go_enter Try.func55, Try.ntmps55
      go_wp2_with fail
      refine (IsStack_any _ _ _ hv hn).mono ?_
      rintro e w1 ⟨rfl, hb⟩
      go_wp2_with fail
      refine (isPlace_any _ _ _ _ _).mono ?_
      rintro e w1' ⟨rfl, rfl⟩
      go_wp2_with fail
      refine (planOf_any _ [k] _ (OwnI.lit _ _ [k] 1 rfl (by omega) _ rfl) (by simp)).mono ?_
      rintro e w3 ⟨r, rfl, ho, hf, hb3⟩
      have hb1 := hb.alloc hb.size (.cells #[.int .i64 k] 3)
      go_wp2
      go_ret2
      exact ⟨_, by rw [HO.out]; rfl, by rw [HM.out]; exact ho, hf.mono hb1.size, hb1.trans (hb3.mono hb1.size)⟩
    | false =>
      have HO := Lib.hid (show okTurn xs k = false by unfold okTurn; rw [hg, hi]; rfl)
      have HM := Lib.hid (show mTopTo xs k = [] from if_neg (by rw [HO.out]; exact Bool.false_ne_true))
      go_enter Try.func55, Try.ntmps55
      go_wp2_with fail
      refine (IsStack_any _ _ _ hv hn).mono ?_
      rintro e w1 ⟨rfl, hb⟩
      go_wp2_with fail
      refine (isPlace_any _ _ _ _ _).mono ?_
      rintro e w1' ⟨rfl, rfl⟩
      go_wp2
      go_ret2
      exact ⟨_, by rw [HO.out]; rfl, by rw [HM.out]; exact OwnI.nil _, From.nil _ _ _, hb⟩
  | false =>
    have HO := Lib.hid (show okTurn xs k = false by unfold okTurn; rw [hg]; rfl)
    have HM := Lib.hid (show mTopTo xs k = [] from if_neg (by rw [HO.out]; exact Bool.false_ne_true))
    go_enter Try.func55, Try.ntmps55
    go_wp2_with fail
    refine (IsStack_any _ _ _ hv hn).mono ?_
    rintro e w1 ⟨rfl, hb⟩
    go_wp2
    go_ret2
    exact ⟨_, by rw [HO.out]; rfl, by rw [HM.out]; exact OwnI.nil _, From.nil _ _ _, hb⟩

theorem BackStack_any (v : Value) (xs : List Int) (w : World) (hv : OwnI w v xs) (hn : xs.length ≤ 1048576) :
    Calls Try.prog 39 #[v] w fun e w' => ∃ r, e = .returned (.tuple #[r, .bool (goodB xs)]) ∧ OwnI w' r (mBackStack xs) ∧ From w.heap.size r ∧ Below w.heap.size w w' := by
  have HO := Lib.hid (show okTurn xs xs.length = goodB xs by
    unfold okTurn
    cases h : goodB xs with
    | true => rw [inB_true ⟨by have := (goodB_iff.1 h).1; omega, Int.le_refl _⟩]; rfl
    | false => rfl)
  have HM := Lib.hid (show mTurnStack xs xs.length = mBackStack xs by
    unfold mTurnStack mBackStack
    rw [HO.out, Int.toNat_natCast, turnL_all])
  obtain ⟨ad, cap, rfl, hc, _, _⟩ := hv.shape
  go_enter Try.func39, Try.ntmps39
  go_wp2_with fail
  refine (TurnStack_any _ xs _ _ hv hn).mono ?_
  rintro e w1 ⟨r, rfl, ho, hf, hb⟩
  rw [HM.out] at ho
  rw [HO.out]
  go_wp2
  go_ret2
  exact ⟨_, rfl, ho, hf, hb⟩

theorem StackOfPlan_any (n : Int) (v : Value) (xs : List Int) (w : World) (hv : OwnI w v xs) (hn : xs.length ≤ 1048576) :
    Calls Try.prog 23 #[.int .i64 n, v] w fun e w' => ∃ r, e = .returned (.tuple #[r, .bool (planB n xs)]) ∧ OwnI w' r (mStackOfPlan n xs) ∧ From w.heap.size r ∧ Below w.heap.size w w' := by
  cases hg : planB n xs with
  | true =>
    have hp := planB_iff.1 hg
    obtain ⟨m, rfl⟩ : ∃ m : Nat, n = m := ⟨n.toNat, by have := hp.1; omega⟩
    have h9 : m ≤ 9 := by have := hp.1; omega
    have HP := Lib.hid (show ∀ k ∈ xs, 1 ≤ k ∧ k ≤ ((ramp 1 m).length : Int) by rw [ramp_length]; exact hp.2.2)
    have HM := Lib.hid (show mStackOfPlan m xs = playL (ramp 1 m) xs by unfold mStackOfPlan; rw [if_pos hg]; rfl)
    have HR := Lib.hid (ramp_length 1 m)
    clear hp
    go_enter Try.func23, Try.ntmps23
    go_wp2_with fail
    refine (IsPlan_any _ _ _ _ hv hn).mono ?_
    rintro e w1 ⟨rfl, hb⟩
    go_wp2_with fail
    refine (sortedTower_any _ _ h9).mono ?_
    rintro e w2 ⟨rfl, hb2⟩
    go_wp2_with fail
    refine (played_any _ _ _ _ (by rw [HR.out]; exact h9) ((hv.same hb).same hb2) HP hn).mono ?_
    rintro e w3 ⟨rfl, hb3⟩
    go_wp2_with fail
    refine (list_any _ _ _ (by rw [playL_length, HR.out]) h9).mono ?_
    rintro e w4 ⟨r, rfl, ho, hf, hb4⟩
    go_wp2
    go_ret2
    have hb12 := hb.trans (hb2.mono hb.size)
    have hb13 := hb12.trans (hb3.mono hb12.size)
    exact ⟨_, rfl, by rw [HM.out]; exact ho, hf.mono hb13.size, hb13.trans (hb4.mono hb13.size)⟩
  | false =>
    have HM := Lib.hid (show mStackOfPlan n xs = [] from if_neg (by rw [hg]; exact Bool.false_ne_true))
    go_enter Try.func23, Try.ntmps23
    go_wp2_with fail
    refine (IsPlan_any _ _ _ _ hv hn).mono ?_
    rintro e w1 ⟨rfl, hb⟩
    go_wp2
    go_ret2
    exact ⟨_, rfl, by rw [HM.out]; exact OwnI.nil _, From.nil _ _ _, hb⟩

set_option maxHeartbeats 400000 in
theorem BackPlan_any (n : Int) (v : Value) (xs : List Int) (w : World) (hv : OwnI w v xs) (hn : xs.length ≤ 1048576) :
    Calls Try.prog 20 #[.int .i64 n, v] w fun e w' => ∃ r, e = .returned (.tuple #[r, .bool (planB n xs)]) ∧ OwnI w' r (mBackPlan n xs) ∧ From w.heap.size r ∧ Below w.heap.size w w' := by
  obtain ⟨ad, cap, rfl, hc, _, _⟩ := hv.shape
  cases hg : planB n xs with
  | true =>
    have HM := Lib.hid (show mBackPlan n xs = xs.reverse from if_pos hg)
    obtain ⟨i0, hi, hz0, hz1, hz2⟩ := info_parts Try.info3
    go_enter Try.func20, Try.ntmps20
    go_wp2_with fail
    refine (IsPlan_any _ _ _ _ hv hn).mono ?_
    rintro e w0 ⟨rfl, hb0⟩
    go_wp2_with (at_make; refine wpList_make_full _ rfl _ _ 24 rfl w0.heap.size 3 i0 (.int .i64 0) 1 Try.underlying24 hi hz0 hz1 _ _ _ _ xs.length rfl rfl rfl rfl ?b1 ?b2 ?b3 ?_)
    case b1 => rw [hz2]; omega
    case b2 => unfold maxLen; omega
    case b3 => exact Nat.le_refl _
    intro w1 hown hgrow
    have hrow := Blk.of_row hown
    have hro : Blk w1 w0.heap.size 3 (List.replicate xs.length (iv 0)) := by simpa [toList_madeCells_one] using hrow.1
    have hb1 := hb0.grown hgrow hb0.size (fun k hk => by simp at hk)
    have hsrc := Own.src ((hv.same hb0).grown hgrow (by simp))
    have hmin : (xs.map iv).length = Nat.min xs.length xs.length := by simp
    have hon : ∀ v ∈ xs.map iv, v.oneCell' = true := by simp [Value.oneCell']
    have hfit : 0 + (xs.map iv).length ≤ (List.replicate xs.length (iv 0)).length := by simp
    have hpos : 0 < (xs.map iv).length → (some (⟨w0.heap.size, 0, none⟩ : Addr)) = some ⟨w0.heap.size, 0, none⟩ ∧ ∃ a, ad = some a ∧ ∀ j v, (xs.map iv)[j]? = some v → w1.cell? (a.add j) = some v := by
      intro h0
      rcases hsrc with ⟨_, h, _⟩ | ⟨a, ha, h⟩
      · simp at h0; omega
      · exact ⟨rfl, a, ha, h⟩
    have HS := Lib.hid (splice_made xs)
    have H1 := Lib.hid hmin
    have H2 := Lib.hid hon
    have H3 := Lib.hid hpos
    have H4 := Lib.hid hfit
    have hs0 := hb0.size
    clear hmin hon hpos hfit hrow hown hgrow hi hz0 hz1 hz2 hsrc
    go_wp2_with (refine wpList_copy_splice rfl _ _ _ _ rfl 3 Try.underlying24 Try.infoI _ _ _ _ _ _ rfl rfl w0.heap.size 0 (List.replicate xs.length (iv 0)) 3 hro (xs.map iv) H1.out H3.out H4.out H2.out w.heap.size w hb1 hs0 ?_)
    intro w' HG hb'
    have hg2 := HG.out
    rw [HS.out] at hg2
    have ho2 : OwnI w' (.slice (some ⟨w0.heap.size, 0, none⟩) xs.length xs.length) xs := OwnI.of_blk0 hg2 rfl (by omega)
    clear hg2 HG hro
    go_wp2_with fail
    refine (Reverse_any _ _ _ ho2 hn).mono ?_
    rintro e w3 ⟨rfl, ho3, hg3⟩
    have hb3 := hb'.grown hg3 hb'.size (fun k hk => From.at _ _ _ _ _ hs0 k hk)
    go_wp2
    go_ret2
    exact ⟨_, rfl, by rw [HM.out]; exact ho3, From.at _ _ _ _ _ hs0, hb3⟩
  | false =>
    have HM := Lib.hid (show mBackPlan n xs = [] from if_neg (by rw [hg]; exact Bool.false_ne_true))
    go_enter Try.func20, Try.ntmps20
    go_wp2_with fail
    refine (IsPlan_any _ _ _ _ hv hn).mono ?_
    rintro e w1 ⟨rfl, hb⟩
    go_wp2
    go_ret2
    exact ⟨_, rfl, by rw [HM.out]; exact OwnI.nil _, From.nil _ _ _, hb⟩

end Go.Proofs.Ytlomdnldokbjoaa

