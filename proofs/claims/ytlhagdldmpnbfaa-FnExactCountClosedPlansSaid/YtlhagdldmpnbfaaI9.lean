import Derived.Test.YtlhagdldmpnbfaaI8
namespace Go.Proofs.Ytlhagdldmpnbfaa
open Go Go.RowKit Go.Pan

set_option maxHeartbeats 800000 in
theorem gapTurns_any (xs : List Int) (w : World) (hg : Hid (Go.Pan.Good xs)) :
    Calls Try.prog 74 #[tw xs, .int .i64 xs.length] w fun e w' => ∃ r, e = .returned r ∧ OwnI w' r (turnsL xs) ∧ From w.heap.size r ∧ Below w.heap.size w w' := by
  obtain ⟨i0, hi, hz0, hz1, hz2⟩ := info_parts Try.info3
  have hl9 := hg.out.le9
  have hl1 := hg.out.1
  have hbx : Blk (w.alloc (.cells (twl xs).toArray 43)) w.heap.size 43 (twl xs) := Blk.new w _ (twl xs) _ rfl
  have hb0 := below_new w (.cells (twl xs).toArray 43)
  have HT := Lib.hid (twl_length xs hl9)
  go_enter Try.func74, Try.ntmps74
  go_wp2_with (at_make; refine wpList_make_own _ rfl _ _ 22 rfl (w.heap.size + 1) 3 i0 (.int .i64 0) 1 Try.underlying22 hi hz0 hz1 _ _ _ xs.length rfl rfl rfl ?b1 ?b2 ?b3 ?_)
  case b1 => rw [hz2]; omega
  case b2 => unfold maxLen; omega
  case b3 => simp
  intro w1 hown hgrow
  have ho0 := (Own.of_row hown).1
  have hf0 := (Own.of_row hown).2
  have hbx1 := hbx.grown hgrow (by simp)
  have hb1 := hb0.grown hgrow hb0.size (fun k hk => by simp at hk)
  clear hi hz0 hz1 hz2 hgrow hown hbx hb0
  go_wp2
  go_loopw [5, 6] (fun o i wr => ∃ k : Nat, k ≤ xs.length ∧ i = .int .i64 ((k : Int) + 1) ∧ OwnI wr o (turnsTo xs k) ∧ From (w.heap.size + 1) o ∧ Blk wr w.heap.size 43 (twl xs) ∧ Below w.heap.size w wr) (fun _ i _ => xs.length + 1 - (intOf i).toNat)
  case atStart => exact ⟨0, Nat.zero_le _, by go_num, by simpa [turnsTo, OwnI] using ho0, hf0, hbx1, hb1⟩
  case round =>
    obtain ⟨k, hk, rfl, ho, hf, hbl, hbr⟩ := hrel
    by_cases hlt : k < xs.length
    · have hle : (k : Int) + 1 ≤ xs.length := by omega
      have hlen : (turnsTo xs k).length ≤ 1048576 := by have := turnsTo_length xs k; omega
      have c := gapsTaken_any xs (k + 1) wr hg (by omega)
      rw [Int.natCast_add, Int.natCast_one] at c
      have hlw := hbl.lt
      clear ho0 hf0 hbx1 hb1
      go_wp2_with (first | (refine wpList_load_tower rfl _ rfl w.heap.size xs hl9 rfl hbl ?_))
      refine c.mono ?_
      rintro e w2 ⟨rfl, hb2⟩
      have ho2 := ho.same hb2
      have hbl2 := hbl.below hb2 hlw
      have hbr2 := hbr.trans (hb2.mono hbr.size)
      have hsz := hbr2.size
      clear ho hbl hbr hb2 c
      by_cases hb : (gapsL (turnL xs (k + 1))).length < (gapsL xs).length
      · have HS := Lib.hid (turnsTo_yes (show takesB xs (k + 1) = true from decide_eq_true hb))
        have hpos : 0 < takenL xs (k + 1) := by unfold takenL; omega
        clear hb
        go_wp2_with (at_builtin; refine wpList_app1 Try.intSl rfl _ _ rfl _ (turnsTo xs k) rfl (ho2.alloc _) (w.heap.size + 1) hf w2.heap.size ((k : Int) + 1) rfl ?c1 _ (Below.refl _ _) ?c2 hlen ?_)
        case c1 => simp [go_sem]
        case c2 => simp; omega
        intro v' w3 ho' hf' hb' _
        have hbl' := (hbl2.alloc (.cells #[.int .i64 ((k : Int) + 1)] 3)).below hb' (by omega)
        have hbr' := (hbr2.alloc hsz (.cells #[.int .i64 ((k : Int) + 1)] 3)).trans (hb'.mono (by omega))
        rw [← HS.out] at ho'
        clear HS ho2 hf hbr2 hbl2
        go_wp2
        go_roundw
        case rel => exact ⟨k + 1, by omega, by go_num, ho', hf', hbl', hbr'⟩
        case measure => simp [intOf] <;> omega
      · have HS := Lib.hid (turnsTo_no (show takesB xs (k + 1) = false from decide_eq_false hb))
        have hpos : takenL xs (k + 1) ≤ 0 := by unfold takenL; omega
        clear hb
        go_wp2
        go_roundw
        case rel => exact ⟨k + 1, by omega, by go_num, by rw [HS.out]; exact ho2, hf, hbl2, hbr2⟩
        case measure => simp [intOf] <;> omega
    · obtain rfl : k = xs.length := by omega
      have hle : (xs.length : Int) < xs.length + 1 := by omega
      clear ho0 hf0 hbx1 hb1
      go_wp2_with fail
      refine (Clip_any _ _ _ ho).mono ?_
      rintro e w2 ⟨r, rfl, hor, hob, rfl⟩
      have hfr : From w.heap.size r := fun g hg => Nat.le_of_succ_le (hf g (by rw [← hob]; exact hg))
      clear hob
      go_wp2
      go_ret
      exact ⟨_, rfl, hor, hfr, hbr⟩

theorem GapsOf_any (v : Value) (xs : List Int) (w : World) (hv : OwnI w v xs) (hn : xs.length ≤ 1048576) :
    Calls Try.prog 25 #[v] w fun e w' => ∃ r, e = .returned (.tuple #[r, .bool (goodB xs)]) ∧ OwnI w' r (mGapsOf xs) ∧ From w.heap.size r ∧ Below w.heap.size w w' := by
  obtain ⟨ad, cap, rfl, hc, _, _⟩ := hv.shape
  cases hg : goodB xs with
  | true =>
    have HM := Lib.hid (show mGapsOf xs = gapsL xs from if_pos hg)
    have HG := Lib.hid (goodB_iff.1 hg)
    have hl9 := HG.out.le9
    go_enter Try.func25, Try.ntmps25
    go_wp2_with fail
    refine (IsStack_any _ _ _ hv hn).mono ?_
    rintro e w1 ⟨rfl, hb⟩
    go_wp2_with fail
    refine (towerOf_any _ _ _ (hv.same hb) hl9).mono ?_
    rintro e w2 ⟨rfl, hb2⟩
    go_wp2_with fail
    refine (gaps_any _ _ HG).mono ?_
    rintro e w3 ⟨r, rfl, ho, hf, hb3⟩
    have hB2 := hb.trans (hb2.mono hb.size)
    go_wp2
    go_ret2
    exact ⟨_, rfl, by rw [HM.out]; exact ho, hf.mono hB2.size, hB2.trans (hb3.mono hB2.size)⟩
  | false =>
    have HM := Lib.hid (show mGapsOf xs = [] from if_neg (by rw [hg]; exact Bool.false_ne_true))
    go_enter Try.func25, Try.ntmps25
    go_wp2_with fail
    refine (IsStack_any _ _ _ hv hn).mono ?_
    rintro e w1 ⟨rfl, hb⟩
    go_wp2
    go_ret2
    exact ⟨_, rfl, by rw [HM.out]; exact OwnI.nil _, From.nil _ _ _, hb⟩

theorem mCount_eq (xs : List Int) : mCountGaps xs = ((mGapsOf xs).length : Int) := by
  unfold mCountGaps mGapsOf
  split <;> rfl

theorem CountGaps_any (v : Value) (xs : List Int) (w : World) (hv : OwnI w v xs) (hn : xs.length ≤ 1048576) :
    Calls Try.prog 30 #[v] w fun e w' => e = .returned (.tuple #[.int .i64 (mCountGaps xs), .bool (goodB xs)]) ∧ Below w.heap.size w w' := by
  have HM := Lib.hid (mCount_eq xs)
  go_enter Try.func30, Try.ntmps30
  go_wp2_with fail
  refine (GapsOf_any _ _ _ hv hn).mono ?_
  rintro e w1 ⟨r, rfl, ho, hf, hb⟩
  obtain ⟨ad, cap, rfl, _⟩ := ho.shape
  go_wp2
  go_ret2
  exact ⟨by rw [HM.out]; rfl, hb⟩

theorem GapTurns_any (v : Value) (xs : List Int) (w : World) (hv : OwnI w v xs) (hn : xs.length ≤ 1048576) :
    Calls Try.prog 34 #[v] w fun e w' => ∃ r, e = .returned (.tuple #[r, .bool (goodB xs)]) ∧ OwnI w' r (mGapTurns xs) ∧ From w.heap.size r ∧ Below w.heap.size w w' := by
  obtain ⟨ad, cap, rfl, hc, _, _⟩ := hv.shape
  cases hg : goodB xs with
  | true =>
    have HM := Lib.hid (show mGapTurns xs = turnsL xs from if_pos hg)
    have HG := Lib.hid (goodB_iff.1 hg)
    have hl9 := HG.out.le9
    go_enter Try.func34, Try.ntmps34
    go_wp2_with fail
    refine (IsStack_any _ _ _ hv hn).mono ?_
    rintro e w1 ⟨rfl, hb⟩
    go_wp2_with fail
    refine (towerOf_any _ _ _ (hv.same hb) hl9).mono ?_
    rintro e w2 ⟨rfl, hb2⟩
    go_wp2_with fail
    refine (gapTurns_any _ _ HG).mono ?_
    rintro e w3 ⟨r, rfl, ho, hf, hb3⟩
    have hB2 := hb.trans (hb2.mono hb.size)
    go_wp2
    go_ret2
    exact ⟨_, rfl, by rw [HM.out]; exact ho, hf.mono hB2.size, hB2.trans (hb3.mono hB2.size)⟩
  | false =>
    have HM := Lib.hid (show mGapTurns xs = [] from if_neg (by rw [hg]; exact Bool.false_ne_true))
    go_enter Try.func34, Try.ntmps34
    go_wp2_with fail
    refine (IsStack_any _ _ _ hv hn).mono ?_
    rintro e w1 ⟨rfl, hb⟩
    go_wp2
    go_ret2
    exact ⟨_, rfl, by rw [HM.out]; exact OwnI.nil _, From.nil _ _ _, hb⟩

theorem LowerBound_any (v : Value) (xs : List Int) (w : World) (hv : OwnI w v xs) (hn : xs.length ≤ 1048576) :
    Calls Try.prog 32 #[v] w fun e w' => e = .returned (.tuple #[.int .i64 (mLowerBound xs), .bool (goodB xs)]) ∧ Below w.heap.size w w' := by
  have c := CountGaps_any v xs
  have d := GapTurns_any v xs
  cases hg : goodB xs with
  | true =>
    rw [hg] at c d
    have HG := Lib.hid (goodB_iff.1 hg)
    have hl9 := HG.out.le9
    have hgl := gapsL_length xs
    have HC : mCountGaps xs = ((gapsL xs).length : Int) := if_pos hg
    have HD : mGapTurns xs = turnsL xs := if_pos hg
    rw [HC] at c
    rw [HD] at d
    have HML : mLowerBound xs = boundL xs := if_pos hg
    clear HC HD
    by_cases h0 : gapsL xs = []
    · have HM := Lib.hid (show mLowerBound xs = 0 by rw [HML, boundL_gaps h0])
      rw [h0] at c
      clear h0 HML
      go_enter Try.func32, Try.ntmps32
      go_wp2_with fail
      refine (c _ hv hn).mono ?_
      rintro e w1 ⟨rfl, hb⟩
      go_wp2_with fail
      refine (d _ (hv.same hb) hn).mono ?_
      rintro e w2 ⟨r, rfl, ho, hf, hb2⟩
      obtain ⟨ad, cap, rfl, _⟩ := ho.shape
      go_wp2
      go_ret2
      exact ⟨by rw [HM.out]; rfl, hb.trans (hb2.mono hb.size)⟩
    · have hpos : (0 : Int) < ((gapsL xs).length : Int) := by have := List.length_pos_iff.2 h0; omega
      by_cases h1 : turnsL xs = []
      · have HM := Lib.hid (show mLowerBound xs = ((gapsL xs).length : Int) + 1 by rw [HML, boundL_more h0 h1])
        rw [h1] at d
        clear h1 h0 HML
        go_enter Try.func32, Try.ntmps32
        go_wp2_with fail
        refine (c _ hv hn).mono ?_
        rintro e w1 ⟨rfl, hb⟩
        go_wp2_with fail
        refine (d _ (hv.same hb) hn).mono ?_
        rintro e w2 ⟨r, rfl, ho, hf, hb2⟩
        obtain ⟨ad, cap, rfl, _⟩ := ho.shape
        go_wp2
        go_ret2
        exact ⟨by rw [HM.out]; rfl, hb.trans (hb2.mono hb.size)⟩
      · have HM := Lib.hid (show mLowerBound xs = ((gapsL xs).length : Int) by rw [HML, boundL_turns h1])
        have hq : (((turnsL xs).length : Int) == 0) = false := by simp; exact h1
        clear h1 h0 HML
        go_enter Try.func32, Try.ntmps32
        go_wp2_with fail
        refine (c _ hv hn).mono ?_
        rintro e w1 ⟨rfl, hb⟩
        go_wp2_with fail
        refine (d _ (hv.same hb) hn).mono ?_
        rintro e w2 ⟨r, rfl, ho, hf, hb2⟩
        obtain ⟨ad, cap, rfl, _⟩ := ho.shape
        go_wp2
        go_ret2
        exact ⟨by rw [HM.out]; rfl, hb.trans (hb2.mono hb.size)⟩
  | false =>
    rw [hg] at c d
    have HC : mCountGaps xs = 0 := if_neg (by rw [hg]; exact Bool.false_ne_true)
    rw [HC] at c
    have HM := Lib.hid (show mLowerBound xs = 0 from if_neg (by rw [hg]; exact Bool.false_ne_true))
    clear HC
    go_enter Try.func32, Try.ntmps32
    go_wp2_with fail
    refine (c _ hv hn).mono ?_
    rintro e w1 ⟨rfl, hb⟩
    go_wp2_with fail
    refine (d _ (hv.same hb) hn).mono ?_
    rintro e w2 ⟨r, rfl, ho, hf, hb2⟩
    go_wp2
    go_ret2
    exact ⟨by rw [HM.out]; rfl, hb.trans (hb2.mono hb.size)⟩

theorem IsWaste_any (v : Value) (xs : List Int) (k : Int) (w : World) (hv : OwnI w v xs) (hn : xs.length ≤ 1048576) :
    Calls Try.prog 38 #[v, .int .i64 k] w fun e w' => e = .returned (.tuple #[.bool (mIsWaste xs k), .bool (okTurn xs k)]) ∧ Below w.heap.size w w' := by
  obtain ⟨ad, cap, rfl, hc, _, _⟩ := hv.shape
  cases hg : goodB xs with
  | true =>
    cases hi : inB k 1 xs.length with
    | true =>
      have hk := inB_iff.1 hi
      obtain ⟨n, rfl⟩ : ∃ n : Nat, k = n := ⟨k.toNat, by omega⟩
      have hkl : n ≤ xs.length := by omega
      have HG := Lib.hid (goodB_iff.1 hg)
      have hl9 := HG.out.le9
      have HO := Lib.hid (show okTurn xs n = true by unfold okTurn; rw [hg, hi]; rfl)
      have HM := Lib.hid (show mIsWaste xs n = decide (takenL xs n < 0) by
        unfold mIsWaste takenL
        rw [HO.out, Bool.true_and, decide_eq_decide, Int.toNat_natCast]
        omega)
      go_enter Try.func38, Try.ntmps38
      go_wp2_with fail
      refine (IsStack_any _ _ _ hv hn).mono ?_
      rintro e w1 ⟨rfl, hb⟩
      go_wp2_with fail
      refine (isPlace_any _ _ _ _ _).mono ?_
      rintro e w1' ⟨rfl, rfl⟩
      go_wp2_with fail
      refine (towerOf_any _ _ _ (hv.same hb) hl9).mono ?_
      rintro e w2 ⟨rfl, hb2⟩
      go_wp2_with fail
      refine (gapsTaken_any _ _ _ HG hkl).mono ?_
      rintro e w3 ⟨rfl, hb3⟩
      have hB2 := hb.trans (hb2.mono hb.size)
      go_wp2
      go_ret2
      exact ⟨by rw [HM.out, HO.out]; rfl, hB2.trans (hb3.mono hB2.size)⟩
    | false =>
      have HO := Lib.hid (show okTurn xs k = false by unfold okTurn; rw [hg, hi]; rfl)
      have HM := Lib.hid (show mIsWaste xs k = false by unfold mIsWaste; rw [HO.out]; rfl)
      go_enter Try.func38, Try.ntmps38
      go_wp2_with fail
      refine (IsStack_any _ _ _ hv hn).mono ?_
      rintro e w1 ⟨rfl, hb⟩
      go_wp2_with fail
      refine (isPlace_any _ _ _ _ _).mono ?_
      rintro e w1' ⟨rfl, rfl⟩
      go_wp2
      go_ret2
      exact ⟨by rw [HM.out, HO.out]; rfl, hb⟩
  | false =>
    have HO := Lib.hid (show okTurn xs k = false by unfold okTurn; rw [hg]; rfl)
    have HM := Lib.hid (show mIsWaste xs k = false by unfold mIsWaste; rw [HO.out]; rfl)
    go_enter Try.func38, Try.ntmps38
    go_wp2_with fail
    refine (IsStack_any _ _ _ hv hn).mono ?_
    rintro e w1 ⟨rfl, hb⟩
    go_wp2
    go_ret2
    exact ⟨by rw [HM.out, HO.out]; rfl, hb⟩

theorem quiet_left {f : FuncId} {args : Array Value} {w : World} {n : Nat} {v : Value} (h : Calls Try.prog f args (w.drewN n) fun e w' => e = .returned v ∧ w.drewN n = w') :
    Calls Try.prog f args (w.drewN n) fun e w' => e = .returned v ∧ ∃ m, w' = w.drewN m :=
  h.mono fun _ _ ⟨he, hw⟩ => ⟨he, n, hw.symm⟩

end Go.Proofs.Ytlhagdldmpnbfaa

