import Derived.Test.YtlhagdldmpnbfaaS4
import Derived.Test.YtlhagdldmpnbfaaM5
namespace Go.Proofs.Ytlhagdldmpnbfaa
open Go Go.RowKit Go.Pan

theorem l1Most_any (a b : Int) (w : World) :
    Calls Try.prog 138 #[.int .i64 a, .int .i64 b] w fun e w' => e = .returned (.int .i64 (if b < a then a else b)) ∧ w = w' := by
  by_cases h : b < a
  · rw [if_pos h]
    go_enter Try.func138, Try.ntmps138
    go_wp2
    go_ret
    exact ⟨rfl, rfl⟩
  · rw [if_neg h]
    have h' : a ≤ b := by omega
    go_enter Try.func138, Try.ntmps138
    go_wp2
    go_ret
    exact ⟨rfl, rfl⟩

theorem l1Abs_any (a : Int) (w : World) (h1 : -1048576 ≤ a) (h2 : a ≤ 1048576) :
    Calls Try.prog 132 #[.int .i64 a] w fun e w' => e = .returned (.int .i64 (absI a)) ∧ w = w' := by
  have c := l1Most_any a (-a)
  rw [show (if -a < a then a else -a) = absI a from rfl] at c
  go_enter Try.func132, Try.ntmps132
  go_wp2_with fail
  refine (c _).mono ?_
  rintro e w1 ⟨rfl, rfl⟩
  go_wp2
  go_ret
  exact ⟨rfl, rfl⟩

set_option maxHeartbeats 400000 in
theorem gaIs_any (v : Value) (xs : List Int) (p : Nat) (w : World) (hv : OwnI w v xs) (hg : Hid (Go.Pan.Good xs)) (h1 : 1 ≤ p) (h2 : p ≤ xs.length) :
    Calls Try.prog 114 #[v, .int .i64 p] w fun e w' => e = .returned (.bool (gapB xs p)) ∧ Below w.heap.size w w' := by
  obtain ⟨ad, cap, rfl, hc, _, _⟩ := hv.shape
  obtain ⟨m, rfl⟩ : ∃ m : Nat, p = m + 1 := ⟨p - 1, by omega⟩
  have hmx : m < xs.length := by omega
  obtain ⟨g, off, rfl, hgl, hcell, hf⟩ := hv.at (by omega)
  have hcm := hcell m (by omega)
  rw [List.getElem?_map, List.getElem?_eq_getElem hmx] at hcm
  have hb1 := hg.out.2.2.1 _ (List.getElem_mem hmx)
  have hl9 := hg.out.le9
  have b1 := hb1.1
  have b2 := hb1.2
  by_cases h : m + 1 < xs.length
  · have hcp := hcell (m + 1) (by omega)
    rw [List.getElem?_map, List.getElem?_eq_getElem h] at hcp
    have hb2 := hg.out.2.2.1 _ (List.getElem_mem h)
    have b3 := hb2.1
    have b4 := hb2.2
    have HG := Lib.hid (show gapB xs (m + 1) = decide (1 < absI (xs[m] - xs[m + 1])) by
      unfold gapB below
      rw [if_pos h, Nat.add_sub_cancel, getD_eq hmx, getD_eq h])
    have hci : (m : Int) + 1 < xs.length := by omega
    clear hcell hf hv hb1 hb2
    go_enter Try.func114, Try.ntmps114
    go_wp2_with fail
    refine (l1Abs_any _ _ (by omega) (by omega)).mono ?_
    rintro e w1 ⟨rfl, rfl⟩
    go_wp2
    go_ret
    exact ⟨by rw [HG.out]; rfl, Below.refl _ _⟩
  · have HG := Lib.hid (show gapB xs (m + 1) = decide (1 < absI (xs[m] - ((xs.length : Int) + 1))) by
      unfold gapB below
      rw [if_neg h, Nat.add_sub_cancel, getD_eq hmx])
    have hci : (xs.length : Int) ≤ m + 1 := by omega
    clear hcell hf hv hb1
    go_enter Try.func114, Try.ntmps114
    go_wp2_with fail
    refine (l1Abs_any _ _ (by omega) (by omega)).mono ?_
    rintro e w1 ⟨rfl, rfl⟩
    go_wp2
    go_ret
    exact ⟨by rw [HG.out]; rfl, Below.refl _ _⟩

set_option maxHeartbeats 400000 in
theorem gaAll_any (v : Value) (xs : List Int) (w : World) (hv : OwnI w v xs) (hg : Hid (Go.Pan.Good xs)) :
    Calls Try.prog 68 #[v] w fun e w' => ∃ r, e = .returned r ∧ OwnI w' r (gapsL xs) ∧ From w.heap.size r ∧ Below w.heap.size w w' := by
  obtain ⟨ad, cap, rfl, hc, _, _⟩ := hv.shape
  have hl9 := hg.out.le9
  go_enter Try.func68, Try.ntmps68
  go_wp2
  go_loopw [3, 4] (fun o i wr => ∃ k : Nat, k ≤ xs.length ∧ i = .int .i64 ((k : Int) + 1) ∧ OwnI wr o (gapsTo xs k) ∧ From w.heap.size o ∧ Below w.heap.size w wr) (fun _ i _ => xs.length + 1 - (intOf i).toNat)
  case atStart => exact ⟨0, Nat.zero_le _, by go_num, by simpa [gapsTo] using OwnI.nil w, From.nil _ _ _, Below.refl _ _⟩
  case round =>
    obtain ⟨k, hk, rfl, ho, hf, hbr⟩ := hrel
    by_cases hlt : k < xs.length
    · have hle : (k : Int) + 1 ≤ xs.length := by omega
      have hvr := hv.below hbr (Nat.le_refl _)
      have hlen : (gapsTo xs k).length ≤ 1048576 := by have := gapsTo_length xs k; omega
      have c := gaIs_any _ xs (k + 1) wr hvr hg (by omega) (by omega)
      rw [Int.natCast_add, Int.natCast_one] at c
      clear hv hvr
      cases hb : gapB xs (k + 1) with
      | true =>
        rw [hb] at c
        have HS := Lib.hid (gapsTo_yes hb)
        clear hb
        go_wp2_with fail
        refine c.mono ?_
        rintro e w1 ⟨rfl, hb1⟩
        have ho1 := ho.same hb1
        have hB1 := hbr.trans (hb1.mono hbr.size)
        have hs1 := hB1.size
        clear ho hbr hb1 c
        go_wp2_with (at_builtin; refine wpList_app1 Try.intSl rfl _ _ rfl _ (gapsTo xs k) rfl (ho1.alloc _) w.heap.size hf w1.heap.size ((k : Int) + 1) rfl ?c1 w (hB1.alloc hs1 _) ?c2 hlen ?_)
        case c1 => simp [go_sem]
        case c2 => simp; exact Nat.le_succ_of_le hs1
        intro v' w2 ho' hf' hb' _
        rw [← HS.out] at ho'
        clear ho1 hB1
        go_wp2
        go_roundw
        case rel => exact ⟨k + 1, by omega, by go_num, ho', hf', hb'⟩
        case measure => simp [intOf] <;> omega
      | false =>
        rw [hb] at c
        have HS := Lib.hid (gapsTo_no hb)
        clear hb
        go_wp2_with fail
        refine c.mono ?_
        rintro e w1 ⟨rfl, hb1⟩
        have ho1 := ho.same hb1
        have hB1 := hbr.trans (hb1.mono hbr.size)
        clear ho hbr hb1 c
        go_wp2
        go_roundw
        case rel => exact ⟨k + 1, by omega, by go_num, by rw [HS.out]; exact ho1, hf, hB1⟩
        case measure => simp [intOf] <;> omega
    · obtain rfl : k = xs.length := by omega
      have hle : (xs.length : Int) < xs.length + 1 := by omega
      clear hv
      go_wp2
      go_ret
      exact ⟨_, rfl, ho, hf, hbr⟩

theorem sGapsOf_any (v : Value) (xs : List Int) (w : World) (hv : OwnI w v xs) (hn : xs.length ≤ 1048576) :
    Calls Try.prog 23 #[v] w fun e w' => ∃ r, e = .returned (.tuple #[r, .bool (goodB xs)]) ∧ OwnI w' r (mGapsOf xs) ∧ From w.heap.size r ∧ Below w.heap.size w w' := by
  cases hg : goodB xs with
  | true =>
    have HM := Lib.hid (show mGapsOf xs = gapsL xs from if_pos hg)
    have HG := Lib.hid (goodB_iff.1 hg)
    go_enter Try.func23, Try.ntmps23
    go_wp2_with fail
    refine (stGood_any _ _ _ hv hn).mono ?_
    rintro e w1 ⟨rfl, hb⟩
    go_wp2_with fail
    refine (gaAll_any _ _ _ (hv.same hb) HG).mono ?_
    rintro e w2 ⟨r, rfl, ho, hf, hb2⟩
    go_wp2
    go_ret2
    exact ⟨_, rfl, by rw [HM.out]; exact ho, hf.mono hb.size, hb.trans (hb2.mono hb.size)⟩
  | false =>
    have HM := Lib.hid (show mGapsOf xs = [] from if_neg (by rw [hg]; exact Bool.false_ne_true))
    go_enter Try.func23, Try.ntmps23
    go_wp2_with fail
    refine (stGood_any _ _ _ hv hn).mono ?_
    rintro e w1 ⟨rfl, hb⟩
    go_wp2
    go_ret2
    exact ⟨_, rfl, by rw [HM.out]; exact OwnI.nil _, From.nil _ _ _, hb⟩

theorem sCountGaps_any (v : Value) (xs : List Int) (w : World) (hv : OwnI w v xs) (hn : xs.length ≤ 1048576) :
    Calls Try.prog 29 #[v] w fun e w' => e = .returned (.tuple #[.int .i64 (mCountGaps xs), .bool (goodB xs)]) ∧ Below w.heap.size w w' := by
  cases hg : goodB xs with
  | true =>
    have HM := Lib.hid (show mCountGaps xs = ((gapsL xs).length : Int) from if_pos hg)
    have HG := Lib.hid (goodB_iff.1 hg)
    go_enter Try.func29, Try.ntmps29
    go_wp2_with fail
    refine (stGood_any _ _ _ hv hn).mono ?_
    rintro e w1 ⟨rfl, hb⟩
    go_wp2_with fail
    refine (gaAll_any _ _ _ (hv.same hb) HG).mono ?_
    rintro e w2 ⟨r, rfl, ho, hf, hb2⟩
    obtain ⟨ad, cap, rfl, _⟩ := ho.shape
    go_wp2
    go_ret2
    exact ⟨by rw [HM.out]; rfl, hb.trans (hb2.mono hb.size)⟩
  | false =>
    have HM := Lib.hid (show mCountGaps xs = 0 from if_neg (by rw [hg]; exact Bool.false_ne_true))
    go_enter Try.func29, Try.ntmps29
    go_wp2_with fail
    refine (stGood_any _ _ _ hv hn).mono ?_
    rintro e w1 ⟨rfl, hb⟩
    go_wp2
    go_ret2
    exact ⟨by rw [HM.out]; rfl, hb⟩

set_option maxHeartbeats 400000 in
theorem gaTurns_any (v : Value) (xs : List Int) (w : World) (hv : OwnI w v xs) (hg : Hid (Go.Pan.Good xs)) :
    Calls Try.prog 73 #[v] w fun e w' => ∃ r, e = .returned r ∧ OwnI w' r (turnsL xs) ∧ From w.heap.size r ∧ Below w.heap.size w w' := by
  obtain ⟨ad, cap, rfl, hc, _, _⟩ := hv.shape
  have hl9 := hg.out.le9
  have hl1 := hg.out.1
  go_enter Try.func73, Try.ntmps73
  go_wp2
  go_loopw [3, 4] (fun o i wr => ∃ k : Nat, 1 ≤ k ∧ k ≤ xs.length ∧ i = .int .i64 ((k : Int) + 1) ∧ OwnI wr o (turnsTo xs k) ∧ From w.heap.size o ∧ Below w.heap.size w wr) (fun _ i _ => xs.length + 1 - (intOf i).toNat)
  case atStart => exact ⟨1, Nat.le_refl _, hl1, by go_num, by rw [turnsTo_one]; exact OwnI.nil w, From.nil _ _ _, Below.refl _ _⟩
  case round =>
    obtain ⟨k, hk1, hk, rfl, ho, hf, hbr⟩ := hrel
    by_cases hlt : k < xs.length
    · have hle : (k : Int) + 1 ≤ xs.length := by omega
      have hvr := hv.below hbr (Nat.le_refl _)
      have hlen : (turnsTo xs k).length ≤ 1048576 := by have := turnsTo_length xs k; omega
      have c := stTurn_any _ xs (k + 1) wr hvr (by omega) (by omega)
      rw [Int.natCast_add, Int.natCast_one] at c
      have hgt := Lib.hid (turnL_good hg.out (k + 1))
      clear hv
      go_wp2_with fail
      refine c.mono ?_
      rintro e w1 ⟨r1, rfl, ho1, hf1, hb1⟩
      go_wp2_with fail
      refine (gaAll_any _ _ _ ho1 hgt).mono ?_
      rintro e w2 ⟨r2, rfl, ho2, hf2, hb2⟩
      obtain ⟨ad2, cap2, rfl, _⟩ := ho2.shape
      go_wp2_with fail
      refine (gaAll_any _ xs _ ((hvr.same hb1).same hb2) hg).mono ?_
      rintro e w3 ⟨r3, rfl, ho3, hf3, hb3⟩
      obtain ⟨ad3, cap3, rfl, _⟩ := ho3.shape
      have ho4 := ((ho.same hb1).same hb2).same hb3
      have hB1 := hbr.trans (hb1.mono hbr.size)
      have hB2 := hB1.trans (hb2.mono hB1.size)
      have hB3 := hB2.trans (hb3.mono hB2.size)
      have hs3 := hB3.size
      clear ho hbr hb1 hb2 hb3 c hvr hB1 hB2 ho1 ho2 ho3
      by_cases hb : (gapsL (turnL xs (k + 1))).length < (gapsL xs).length
      · have HS := Lib.hid (turnsTo_yes (show takesB xs (k + 1) = true from decide_eq_true hb))
        have hbi : ((gapsL (turnL xs (k + 1))).length : Int) < ((gapsL xs).length : Int) := by omega
        clear hb
        go_wp2_with (at_builtin; refine wpList_app1 Try.intSl rfl _ _ rfl _ (turnsTo xs k) rfl (ho4.alloc _) w.heap.size hf w3.heap.size ((k : Int) + 1) rfl ?c1 w (hB3.alloc hs3 _) ?c2 hlen ?_)
        case c1 => simp [go_sem]
        case c2 => simp; exact Nat.le_succ_of_le hs3
        intro v' w4 ho' hf' hb' _
        rw [← HS.out] at ho'
        clear ho4 hB3
        go_wp2
        go_roundw
        case rel => exact ⟨k + 1, by omega, by omega, by go_num, ho', hf', hb'⟩
        case measure => simp [intOf] <;> omega
      · have HS := Lib.hid (turnsTo_no (show takesB xs (k + 1) = false from decide_eq_false hb))
        have hbi : ((gapsL xs).length : Int) ≤ ((gapsL (turnL xs (k + 1))).length : Int) := by omega
        clear hb
        go_wp2
        go_roundw
        case rel => exact ⟨k + 1, by omega, by omega, by go_num, by rw [HS.out]; exact ho4, hf, hB3⟩
        case measure => simp [intOf] <;> omega
    · obtain rfl : k = xs.length := by omega
      have hle : (xs.length : Int) < xs.length + 1 := by omega
      clear hv
      go_wp2
      go_ret
      exact ⟨_, rfl, ho, hf, hbr⟩

theorem sGapTurns_any (v : Value) (xs : List Int) (w : World) (hv : OwnI w v xs) (hn : xs.length ≤ 1048576) :
    Calls Try.prog 33 #[v] w fun e w' => ∃ r, e = .returned (.tuple #[r, .bool (goodB xs)]) ∧ OwnI w' r (mGapTurns xs) ∧ From w.heap.size r ∧ Below w.heap.size w w' := by
  cases hg : goodB xs with
  | true =>
    have HM := Lib.hid (show mGapTurns xs = turnsL xs from if_pos hg)
    have HG := Lib.hid (goodB_iff.1 hg)
    go_enter Try.func33, Try.ntmps33
    go_wp2_with fail
    refine (stGood_any _ _ _ hv hn).mono ?_
    rintro e w1 ⟨rfl, hb⟩
    go_wp2_with fail
    refine (gaTurns_any _ _ _ (hv.same hb) HG).mono ?_
    rintro e w2 ⟨r, rfl, ho, hf, hb2⟩
    go_wp2
    go_ret2
    exact ⟨_, rfl, by rw [HM.out]; exact ho, hf.mono hb.size, hb.trans (hb2.mono hb.size)⟩
  | false =>
    have HM := Lib.hid (show mGapTurns xs = [] from if_neg (by rw [hg]; exact Bool.false_ne_true))
    go_enter Try.func33, Try.ntmps33
    go_wp2_with fail
    refine (stGood_any _ _ _ hv hn).mono ?_
    rintro e w1 ⟨rfl, hb⟩
    go_wp2
    go_ret2
    exact ⟨_, rfl, by rw [HM.out]; exact OwnI.nil _, From.nil _ _ _, hb⟩

theorem boundL_gaps {xs : List Int} (h : gapsL xs = []) : boundL xs = 0 := by unfold boundL; rw [if_neg (by simp [h]), h]; rfl
theorem boundL_turns {xs : List Int} (h : turnsL xs ≠ []) : boundL xs = (gapsL xs).length := by unfold boundL; rw [if_neg (fun e => h e.2)]
theorem boundL_more {xs : List Int} (h : gapsL xs ≠ []) (h2 : turnsL xs = []) : boundL xs = ((gapsL xs).length : Int) + 1 := if_pos ⟨h, h2⟩

theorem sLowerBound_any (v : Value) (xs : List Int) (w : World) (hv : OwnI w v xs) (hn : xs.length ≤ 1048576) :
    Calls Try.prog 31 #[v] w fun e w' => e = .returned (.tuple #[.int .i64 (mLowerBound xs), .bool (goodB xs)]) ∧ Below w.heap.size w w' := by
  cases hg : goodB xs with
  | true =>
    have HG := Lib.hid (goodB_iff.1 hg)
    have hl9 := HG.out.le9
    have hgl := gapsL_length xs
    by_cases h0 : gapsL xs = []
    · have HM := Lib.hid (show mLowerBound xs = 0 by unfold mLowerBound; rw [if_pos hg, boundL_gaps h0])
      have c := gaAll_any v xs
      rw [h0] at c
      clear h0
      go_enter Try.func31, Try.ntmps31
      go_wp2_with fail
      refine (stGood_any _ _ _ hv hn).mono ?_
      rintro e w1 ⟨rfl, hb⟩
      go_wp2_with fail
      refine (c _ (hv.same hb) HG).mono ?_
      rintro e w2 ⟨r, rfl, ho, hf, hb2⟩
      obtain ⟨ad, cap, rfl, _⟩ := ho.shape
      go_wp2
      go_ret2
      exact ⟨by rw [HM.out]; rfl, hb.trans (hb2.mono hb.size)⟩
    · have hpos : (0 : Int) < ((gapsL xs).length : Int) := by have := List.length_pos_iff.2 h0; omega
      by_cases h1 : turnsL xs = []
      · have HM := Lib.hid (show mLowerBound xs = ((gapsL xs).length : Int) + 1 by unfold mLowerBound; rw [if_pos hg, boundL_more h0 h1])
        have c := gaTurns_any v xs
        rw [h1] at c
        clear h1 h0
        go_enter Try.func31, Try.ntmps31
        go_wp2_with fail
        refine (stGood_any _ _ _ hv hn).mono ?_
        rintro e w1 ⟨rfl, hb⟩
        go_wp2_with fail
        refine (gaAll_any _ xs _ (hv.same hb) HG).mono ?_
        rintro e w2 ⟨r, rfl, ho, hf, hb2⟩
        obtain ⟨ad, cap, rfl, _⟩ := ho.shape
        go_wp2_with fail
        refine (c _ ((hv.same hb).same hb2) HG).mono ?_
        rintro e w3 ⟨r3, rfl, ho3, hf3, hb3⟩
        obtain ⟨ad3, cap3, rfl, _⟩ := ho3.shape
        have hB2 := hb.trans (hb2.mono hb.size)
        go_wp2
        go_ret2
        exact ⟨by rw [HM.out]; rfl, hB2.trans (hb3.mono hB2.size)⟩
      · have HM := Lib.hid (show mLowerBound xs = ((gapsL xs).length : Int) by unfold mLowerBound; rw [if_pos hg, boundL_turns h1])
        have hq : (((turnsL xs).length : Int) == 0) = false := by have := List.length_pos_iff.2 h1; simp; exact h1
        clear h1 h0
        go_enter Try.func31, Try.ntmps31
        go_wp2_with fail
        refine (stGood_any _ _ _ hv hn).mono ?_
        rintro e w1 ⟨rfl, hb⟩
        go_wp2_with fail
        refine (gaAll_any _ xs _ (hv.same hb) HG).mono ?_
        rintro e w2 ⟨r, rfl, ho, hf, hb2⟩
        obtain ⟨ad, cap, rfl, _⟩ := ho.shape
        go_wp2_with fail
        refine (gaTurns_any _ _ _ ((hv.same hb).same hb2) HG).mono ?_
        rintro e w3 ⟨r3, rfl, ho3, hf3, hb3⟩
        obtain ⟨ad3, cap3, rfl, _⟩ := ho3.shape
        have hB2 := hb.trans (hb2.mono hb.size)
        go_wp2
        go_ret2
        exact ⟨by rw [HM.out]; rfl, hB2.trans (hb3.mono hB2.size)⟩
  | false =>
    have HM := Lib.hid (show mLowerBound xs = 0 from if_neg (by rw [hg]; exact Bool.false_ne_true))
    go_enter Try.func31, Try.ntmps31
    go_wp2_with fail
    refine (stGood_any _ _ _ hv hn).mono ?_
    rintro e w1 ⟨rfl, hb⟩
    go_wp2
    go_ret2
    exact ⟨by rw [HM.out]; rfl, hb⟩

theorem sIsWaste_any (v : Value) (xs : List Int) (k : Int) (w : World) (hv : OwnI w v xs) (hn : xs.length ≤ 1048576) :
    Calls Try.prog 37 #[v, .int .i64 k] w fun e w' => e = .returned (.tuple #[.bool (mIsWaste xs k), .bool (okTurn xs k)]) ∧ Below w.heap.size w w' := by
  obtain ⟨ad, cap, rfl, hc, _, _⟩ := hv.shape
  cases hg : goodB xs with
  | true =>
    cases hi : inB k 1 xs.length with
    | true =>
      have hk := inB_iff.1 hi
      obtain ⟨n, rfl⟩ : ∃ n : Nat, k = n := ⟨k.toNat, by omega⟩
      have hkl : n ≤ xs.length := by omega
      have HG := Lib.hid (goodB_iff.1 hg)
      have HT := Lib.hid (turnL_good HG.out n)
      have HO := Lib.hid (show okTurn xs n = true by unfold okTurn; rw [hg, hi]; rfl)
      have HM := Lib.hid (show mIsWaste xs n = decide ((gapsL xs).length < (gapsL (turnL xs n)).length) by unfold mIsWaste; rw [HO.out]; simp)
      go_enter Try.func37, Try.ntmps37
      go_wp2_with fail
      refine (stGood_any _ _ _ hv hn).mono ?_
      rintro e w1 ⟨rfl, hb⟩
      go_wp2_with fail
      refine (l1In_any _ _ _ _).mono ?_
      rintro e w1' ⟨rfl, rfl⟩
      go_wp2_with fail
      refine (stTurn_any _ _ _ _ (hv.same hb) hn hkl).mono ?_
      rintro e w2 ⟨r2, rfl, ho2, hf2, hb2⟩
      go_wp2_with fail
      refine (gaAll_any _ _ _ ho2 HT).mono ?_
      rintro e w3 ⟨r3, rfl, ho3, hf3, hb3⟩
      obtain ⟨ad3, cap3, rfl, _⟩ := ho3.shape
      go_wp2_with fail
      refine (gaAll_any _ xs _ (((hv.same hb).same hb2).same hb3) HG).mono ?_
      rintro e w4 ⟨r4, rfl, ho4, hf4, hb4⟩
      obtain ⟨ad4, cap4, rfl, _⟩ := ho4.shape
      have hB2 := hb.trans (hb2.mono hb.size)
      have hB3 := hB2.trans (hb3.mono hB2.size)
      have hB4 := hB3.trans (hb4.mono hB3.size)
      go_wp2
      go_ret2
      exact ⟨by rw [HM.out, HO.out]; rfl, hB4⟩
    | false =>
      have HO := Lib.hid (show okTurn xs k = false by unfold okTurn; rw [hg, hi]; rfl)
      have HM := Lib.hid (show mIsWaste xs k = false by unfold mIsWaste; rw [HO.out]; rfl)
      go_enter Try.func37, Try.ntmps37
      go_wp2_with fail
      refine (stGood_any _ _ _ hv hn).mono ?_
      rintro e w1 ⟨rfl, hb⟩
      go_wp2_with fail
      refine (l1In_any _ _ _ _).mono ?_
      rintro e w1' ⟨rfl, rfl⟩
      go_wp2
      go_ret2
      exact ⟨by rw [HM.out, HO.out]; rfl, hb⟩
  | false =>
    have HO := Lib.hid (show okTurn xs k = false by unfold okTurn; rw [hg]; rfl)
    have HM := Lib.hid (show mIsWaste xs k = false by unfold mIsWaste; rw [HO.out]; rfl)
    go_enter Try.func37, Try.ntmps37
    go_wp2_with fail
    refine (stGood_any _ _ _ hv hn).mono ?_
    rintro e w1 ⟨rfl, hb⟩
    go_wp2
    go_ret2
    exact ⟨by rw [HM.out, HO.out]; rfl, hb⟩

end Go.Proofs.Ytlhagdldmpnbfaa

