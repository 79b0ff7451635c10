import Derived.Test.YtlhagdldmpnbfaaPl
import Derived.Test.YtlhagdldmpnbfaaPM
import Derived.Test.YtlhagdldmpnbfaaI10
namespace Go.Proofs.Ytlhagdldmpnbfaa
open Go Go.RowKit Go.Pan

theorem isSearched_any (v : Value) (xs : List Int) (w : World) (hv : OwnI w v xs) (hn : xs.length ≤ 1048576) :
    Calls Try.prog 110 #[v] w fun e w' => e = .returned (.bool (farB xs)) ∧ Below w.heap.size w w' := by
  obtain ⟨ad, cap, rfl, hc, _, _⟩ := hv.shape
  have c := IsStack_any _ xs w hv hn
  cases hg : goodB xs with
  | true =>
    have HF := Lib.hid (show farB xs = inB xs.length 1 7 by have := (goodB_iff.1 hg).1; rw [Bool.eq_iff_iff]; simp [farB, inB, hg]; omega)
    rw [hg] at c
    clear hg
    go_enter Try.func110, Try.ntmps110
    go_wp2_with fail
    refine c.mono ?_
    rintro e w1 ⟨rfl, hb⟩
    clear c
    go_wp2_with fail
    refine (isSearchedCount_any _ _).mono ?_
    rintro e w2 ⟨rfl, rfl⟩
    go_wp2
    go_ret
    exact ⟨by rw [HF.out]; rfl, hb⟩
  | false =>
    have HF := Lib.hid (show farB xs = false by unfold farB; rw [hg]; rfl)
    rw [hg] at c
    clear hg
    go_enter Try.func110, Try.ntmps110
    go_wp2_with fail
    refine c.mono ?_
    rintro e w1 ⟨rfl, hb⟩
    clear c
    go_wp2
    go_ret
    exact ⟨by rw [HF.out]; rfl, hb⟩

set_option maxHeartbeats 1600000 in
set_option maxRecDepth 100000 in
theorem wayHome_yes (v : Value) (xs : List Int) (w : World) (hv : OwnI w v xs) (hn : xs.length ≤ 1048576) (hg : farB xs = true) :
    Calls Try.prog 94 #[v] w fun e w' => ∃ g cap ms, e = .returned (.tuple #[.slice (some ⟨g, 0, none⟩) (farS xs + 1) cap, .bool true]) ∧ Wv (pG xs.length) w' w.heap.size (.slice (some ⟨g, 0, none⟩) (farS xs + 1) cap) ms (wayP (pG xs.length) xs (ramp 1 xs.length) (farS xs) (farS xs)) ∧ Below w.heap.size w w' := by
  obtain ⟨hG, h7⟩ := farB_iff.1 hg
  have HC := Lib.hid (pG_ok hG.cnt h7)
  have HS := Lib.hid (show (pG xs.length).St xs from hG.st)
  have HH := Lib.hid (show (pG xs.length).St (ramp 1 xs.length) from hG.home)
  have HP := Lib.hid (plain_GP hG.1 h7)
  have hks : (pG xs.length).ks.length ≤ 1000 := by rw [pks_length]; omega
  have h9 := hG.le9
  have c := isSearched_any _ xs w hv hn
  rw [hg] at c
  obtain ⟨ad, cap, rfl, _, _, _⟩ := hv.shape
  clear hG hg
  go_enter Try.func94, Try.ntmps94
  go_wp2_with fail
  refine c.mono ?_
  rintro e w1 ⟨rfl, hb1⟩
  clear c
  go_wp2_with fail
  refine (towerOf_any _ xs w1 (hv.same hb1) h9).mono ?_
  rintro e w2 ⟨rfl, hb2⟩
  go_wp2_with fail
  refine (sortedTower_any _ w2 h9).mono ?_
  rintro e w3 ⟨rfl, hb3⟩
  have hB2 := hb1.trans (hb2.mono hb1.size)
  have hB3 := hB2.trans (hb3.mono hB2.size)
  have c4 := way_any (pG xs.length) _ _ _ _ xs (ramp 1 xs.length) w3 HC HP hks HS HH
  rw [pfar] at c4
  go_wp2_with fail
  refine c4.mono ?_
  rintro e w4 ⟨g, cap2, ms, rfl, hW, hb4⟩
  clear c4
  go_wp2
  go_ret2
  exact ⟨g, cap2, ms, rfl, hW.mono hB3.size, hB3.trans (hb4.mono hB3.size)⟩

theorem wayHome_no (v : Value) (xs : List Int) (w : World) (hv : OwnI w v xs) (hn : xs.length ≤ 1048576) (hg : farB xs = false) :
    Calls Try.prog 94 #[v] w fun e w' => e = .returned (.tuple #[.slice none 0 0, .bool false]) ∧ Below w.heap.size w w' := by
  have c := isSearched_any _ xs w hv hn
  rw [hg] at c
  obtain ⟨ad, cap, rfl, _, _, _⟩ := hv.shape
  clear hg
  go_enter Try.func94, Try.ntmps94
  go_wp2_with fail
  refine c.mono ?_
  rintro e w1 ⟨rfl, hb1⟩
  clear c
  go_wp2
  go_ret2
  exact ⟨rfl, hb1⟩

set_option maxHeartbeats 1600000 in
set_option maxRecDepth 100000 in
theorem wayBetween_yes (v u : Value) (xs ys : List Int) (w : World) (hv : OwnI w v xs) (hn : xs.length ≤ 1048576) (hu : OwnI w u ys) (hm : ys.length ≤ 1048576) (hg : twoB xs ys = true) :
    Calls Try.prog 106 #[v, u] w fun e w' => ∃ g cap ms, e = .returned (.tuple #[.slice (some ⟨g, 0, none⟩) (far2 xs ys + 1) cap, .bool true]) ∧ Wv (pG xs.length) w' w.heap.size (.slice (some ⟨g, 0, none⟩) (far2 xs ys + 1) cap) ms (wayP (pG xs.length) xs ys (far2 xs ys) (far2 xs ys)) ∧ Below w.heap.size w w' := by
  obtain ⟨hG, h7, hH, hl⟩ := twoB_iff.1 hg
  have HC := Lib.hid (pG_ok hG.cnt h7)
  have HS := Lib.hid (show (pG xs.length).St xs from hG.st)
  have HH := Lib.hid (show (pG xs.length).St ys from ⟨hH, hl.symm⟩)
  have HP := Lib.hid (plain_GP hG.1 h7)
  have hks : (pG xs.length).ks.length ≤ 1000 := by rw [pks_length]; omega
  have h9 := hG.le9
  have h9y := hH.le9
  have c := isSearched_any _ xs w hv hn
  rw [farB_iff.2 ⟨hG, h7⟩] at c
  have hgy : farB ys = true := farB_iff.2 ⟨hH, by omega⟩
  obtain ⟨ad, cap, rfl, _, _, _⟩ := hv.shape
  obtain ⟨ad2, cap2, rfl, _, _, _⟩ := hu.shape
  obtain ⟨n, hnn⟩ : ∃ n, xs.length = n := ⟨_, rfl⟩
  obtain ⟨d, hd⟩ : ∃ d, far xs.length xs ys = d := ⟨_, rfl⟩
  rw [show far2 xs ys = d from hd]
  rw [hnn] at HC HS HH HP hks h7 hd ⊢
  have hyn : ys.length = n := by omega
  rw [hnn] at hv
  rw [hyn] at hu
  rw [hnn] at c
  rw [hyn]
  clear hG hg hH hl hnn hyn
  go_enter Try.func106, Try.ntmps106
  go_wp2_with fail
  refine c.mono ?_
  rintro e w1 ⟨rfl, hb1⟩
  clear c
  have c2 := isSearched_any _ ys w1 (hu.same hb1) hm
  rw [hgy] at c2
  clear hgy
  go_wp2_with fail
  refine c2.mono ?_
  rintro e w2 ⟨rfl, hb2⟩
  clear c2
  have hB2 := hb1.trans (hb2.mono hb1.size)
  go_wp2_with fail
  refine (towerOf_any _ xs w2 (hv.same hB2) h9).mono ?_
  rintro e w3 ⟨rfl, hb3⟩
  have hB3 := hB2.trans (hb3.mono hB2.size)
  go_wp2_with fail
  refine (towerOf_any _ ys w3 (hu.same hB3) h9y).mono ?_
  rintro e w4 ⟨rfl, hb4⟩
  have hB4 := hB3.trans (hb4.mono hB3.size)
  have c4 := way_any (pG n) _ _ _ _ xs ys w4 HC HP hks HS HH
  rw [pfar, hd] at c4
  go_wp2_with fail
  refine c4.mono ?_
  rintro e w5 ⟨g, cap3, ms, rfl, hW, hb5⟩
  clear c4
  go_wp2
  go_ret2
  exact ⟨g, cap3, ms, rfl, hW.mono hB4.size, hB4.trans (hb5.mono hB4.size)⟩

set_option maxHeartbeats 1600000 in
set_option maxRecDepth 100000 in
theorem wayBetween_no (v u : Value) (xs ys : List Int) (w : World) (hv : OwnI w v xs) (hn : xs.length ≤ 1048576) (hu : OwnI w u ys) (hm : ys.length ≤ 1048576) (hg : twoB xs ys = false) :
    Calls Try.prog 106 #[v, u] w fun e w' => e = .returned (.tuple #[.slice none 0 0, .bool false]) ∧ Below w.heap.size w w' := by
  have c := isSearched_any _ xs w hv hn
  obtain ⟨ad, cap, rfl, _, _, _⟩ := hv.shape
  obtain ⟨ad2, cap2, rfl, _, _, _⟩ := hu.shape
  cases hx : farB xs with
  | false =>
    rw [hx] at c
    clear hx hg
    go_enter Try.func106, Try.ntmps106
    go_wp2_with fail
    refine c.mono ?_
    rintro e w1 ⟨rfl, hb1⟩
    clear c
    go_wp2
    go_ret2
    exact ⟨rfl, hb1⟩
  | true =>
    cases hy : farB ys with
    | false =>
      rw [hx] at c
      clear hx hg
      go_enter Try.func106, Try.ntmps106
      go_wp2_with fail
      refine c.mono ?_
      rintro e w1 ⟨rfl, hb1⟩
      clear c
      have c2 := isSearched_any _ ys w1 (hu.same hb1) hm
      rw [hy] at c2
      clear hy
      go_wp2_with fail
      refine c2.mono ?_
      rintro e w2 ⟨rfl, hb2⟩
      clear c2
      go_wp2
      go_ret2
      exact ⟨rfl, hb1.trans (hb2.mono hb1.size)⟩
    | true =>
      have hl : ¬ (xs.length : Int) = ys.length := by
        intro e
        have e2 : xs.length = ys.length := by omega
        unfold twoB at hg
        rw [hx, hy] at hg
        simp [e2] at hg
      rw [hx] at c
      clear hx hg
      go_enter Try.func106, Try.ntmps106
      go_wp2_with fail
      refine c.mono ?_
      rintro e w1 ⟨rfl, hb1⟩
      clear c
      have c2 := isSearched_any _ ys w1 (hu.same hb1) hm
      rw [hy] at c2
      clear hy
      go_wp2_with fail
      refine c2.mono ?_
      rintro e w2 ⟨rfl, hb2⟩
      clear c2
      go_wp2
      go_ret2
      exact ⟨rfl, hb1.trans (hb2.mono hb1.size)⟩

theorem run_pair0 (v0 v1 : Value) (w : World) : (Instr.extract (.tuple #[v0, v1]) 0).run Try.prog w = .ok v0 w := by kernel_rfl

theorem StackDistance_any (v : Value) (xs : List Int) (w : World) (hv : OwnI w v xs) (hn : xs.length ≤ 1048576) :
    Calls Try.prog 42 #[v] w fun e w' => e = .returned (.tuple #[.int .i64 (mStackDistance xs), .bool (farB xs)]) ∧ Below w.heap.size w w' := by
  cases hg : farB xs with
  | true =>
    have HM := Lib.hid (show mStackDistance xs = ((farS xs + 1 - 1 : Nat) : Int) from if_pos hg)
    have hG := (farB_iff.1 hg).1
    have hle := farS_le hG
    have h9 := hG.le9
    have c := wayHome_yes _ xs w hv hn hg
    obtain ⟨ad, cap, rfl, _, _, _⟩ := hv.shape
    obtain ⟨d, hd⟩ : ∃ d, farS xs = d := ⟨_, rfl⟩
    rw [hd] at c HM hle
    have hd2 : d + 1 ≤ 1048576 := by omega
    clear hG hg hd
    go_enter Try.func42, Try.ntmps42
    go_wp2_with fail
    refine c.mono ?_
    rintro e w1 ⟨g, cap2, ms, rfl, _, hb1⟩
    clear c
    go_wp2_with fail
    refine (wturns_any _ (d + 1) _ w1 hd2).mono ?_
    rintro e w2 ⟨rfl, rfl⟩
    go_wp2
    go_ret2
    exact ⟨by rw [HM.out]; rfl, hb1⟩
  | false =>
    have HM := Lib.hid (show mStackDistance xs = 0 from if_neg (by rw [hg]; exact Bool.false_ne_true))
    have c := wayHome_no _ xs w hv hn hg
    obtain ⟨ad, cap, rfl, _, _, _⟩ := hv.shape
    clear hg
    go_enter Try.func42, Try.ntmps42
    go_wp2_with fail
    refine c.mono ?_
    rintro e w1 ⟨rfl, hb1⟩
    clear c
    go_wp2_with fail
    refine (wturns_any _ 0 _ w1 (Nat.zero_le _)).mono ?_
    rintro e w2 ⟨rfl, rfl⟩
    go_wp2
    go_ret2
    exact ⟨by rw [HM.out]; rfl, hb1⟩

theorem DistanceBetween_any (v : Value) (xs : List Int) (u : Value) (ys : List Int) (w : World) (hv : OwnI w v xs) (hn : xs.length ≤ 1048576) (hu : OwnI w u ys) (hm : ys.length ≤ 1048576) :
    Calls Try.prog 54 #[v, u] w fun e w' => e = .returned (.tuple #[.int .i64 (mDistanceBetween xs ys), .bool (twoB xs ys)]) ∧ Below w.heap.size w w' := by
  cases hg : twoB xs ys with
  | true =>
    have HM := Lib.hid (show mDistanceBetween xs ys = ((far2 xs ys + 1 - 1 : Nat) : Int) from if_pos hg)
    obtain ⟨hG, h7, hH, hl⟩ := twoB_iff.1 hg
    have hle : far2 xs ys ≤ 2 * xs.length := (far_spec hG.st ⟨hH, hl.symm⟩).2.1
    have h9 := hG.le9
    have c := wayBetween_yes _ _ xs ys w hv hn hu hm hg
    obtain ⟨ad, cap, rfl, _, _, _⟩ := hv.shape
    obtain ⟨ad2, cap2, rfl, _, _, _⟩ := hu.shape
    obtain ⟨d, hd⟩ : ∃ d, far2 xs ys = d := ⟨_, rfl⟩
    rw [hd] at c HM hle
    have hd2 : d + 1 ≤ 1048576 := by omega
    clear hG hg hd hH hl
    go_enter Try.func54, Try.ntmps54
    go_wp2_with fail
    refine c.mono ?_
    rintro e w1 ⟨g, cap3, ms, rfl, _, hb1⟩
    clear c
    go_wp2_with fail
    refine (wturns_any _ (d + 1) _ w1 hd2).mono ?_
    rintro e w2 ⟨rfl, rfl⟩
    go_wp2
    go_ret2
    exact ⟨by rw [HM.out]; rfl, hb1⟩
  | false =>
    have HM := Lib.hid (show mDistanceBetween xs ys = 0 from if_neg (by rw [hg]; exact Bool.false_ne_true))
    have c := wayBetween_no _ _ xs ys w hv hn hu hm hg
    obtain ⟨ad, cap, rfl, _, _, _⟩ := hv.shape
    obtain ⟨ad2, cap2, rfl, _, _, _⟩ := hu.shape
    clear hg
    go_enter Try.func54, Try.ntmps54
    go_wp2_with fail
    refine c.mono ?_
    rintro e w1 ⟨rfl, hb1⟩
    clear c
    go_wp2_with fail
    refine (wturns_any _ 0 _ w1 (Nat.zero_le _)).mono ?_
    rintro e w2 ⟨rfl, rfl⟩
    go_wp2
    go_ret2
    exact ⟨by rw [HM.out]; rfl, hb1⟩

theorem GapExcess_any (v : Value) (xs : List Int) (w : World) (hv : OwnI w v xs) (hn : xs.length ≤ 1048576) :
    Calls Try.prog 58 #[v] w fun e w' => e = .returned (.tuple #[.int .i64 (mGapExcess xs), .bool (farB xs)]) ∧ Below w.heap.size w w' := by
  have c := StackDistance_any _ xs w hv hn
  cases hg : farB xs with
  | true =>
    have HM := Lib.hid (show mGapExcess xs = (farS xs : Int) - (gapsL xs).length from if_pos hg)
    have hG := (farB_iff.1 hg).1
    have hle := farS_le hG
    have h9 := hG.le9
    have HG := Lib.hid hG
    have HGL := Lib.hid (show (gapsL xs).length ≤ xs.length from gapsL_length xs)
    rw [hg, show mStackDistance xs = (farS xs : Int) from if_pos hg] at c
    obtain ⟨ad, cap, rfl, _, _, _⟩ := hv.shape
    obtain ⟨d, hd⟩ : ∃ d, farS xs = d := ⟨_, rfl⟩
    rw [hd] at c HM hle
    clear hG hg hd
    go_enter Try.func58, Try.ntmps58
    go_wp2_with fail
    refine c.mono ?_
    rintro e w1 ⟨rfl, hb1⟩
    clear c
    go_wp2_with fail
    refine (towerOf_any _ xs w1 (hv.same hb1) h9).mono ?_
    rintro e w2 ⟨rfl, hb2⟩
    have hB2 := hb1.trans (hb2.mono hb1.size)
    go_wp2_with fail
    refine (countGaps_any xs w2 HG).mono ?_
    rintro e w3 ⟨rfl, hb3⟩
    obtain ⟨k, hk⟩ : ∃ k, (gapsL xs).length = k := ⟨_, rfl⟩
    have hk9 : k ≤ xs.length := by rw [← hk]; exact HGL.out
    rw [hk] at HM ⊢
    have hkx : IntKind.i64.wrap ((d : Int) - k) = (d : Int) - k := IntWalk.i64_in _ (by omega)
    clear hk HGL
    go_wp2
    go_ret2
    exact ⟨by rw [HM.out]; rfl, hB2.trans (hb3.mono hB2.size)⟩
  | false =>
    have HM := Lib.hid (show mGapExcess xs = 0 from if_neg (by rw [hg]; exact Bool.false_ne_true))
    rw [hg] at c
    obtain ⟨ad, cap, rfl, _, _, _⟩ := hv.shape
    clear hg
    go_enter Try.func58, Try.ntmps58
    go_wp2_with fail
    refine c.mono ?_
    rintro e w1 ⟨rfl, hb1⟩
    clear c
    go_wp2
    go_ret2
    exact ⟨by rw [HM.out]; rfl, hb1⟩

theorem GreedyExcess_any (v : Value) (xs : List Int) (w : World) (hv : OwnI w v xs) (hn : xs.length ≤ 1048576) :
    Calls Try.prog 60 #[v] w fun e w' => e = .returned (.tuple #[.int .i64 (mGreedyExcess xs), .bool (farB xs)]) ∧ Below w.heap.size w w' := by
  have c := StackDistance_any _ xs w hv hn
  cases hg : farB xs with
  | true =>
    have HM := Lib.hid (show mGreedyExcess xs = ((greedyL xs).length : Int) - (farS xs : Int) from if_pos hg)
    have hG := (farB_iff.1 hg).1
    have hle := farS_le hG
    have h9 := hG.le9
    have HG := Lib.hid hG
    rw [hg, show mStackDistance xs = (farS xs : Int) from if_pos hg] at c
    obtain ⟨ad, cap, rfl, _, _, _⟩ := hv.shape
    obtain ⟨d, hd⟩ : ∃ d, farS xs = d := ⟨_, rfl⟩
    rw [hd] at c HM hle
    clear hG hg hd
    go_enter Try.func60, Try.ntmps60
    go_wp2_with fail
    refine c.mono ?_
    rintro e w1 ⟨rfl, hb1⟩
    clear c
    go_wp2_with fail
    refine (towerOf_any _ xs w1 (hv.same hb1) h9).mono ?_
    rintro e w2 ⟨rfl, hb2⟩
    have hB2 := hb1.trans (hb2.mono hb1.size)
    go_wp2_with fail
    refine (greedy_any xs w2 HG).mono ?_
    rintro e w3 ⟨r, rfl, ho, _, hb3⟩
    obtain ⟨k, hk⟩ : ∃ k, (greedyL xs).length = k := ⟨_, rfl⟩
    obtain ⟨ad3, cap3, rfl, hc1, hc2, _⟩ := ho.shape
    rw [hk] at HM ho hc1 ⊢
    have hk9 : k ≤ maxLen := by omega
    have hkx : IntKind.i64.wrap ((k : Int) - d) = (k : Int) - d := IntWalk.i64_in _ (by unfold maxLen at hk9; omega)
    clear hk
    go_wp2
    go_ret2
    exact ⟨by rw [HM.out]; rfl, hB2.trans (hb3.mono hB2.size)⟩
  | false =>
    have HM := Lib.hid (show mGreedyExcess xs = 0 from if_neg (by rw [hg]; exact Bool.false_ne_true))
    rw [hg] at c
    obtain ⟨ad, cap, rfl, _, _, _⟩ := hv.shape
    clear hg
    go_enter Try.func60, Try.ntmps60
    go_wp2_with fail
    refine c.mono ?_
    rintro e w1 ⟨rfl, hb1⟩
    clear c
    go_wp2
    go_ret2
    exact ⟨by rw [HM.out]; rfl, hb1⟩

def litI : DD → Int
  | .lit (.int _ c) => c
  | _ => 0

theorem CountLeastPlans_any (v : Value) (xs : List Int) (w : World) (hv : OwnI w v xs) (hn : xs.length ≤ 1048576) :
    Calls Try.prog 46 #[v] w fun e w' => e = .returned (.tuple #[.int .i64 (mCountLeastPlans xs), .bool (farB xs)]) ∧ Below w.heap.size w w' := by
  cases hg : farB xs with
  | true =>
    have HM := Lib.hid (show mCountLeastPlans xs = (waysS xs : Int) from if_pos hg)
    have hG := (farB_iff.1 hg).1
    have hle := farS_le hG
    have h9 := hG.le9
    have c := wayHome_yes _ xs w hv hn hg
    have HC := Lib.hid (pG_ok hG.cnt (farB_iff.1 hg).2)
    have HST := Lib.hid (show (pG xs.length).St (ramp 1 xs.length) from hG.home)
    have HWC := Lib.hid (show gwayC (pG xs.length) xs (ramp 1 xs.length) (farS xs) (farS xs - farS xs) (ramp 1 xs.length) = waysS xs by
      rw [pwayC]
      unfold wayC waysS
      rw [if_pos ⟨rfl, by rw [(far_zero hG.home hG.home).2 rfl]; omega⟩])
    obtain ⟨ad, cap, rfl, _, _, _⟩ := hv.shape
    obtain ⟨n, hnn⟩ : ∃ n, xs.length = n := ⟨_, rfl⟩
    rw [hnn] at HC HST HWC c h9 hle
    rw [hnn]
    obtain ⟨d, hd⟩ : ∃ d, farS xs = d := ⟨_, rfl⟩
    rw [hd] at c hle HWC
    have hd2 : d + 1 ≤ 1048576 := by omega
    rw [hnn] at hv
    clear hG hg hd hnn
    go_enter Try.func46, Try.ntmps46
    go_wp2_with fail
    refine c.mono ?_
    rintro e w1 ⟨g, cap2, ms, rfl, hW, hb1⟩
    clear c
    have hml : ms.length = d + 1 := by rw [hW.len, wayP_length]
    obtain ⟨bl, hbl⟩ : ∃ x, ms[d]? = some x := ⟨_, List.getElem?_eq_getElem (by omega)⟩
    have hlast : ms.getLast? = some bl := by rw [List.getLast?_eq_getElem?, hml]; exact hbl
    have hly := (hW.lay d bl _ hbl (wayP_get _ _ _ _ _ _ (Nat.le_refl _))).1
    have c2 := wlast_any (pG n) _ _ ms _ bl w1 hW hlast (by omega)
    clear hW hbl hlast hml
    go_wp2_with fail
    refine c2.mono ?_
    rintro e w2 ⟨rfl, rfl⟩
    clear c2
    go_wp2_with fail
    refine (sortedTower_any n w1 h9).mono ?_
    rintro e w3 ⟨rfl, hb3⟩
    obtain ⟨D, hown, hL⟩ := hly.below hb3 (Nat.le_refl _)
    have hat := hL.at0 HST.out
    rw [HWC.out] at hat
    have HAT := Lib.hid hat
    have hkey := key_tw HC.out HST.out
    clear hL hat
    go_wp2_with (at_lookup; refine wpList_lookup_own_int _ rfl _ _ 71 rfl 43 3 .i64 keyd Try.underlying71 Try.underlying3 (zeroI _) bl (pG n).all.length D rfl hown _ (kl (ramp 1 n)) rfl hkey ?_; intro c0 hc0 _)
    go_ret2
    have he : c0 = (waysS xs : Int) := by
      have h1 := HAT.out.symm.trans hc0
      exact (congrArg litI h1).symm
    exact ⟨by rw [HM.out, ← he]; rfl, hb1.trans (hb3.mono hb1.size)⟩
  | false =>
    have HM := Lib.hid (show mCountLeastPlans xs = 0 from if_neg (by rw [hg]; exact Bool.false_ne_true))
    have c := wayHome_no _ xs w hv hn hg
    obtain ⟨ad, cap, rfl, _, _, _⟩ := hv.shape
    clear hg
    go_enter Try.func46, Try.ntmps46
    go_wp2_with fail
    refine c.mono ?_
    rintro e w1 ⟨rfl, hb1⟩
    clear c
    go_wp2
    go_ret2
    exact ⟨by rw [HM.out]; rfl, hb1⟩

set_option maxHeartbeats 1600000 in
set_option maxRecDepth 100000 in
theorem IsLeastPlan_any (v : Value) (xs : List Int) (u : Value) (ys : List Int) (w : World) (hv : OwnI w v xs) (hn : xs.length ≤ 1048576) (hu : OwnI w u ys) (hm : ys.length ≤ 1048576) :
    Calls Try.prog 62 #[v, u] w fun e w' => e = .returned (.tuple #[.bool (mIsLeastPlan xs ys), .bool (leastB xs ys)]) ∧ Below w.heap.size w w' := by
  have c := isSearched_any _ xs w hv hn
  cases hg : farB xs with
  | true =>
    cases hh : planB xs.length ys with
    | true =>
      obtain ⟨hG, h7⟩ := farB_iff.1 hg
      have hL : leastB xs ys = true := by unfold leastB; rw [hg, hh]; rfl
      have HL := Lib.hid hL
      have HM := Lib.hid (show mIsLeastPlan xs ys = (((far2 xs (playL xs ys) + 1 - 1 : Nat) : Int) == (ys.length : Int)) by unfold mIsLeastPlan; rw [hL, Bool.eq_iff_iff]; simp; omega)
      have HP := Lib.hid (planB_iff.1 hh).2.2
      have HO := Lib.hid (show okPlay xs ys = true by unfold okPlay; rw [goodB_iff.2 hG, hh]; rfl)
      have hT0 : St xs.length (playL xs ys) := ⟨playL_good hG ys, playL_length xs ys⟩
      have hle : far2 xs (playL xs ys) ≤ 2 * xs.length := (far_spec hG.st hT0).2.1
      have HC := Lib.hid (pG_ok hG.cnt h7)
      have HS := Lib.hid (show (pG xs.length).St xs from hG.st)
      have HT := Lib.hid (show (pG xs.length).St (playL xs ys) from hT0)
      have HPP := Lib.hid (plain_GP hG.1 h7)
      have hks : (pG xs.length).ks.length ≤ 1000 := by rw [pks_length]; omega
      have h9 := hG.le9
      rw [hg] at c
      obtain ⟨ad, cap, rfl, _, _, _⟩ := hv.shape
      obtain ⟨ad2, cap2, rfl, _, _, _⟩ := hu.shape
      obtain ⟨d, hd⟩ : ∃ d, far2 xs (playL xs ys) = d := ⟨_, rfl⟩
      have HD := Lib.hid hd
      rw [hd] at HM hle
      have hd2 : d + 1 ≤ 1048576 := by omega
      have hut := Try.underlying43
      have hs9 : (twl xs).length = 9 := twl_length _ h9
      have hsz : (Try.prog.info? 43).map (·.size) = some (twl xs).length := by rw [Try.infoT, hs9]
      clear hG hg hL hh hd hs9 hT0
      go_enter Try.func62, Try.ntmps62
      go_wp2_with fail
      refine c.mono ?_
      rintro e w1 ⟨rfl, hb1⟩
      clear c
      have c2 := isPlanFor_any _ _ xs ys w1 (hv.same hb1) hn (hu.same hb1) hm
      rw [HO.out] at c2
      go_wp2_with fail
      refine c2.mono ?_
      rintro e w2 ⟨rfl, hb2⟩
      clear c2
      have hB2 := hb1.trans (hb2.mono hb1.size)
      go_wp2_with fail
      refine (towerOf_any _ xs w2 (hv.same hB2) h9).mono ?_
      rintro e w3 ⟨rfl, hb3⟩
      have hB3 := hB2.trans (hb3.mono hB2.size)
      clear hb1 hb2 hb3 hB2
      have hz : Blk (w3.alloc (.cells (twl []).toArray 43)) w3.heap.size 43 (twl []) := Blk.new _ _ (twl []) _ rfl
      go_upto_region 4 with (refine wpList_store_tower rfl _ _ rfl w3.heap.size [] xs (by simp) h9 rfl rfl hz ?_; intro w4 hbx hg4)
      have hB4 := (hB3.alloc hB3.size (.cells (twl []).toArray 43)).grown hg4 (by simp; exact Nat.le_succ_of_le hB3.size) (by intro k hk; cases hk; exact hB3.size)
      have hu4 := hu.same hB4.drew
      have hlt := hbx.lt
      have hr := hbx.range
      have HP2 := Lib.hid HP.out
      clear hz hg4 hB3 hbx
      refine wp_region_held_drew (S := (fun w' => w'.rangeAt w3.heap.size 0 (twl xs))) (by kernel_rfl) (hr) (fun hHeld => ?_)
      refine wpAnyH_take (i := 0) rfl (by kernel_rfl) (by kernel_rfl) (by kernel_rfl) (fun _ _ _ h => h) (yieldsIf_load_mid (by rfl) _ _ rfl _ _ rfl _ _ (fun w hw => hw) hut rfl hsz) (by assumption) ?_
      try simp only [List.getElem_toArray, List.getElem_cons_zero, Act.put, List.setIfInBounds_toArray, List.set_cons_zero, List.set_cons_succ]
      refine wpAnyH_take (i := 1) rfl (by kernel_rfl) (by kernel_rfl) (by kernel_rfl) (fun _ _ _ h => h) (yieldsIf_load_mid (by rfl) _ _ rfl _ _ rfl _ _ (fun w hw => hw) hut rfl hsz) (by assumption) ?_
      try simp only [List.getElem_toArray, List.getElem_cons_zero, List.getElem_cons_succ, Act.put, List.setIfInBounds_toArray, List.set_cons_zero, List.set_cons_succ]
      refine wpAnyH_take (i := 2) (v := ?_) rfl (by kernel_rfl) (by kernel_rfl) (by kernel_rfl) (fun _ _ _ h => h) (Or.inl ⟨by rfl, ?_⟩) (by assumption) ?_
      rotate_left
      · intro w _; go_simp; with_reducible rfl
      try simp only [List.getElem_toArray, List.getElem_cons_zero, List.getElem_cons_succ, Act.put, List.setIfInBounds_toArray, List.set_cons_zero, List.set_cons_succ]
      refine wpAnyH_take (i := 4) (v := ?_) rfl (by kernel_rfl) (by kernel_rfl) (by kernel_rfl) (fun _ _ _ h => h) (Or.inl ⟨by rfl, ?_⟩) (by assumption) ?_
      rotate_left
      · intro w _; go_simp; with_reducible rfl
      try simp only [List.getElem_toArray, List.getElem_cons_zero, List.getElem_cons_succ, Act.put, List.setIfInBounds_toArray, List.set_cons_zero, List.set_cons_succ]
      refine wpAnyH_take (i := 5) (v := ?_) rfl (by kernel_rfl) (by kernel_rfl) (by kernel_rfl) (fun _ _ _ h => h) (Or.inl ⟨by rfl, ?_⟩) (by assumption) ?_
      rotate_left
      · intro w _; go_simp; with_reducible rfl
      try simp only [List.getElem_toArray, List.getElem_cons_zero, List.getElem_cons_succ, Act.put, List.setIfInBounds_toArray, List.set_cons_zero, List.set_cons_succ]
      refine wpAnyH_take (i := 6) (v := ?_) rfl (by kernel_rfl) (by kernel_rfl) (by kernel_rfl) (fun _ _ _ h => h) (Or.inl ⟨by rfl, ?_⟩) (by assumption) ?_
      rotate_left
      · intro w _; go_simp; with_reducible rfl
      try simp only [List.getElem_toArray, List.getElem_cons_zero, List.getElem_cons_succ, Act.put, List.setIfInBounds_toArray, List.set_cons_zero, List.set_cons_succ]
      refine wpAnyH_take (i := 9) (v := ?_) rfl (by kernel_rfl) (by kernel_rfl) (by kernel_rfl) (fun _ _ _ h => h) (Or.inl ⟨by rfl, ?_⟩) (by assumption) ?_
      rotate_left
      · intro w _; go_simp; with_reducible rfl
      try simp only [List.getElem_toArray, List.getElem_cons_zero, List.getElem_cons_succ, Act.put, List.setIfInBounds_toArray, List.set_cons_zero, List.set_cons_succ]
      refine wpAnyH_take (i := 10) (v := ?_) rfl (by kernel_rfl) (by kernel_rfl) (by kernel_rfl) (fun _ _ _ h => h) (Or.inl ⟨by rfl, ?_⟩) (by assumption) ?_
      rotate_left
      · intro w _; go_simp; with_reducible rfl
      try simp only [List.getElem_toArray, List.getElem_cons_zero, List.getElem_cons_succ, Act.put, List.setIfInBounds_toArray, List.set_cons_zero, List.set_cons_succ]
      refine wpAnyH_ready (rs := [3]) (by kernel_rfl) (by simp) ?_
      refine AllReadyH.cons rfl (fun K hK => ?_) AllReadyH.nil
      go_simp
      refine (played_any _ xs ys _ h9 hu4 HP2 hm).mono ?_
      rintro e w5 ⟨rfl, hb5⟩
      go_wp2_with fail
      refine hK.out _ _ (range_below hHeld hb5 hlt) (fun hHeld => ?_)
      clear hK K
      try simp only [List.getElem_toArray, List.getElem_cons_zero, List.getElem_cons_succ, Act.put, List.setIfInBounds_toArray, List.set_cons_zero, List.set_cons_succ]
      have hlt5 := Nat.lt_of_lt_of_le hlt hb5.size
      refine wpAnyH_ready (rs := [7]) (by kernel_rfl) (by simp) ?_
      refine AllReadyH.cons rfl (fun K hK => ?_) AllReadyH.nil
      go_simp
      refine (way_any (pG xs.length) _ _ _ _ xs (playL xs ys) w5 HC HPP hks HS HT).mono ?_
      rintro e w6 ⟨g, cap3, ms, rfl, _, hb6⟩
      go_wp2_with fail
      refine hK.out _ _ (range_below hHeld hb6 hlt5) (fun hHeld => ?_)
      clear hK K
      try simp only [List.getElem_toArray, List.getElem_cons_zero, List.getElem_cons_succ, Act.put, List.setIfInBounds_toArray, List.set_cons_zero, List.set_cons_succ]
      rw [show gfar (pG xs.length) xs (playL xs ys) = d from (pfar _ _ _).trans HD.out]
      refine wpAnyH_ready (rs := [8]) (by kernel_rfl) (by simp) ?_
      refine AllReadyH.cons rfl (fun K hK => ?_) AllReadyH.nil
      go_simp
      refine (wturns_any _ (d + 1) _ w6 hd2).mono ?_
      rintro e w7 ⟨rfl, rfl⟩
      go_wp2_with fail
      refine hK.out _ _ (hHeld) (fun hHeld => ?_)
      clear hK K
      try simp only [List.getElem_toArray, List.getElem_cons_zero, List.getElem_cons_succ, Act.put, List.setIfInBounds_toArray, List.set_cons_zero, List.set_cons_succ]
      refine wpAnyH_take (i := 11) (v := ?_) rfl (by kernel_rfl) (by kernel_rfl) (by kernel_rfl) (fun _ _ _ h => h) (Or.inl ⟨by rfl, ?_⟩) (by assumption) ?_
      rotate_left
      · intro w _; go_simp; with_reducible rfl
      try simp only [List.getElem_toArray, List.getElem_cons_zero, List.getElem_cons_succ, Act.put, List.setIfInBounds_toArray, List.set_cons_zero, List.set_cons_succ]
      refine wpAnyH_take (i := 12) (v := ?_) rfl (by kernel_rfl) (by kernel_rfl) (by kernel_rfl) (fun _ _ _ h => h) (Or.inl ⟨by rfl, ?_⟩) (by assumption) ?_
      rotate_left
      · intro w _; go_simp; with_reducible rfl
      try simp only [List.getElem_toArray, List.getElem_cons_zero, List.getElem_cons_succ, Act.put, List.setIfInBounds_toArray, List.set_cons_zero, List.set_cons_succ]
      refine wpAnyH_take (i := 13) (v := ?_) rfl (by kernel_rfl) (by kernel_rfl) (by kernel_rfl) (fun _ _ _ h => h) (Or.inl ⟨by rfl, ?_⟩) (by assumption) ?_
      rotate_left
      · intro w _; go_simp; with_reducible rfl
      try simp only [List.getElem_toArray, List.getElem_cons_zero, List.getElem_cons_succ, Act.put, List.setIfInBounds_toArray, List.set_cons_zero, List.set_cons_succ]
      refine wpAnyH_done (by kernel_rfl) ?_ _
      go_wp2
      go_ret2
      have hB5 := hB4.drew.trans (hb5.mono hB4.size)
      exact ⟨by rw [HM.out, HL.out]; rfl, hB5.trans (hb6.mono hB5.size)⟩
    | false =>
      have HL := Lib.hid (show leastB xs ys = false by unfold leastB; rw [hg, hh]; rfl)
      have HM := Lib.hid (show mIsLeastPlan xs ys = false by unfold mIsLeastPlan leastB; rw [hg, hh]; rfl)
      have HO := Lib.hid (show okPlay xs ys = false by unfold okPlay; rw [hh]; simp)
      rw [hg] at c
      obtain ⟨ad, cap, rfl, _, _, _⟩ := hv.shape
      obtain ⟨ad2, cap2, rfl, _, _, _⟩ := hu.shape
      clear hg hh
      go_enter Try.func62, Try.ntmps62
      go_wp2_with fail
      refine c.mono ?_
      rintro e w1 ⟨rfl, hb1⟩
      clear c
      have c2 := isPlanFor_any _ _ xs ys w1 (hv.same hb1) hn (hu.same hb1) hm
      rw [HO.out] at c2
      go_wp2_with fail
      refine c2.mono ?_
      rintro e w2 ⟨rfl, hb2⟩
      clear c2
      go_wp2
      go_ret2
      exact ⟨by rw [HM.out, HL.out]; rfl, hb1.trans (hb2.mono hb1.size)⟩
  | false =>
    have HL := Lib.hid (show leastB xs ys = false by unfold leastB; rw [hg]; rfl)
    have HM := Lib.hid (show mIsLeastPlan xs ys = false by unfold mIsLeastPlan leastB; rw [hg]; rfl)
    rw [hg] at c
    obtain ⟨ad, cap, rfl, _, _, _⟩ := hv.shape
    obtain ⟨ad2, cap2, rfl, _, _, _⟩ := hu.shape
    clear hg
    go_enter Try.func62, Try.ntmps62
    go_wp2_with fail
    refine c.mono ?_
    rintro e w1 ⟨rfl, hb1⟩
    clear c
    go_wp2
    go_ret2
    exact ⟨by rw [HM.out, HL.out]; rfl, hb1⟩

end Go.Proofs.Ytlhagdldmpnbfaa

