import Derived.Test.YtdlnniciccpchaaS5
import Derived.Test.YtdlnniciccpchaaI4
import Derived.Test.YtdlnniciccpchaaS8
import Derived.Test.YtdlnniciccpchaaM6
import Derived.Test.YtdlnniciccpchaaI9
import Derived.Test.YtdlnniciccpchaaPl
import Derived.Test.YtdlnniciccpchaaPM
import Derived.Test.YtdlnniciccpchaaS2A
import Derived.Test.YtdlnniciccpchaaG9
import Derived.ScopeJumps
namespace Go.Proofs.Ytdlnniciccpchaa
open Go Go.RowKit Go.Pan

theorem okBring_iff {xs : List Int} {x k : Int} : okBring xs x k = true ↔ Go.Pan.Good xs ∧ (1 ≤ x ∧ x ≤ xs.length) ∧ 1 ≤ k ∧ k ≤ xs.length := by
  simp only [okBring, okPlace, Bool.and_eq_true, goodB_iff, inB_iff, and_assoc]

end Go.Proofs.Ytdlnniciccpchaa

namespace Go.Proofs.Ytdlnniciccpchaa
open Go Go.RowKit Go.Pan

end Go.Proofs.Ytdlnniciccpchaa

namespace Go.Proofs.Ytdlnniciccpchaa
open Go Go.RowKit Go.Pan

end Go.Proofs.Ytdlnniciccpchaa

namespace Go.Proofs.Ytdlnniciccpchaa
open Go Go.RowKit Go.Pan

def GreedyJ (xs : List Int) (w : World) (a' : Act) (wr : World) : Prop :=
  ∃ (m : Nat) (ys out : List Int) (o u7 u8 u9 u10 u11 u12 u13 u14 u15 u16 u17 u18 u19 u20 u21 u22 u23 u24 u25 u26 u27 u28 u29 u30 u31 : Value), a' = { tmps := #[tw xs, .int .i64 xs.length, .pointer (some ⟨w.heap.size, 0, none⟩), undef, .slice none 0 0, o, .int .i64 m, u7, u8, u9, u10, u11, u12, u13, u14, u15, u16, u17, u18, u19, u20, u21, u22, u23, u24, u25, u26, u27, u28, u29, u30, u31], defers := [] } ∧
    OwnI wr o out ∧ From (w.heap.size + 1) o ∧ Blk wr w.heap.size 52 (twl ys) ∧ GreedyAt xs m ys out ∧ Below w.heap.size w wr

theorem mGreedy_eq (xs : List Int) : mGreedyLength xs = ((mGreedyPlan xs).length : Int) := by
  unfold mGreedyLength mGreedyPlan
  split <;> rfl

end Go.Proofs.Ytdlnniciccpchaa

namespace Go.Proofs.Ytdlnniciccpchaa
open Go Go.RowKit Go.Pan

theorem isSearched_any (v : Value) (xs : List Int) (w : World) (hv : OwnI w v xs) (hn : xs.length ≤ 1048576) :
    Calls Try.prog 46 #[v] w fun e w' => e = .returned (.bool (farB xs)) ∧ Below w.heap.size w w' := by
  obtain ⟨ad, cap, rfl, hc, _, _⟩ := hv.shape
  have c := IsStack_any _ xs w hv hn
  cases hg : goodB xs with
  | true =>
    have HF := Lib.hid (show farB xs = inB xs.length 1 7 by have := (goodB_iff.1 hg).1; rw [Bool.eq_iff_iff]; simp [farB, inB, hg]; omega)
    rw [hg] at c
    clear hg
    go_enter Try.func46, Try.ntmps46
    go_wp2_with fail
    refine c.mono ?_
    rintro e w1 ⟨rfl, hb⟩
    clear c
    go_wp2_with fail
    refine (isSearchedCount_any _ _).mono ?_
    rintro e w2 ⟨rfl, rfl⟩
    go_wp2
    go_ret
    exact ⟨by rw [HF.out]; rfl, hb⟩
  | false =>
    have HF := Lib.hid (show farB xs = false by unfold farB; rw [hg]; rfl)
    rw [hg] at c
    clear hg
    go_enter Try.func46, Try.ntmps46
    go_wp2_with fail
    refine c.mono ?_
    rintro e w1 ⟨rfl, hb⟩
    clear c
    go_wp2
    go_ret
    exact ⟨by rw [HF.out]; rfl, hb⟩

set_option maxHeartbeats 1600000 in
set_option maxRecDepth 100000 in
theorem wayHome_yes (v : Value) (xs : List Int) (w : World) (hv : OwnI w v xs) (hn : xs.length ≤ 1048576) (hg : farB xs = true) :
    Calls Try.prog 45 #[v] w fun e w' => ∃ g cap ms, e = .returned (.tuple #[.slice (some ⟨g, 0, none⟩) (farS xs + 1) cap, .bool true]) ∧ Wv (pG xs.length) w' w.heap.size (.slice (some ⟨g, 0, none⟩) (farS xs + 1) cap) ms (wayP (pG xs.length) xs (ramp 1 xs.length) (farS xs) (farS xs)) ∧ Below w.heap.size w w' := by
  obtain ⟨hG, h7⟩ := farB_iff.1 hg
  have HC := Lib.hid (pG_ok hG.cnt h7)
  have HS := Lib.hid (show (pG xs.length).St xs from hG.st)
  have HH := Lib.hid (show (pG xs.length).St (ramp 1 xs.length) from hG.home)
  have HP := Lib.hid (plain_GP hG.1 h7)
  have hks : (pG xs.length).ks.length ≤ 1000 := by rw [pks_length]; omega
  have h9 := hG.le9
  have c := isSearched_any _ xs w hv hn
  rw [hg] at c
  obtain ⟨ad, cap, rfl, _, _, _⟩ := hv.shape
  clear hG hg
  go_enter Try.func45, Try.ntmps45
  go_wp2_with fail
  refine c.mono ?_
  rintro e w1 ⟨rfl, hb1⟩
  clear c
  go_wp2_with fail
  refine (towerOf_any _ xs w1 (hv.same hb1) h9).mono ?_
  rintro e w2 ⟨rfl, hb2⟩
  go_wp2_with fail
  refine (sortedTower_any _ w2 h9).mono ?_
  rintro e w3 ⟨rfl, hb3⟩
  have hB2 := hb1.trans (hb2.mono hb1.size)
  have hB3 := hB2.trans (hb3.mono hB2.size)
  have c4 := way_any (pG xs.length) _ _ _ _ xs (ramp 1 xs.length) w3 HC HP hks HS HH
  rw [pfar] at c4
  go_wp2_with fail
  refine c4.mono ?_
  rintro e w4 ⟨g, cap2, ms, rfl, hW, hb4⟩
  clear c4
  go_wp2
  go_ret2
  exact ⟨g, cap2, ms, rfl, hW.mono hB3.size, hB3.trans (hb4.mono hB3.size)⟩

theorem wayHome_no (v : Value) (xs : List Int) (w : World) (hv : OwnI w v xs) (hn : xs.length ≤ 1048576) (hg : farB xs = false) :
    Calls Try.prog 45 #[v] w fun e w' => e = .returned (.tuple #[.slice none 0 0, .bool false]) ∧ Below w.heap.size w w' := by
  have c := isSearched_any _ xs w hv hn
  rw [hg] at c
  obtain ⟨ad, cap, rfl, _, _, _⟩ := hv.shape
  clear hg
  go_enter Try.func45, Try.ntmps45
  go_wp2_with fail
  refine c.mono ?_
  rintro e w1 ⟨rfl, hb1⟩
  clear c
  go_wp2
  go_ret2
  exact ⟨rfl, hb1⟩

set_option maxHeartbeats 1600000 in
set_option maxRecDepth 100000 in
theorem wayBetween_yes (v u : Value) (xs ys : List Int) (w : World) (hv : OwnI w v xs) (hn : xs.length ≤ 1048576) (hu : OwnI w u ys) (hm : ys.length ≤ 1048576) (hg : twoB xs ys = true) :
    Calls Try.prog 32 #[v, u] w fun e w' => ∃ g cap ms, e = .returned (.tuple #[.slice (some ⟨g, 0, none⟩) (far2 xs ys + 1) cap, .bool true]) ∧ Wv (pG xs.length) w' w.heap.size (.slice (some ⟨g, 0, none⟩) (far2 xs ys + 1) cap) ms (wayP (pG xs.length) xs ys (far2 xs ys) (far2 xs ys)) ∧ Below w.heap.size w w' := by
  obtain ⟨hG, h7, hH, hl⟩ := twoB_iff.1 hg
  have HC := Lib.hid (pG_ok hG.cnt h7)
  have HS := Lib.hid (show (pG xs.length).St xs from hG.st)
  have HH := Lib.hid (show (pG xs.length).St ys from ⟨hH, hl.symm⟩)
  have HP := Lib.hid (plain_GP hG.1 h7)
  have hks : (pG xs.length).ks.length ≤ 1000 := by rw [pks_length]; omega
  have h9 := hG.le9
  have h9y := hH.le9
  have c := isSearched_any _ xs w hv hn
  rw [farB_iff.2 ⟨hG, h7⟩] at c
  have hgy : farB ys = true := farB_iff.2 ⟨hH, by omega⟩
  obtain ⟨ad, cap, rfl, _, _, _⟩ := hv.shape
  obtain ⟨ad2, cap2, rfl, _, _, _⟩ := hu.shape
  obtain ⟨n, hnn⟩ : ∃ n, xs.length = n := ⟨_, rfl⟩
  obtain ⟨d, hd⟩ : ∃ d, far xs.length xs ys = d := ⟨_, rfl⟩
  rw [show far2 xs ys = d from hd]
  rw [hnn] at HC HS HH HP hks h7 hd ⊢
  have hyn : ys.length = n := by omega
  rw [hnn] at hv
  rw [hyn] at hu
  rw [hnn] at c
  rw [hyn]
  clear hG hg hH hl hnn hyn
  go_enter Try.func32, Try.ntmps32
  go_wp2_with fail
  refine c.mono ?_
  rintro e w1 ⟨rfl, hb1⟩
  clear c
  have c2 := isSearched_any _ ys w1 (hu.same hb1) hm
  rw [hgy] at c2
  clear hgy
  go_wp2_with fail
  refine c2.mono ?_
  rintro e w2 ⟨rfl, hb2⟩
  clear c2
  have hB2 := hb1.trans (hb2.mono hb1.size)
  go_wp2_with fail
  refine (towerOf_any _ xs w2 (hv.same hB2) h9).mono ?_
  rintro e w3 ⟨rfl, hb3⟩
  have hB3 := hB2.trans (hb3.mono hB2.size)
  go_wp2_with fail
  refine (towerOf_any _ ys w3 (hu.same hB3) h9y).mono ?_
  rintro e w4 ⟨rfl, hb4⟩
  have hB4 := hB3.trans (hb4.mono hB3.size)
  have c4 := way_any (pG n) _ _ _ _ xs ys w4 HC HP hks HS HH
  rw [pfar, hd] at c4
  go_wp2_with fail
  refine c4.mono ?_
  rintro e w5 ⟨g, cap3, ms, rfl, hW, hb5⟩
  clear c4
  go_wp2
  go_ret2
  exact ⟨g, cap3, ms, rfl, hW.mono hB4.size, hB4.trans (hb5.mono hB4.size)⟩

set_option maxHeartbeats 1600000 in
set_option maxRecDepth 100000 in
theorem wayBetween_no (v u : Value) (xs ys : List Int) (w : World) (hv : OwnI w v xs) (hn : xs.length ≤ 1048576) (hu : OwnI w u ys) (hm : ys.length ≤ 1048576) (hg : twoB xs ys = false) :
    Calls Try.prog 32 #[v, u] w fun e w' => e = .returned (.tuple #[.slice none 0 0, .bool false]) ∧ Below w.heap.size w w' := by
  have c := isSearched_any _ xs w hv hn
  obtain ⟨ad, cap, rfl, _, _, _⟩ := hv.shape
  obtain ⟨ad2, cap2, rfl, _, _, _⟩ := hu.shape
  cases hx : farB xs with
  | false =>
    rw [hx] at c
    clear hx hg
    go_enter Try.func32, Try.ntmps32
    go_wp2_with fail
    refine c.mono ?_
    rintro e w1 ⟨rfl, hb1⟩
    clear c
    go_wp2
    go_ret2
    exact ⟨rfl, hb1⟩
  | true =>
    cases hy : farB ys with
    | false =>
      rw [hx] at c
      clear hx hg
      go_enter Try.func32, Try.ntmps32
      go_wp2_with fail
      refine c.mono ?_
      rintro e w1 ⟨rfl, hb1⟩
      clear c
      have c2 := isSearched_any _ ys w1 (hu.same hb1) hm
      rw [hy] at c2
      clear hy
      go_wp2_with fail
      refine c2.mono ?_
      rintro e w2 ⟨rfl, hb2⟩
      clear c2
      go_wp2
      go_ret2
      exact ⟨rfl, hb1.trans (hb2.mono hb1.size)⟩
    | true =>
      have hl : ¬ (xs.length : Int) = ys.length := by
        intro e
        have e2 : xs.length = ys.length := by omega
        unfold twoB at hg
        rw [hx, hy] at hg
        simp [e2] at hg
      rw [hx] at c
      clear hx hg
      go_enter Try.func32, Try.ntmps32
      go_wp2_with fail
      refine c.mono ?_
      rintro e w1 ⟨rfl, hb1⟩
      clear c
      have c2 := isSearched_any _ ys w1 (hu.same hb1) hm
      rw [hy] at c2
      clear hy
      go_wp2_with fail
      refine c2.mono ?_
      rintro e w2 ⟨rfl, hb2⟩
      clear c2
      go_wp2
      go_ret2
      exact ⟨rfl, hb1.trans (hb2.mono hb1.size)⟩

theorem run_pair0 (v0 v1 : Value) (w : World) : (Instr.extract (.tuple #[v0, v1]) 0).run Try.prog w = .ok v0 w := by kernel_rfl

theorem StackDistance_any (v : Value) (xs : List Int) (w : World) (hv : OwnI w v xs) (hn : xs.length ≤ 1048576) :
    Calls Try.prog 15 #[v] w fun e w' => e = .returned (.tuple #[.int .i64 (mStackDistance xs), .bool (farB xs)]) ∧ Below w.heap.size w w' := by
  cases hg : farB xs with
  | true =>
    have HM := Lib.hid (show mStackDistance xs = ((farS xs + 1 - 1 : Nat) : Int) from if_pos hg)
    have hG := (farB_iff.1 hg).1
    have hle := farS_le hG
    have h9 := hG.le9
    have c := wayHome_yes _ xs w hv hn hg
    obtain ⟨ad, cap, rfl, _, _, _⟩ := hv.shape
    obtain ⟨d, hd⟩ : ∃ d, farS xs = d := ⟨_, rfl⟩
    rw [hd] at c HM hle
    have hd2 : d + 1 ≤ 1048576 := by omega
    clear hG hg hd
    go_enter Try.func15, Try.ntmps15
    go_wp2_with fail
    refine c.mono ?_
    rintro e w1 ⟨g, cap2, ms, rfl, _, hb1⟩
    clear c
    go_wp2_with fail
    refine (wturns_any _ (d + 1) _ w1 hd2).mono ?_
    rintro e w2 ⟨rfl, rfl⟩
    go_wp2
    go_ret2
    exact ⟨by rw [HM.out]; rfl, hb1⟩
  | false =>
    have HM := Lib.hid (show mStackDistance xs = 0 from if_neg (by rw [hg]; exact Bool.false_ne_true))
    have c := wayHome_no _ xs w hv hn hg
    obtain ⟨ad, cap, rfl, _, _, _⟩ := hv.shape
    clear hg
    go_enter Try.func15, Try.ntmps15
    go_wp2_with fail
    refine c.mono ?_
    rintro e w1 ⟨rfl, hb1⟩
    clear c
    go_wp2_with fail
    refine (wturns_any _ 0 _ w1 (Nat.zero_le _)).mono ?_
    rintro e w2 ⟨rfl, rfl⟩
    go_wp2
    go_ret2
    exact ⟨by rw [HM.out]; rfl, hb1⟩

theorem DistanceBetween_any (v : Value) (xs : List Int) (u : Value) (ys : List Int) (w : World) (hv : OwnI w v xs) (hn : xs.length ≤ 1048576) (hu : OwnI w u ys) (hm : ys.length ≤ 1048576) :
    Calls Try.prog 9 #[v, u] w fun e w' => e = .returned (.tuple #[.int .i64 (mDistanceBetween xs ys), .bool (twoB xs ys)]) ∧ Below w.heap.size w w' := by
  cases hg : twoB xs ys with
  | true =>
    have HM := Lib.hid (show mDistanceBetween xs ys = ((far2 xs ys + 1 - 1 : Nat) : Int) from if_pos hg)
    obtain ⟨hG, h7, hH, hl⟩ := twoB_iff.1 hg
    have hle : far2 xs ys ≤ 2 * xs.length := (far_spec hG.st ⟨hH, hl.symm⟩).2.1
    have h9 := hG.le9
    have c := wayBetween_yes _ _ xs ys w hv hn hu hm hg
    obtain ⟨ad, cap, rfl, _, _, _⟩ := hv.shape
    obtain ⟨ad2, cap2, rfl, _, _, _⟩ := hu.shape
    obtain ⟨d, hd⟩ : ∃ d, far2 xs ys = d := ⟨_, rfl⟩
    rw [hd] at c HM hle
    have hd2 : d + 1 ≤ 1048576 := by omega
    clear hG hg hd hH hl
    go_enter Try.func9, Try.ntmps9
    go_wp2_with fail
    refine c.mono ?_
    rintro e w1 ⟨g, cap3, ms, rfl, _, hb1⟩
    clear c
    go_wp2_with fail
    refine (wturns_any _ (d + 1) _ w1 hd2).mono ?_
    rintro e w2 ⟨rfl, rfl⟩
    go_wp2
    go_ret2
    exact ⟨by rw [HM.out]; rfl, hb1⟩
  | false =>
    have HM := Lib.hid (show mDistanceBetween xs ys = 0 from if_neg (by rw [hg]; exact Bool.false_ne_true))
    have c := wayBetween_no _ _ xs ys w hv hn hu hm hg
    obtain ⟨ad, cap, rfl, _, _, _⟩ := hv.shape
    obtain ⟨ad2, cap2, rfl, _, _, _⟩ := hu.shape
    clear hg
    go_enter Try.func9, Try.ntmps9
    go_wp2_with fail
    refine c.mono ?_
    rintro e w1 ⟨rfl, hb1⟩
    clear c
    go_wp2_with fail
    refine (wturns_any _ 0 _ w1 (Nat.zero_le _)).mono ?_
    rintro e w2 ⟨rfl, rfl⟩
    go_wp2
    go_ret2
    exact ⟨by rw [HM.out]; rfl, hb1⟩

def litI : DD → Int
  | .lit (.int _ c) => c
  | _ => 0

set_option maxHeartbeats 1600000 in
set_option maxRecDepth 100000 in
theorem IsLeastPlan_any (v : Value) (xs : List Int) (u : Value) (ys : List Int) (w : World) (hv : OwnI w v xs) (hn : xs.length ≤ 1048576) (hu : OwnI w u ys) (hm : ys.length ≤ 1048576) :
    Calls Try.prog 16 #[v, u] w fun e w' => e = .returned (.tuple #[.bool (mIsLeastPlan xs ys), .bool (leastB xs ys)]) ∧ Below w.heap.size w w' := by
  have c := isSearched_any _ xs w hv hn
  cases hg : farB xs with
  | true =>
    cases hh : planB xs.length ys with
    | true =>
      obtain ⟨hG, h7⟩ := farB_iff.1 hg
      have hL : leastB xs ys = true := by unfold leastB; rw [hg, hh]; rfl
      have HL := Lib.hid hL
      have HM := Lib.hid (show mIsLeastPlan xs ys = (((far2 xs (playL xs ys) + 1 - 1 : Nat) : Int) == (ys.length : Int)) by unfold mIsLeastPlan; rw [hL, Bool.eq_iff_iff]; simp; omega)
      have HP := Lib.hid (planB_iff.1 hh).2.2
      have HO := Lib.hid (show okPlay xs ys = true by unfold okPlay; rw [goodB_iff.2 hG, hh]; rfl)
      have hT0 : St xs.length (playL xs ys) := ⟨playL_good hG ys, playL_length xs ys⟩
      have hle : far2 xs (playL xs ys) ≤ 2 * xs.length := (far_spec hG.st hT0).2.1
      have HC := Lib.hid (pG_ok hG.cnt h7)
      have HS := Lib.hid (show (pG xs.length).St xs from hG.st)
      have HT := Lib.hid (show (pG xs.length).St (playL xs ys) from hT0)
      have HPP := Lib.hid (plain_GP hG.1 h7)
      have hks : (pG xs.length).ks.length ≤ 1000 := by rw [pks_length]; omega
      have h9 := hG.le9
      rw [hg] at c
      obtain ⟨ad, cap, rfl, _, _, _⟩ := hv.shape
      obtain ⟨ad2, cap2, rfl, _, _, _⟩ := hu.shape
      obtain ⟨d, hd⟩ : ∃ d, far2 xs (playL xs ys) = d := ⟨_, rfl⟩
      have HD := Lib.hid hd
      rw [hd] at HM hle
      have hd2 : d + 1 ≤ 1048576 := by omega
      have hut := Try.underlying52
      have hs9 : (twl xs).length = 9 := twl_length _ h9
      have hsz : (Try.prog.info? 52).map (·.size) = some (twl xs).length := by rw [Try.infoT, hs9]
      clear hG hg hL hh hd hs9 hT0
      go_enter Try.func16, Try.ntmps16
      go_wp2_with fail
      refine c.mono ?_
      rintro e w1 ⟨rfl, hb1⟩
      clear c
      have c2 := isPlanFor_any _ _ xs ys w1 (hv.same hb1) hn (hu.same hb1) hm
      rw [HO.out] at c2
      go_wp2_with fail
      refine c2.mono ?_
      rintro e w2 ⟨rfl, hb2⟩
      clear c2
      have hB2 := hb1.trans (hb2.mono hb1.size)
      go_wp2_with fail
      refine (towerOf_any _ xs w2 (hv.same hB2) h9).mono ?_
      rintro e w3 ⟨rfl, hb3⟩
      have hB3 := hB2.trans (hb3.mono hB2.size)
      clear hb1 hb2 hb3 hB2
      have hz : Blk (w3.alloc (.cells (twl []).toArray 52)) w3.heap.size 52 (twl []) := Blk.new _ _ (twl []) _ rfl
      go_upto_region 4 with (refine wpList_store_tower rfl _ _ rfl w3.heap.size [] xs (by simp) h9 rfl rfl hz ?_; intro w4 hbx hg4)
      have hB4 := (hB3.alloc hB3.size (.cells (twl []).toArray 52)).grown hg4 (by simp; exact Nat.le_succ_of_le hB3.size) (by intro k hk; cases hk; exact hB3.size)
      have hu4 := hu.same hB4.drew
      have hlt := hbx.lt
      have hr := hbx.range
      have HP2 := Lib.hid HP.out
      clear hz hg4 hB3 hbx
      refine wp_region_held_drew (S := (fun w' => w'.rangeAt w3.heap.size 0 (twl xs))) (by kernel_rfl) (hr) (fun hHeld => ?_)
      refine wpAnyH_take (i := 0) rfl (by kernel_rfl) (by kernel_rfl) (by kernel_rfl) (fun _ _ _ h => h) (yieldsIf_load_mid (by rfl) _ _ rfl _ _ rfl _ _ (fun w hw => hw) hut rfl hsz) (by assumption) ?_
      try simp only [List.getElem_toArray, List.getElem_cons_zero, Act.put, List.setIfInBounds_toArray, List.set_cons_zero, List.set_cons_succ]
      refine wpAnyH_take (i := 1) rfl (by kernel_rfl) (by kernel_rfl) (by kernel_rfl) (fun _ _ _ h => h) (yieldsIf_load_mid (by rfl) _ _ rfl _ _ rfl _ _ (fun w hw => hw) hut rfl hsz) (by assumption) ?_
      try simp only [List.getElem_toArray, List.getElem_cons_zero, List.getElem_cons_succ, Act.put, List.setIfInBounds_toArray, List.set_cons_zero, List.set_cons_succ]
      refine wpAnyH_take (i := 2) (v := ?_) rfl (by kernel_rfl) (by kernel_rfl) (by kernel_rfl) (fun _ _ _ h => h) (Or.inl ⟨by rfl, ?_⟩) (by assumption) ?_
      rotate_left
      · intro w _; go_simp; with_reducible rfl
      try simp only [List.getElem_toArray, List.getElem_cons_zero, List.getElem_cons_succ, Act.put, List.setIfInBounds_toArray, List.set_cons_zero, List.set_cons_succ]
      refine wpAnyH_take (i := 4) (v := ?_) rfl (by kernel_rfl) (by kernel_rfl) (by kernel_rfl) (fun _ _ _ h => h) (Or.inl ⟨by rfl, ?_⟩) (by assumption) ?_
      rotate_left
      · intro w _; go_simp; with_reducible rfl
      try simp only [List.getElem_toArray, List.getElem_cons_zero, List.getElem_cons_succ, Act.put, List.setIfInBounds_toArray, List.set_cons_zero, List.set_cons_succ]
      refine wpAnyH_take (i := 5) (v := ?_) rfl (by kernel_rfl) (by kernel_rfl) (by kernel_rfl) (fun _ _ _ h => h) (Or.inl ⟨by rfl, ?_⟩) (by assumption) ?_
      rotate_left
      · intro w _; go_simp; with_reducible rfl
      try simp only [List.getElem_toArray, List.getElem_cons_zero, List.getElem_cons_succ, Act.put, List.setIfInBounds_toArray, List.set_cons_zero, List.set_cons_succ]
      refine wpAnyH_take (i := 6) (v := ?_) rfl (by kernel_rfl) (by kernel_rfl) (by kernel_rfl) (fun _ _ _ h => h) (Or.inl ⟨by rfl, ?_⟩) (by assumption) ?_
      rotate_left
      · intro w _; go_simp; with_reducible rfl
      try simp only [List.getElem_toArray, List.getElem_cons_zero, List.getElem_cons_succ, Act.put, List.setIfInBounds_toArray, List.set_cons_zero, List.set_cons_succ]
      refine wpAnyH_take (i := 9) (v := ?_) rfl (by kernel_rfl) (by kernel_rfl) (by kernel_rfl) (fun _ _ _ h => h) (Or.inl ⟨by rfl, ?_⟩) (by assumption) ?_
      rotate_left
      · intro w _; go_simp; with_reducible rfl
      try simp only [List.getElem_toArray, List.getElem_cons_zero, List.getElem_cons_succ, Act.put, List.setIfInBounds_toArray, List.set_cons_zero, List.set_cons_succ]
      refine wpAnyH_take (i := 10) (v := ?_) rfl (by kernel_rfl) (by kernel_rfl) (by kernel_rfl) (fun _ _ _ h => h) (Or.inl ⟨by rfl, ?_⟩) (by assumption) ?_
      rotate_left
      · intro w _; go_simp; with_reducible rfl
      try simp only [List.getElem_toArray, List.getElem_cons_zero, List.getElem_cons_succ, Act.put, List.setIfInBounds_toArray, List.set_cons_zero, List.set_cons_succ]
      refine wpAnyH_ready (rs := [3]) (by kernel_rfl) (by simp) ?_
      refine AllReadyH.cons rfl (fun K hK => ?_) AllReadyH.nil
      go_simp
      refine (played_any _ xs ys _ h9 hu4 HP2 hm).mono ?_
      rintro e w5 ⟨rfl, hb5⟩
      go_wp2_with fail
      refine hK.out _ _ (range_below hHeld hb5 hlt) (fun hHeld => ?_)
      clear hK K
      try simp only [List.getElem_toArray, List.getElem_cons_zero, List.getElem_cons_succ, Act.put, List.setIfInBounds_toArray, List.set_cons_zero, List.set_cons_succ]
      have hlt5 := Nat.lt_of_lt_of_le hlt hb5.size
      refine wpAnyH_ready (rs := [7]) (by kernel_rfl) (by simp) ?_
      refine AllReadyH.cons rfl (fun K hK => ?_) AllReadyH.nil
      go_simp
      refine (way_any (pG xs.length) _ _ _ _ xs (playL xs ys) w5 HC HPP hks HS HT).mono ?_
      rintro e w6 ⟨g, cap3, ms, rfl, _, hb6⟩
      go_wp2_with fail
      refine hK.out _ _ (range_below hHeld hb6 hlt5) (fun hHeld => ?_)
      clear hK K
      try simp only [List.getElem_toArray, List.getElem_cons_zero, List.getElem_cons_succ, Act.put, List.setIfInBounds_toArray, List.set_cons_zero, List.set_cons_succ]
      rw [show gfar (pG xs.length) xs (playL xs ys) = d from (pfar _ _ _).trans HD.out]
      refine wpAnyH_ready (rs := [8]) (by kernel_rfl) (by simp) ?_
      refine AllReadyH.cons rfl (fun K hK => ?_) AllReadyH.nil
      go_simp
      refine (wturns_any _ (d + 1) _ w6 hd2).mono ?_
      rintro e w7 ⟨rfl, rfl⟩
      go_wp2_with fail
      refine hK.out _ _ (hHeld) (fun hHeld => ?_)
      clear hK K
      try simp only [List.getElem_toArray, List.getElem_cons_zero, List.getElem_cons_succ, Act.put, List.setIfInBounds_toArray, List.set_cons_zero, List.set_cons_succ]
      refine wpAnyH_take (i := 11) (v := ?_) rfl (by kernel_rfl) (by kernel_rfl) (by kernel_rfl) (fun _ _ _ h => h) (Or.inl ⟨by rfl, ?_⟩) (by assumption) ?_
      rotate_left
      · intro w _; go_simp; with_reducible rfl
      try simp only [List.getElem_toArray, List.getElem_cons_zero, List.getElem_cons_succ, Act.put, List.setIfInBounds_toArray, List.set_cons_zero, List.set_cons_succ]
      refine wpAnyH_take (i := 12) (v := ?_) rfl (by kernel_rfl) (by kernel_rfl) (by kernel_rfl) (fun _ _ _ h => h) (Or.inl ⟨by rfl, ?_⟩) (by assumption) ?_
      rotate_left
      · intro w _; go_simp; with_reducible rfl
      try simp only [List.getElem_toArray, List.getElem_cons_zero, List.getElem_cons_succ, Act.put, List.setIfInBounds_toArray, List.set_cons_zero, List.set_cons_succ]
      refine wpAnyH_take (i := 13) (v := ?_) rfl (by kernel_rfl) (by kernel_rfl) (by kernel_rfl) (fun _ _ _ h => h) (Or.inl ⟨by rfl, ?_⟩) (by assumption) ?_
      rotate_left
      · intro w _; go_simp; with_reducible rfl
      try simp only [List.getElem_toArray, List.getElem_cons_zero, List.getElem_cons_succ, Act.put, List.setIfInBounds_toArray, List.set_cons_zero, List.set_cons_succ]
      refine wpAnyH_done (by kernel_rfl) ?_ _
      go_wp2
      go_ret2
      have hB5 := hB4.drew.trans (hb5.mono hB4.size)
      exact ⟨by rw [HM.out, HL.out]; rfl, hB5.trans (hb6.mono hB5.size)⟩
    | false =>
      have HL := Lib.hid (show leastB xs ys = false by unfold leastB; rw [hg, hh]; rfl)
      have HM := Lib.hid (show mIsLeastPlan xs ys = false by unfold mIsLeastPlan leastB; rw [hg, hh]; rfl)
      have HO := Lib.hid (show okPlay xs ys = false by unfold okPlay; rw [hh]; simp)
      rw [hg] at c
      obtain ⟨ad, cap, rfl, _, _, _⟩ := hv.shape
      obtain ⟨ad2, cap2, rfl, _, _, _⟩ := hu.shape
      clear hg hh
      go_enter Try.func16, Try.ntmps16
      go_wp2_with fail
      refine c.mono ?_
      rintro e w1 ⟨rfl, hb1⟩
      clear c
      have c2 := isPlanFor_any _ _ xs ys w1 (hv.same hb1) hn (hu.same hb1) hm
      rw [HO.out] at c2
      go_wp2_with fail
      refine c2.mono ?_
      rintro e w2 ⟨rfl, hb2⟩
      clear c2
      go_wp2
      go_ret2
      exact ⟨by rw [HM.out, HL.out]; rfl, hb1.trans (hb2.mono hb1.size)⟩
  | false =>
    have HL := Lib.hid (show leastB xs ys = false by unfold leastB; rw [hg]; rfl)
    have HM := Lib.hid (show mIsLeastPlan xs ys = false by unfold mIsLeastPlan leastB; rw [hg]; rfl)
    rw [hg] at c
    obtain ⟨ad, cap, rfl, _, _, _⟩ := hv.shape
    obtain ⟨ad2, cap2, rfl, _, _, _⟩ := hu.shape
    clear hg
    go_enter Try.func16, Try.ntmps16
    go_wp2_with fail
    refine c.mono ?_
    rintro e w1 ⟨rfl, hb1⟩
    clear c
    go_wp2
    go_ret2
    exact ⟨by rw [HM.out, HL.out]; rfl, hb1⟩

end Go.Proofs.Ytdlnniciccpchaa

namespace Go.Proofs.Ytdlnniciccpchaa
open Go Go.RowKit Go.Pan

set_option maxHeartbeats 1600000 in
set_option maxRecDepth 100000 in
theorem PlanBetween_any (v : Value) (xs : List Int) (u : Value) (ys : List Int) (w : World) (hv : OwnI w v xs) (hn : xs.length ≤ 1048576) (hu : OwnI w u ys) (hm : ys.length ≤ 1048576) :
    Calls Try.prog 7 #[v, u] w fun e w' => ∃ r, e = .returned (.tuple #[r, .bool (twoB xs ys)]) ∧ OwnI w' r (mPlanBetween xs ys) ∧ From w.heap.size r ∧ Below w.heap.size w w' := by
  cases hg : twoB xs ys with
  | true =>
    have HM := Lib.hid (show mPlanBetween xs ys = ggoL (pG xs.length) ys (far2 xs ys) xs from (show mPlanBetween xs ys = goL xs.length ys (far2 xs ys) xs from if_pos hg).trans (pgoL _ _ _ _).symm)
    obtain ⟨hG, h7, hH, hl⟩ := twoB_iff.1 hg
    have hle : far2 xs ys ≤ 2 * xs.length := (far_spec hG.st ⟨hH, hl.symm⟩).2.1
    have h9 := hG.le9
    have c := wayBetween_yes _ _ xs ys w hv hn hu hm hg
    have HC := Lib.hid (pG_ok hG.cnt h7)
    have HS := Lib.hid (show (pG xs.length).St xs from hG.st)
    have HH := Lib.hid (show (pG xs.length).St ys from ⟨hH, hl.symm⟩)
    have HPP := Lib.hid (plain_GP hG.1 h7)
    have hks : (pG xs.length).ks.length ≤ 9 := by rw [pks_length]; omega
    have HD := Lib.hid (show gfar (pG xs.length) xs ys = far2 xs ys from pfar _ _ _)
    obtain ⟨ad, cap, rfl, _, _, _⟩ := hv.shape
    obtain ⟨ad2, cap2, rfl, _, _, _⟩ := hu.shape
    obtain ⟨d, hd⟩ : ∃ d, far2 xs ys = d := ⟨_, rfl⟩
    rw [hd] at c HM hle HD
    have hd2 : d + 1 ≤ 1048576 := by omega
    clear hG hg hd hH hl
    go_enter Try.func7, Try.ntmps7
    go_wp2_with fail
    refine c.mono ?_
    rintro e w1 ⟨g, cap3, ms, rfl, hW, hb1⟩
    clear c
    go_wp2_with fail
    refine (towerOf_any _ xs w1 (hv.same hb1) h9).mono ?_
    rintro e w2 ⟨rfl, hb2⟩
    have hW2 := hW.below hb2 (Nat.le_refl _)
    have hB2 := hb1.trans (hb2.mono hb1.size)
    have c3 := firstPlan_any (pG xs.length) _ _ _ _ d _ g cap3 ms xs ys w2 HC HPP hks HS HH HD hd2 hW2
    clear hW hW2
    go_wp2_with fail
    refine c3.mono ?_
    rintro e w3 ⟨r, rfl, ho, hf, hb3⟩
    go_wp2
    go_ret2
    exact ⟨_, rfl, by rw [HM.out]; exact ho, hf.mono hB2.size, hB2.trans (hb3.mono hB2.size)⟩
  | false =>
    have HM := Lib.hid (show mPlanBetween xs ys = [] from if_neg (by rw [hg]; exact Bool.false_ne_true))
    have c := wayBetween_no _ _ xs ys w hv hn hu hm hg
    obtain ⟨ad, cap, rfl, _, _, _⟩ := hv.shape
    obtain ⟨ad2, cap2, rfl, _, _, _⟩ := hu.shape
    clear hg
    go_enter Try.func7, Try.ntmps7
    go_wp2_with fail
    refine c.mono ?_
    rintro e w1 ⟨rfl, hb1⟩
    clear c
    go_wp2
    go_ret2
    exact ⟨_, rfl, by rw [HM.out]; exact OwnI.nil _, From.nil _ _ _, hb1⟩

end Go.Proofs.Ytdlnniciccpchaa

namespace Go.Proofs.Ytdlnniciccpchaa
open Go Go.RowKit Go.Pan

set_option maxHeartbeats 1600000 in
set_option maxRecDepth 100000 in
theorem sStackDistance_any (v : Value) (xs : List Int) (w : World) (hv : OwnI w v xs) (hn : xs.length ≤ 1048576) :
    Calls Try.prog 39 #[v] w fun e w' => e = .returned (.tuple #[.int .i64 (mStackDistance xs), .bool (farB xs)]) ∧ Below w.heap.size w w' := by
  have c := faGood_any _ xs w hv hn
  cases hg : farB xs with
  | true =>
    obtain ⟨hG, h7⟩ := farB_iff.1 hg
    have HM := Lib.hid (show mStackDistance xs = ((dS xs.length (rankL xs) : Nat) : Int) by rw [dS_rank hG.cnt hG.st]; exact if_pos hg)
    have HC := Lib.hid hG.cnt
    have hrl := rank_lt hG.st
    have h9 := hG.le9
    obtain ⟨ad, cap, rfl, _, _, _⟩ := hv.shape
    rw [hg] at c
    obtain ⟨n, hnn⟩ : ∃ n, xs.length = n := ⟨_, rfl⟩
    have HN := Lib.hid hnn
    rw [hnn] at HC hrl h9 h7 c HM ⊢
    rw [hnn] at hv
    have hu57 := run_layer0
    clear hG hg hnn
    go_enter Try.func39, Try.ntmps39
    go_wp2_with fail
    refine c.mono ?_
    rintro e w1 ⟨rfl, hb1⟩
    clear c
    go_wp2_with fail
    refine (faAll_any n w1 HC h7).mono ?_
    rintro e w2 ⟨a, c, s, S, rfl, HR, hb2⟩
    have hv1 : OwnI w2 (.slice ad n cap) xs := by
      have := ((show OwnI w (.slice ad n cap) xs from hv).same hb1).same hb2
      exact this
    go_wp2_with fail
    refine (faRank_any _ xs w2 hv1 (by rw [HN.out]; exact h9)).mono ?_
    rintro e w3 ⟨rfl, rfl⟩
    obtain ⟨h1, h2, _, _⟩ := HR.at hrl
    have hi : (rankL xs : Int) < fact n := by omega
    clear h2
    go_wp2
    go_ret2
    exact ⟨by rw [HM.out]; rfl, hb1.trans (hb2.mono hb1.size)⟩
  | false =>
    have HM := Lib.hid (show mStackDistance xs = 0 from if_neg (by rw [hg]; exact Bool.false_ne_true))
    rw [hg] at c
    clear hg
    go_enter Try.func39, Try.ntmps39
    go_wp2_with fail
    refine c.mono ?_
    rintro e w1 ⟨rfl, hb1⟩
    go_wp2
    go_ret2
    exact ⟨by rw [HM.out]; rfl, hb1⟩

theorem faTwo_any (v u : Value) (xs ys : List Int) (w : World) (hv : OwnI w v xs) (hn : xs.length ≤ 1048576) (hu : OwnI w u ys) (hm : ys.length ≤ 1048576) :
    Calls Try.prog 35 #[v, u] w fun e w' => e = .returned (.bool (twoB xs ys)) ∧ Below w.heap.size w w' := by
  have c := faGood_any _ xs w hv hn
  obtain ⟨ad, cap, rfl, _, _, _⟩ := hv.shape
  obtain ⟨ad2, cap2, rfl, _, _, _⟩ := hu.shape
  cases hg : farB xs with
  | true =>
    cases hh : farB ys with
    | true =>
      have HT := Lib.hid (show twoB xs ys = ((xs.length : Int) == (ys.length : Int)) by unfold twoB; rw [hg, hh]; simp; rw [Bool.eq_iff_iff]; simp; omega)
      rw [hg] at c
      clear hg
      go_enter Try.func35, Try.ntmps35
      go_wp2_with fail
      refine c.mono ?_
      rintro e w1 ⟨rfl, hb1⟩
      clear c
      have c2 := faGood_any _ ys w1 (hu.same hb1) hm
      rw [hh] at c2
      clear hh
      go_wp2_with fail
      refine c2.mono ?_
      rintro e w2 ⟨rfl, hb2⟩
      clear c2
      go_wp2
      go_ret
      exact ⟨by rw [HT.out]; rfl, hb1.trans (hb2.mono hb1.size)⟩
    | false =>
      have HT := Lib.hid (show twoB xs ys = false by unfold twoB; rw [hg, hh]; rfl)
      rw [hg] at c
      clear hg
      go_enter Try.func35, Try.ntmps35
      go_wp2_with fail
      refine c.mono ?_
      rintro e w1 ⟨rfl, hb1⟩
      clear c
      have c2 := faGood_any _ ys w1 (hu.same hb1) hm
      rw [hh] at c2
      clear hh
      go_wp2_with fail
      refine c2.mono ?_
      rintro e w2 ⟨rfl, hb2⟩
      clear c2
      go_wp2
      go_ret
      exact ⟨by rw [HT.out]; rfl, hb1.trans (hb2.mono hb1.size)⟩
  | false =>
    have HT := Lib.hid (show twoB xs ys = false by unfold twoB; rw [hg]; rfl)
    rw [hg] at c
    clear hg
    go_enter Try.func35, Try.ntmps35
    go_wp2_with fail
    refine c.mono ?_
    rintro e w1 ⟨rfl, hb1⟩
    clear c
    go_wp2
    go_ret
    exact ⟨by rw [HT.out]; rfl, hb1⟩

theorem faSeen_any (v u : Value) (xs ys : List Int) (w : World) (hv : OwnI w v xs) (hu : OwnI w u ys) (h2 : Hid (twoB xs ys = true)) :
    Calls Try.prog 37 #[v, u] w fun e w' => ∃ r, e = .returned r ∧ OwnI w' r (seenL xs ys) ∧ From w.heap.size r ∧ Below w.heap.size w w' := by
  obtain ⟨h1, h7, h3, h4⟩ := twoB_iff.1 h2.out
  have HS := Lib.hid (inv_seen h1 h3 h4)
  have HP := Lib.hid (show ∀ k ∈ ys, 1 ≤ k ∧ k ≤ (ys.length : Int) from h3.2.2.1)
  have HQ := Lib.hid (show ∀ k ∈ xs, 1 ≤ k ∧ k ≤ ((invTo ys ys.length).length : Int) by rw [invTo_length, ← h4]; exact h1.2.2.1)
  have h9 := h3.le9
  have hil : (invTo ys ys.length).length ≤ 1048576 := by rw [invTo_length]; omega
  clear h1 h3 h4
  go_enter Try.func37, Try.ntmps37
  go_wp2_with fail
  refine (stInverse_any _ ys _ hu (by omega) HP).mono ?_
  rintro e w1 ⟨r1, rfl, ho1, hf1, hb1⟩
  go_wp2_with fail
  refine (stThen_any _ _ _ xs _ ho1 hil (hv.same hb1) (by omega) HQ).mono ?_
  rintro e w2 ⟨r2, rfl, ho2, hf2, hb2⟩
  go_wp2
  go_ret
  exact ⟨r2, rfl, by rw [← HS.out]; exact ho2, hf2.mono hb1.size, hb1.trans (hb2.mono hb1.size)⟩

set_option maxHeartbeats 1600000 in
set_option maxRecDepth 100000 in
theorem sDistanceBetween_any (v : Value) (xs : List Int) (u : Value) (ys : List Int) (w : World) (hv : OwnI w v xs) (hn : xs.length ≤ 1048576) (hu : OwnI w u ys) (hm : ys.length ≤ 1048576) :
    Calls Try.prog 10 #[v, u] w fun e w' => e = .returned (.tuple #[.int .i64 (mDistanceBetween xs ys), .bool (twoB xs ys)]) ∧ Below w.heap.size w w' := by
  have c := faTwo_any _ _ xs ys w hv hn hu hm
  cases hg : twoB xs ys with
  | true =>
    have HG := Lib.hid hg
    have HM := Lib.hid (show mDistanceBetween xs ys = mStackDistance (seenL xs ys) by unfold mDistanceBetween mStackDistance; rw [if_pos hg, if_pos (seen_farB hg), seen_farS hg])
    have HB := Lib.hid (seen_farB hg)
    have hsl : (seenL xs ys).length ≤ 1048576 := by simpa [seenL] using hn
    rw [hg] at c
    clear hg
    go_enter Try.func10, Try.ntmps10
    go_wp2_with fail
    refine c.mono ?_
    rintro e w1 ⟨rfl, hb1⟩
    clear c
    go_wp2_with fail
    refine (faSeen_any _ _ xs ys _ (hv.same hb1) (hu.same hb1) HG).mono ?_
    rintro e w2 ⟨r, rfl, ho, hf, hb2⟩
    have c2 := sStackDistance_any _ _ w2 ho hsl
    rw [HB.out] at c2
    go_wp2_with fail
    refine c2.mono ?_
    rintro e w3 ⟨rfl, hb3⟩
    have hB2 := hb1.trans (hb2.mono hb1.size)
    clear c2
    go_wp2
    go_ret2
    exact ⟨by rw [HM.out]; rfl, hB2.trans (hb3.mono hB2.size)⟩
  | false =>
    have HM := Lib.hid (show mDistanceBetween xs ys = 0 from if_neg (by rw [hg]; exact Bool.false_ne_true))
    rw [hg] at c
    clear hg
    go_enter Try.func10, Try.ntmps10
    go_wp2_with fail
    refine c.mono ?_
    rintro e w1 ⟨rfl, hb1⟩
    go_wp2
    go_ret2
    exact ⟨by rw [HM.out]; rfl, hb1⟩

theorem farB_good {xs : List Int} (h : farB xs = true) : goodB xs = true := goodB_iff.2 (farB_iff.1 h).1

end Go.Proofs.Ytdlnniciccpchaa

namespace Go.Proofs.Ytdlnniciccpchaa
open Go Go.RowKit Go.Pan

theorem wpList_store3o {P : Program} {ops : Array Oper} {rest : List Oper} {o : Oper} {a : Act} {w : World} {Q : Exit → Act → World → Prop}
    (hgd : o.guard = none) (ty : TypeId) (x y : Operand) (ho : o.op = .store ty x y) (g : Nat) (c0 c1 c2 : Value) (hx : a.eval x = .pointer (some ⟨g, 0, none⟩)) (hy : a.eval y = .agg #[c0, c1, c2])
    (t : TypeId) (old : List Value) (hg : Blk w g t old) (hi : (P.info? ty).map (·.size) = some 3) (hold : old.length = 3) (h1 : c0.oneCell' = true ∧ c1.oneCell' = true ∧ c2.oneCell' = true)
    (h : ∀ w', Blk w' g t [c0, c1, c2] → w.grownBy w' (some g) → wpList P ops Q rest (a.put o.dst undef) w') : wpList P ops Q (o :: rest) a w := by
  refine wpList_store3 hgd ty x y ho g c0 c1 c2 hx hy t old hg hi hold h1 ?_
  exact h _ (hg.setRow [c0, c1, c2]) ⟨rfl, rfl, rfl, by simp [World.setRow], fun k _ hk => setRow_other w g k _ (fun e => hk (by rw [e]))⟩

theorem quiet_left2 {f : FuncId} {args : Array Value} {w : World} {n : Nat} {v : Value} (h : Calls Try.prog f args (w.drewN n) fun e w' => e = .returned v ∧ w.drewN n = w') : Calls Try.prog f args (w.drewN n) fun e w' => e = .returned v ∧ ∃ m, w' = w.drewN m :=
  h.mono fun _ _ ⟨he, hw⟩ => ⟨he, n, hw.symm⟩
theorem faRank_quiet (v : Value) (xs : List Int) (w : World) (hv : OwnI w v xs) (h9 : xs.length ≤ 9) (k : Nat) :
    Calls Try.prog 41 #[v] (w.drewN k) fun e w' => e = .returned (.int .i64 (rankL xs : Nat)) ∧ w.drewN k = w' := faRank_any v xs (w.drewN k) (Own.kept hv fun _ _ => rfl) h9

set_option maxHeartbeats 4000000 in
set_option maxRecDepth 100000 in
theorem faPlan_any (n d : Nat) (v : Value) (xs : List Int) (w : World) (hv : OwnI w v xs) (hn : Hid (Cnt n)) (h7 : n ≤ 7) (hs : Hid (St n xs)) (hd : Hid (far n xs (ramp 1 n) = d)) :
    Calls Try.prog 36 #[v] w fun e w' => ∃ r, e = .returned r ∧ OwnI w' r (goL n (ramp 1 n) d xs) ∧ From w.heap.size r ∧ Below w.heap.size w w' := by
  obtain ⟨ad, cap, rfl, _, _, _⟩ := hv.shape
  have hl := hs.out.2
  have HT := Lib.hid (show St n (ramp 1 n) from hn.out.home)
  have hl9 : xs.length ≤ 9 := by omega
  have hdb : d ≤ 2 * n := by rw [← hd.out]; exact (far_spec hs.out HT.out).2.1
  rw [hl] at hv
  rw [hl]
  clear hl
  have c1 := faAll_any n w hn h7
  go_enter Try.func36, Try.ntmps36
  go_wp2_with fail
  refine c1.mono ?_
  rintro e w1 ⟨a, c, s, S, rfl, HR, hb1⟩
  clear c1
  have hz : Blk (w1.alloc (.cells #[.slice none 0 0, .slice none 0 0, .slice none 0 0] 62)) w1.heap.size 62 [.slice none 0 0, .slice none 0 0, .slice none 0 0] := Blk.new _ _ [.slice none 0 0, .slice none 0 0, .slice none 0 0] _ rfl
  go_upto_region 3 with (refine wpList_store3o rfl 62 _ _ rfl w1.heap.size _ _ _ rfl rfl 62 _ hz (by kernel_rfl) rfl ⟨rfl, rfl, rfl⟩ ?_; intro w3 hbl hg3)
  have hb13 : Below w1.heap.size w1 w3 := (below_new w1 _).grown hg3 (by simp) (by intro k hk; cases hk; exact Nat.le_refl _)
  have HR3 := HR.below hb13 (Nat.le_refl _)
  have hB3 := hb1.trans (hb13.mono hb1.size)
  have hl0 : w3.cell? ⟨w1.heap.size, 0, none⟩ = some (.slice (some ⟨a, 0, none⟩) (fact n) (fact n)) := by rw [hbl.cell 0]; rfl
  have hbl1 := hbl.lt
  obtain ⟨bl, hbe⟩ : ∃ b, w1.heap.size = b := ⟨_, rfl⟩
  rw [hbe] at hl0 hbl1 ⊢
  have hz3 : w.heap.size ≤ w3.heap.size := hB3.size
  have hv3 : OwnI w3 (.slice ad n cap) xs := (show OwnI w (.slice ad n cap) xs from hv).same hB3
  have hrl := rank_lt hs.out
  obtain ⟨h1, _, hal, _⟩ := HR3.at hrl
  rw [dS_rank hn.out hs.out, hd.out] at h1
  have hrl' : (rankL xs : Int) < fact n := by omega
  have HR4 := Lib.hid HR3
  clear hb1 HR hz hg3 hb13 HR3 hbl hbe
  go_quiet ((go_at_call 41; exact quiet_left2 (faRank_quiet _ xs w3 hv3 hl9 _)))
  have hp0 := Lib.hid (PathAt.start hs.out hd.out)
  clear h1 hrl'
  go_wp2
  go_loopw [0, 4, 5, 6, 7] (fun sv ov fv _ _ wr => ∃ (i e : Nat) (q out : List Int) (qa : Option Addr) (qc : Nat), sv = .slice qa n qc ∧ fv = .int .i64 e ∧ i + e = d ∧ OwnI wr (.slice qa n qc) q ∧ OwnI wr ov out ∧ From w3.heap.size ov ∧ Hid (PathAt n xs (ramp 1 n) d i q out) ∧ Below w3.heap.size w3 wr) (fun _ _ fv _ _ _ => (intOf fv).toNat)
  case atStart => exact ⟨0, d, xs, [], ad, cap, rfl, rfl, by omega, hv3.kept (fun _ _ => rfl), OwnI.nil _, From.nil _ _ _, hp0, (Below.refl w3.heap.size w3).drewN _⟩
  case round =>
    obtain ⟨i, e, q, out, qa, qc, rfl, rfl, hie, hq, ho, hf, hp, hbr⟩ := hrel
    clear hp0 hv hv3
    obtain ⟨wo, hwo⟩ : ∃ wo, wo = wr := ⟨_, rfl⟩
    subst hwo
    by_cases he : 0 < e
    · have he' : (0 : Int) < e := by omega
      have hie' : i < d := by omega
      have HQ := Lib.hid hp.out.st
      have HF := Lib.hid (firK_spec hp.out.st HT.out (hp.out.more hie'))
      have HL := Lib.hid (fun j hj hl => firK_least (j := j) hp.out.st HT.out (hp.out.more hie') hj hl)
      have HE := Lib.hid (show far n q (ramp 1 n) = e by have := hp.out.ah; omega)
      have heb : e ≤ 2 * n := by rw [← HE.out]; exact (far_spec HQ.out HT.out).2.1
      have HPN := Lib.hid (hp.out.next hs.out HT.out hd.out hie')
      obtain ⟨f, hfe⟩ : ∃ f, firK n (ramp 1 n) q = f := ⟨_, rfl⟩
      rw [hfe] at HF HL HPN
      have hf2 : 2 ≤ f := HF.out.1.1
      have hfn : f ≤ n := HF.out.1.2
      have hl0r : wo.cell? ⟨bl, 0, none⟩ = some (.slice (some ⟨a, 0, none⟩) (fact n) (fact n)) := (hbr.cell (p := ⟨bl, 0, none⟩) hbl1).trans hl0
      have hqn : q.length = n := HQ.out.2
      have HQN := Lib.hid hqn
      have hqm : q.length ≤ 1048576 := by omega
      clear hfe hqn
      go_wp2
      go_loopw [0, 4, 6, 7] (fun sv ow kv _ w5 => ∃ K : Nat, sv = .slice qa n qc ∧ ow = u4 ∧ kv = .int .i64 K ∧ 2 ≤ K ∧ K ≤ f ∧ Below wo.heap.size wo w5) (fun _ _ kv _ _ => n + 1 - (intOf kv).toNat)
      case atStart => exact ⟨2, rfl, rfl, rfl, Nat.le_refl _, hf2, Below.refl _ _⟩
      case round =>
        obtain ⟨K, rfl, rfl, rfl, hK2, hKf, hb5⟩ := hrel
        have hKn : (K : Int) ≤ n := by omega
        have hkk := mem_ks.2 ⟨hK2, Nat.le_trans hKf hfn⟩
        have hst := HQ.out.turn K
        have HST := Lib.hid hst
        have hrk := rank_lt hst
        have hb35 := hbr.trans (hb5.mono hbr.size)
        have hq5 := hq.same hb5
        have hl5 : wr.cell? ⟨bl, 0, none⟩ = some (.slice (some ⟨a, 0, none⟩) (fact n) (fact n)) := (hb5.cell (p := ⟨bl, 0, none⟩) (Nat.lt_of_lt_of_le hbl1 hbr.size)).trans hl0r
        have HR5 := Lib.hid (HR4.out.below hb35 (Nat.le_refl _))
        have hKq : K ≤ q.length := by have := HQN.out; omega
        have c4 := stTurn_any (.slice qa n qc) q K wr hq5 hqm hKq
        have ht9 : (turnL q K).length ≤ 9 := hst.1.le9
        clear hst
        go_wp2_with fail
        refine c4.mono ?_
        rintro e w6 ⟨r, rfl, hor, hfr, hb6⟩
        clear c4
        have HR6 := HR5.out.below hb6 (Nat.le_refl _)
        have hl6 : w6.cell? ⟨bl, 0, none⟩ = some (.slice (some ⟨a, 0, none⟩) (fact n) (fact n)) := (hb6.cell (p := ⟨bl, 0, none⟩) (Nat.lt_of_lt_of_le hbl1 hb35.size)).trans hl5
        obtain ⟨h1, _, _, _⟩ := HR6.at hrk
        rw [dS_rank hn.out HST.out] at h1
        have hrk' : (rankL (turnL q K) : Int) < fact n := by omega
        obtain ⟨x, hx⟩ : ∃ x, far n (turnL q K) (ramp 1 n) = x := ⟨_, rfl⟩
        have HX := Lib.hid hx
        rw [hx] at h1
        have hs1 := IntWalk.i64_in ((e : Int) - 1) (by omega)
        have hq6 := hq5.same hb6
        have ho6 := (ho.same hb5).same hb6
        have hb36 := hb35.trans (hb6.mono hb35.size)
        have hb56 := hb5.trans (hb6.mono hb5.size)
        have hrn : ∃ ra rc, r = .slice ra n rc := by
          obtain ⟨ra, rc, rfl, _, _, _⟩ := hor.shape
          exact ⟨ra, rc, by rw [HST.out.2]⟩
        obtain ⟨ra, rc, rfl⟩ := hrn
        have hzz := hb5.size
        clear hx hl5 hq5 hb5 hb6 hb35 HR6
        go_wp2_with fail
        go_quiet ((go_at_call 41; exact quiet_left2 (faRank_quiet _ (turnL q K) w6 hor ht9 _)))
        obtain ⟨w8, hw8⟩ : ∃ w8, w8 = w6.drewN nq := ⟨_, rfl⟩
        rw [← hw8]
        have ho8 : OwnI w8 u4 out := ho6.kept (fun _ _ => by rw [hw8]; rfl)
        have hq8 : OwnI w8 (.slice qa n qc) q := hq6.kept (fun _ _ => by rw [hw8]; rfl)
        have hr8 : OwnI w8 (.slice ra n rc) (turnL q K) := hor.kept (fun _ _ => by rw [hw8]; rfl)
        have hb38 : Below w3.heap.size w3 w8 := by rw [hw8]; exact hb36.drewN _
        have hb58 : Below wo.heap.size wo w8 := by rw [hw8]; exact hb56.drewN _
        have hz8 : w3.heap.size ≤ w8.heap.size := hb38.size
        have hol := ho.lt
        clear ho6 hq6 hor hb36 hb56 hw8 hl6 h1
        by_cases hxe : (x : Int) = (e : Int) - 1
        · have hKe : K = f := by
            rcases Nat.lt_or_ge K f with h | h
            · have h2 := HL.out K hkk h
              unfold clo at h2
              rw [HX.out, HE.out] at h2
              have h3 := of_decide_eq_false h2
              omega
            · omega
          subst hKe
          have hlen : out.length ≤ 1048576 := by have := hp.out.len; omega
          go_wp2_with (at_builtin; refine wpList_app1 Try.intSl rfl _ _ rfl _ out rfl (ho8.alloc _) w3.heap.size hf w8.heap.size (K : Int) rfl ?c1 w3 (hb38.alloc hz8 _) ?c2 hlen ?_)
          case c1 => simp [go_sem]
          case c2 => simp; omega
          intro v' w9 ho9 hf9 hb9 hg9
          have hr9 : OwnI w9 (.slice ra n rc) (turnL q K) := (hr8.alloc (.cells #[.int .i64 (K : Int)] 3)).grown hg9 (fun g hg e => by have := hol g e; have h2 := hfr g hg; omega)
          clear ho8 hr8 hq8 hb38 hg9
          go_wp2
          go_roundw
          case rel => exact ⟨i + 1, e - 1, turnL q K, out ++ [(K : Int)], ra, rc, rfl, by go_num, by omega, hr9, ho9, hf9, HPN, hb9⟩
          case measure => simp [intOf] <;> omega
        · have hKe : K < f := by
            rcases Nat.lt_or_ge K f with h | h
            · exact h
            · have h2 : K = f := by omega
              have h3 := HF.out.2
              rw [← h2, HX.out] at h3
              omega
          go_wp2
          go_roundw
          case rel => exact ⟨K + 1, rfl, rfl, by go_num, by omega, by omega, hb58⟩
          case measure => simp [intOf] <;> omega
    · have he0 : e = 0 := by omega
      subst he0
      obtain rfl : i = d := by omega
      have HG := Lib.hid hp.out.last
      clear hp
      go_wp2
      go_ret
      exact ⟨_, rfl, by rw [← HG.out]; exact ho, hf.mono hz3, hB3.trans (hbr.mono hz3)⟩

set_option maxHeartbeats 1600000 in
set_option maxRecDepth 100000 in
theorem sPlanBetween_any (v : Value) (xs : List Int) (u : Value) (ys : List Int) (w : World) (hv : OwnI w v xs) (hn : xs.length ≤ 1048576) (hu : OwnI w u ys) (hm : ys.length ≤ 1048576) :
    Calls Try.prog 8 #[v, u] w fun e w' => ∃ r, e = .returned (.tuple #[r, .bool (twoB xs ys)]) ∧ OwnI w' r (mPlanBetween xs ys) ∧ From w.heap.size r ∧ Below w.heap.size w w' := by
  have c := faTwo_any _ _ xs ys w hv hn hu hm
  cases hg : twoB xs ys with
  | true =>
    have HG := Lib.hid hg
    obtain ⟨hG, h7, hH, hl⟩ := twoB_iff.1 hg
    have hsl : (seenL xs ys).length = xs.length := by simp [seenL]
    have hS := seenL_good hG hH hl
    have HC := Lib.hid hG.cnt
    have HS := Lib.hid (show St xs.length (seenL xs ys) from ⟨hS, hsl⟩)
    have HD := Lib.hid (show far xs.length (seenL xs ys) (ramp 1 xs.length) = far2 xs ys from far_seen hG hH hl xs.length hl.symm)
    have HM := Lib.hid (show mPlanBetween xs ys = goL xs.length (ramp 1 xs.length) (far2 xs ys) (seenL xs ys) by
      rw [goL_seen ⟨hH, hl.symm⟩ _ xs hG.st]
      exact if_pos hg)
    obtain ⟨ad, cap, rfl, _, _, _⟩ := hv.shape
    obtain ⟨ad2, cap2, rfl, _, _, _⟩ := hu.shape
    rw [hg] at c
    clear hg hG hH hl hsl hS
    go_enter Try.func8, Try.ntmps8
    go_wp2_with fail
    refine c.mono ?_
    rintro e w1 ⟨rfl, hb1⟩
    clear c
    go_wp2_with fail
    refine (faSeen_any _ _ xs ys _ (hv.same hb1) (hu.same hb1) HG).mono ?_
    rintro e w2 ⟨r, rfl, ho, hf, hb2⟩
    have hB2 := hb1.trans (hb2.mono hb1.size)
    have c2 := faPlan_any xs.length (far2 xs ys) _ (seenL xs ys) w2 ho HC h7 HS HD
    go_wp2_with fail
    refine c2.mono ?_
    rintro e w3 ⟨r3, rfl, ho3, hf3, hb3⟩
    go_wp2
    go_ret2
    exact ⟨_, rfl, by rw [HM.out]; exact ho3, hf3.mono hB2.size, hB2.trans (hb3.mono hB2.size)⟩
  | false =>
    have HM := Lib.hid (show mPlanBetween xs ys = [] from if_neg (by rw [hg]; exact Bool.false_ne_true))
    rw [hg] at c
    obtain ⟨ad, cap, rfl, _, _, _⟩ := hv.shape
    obtain ⟨ad2, cap2, rfl, _, _, _⟩ := hu.shape
    clear hg
    go_enter Try.func8, Try.ntmps8
    go_wp2_with fail
    refine c.mono ?_
    rintro e w1 ⟨rfl, hb1⟩
    go_wp2
    go_ret2
    exact ⟨_, rfl, by rw [HM.out]; exact OwnI.nil _, From.nil _ _ _, hb1⟩

theorem turnL_one (q : List Int) : turnL q 1 = q := by cases q <;> simp [turnL]
theorem clo_one (n : Nat) (t q : List Int) : clo n t q 1 = false := by unfold clo; rw [turnL_one]; simp
theorem clo_lt {n : Nat} {t q : List Int} (hq : St n q) (ht : St n t) {k : Nat} (h1 : 1 ≤ k) (hn : k ≤ n) : decide (far n (turnL q k) t < far n q t) = clo n t q k := by
  by_cases e : k = 1
  · subst e
    rw [clo_one, turnL_one]
    simp
  · have h := far_one (mem_ks.2 ⟨by omega, hn⟩) ht hq
    rw [far_symm ht hq, far_symm ht (hq.turn k)] at h
    unfold clo
    rw [Bool.eq_iff_iff]
    simp
    omega

end Go.Proofs.Ytdlnniciccpchaa

namespace Go.Pan
theorem countP_split {α : Type} (l : List α) (p q r : α → Bool) (h : ∀ x ∈ l, p x = (q x || r x) ∧ (q x && r x) = false) : l.countP p = l.countP q + l.countP r := by
  induction l with
  | nil => rfl
  | cons a l ih =>
    have h1 := h a (by simp)
    have h2 := ih (fun x hx => h x (by simp [hx]))
    simp only [List.countP_cons, h2, h1.1]
    cases hq : q a <;> cases hr : r a
    · simp
    · simp; omega
    · simp; omega
    · have := h1.2; rw [hq, hr] at this; cases this
/-- on a least way from s to t, and less than i turns from s -/
def midTo (n : Nat) (s t : List Int) (d i : Nat) : Nat := (allS n).countP fun q => decide (far n s q + far n q t = d ∧ far n s q < i)
def midB (n : Nat) (s t : List Int) (d : Nat) (q : List Int) : Bool := decide (far n s q + far n q t = d)
def midL (n : Nat) (s t : List Int) (d : Nat) : Nat := (allS n).countP (midB n s t d)
theorem midTo_zero (n : Nat) (s t : List Int) (d : Nat) : midTo n s t d 0 = 0 := by simp [midTo]
theorem midTo_succ {n : Nat} (hn : Cnt n) {s t : List Int} (hs : St n s) {d i : Nat} (hi : i ≤ d) : midTo n s t d (i + 1) = midTo n s t d i + (allS n).countP (fun q => decide (0 < wayC n s t i (d - i) q)) := by
  refine countP_split _ _ _ _ fun q hq => ?_
  have hst := (mem_allS hn.pos hn.le).1 hq
  have h1 := wayC_pos (t := t) (i := i) (j := d - i) hs hst
  constructor
  · rw [Bool.eq_iff_iff]
    simp only [Bool.or_eq_true, decide_eq_true_iff]
    rw [h1]
    omega
  · rw [← Bool.not_eq_true, Bool.and_eq_true, decide_eq_true_iff, decide_eq_true_iff, h1]
    omega
theorem midTo_all (n : Nat) (s t : List Int) (d : Nat) : midTo n s t d (d + 1) = midL n s t d := by
  refine List.countP_congr fun q _ => ?_
  simp only [midB, decide_eq_true_iff]
  omega
theorem midTo_le (n : Nat) (s t : List Int) (d i : Nat) : midTo n s t d i ≤ fact n := by
  unfold midTo
  have := List.countP_le_length (p := fun q => decide (far n s q + far n q t = d ∧ far n s q < i)) (l := allS n)
  rwa [allS_length] at this
def mMiddleStacks (xs ys : List Int) : Int := if twoB xs ys = true then (midL xs.length xs ys (far2 xs ys) : Int) else 0
def maxN (l : List Nat) : Nat := l.foldr max 0
theorem le_maxN {l : List Nat} {x : Nat} (h : x ∈ l) : x ≤ maxN l := by
  induction l with
  | nil => cases h
  | cons a l ih =>
    simp only [maxN, List.foldr_cons]
    rcases List.mem_cons.1 h with rfl | h
    · exact Nat.le_max_left _ _
    · exact Nat.le_trans (ih h) (Nat.le_max_right _ _)
theorem maxN_mem {l : List Nat} (h : l ≠ []) : maxN l ∈ l := by
  induction l with
  | nil => exact absurd rfl h
  | cons a l ih =>
    simp only [maxN, List.foldr_cons]
    by_cases e : l = []
    · subst e; simp
    · have h1 := ih e
      rcases Nat.le_total a (maxN l) with h2 | h2
      · rw [show max a (List.foldr max 0 l) = maxN l from Nat.max_eq_right h2]
        exact List.mem_cons_of_mem _ h1
      · rw [show max a (List.foldr max 0 l) = a from Nat.max_eq_left h2]
        simp
/-- the greatest distance -/
def ecc (n : Nat) : Nat := maxN ((allS n).map (far n (ramp 1 n)))
/-- how many stacks are so far -/
def byN (n e : Nat) : Nat := (allS n).countP fun q => decide (0 < nearC n (ramp 1 n) e q)
section
variable {n : Nat} (hn : Cnt n)
include hn
theorem far_ecc {q : List Int} (hq : St n q) : far n (ramp 1 n) q ≤ ecc n := le_maxN (List.mem_map.2 ⟨q, (mem_allS hn.pos hn.le).2 hq, rfl⟩)
theorem ecc_at : ∃ q, St n q ∧ far n (ramp 1 n) q = ecc n := by
  have h1 : (allS n).map (far n (ramp 1 n)) ≠ [] := by
    intro e
    have h2 := congrArg List.length e
    rw [List.length_map, allS_length] at h2
    have h3 := fact_pos n
    simp at h2
    omega
  obtain ⟨q, hq, e⟩ := List.mem_map.1 (maxN_mem h1)
  exact ⟨q, (mem_allS hn.pos hn.le).1 hq, e⟩
theorem ecc_le : ecc n ≤ 2 * n := by
  obtain ⟨q, hq, e⟩ := ecc_at hn
  rw [← e]
  exact (far_spec hn.home hq).2.1
theorem byN_pos (e : Nat) : 0 < byN n e ↔ e ≤ ecc n := by
  unfold byN
  rw [List.countP_pos_iff]
  constructor
  · rintro ⟨q, hq, h⟩
    have hst := (mem_allS hn.pos hn.le).1 hq
    have h1 := (nearC_pos hn.home hst).1 (of_decide_eq_true h)
    rw [← h1]
    exact far_ecc hn hst
  · intro h
    obtain ⟨q, hq, he⟩ := ecc_at hn
    obtain ⟨u, hu, h1, _⟩ := far_mid (a := e) (b := ecc n - e) hn.home hq (by omega)
    exact ⟨u, (mem_allS hn.pos hn.le).2 hu, decide_eq_true ((nearC_pos hn.home hu).2 h1)⟩
end
theorem byN_le (n e : Nat) : byN n e ≤ fact n := by
  have h := List.countP_le_length (p := fun q => decide (0 < nearC n (ramp 1 n) e q)) (l := allS n)
  rwa [allS_length] at h
def byL (n : Nat) : List Int := (List.range (ecc n + 1)).map fun e => (byN n e : Int)
/-- the counts written up to k -/
def byTo (n k : Nat) : List Int := (List.range (ecc n + 1)).map fun e => if e < k then (byN n e : Int) else 0
theorem byTo_length (n k : Nat) : (byTo n k).length = ecc n + 1 := by simp [byTo]
theorem byTo_zero (n : Nat) : byTo n 0 = List.replicate (ecc n + 1) 0 := by
  simp only [byTo, Nat.not_lt_zero, if_false]
  rw [List.map_const', List.length_range]
theorem byTo_set {n k : Nat} (_h : k ≤ ecc n) : (byTo n k).set k (byN n k : Int) = byTo n (k + 1) := by
  apply List.ext_getElem (by simp [byTo])
  intro i h1 h2
  have hi : i < ecc n + 1 := by simpa [byTo] using h2
  simp only [byTo, List.getElem_set, List.getElem_map, List.getElem_range]
  by_cases e : k = i
  · subst e; simp
  · rw [if_neg e]
    by_cases h : i < k
    · rw [if_pos h, if_pos (by omega)]
    · rw [if_neg h, if_neg (by omega)]
theorem byTo_all (n : Nat) : byTo n (ecc n + 1) = byL n := by
  apply List.ext_getElem (by simp [byTo, byL])
  intro i h1 h2
  have hi : i < ecc n + 1 := by simpa [byTo] using h1
  simp [byTo, byL, hi]
def mCountByTurns (n : Int) : List Int := if inB n 1 7 = true then byL n.toNat else []
def mWorstDistance (n : Int) : Int := if inB n 1 7 = true then (ecc n.toNat : Int) else 0
theorem inB_nat {n : Int} (h : inB n 1 7 = true) : ∃ m : Nat, n = (m : Int) ∧ Cnt m ∧ m ≤ 7 := by
  simp [inB] at h
  exact ⟨n.toNat, by omega, ⟨by omega, by omega⟩, by omega⟩
theorem len_mCountByTurns (n : Int) : (mCountByTurns n).length ≤ 1048576 := by
  unfold mCountByTurns
  split
  · rename_i h
    obtain ⟨m, rfl, hm, h7⟩ := inB_nat h
    have := ecc_le hm
    simp [byL]
    omega
  · simp
/-- how many of the first i ranks have the distance e, and the counts up to K -/
def cntN (n i e : Nat) : Nat := (List.range i).countP fun r => decide (dS n r = e)
def lenN (n i : Nat) : Nat := maxN ((List.range i).map fun r => dS n r + 1)
def outS (n i K : Nat) : List Int := (List.range K).map fun e => (cntN n i e : Int)
theorem outS_length (n i K : Nat) : (outS n i K).length = K := by simp [outS]
theorem cntN_zero {n i e : Nat} (h : lenN n i ≤ e) : cntN n i e = 0 := by
  unfold cntN
  rw [List.countP_eq_zero]
  intro r hr hd
  have h1 := of_decide_eq_true hd
  have h2 : dS n r + 1 ≤ lenN n i := le_maxN (List.mem_map.2 ⟨r, hr, rfl⟩)
  omega
theorem outS_grow {n i K : Nat} (h : lenN n i ≤ K) : outS n i (K + 1) = outS n i K ++ [0] := by
  simp [outS, List.range_succ, cntN_zero h]
theorem cntN_succ (n i e : Nat) : cntN n (i + 1) e = cntN n i e + if dS n i = e then 1 else 0 := by
  simp [cntN, List.range_succ, List.countP_append, List.countP_cons]
theorem maxN_snoc (l : List Nat) (x : Nat) : maxN (l ++ [x]) = max (maxN l) x := by
  induction l with
  | nil => simp [maxN]
  | cons a l ih =>
    simp only [maxN, List.cons_append, List.foldr_cons] at ih ⊢
    rw [ih, Nat.max_assoc]
theorem lenN_succ (n i : Nat) : lenN n (i + 1) = max (lenN n i) (dS n i + 1) := by
  unfold lenN
  rw [List.range_succ, List.map_append]
  exact maxN_snoc _ _
theorem outS_set {n i K x : Nat} (hx : dS n i = x) : (outS n i K).set x ((cntN n i x : Int) + 1) = outS n (i + 1) K := by
  apply List.ext_getElem (by simp [outS])
  intro j h1 h2
  have hj : j < K := by simpa [outS] using h2
  simp only [outS, List.getElem_set, List.getElem_map, List.getElem_range, cntN_succ, hx]
  by_cases e : x = j
  · subst e; simp
  · simp [e]
theorem outS_get {n i K x : Nat} (hK : x < K) : (outS n i K)[x]'(by rw [outS_length]; exact hK) = (cntN n i x : Int) := by simp [outS]
theorem allS_ranks (n : Nat) : allS n = (List.range (fact n)).map (unrank n) := by
  apply List.ext_getElem (by simp [allS_length])
  intro i h1 h2
  have hi : i < fact n := by simpa using h2
  have h := unrank_get hi
  rw [List.getElem?_eq_getElem h1] at h
  simpa using Option.some.inj h
theorem lenN_all (n : Nat) : lenN n (fact n) = ecc n + 1 := by
  have h1 : ∀ l : List Nat, l ≠ [] → maxN (l.map (· + 1)) = maxN l + 1 := by
    intro l hl
    induction l with
    | nil => exact absurd rfl hl
    | cons a l ih =>
      by_cases e : l = []
      · subst e; simp [maxN]
      · have := ih e
        simp only [maxN, List.map_cons, List.foldr_cons] at this ⊢
        rw [this]
        omega
  have h2 : ((allS n).map (far n (ramp 1 n))) = (List.range (fact n)).map (dS n) := by
    rw [allS_ranks, List.map_map]
    rfl
  unfold lenN ecc
  rw [h2, ← h1, List.map_map]
  · rfl
  · intro e
    have h3 := congrArg List.length e
    have h4 := fact_pos n
    simp at h3
    omega
theorem cntN_all {n : Nat} (hn : Cnt n) (e : Nat) : cntN n (fact n) e = byN n e := by
  unfold cntN byN
  rw [allS_ranks, List.countP_map]
  refine List.countP_congr fun r hr => ?_
  have hst := unrank_st hn.pos hn.le (List.mem_range.1 hr)
  simp only [Function.comp, decide_eq_true_iff]
  exact (nearC_pos hn.home hst).symm
theorem outS_all {n : Nat} (hn : Cnt n) : outS n (fact n) (ecc n + 1) = byL n := by
  unfold outS byL
  exact List.map_congr_left fun e _ => by rw [cntN_all hn]
theorem cntN_le (n i e : Nat) : cntN n i e ≤ i := by
  have h := List.countP_le_length (p := fun r => decide (dS n r = e)) (l := List.range i)
  simpa [cntN] using h
theorem lenN_le {n : Nat} {i : Nat} (hi : i ≤ fact n) : lenN n i ≤ ecc n + 1 := by
  rw [← lenN_all n]
  by_cases h : (List.range i).map (fun r => dS n r + 1) = []
  · unfold lenN; rw [h]; exact Nat.zero_le _
  · obtain ⟨r, hr, e⟩ := List.mem_map.1 (maxN_mem h)
    unfold lenN
    rw [← e]
    exact le_maxN (List.mem_map.2 ⟨r, List.mem_range.2 (by have := List.mem_range.1 hr; omega), rfl⟩)

end Go.Pan

namespace Go.Proofs.Ytdlnniciccpchaa
open Go Go.RowKit Go.Pan

theorem FAR.farAt {n : Nat} {w : World} {a c s : Nat} {S : List Value} (h : FAR n w (.slice (some ⟨a, 0, none⟩) (fact n) (fact n)) (.slice (some ⟨c, 0, none⟩) (fact n) (fact n)) (.slice (some ⟨s, 0, none⟩) (fact n) (fact n)) S) (hn : Cnt n) {q : List Int} (hq : St n q) :
    w.cell? ⟨a, rankL q, none⟩ = some (iv (Pan.far n q (ramp 1 n) : Nat)) ∧ a < w.heap.size := by
  obtain ⟨h1, _, h2, _⟩ := h.at (rank_lt hq)
  rw [dS_rank hn hq] at h1
  exact ⟨h1, h2⟩
theorem countP_next {n i : Nat} (p : List Int → Bool) (hi : i < fact n) : ((allS n).take (i + 1)).countP p = ((allS n).take i).countP p + if p (unrank n i) = true then 1 else 0 := by
  have hl : i < (allS n).length := by rw [allS_length]; exact hi
  have hu := unrank_get hi
  rw [List.getElem?_eq_getElem hl] at hu
  rw [List.take_succ_eq_append_getElem hl, List.countP_append, Option.some.inj hu]
  simp [List.countP_cons]

set_option maxHeartbeats 4000000 in
set_option maxRecDepth 100000 in
theorem sMiddleStacks_any (v : Value) (xs : List Int) (u : Value) (ys : List Int) (w : World) (hv : OwnI w v xs) (hn : xs.length ≤ 1048576) (hu : OwnI w u ys) (hm : ys.length ≤ 1048576) :
    Calls Try.prog 12 #[v, u] w fun e w' => e = .returned (.tuple #[.int .i64 (mMiddleStacks xs ys), .bool (twoB xs ys)]) ∧ Below w.heap.size w w' := by
  have c := faTwo_any _ _ xs ys w hv hn hu hm
  cases hg : twoB xs ys with
  | true =>
    have HG := Lib.hid hg
    obtain ⟨hG, h7, hH, hl⟩ := twoB_iff.1 hg
    have HM := Lib.hid (show mMiddleStacks xs ys = (midL xs.length xs ys (far2 xs ys) : Int) from if_pos hg)
    have hS := seenL_good hG hH hl
    have hsl : (seenL xs ys).length = xs.length := by simp [seenL]
    have HC := Lib.hid hG.cnt
    have HX := Lib.hid hG.st
    have HY := Lib.hid (show St xs.length ys from ⟨hH, hl.symm⟩)
    have HXY := Lib.hid (show St xs.length (seenL xs ys) from ⟨hS, hsl⟩)
    have HD := Lib.hid (show far xs.length (seenL xs ys) (ramp 1 xs.length) = far2 xs ys from far_seen hG hH hl xs.length hl.symm)
    have hs9 : (seenL xs ys).length ≤ 9 := hS.le9
    obtain ⟨ad, cap, rfl, _, _, _⟩ := hv.shape
    obtain ⟨ad2, cap2, rfl, _, _, _⟩ := hu.shape
    rw [hg] at c
    obtain ⟨d, hd⟩ : ∃ d, far2 xs ys = d := ⟨_, rfl⟩
    have hdd : d ≤ 2 * xs.length := by rw [← hd]; exact (far_spec hG.st ⟨hH, hl.symm⟩).2.1
    rw [hd] at HM HD
    obtain ⟨n, hnn⟩ : ∃ n, xs.length = n := ⟨_, rfl⟩
    have HN := Lib.hid hnn
    have hyn : ys.length = n := by omega
    have HYN := Lib.hid hyn
    rw [hnn] at HM HC HX HY HXY HD h7 hv c hdd
    rw [hyn] at hu c
    rw [hnn, hyn]
    clear hG hg hH hl hS hsl hd hnn hyn
    go_enter Try.func12, Try.ntmps12
    go_wp2_with fail
    refine c.mono ?_
    rintro e w0 ⟨rfl, hb0⟩
    clear c
    have c1 := faAll_any n w0 HC h7
    go_wp2_with fail
    refine c1.mono ?_
    rintro e w1 ⟨a, c, s, S, rfl, HR, hb1⟩
    clear c1
    have hz : Blk (w1.alloc (.cells #[.slice none 0 0, .slice none 0 0, .slice none 0 0] 62)) w1.heap.size 62 [.slice none 0 0, .slice none 0 0, .slice none 0 0] := Blk.new _ _ [.slice none 0 0, .slice none 0 0, .slice none 0 0] _ rfl
    go_upto_region 4 with (refine wpList_store3o rfl 62 _ _ rfl w1.heap.size _ _ _ rfl rfl 62 _ hz (by kernel_rfl) rfl ⟨rfl, rfl, rfl⟩ ?_; intro w3 hbl hg3)
    have hb13 : Below w1.heap.size w1 w3 := (below_new w1 _).grown hg3 (by simp) (by intro k hk; cases hk; exact Nat.le_refl _)
    have HR3 := HR.below hb13 (Nat.le_refl _)
    have hB1 := hb0.trans (hb1.mono hb0.size)
    have hB3 := hB1.trans (hb13.mono hB1.size)
    have hl0 : w3.cell? ⟨w1.heap.size, 0, none⟩ = some (.slice (some ⟨a, 0, none⟩) (fact n) (fact n)) := by rw [hbl.cell 0]; rfl
    have hl2 : w3.cell? ⟨w1.heap.size, 2, none⟩ = some (.slice (some ⟨s, 0, none⟩) (fact n) (fact n)) := by rw [hbl.cell 2]; rfl
    have hbl1 := hbl.lt
    obtain ⟨bl, hbe⟩ : ∃ b, w1.heap.size = b := ⟨_, rfl⟩
    rw [hbe] at hl0 hl2 hbl1 ⊢
    have hz3 : w.heap.size ≤ w3.heap.size := hB3.size
    have hv3 : OwnI w3 (.slice ad n cap) xs := (show OwnI w (.slice ad n cap) xs from hv).same hB3
    have hu3 : OwnI w3 (.slice ad2 n cap2) ys := (show OwnI w (.slice ad2 n cap2) ys from hu).same hB3
    obtain ⟨h1, hal⟩ := HR3.farAt HC.out HXY.out
    rw [HD.out] at h1
    have hrk := rank_lt HXY.out
    have hrk' : (rankL (seenL xs ys) : Int) < fact n := by omega
    have hfl := fact_le (n := n) (by omega)
    have HR4 := Lib.hid HR3
    clear hb0 hb1 HR hz hg3 hb13 HR3 hbl hbe hB1 hv hu
    try simp only [List.getElem_toArray, List.getElem_cons_zero, List.getElem_cons_succ, Act.put, List.setIfInBounds_toArray, List.set_cons_zero, List.set_cons_succ]
    go_cut [7] (fun s7 wx => s7 = .int .i64 d ∧ Below w3.heap.size w3 wx)
    case first =>
      refine wp_region_held_drew (S := (fun w' => w'.cell? ⟨bl, 0, none⟩ = some (.slice (some ⟨a, 0, none⟩) (fact n) (fact n)) ∧ w'.cell? ⟨a, rankL (seenL xs ys), none⟩ = some (iv (d : Int)))) (by kernel_rfl) (⟨hl0, h1⟩) (fun hHeld => ?_)
      refine wpAnyH_take (i := 0) (v := ?_) rfl (by kernel_rfl) (by kernel_rfl) (by kernel_rfl) (fun _ _ _ h => h) (Or.inl ⟨by rfl, ?_⟩) (by assumption) ?_
      rotate_left
      · intro w _; go_simp; with_reducible rfl
      try simp only [List.getElem_toArray, List.getElem_cons_zero, Act.put, List.setIfInBounds_toArray, List.set_cons_zero, List.set_cons_succ]
      refine wpAnyH_take (i := 1) (v := ?_) rfl (by kernel_rfl) (by kernel_rfl) (by kernel_rfl) (fun _ _ _ h => h) (Or.inl ⟨by rfl, ?_⟩) (by assumption) ?_
      rotate_left
      · intro w hSw; (try dsimp only at hSw); (go_simp <;> with_reducible rfl)
      try simp only [List.getElem_toArray, List.getElem_cons_zero, List.getElem_cons_succ, Act.put, List.setIfInBounds_toArray, List.set_cons_zero, List.set_cons_succ]
      refine wpAnyH_take (i := 2) (v := ?_) rfl (by kernel_rfl) (by kernel_rfl) (by kernel_rfl) (fun _ _ _ h => h) (Or.inl ⟨by rfl, ?_⟩) (by assumption) ?_
      rotate_left
      · intro w _; go_simp; with_reducible rfl
      try simp only [List.getElem_toArray, List.getElem_cons_zero, List.getElem_cons_succ, Act.put, List.setIfInBounds_toArray, List.set_cons_zero, List.set_cons_succ]
      refine wpAnyH_take (i := 3) (v := ?_) rfl (by kernel_rfl) (by kernel_rfl) (by kernel_rfl) (fun _ _ _ h => h) (Or.inl ⟨by rfl, ?_⟩) (by assumption) ?_
      rotate_left
      · intro w _; go_simp; with_reducible rfl
      try simp only [List.getElem_toArray, List.getElem_cons_zero, List.getElem_cons_succ, Act.put, List.setIfInBounds_toArray, List.set_cons_zero, List.set_cons_succ]
      refine wpAnyH_ready (rs := [4]) (by kernel_rfl) (by simp) ?_
      refine AllReadyH.cons rfl (fun Kc hK => ?_) (AllReadyH.nil)
      go_simp
      refine (faSeen_any _ _ xs ys w3.drew (hv3.kept (fun _ _ => rfl)) (hu3.kept (fun _ _ => rfl)) HG).mono ?_
      rintro e w4 ⟨r, rfl, hor, _, hb4⟩
      go_wp2_with fail
      refine hK.out _ _ (⟨(hb4.cell (p := ⟨bl, 0, none⟩) hbl1).trans hHeld.1, (hb4.cell (p := ⟨a, rankL (seenL xs ys), none⟩) hal).trans hHeld.2⟩) (fun hHeld => ?_)
      clear hK Kc
      try simp only [List.getElem_toArray, List.getElem_cons_zero, List.getElem_cons_succ, Act.put, List.setIfInBounds_toArray, List.set_cons_zero, List.set_cons_succ]
      refine wpAnyH_ready (rs := [5]) (by kernel_rfl) (by simp) ?_
      refine AllReadyH.cons rfl (fun Kc hK => ?_) (AllReadyH.nil)
      go_simp
      refine (faRank_any _ (seenL xs ys) _ hor hs9).mono ?_
      rintro e w5 ⟨rfl, rfl⟩
      go_wp2_with fail
      refine hK.out _ _ (hHeld) (fun hHeld => ?_)
      clear hK Kc
      try simp only [List.getElem_toArray, List.getElem_cons_zero, List.getElem_cons_succ, Act.put, List.setIfInBounds_toArray, List.set_cons_zero, List.set_cons_succ]
      refine wpAnyH_take (i := 6) (v := ?_) rfl (by kernel_rfl) (by kernel_rfl) (by kernel_rfl) (fun _ _ _ h => h) (Or.inl ⟨by rfl, ?_⟩) (by assumption) ?_
      rotate_left
      · intro w _; go_simp; with_reducible rfl
      try simp only [List.getElem_toArray, List.getElem_cons_zero, List.getElem_cons_succ, Act.put, List.setIfInBounds_toArray, List.set_cons_zero, List.set_cons_succ]
      refine wpAnyH_take (i := 7) (v := ?_) rfl (by kernel_rfl) (by kernel_rfl) (by kernel_rfl) (fun _ _ _ h => h) (Or.inl ⟨by rfl, ?_⟩) (by assumption) ?_
      rotate_left
      · intro w hSw; (try dsimp only at hSw); (go_simp <;> with_reducible rfl)
      try simp only [List.getElem_toArray, List.getElem_cons_zero, List.getElem_cons_succ, Act.put, List.setIfInBounds_toArray, List.set_cons_zero, List.set_cons_succ]
      refine wpAnyH_take (i := 8) (v := ?_) rfl (by kernel_rfl) (by kernel_rfl) (by kernel_rfl) (fun _ _ _ h => h) (Or.inl ⟨by rfl, ?_⟩) (by assumption) ?_
      rotate_left
      · intro w _; go_simp; with_reducible rfl
      try simp only [List.getElem_toArray, List.getElem_cons_zero, List.getElem_cons_succ, Act.put, List.setIfInBounds_toArray, List.set_cons_zero, List.set_cons_succ]
      refine wpAnyH_done (by kernel_rfl) ?_ _
      have hb34 := (Below.refl w3.heap.size w3).drew.trans hb4
      go_wp2_with fail
      go_meet
      exact ⟨rfl, hb34⟩
    case rest =>
      obtain ⟨rfl, hcx⟩ := hcut
      have hl2c : wc.cell? ⟨bl, 2, none⟩ = some (.slice (some ⟨s, 0, none⟩) (fact n) (fact n)) := (hcx.cell (p := ⟨bl, 2, none⟩) hbl1).trans hl2
      clear h1 hrk hrk'
      go_wp2
      go_loopw [8, 10, 29] (fun cv _ iv' wr => ∃ i : Nat, i ≤ fact n ∧ iv' = .int .i64 i ∧ cv = .int .i64 (((allS n).take i).countP (midB n xs ys d) : Nat) ∧ Below w3.heap.size w3 wr) (fun _ _ i _ => fact n - (intOf i).toNat)
      case atStart => exact ⟨0, Nat.zero_le _, rfl, rfl, hcx⟩
      case round =>
        obtain ⟨i, hi, rfl, rfl, hbr⟩ := hrel
        by_cases hlt : i < fact n
        · have hlt' : (i : Int) < fact n := by omega
          have hRr := HR4.out.below hbr (Nat.le_refl _)
          obtain ⟨va, vc, hcell, hq5⟩ := hRr.stAt HC.out hlt
          have hqs := unrank_st HC.out.pos HC.out.le hlt
          have HNX := Lib.hid (countP_next (midB n xs ys d) hlt)
          obtain ⟨q, hqe⟩ : ∃ q, unrank n i = q := ⟨_, rfl⟩
          rw [hqe] at hq5 hqs HNX
          have hv5 := hv3.same hbr
          have hu5 := hu3.same hbr
          have hqn := hqs.2
          have HXQ := Lib.hid (twoB_iff.2 ⟨HX.out.1, by rw [HX.out.2]; exact h7, hqs.1, by rw [HX.out.2, hqn]⟩)
          have HYQ := Lib.hid (twoB_iff.2 ⟨HY.out.1, by rw [HY.out.2]; exact h7, hqs.1, by rw [HY.out.2, hqn]⟩)
          have hsx : St n (seenL xs q) := ⟨seenL_good HX.out.1 hqs.1 (by rw [HX.out.2, hqn]), by simp [seenL, HX.out.2]⟩
          have hsy : St n (seenL ys q) := ⟨seenL_good HY.out.1 hqs.1 (by rw [HY.out.2, hqn]), by simp [seenL, HY.out.2]⟩
          have hsx9 : (seenL xs q).length ≤ 9 := hsx.1.le9
          have hsy9 : (seenL ys q).length ≤ 9 := hsy.1.le9
          obtain ⟨h15, halr⟩ := hRr.farAt HC.out hsx
          obtain ⟨h16, _⟩ := hRr.farAt HC.out hsy
          rw [far_seen HX.out.1 hqs.1 (by rw [HX.out.2, hqn]) n hqn] at h15
          rw [far_seen HY.out.1 hqs.1 (by rw [HY.out.2, hqn]) n hqn, far_symm HY.out hqs] at h16
          have hxb := (far_spec HX.out hqs).2.1
          have hyb := (far_spec hqs HY.out).2.1
          have hrx : (rankL (seenL xs q) : Int) < fact n := by have := rank_lt hsx; omega
          have hry : (rankL (seenL ys q) : Int) < fact n := by have := rank_lt hsy; omega
          have hrxn := rank_lt hsx
          have hryn := rank_lt hsy
          have HB0 := Lib.hid (show midB n xs ys d q = decide (far n xs q + far n q ys = d) from rfl)
          obtain ⟨x, hx⟩ : ∃ x, far n xs q = x := ⟨_, rfl⟩
          obtain ⟨y, hy⟩ : ∃ y, far n q ys = y := ⟨_, rfl⟩
          rw [hx] at h15 hxb HB0
          rw [hy] at h16 hyb HB0
          have HB := Lib.hid (show Value.bool ((x : Int) + y == (d : Int)) = .bool (midB n xs ys d q) by
            rw [HB0.out, Value.bool.injEq, Bool.eq_iff_iff, beq_iff_eq, decide_eq_true_iff]
            omega)
          have hs1 := IntWalk.i64_in ((x : Int) + y) (by omega)
          have hl5 : wr.cell? ⟨bl, 0, none⟩ = some (.slice (some ⟨a, 0, none⟩) (fact n) (fact n)) := (hbr.cell (p := ⟨bl, 0, none⟩) hbl1).trans hl0
          have hblr := Nat.lt_of_lt_of_le hbl1 hbr.size
          have hcl : ((allS n).take i).countP (midB n xs ys d) ≤ fact n := by
            have h1 := List.countP_le_length (p := midB n xs ys d) (l := (allS n).take i)
            rw [List.length_take, allS_length] at h1
            omega
          obtain ⟨k, hk⟩ : ∃ k, ((allS n).take i).countP (midB n xs ys d) = k := ⟨_, rfl⟩
          rw [hk] at hcl HNX ⊢
          clear hqe hqn hsx hsy hx hy hRr hqs hk hl2c hcx
          go_upto_region 9 with fail
          go_cut [51] (fun bv wx => bv = .bool (midB n xs ys d q) ∧ Below wr.heap.size wr wx)
          case first =>
            refine wp_region_held_drew (S := (fun w' => w'.cell? ⟨bl, 0, none⟩ = some (.slice (some ⟨a, 0, none⟩) (fact n) (fact n)) ∧ w'.cell? ⟨a, rankL (seenL xs q), none⟩ = some (iv (x : Int)) ∧ w'.cell? ⟨a, rankL (seenL ys q), none⟩ = some (iv (y : Int)))) (by kernel_rfl) (⟨hl5, h15, h16⟩) (fun hHeld => ?_)
            refine wpAnyH_take (i := 0) (v := ?_) rfl (by kernel_rfl) (by kernel_rfl) (by kernel_rfl) (fun _ _ _ h => h) (Or.inl ⟨by rfl, ?_⟩) (by assumption) ?_
            rotate_left
            · intro w _; go_simp; with_reducible rfl
            try simp only [List.getElem_toArray, List.getElem_cons_zero, Act.put, List.setIfInBounds_toArray, List.set_cons_zero, List.set_cons_succ]
            refine wpAnyH_take (i := 1) (v := ?_) rfl (by kernel_rfl) (by kernel_rfl) (by kernel_rfl) (fun _ _ _ h => h) (Or.inl ⟨by rfl, ?_⟩) (by assumption) ?_
            rotate_left
            · intro w hSw; (try dsimp only at hSw); (go_simp <;> with_reducible rfl)
            try simp only [List.getElem_toArray, List.getElem_cons_zero, List.getElem_cons_succ, Act.put, List.setIfInBounds_toArray, List.set_cons_zero, List.set_cons_succ]
            refine wpAnyH_take (i := 2) (v := ?_) rfl (by kernel_rfl) (by kernel_rfl) (by kernel_rfl) (fun _ _ _ h => h) (Or.inl ⟨by rfl, ?_⟩) (by assumption) ?_
            rotate_left
            · intro w _; go_simp; with_reducible rfl
            try simp only [List.getElem_toArray, List.getElem_cons_zero, List.getElem_cons_succ, Act.put, List.setIfInBounds_toArray, List.set_cons_zero, List.set_cons_succ]
            refine wpAnyH_take (i := 3) (v := ?_) rfl (by kernel_rfl) (by kernel_rfl) (by kernel_rfl) (fun _ _ _ h => h) (Or.inl ⟨by rfl, ?_⟩) (by assumption) ?_
            rotate_left
            · intro w _; go_simp; with_reducible rfl
            try simp only [List.getElem_toArray, List.getElem_cons_zero, List.getElem_cons_succ, Act.put, List.setIfInBounds_toArray, List.set_cons_zero, List.set_cons_succ]
            refine wpAnyH_take (i := 8) (v := ?_) rfl (by kernel_rfl) (by kernel_rfl) (by kernel_rfl) (fun _ _ _ h => h) (Or.inl ⟨by rfl, ?_⟩) (by assumption) ?_
            rotate_left
            · intro w _; go_simp; with_reducible rfl
            try simp only [List.getElem_toArray, List.getElem_cons_zero, List.getElem_cons_succ, Act.put, List.setIfInBounds_toArray, List.set_cons_zero, List.set_cons_succ]
            refine wpAnyH_take (i := 9) (v := ?_) rfl (by kernel_rfl) (by kernel_rfl) (by kernel_rfl) (fun _ _ _ h => h) (Or.inl ⟨by rfl, ?_⟩) (by assumption) ?_
            rotate_left
            · intro w hSw; (try dsimp only at hSw); (go_simp <;> with_reducible rfl)
            try simp only [List.getElem_toArray, List.getElem_cons_zero, List.getElem_cons_succ, Act.put, List.setIfInBounds_toArray, List.set_cons_zero, List.set_cons_succ]
            refine wpAnyH_take (i := 10) (v := ?_) rfl (by kernel_rfl) (by kernel_rfl) (by kernel_rfl) (fun _ _ _ h => h) (Or.inl ⟨by rfl, ?_⟩) (by assumption) ?_
            rotate_left
            · intro w _; go_simp; with_reducible rfl
            try simp only [List.getElem_toArray, List.getElem_cons_zero, List.getElem_cons_succ, Act.put, List.setIfInBounds_toArray, List.set_cons_zero, List.set_cons_succ]
            refine wpAnyH_take (i := 11) (v := ?_) rfl (by kernel_rfl) (by kernel_rfl) (by kernel_rfl) (fun _ _ _ h => h) (Or.inl ⟨by rfl, ?_⟩) (by assumption) ?_
            rotate_left
            · intro w _; go_simp; with_reducible rfl
            try simp only [List.getElem_toArray, List.getElem_cons_zero, List.getElem_cons_succ, Act.put, List.setIfInBounds_toArray, List.set_cons_zero, List.set_cons_succ]
            refine wpAnyH_take (i := 17) (v := ?_) rfl (by kernel_rfl) (by kernel_rfl) (by kernel_rfl) (fun _ _ _ h => h) (Or.inl ⟨by rfl, ?_⟩) (by assumption) ?_
            rotate_left
            · intro w _; go_simp; with_reducible rfl
            try simp only [List.getElem_toArray, List.getElem_cons_zero, List.getElem_cons_succ, Act.put, List.setIfInBounds_toArray, List.set_cons_zero, List.set_cons_succ]
            refine wpAnyH_ready (rs := [4]) (by kernel_rfl) (by simp) ?_
            refine AllReadyH.cons rfl (fun Kc hK => ?_) (AllReadyH.nil)
            go_simp
            refine (faSeen_any _ _ xs q wr.drew (hv5.kept (fun _ _ => rfl)) (hq5.kept (fun _ _ => rfl)) HXQ).mono ?_
            rintro e w6 ⟨r, rfl, hor, _, hb6⟩
            go_wp2_with fail
            refine hK.out _ _ (⟨(hb6.cell (p := ⟨bl, 0, none⟩) hblr).trans hHeld.1, (hb6.cell (p := ⟨a, rankL (seenL xs q), none⟩) halr).trans hHeld.2.1, (hb6.cell (p := ⟨a, rankL (seenL ys q), none⟩) halr).trans hHeld.2.2⟩) (fun hHeld => ?_)
            clear hK Kc
            try simp only [List.getElem_toArray, List.getElem_cons_zero, List.getElem_cons_succ, Act.put, List.setIfInBounds_toArray, List.set_cons_zero, List.set_cons_succ]
            refine wpAnyH_ready (rs := [5]) (by kernel_rfl) (by simp) ?_
            refine AllReadyH.cons rfl (fun Kc hK => ?_) (AllReadyH.nil)
            go_simp
            refine (faRank_any _ (seenL xs q) _ hor hsx9).mono ?_
            rintro e w7 ⟨rfl, rfl⟩
            go_wp2_with fail
            refine hK.out _ _ (hHeld) (fun hHeld => ?_)
            clear hK Kc
            try simp only [List.getElem_toArray, List.getElem_cons_zero, List.getElem_cons_succ, Act.put, List.setIfInBounds_toArray, List.set_cons_zero, List.set_cons_succ]
            refine wpAnyH_take (i := 6) (v := ?_) rfl (by kernel_rfl) (by kernel_rfl) (by kernel_rfl) (fun _ _ _ h => h) (Or.inl ⟨by rfl, ?_⟩) (by assumption) ?_
            rotate_left
            · intro w _; go_simp; with_reducible rfl
            try simp only [List.getElem_toArray, List.getElem_cons_zero, List.getElem_cons_succ, Act.put, List.setIfInBounds_toArray, List.set_cons_zero, List.set_cons_succ]
            refine wpAnyH_take (i := 7) (v := ?_) rfl (by kernel_rfl) (by kernel_rfl) (by kernel_rfl) (fun _ _ _ h => h) (Or.inl ⟨by rfl, ?_⟩) (by assumption) ?_
            rotate_left
            · intro w hSw; (try dsimp only at hSw); (go_simp <;> with_reducible rfl)
            try simp only [List.getElem_toArray, List.getElem_cons_zero, List.getElem_cons_succ, Act.put, List.setIfInBounds_toArray, List.set_cons_zero, List.set_cons_succ]
            have hu6 := (hu5.kept (w' := wr.drew) (fun _ _ => rfl)).same hb6
            have hq6 := (hq5.kept (w' := wr.drew) (fun _ _ => rfl)).same hb6
            have hbl6 := Nat.lt_of_lt_of_le hblr hb6.size
            have hal6 := Nat.lt_of_lt_of_le halr hb6.size
            refine wpAnyH_ready (rs := [12]) (by kernel_rfl) (by simp) ?_
            refine AllReadyH.cons rfl (fun Kc hK => ?_) (AllReadyH.nil)
            go_simp
            refine (faSeen_any _ _ ys q w6 hu6 hq6 HYQ).mono ?_
            rintro e w8 ⟨r8, rfl, hor8, _, hb8⟩
            go_wp2_with fail
            refine hK.out _ _ (⟨(hb8.cell (p := ⟨bl, 0, none⟩) hbl6).trans hHeld.1, (hb8.cell (p := ⟨a, rankL (seenL xs q), none⟩) hal6).trans hHeld.2.1, (hb8.cell (p := ⟨a, rankL (seenL ys q), none⟩) hal6).trans hHeld.2.2⟩) (fun hHeld => ?_)
            clear hK Kc
            try simp only [List.getElem_toArray, List.getElem_cons_zero, List.getElem_cons_succ, Act.put, List.setIfInBounds_toArray, List.set_cons_zero, List.set_cons_succ]
            refine wpAnyH_ready (rs := [13]) (by kernel_rfl) (by simp) ?_
            refine AllReadyH.cons rfl (fun Kc hK => ?_) (AllReadyH.nil)
            go_simp
            refine (faRank_any _ (seenL ys q) _ hor8 hsy9).mono ?_
            rintro e w9 ⟨rfl, rfl⟩
            go_wp2_with fail
            refine hK.out _ _ (hHeld) (fun hHeld => ?_)
            clear hK Kc
            try simp only [List.getElem_toArray, List.getElem_cons_zero, List.getElem_cons_succ, Act.put, List.setIfInBounds_toArray, List.set_cons_zero, List.set_cons_succ]
            refine wpAnyH_take (i := 14) (v := ?_) rfl (by kernel_rfl) (by kernel_rfl) (by kernel_rfl) (fun _ _ _ h => h) (Or.inl ⟨by rfl, ?_⟩) (by assumption) ?_
            rotate_left
            · intro w _; go_simp; with_reducible rfl
            try simp only [List.getElem_toArray, List.getElem_cons_zero, List.getElem_cons_succ, Act.put, List.setIfInBounds_toArray, List.set_cons_zero, List.set_cons_succ]
            refine wpAnyH_take (i := 15) (v := ?_) rfl (by kernel_rfl) (by kernel_rfl) (by kernel_rfl) (fun _ _ _ h => h) (Or.inl ⟨by rfl, ?_⟩) (by assumption) ?_
            rotate_left
            · intro w hSw; (try dsimp only at hSw); (go_simp <;> with_reducible rfl)
            try simp only [List.getElem_toArray, List.getElem_cons_zero, List.getElem_cons_succ, Act.put, List.setIfInBounds_toArray, List.set_cons_zero, List.set_cons_succ]
            refine wpAnyH_take (i := 16) (v := ?_) rfl (by kernel_rfl) (by kernel_rfl) (by kernel_rfl) (fun _ _ _ h => h) (Or.inl ⟨by rfl, ?_⟩) (by assumption) ?_
            rotate_left
            · intro w _; go_simp; with_reducible rfl
            try simp only [List.getElem_toArray, List.getElem_cons_zero, List.getElem_cons_succ, Act.put, List.setIfInBounds_toArray, List.set_cons_zero, List.set_cons_succ]
            refine wpAnyH_take (i := 18) (v := ?_) rfl (by kernel_rfl) (by kernel_rfl) (by kernel_rfl) (fun _ _ _ h => h) (Or.inl ⟨by rfl, ?_⟩) (by assumption) ?_
            rotate_left
            · intro w _; go_simp; with_reducible rfl
            try simp only [List.getElem_toArray, List.getElem_cons_zero, List.getElem_cons_succ, Act.put, List.setIfInBounds_toArray, List.set_cons_zero, List.set_cons_succ]
            refine wpAnyH_done (by kernel_rfl) ?_ _
            have hb56 := (Below.refl wr.heap.size wr).drew.trans hb6
            have hb58 := hb56.trans (hb8.mono hb56.size)
            go_wp2_with fail
            go_meet
            exact ⟨HB.out, hb58⟩
          case rest =>
            obtain ⟨rfl, hcx⟩ := hcut
            have hb6 := hbr.trans (hcx.mono hbr.size)
            cases hp : midB n xs ys d q with
            | true =>
              rw [hp] at HNX
              clear hp
              go_wp2
              go_roundw
              case rel => exact ⟨i + 1, by omega, by go_num, by rw [HNX.out]; go_num, hb6⟩
              case measure => simp [intOf] <;> omega
            | false =>
              rw [hp] at HNX
              clear hp
              go_wp2
              go_roundw
              case rel => exact ⟨i + 1, by omega, by go_num, by rw [HNX.out]; rfl, hb6⟩
              case measure => simp [intOf] <;> omega
        · obtain hie : i = fact n := by omega
          have HE := Lib.hid (show ((allS n).take i).countP (midB n xs ys d) = midL n xs ys d by rw [hie, List.take_of_length_le (by rw [allS_length]; exact Nat.le_refl _)]; rfl)
          have hge : (fact n : Int) ≤ i := by omega
          clear hie
          go_wp2
          go_ret2
          exact ⟨by rw [HM.out, HE.out]; rfl, hB3.trans (hbr.mono hz3)⟩
  | false =>
    have HM := Lib.hid (show mMiddleStacks xs ys = 0 from if_neg (by rw [hg]; exact Bool.false_ne_true))
    rw [hg] at c
    obtain ⟨ad, cap, rfl, _, _, _⟩ := hv.shape
    obtain ⟨ad2, cap2, rfl, _, _, _⟩ := hu.shape
    clear hg
    go_enter Try.func12, Try.ntmps12
    go_wp2_with fail
    refine c.mono ?_
    rintro e w1 ⟨rfl, hb1⟩
    go_wp2
    go_ret2
    exact ⟨by rw [HM.out]; rfl, hb1⟩

theorem cellAtO {w : World} {v : Value} {xs : List Int} (h : OwnI w v xs) (j : Nat) (hj : j < xs.length) :
    ∃ g off cap, v = .slice (some ⟨g, off, none⟩) xs.length cap ∧ w.cell? ⟨g, off + j, none⟩ = some (iv xs[j]) ∧ w.frozen? ⟨g, off + j, none⟩ = false ∧ ∀ u : Int, OwnI (w.setCell ⟨g, off + j, none⟩ (iv u)) (.slice (some ⟨g, off, none⟩) xs.length cap) (xs.set j u) := by
  obtain ⟨ad, cap, rfl, h1, h2, h3⟩ := h.shape
  obtain ⟨g, off, rfl, hg, hc, hf⟩ := Own.at h (by omega)
  have hcj := hc j (by omega)
  rw [List.getElem?_map, List.getElem?_eq_getElem hj] at hcj
  refine ⟨g, off, cap, rfl, hcj, hf (off + j), fun u => ?_⟩
  have hs := Own.stored h j (by omega) (iv u)
  unfold OwnI
  rw [List.length_set, List.map_set]
  exact hs

def wlenS : Value → Nat
  | .slice _ n _ => n
  | _ => 0

set_option maxHeartbeats 4000000 in
set_option maxRecDepth 100000 in
theorem sCountByTurns_any (n : Int) (w : World) :
    Calls Try.prog 21 #[.int .i64 n] w fun e w' => ∃ r, e = .returned (.tuple #[r, .bool (inB n 1 7)]) ∧ OwnI w' r (mCountByTurns n) ∧ From w.heap.size r ∧ Below w.heap.size w w' := by
  have c := faNumber_any n w
  cases hg : inB n 1 7 with
  | true =>
    have HM := Lib.hid (show mCountByTurns n = byL n.toNat from if_pos hg)
    obtain ⟨m, rfl, hm, h7⟩ := inB_nat hg
    rw [hg] at c
    have HC := Lib.hid hm
    have heb := ecc_le hm
    rw [Int.toNat_natCast] at HM
    have c1 := faAll_any m w HC h7
    have hfl := fact_le (n := m) (by omega)
    have HB := Lib.hid (fun i (hi : i ≤ fact m) => lenN_le hi)
    have HBD := Lib.hid heb
    have hu57 := run_layer0
    clear hg hm heb
    go_enter Try.func21, Try.ntmps21
    go_wp2_with fail
    refine c.mono ?_
    rintro e w0 ⟨rfl, rfl⟩
    clear c
    go_wp2_with fail
    refine c1.mono ?_
    rintro e w1 ⟨a, c, s, S, rfl, HR, hb1⟩
    clear c1
    have hz1 := hb1.size
    go_wp2
    go_loopw [4, 6, 14] (fun ov _ iv' wr => ∃ (i : Nat) (oa : Option Addr) (oc : Nat), i ≤ fact m ∧ iv' = .int .i64 i ∧ ov = .slice oa (lenN m i) oc ∧ OwnI wr (.slice oa (lenN m i) oc) (outS m i (lenN m i)) ∧ From w1.heap.size (.slice oa (lenN m i) oc) ∧ Below w1.heap.size w1 wr) (fun _ _ i _ => fact m - (intOf i).toNat)
    case atStart => exact ⟨0, none, 0, Nat.zero_le _, rfl, rfl, OwnI.nil _, From.nil _ _ _, Below.refl _ _⟩
    case round =>
      obtain ⟨i, oa, oc, hi, rfl, rfl, ho, hf, hbr⟩ := hrel
      obtain ⟨wo, hwo⟩ : ∃ wo, wo = wr := ⟨_, rfl⟩
      subst hwo
      by_cases hlt : i < fact m
      · have hlt' : (i : Int) < fact m := by omega
        obtain ⟨h1, _, hal, _⟩ := HR.at hlt
        have h1r := (hbr.cell (p := ⟨a, i, none⟩) hal).trans h1
        obtain ⟨x, hx⟩ : ∃ x, dS m i = x := ⟨_, rfl⟩
        have HX := Lib.hid hx
        have HLS := Lib.hid (show lenN m (i + 1) = max (lenN m i) (x + 1) by rw [lenN_succ, hx])
        have hlb := HB.out (i + 1) (by omega)
        have hlb0 := HB.out i (by omega)
        have HG := Lib.hid (fun K (hK : lenN m i ≤ K) => outS_grow (n := m) (i := i) hK)
        have hxb : x ≤ 15 := by
          rw [HLS.out] at hlb
          have := HBD.out
          omega
        have hlb1 : lenN m i ≤ 15 := by have := HBD.out; omega
        rw [hx] at h1r
        obtain ⟨l0, hl0⟩ : ∃ l, lenN m i = l := ⟨_, rfl⟩
        rw [hl0] at ho hf HLS HG hlb1 ⊢
        clear h1 hx hlb hlb0 hl0
        go_wp2
        go_loopw [4] (fun ov w5 => ∃ (K : Nat) (oa : Option Addr) (oc : Nat), l0 ≤ K ∧ K ≤ max l0 (x + 1) ∧ ov = .slice oa K oc ∧ OwnI w5 (.slice oa K oc) (outS m i K) ∧ From w1.heap.size (.slice oa K oc) ∧ Below w1.heap.size w1 w5) (fun ov _ => x + 1 - wlenS ov)
        case atStart => exact ⟨l0, oa, oc, Nat.le_refl _, Nat.le_max_left _ _, rfl, ho, hf, hbr⟩
        case round =>
          obtain ⟨K, oa2, oc2, hK1, hK2, rfl, ho2, hf2, hb2⟩ := hrel
          clear ho hf h1r
          have hz2 := hb2.size
          by_cases hle : K ≤ x
          · have hle' : (K : Int) ≤ x := by omega
            have hlen : (outS m i K).length ≤ 1048576 := by rw [outS_length]; omega
            have HGK := Lib.hid (HG.out K hK1)
            go_wp2_with (at_builtin; refine wpList_app1 Try.intSl rfl _ _ rfl _ (outS m i K) rfl (ho2.alloc _) w1.heap.size hf2 wr.heap.size 0 rfl ?c1 w1 (hb2.alloc hz2 _) ?c2 hlen ?_)
            case c1 => simp [go_sem]
            case c2 => simp; omega
            intro v' w9 ho9 hf9 hb9 _
            rw [← HGK.out] at ho9
            obtain ⟨oa9, oc9, rfl, _, _, _⟩ := ho9.shape
            rw [outS_length] at ho9 hf9 ⊢
            go_wp2
            go_roundw
            case rel => exact ⟨K + 1, oa9, oc9, by omega, by omega, rfl, ho9, hf9, hb9⟩
            case measure => simp [wlenS] <;> omega
          · have hlt2 : (x : Int) < K := by omega
            have hxK : x < K := by omega
            have hKe : lenN m (i + 1) = K := by rw [HLS.out]; omega
            have HKE := Lib.hid hKe
            obtain ⟨g, off, cap, he, hd, hfd, hst⟩ := cellAtO ho2 x (by rw [outS_length]; exact hxK)
            rw [outS_length] at he hst
            simp only [Value.slice.injEq] at he
            obtain ⟨rfl, _, rfl⟩ := he
            rw [outS_get hxK] at hd
            have hst2 := hst ((cntN m i x : Int) + 1)
            rw [outS_set HX.out] at hst2
            have hcb := cntN_le m i x
            obtain ⟨k, hk⟩ : ∃ k, cntN m i x = k := ⟨_, rfl⟩
            rw [hk] at hd hst2 hcb
            have hgB : w1.heap.size ≤ g := hf2 g rfl
            have hb3 := hb2.setCell (p := ⟨g, off + x, none⟩) hgB (iv ((k : Int) + 1))
            have hs1 := IntWalk.i64_in ((k : Int) + 1) (by omega)
            clear hKe hst hk ho2 hb2
            go_wp2
            go_roundw
            case rel => exact ⟨i + 1, _, oc2, by omega, by go_num, by rw [HKE.out], by rw [HKE.out]; exact hst2, by rw [HKE.out]; exact hf2, hb3⟩
            case measure => simp [intOf] <;> omega
      · obtain hie : i = fact m := by omega
        have HE := Lib.hid (show outS m i (lenN m i) = byL m by rw [hie, lenN_all m]; exact outS_all HC.out)
        have hge : (fact m : Int) ≤ i := by omega
        clear hie
        go_wp2
        go_ret2
        exact ⟨_, rfl, by rw [HM.out, ← HE.out]; exact ho, hf.mono hz1, hb1.trans (hbr.mono hz1)⟩
  | false =>
    have HM := Lib.hid (show mCountByTurns n = [] from if_neg (by rw [hg]; exact Bool.false_ne_true))
    rw [hg] at c
    clear hg
    go_enter Try.func21, Try.ntmps21
    go_wp2_with fail
    refine c.mono ?_
    rintro e w0 ⟨rfl, rfl⟩
    go_wp2
    go_ret2
    exact ⟨_, rfl, by rw [HM.out]; exact OwnI.nil _, From.nil _ _ _, Below.refl _ _⟩

theorem sWorstDistance_any (n : Int) (w : World) :
    Calls Try.prog 23 #[.int .i64 n] w fun e w' => e = .returned (.tuple #[.int .i64 (mWorstDistance n), .bool (inB n 1 7)]) ∧ Below w.heap.size w w' := by
  have c := sCountByTurns_any n w
  cases hg : inB n 1 7 with
  | true =>
    have HM := Lib.hid (show mWorstDistance n = (ecc n.toNat : Int) from if_pos hg)
    have HL := Lib.hid (show (mCountByTurns n).length = ecc n.toNat + 1 by rw [show mCountByTurns n = byL n.toNat from if_pos hg]; simp [byL])
    obtain ⟨m, rfl, hm, h7⟩ := inB_nat hg
    have heb := ecc_le hm
    rw [Int.toNat_natCast] at HM HL
    rw [hg] at c
    obtain ⟨E, hE⟩ : ∃ E, ecc m = E := ⟨_, rfl⟩
    rw [hE] at HM HL heb
    have hs1 := IntWalk.i64_in (((E + 1 : Nat) : Int) - 1) (by omega)
    clear hg hm hE
    go_enter Try.func23, Try.ntmps23
    go_wp2_with fail
    refine c.mono ?_
    rintro e w1 ⟨r, rfl, ho, _, hb1⟩
    obtain ⟨oa, oc, rfl, _, _, _⟩ := ho.shape
    rw [HL.out]
    clear c
    go_wp2
    go_ret2
    exact ⟨by rw [HM.out]; simp, hb1⟩
  | false =>
    have HM := Lib.hid (show mWorstDistance n = 0 from if_neg (by rw [hg]; exact Bool.false_ne_true))
    rw [hg] at c
    clear hg
    go_enter Try.func23, Try.ntmps23
    go_wp2_with fail
    refine c.mono ?_
    rintro e w1 ⟨r, rfl, ho, _, hb1⟩
    go_wp2
    go_ret2
    exact ⟨by rw [HM.out]; rfl, hb1⟩

end Go.Proofs.Ytdlnniciccpchaa

namespace Go.Pan
theorem pecc (m : Nat) : gecc (pG m) (ramp 1 m) = ecc m := by
  unfold gecc ecc
  rw [show gfar (pG m) (ramp 1 m) = far m (ramp 1 m) from funext fun q => pfar m _ q]
  rfl
theorem pbyL (m : Nat) : gbyL (pG m) (ramp 1 m) = byL m := by
  unfold gbyL byL
  rw [pecc]
  refine List.map_congr_left fun e _ => ?_
  unfold gbyN byN
  rw [pnearC]
  rfl

end Go.Pan

namespace Go.Proofs.Ytdlnniciccpchaa
open Go Go.RowKit Go.Pan

set_option maxHeartbeats 1600000 in
set_option maxRecDepth 100000 in
theorem MiddleStacks_any (v : Value) (xs : List Int) (u : Value) (ys : List Int) (w : World) (hv : OwnI w v xs) (hn : xs.length ≤ 1048576) (hu : OwnI w u ys) (hm : ys.length ≤ 1048576) :
    Calls Try.prog 11 #[v, u] w fun e w' => e = .returned (.tuple #[.int .i64 (mMiddleStacks xs ys), .bool (twoB xs ys)]) ∧ Below w.heap.size w w' := by
  cases hg : twoB xs ys with
  | true =>
    have HM := Lib.hid (show mMiddleStacks xs ys = (midL xs.length xs ys (far2 xs ys) : Int) from if_pos hg)
    obtain ⟨hG, h7, hH, hl⟩ := twoB_iff.1 hg
    have hle : far2 xs ys ≤ 2 * xs.length := (far_spec hG.st ⟨hH, hl.symm⟩).2.1
    have h9 := hG.le9
    have c := wayBetween_yes _ _ xs ys w hv hn hu hm hg
    have HC := Lib.hid hG.cnt
    have HCG := Lib.hid (pG_ok hG.cnt h7)
    have HS := Lib.hid hG.st
    obtain ⟨ad, cap, rfl, _, _, _⟩ := hv.shape
    obtain ⟨ad2, cap2, rfl, _, _, _⟩ := hu.shape
    obtain ⟨d, hd⟩ : ∃ d, far2 xs ys = d := ⟨_, rfl⟩
    rw [hd] at c HM hle
    obtain ⟨m, hmm⟩ : ∃ m, d + 1 = m := ⟨_, rfl⟩
    have HMM := Lib.hid hmm
    rw [hmm] at c
    clear hG hg hd hH hl hmm
    go_enter Try.func11, Try.ntmps11
    go_wp2_with fail
    refine c.mono ?_
    rintro e w1 ⟨g, cap3, ms, rfl, hW, hb1⟩
    clear c
    have hml : ms.length = m := by rw [hW.len, wayP_length, HMM.out]
    have hne : ms ≠ [] := by rintro rfl; have := HMM.out; simp at hml; omega
    obtain ⟨gg, cc, hsh, _, hgl, _, hcl⟩ := hW.shape hne
    simp only [Value.slice.injEq, Option.some.injEq, Addr.mk.injEq, and_true] at hsh
    obtain ⟨rfl, hlx, rfl⟩ := hsh
    have HML := Lib.hid hml
    have HCL := Lib.hid hcl
    have HW := Lib.hid hW
    have hfl := fact_le (n := xs.length) (by omega)
    have hm0 := midTo_zero xs.length xs ys d
    have HM0 := Lib.hid hm0
    have hm1 : m ≤ 1048576 := by have := HMM.out; omega
    clear hlx hml hne hcl hW hm0
    go_wp2
    go_loopw [8, 10, 19] (fun cv _ iv' wr => ∃ i : Nat, i ≤ m ∧ iv' = .int .i64 i ∧ cv = .int .i64 (midTo xs.length xs ys d i : Nat) ∧ wr = w1) (fun _ _ i _ => m - (intOf i).toNat)
    case atStart => exact ⟨0, Nat.zero_le _, rfl, by rw [HM0.out]; rfl, rfl⟩
    case round =>
      obtain ⟨i, hi, rfl, rfl, rfl⟩ := hrel
      by_cases hlt : i < m
      · have hlt' : (i : Int) < m := by omega
        obtain ⟨bj, hbj⟩ : ∃ x, ms[i]? = some x := ⟨_, List.getElem?_eq_getElem (by rw [HML.out]; exact hlt)⟩
        have hly := (HW.out.lay i bj _ hbj (wayP_get _ _ _ d d i (by have := HMM.out; omega))).1
        have hcell := HCL.out i bj hbj
        obtain ⟨D, hown, hL⟩ := hly
        have HSZ := Lib.hid (show midTo xs.length xs ys d (i + 1) = midTo xs.length xs ys d i + Maps.size D by
          have hz := hL.size HCG.out (hown.canon keyd)
          rw [pwayC, show (pG xs.length).all = allS xs.length from rfl] at hz
          rw [midTo_succ HC.out HS.out (by have := HMM.out; omega), hz])
        have hle2 := midTo_le xs.length xs ys d (i + 1)
        rw [HSZ.out] at hle2
        obtain ⟨a, ha⟩ : ∃ a, midTo xs.length xs ys d i = a := ⟨_, rfl⟩
        obtain ⟨z, hz⟩ : ∃ z, Maps.size D = z := ⟨_, rfl⟩
        have HA := Lib.hid ha
        have HZ := Lib.hid hz
        rw [ha, hz] at hle2
        rw [ha]
        have hs1 := IntWalk.i64_in ((a : Int) + z) (by omega)
        clear hbj hL ha hz
        go_wp2_with (first | (at_len; refine wpList_len_own _ rfl _ 60 rfl 52 3 Try.underlying60 _ bj (pG xs.length).all.length D rfl hown ?_; rw [HZ.out]))
        go_roundw
        case rel => exact ⟨i + 1, by omega, by go_num, by rw [HSZ.out, HA.out, HZ.out]; go_num, by first | rfl | trivial⟩
        case measure => simp [intOf] <;> omega
      · obtain rfl : i = m := by omega
        have hge : (i : Int) ≤ i := Int.le_refl _
        have HE := Lib.hid (show midTo xs.length xs ys d i = midL xs.length xs ys d by rw [← HMM.out]; exact midTo_all _ _ _ _)
        go_wp2
        go_ret2
        exact ⟨by rw [HM.out, HE.out]; rfl, hb1⟩
  | false =>
    have HM := Lib.hid (show mMiddleStacks xs ys = 0 from if_neg (by rw [hg]; exact Bool.false_ne_true))
    have c := wayBetween_no _ _ xs ys w hv hn hu hm hg
    obtain ⟨ad, cap, rfl, _, _, _⟩ := hv.shape
    obtain ⟨ad2, cap2, rfl, _, _, _⟩ := hu.shape
    clear hg
    go_enter Try.func11, Try.ntmps11
    go_wp2_with fail
    refine c.mono ?_
    rintro e w1 ⟨rfl, hb1⟩
    clear c
    go_wp2
    go_loopw [8, 10, 19] (fun cv _ iv' wr => iv' = .int .i64 0 ∧ cv = .int .i64 0 ∧ wr = w1) (fun _ _ i _ => 0)
    case atStart => exact ⟨rfl, rfl, rfl⟩
    case round =>
      obtain ⟨rfl, rfl, rfl⟩ := hrel
      go_wp2
      go_ret2
      exact ⟨by rw [HM.out]; rfl, hb1⟩

theorem WorstDistance_any (n : Int) (w : World) :
    Calls Try.prog 22 #[.int .i64 n] w fun e w' => e = .returned (.tuple #[.int .i64 (mWorstDistance n), .bool (inB n 1 7)]) ∧ Below w.heap.size w w' := by
  have c := isSearchedCount_any n w
  cases hg : inB n 1 7 with
  | true =>
    have HM := Lib.hid (show mWorstDistance n = (ecc n.toNat : Int) from if_pos hg)
    obtain ⟨m, rfl, hm, h7⟩ := inB_nat hg
    rw [hg] at c
    have heb := ecc_le hm
    have c1 := plainWave_any m w hm h7
    rw [pecc] at c1
    rw [Int.toNat_natCast] at HM
    obtain ⟨E, hE⟩ : ∃ E, ecc m = E := ⟨_, rfl⟩
    rw [hE] at c1 heb HM
    have hE2 : E + 1 ≤ 1048576 := by omega
    clear hg hm hE
    go_enter Try.func22, Try.ntmps22
    go_wp2_with fail
    refine c.mono ?_
    rintro e w0 ⟨rfl, rfl⟩
    clear c
    go_wp2_with fail
    refine c1.mono ?_
    rintro e w1 ⟨g, cap, ms, rfl, _, hb1⟩
    clear c1
    have c2 := wturns_any (some ⟨g, 0, none⟩) (E + 1) cap w1 hE2
    rw [Nat.add_sub_cancel] at c2
    go_wp2_with fail
    refine c2.mono ?_
    rintro e w2 ⟨rfl, rfl⟩
    go_wp2
    go_ret2
    exact ⟨by rw [HM.out]; rfl, hb1⟩
  | false =>
    have HM := Lib.hid (show mWorstDistance n = 0 from if_neg (by rw [hg]; exact Bool.false_ne_true))
    rw [hg] at c
    clear hg
    go_enter Try.func22, Try.ntmps22
    go_wp2_with fail
    refine c.mono ?_
    rintro e w0 ⟨rfl, rfl⟩
    go_wp2
    go_ret2
    exact ⟨by rw [HM.out]; rfl, Below.refl _ _⟩

set_option maxHeartbeats 800000 in
set_option maxRecDepth 100000 in
theorem CountByTurns_any (n : Int) (w : World) :
    Calls Try.prog 20 #[.int .i64 n] w fun e w' => ∃ r, e = .returned (.tuple #[r, .bool (inB n 1 7)]) ∧ OwnI w' r (mCountByTurns n) ∧ From w.heap.size r ∧ Below w.heap.size w w' := by
  have c := isSearchedCount_any n w
  cases hg : inB n 1 7 with
  | true =>
    have HM := Lib.hid (show mCountByTurns n = gbyL (pG n.toNat) (ramp 1 n.toNat) from (show mCountByTurns n = byL n.toNat from if_pos hg).trans (pbyL _).symm)
    obtain ⟨m, rfl, hm, h7⟩ := inB_nat hg
    rw [hg] at c
    rw [Int.toNat_natCast] at HM
    have HC := Lib.hid (pG_ok hm h7)
    have HH := Lib.hid (show (pG m).St (ramp 1 m) from hm.home)
    have heb := gecc_le HC.out HH.out
    have hdm := HC.out.dm30
    have c1 := plainWave_any m w hm h7
    obtain ⟨L, hL⟩ : ∃ L, gecc (pG m) (ramp 1 m) + 1 = L := ⟨_, rfl⟩
    have HL := Lib.hid hL
    have hLb : L ≤ 1001 := by omega
    rw [hL] at c1
    clear hg hL heb hdm
    go_enter Try.func20, Try.ntmps20
    go_wp2_with fail
    refine c.mono ?_
    rintro e w0 ⟨rfl, rfl⟩
    clear c
    go_wp2_with fail
    refine c1.mono ?_
    rintro e w1 ⟨g, cap, ms, rfl, hW, hb1⟩
    clear c1
    have c2 := counts_any (pG m) _ g cap L ms (ramp 1 m) w1 HC HH HL hLb hW
    clear hW
    go_wp2_with fail
    refine c2.mono ?_
    rintro e w3 ⟨r, rfl, ho, hf, hb3⟩
    go_wp2
    go_ret2
    exact ⟨_, rfl, by rw [HM.out]; exact ho, hf.mono hb1.size, hb1.trans (hb3.mono hb1.size)⟩
  | false =>
    have HM := Lib.hid (show mCountByTurns n = [] from if_neg (by rw [hg]; exact Bool.false_ne_true))
    rw [hg] at c
    clear hg
    go_enter Try.func20, Try.ntmps20
    go_wp2_with fail
    refine c.mono ?_
    rintro e w0 ⟨rfl, rfl⟩
    clear c
    go_wp2
    go_ret2
    exact ⟨_, rfl, by rw [HM.out]; exact OwnI.nil _, From.nil _ _ _, Below.refl _ _⟩

end Go.Proofs.Ytdlnniciccpchaa

namespace Go.Pan
/-- a layer's numbers, by the ranks -/
def rowL (n : Nat) (f : LC) : List Int := (List.range (fact n)).map fun r => (f (unrank n r) : Int)
theorem rowL_length (n : Nat) (f : LC) : (rowL n f).length = fact n := by simp [rowL]
theorem rowL_get {n r : Nat} (f : LC) (h : r < fact n) : (rowL n f)[r]'(by rw [rowL_length]; exact h) = (f (unrank n r) : Int) := by simp [rowL]
def doneI (i : Nat) : List Int → Bool := fun q => decide (rankL q < i)
theorem rowL_none (n : Nat) : rowL n (fun _ => 0) = List.replicate (fact n) 0 := by
  unfold rowL
  rw [show (fun r : Nat => (((fun _ => 0 : LC) (unrank n r) : Nat) : Int)) = fun _ => (0 : Int) from rfl, List.map_const', List.length_range]
section
variable {n : Nat} (hn : Cnt n)
include hn
theorem rowL_congr {c o : LC} (h : EqC n c o) : rowL n c = rowL n o := by
  unfold rowL
  refine List.map_congr_left fun r hr => ?_
  rw [h _ (unrank_st hn.pos hn.le (List.mem_range.1 hr))]
theorem rowL_set {c : LC} {q : List Int} (hq : St n q) (v : Nat) : (rowL n c).set (rankL q) (v : Int) = rowL n (fun p => if p = q then v else c p) := by
  apply List.ext_getElem (by simp [rowL])
  intro j h1 h2
  have hj : j < fact n := by simpa [rowL] using h2
  rw [List.getElem_set, rowL_get _ hj, rowL_get _ hj]
  by_cases e : rankL q = j
  · rw [if_pos e, if_pos (by rw [← e, unrank_rank hn.pos hn.le hq])]
  · rw [if_neg e, if_neg (fun h => e (by rw [← h, rank_unrank hj]))]
theorem rowL_one : (List.replicate (fact n) (0 : Int)).set 0 1 = rowL n (allC n (ramp 1 n) 0) := by
  have h := rowL_set hn (c := fun _ => 0) hn.home 1
  rw [rankL_ramp, rowL_none n] at h
  rw [show (1 : Int) = ((1 : Nat) : Int) from rfl, h]
  exact rowL_congr hn (fun q hq => allC_zero n (ramp 1 n) q hq)
theorem rowL_step {c : LC} {done : List Int → Bool} {x : List Int} (hx : St n x) {K : Nat} (hK : K ∈ ks n) : (rowL n (behN n c done x K)).set (rankL (turnL x K)) ((behN n c done x K (turnL x K) + c x : Nat) : Int) = rowL n (behN n c done x (K + 1)) := by
  rw [rowL_set hn (hx.turn K)]
  exact rowL_congr hn (fun q hq => (behN_succ hK q hq).symm)
theorem row_first (c : LC) {i : Nat} (hi : i < fact n) : rowL n (behM n c (doneI i)) = rowL n (behN n c (doneI (i + 1)) (unrank n i) 2) := by
  refine rowL_congr hn (behN_first (fun y hy hne => ?_) ?_)
  · have h : rankL y ≠ i := fun e => hne (by rw [← e, unrank_rank hn.pos hn.le hy])
    unfold doneI
    rw [Bool.eq_iff_iff, decide_eq_true_iff, decide_eq_true_iff]
    omega
  · unfold doneI
    rw [rank_unrank hi]
    simp
theorem row_last (c : LC) {i : Nat} (hi : i < fact n) : rowL n (behN n c (doneI (i + 1)) (unrank n i) (n + 1)) = rowL n (behM n c (doneI (i + 1))) :=
  rowL_congr hn (behN_last (by unfold doneI; rw [rank_unrank hi]; simp))
theorem row_skip (c : LC) {i : Nat} (h0 : c (unrank n i) = 0) : rowL n (behM n c (doneI i)) = rowL n (behM n c (doneI (i + 1))) := by
  refine rowL_congr hn (fun q hq => sum_congr fun k _ => ?_)
  by_cases e : rankL (turnL q k) = i
  · have h : c (turnL q k) = 0 := by rw [← h0, ← e, unrank_rank hn.pos hn.le (hq.turn k)]
    rw [h]
    simp
  · have : doneI i (turnL q k) = doneI (i + 1) (turnL q k) := by
      unfold doneI
      rw [Bool.eq_iff_iff, decide_eq_true_iff, decide_eq_true_iff]
      omega
    rw [this]
theorem row_none (c : LC) : rowL n (behM n c (doneI 0)) = List.replicate (fact n) 0 := by
  rw [← rowL_none n]
  exact rowL_congr hn (behM_none (fun y _ h => by simp [doneI] at h))
theorem row_all (s : List Int) (i : Nat) : rowL n (behM n (allC n s i) (doneI (fact n))) = rowL n (allC n s (i + 1)) := by
  rw [← allC_succ]
  exact rowL_congr hn (behM_all (fun y hy => decide_eq_true (rank_lt hy)))
end

end Go.Pan

namespace Go.Pan
def closedB (n k : Int) : Bool := inB n 1 7 && inB k 0 8
def mCountClosedPlans (n k : Int) : Int := if closedB n k = true then (Pan.ways n.toNat k.toNat (ramp 1 n.toNat) (ramp 1 n.toNat) : Int) else 0
theorem inB_k {k : Int} (h : inB k 0 8 = true) : ∃ j : Nat, k = (j : Int) ∧ j ≤ 8 := by
  simp [inB] at h
  exact ⟨k.toNat, by omega, by omega⟩
theorem inB_nat7 {n : Int} (h : inB n 1 7 = true) : ∃ m : Nat, n = (m : Int) ∧ Cnt m ∧ m ≤ 7 := by
  simp [inB] at h
  exact ⟨n.toNat, by omega, ⟨by omega, by omega⟩, by omega⟩

end Go.Pan

namespace Go.Proofs.Ytdlnniciccpchaa
open Go Go.RowKit Go.Pan

def litZ : DD → Int
  | .lit (.int _ c) => c
  | _ => 0
set_option maxHeartbeats 1600000 in
set_option maxRecDepth 100000 in
theorem layerBehindG_any (n : Gm) (pt : TypeId) (pv : Value) (FT FD : FuncId) (s : List Int) (k : Nat) (w : World) (hn : Hid (GOk n)) (hP : Hid (GP n pt pv FT FD)) (hks : n.ks.length ≤ 1000) (hs : Hid (n.St s)) (h9 : s.length ≤ 9) (hk : k ≤ 1000) (hM : Hid (∀ i, i ≤ k → ∀ q, n.St q → gallC n s i q ≤ 1000000000000)) :
    Calls Try.prog 59 #[tw s, .iface pt pv, .int .i64 k] w fun e w' => ∃ b', e = .returned (.map (some b')) ∧ Ly n w' b' (gallC n s k) ∧ Below w.heap.size w w' := by
  have hmm := @run_makeMap Try.prog
  have hkey := key_tw hn.out hs.out
  have hbx : Blk ((w.alloc (.cells (twl s).toArray 52)).alloc (.map #[] 0)) w.heap.size 52 (twl s) := (Blk.new w _ (twl s) _ rfl).alloc _
  have hmk : ((w.alloc (.cells (twl s).toArray 52)).alloc (.map #[] 0)).ownsMap Try.prog 52 (plainElem (H := Unit) Try.prog 3) (w.heap.size + 1) 0 (.map []) := by
    have := World.ownsMap_made (w.alloc (.cells (twl s).toArray 52)) Try.prog 52 (plainElem (H := Unit) Try.prog 3)
    simpa using this
  have hB0 : Below w.heap.size w ((w.alloc (.cells (twl s).toArray 52)).alloc (.map #[] 0)) := (below_new w _).alloc (by simp) _
  have HL := Lib.hid (show Lay n ((DataW.map [] : DD).put (kl s) (.lit (.int .i64 1))) (gallC n s 0) from
    (((Lay.empty n).put hn.out Maps.isMap_empty hs.out 1 (by omega)).congr (fun q _ => rfl : GEq n _ (oneC s))).congr (gallC_zero n s))
  go_enter Try.func59, Try.ntmps59
  go_wp2_with (first | (refine wpList_load_tower rfl _ rfl w.heap.size s h9 rfl hbx ?_) | (refine wpList_insert_own _ rfl _ _ _ 60 rfl 52 3 keyd Try.underlying60 _ (w.heap.size + 1) 0 (.map []) rfl hmk (by unfold maxLen; omega) _ _ (kl s) rfl rfl hkey (.lit (.int .i64 1)) [] (plainElem_int Try.underlying3 rfl) ?_; intro w3 hown3 hgr3))
  have hB3 := hB0.grown hgr3 (by simp; omega) (by intro k hk; cases hk; omega)
  have hly := Ly.of hn.out hown3 HL.out
  clear hbx hmk hB0 hgr3 hown3
  go_wp2
  go_loopw [7, 12] (fun m i wr => ∃ (j b : Nat), j ≤ k ∧ i = .int .i64 j ∧ m = .map (some b) ∧ Hid (Ly n wr b (gallC n s j)) ∧ Below w.heap.size w wr) (fun _ i _ => k - (intOf i).toNat)
  case atStart => exact ⟨0, _, Nat.zero_le _, rfl, rfl, Lib.hid hly, hB3⟩
  case round =>
    obtain ⟨j, b, hj, rfl, rfl, hl, hbr⟩ := hrel
    clear hly hB3
    by_cases hlt : j < k
    · have cb := lbehind_any n _ _ _ _ b (gallC n s j) 1000000000000 wr hn hP hl.out (Lib.hid (hM.out j (by omega))) (by omega) hks
      rw [gallC_succ] at cb
      go_wp2_with fail
      refine cb.mono ?_
      rintro e w4 ⟨b4, rfl, hl4, hb4', hb4⟩
      have hB4 := hbr.trans (hb4.mono hbr.size)
      have HL4 := Lib.hid hl4
      clear cb hl4 hb4' hb4
      go_wp2
      go_roundw
      case rel => exact ⟨j + 1, _, by omega, by go_num, rfl, HL4, hB4⟩
      case measure => simp [intOf] <;> omega
    · obtain rfl : j = k := by omega
      go_wp2
      go_ret
      exact ⟨_, rfl, hl.out, hbr⟩

set_option maxHeartbeats 4000000 in
set_option maxRecDepth 100000 in
theorem CountClosedPlans_any (n k : Int) (w : World) :
    Calls Try.prog 29 #[.int .i64 n, .int .i64 k] w fun e w' => e = .returned (.tuple #[.int .i64 (mCountClosedPlans n k), .bool (closedB n k)]) ∧ Below w.heap.size w w' := by
  have c := isSearchedCount_any n w
  cases hg : inB n 1 7 with
  | true =>
    rw [hg] at c
    cases hk : inB k 0 8 with
    | true =>
      have hB : closedB n k = true := by unfold closedB; rw [hg, hk]; rfl
      have HM0 := Lib.hid (show mCountClosedPlans n k = (Pan.ways n.toNat k.toNat (ramp 1 n.toNat) (ramp 1 n.toNat) : Int) from if_pos hB)
      have HB := Lib.hid hB
      obtain ⟨m, rfl, hm, h7⟩ := inB_nat7 hg
      obtain ⟨j, rfl, hj8⟩ := inB_k hk
      have HM := Lib.hid (show mCountClosedPlans m j = (gallC (pG m) (ramp 1 m) j (ramp 1 m) : Int) by rw [HM0.out]; unfold gallC; rw [pways]; simp)
      have HC := Lib.hid (pG_ok hm h7)
      have HS := Lib.hid (show (pG m).St (ramp 1 m) from hm.home)
      have HPP := Lib.hid (plain_GP hm.pos h7)
      have hks : (pG m).ks.length ≤ 1000 := by rw [pks_length]; omega
      have h9 : m ≤ 9 := by omega
      have hr9 : (ramp 1 m).length ≤ 9 := by rw [ramp_length]; exact h9
      have HX := Lib.hid (show ∀ i, i ≤ j → ∀ q, (pG m).St q → gallC (pG m) (ramp 1 m) i q ≤ 1000000000000 from fun i hi q _ => by
        unfold gallC
        rw [pways]
        exact Nat.le_trans (Nat.le_trans (ways_le _ _ _ _) (pow_bound h7 (by omega))) (by omega))
      have hkey := key_tw HC.out HS.out
      have hj0 : ¬ (j : Int) < 0 := by omega
      have hj1 : ¬ (8 : Int) < (j : Int) := by omega
      clear hg hk hB hm HM0
      go_enter Try.func29, Try.ntmps29
      go_wp2_with fail
      refine c.mono ?_
      rintro e w0 ⟨rfl, rfl⟩
      clear c
      go_wp2_with fail
      refine (sortedTower_any m w h9).mono ?_
      rintro e w1 ⟨rfl, hb1⟩
      have hz : Blk (w1.alloc (.cells (twl []).toArray 52)) w1.heap.size 52 (twl []) := Blk.new _ _ (twl []) _ rfl
      go_upto_region 4 with (refine wpList_store_tower rfl _ _ rfl w1.heap.size [] (ramp 1 m) (by simp) hr9 rfl rfl hz ?_; intro w2 hbl2 hg2)
      have hb12 : Below w1.heap.size w1 w2 := (below_new w1 _).grown hg2 (by simp) (by intro k hk; cases hk; exact Nat.le_refl _)
      have hB2 := hb1.trans (hb12.mono hb1.size)
      have hlt2 := hbl2.lt
      clear hz hg2 hb12
      have hr := hbl2.range
      have hut := Try.underlying52
      have hsz : (Try.prog.info? 52).map (·.size) = some (twl (ramp 1 m)).length := by rw [Try.infoT, twl_length _ hr9]
      have hj1000 : j ≤ 1000 := by omega
      clear hbl2
      refine wp_region_held_drew (S := (fun w' => w'.rangeAt w1.heap.size 0 (twl (ramp 1 m)))) (by kernel_rfl) (hr) (fun hHeld => ?_)
      refine wpAnyH_take (i := 0) rfl (by kernel_rfl) (by kernel_rfl) (by kernel_rfl) (fun _ _ _ h => h) (yieldsIf_load_mid (by rfl) _ _ rfl _ _ rfl _ _ (fun w hw => hw) hut rfl hsz) (by assumption) ?_
      try simp only [List.getElem_toArray, List.getElem_cons_zero, Act.put, List.setIfInBounds_toArray, List.set_cons_zero, List.set_cons_succ]
      refine wpAnyH_take (i := 1) (v := ?_) rfl (by kernel_rfl) (by kernel_rfl) (by kernel_rfl) (fun _ _ _ h => h) (Or.inl ⟨by rfl, ?_⟩) (by assumption) ?_
      rotate_left
      · intro w _; go_simp; with_reducible rfl
      try simp only [List.getElem_toArray, List.getElem_cons_zero, List.getElem_cons_succ, Act.put, List.setIfInBounds_toArray, List.set_cons_zero, List.set_cons_succ]
      refine wpAnyH_take (i := 2) (v := ?_) rfl (by kernel_rfl) (by kernel_rfl) (by kernel_rfl) (fun _ _ _ h => h) (Or.inl ⟨by rfl, ?_⟩) (by assumption) ?_
      rotate_left
      · intro w _; go_simp; with_reducible rfl
      try simp only [List.getElem_toArray, List.getElem_cons_zero, List.getElem_cons_succ, Act.put, List.setIfInBounds_toArray, List.set_cons_zero, List.set_cons_succ]
      refine wpAnyH_take (i := 3) (v := ?_) rfl (by kernel_rfl) (by kernel_rfl) (by kernel_rfl) (fun _ _ _ h => h) (Or.inl ⟨by rfl, ?_⟩) (by assumption) ?_
      rotate_left
      · intro w _; go_simp; with_reducible rfl
      try simp only [List.getElem_toArray, List.getElem_cons_zero, List.getElem_cons_succ, Act.put, List.setIfInBounds_toArray, List.set_cons_zero, List.set_cons_succ]
      refine wpAnyH_take (i := 5) rfl (by kernel_rfl) (by kernel_rfl) (by kernel_rfl) (fun _ _ _ h => h) (yieldsIf_load_mid (by rfl) _ _ rfl _ _ rfl _ _ (fun w hw => hw) hut rfl hsz) (by assumption) ?_
      try simp only [List.getElem_toArray, List.getElem_cons_zero, List.getElem_cons_succ, Act.put, List.setIfInBounds_toArray, List.set_cons_zero, List.set_cons_succ]
      refine wpAnyH_ready (rs := [4]) (by kernel_rfl) (by simp) ?_
      refine AllReadyH.cons rfl (fun K hK => ?_) AllReadyH.nil
      go_simp
      refine (layerBehindG_any (pG m) _ _ _ _ (ramp 1 m) j _ HC HPP hks HS hr9 hj1000 HX).mono ?_
      rintro e w3 ⟨b, rfl, hl, hb3⟩
      go_wp2_with fail
      refine hK.out _ _ (range_below hHeld hb3 hlt2) (fun hHeld => ?_)
      clear hK K
      obtain ⟨D, hown, hL2⟩ := hl
      have HAT := Lib.hid (hL2.at0 HS.out)
      obtain ⟨c0, hlk, hc0, _⟩ := hown.lookup_int keyd Try.underlying60 Try.underlying3 (zeroI _) hkey
      refine wpAnyH_ready (rs := [6]) (by kernel_rfl) (by simp) ?_
      refine AllReadyH.cons rfl (fun Kc hK => ?_) AllReadyH.nil
      refine step_lookup_int rfl _ _ 60 rfl b _ _ rfl rfl hlk ?_
      refine hK.out _ _ hHeld (fun hHeld => ?_)
      clear hK Kc
      try simp only [List.getElem_toArray, List.getElem_cons_zero, List.getElem_cons_succ, Act.put, List.setIfInBounds_toArray, List.set_cons_zero, List.set_cons_succ]
      refine wpAnyH_take (i := 7) (v := ?_) rfl (by kernel_rfl) (by kernel_rfl) (by kernel_rfl) (fun _ _ _ h => h) (Or.inl ⟨by rfl, ?_⟩) (by assumption) ?_
      rotate_left
      · intro w _; go_simp; with_reducible rfl
      try simp only [List.getElem_toArray, List.getElem_cons_zero, List.getElem_cons_succ, Act.put, List.setIfInBounds_toArray, List.set_cons_zero, List.set_cons_succ]
      refine wpAnyH_take (i := 8) (v := ?_) rfl (by kernel_rfl) (by kernel_rfl) (by kernel_rfl) (fun _ _ _ h => h) (Or.inl ⟨by rfl, ?_⟩) (by assumption) ?_
      rotate_left
      · intro w _; go_simp; with_reducible rfl
      try simp only [List.getElem_toArray, List.getElem_cons_zero, List.getElem_cons_succ, Act.put, List.setIfInBounds_toArray, List.set_cons_zero, List.set_cons_succ]
      refine wpAnyH_done (by kernel_rfl) ?_ _
      have he : c0 = (gallC (pG m) (ramp 1 m) j (ramp 1 m) : Int) := (congrArg litZ (HAT.out.symm.trans hc0)).symm
      have hB3 := hB2.drew.trans (hb3.mono hB2.size)
      have HE := Lib.hid he
      clear he hc0 hlk hown hL2
      go_wp2
      go_ret2
      exact ⟨by rw [HM.out, HB.out, HE.out]; rfl, hB3⟩
    | false =>
      have HB := Lib.hid (show closedB n k = false by unfold closedB; rw [hg, hk]; rfl)
      have HM := Lib.hid (show mCountClosedPlans n k = 0 from if_neg (by unfold closedB; rw [hg, hk]; exact Bool.false_ne_true))
      by_cases hk0 : k < 0
      · clear hg hk
        go_enter Try.func29, Try.ntmps29
        go_wp2_with fail
        refine c.mono ?_
        rintro e w0 ⟨rfl, rfl⟩
        go_wp2
        go_ret2
        exact ⟨by rw [HM.out, HB.out]; rfl, Below.refl _ _⟩
      · have hk8 : 8 < k := by simp [inB] at hk; omega
        clear hg hk
        go_enter Try.func29, Try.ntmps29
        go_wp2_with fail
        refine c.mono ?_
        rintro e w0 ⟨rfl, rfl⟩
        go_wp2
        go_ret2
        exact ⟨by rw [HM.out, HB.out]; rfl, Below.refl _ _⟩
  | false =>
    have HB := Lib.hid (show closedB n k = false by unfold closedB; rw [hg]; rfl)
    have HM := Lib.hid (show mCountClosedPlans n k = 0 from if_neg (by unfold closedB; rw [hg]; exact Bool.false_ne_true))
    rw [hg] at c
    clear hg
    go_enter Try.func29, Try.ntmps29
    go_wp2_with fail
    refine c.mono ?_
    rintro e w0 ⟨rfl, rfl⟩
    go_wp2
    go_ret2
    exact ⟨by rw [HM.out, HB.out]; rfl, Below.refl _ _⟩

set_option maxHeartbeats 4000000 in
set_option maxRecDepth 100000 in
theorem sCountClosedPlans_any (n k : Int) (w : World) :
    Calls Try.prog 30 #[.int .i64 n, .int .i64 k] w fun e w' => e = .returned (.tuple #[.int .i64 (mCountClosedPlans n k), .bool (closedB n k)]) ∧ Below w.heap.size w w' := by
  have c := faNumber_any n w
  cases hg : inB n 1 7 with
  | true =>
    rw [hg] at c
    have cl := l1In_any k 0 8 w
    cases hk : inB k 0 8 with
    | true =>
      rw [hk] at cl
      have hB : closedB n k = true := by unfold closedB; rw [hg, hk]; rfl
      have HM0 := Lib.hid (show mCountClosedPlans n k = (Pan.ways n.toNat k.toNat (ramp 1 n.toNat) (ramp 1 n.toNat) : Int) from if_pos hB)
      have HB := Lib.hid hB
      obtain ⟨m, rfl, hm, h7⟩ := inB_nat7 hg
      obtain ⟨j, rfl, hj8⟩ := inB_k hk
      have HM := Lib.hid (show mCountClosedPlans m j = (Pan.ways m j (ramp 1 m) (ramp 1 m) : Int) by rw [HM0.out]; simp)
      have HC := Lib.hid hm
      have hfl := fact_le (n := m) (by omega)
      have hf0 := fact_pos m
      obtain ⟨i0, hi, hz0, hz1, hz2⟩ := info_parts Try.info3
      have HI := Lib.hid hi
      have HZ0 := Lib.hid hz0
      have HZ1 := Lib.hid hz1
      have HZ2 := Lib.hid hz2
      have c1 := faAll_any m w HC h7
      clear hg hk hB hm HM0 hi hz0 hz1 hz2
      go_enter Try.func30, Try.ntmps30
      go_wp2_with fail
      refine c.mono ?_
      rintro e w0 ⟨rfl, rfl⟩
      clear c
      go_wp2_with fail
      refine cl.mono ?_
      rintro e w0 ⟨rfl, rfl⟩
      clear cl
      go_wp2_with fail
      refine c1.mono ?_
      rintro e w1 ⟨a, c, s, S, rfl, HR, hb1⟩
      clear c1
      have hz : Blk (w1.alloc (.cells #[.slice none 0 0, .slice none 0 0, .slice none 0 0] 62)) w1.heap.size 62 [.slice none 0 0, .slice none 0 0, .slice none 0 0] := Blk.new _ _ [.slice none 0 0, .slice none 0 0, .slice none 0 0] _ rfl
      go_upto_region 4 with (refine wpList_store3o rfl 62 _ _ rfl w1.heap.size _ _ _ rfl rfl 62 _ hz (by kernel_rfl) rfl ⟨rfl, rfl, rfl⟩ ?_; intro w3 hbl hg3)
      have hb13 : Below w1.heap.size w1 w3 := (below_new w1 _).grown hg3 (by simp) (by intro k hk; cases hk; exact Nat.le_refl _)
      have HR3 := HR.below hb13 (Nat.le_refl _)
      have hB3 := hb1.trans (hb13.mono hb1.size)
      have hl0 : w3.cell? ⟨w1.heap.size, 0, none⟩ = some (.slice (some ⟨a, 0, none⟩) (fact m) (fact m)) := by rw [hbl.cell 0]; rfl
      have hl2 : w3.cell? ⟨w1.heap.size, 2, none⟩ = some (.slice (some ⟨s, 0, none⟩) (fact m) (fact m)) := by rw [hbl.cell 2]; rfl
      have hbl1 := hbl.lt
      obtain ⟨bl, hbe⟩ : ∃ b, w1.heap.size = b := ⟨_, rfl⟩
      rw [hbe] at hl0 hl2 hbl1 ⊢
      have hz3 : w.heap.size ≤ w3.heap.size := hB3.size
      have HR4 := Lib.hid HR3
      clear hb1 HR hz hg3 hb13 HR3 hbl hbe
      try simp only [List.getElem_toArray, List.getElem_cons_zero, List.getElem_cons_succ, Act.put, List.setIfInBounds_toArray, List.set_cons_zero, List.set_cons_succ]
      go_upto_region 5 with (at_make; refine wpList_make_full _ rfl _ _ 24 rfl w3.heap.size 3 i0 (.int .i64 0) 1 Try.underlying24 HI.out HZ0.out HZ1.out _ _ _ _ (fact m) rfl rfl rfl rfl ?b1 ?b2 ?b3 ?_)
      case b1 => rw [HZ2.out]; omega
      case b2 => unfold maxLen; omega
      case b3 => exact Nat.le_refl _
      intro w4 hown hgrow
      have ho0 : OwnI w4 (.slice (some ⟨w3.heap.size, 0, none⟩) (fact m) (fact m)) (List.replicate (fact m) 0) := OwnI.of_made hown
      have hb34 : Below w3.heap.size w3 w4 := (Below.refl _ _).grown hgrow (Nat.le_refl _) (by intro k hk; cases hk)
      obtain ⟨hd, hfd, hst⟩ := OwnI.cellAt ho0 0 (by rw [List.length_replicate]; exact hf0)
      have hst := hst 1
      rw [rowL_one HC.out] at hst
      have hf0' : (0 : Int) < fact m := by omega
      have hb35 := hb34.setCell (p := ⟨w3.heap.size, 0, none⟩) (Nat.le_refl _) (iv 1)
      clear hown hgrow ho0
      go_wp2
      go_loopw [1, 7, 8, 9, 10, 11] (fun kv nv _ _ _ _ wr => ∃ (i e g : Nat), i + e = j ∧ kv = .int .i64 e ∧ nv = .slice (some ⟨g, 0, none⟩) (fact m) (fact m) ∧ OwnI wr (.slice (some ⟨g, 0, none⟩) (fact m) (fact m)) (rowL m (allC m (ramp 1 m) i)) ∧ Below w3.heap.size w3 wr) (fun kv _ _ _ _ _ _ => (intOf kv).toNat)
      case atStart => exact ⟨0, j, w3.heap.size, by omega, rfl, rfl, hst, hb35⟩
      case round =>
        obtain ⟨i, e, g, hie, rfl, rfl, ho, hbr⟩ := hrel
        clear hst hb35 hb34 hd hfd
        obtain ⟨wo, hwo⟩ : ∃ wo, wo = wr := ⟨_, rfl⟩
        subst hwo
        by_cases he : 0 < e
        · have he' : (0 : Int) < e := by omega
          obtain ⟨C, hC⟩ : ∃ C, allC m (ramp 1 m) i = C := ⟨_, rfl⟩
          have HCE := Lib.hid hC
          have HCM := Lib.hid (show ∀ q, St m q → C q ≤ 470184984576 from fun q _ => by rw [← hC]; exact Nat.le_trans (ways_le _ _ _ _) (pow_bound h7 (by omega)))
          rw [hC] at ho
          clear hC
          go_wp2_with (at_make; refine wpList_make_full _ rfl _ _ 24 rfl wo.heap.size 3 i0 (.int .i64 0) 1 Try.underlying24 HI.out HZ0.out HZ1.out _ _ _ _ (fact m) rfl rfl rfl rfl ?b1 ?b2 ?b3 ?_)
          case b1 => rw [HZ2.out]; omega
          case b2 => unfold maxLen; omega
          case b3 => exact Nat.le_refl _
          intro w5 hown hgrow
          have hx0 : OwnI w5 (.slice (some ⟨wo.heap.size, 0, none⟩) (fact m) (fact m)) (rowL m (behM m C (doneI 0))) := by rw [row_none HC.out]; exact OwnI.of_made hown
          have hb5 : Below wo.heap.size wo w5 := (Below.refl _ _).grown hgrow (Nat.le_refl _) (by intro k hk; cases hk)
          clear hown hgrow
          go_wp2
          go_loopw [9, 10, 11, 37] (fun _ _ _ iv' w6 => ∃ r : Nat, r ≤ fact m ∧ iv' = .int .i64 r ∧ OwnI w6 (.slice (some ⟨wo.heap.size, 0, none⟩) (fact m) (fact m)) (rowL m (behM m C (doneI r))) ∧ Below wo.heap.size wo w6) (fun _ _ _ iv' _ => fact m - (intOf iv').toNat)
          case atStart => exact ⟨0, Nat.zero_le _, rfl, hx0, hb5⟩
          case round =>
            obtain ⟨r, hr, rfl, hx, hb6⟩ := hrel
            clear hx0 hb5
            obtain ⟨wp, hwp⟩ : ∃ wp, wp = wr := ⟨_, rfl⟩
            subst hwp
            by_cases hlt : r < fact m
            · have hlt' : (r : Int) < fact m := by omega
              have ho6 := ho.same hb6
              obtain ⟨hcn, _, _⟩ := OwnI.cellAt ho6 r (by rw [rowL_length]; exact hlt)
              rw [rowL_get C hlt] at hcn
              have hb36 := hbr.trans (hb6.mono hbr.size)
              have hqs := unrank_st HC.out.pos HC.out.le hlt
              obtain ⟨x, hxe⟩ : ∃ x, unrank m r = x := ⟨_, rfl⟩
              have HXE := Lib.hid hxe
              rw [hxe] at hcn hqs
              have HQ := Lib.hid hqs
              have hcb := HCM.out x hqs
              obtain ⟨z, hz⟩ : ∃ z, C x = z := ⟨_, rfl⟩
              have HZ := Lib.hid hz
              rw [hz] at hcn hcb
              replace hcn : wp.cell? ⟨g, r, none⟩ = some (.int .i64 (z : Int)) := hcn
              clear hxe hqs hz ho6
              by_cases hz0 : z = 0
              · have hzi : (z : Int) = 0 := by omega
                have HSK := Lib.hid (row_skip HC.out C (i := r) (by rw [HXE.out, HZ.out]; exact hz0))
                clear hz0
                go_wp2
                go_roundw
                case rel => exact ⟨r + 1, by omega, by go_num, by rw [← HSK.out]; exact hx, hb6⟩
                case measure => simp [intOf] <;> omega
              · have hzi : ((z : Int) == 0) = false := by rw [beq_eq_false_iff_ne]; omega
                have hx2 : OwnI wp (.slice (some ⟨wo.heap.size, 0, none⟩) (fact m) (fact m)) (rowL m (behN m C (doneI (r + 1)) x 2)) := by
                  rw [← HXE.out, ← row_first HC.out C hlt]
                  exact hx
                have hl26 : wp.cell? ⟨bl, 2, none⟩ = some (.slice (some ⟨s, 0, none⟩) (fact m) (fact m)) := (hb36.cell (p := ⟨bl, 2, none⟩) hbl1).trans hl2
                have hm1 := HC.out.pos
                clear hx hz0
                go_wp2
                go_loopw [11] (fun tv w7 => ∃ K : Nat, 2 ≤ K ∧ K ≤ m + 1 ∧ tv = .int .i64 K ∧ OwnI w7 (.slice (some ⟨wo.heap.size, 0, none⟩) (fact m) (fact m)) (rowL m (behN m C (doneI (r + 1)) x K)) ∧ Below wo.heap.size wo w7) (fun tv _ => m + 1 - (intOf tv).toNat)
                case atStart => exact ⟨2, Nat.le_refl _, by omega, rfl, hx2, hb6⟩
                case round =>
                  obtain ⟨K, hK2, hKm, rfl, hx7, hb7⟩ := hrel
                  clear hx2 hl26 hb36
                  by_cases hKl : K ≤ m
                  · have hKl' : (K : Int) ≤ m := by omega
                    have hkk := mem_ks.2 ⟨hK2, hKl⟩
                    have hb37 := hbr.trans (hb7.mono hbr.size)
                    have hl27 : wr.cell? ⟨bl, 2, none⟩ = some (.slice (some ⟨s, 0, none⟩) (fact m) (fact m)) := (hb37.cell (p := ⟨bl, 2, none⟩) hbl1).trans hl2
                    obtain ⟨va, vc, hcs, hq7⟩ := (HR4.out.below hb37 (Nat.le_refl _)).stAt HC.out hlt
                    rw [HXE.out] at hq7
                    have hxm : x.length ≤ 1048576 := by have := HQ.out.2; omega
                    have hKx : K ≤ x.length := by have := HQ.out.2; omega
                    have hst := HQ.out.turn K
                    have ht9 : (turnL x K).length ≤ 9 := hst.1.le9
                    have hrk := rank_lt hst
                    have HRS := Lib.hid (rowL_step HC.out HQ.out (c := C) (done := doneI (r + 1)) hkk)
                    have hbb := behN_le (n := m) (done := doneI (r + 1)) (x := x) (K := K) HCM.out (turnL x K) hst
                    have hbb2 : (m - 1) * 470184984576 ≤ 6 * 470184984576 := Nat.mul_le_mul_right _ (by omega)
                    have hunr := unrank_rank HC.out.pos HC.out.le hst
                    have c4 := stTurn_any _ x K wr hq7 hxm hKx
                    obtain ⟨t, ht⟩ : ∃ t, rankL (turnL x K) = t := ⟨_, rfl⟩
                    have HTT := Lib.hid ht
                    rw [ht] at hrk hunr HRS
                    have hrk' : (t : Int) < fact m := by omega
                    obtain ⟨y, hy⟩ : ∃ y, behN m C (doneI (r + 1)) x K (turnL x K) = y := ⟨_, rfl⟩
                    have HYY := Lib.hid (show behN m C (doneI (r + 1)) x K (unrank m t) = y by rw [hunr]; exact hy)
                    rw [hy, HZ.out] at HRS
                    rw [hy] at hbb
                    have HRS2 := Lib.hid (show (rowL m (behN m C (doneI (r + 1)) x K)).set t ((y : Int) + z) = rowL m (behN m C (doneI (r + 1)) x (K + 1)) by rw [← HRS.out]; simp)
                    clear hst hunr ht hy HRS
                    go_wp2_with fail
                    refine c4.mono ?_
                    rintro e w8 ⟨v8, rfl, hor, _, hb8⟩
                    clear c4
                    have hx8 := hx7.same hb8
                    have hb78 := hb7.trans (hb8.mono hb7.size)
                    obtain ⟨hct, hft, hset⟩ := OwnI.cellAt hx8 t (by rw [rowL_length]; exact hrk)
                    rw [rowL_get _ hrk, HYY.out] at hct
                    have hset := hset ((y : Int) + z)
                    rw [HRS2.out] at hset
                    have hb9 := hb78.setCell (p := ⟨wo.heap.size, t, none⟩) (Nat.le_refl _) (iv ((y : Int) + z))
                    have hs1 := IntWalk.i64_in ((y : Int) + z) (by omega)
                    have c5 := faRank_any v8 (turnL x K) w8 hor ht9
                    rw [HTT.out] at c5
                    obtain ⟨ra, rc, rfl, _, _, _⟩ := hor.shape
                    clear hx7 hb7 hb8 hx8 hb78 hq7 hl27 hcs
                    go_wp2_with fail
                    refine c5.mono ?_
                    rintro e w9 ⟨rfl, rfl⟩
                    clear c5
                    go_wp2
                    go_roundw
                    case rel => exact ⟨K + 1, by omega, by omega, by go_num, hset, hb9⟩
                    case measure => simp [intOf] <;> omega
                  · obtain hKe : K = m + 1 := by omega
                    have hge : (m : Int) < K := by omega
                    have HLA := Lib.hid (row_last HC.out C hlt)
                    have hxl : OwnI wr (.slice (some ⟨wo.heap.size, 0, none⟩) (fact m) (fact m)) (rowL m (behM m C (doneI (r + 1)))) := by
                      rw [← HLA.out, HXE.out, ← hKe]
                      exact hx7
                    clear hKe hx7
                    go_wp2
                    go_roundw
                    case rel => exact ⟨r + 1, by omega, by go_num, hxl, hb7⟩
                    case measure => simp [intOf] <;> omega
            · obtain hre : r = fact m := by omega
              have hge : (fact m : Int) ≤ r := by omega
              have hxe : OwnI wp (.slice (some ⟨wo.heap.size, 0, none⟩) (fact m) (fact m)) (rowL m (allC m (ramp 1 m) (i + 1))) := by
                rw [hre] at hx
                rw [← row_all HC.out, HCE.out]
                exact hx
              have hb36 := hbr.trans (hb6.mono hbr.size)
              clear hre hx
              go_wp2
              go_roundw
              case rel => exact ⟨i + 1, e - 1, wo.heap.size, by omega, by go_num, rfl, hxe, hb36⟩
              case measure => simp [intOf] <;> omega
        · have he0 : e = 0 := by omega
          subst he0
          obtain rfl : i = j := by omega
          obtain ⟨hcn, _, _⟩ := OwnI.cellAt ho 0 (by rw [rowL_length]; exact hf0)
          rw [rowL_get _ hf0] at hcn
          have HU := Lib.hid (show unrank m 0 = ramp 1 m by rw [← rankL_ramp m 1, unrank_rank HC.out.pos HC.out.le HC.out.home])
          rw [HU.out] at hcn
          go_wp2
          go_ret2
          exact ⟨by rw [HM.out, HB.out]; rfl, hB3.trans (hbr.mono hz3)⟩
    | false =>
      rw [hk] at cl
      have HB := Lib.hid (show closedB n k = false by unfold closedB; rw [hg, hk]; rfl)
      have HM := Lib.hid (show mCountClosedPlans n k = 0 from if_neg (by unfold closedB; rw [hg, hk]; exact Bool.false_ne_true))
      clear hg hk
      go_enter Try.func30, Try.ntmps30
      go_wp2_with fail
      refine c.mono ?_
      rintro e w0 ⟨rfl, rfl⟩
      go_wp2_with fail
      refine cl.mono ?_
      rintro e w0 ⟨rfl, rfl⟩
      go_wp2
      go_ret2
      exact ⟨by rw [HM.out, HB.out]; rfl, Below.refl _ _⟩
  | false =>
    have HB := Lib.hid (show closedB n k = false by unfold closedB; rw [hg]; rfl)
    have HM := Lib.hid (show mCountClosedPlans n k = 0 from if_neg (by unfold closedB; rw [hg]; exact Bool.false_ne_true))
    rw [hg] at c
    clear hg
    go_enter Try.func30, Try.ntmps30
    go_wp2_with fail
    refine c.mono ?_
    rintro e w0 ⟨rfl, rfl⟩
    go_wp2
    go_ret2
    exact ⟨by rw [HM.out, HB.out]; rfl, Below.refl _ _⟩

end Go.Proofs.Ytdlnniciccpchaa
