import Derived.Test.YticpdlgnaphnkaaK8
import Derived.Test.YticpdlgnaphnkaaI10
namespace Go.Proofs.Yticpdlgnaphnkaa
open Go Go.RowKit Go.Pan

theorem isSearchedCount_any (n : Int) (w : World) :
    Calls Try.prog 85 #[.int .i64 n] w fun e w' => e = .returned (.bool (inB n 1 7)) ∧ w = w' := by
  go_enter Try.func85, Try.ntmps85
  by_cases h : 1 ≤ n
  · go_wp2
    go_ret
    exact ⟨by simp [inB, h], rfl⟩
  · go_wp2
    go_ret
    exact ⟨by simp only [inB, decide_eq_false (show ¬ 1 ≤ n from by omega)]; rfl, rfl⟩

theorem isSearched_any (v : Value) (xs : List Int) (w : World) (hv : OwnI w v xs) (hn : xs.length ≤ 1048576) :
    Calls Try.prog 100 #[v] w fun e w' => e = .returned (.bool (farB xs)) ∧ Below w.heap.size w w' := by
  obtain ⟨ad, cap, rfl, hc, _, _⟩ := hv.shape
  have c := IsStack_any _ xs w hv hn
  cases hg : goodB xs with
  | true =>
    have HF := Lib.hid (show farB xs = inB xs.length 1 7 by have := (goodB_iff.1 hg).1; rw [Bool.eq_iff_iff]; simp [farB, inB, hg]; omega)
    rw [hg] at c
    clear hg
    go_enter Try.func100, Try.ntmps100
    go_wp2_with fail
    refine c.mono ?_
    rintro e w1 ⟨rfl, hb⟩
    clear c
    go_wp2_with fail
    refine (isSearchedCount_any _ _).mono ?_
    rintro e w2 ⟨rfl, rfl⟩
    go_wp2
    go_ret
    exact ⟨by rw [HF.out]; rfl, hb⟩
  | false =>
    have HF := Lib.hid (show farB xs = false by unfold farB; rw [hg]; rfl)
    rw [hg] at c
    clear hg
    go_enter Try.func100, Try.ntmps100
    go_wp2_with fail
    refine c.mono ?_
    rintro e w1 ⟨rfl, hb⟩
    clear c
    go_wp2
    go_ret
    exact ⟨by rw [HF.out]; rfl, hb⟩

set_option maxHeartbeats 1600000 in
set_option maxRecDepth 100000 in
theorem wayHome_yes (v : Value) (xs : List Int) (w : World) (hv : OwnI w v xs) (hn : xs.length ≤ 1048576) (hg : farB xs = true) :
    Calls Try.prog 75 #[v] w fun e w' => ∃ g cap ms, e = .returned (.tuple #[.slice (some ⟨g, 0, none⟩) (farS xs + 1) cap, .bool true]) ∧ Wv xs.length w' w.heap.size (.slice (some ⟨g, 0, none⟩) (farS xs + 1) cap) ms (wayP xs.length xs (ramp 1 xs.length) (farS xs) (farS xs)) ∧ Below w.heap.size w w' := by
  obtain ⟨hG, h7⟩ := farB_iff.1 hg
  have HC := Lib.hid hG.cnt
  have HS := Lib.hid hG.st
  have HH := Lib.hid hG.home
  have h9 := hG.le9
  have c := isSearched_any _ xs w hv hn
  rw [hg] at c
  obtain ⟨ad, cap, rfl, _, _, _⟩ := hv.shape
  clear hG hg
  go_enter Try.func75, Try.ntmps75
  go_wp2_with fail
  refine c.mono ?_
  rintro e w1 ⟨rfl, hb1⟩
  clear c
  go_wp2_with fail
  refine (towerOf_any _ xs w1 (hv.same hb1) h9).mono ?_
  rintro e w2 ⟨rfl, hb2⟩
  go_wp2_with fail
  refine (sortedTower_any _ w2 h9).mono ?_
  rintro e w3 ⟨rfl, hb3⟩
  have hB2 := hb1.trans (hb2.mono hb1.size)
  have hB3 := hB2.trans (hb3.mono hB2.size)
  have c4 := way_any xs.length xs (ramp 1 xs.length) w3 HC h7 HS HH
  go_wp2_with fail
  refine c4.mono ?_
  rintro e w4 ⟨g, cap2, ms, rfl, hW, hb4⟩
  clear c4
  go_wp2
  go_ret2
  exact ⟨g, cap2, ms, rfl, hW.mono hB3.size, hB3.trans (hb4.mono hB3.size)⟩

theorem wayHome_no (v : Value) (xs : List Int) (w : World) (hv : OwnI w v xs) (hn : xs.length ≤ 1048576) (hg : farB xs = false) :
    Calls Try.prog 75 #[v] w fun e w' => e = .returned (.tuple #[.slice none 0 0, .bool false]) ∧ Below w.heap.size w w' := by
  have c := isSearched_any _ xs w hv hn
  rw [hg] at c
  obtain ⟨ad, cap, rfl, _, _, _⟩ := hv.shape
  clear hg
  go_enter Try.func75, Try.ntmps75
  go_wp2_with fail
  refine c.mono ?_
  rintro e w1 ⟨rfl, hb1⟩
  clear c
  go_wp2
  go_ret2
  exact ⟨rfl, hb1⟩

end Go.Proofs.Yticpdlgnaphnkaa
