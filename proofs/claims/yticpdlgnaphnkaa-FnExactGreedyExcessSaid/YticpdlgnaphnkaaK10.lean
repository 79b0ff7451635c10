import Derived.Test.YticpdlgnaphnkaaK9
namespace Go.Proofs.Yticpdlgnaphnkaa
open Go Go.RowKit Go.Pan

set_option maxHeartbeats 1600000 in
set_option maxRecDepth 100000 in
theorem wayBetween_yes (v u : Value) (xs ys : List Int) (w : World) (hv : OwnI w v xs) (hn : xs.length ≤ 1048576) (hu : OwnI w u ys) (hm : ys.length ≤ 1048576) (hg : twoB xs ys = true) :
    Calls Try.prog 94 #[v, u] w fun e w' => ∃ g cap ms, e = .returned (.tuple #[.slice (some ⟨g, 0, none⟩) (far2 xs ys + 1) cap, .bool true]) ∧ Wv xs.length w' w.heap.size (.slice (some ⟨g, 0, none⟩) (far2 xs ys + 1) cap) ms (wayP xs.length xs ys (far2 xs ys) (far2 xs ys)) ∧ Below w.heap.size w w' := by
  obtain ⟨hG, h7, hH, hl⟩ := twoB_iff.1 hg
  have HC := Lib.hid hG.cnt
  have HS := Lib.hid hG.st
  have HH := Lib.hid (show St xs.length ys from ⟨hH, hl.symm⟩)
  have h9 := hG.le9
  have h9y := hH.le9
  have c := isSearched_any _ xs w hv hn
  rw [farB_iff.2 ⟨hG, h7⟩] at c
  have hgy : farB ys = true := farB_iff.2 ⟨hH, by omega⟩
  obtain ⟨ad, cap, rfl, _, _, _⟩ := hv.shape
  obtain ⟨ad2, cap2, rfl, _, _, _⟩ := hu.shape
  obtain ⟨n, hnn⟩ : ∃ n, xs.length = n := ⟨_, rfl⟩
  obtain ⟨d, hd⟩ : ∃ d, far xs.length xs ys = d := ⟨_, rfl⟩
  rw [show far2 xs ys = d from hd]
  rw [hnn] at HC HS HH h7 hd ⊢
  have hyn : ys.length = n := by omega
  rw [hnn] at hv
  rw [hyn] at hu
  rw [hnn] at c
  rw [hyn]
  clear hG hg hH hl hnn hyn
  go_enter Try.func94, Try.ntmps94
  go_wp2_with fail
  refine c.mono ?_
  rintro e w1 ⟨rfl, hb1⟩
  clear c
  have c2 := isSearched_any _ ys w1 (hu.same hb1) hm
  rw [hgy] at c2
  clear hgy
  go_wp2_with fail
  refine c2.mono ?_
  rintro e w2 ⟨rfl, hb2⟩
  clear c2
  have hB2 := hb1.trans (hb2.mono hb1.size)
  go_wp2_with fail
  refine (towerOf_any _ xs w2 (hv.same hB2) h9).mono ?_
  rintro e w3 ⟨rfl, hb3⟩
  have hB3 := hB2.trans (hb3.mono hB2.size)
  go_wp2_with fail
  refine (towerOf_any _ ys w3 (hu.same hB3) h9y).mono ?_
  rintro e w4 ⟨rfl, hb4⟩
  have hB4 := hB3.trans (hb4.mono hB3.size)
  have c4 := way_any n xs ys w4 HC h7 HS HH
  rw [hd] at c4
  go_wp2_with fail
  refine c4.mono ?_
  rintro e w5 ⟨g, cap3, ms, rfl, hW, hb5⟩
  clear c4
  go_wp2
  go_ret2
  exact ⟨g, cap3, ms, rfl, hW.mono hB4.size, hB4.trans (hb5.mono hB4.size)⟩

set_option maxHeartbeats 1600000 in
set_option maxRecDepth 100000 in
theorem wayBetween_no (v u : Value) (xs ys : List Int) (w : World) (hv : OwnI w v xs) (hn : xs.length ≤ 1048576) (hu : OwnI w u ys) (hm : ys.length ≤ 1048576) (hg : twoB xs ys = false) :
    Calls Try.prog 94 #[v, u] w fun e w' => e = .returned (.tuple #[.slice none 0 0, .bool false]) ∧ Below w.heap.size w w' := by
  have c := isSearched_any _ xs w hv hn
  obtain ⟨ad, cap, rfl, _, _, _⟩ := hv.shape
  obtain ⟨ad2, cap2, rfl, _, _, _⟩ := hu.shape
  cases hx : farB xs with
  | false =>
    rw [hx] at c
    clear hx hg
    go_enter Try.func94, Try.ntmps94
    go_wp2_with fail
    refine c.mono ?_
    rintro e w1 ⟨rfl, hb1⟩
    clear c
    go_wp2
    go_ret2
    exact ⟨rfl, hb1⟩
  | true =>
    cases hy : farB ys with
    | false =>
      rw [hx] at c
      clear hx hg
      go_enter Try.func94, Try.ntmps94
      go_wp2_with fail
      refine c.mono ?_
      rintro e w1 ⟨rfl, hb1⟩
      clear c
      have c2 := isSearched_any _ ys w1 (hu.same hb1) hm
      rw [hy] at c2
      clear hy
      go_wp2_with fail
      refine c2.mono ?_
      rintro e w2 ⟨rfl, hb2⟩
      clear c2
      go_wp2
      go_ret2
      exact ⟨rfl, hb1.trans (hb2.mono hb1.size)⟩
    | true =>
      have hl : ¬ (xs.length : Int) = ys.length := by
        intro e
        have e2 : xs.length = ys.length := by omega
        unfold twoB at hg
        rw [hx, hy] at hg
        simp [e2] at hg
      rw [hx] at c
      clear hx hg
      go_enter Try.func94, Try.ntmps94
      go_wp2_with fail
      refine c.mono ?_
      rintro e w1 ⟨rfl, hb1⟩
      clear c
      have c2 := isSearched_any _ ys w1 (hu.same hb1) hm
      rw [hy] at c2
      clear hy
      go_wp2_with fail
      refine c2.mono ?_
      rintro e w2 ⟨rfl, hb2⟩
      clear c2
      go_wp2
      go_ret2
      exact ⟨rfl, hb1.trans (hb2.mono hb1.size)⟩
end Go.Proofs.Yticpdlgnaphnkaa
