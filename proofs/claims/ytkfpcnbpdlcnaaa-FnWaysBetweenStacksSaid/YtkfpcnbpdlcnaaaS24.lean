import Derived.Test.YtkfpcnbpdlcnaaaS2A
import Derived.Test.YtkfpcnbpdlcnaaaS8
import Derived.Test.YtkfpcnbpdlcnaaaS9
namespace Go.Proofs.Ytkfpcnbpdlcnaaa
open Go Go.RowKit Go.Pan

set_option maxHeartbeats 1600000 in
set_option maxRecDepth 100000 in
theorem sStackDistance_any (v : Value) (xs : List Int) (w : World) (hv : OwnI w v xs) (hn : xs.length ≤ 1048576) :
    Calls Try.prog 39 #[v] w fun e w' => e = .returned (.tuple #[.int .i64 (mStackDistance xs), .bool (farB xs)]) ∧ Below w.heap.size w w' := by
  have c := faGood_any _ xs w hv hn
  cases hg : farB xs with
  | true =>
    obtain ⟨hG, h7⟩ := farB_iff.1 hg
    have HM := Lib.hid (show mStackDistance xs = ((dS xs.length (rankL xs) : Nat) : Int) by rw [dS_rank hG.cnt hG.st]; exact if_pos hg)
    have HC := Lib.hid hG.cnt
    have hrl := rank_lt hG.st
    have h9 := hG.le9
    obtain ⟨ad, cap, rfl, _, _, _⟩ := hv.shape
    rw [hg] at c
    obtain ⟨n, hnn⟩ : ∃ n, xs.length = n := ⟨_, rfl⟩
    have HN := Lib.hid hnn
    rw [hnn] at HC hrl h9 h7 c HM ⊢
    rw [hnn] at hv
    have hu57 := run_layer0
    clear hG hg hnn
    go_enter Try.func39, Try.ntmps39
    go_wp2_with fail
    refine c.mono ?_
    rintro e w1 ⟨rfl, hb1⟩
    clear c
    go_wp2_with fail
    refine (faAll_any n w1 HC h7).mono ?_
    rintro e w2 ⟨a, c, s, S, rfl, HR, hb2⟩
    have hv1 : OwnI w2 (.slice ad n cap) xs := by
      have := ((show OwnI w (.slice ad n cap) xs from hv).same hb1).same hb2
      exact this
    go_wp2_with fail
    refine (faRank_any _ xs w2 hv1 (by rw [HN.out]; exact h9)).mono ?_
    rintro e w3 ⟨rfl, rfl⟩
    obtain ⟨h1, h2, _, _⟩ := HR.at hrl
    have hi : (rankL xs : Int) < fact n := by omega
    clear h2
    go_wp2
    go_ret2
    exact ⟨by rw [HM.out]; rfl, hb1.trans (hb2.mono hb1.size)⟩
  | false =>
    have HM := Lib.hid (show mStackDistance xs = 0 from if_neg (by rw [hg]; exact Bool.false_ne_true))
    rw [hg] at c
    clear hg
    go_enter Try.func39, Try.ntmps39
    go_wp2_with fail
    refine c.mono ?_
    rintro e w1 ⟨rfl, hb1⟩
    go_wp2
    go_ret2
    exact ⟨by rw [HM.out]; rfl, hb1⟩

theorem faTwo_any (v u : Value) (xs ys : List Int) (w : World) (hv : OwnI w v xs) (hn : xs.length ≤ 1048576) (hu : OwnI w u ys) (hm : ys.length ≤ 1048576) :
    Calls Try.prog 35 #[v, u] w fun e w' => e = .returned (.bool (twoB xs ys)) ∧ Below w.heap.size w w' := by
  have c := faGood_any _ xs w hv hn
  obtain ⟨ad, cap, rfl, _, _, _⟩ := hv.shape
  obtain ⟨ad2, cap2, rfl, _, _, _⟩ := hu.shape
  cases hg : farB xs with
  | true =>
    cases hh : farB ys with
    | true =>
      have HT := Lib.hid (show twoB xs ys = ((xs.length : Int) == (ys.length : Int)) by unfold twoB; rw [hg, hh]; simp; rw [Bool.eq_iff_iff]; simp; omega)
      rw [hg] at c
      clear hg
      go_enter Try.func35, Try.ntmps35
      go_wp2_with fail
      refine c.mono ?_
      rintro e w1 ⟨rfl, hb1⟩
      clear c
      have c2 := faGood_any _ ys w1 (hu.same hb1) hm
      rw [hh] at c2
      clear hh
      go_wp2_with fail
      refine c2.mono ?_
      rintro e w2 ⟨rfl, hb2⟩
      clear c2
      go_wp2
      go_ret
      exact ⟨by rw [HT.out]; rfl, hb1.trans (hb2.mono hb1.size)⟩
    | false =>
      have HT := Lib.hid (show twoB xs ys = false by unfold twoB; rw [hg, hh]; rfl)
      rw [hg] at c
      clear hg
      go_enter Try.func35, Try.ntmps35
      go_wp2_with fail
      refine c.mono ?_
      rintro e w1 ⟨rfl, hb1⟩
      clear c
      have c2 := faGood_any _ ys w1 (hu.same hb1) hm
      rw [hh] at c2
      clear hh
      go_wp2_with fail
      refine c2.mono ?_
      rintro e w2 ⟨rfl, hb2⟩
      clear c2
      go_wp2
      go_ret
      exact ⟨by rw [HT.out]; rfl, hb1.trans (hb2.mono hb1.size)⟩
  | false =>
    have HT := Lib.hid (show twoB xs ys = false by unfold twoB; rw [hg]; rfl)
    rw [hg] at c
    clear hg
    go_enter Try.func35, Try.ntmps35
    go_wp2_with fail
    refine c.mono ?_
    rintro e w1 ⟨rfl, hb1⟩
    clear c
    go_wp2
    go_ret
    exact ⟨by rw [HT.out]; rfl, hb1⟩

theorem faSeen_any (v u : Value) (xs ys : List Int) (w : World) (hv : OwnI w v xs) (hu : OwnI w u ys) (h2 : Hid (twoB xs ys = true)) :
    Calls Try.prog 37 #[v, u] w fun e w' => ∃ r, e = .returned r ∧ OwnI w' r (seenL xs ys) ∧ From w.heap.size r ∧ Below w.heap.size w w' := by
  obtain ⟨h1, h7, h3, h4⟩ := twoB_iff.1 h2.out
  have HS := Lib.hid (inv_seen h1 h3 h4)
  have HP := Lib.hid (show ∀ k ∈ ys, 1 ≤ k ∧ k ≤ (ys.length : Int) from h3.2.2.1)
  have HQ := Lib.hid (show ∀ k ∈ xs, 1 ≤ k ∧ k ≤ ((invTo ys ys.length).length : Int) by rw [invTo_length, ← h4]; exact h1.2.2.1)
  have h9 := h3.le9
  have hil : (invTo ys ys.length).length ≤ 1048576 := by rw [invTo_length]; omega
  clear h1 h3 h4
  go_enter Try.func37, Try.ntmps37
  go_wp2_with fail
  refine (stInverse_any _ ys _ hu (by omega) HP).mono ?_
  rintro e w1 ⟨r1, rfl, ho1, hf1, hb1⟩
  go_wp2_with fail
  refine (stThen_any _ _ _ xs _ ho1 hil (hv.same hb1) (by omega) HQ).mono ?_
  rintro e w2 ⟨r2, rfl, ho2, hf2, hb2⟩
  go_wp2
  go_ret
  exact ⟨r2, rfl, by rw [← HS.out]; exact ho2, hf2.mono hb1.size, hb1.trans (hb2.mono hb1.size)⟩

set_option maxHeartbeats 1600000 in
set_option maxRecDepth 100000 in
theorem sDistanceBetween_any (v : Value) (xs : List Int) (u : Value) (ys : List Int) (w : World) (hv : OwnI w v xs) (hn : xs.length ≤ 1048576) (hu : OwnI w u ys) (hm : ys.length ≤ 1048576) :
    Calls Try.prog 10 #[v, u] w fun e w' => e = .returned (.tuple #[.int .i64 (mDistanceBetween xs ys), .bool (twoB xs ys)]) ∧ Below w.heap.size w w' := by
  have c := faTwo_any _ _ xs ys w hv hn hu hm
  cases hg : twoB xs ys with
  | true =>
    have HG := Lib.hid hg
    have HM := Lib.hid (show mDistanceBetween xs ys = mStackDistance (seenL xs ys) by unfold mDistanceBetween mStackDistance; rw [if_pos hg, if_pos (seen_farB hg), seen_farS hg])
    have HB := Lib.hid (seen_farB hg)
    have hsl : (seenL xs ys).length ≤ 1048576 := by simpa [seenL] using hn
    rw [hg] at c
    clear hg
    go_enter Try.func10, Try.ntmps10
    go_wp2_with fail
    refine c.mono ?_
    rintro e w1 ⟨rfl, hb1⟩
    clear c
    go_wp2_with fail
    refine (faSeen_any _ _ xs ys _ (hv.same hb1) (hu.same hb1) HG).mono ?_
    rintro e w2 ⟨r, rfl, ho, hf, hb2⟩
    have c2 := sStackDistance_any _ _ w2 ho hsl
    rw [HB.out] at c2
    go_wp2_with fail
    refine c2.mono ?_
    rintro e w3 ⟨rfl, hb3⟩
    have hB2 := hb1.trans (hb2.mono hb1.size)
    clear c2
    go_wp2
    go_ret2
    exact ⟨by rw [HM.out]; rfl, hB2.trans (hb3.mono hB2.size)⟩
  | false =>
    have HM := Lib.hid (show mDistanceBetween xs ys = 0 from if_neg (by rw [hg]; exact Bool.false_ne_true))
    rw [hg] at c
    clear hg
    go_enter Try.func10, Try.ntmps10
    go_wp2_with fail
    refine c.mono ?_
    rintro e w1 ⟨rfl, hb1⟩
    go_wp2
    go_ret2
    exact ⟨by rw [HM.out]; rfl, hb1⟩

theorem farB_good {xs : List Int} (h : farB xs = true) : goodB xs = true := goodB_iff.2 (farB_iff.1 h).1

end Go.Proofs.Ytkfpcnbpdlcnaaa

