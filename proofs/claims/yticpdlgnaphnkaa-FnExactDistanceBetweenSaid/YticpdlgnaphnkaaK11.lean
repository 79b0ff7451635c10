import Derived.Test.YticpdlgnaphnkaaK10
namespace Go.Proofs.Yticpdlgnaphnkaa
open Go Go.RowKit Go.Pan

theorem run_pair0 (v0 v1 : Value) (w : World) : (Instr.extract (.tuple #[v0, v1]) 0).run Try.prog w = .ok v0 w := by kernel_rfl

theorem StackDistance_any (v : Value) (xs : List Int) (w : World) (hv : OwnI w v xs) (hn : xs.length ≤ 1048576) :
    Calls Try.prog 31 #[v] w fun e w' => e = .returned (.tuple #[.int .i64 (mStackDistance xs), .bool (farB xs)]) ∧ Below w.heap.size w w' := by
  cases hg : farB xs with
  | true =>
    have HM := Lib.hid (show mStackDistance xs = ((farS xs + 1 - 1 : Nat) : Int) from if_pos hg)
    have hG := (farB_iff.1 hg).1
    have hle := farS_le hG
    have h9 := hG.le9
    have c := wayHome_yes _ xs w hv hn hg
    obtain ⟨ad, cap, rfl, _, _, _⟩ := hv.shape
    obtain ⟨d, hd⟩ : ∃ d, farS xs = d := ⟨_, rfl⟩
    rw [hd] at c HM hle
    have hd2 : d + 1 ≤ 1048576 := by omega
    clear hG hg hd
    go_enter Try.func31, Try.ntmps31
    go_wp2_with fail
    refine c.mono ?_
    rintro e w1 ⟨g, cap2, ms, rfl, _, hb1⟩
    clear c
    go_wp2_with fail
    refine (wturns_any _ (d + 1) _ w1 hd2).mono ?_
    rintro e w2 ⟨rfl, rfl⟩
    go_wp2
    go_ret2
    exact ⟨by rw [HM.out]; rfl, hb1⟩
  | false =>
    have HM := Lib.hid (show mStackDistance xs = 0 from if_neg (by rw [hg]; exact Bool.false_ne_true))
    have c := wayHome_no _ xs w hv hn hg
    obtain ⟨ad, cap, rfl, _, _, _⟩ := hv.shape
    clear hg
    go_enter Try.func31, Try.ntmps31
    go_wp2_with fail
    refine c.mono ?_
    rintro e w1 ⟨rfl, hb1⟩
    clear c
    go_wp2_with fail
    refine (wturns_any _ 0 _ w1 (Nat.zero_le _)).mono ?_
    rintro e w2 ⟨rfl, rfl⟩
    go_wp2
    go_ret2
    exact ⟨by rw [HM.out]; rfl, hb1⟩

theorem DistanceBetween_any (v : Value) (xs : List Int) (u : Value) (ys : List Int) (w : World) (hv : OwnI w v xs) (hn : xs.length ≤ 1048576) (hu : OwnI w u ys) (hm : ys.length ≤ 1048576) :
    Calls Try.prog 48 #[v, u] w fun e w' => e = .returned (.tuple #[.int .i64 (mDistanceBetween xs ys), .bool (twoB xs ys)]) ∧ Below w.heap.size w w' := by
  cases hg : twoB xs ys with
  | true =>
    have HM := Lib.hid (show mDistanceBetween xs ys = ((far2 xs ys + 1 - 1 : Nat) : Int) from if_pos hg)
    obtain ⟨hG, h7, hH, hl⟩ := twoB_iff.1 hg
    have hle : far2 xs ys ≤ 2 * xs.length := (far_spec hG.st ⟨hH, hl.symm⟩).2.1
    have h9 := hG.le9
    have c := wayBetween_yes _ _ xs ys w hv hn hu hm hg
    obtain ⟨ad, cap, rfl, _, _, _⟩ := hv.shape
    obtain ⟨ad2, cap2, rfl, _, _, _⟩ := hu.shape
    obtain ⟨d, hd⟩ : ∃ d, far2 xs ys = d := ⟨_, rfl⟩
    rw [hd] at c HM hle
    have hd2 : d + 1 ≤ 1048576 := by omega
    clear hG hg hd hH hl
    go_enter Try.func48, Try.ntmps48
    go_wp2_with fail
    refine c.mono ?_
    rintro e w1 ⟨g, cap3, ms, rfl, _, hb1⟩
    clear c
    go_wp2_with fail
    refine (wturns_any _ (d + 1) _ w1 hd2).mono ?_
    rintro e w2 ⟨rfl, rfl⟩
    go_wp2
    go_ret2
    exact ⟨by rw [HM.out]; rfl, hb1⟩
  | false =>
    have HM := Lib.hid (show mDistanceBetween xs ys = 0 from if_neg (by rw [hg]; exact Bool.false_ne_true))
    have c := wayBetween_no _ _ xs ys w hv hn hu hm hg
    obtain ⟨ad, cap, rfl, _, _, _⟩ := hv.shape
    obtain ⟨ad2, cap2, rfl, _, _, _⟩ := hu.shape
    clear hg
    go_enter Try.func48, Try.ntmps48
    go_wp2_with fail
    refine c.mono ?_
    rintro e w1 ⟨rfl, hb1⟩
    clear c
    go_wp2_with fail
    refine (wturns_any _ 0 _ w1 (Nat.zero_le _)).mono ?_
    rintro e w2 ⟨rfl, rfl⟩
    go_wp2
    go_ret2
    exact ⟨by rw [HM.out]; rfl, hb1⟩

theorem GapExcess_any (v : Value) (xs : List Int) (w : World) (hv : OwnI w v xs) (hn : xs.length ≤ 1048576) :
    Calls Try.prog 52 #[v] w fun e w' => e = .returned (.tuple #[.int .i64 (mGapExcess xs), .bool (farB xs)]) ∧ Below w.heap.size w w' := by
  have c := StackDistance_any _ xs w hv hn
  cases hg : farB xs with
  | true =>
    have HM := Lib.hid (show mGapExcess xs = (farS xs : Int) - (gapsL xs).length from if_pos hg)
    have hG := (farB_iff.1 hg).1
    have hle := farS_le hG
    have h9 := hG.le9
    have HG := Lib.hid hG
    have HGL := Lib.hid (show (gapsL xs).length ≤ xs.length from gapsL_length xs)
    rw [hg, show mStackDistance xs = (farS xs : Int) from if_pos hg] at c
    obtain ⟨ad, cap, rfl, _, _, _⟩ := hv.shape
    obtain ⟨d, hd⟩ : ∃ d, farS xs = d := ⟨_, rfl⟩
    rw [hd] at c HM hle
    clear hG hg hd
    go_enter Try.func52, Try.ntmps52
    go_wp2_with fail
    refine c.mono ?_
    rintro e w1 ⟨rfl, hb1⟩
    clear c
    go_wp2_with fail
    refine (towerOf_any _ xs w1 (hv.same hb1) h9).mono ?_
    rintro e w2 ⟨rfl, hb2⟩
    have hB2 := hb1.trans (hb2.mono hb1.size)
    go_wp2_with fail
    refine (countGaps_any xs w2 HG).mono ?_
    rintro e w3 ⟨rfl, hb3⟩
    obtain ⟨k, hk⟩ : ∃ k, (gapsL xs).length = k := ⟨_, rfl⟩
    have hk9 : k ≤ xs.length := by rw [← hk]; exact HGL.out
    rw [hk] at HM ⊢
    have hkx : IntKind.i64.wrap ((d : Int) - k) = (d : Int) - k := IntWalk.i64_in _ (by omega)
    clear hk HGL
    go_wp2
    go_ret2
    exact ⟨by rw [HM.out]; rfl, hB2.trans (hb3.mono hB2.size)⟩
  | false =>
    have HM := Lib.hid (show mGapExcess xs = 0 from if_neg (by rw [hg]; exact Bool.false_ne_true))
    rw [hg] at c
    obtain ⟨ad, cap, rfl, _, _, _⟩ := hv.shape
    clear hg
    go_enter Try.func52, Try.ntmps52
    go_wp2_with fail
    refine c.mono ?_
    rintro e w1 ⟨rfl, hb1⟩
    clear c
    go_wp2
    go_ret2
    exact ⟨by rw [HM.out]; rfl, hb1⟩

theorem GreedyExcess_any (v : Value) (xs : List Int) (w : World) (hv : OwnI w v xs) (hn : xs.length ≤ 1048576) :
    Calls Try.prog 54 #[v] w fun e w' => e = .returned (.tuple #[.int .i64 (mGreedyExcess xs), .bool (farB xs)]) ∧ Below w.heap.size w w' := by
  have c := StackDistance_any _ xs w hv hn
  cases hg : farB xs with
  | true =>
    have HM := Lib.hid (show mGreedyExcess xs = ((greedyL xs).length : Int) - (farS xs : Int) from if_pos hg)
    have hG := (farB_iff.1 hg).1
    have hle := farS_le hG
    have h9 := hG.le9
    have HG := Lib.hid hG
    rw [hg, show mStackDistance xs = (farS xs : Int) from if_pos hg] at c
    obtain ⟨ad, cap, rfl, _, _, _⟩ := hv.shape
    obtain ⟨d, hd⟩ : ∃ d, farS xs = d := ⟨_, rfl⟩
    rw [hd] at c HM hle
    clear hG hg hd
    go_enter Try.func54, Try.ntmps54
    go_wp2_with fail
    refine c.mono ?_
    rintro e w1 ⟨rfl, hb1⟩
    clear c
    go_wp2_with fail
    refine (towerOf_any _ xs w1 (hv.same hb1) h9).mono ?_
    rintro e w2 ⟨rfl, hb2⟩
    have hB2 := hb1.trans (hb2.mono hb1.size)
    go_wp2_with fail
    refine (greedy_any xs w2 HG).mono ?_
    rintro e w3 ⟨r, rfl, ho, _, hb3⟩
    obtain ⟨k, hk⟩ : ∃ k, (greedyL xs).length = k := ⟨_, rfl⟩
    obtain ⟨ad3, cap3, rfl, hc1, hc2, _⟩ := ho.shape
    rw [hk] at HM ho hc1 ⊢
    have hk9 : k ≤ maxLen := by omega
    have hkx : IntKind.i64.wrap ((k : Int) - d) = (k : Int) - d := IntWalk.i64_in _ (by unfold maxLen at hk9; omega)
    clear hk
    go_wp2
    go_ret2
    exact ⟨by rw [HM.out]; rfl, hB2.trans (hb3.mono hB2.size)⟩
  | false =>
    have HM := Lib.hid (show mGreedyExcess xs = 0 from if_neg (by rw [hg]; exact Bool.false_ne_true))
    rw [hg] at c
    obtain ⟨ad, cap, rfl, _, _, _⟩ := hv.shape
    clear hg
    go_enter Try.func54, Try.ntmps54
    go_wp2_with fail
    refine c.mono ?_
    rintro e w1 ⟨rfl, hb1⟩
    clear c
    go_wp2
    go_ret2
    exact ⟨by rw [HM.out]; rfl, hb1⟩
end Go.Proofs.Yticpdlgnaphnkaa
