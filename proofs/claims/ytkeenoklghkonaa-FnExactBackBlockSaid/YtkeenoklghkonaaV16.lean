import Derived.Test.YtkeenoklghkonaaS1
import Derived.Test.YtkeenoklghkonaaI1
import Derived.Test.YtkeenoklghkonaaQ6
namespace Go.Proofs.Ytkeenoklghkonaa
open Go Go.RowKit Go.Pan

set_option maxRecDepth 100000 in
theorem bkGood_any (n : Int) (b : Int × Int × Int) (w : World) :
    Calls Try.prog 108 #[.int .i64 n, .agg #[.int .i64 b.1, .int .i64 b.2.1, .int .i64 b.2.2]] w fun r w' => r = .returned (.bool (bkB n b)) ∧ Below w.heap.size w w' := by
  have hb0 : Below w.heap.size w (w.alloc (.cells #[.int .i64 b.1, .int .i64 b.2.1, .int .i64 b.2.2] 45)) := (Below.refl _ _).alloc (Nat.le_refl _) _
  have c0 := l1In_any n 1 9
  cases h0 : inB n 1 9 with
  | false =>
    rw [h0] at c0
    have HR := Lib.hid (show bkB n b = false by unfold bkB; simp only [h0]; simp)
    clear h0
    go_enter Try.func108, Try.ntmps108
    go_wp2_with fail
    refine (c0 _).mono ?_
    rintro e w1 ⟨rfl, rfl⟩
    go_wp2
    go_ret
    exact ⟨by rw [HR.out]; rfl, hb0⟩
  | true =>
    rw [h0] at c0
    have c1 := l1In_any b.1 1 n
    cases h1 : inB b.1 1 n with
    | false =>
      rw [h1] at c1
      have HR := Lib.hid (show bkB n b = false by unfold bkB; simp only [h0, h1]; simp)
      clear h0 h1
      go_enter Try.func108, Try.ntmps108
      go_wp2_with fail
      refine (c0 _).mono ?_
      rintro e w1 ⟨rfl, rfl⟩
      go_wp2_with fail
      refine (c1 _).mono ?_
      rintro e w1 ⟨rfl, rfl⟩
      go_wp2
      go_ret
      exact ⟨by rw [HR.out]; rfl, hb0⟩
    | true =>
      rw [h1] at c1
      have c2 := l1In_any b.2.1 b.1 n
      cases h2 : inB b.2.1 b.1 n with
      | false =>
        rw [h2] at c2
        have HR := Lib.hid (show bkB n b = false by unfold bkB; simp only [h0, h1, h2]; simp)
        clear h0 h1 h2
        go_enter Try.func108, Try.ntmps108
        go_wp2_with fail
        refine (c0 _).mono ?_
        rintro e w1 ⟨rfl, rfl⟩
        go_wp2_with fail
        refine (c1 _).mono ?_
        rintro e w1 ⟨rfl, rfl⟩
        go_wp2_with fail
        refine (c2 _).mono ?_
        rintro e w1 ⟨rfl, rfl⟩
        go_wp2
        go_ret
        exact ⟨by rw [HR.out]; rfl, hb0⟩
      | true =>
        rw [h2] at c2
        have c3 := l1In_any b.2.2 1 n
        cases h3 : inB b.2.2 1 n with
        | false =>
          rw [h3] at c3
          have HR := Lib.hid (show bkB n b = false by unfold bkB; simp only [h0, h1, h2, h3]; simp)
          clear h0 h1 h2 h3
          go_enter Try.func108, Try.ntmps108
          go_wp2_with fail
          refine (c0 _).mono ?_
          rintro e w1 ⟨rfl, rfl⟩
          go_wp2_with fail
          refine (c1 _).mono ?_
          rintro e w1 ⟨rfl, rfl⟩
          go_wp2_with fail
          refine (c2 _).mono ?_
          rintro e w1 ⟨rfl, rfl⟩
          go_wp2_with fail
          refine (c3 _).mono ?_
          rintro e w1 ⟨rfl, rfl⟩
          go_wp2
          go_ret
          exact ⟨by rw [HR.out]; rfl, hb0⟩
        | true =>
          rw [h3] at c3
          have HR := Lib.hid (show bkB n b = decide (b.2.1 < b.2.2) by unfold bkB; simp only [h0, h1, h2, h3]; simp)
          clear h0 h1 h2 h3
          go_enter Try.func108, Try.ntmps108
          go_wp2_with fail
          refine (c0 _).mono ?_
          rintro e w1 ⟨rfl, rfl⟩
          go_wp2_with fail
          refine (c1 _).mono ?_
          rintro e w1 ⟨rfl, rfl⟩
          go_wp2_with fail
          refine (c2 _).mono ?_
          rintro e w1 ⟨rfl, rfl⟩
          go_wp2_with fail
          refine (c3 _).mono ?_
          rintro e w1 ⟨rfl, rfl⟩
          go_wp2
          go_ret
          exact ⟨by rw [HR.out]; rfl, hb0⟩

set_option maxRecDepth 100000 in
theorem bkExchange_any (n : Int) (e : Int × Int × Int × Int) (w : World) :
    Calls Try.prog 126 #[.int .i64 n, .agg #[.int .i64 e.1, .int .i64 e.2.1, .int .i64 e.2.2.1, .int .i64 e.2.2.2]] w fun r w' => r = .returned (.bool (exB n e)) ∧ Below w.heap.size w w' := by
  have hb0 : Below w.heap.size w (w.alloc (.cells #[.int .i64 e.1, .int .i64 e.2.1, .int .i64 e.2.2.1, .int .i64 e.2.2.2] 63)) := (Below.refl _ _).alloc (Nat.le_refl _) _
  have c0 := l1In_any n 1 9
  cases h0 : inB n 1 9 with
  | false =>
    rw [h0] at c0
    have HR := Lib.hid (show exB n e = false by unfold exB; simp only [h0]; simp)
    clear h0
    go_enter Try.func126, Try.ntmps126
    go_wp2_with fail
    refine (c0 _).mono ?_
    rintro e w1 ⟨rfl, rfl⟩
    go_wp2
    go_ret
    exact ⟨by rw [HR.out]; rfl, hb0⟩
  | true =>
    rw [h0] at c0
    have c1 := l1In_any e.1 1 n
    cases h1 : inB e.1 1 n with
    | false =>
      rw [h1] at c1
      have HR := Lib.hid (show exB n e = false by unfold exB; simp only [h0, h1]; simp)
      clear h0 h1
      go_enter Try.func126, Try.ntmps126
      go_wp2_with fail
      refine (c0 _).mono ?_
      rintro e w1 ⟨rfl, rfl⟩
      go_wp2_with fail
      refine (c1 _).mono ?_
      rintro e w1 ⟨rfl, rfl⟩
      go_wp2
      go_ret
      exact ⟨by rw [HR.out]; rfl, hb0⟩
    | true =>
      rw [h1] at c1
      have c2 := l1In_any e.2.1 e.1 n
      cases h2 : inB e.2.1 e.1 n with
      | false =>
        rw [h2] at c2
        have HR := Lib.hid (show exB n e = false by unfold exB; simp only [h0, h1, h2]; simp)
        clear h0 h1 h2
        go_enter Try.func126, Try.ntmps126
        go_wp2_with fail
        refine (c0 _).mono ?_
        rintro e w1 ⟨rfl, rfl⟩
        go_wp2_with fail
        refine (c1 _).mono ?_
        rintro e w1 ⟨rfl, rfl⟩
        go_wp2_with fail
        refine (c2 _).mono ?_
        rintro e w1 ⟨rfl, rfl⟩
        go_wp2
        go_ret
        exact ⟨by rw [HR.out]; rfl, hb0⟩
      | true =>
        rw [h2] at c2
        have c3 := l1In_any e.2.2.1 1 n
        cases h3 : inB e.2.2.1 1 n with
        | false =>
          rw [h3] at c3
          have HR := Lib.hid (show exB n e = false by unfold exB; simp only [h0, h1, h2, h3]; simp)
          clear h0 h1 h2 h3
          go_enter Try.func126, Try.ntmps126
          go_wp2_with fail
          refine (c0 _).mono ?_
          rintro e w1 ⟨rfl, rfl⟩
          go_wp2_with fail
          refine (c1 _).mono ?_
          rintro e w1 ⟨rfl, rfl⟩
          go_wp2_with fail
          refine (c2 _).mono ?_
          rintro e w1 ⟨rfl, rfl⟩
          go_wp2_with fail
          refine (c3 _).mono ?_
          rintro e w1 ⟨rfl, rfl⟩
          go_wp2
          go_ret
          exact ⟨by rw [HR.out]; rfl, hb0⟩
        | true =>
          rw [h3] at c3
          by_cases g4 : e.2.1 < e.2.2.1
          · have h4 : decide (e.2.1 < e.2.2.1) = true := decide_eq_true g4
            have c5 := l1In_any e.2.2.2 e.2.2.1 n
            cases h5 : inB e.2.2.2 e.2.2.1 n with
            | false =>
              rw [h5] at c5
              have HR := Lib.hid (show exB n e = false by unfold exB; simp only [h0, h1, h2, h3, h4, h5]; simp)
              clear h0 h1 h2 h3 h4 h5
              go_enter Try.func126, Try.ntmps126
              go_wp2_with fail
              refine (c0 _).mono ?_
              rintro e w1 ⟨rfl, rfl⟩
              go_wp2_with fail
              refine (c1 _).mono ?_
              rintro e w1 ⟨rfl, rfl⟩
              go_wp2_with fail
              refine (c2 _).mono ?_
              rintro e w1 ⟨rfl, rfl⟩
              go_wp2_with fail
              refine (c3 _).mono ?_
              rintro e w1 ⟨rfl, rfl⟩
              go_wp2_with fail
              refine (c5 _).mono ?_
              rintro e w1 ⟨rfl, rfl⟩
              go_wp2
              go_ret
              exact ⟨by rw [HR.out]; rfl, hb0⟩
            | true =>
              rw [h5] at c5
              have HR := Lib.hid (show exB n e = true by unfold exB; simp only [h0, h1, h2, h3, h4, h5]; simp)
              clear h0 h1 h2 h3 h4 h5
              go_enter Try.func126, Try.ntmps126
              go_wp2_with fail
              refine (c0 _).mono ?_
              rintro e w1 ⟨rfl, rfl⟩
              go_wp2_with fail
              refine (c1 _).mono ?_
              rintro e w1 ⟨rfl, rfl⟩
              go_wp2_with fail
              refine (c2 _).mono ?_
              rintro e w1 ⟨rfl, rfl⟩
              go_wp2_with fail
              refine (c3 _).mono ?_
              rintro e w1 ⟨rfl, rfl⟩
              go_wp2_with fail
              refine (c5 _).mono ?_
              rintro e w1 ⟨rfl, rfl⟩
              go_wp2
              go_ret
              exact ⟨by rw [HR.out]; rfl, hb0⟩
          · have h4 : decide (e.2.1 < e.2.2.1) = false := decide_eq_false g4
            have HR := Lib.hid (show exB n e = false by unfold exB; simp only [h0, h1, h2, h3, h4]; simp)
            clear h0 h1 h2 h3 h4
            have g4' : e.2.2.1 ≤ e.2.1 := by omega
            go_enter Try.func126, Try.ntmps126
            go_wp2_with fail
            refine (c0 _).mono ?_
            rintro e w1 ⟨rfl, rfl⟩
            go_wp2_with fail
            refine (c1 _).mono ?_
            rintro e w1 ⟨rfl, rfl⟩
            go_wp2_with fail
            refine (c2 _).mono ?_
            rintro e w1 ⟨rfl, rfl⟩
            go_wp2_with fail
            refine (c3 _).mono ?_
            rintro e w1 ⟨rfl, rfl⟩
            go_wp2
            go_ret
            exact ⟨by rw [HR.out]; rfl, hb0⟩

theorem sIsBlock_any (n : Int) (b : Int × Int × Int) (w : World) :
    Calls Try.prog 44 #[.int .i64 n, .agg #[.int .i64 b.1, .int .i64 b.2.1, .int .i64 b.2.2]] w fun r w' => r = .returned (.bool (bkB n b)) ∧ Below w.heap.size w w' := by
  have hb0 : Below w.heap.size w (w.alloc (.cells #[.int .i64 b.1, .int .i64 b.2.1, .int .i64 b.2.2] 45)) := (Below.refl _ _).alloc (Nat.le_refl _) _
  go_enter Try.func44, Try.ntmps44
  go_wp2_with fail
  refine (bkGood_any n b _).mono ?_
  rintro e w1 ⟨rfl, hb⟩
  go_wp2
  go_ret
  exact ⟨rfl, hb0.trans (hb.mono (by simp))⟩

theorem sIsExchange_any (n : Int) (e : Int × Int × Int × Int) (w : World) :
    Calls Try.prog 65 #[.int .i64 n, .agg #[.int .i64 e.1, .int .i64 e.2.1, .int .i64 e.2.2.1, .int .i64 e.2.2.2]] w fun r w' => r = .returned (.bool (exB n e)) ∧ Below w.heap.size w w' := by
  have hb0 : Below w.heap.size w (w.alloc (.cells #[.int .i64 e.1, .int .i64 e.2.1, .int .i64 e.2.2.1, .int .i64 e.2.2.2] 63)) := (Below.refl _ _).alloc (Nat.le_refl _) _
  go_enter Try.func65, Try.ntmps65
  go_wp2_with fail
  refine (bkExchange_any n e _).mono ?_
  rintro e w1 ⟨rfl, hb⟩
  go_wp2
  go_ret
  exact ⟨rfl, hb0.trans (hb.mono (by simp))⟩

set_option maxRecDepth 100000 in
set_option maxHeartbeats 1600000 in
theorem IsExchange_any (n : Int) (e : Int × Int × Int × Int) (w : World) :
    Calls Try.prog 67 #[.int .i64 n, .agg #[.int .i64 e.1, .int .i64 e.2.1, .int .i64 e.2.2.1, .int .i64 e.2.2.2]] w fun r w' => r = .returned (.bool (exB n e)) ∧ Below w.heap.size w w' := by
  have hb0 : Below w.heap.size w (w.alloc (.cells #[.int .i64 e.1, .int .i64 e.2.1, .int .i64 e.2.2.1, .int .i64 e.2.2.2] 63)) := (Below.refl _ _).alloc (Nat.le_refl _) _
  have ci := isCount_any n
  by_cases g0 : e.1 ≤ e.2.1
  ·
    by_cases g1 : e.2.1 < e.2.2.1
    ·
      by_cases g2 : e.2.2.1 ≤ e.2.2.2
      ·
        cases hn : inB n 1 9 with
        | false =>
          rw [hn] at ci
          have HR := Lib.hid (show exB n e = false by unfold exB; rw [hn]; rfl)
          clear hn
          go_enter Try.func67, Try.ntmps67
          go_wp2_with fail
          refine (ci _).mono ?_
          rintro r w1 ⟨rfl, rfl⟩
          go_wp2
          go_ret
          exact ⟨by rw [HR.out]; rfl, hb0⟩
        | true =>
          rw [hn] at ci
          by_cases k1 : 1 ≤ e.1
          ·
            have HR := Lib.hid (show exB n e = decide (e.2.2.2 ≤ n) by have h9 := inB_iff.1 hn; rw [Bool.eq_iff_iff, exB_iff, decide_eq_true_iff]; omega)
            clear hn
            go_enter Try.func67, Try.ntmps67
            go_wp2_with fail
            refine (ci _).mono ?_
            rintro r w1 ⟨rfl, rfl⟩
            go_wp2
            go_ret
            exact ⟨by rw [HR.out]; rfl, hb0⟩
          · have k1' : e.1 < 1 := by omega
            have HR := Lib.hid (show exB n e = false by rw [Bool.eq_false_iff]; intro h; have := exB_iff.1 h; omega)
            clear hn
            go_enter Try.func67, Try.ntmps67
            go_wp2_with fail
            refine (ci _).mono ?_
            rintro r w1 ⟨rfl, rfl⟩
            go_wp2
            go_ret
            exact ⟨by rw [HR.out]; rfl, hb0⟩
      · have g2' : e.2.2.2 < e.2.2.1 := by omega
        cases hn : inB n 1 9 with
        | false =>
          rw [hn] at ci
          have HR := Lib.hid (show exB n e = false by unfold exB; rw [hn]; rfl)
          clear hn
          go_enter Try.func67, Try.ntmps67
          go_wp2_with fail
          refine (ci _).mono ?_
          rintro r w1 ⟨rfl, rfl⟩
          go_wp2
          go_ret
          exact ⟨by rw [HR.out]; rfl, hb0⟩
        | true =>
          rw [hn] at ci
          by_cases k1 : 1 ≤ e.1
          ·
            have HR := Lib.hid (show exB n e = false by rw [Bool.eq_false_iff]; intro h; have := exB_iff.1 h; omega)
            clear hn
            go_enter Try.func67, Try.ntmps67
            go_wp2_with fail
            refine (ci _).mono ?_
            rintro r w1 ⟨rfl, rfl⟩
            go_wp2
            go_ret
            exact ⟨by rw [HR.out]; rfl, hb0⟩
          · have k1' : e.1 < 1 := by omega
            have HR := Lib.hid (show exB n e = false by rw [Bool.eq_false_iff]; intro h; have := exB_iff.1 h; omega)
            clear hn
            go_enter Try.func67, Try.ntmps67
            go_wp2_with fail
            refine (ci _).mono ?_
            rintro r w1 ⟨rfl, rfl⟩
            go_wp2
            go_ret
            exact ⟨by rw [HR.out]; rfl, hb0⟩
    · have g1' : e.2.2.1 ≤ e.2.1 := by omega
      cases hn : inB n 1 9 with
      | false =>
        rw [hn] at ci
        have HR := Lib.hid (show exB n e = false by unfold exB; rw [hn]; rfl)
        clear hn
        go_enter Try.func67, Try.ntmps67
        go_wp2_with fail
        refine (ci _).mono ?_
        rintro r w1 ⟨rfl, rfl⟩
        go_wp2
        go_ret
        exact ⟨by rw [HR.out]; rfl, hb0⟩
      | true =>
        rw [hn] at ci
        by_cases k1 : 1 ≤ e.1
        ·
          have HR := Lib.hid (show exB n e = false by rw [Bool.eq_false_iff]; intro h; have := exB_iff.1 h; omega)
          clear hn
          go_enter Try.func67, Try.ntmps67
          go_wp2_with fail
          refine (ci _).mono ?_
          rintro r w1 ⟨rfl, rfl⟩
          go_wp2
          go_ret
          exact ⟨by rw [HR.out]; rfl, hb0⟩
        · have k1' : e.1 < 1 := by omega
          have HR := Lib.hid (show exB n e = false by rw [Bool.eq_false_iff]; intro h; have := exB_iff.1 h; omega)
          clear hn
          go_enter Try.func67, Try.ntmps67
          go_wp2_with fail
          refine (ci _).mono ?_
          rintro r w1 ⟨rfl, rfl⟩
          go_wp2
          go_ret
          exact ⟨by rw [HR.out]; rfl, hb0⟩
  · have g0' : e.2.1 < e.1 := by omega
    cases hn : inB n 1 9 with
    | false =>
      rw [hn] at ci
      have HR := Lib.hid (show exB n e = false by unfold exB; rw [hn]; rfl)
      clear hn
      go_enter Try.func67, Try.ntmps67
      go_wp2_with fail
      refine (ci _).mono ?_
      rintro r w1 ⟨rfl, rfl⟩
      go_wp2
      go_ret
      exact ⟨by rw [HR.out]; rfl, hb0⟩
    | true =>
      rw [hn] at ci
      by_cases k1 : 1 ≤ e.1
      ·
        have HR := Lib.hid (show exB n e = false by rw [Bool.eq_false_iff]; intro h; have := exB_iff.1 h; omega)
        clear hn
        go_enter Try.func67, Try.ntmps67
        go_wp2_with fail
        refine (ci _).mono ?_
        rintro r w1 ⟨rfl, rfl⟩
        go_wp2
        go_ret
        exact ⟨by rw [HR.out]; rfl, hb0⟩
      · have k1' : e.1 < 1 := by omega
        have HR := Lib.hid (show exB n e = false by rw [Bool.eq_false_iff]; intro h; have := exB_iff.1 h; omega)
        clear hn
        go_enter Try.func67, Try.ntmps67
        go_wp2_with fail
        refine (ci _).mono ?_
        rintro r w1 ⟨rfl, rfl⟩
        go_wp2
        go_ret
        exact ⟨by rw [HR.out]; rfl, hb0⟩

theorem touching_any (b : Int × Int × Int) (w : World) :
    Calls Try.prog 109 #[.agg #[.int .i64 b.1, .int .i64 b.2.1, .int .i64 b.2.2]] w fun r w' => r = .returned (.agg #[.int .i64 (touchL b).1, .int .i64 (touchL b).2.1, .int .i64 (touchL b).2.2.1, .int .i64 (touchL b).2.2.2]) ∧ Below w.heap.size w w' := by
  go_enter Try.func109, Try.ntmps109
  go_wp2
  exact bodyPost_ret (v := .agg #[.int .i64 (touchL b).1, .int .i64 (touchL b).2.1, .int .i64 (touchL b).2.2.1, .int .i64 (touchL b).2.2.2]) (by simp [results, Try.results109, go_sem, touchL] <;> exact (IntWalk.i64_left _).symm) rfl ⟨rfl, ((Below.refl _ _).alloc (Nat.le_refl _) _).alloc (by simp) _⟩

theorem IsBlock_any (n : Int) (b : Int × Int × Int) (w : World) :
    Calls Try.prog 46 #[.int .i64 n, .agg #[.int .i64 b.1, .int .i64 b.2.1, .int .i64 b.2.2]] w fun r w' => r = .returned (.bool (bkB n b)) ∧ Below w.heap.size w w' := by
  have hb0 : Below w.heap.size w (w.alloc (.cells #[.int .i64 b.1, .int .i64 b.2.1, .int .i64 b.2.2] 45)) := (Below.refl _ _).alloc (Nat.le_refl _) _
  have HR := Lib.hid (touch_B n b)
  go_enter Try.func46, Try.ntmps46
  go_wp2_with fail
  refine (touching_any b _).mono ?_
  rintro e w1 ⟨rfl, hb1⟩
  go_wp2_with fail
  refine (IsExchange_any n (touchL b) _).mono ?_
  rintro e w2 ⟨rfl, hb2⟩
  have hB1 := hb0.trans (hb1.mono hb0.size)
  go_wp2
  go_ret
  exact ⟨by rw [← HR.out]; rfl, hB1.trans (hb2.mono hB1.size)⟩

end Go.Proofs.Ytkeenoklghkonaa
