import Derived.Test.YtlomdnldokbjoaaDw
namespace Go.Proofs.Ytlomdnldokbjoaa
open Go Go.RowKit Go.Pan

theorem DrawIsStack_any (a : Option Addr) (n c : Nat) (w : World) (hv : Byts w (.slice a n c) n w.heap.size) (hn : n ≤ maxLen) :
    Calls Try.prog 141 #[.slice a n c] w fun e w' => ∃ r, e = .returned r ∧ ∃ xs, OwnI w' r xs ∧ xs.length ≤ 10 ∧ Below w.heap.size w w' := by
  go_enter Try.func141, Try.ntmps141
  go_wp2_with fail
  have hcu := Cu.new a n c w hv hn
  have hB := (Below.refl w.heap.size w).alloc (Nat.le_refl _) (.cells #[.slice a n c, .int .i64 0, .int .u64 0] 90)
  clear hv hn
  go_wp2_with fail
  refine (curStack_any w.heap.size 0 _ hcu (by omega)).mono ?_
  rintro e w1 ⟨r, rfl, xs, ho, hxl, hf, h1, hg1⟩
  have hB1 := hB.grown hg1 (by simp) (by simp)
  go_wp2
  go_ret
  exact ⟨_, rfl, xs, ho, hxl, hB1⟩

theorem DrawBottomGame_any (a : Option Addr) (n c : Nat) (w : World) (hv : Byts w (.slice a n c) n w.heap.size) (hn : n ≤ maxLen) :
    Calls Try.prog 103 #[.slice a n c] w fun e w' => ∃ r, e = .returned r ∧ ∃ xs, OwnI w' r xs ∧ xs.length ≤ 10 ∧ Below w.heap.size w w' := by
  go_enter Try.func103, Try.ntmps103
  go_wp2_with fail
  refine (DrawIsStack_any a n c w hv hn).mono ?_
  rintro e w1 ⟨r, rfl, xs, h1, h2, h3⟩
  go_wp2
  go_ret
  exact ⟨_, rfl, xs, h1, h2, h3⟩

theorem DrawTurnStack_any (a : Option Addr) (n c : Nat) (w : World) (hv : Byts w (.slice a n c) n w.heap.size) (hn : n ≤ maxLen) :
    Calls Try.prog 28 #[.slice a n c] w fun e w' => ∃ r k, e = .returned (.tuple #[r, .int .i64 k]) ∧ ∃ xs, OwnI w' r xs ∧ xs.length ≤ 10 ∧ (-1 ≤ k ∧ k ≤ 20) ∧ Below w.heap.size w w' := by
  go_enter Try.func28, Try.ntmps28
  go_wp2_with fail
  have hcu := Cu.new a n c w hv hn
  have hB := (Below.refl w.heap.size w).alloc (Nat.le_refl _) (.cells #[.slice a n c, .int .i64 0, .int .u64 0] 90)
  clear hv hn
  go_wp2_with fail
  refine (curStack_any w.heap.size 0 _ hcu (by omega)).mono ?_
  rintro e w1 ⟨r, rfl, xs, ho, hxl, hf, h1, hg1⟩
  have hB1 := hB.grown hg1 (by simp) (by simp)
  have hs1 := h1.lt
  go_wp2_with fail
  refine (curPick_any w.heap.size 50 9 w1 h1 (by omega) (by omega)).mono ?_
  rintro e w2 ⟨x, rfl, hx, h2, hg2⟩
  have hB2 := hB1.grown hg2 hB1.size (by simp)
  have ho2 := Own.grown ho hg2 (fun g1 e e2 => by have := hf g1 e; simp at this; cases e2; omega)
  have hs2 := hg2.size
  go_wp2_with fail
  refine (curPick_any w.heap.size 52 9 w2 h2 (by omega) (by omega)).mono ?_
  rintro e w3 ⟨y, rfl, hy, h3, hg3⟩
  have hB3 := hB2.grown hg3 hB2.size (by simp)
  have ho3 := Own.grown ho2 hg3 (fun g1 e e2 => by have := hf g1 e; simp at this; cases e2; omega)
  clear hB hB1 hB2 ho ho2 hg1 hg2 hg3 h1 h2 h3 hcu
  go_wp2
  go_ret2
  exact ⟨_, _, rfl, xs, ho3, hxl, by first | omega | (rw [IntKind.wrap_i64]; omega), hB3⟩

theorem DrawCardGame_any (a : Option Addr) (n c : Nat) (w : World) (hv : Byts w (.slice a n c) n w.heap.size) (hn : n ≤ maxLen) :
    Calls Try.prog 100 #[.slice a n c] w fun e w' => ∃ r k, e = .returned (.tuple #[r, .int .i64 k]) ∧ ∃ xs, OwnI w' r xs ∧ xs.length ≤ 10 ∧ (-1 ≤ k ∧ k ≤ 20) ∧ Below w.heap.size w w' := by
  go_enter Try.func100, Try.ntmps100
  go_wp2_with fail
  refine (DrawTurnStack_any a n c w hv hn).mono ?_
  rintro e w1 ⟨r, k, rfl, xs, h1, h2, h3, h4⟩
  go_wp2
  go_ret2
  exact ⟨_, _, rfl, xs, h1, h2, h3, h4⟩

theorem DrawCountGame_any (a : Option Addr) (n c : Nat) (w : World) (hv : Byts w (.slice a n c) n w.heap.size) (hn : n ≤ maxLen) :
    Calls Try.prog 97 #[.slice a n c] w fun e w' => ∃ r k, e = .returned (.tuple #[r, .int .i64 k]) ∧ ∃ xs, OwnI w' r xs ∧ xs.length ≤ 10 ∧ (-1 ≤ k ∧ k ≤ 20) ∧ Below w.heap.size w w' := by
  go_enter Try.func97, Try.ntmps97
  go_wp2_with fail
  have hcu := Cu.new a n c w hv hn
  have hB := (Below.refl w.heap.size w).alloc (Nat.le_refl _) (.cells #[.slice a n c, .int .i64 0, .int .u64 0] 90)
  clear hv hn
  go_wp2_with fail
  refine (curStack_any w.heap.size 0 _ hcu (by omega)).mono ?_
  rintro e w1 ⟨r, rfl, xs, ho, hxl, hf, h1, hg1⟩
  have hB1 := hB.grown hg1 (by simp) (by simp)
  have hs1 := h1.lt
  go_wp2_with fail
  refine (curPick_any w.heap.size 50 11 w1 h1 (by omega) (by omega)).mono ?_
  rintro e w2 ⟨x, rfl, hx, h2, hg2⟩
  have hB2 := hB1.grown hg2 hB1.size (by simp)
  have ho2 := Own.grown ho hg2 (fun g1 e e2 => by have := hf g1 e; simp at this; cases e2; omega)
  have hs2 := hg2.size
  go_wp2_with fail
  refine (curPick_any w.heap.size 52 9 w2 h2 (by omega) (by omega)).mono ?_
  rintro e w3 ⟨y, rfl, hy, h3, hg3⟩
  have hB3 := hB2.grown hg3 hB2.size (by simp)
  have ho3 := Own.grown ho2 hg3 (fun g1 e e2 => by have := hf g1 e; simp at this; cases e2; omega)
  clear hB hB1 hB2 ho ho2 hg1 hg2 hg3 h1 h2 h3 hcu
  go_wp2
  go_ret2
  exact ⟨_, _, rfl, xs, ho3, hxl, by first | omega | (rw [IntKind.wrap_i64]; omega), hB3⟩

end Go.Proofs.Ytlomdnldokbjoaa
