import Derived.Test.YtocccocpacohaabM5
namespace Go.Pan

-- two turns that sort
def isRamp (xs : List Int) : Bool := decide (xs = ramp 1 xs.length)
theorem isRamp_turn {xs : List Int} (k : Nat) : isRamp (turnL xs k) = decide (turnL xs k = ramp 1 xs.length) := by unfold isRamp; rw [turnL_length]
/-- the first of the turns 2, .., k + 1 that sorts -/
def oneTo (xs : List Int) : Nat → Option Nat
  | 0 => none
  | k + 1 => match oneTo xs k with
    | some j => some j
    | none => if isRamp (turnL xs (k + 2)) then some (k + 2) else none
theorem oneTo_step {xs : List Int} {k : Nat} (h : oneTo xs k = none) : oneTo xs (k + 1) = if isRamp (turnL xs (k + 2)) then some (k + 2) else none := by
  show (match oneTo xs k with | some j => some j | none => if isRamp (turnL xs (k + 2)) then some (k + 2) else none) = _
  rw [h]
theorem oneTo_some {xs : List Int} {k : Nat} {j : Nat} (h : oneTo xs k = some j) (m : Nat) : oneTo xs (k + m) = some j := by
  induction m with
  | zero => exact h
  | succ m ih =>
    show (match oneTo xs (k + m) with | some j => some j | none => if isRamp (turnL xs (k + m + 2)) then some (k + m + 2) else none) = _
    rw [ih]
/-- the first pair, the first turn a, the second one of 2, .., k + 1 -/
def twoTo (xs : List Int) (a : Nat) : Nat → Option Nat := oneTo (turnL xs a)
/-- the first pair whose first turn is one of 2, .., k + 1 -/
def pairTo (xs : List Int) : Nat → Option (Nat × Nat)
  | 0 => none
  | k + 1 => match pairTo xs k with
    | some j => some j
    | none => (oneTo (turnL xs (k + 2)) (xs.length - 1)).map fun b => (k + 2, b)
theorem pairTo_step {xs : List Int} {k : Nat} (h : pairTo xs k = none) : pairTo xs (k + 1) = (oneTo (turnL xs (k + 2)) (xs.length - 1)).map fun b => (k + 2, b) := by
  show (match pairTo xs k with | some j => some j | none => (oneTo (turnL xs (k + 2)) (xs.length - 1)).map fun b => (k + 2, b)) = _
  rw [h]
theorem pairTo_some {xs : List Int} {k : Nat} {j : Nat × Nat} (h : pairTo xs k = some j) (m : Nat) : pairTo xs (k + m) = some j := by
  induction m with
  | zero => exact h
  | succ m ih =>
    show (match pairTo xs (k + m) with | some j => some j | none => (oneTo (turnL xs (k + m + 2)) (xs.length - 1)).map fun b => (k + m + 2, b)) = _
    rw [ih]
def twoL (xs : List Int) : Option (List Int) :=
  if isRamp xs then some [] else match oneTo xs (xs.length - 1) with
    | some j => some [(j : Int)]
    | none => (pairTo xs (xs.length - 1)).map fun p => [(p.1 : Int), (p.2 : Int)]
def okTwoTurnSorts (xs : List Int) : Bool := goodB xs && (twoL xs).isSome
def mTwoTurnSorts (xs : List Int) : List Int := if goodB xs = true then (twoL xs).getD [] else []
theorem twoL_nil {xs : List Int} (h : isRamp xs = true) : twoL xs = some [] := by simp [twoL, h]
theorem twoL_one {xs : List Int} (h : isRamp xs = false) {k : Nat} (hk : k + 1 ≤ xs.length - 1) (h0 : oneTo xs k = none) (h1 : isRamp (turnL xs (k + 2)) = true) : twoL xs = some [((k : Int) + 2)] := by
  have h2 : oneTo xs (k + 1) = some (k + 2) := by rw [oneTo_step h0, h1]; rfl
  have h3 := oneTo_some h2 (xs.length - 1 - (k + 1))
  rw [show k + 1 + (xs.length - 1 - (k + 1)) = xs.length - 1 by omega] at h3
  simp [twoL, h, h3]
theorem twoL_two {xs : List Int} (h : isRamp xs = false) (hone : oneTo xs (xs.length - 1) = none) {a b : Nat} (ha : a + 1 ≤ xs.length - 1) (hb : b + 1 ≤ xs.length - 1) (h0 : pairTo xs a = none) (h1 : oneTo (turnL xs (a + 2)) b = none) (h2 : isRamp (turnL (turnL xs (a + 2)) (b + 2)) = true) :
    twoL xs = some [((a : Int) + 2), ((b : Int) + 2)] := by
  have e1 : oneTo (turnL xs (a + 2)) (b + 1) = some (b + 2) := by rw [oneTo_step h1, h2]; rfl
  have e2 := oneTo_some e1 (xs.length - 1 - (b + 1))
  rw [show b + 1 + (xs.length - 1 - (b + 1)) = xs.length - 1 by omega] at e2
  have e3 : pairTo xs (a + 1) = some (a + 2, b + 2) := by rw [pairTo_step h0, e2]; rfl
  have e4 := pairTo_some e3 (xs.length - 1 - (a + 1))
  rw [show a + 1 + (xs.length - 1 - (a + 1)) = xs.length - 1 by omega] at e4
  simp [twoL, h, hone, e4]
theorem twoL_none {xs : List Int} (h : isRamp xs = false) (hone : oneTo xs (xs.length - 1) = none) (h0 : pairTo xs (xs.length - 1) = none) : twoL xs = none := by simp [twoL, h, hone, h0]
theorem twoL_length {xs r : List Int} (h : twoL xs = some r) : r.length ≤ 2 := by
  unfold twoL at h
  split at h
  · simp at h; subst h; simp
  · split at h
    · simp at h; subst h; simp
    · simp at h
      obtain ⟨a, b, _, rfl⟩ := h
      simp
theorem len_mTwoTurnSorts (xs : List Int) : (mTwoTurnSorts xs).length ≤ 1048576 := by
  unfold mTwoTurnSorts
  split
  · cases h : twoL xs with
    | none => simp
    | some r => have := twoL_length h; simp; omega
  · simp

end Go.Pan
