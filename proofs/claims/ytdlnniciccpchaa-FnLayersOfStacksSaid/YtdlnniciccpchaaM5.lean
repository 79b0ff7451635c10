import Derived.Test.YtdlnniciccpchaaM3
namespace Go.Pan

-- gaps
def absI (n : Int) : Int := if -n < n then n else -n
def below (xs : List Int) (p : Nat) : Int := if p < xs.length then xs.getD p 0 else (xs.length : Int) + 1
def gapB (xs : List Int) (p : Nat) : Bool := decide (1 < absI (xs.getD (p - 1) 0 - below xs p))
def pairB (a b : Int) : Bool := decide (a - b = 1) || decide (b - a = 1)
def noPairB (a b : Int) : Bool := !pairB a b

theorem Good.bd {xs : List Int} (h : Good xs) {i : Nat} (hi : i < xs.length) : 1 ≤ xs.getD i 0 ∧ xs.getD i 0 ≤ xs.length := by
  rw [getD_eq hi]; exact h.2.2.1 _ (List.getElem_mem hi)
theorem Good.ne {xs : List Int} (h : Good xs) {i j : Nat} (hij : i < j) (hj : j < xs.length) : xs.getD i 0 ≠ xs.getD j 0 := by
  rw [getD_eq (by omega), getD_eq hj]
  exact (List.pairwise_iff_getElem.1 h.2.2.2) i j (by omega) hj hij
theorem below_bd {xs : List Int} (h : Good xs) (p : Nat) : 1 ≤ below xs p ∧ below xs p ≤ xs.length + 1 := by
  unfold below
  split
  · rename_i hp; have := h.bd hp; omega
  · have := h.1; omega
theorem abs_pair (a b : Int) (hne : a ≠ b) : decide (1 < absI (a - b)) = noPairB a b := by
  unfold noPairB pairB absI
  rw [Bool.eq_iff_iff]
  simp only [decide_eq_true_eq, Bool.not_eq_true', Bool.or_eq_false_iff, decide_eq_false_iff_not]
  split <;> omega
theorem gapB_eq {xs : List Int} (h : Good xs) {p : Nat} (h1 : 1 ≤ p) (h2 : p ≤ xs.length) : gapB xs p = noPairB (xs.getD (p - 1) 0) (below xs p) := by
  have hne : xs.getD (p - 1) 0 ≠ below xs p := by
    unfold below
    split
    · rename_i hp; exact h.ne (by omega) hp
    · have := h.bd (show p - 1 < xs.length by omega); omega
  exact abs_pair _ _ hne

/-- the gaps among the first k places -/
def gapsTo (xs : List Int) : Nat → List Int
  | 0 => []
  | k + 1 => if gapB xs (k + 1) = true then gapsTo xs k ++ [(k : Int) + 1] else gapsTo xs k
def gapsL (xs : List Int) : List Int := gapsTo xs xs.length
theorem gapsTo_yes {xs : List Int} {k : Nat} (h : gapB xs (k + 1) = true) : gapsTo xs (k + 1) = gapsTo xs k ++ [(k : Int) + 1] := if_pos h
theorem gapsTo_no {xs : List Int} {k : Nat} (h : gapB xs (k + 1) = false) : gapsTo xs (k + 1) = gapsTo xs k := if_neg (by rw [h]; exact Bool.false_ne_true)
theorem gapsTo_length (xs : List Int) (k : Nat) : (gapsTo xs k).length ≤ k := by
  induction k with
  | zero => simp [gapsTo]
  | succ k ih =>
    unfold gapsTo
    split
    · simp; omega
    · omega
theorem gapsL_length (xs : List Int) : (gapsL xs).length ≤ xs.length := gapsTo_length xs _
theorem gapsTo_nil {xs : List Int} {k : Nat} : gapsTo xs k = [] ↔ ∀ p, 1 ≤ p → p ≤ k → gapB xs p = false := by
  induction k with
  | zero => simp [gapsTo]; intro p h1 h2; omega
  | succ k ih =>
    constructor
    · intro h p h1 h2
      cases hb : gapB xs (k + 1) with
      | true => rw [gapsTo_yes hb] at h; simp at h
      | false =>
        rw [gapsTo_no hb] at h
        by_cases e : p = k + 1
        · rw [e]; exact hb
        · exact ih.1 h p h1 (by omega)
    · intro h
      rw [gapsTo_no (h (k + 1) (by omega) (by omega))]
      exact ih.2 fun p h1 h2 => h p h1 (by omega)

theorem noGap_iff {a b : Int} : noPairB a b = false ↔ a - b = 1 ∨ b - a = 1 := by
  unfold noPairB pairB
  simp
  omega

theorem gaps_none {xs : List Int} (h : Good xs) : gapsL xs = [] ↔ xs = ramp 1 xs.length := by
  unfold gapsL
  rw [gapsTo_nil]
  constructor
  · intro hg
    have key : ∀ m i, i < xs.length → i + m + 1 = xs.length → xs.getD i 0 = (i : Int) + 1 := by
      intro m
      induction m using Nat.strongRecOn with
      | _ m ih =>
        intro i hi hm
        have h0 := hg (i + 1) (by omega) (by omega)
        rw [gapB_eq h (by omega) (by omega), noGap_iff, Nat.add_sub_cancel] at h0
        have hbd := h.bd hi
        by_cases e : i + 1 < xs.length
        · have h1 := ih (m - 1) (by omega) (i + 1) e (by omega)
          have hb : below xs (i + 1) = xs.getD (i + 1) 0 := if_pos e
          rw [hb, h1] at h0
          by_cases e2 : i + 2 < xs.length
          · have h2 := ih (m - 2) (by omega) (i + 2) e2 (by omega)
            have hne := h.ne (show i < i + 2 by omega) e2
            rw [h2] at hne
            omega
          · omega
        · have hb : below xs (i + 1) = (xs.length : Int) + 1 := if_neg e
          rw [hb] at h0
          omega
    apply List.ext_getElem (by rw [ramp_length])
    intro i h1 h2
    have := key (xs.length - 1 - i) i h1 (by omega)
    rw [getD_eq h1] at this
    rw [this, ramp_get 1 _ i h1]
    omega
  · intro e p h1 h2
    rw [gapB_eq h h1 h2, noGap_iff]
    have hx : ∀ i, i < xs.length → xs.getD i 0 = (i : Int) + 1 := fun i hi => by
      rw [e, getD_eq (by rw [ramp_length]; exact hi), ramp_get 1 _ i hi]; omega
    rw [hx (p - 1) (by omega)]
    unfold below
    split
    · rename_i hp; rw [hx p hp]; omega
    · omega

/-- turns that take a gap away, among the first k -/
def takesB (xs : List Int) (k : Nat) : Bool := decide ((gapsL (turnL xs k)).length < (gapsL xs).length)
def turnsTo (xs : List Int) : Nat → List Int
  | 0 => []
  | k + 1 => if takesB xs (k + 1) = true then turnsTo xs k ++ [(k : Int) + 1] else turnsTo xs k
def turnsL (xs : List Int) : List Int := turnsTo xs xs.length
theorem turnsTo_yes {xs : List Int} {k : Nat} (h : takesB xs (k + 1) = true) : turnsTo xs (k + 1) = turnsTo xs k ++ [(k : Int) + 1] := if_pos h
theorem turnsTo_no {xs : List Int} {k : Nat} (h : takesB xs (k + 1) = false) : turnsTo xs (k + 1) = turnsTo xs k := if_neg (by rw [h]; exact Bool.false_ne_true)
theorem turnsTo_one (xs : List Int) : turnsTo xs 1 = [] := by
  rw [turnsTo_no (by unfold takesB; rw [turnL_one]; simp)]
  rfl
theorem turnsTo_length (xs : List Int) (k : Nat) : (turnsTo xs k).length ≤ k := by
  induction k with
  | zero => simp [turnsTo]
  | succ k ih =>
    unfold turnsTo
    split
    · simp; omega
    · omega
theorem turnsL_length (xs : List Int) : (turnsL xs).length ≤ xs.length := turnsTo_length xs _

-- what the functions return
def mGapsOf (xs : List Int) : List Int := if goodB xs = true then gapsL xs else []
def mCountGaps (xs : List Int) : Int := if goodB xs = true then ((gapsL xs).length : Int) else 0
def boundL (xs : List Int) : Int := if gapsL xs ≠ [] ∧ turnsL xs = [] then ((gapsL xs).length : Int) + 1 else (gapsL xs).length
def mLowerBound (xs : List Int) : Int := if goodB xs = true then boundL xs else 0
def mGapTurns (xs : List Int) : List Int := if goodB xs = true then turnsL xs else []
def mIsWaste (xs : List Int) (k : Int) : Bool := okTurn xs k && decide ((gapsL xs).length < (gapsL (turnL xs k.toNat)).length)
theorem len_mGapsOf (xs : List Int) : (mGapsOf xs).length ≤ 1048576 := by
  unfold mGapsOf
  split
  · rename_i h; have := (goodB_iff.1 h).le9; have := gapsL_length xs; omega
  · simp
theorem len_mGapTurns (xs : List Int) : (mGapTurns xs).length ≤ 1048576 := by
  unfold mGapTurns
  split
  · rename_i h; have := (goodB_iff.1 h).le9; have := turnsL_length xs; omega
  · simp

/-- good pairs among the first k places -/
def pairsTo (xs : List Int) : Nat → Nat
  | 0 => 0
  | k + 1 => if gapB xs (k + 1) = true then pairsTo xs k else pairsTo xs k + 1
theorem pairsTo_yes {xs : List Int} {k : Nat} (h : gapB xs (k + 1) = true) : pairsTo xs (k + 1) = pairsTo xs k := if_pos h
theorem pairsTo_no {xs : List Int} {k : Nat} (h : gapB xs (k + 1) = false) : pairsTo xs (k + 1) = pairsTo xs k + 1 := if_neg (by rw [h]; exact Bool.false_ne_true)
theorem pairsTo_le (xs : List Int) (k : Nat) : pairsTo xs k ≤ k := by
  induction k with
  | zero => simp [pairsTo]
  | succ k ih => unfold pairsTo; split <;> omega
def mCountGoodPairs (xs : List Int) : Int := if goodB xs = true then (pairsTo xs (xs.length - 1) : Int) else 0

end Go.Pan

