import Derived.Test.YtkfpcnbpdlcnaaaM2
namespace Go.Pan

-- what the functions of chapter 1 return
def inB (n lo hi : Int) : Bool := decide (lo ≤ n) && decide (n ≤ hi)
theorem inB_true {n lo hi : Int} (h : lo ≤ n ∧ n ≤ hi) : inB n lo hi = true := by simp [inB, h]
theorem inB_iff {n lo hi : Int} : inB n lo hi = true ↔ lo ≤ n ∧ n ≤ hi := by simp [inB]
theorem inB_false {n lo hi : Int} (h : ¬ (lo ≤ n ∧ n ≤ hi)) : inB n lo hi = false := by
  cases hb : inB n lo hi with
  | false => rfl
  | true => exact absurd (inB_iff.1 hb) h
theorem goodB_iff {xs : List Int} : goodB xs = true ↔ Good xs := by simp [goodB]
theorem planB_iff {n : Int} {p : List Int} : planB n p = true ↔ Plan n p := by simp [planB]
theorem allB_iff {l : List Int} {lo hi : Int} : allB l lo hi = true ↔ ∀ k ∈ l, lo ≤ k ∧ k ≤ hi := by simp [allB]

def okTurn (xs : List Int) (k : Int) : Bool := goodB xs && inB k 1 xs.length
def mTurnStack (xs : List Int) (k : Int) : List Int := if okTurn xs k = true then turnL xs k.toNat else []
def okPlay (xs p : List Int) : Bool := goodB xs && planB xs.length p
def mPlayPlan (xs p : List Int) : List Int := if okPlay xs p = true then playL xs p else []
theorem okTurn_iff {xs : List Int} {k : Int} : okTurn xs k = true ↔ Good xs ∧ 1 ≤ k ∧ k ≤ xs.length := by simp only [okTurn, Bool.and_eq_true, goodB_iff, inB_iff]
theorem okPlay_iff {xs p : List Int} : okPlay xs p = true ↔ Good xs ∧ Plan xs.length p := by simp only [okPlay, Bool.and_eq_true, goodB_iff, planB_iff]
def mSorts (xs p : List Int) : Bool := okPlay xs p && sortedB (playL xs p)
def mIsSorted (xs : List Int) : Bool := goodB xs && sortedB xs
def mBackPlan (n : Int) (p : List Int) : List Int := if planB n p = true then p.reverse else []

/-- one turn more, or two that undo each other less -/
def shortStep (out : List Int) (k : Int) : List Int := if k = 1 then out else if out.getLast? = some k then out.dropLast else out ++ [k]
def shortL (p : List Int) : List Int := p.foldl shortStep []
def mShortPlan (n : Int) (p : List Int) : List Int := if planB n p = true then shortL p else []

/-- no number stands twice, side by side -/
def NoTwin : List Int → Prop
  | [] => True
  | [_] => True
  | a :: b :: l => a ≠ b ∧ NoTwin (b :: l)

def placeL (xs : List Int) (x : Int) : Int := if x ∈ xs then (xs.idxOf x : Int) + 1 else 0
theorem placeL_of_mem {xs : List Int} {x : Int} (h : x ∈ xs) : placeL xs x = (xs.idxOf x : Int) + 1 := by simp [placeL, h]
theorem placeL_bd {xs : List Int} {x : Int} (h : x ∈ xs) : 1 ≤ placeL xs x ∧ placeL xs x ≤ xs.length := by
  rw [placeL_of_mem h]
  have := List.idxOf_lt_length_of_mem h
  omega
def okPlace (xs : List Int) (x : Int) : Bool := goodB xs && inB x 1 xs.length
theorem mem_of_good {xs : List Int} (h : Good xs) {x : Int} (h1 : 1 ≤ x) (h2 : x ≤ xs.length) : x ∈ xs := all_of_nodup xs h.2.2.1 h.2.2.2 x h1 h2
def mPlaceIn (xs : List Int) (x : Int) : Int := if okPlace xs x = true then placeL xs x else 0
theorem mem_iff_in {xs : List Int} (h : Good xs) {x : Int} : x ∈ xs ↔ 1 ≤ x ∧ x ≤ xs.length := ⟨fun hx => h.2.2.1 x hx, fun hx => mem_of_good h hx.1 hx.2⟩

/-- turns without turns 1 -/
def noOne (p : List Int) : List Int := p.filter fun k => decide (k ≠ 1)
theorem noOne_snoc (p : List Int) (k : Int) : noOne (p ++ [k]) = if k = 1 then noOne p else noOne p ++ [k] := by
  unfold noOne
  rw [List.filter_append]
  by_cases h : k = 1 <;> simp [h]
theorem noOne_length (p : List Int) : (noOne p).length ≤ p.length := List.length_filter_le _ _
def mTopTo (xs : List Int) (k : Int) : List Int := if okTurn xs k = true then noOne [k] else []
def bringL (xs : List Int) (x k : Int) : List Int := if placeL xs x = k then [] else noOne [placeL xs x, k]
def okBring (xs : List Int) (x k : Int) : Bool := okPlace xs x && inB k 1 xs.length
def mBringTo (xs : List Int) (x k : Int) : List Int := if okBring xs x k = true then bringL xs x k else []

def thenL (xs ys : List Int) : List Int := ys.map fun i => xs.getD (i - 1).toNat 0
def okThen (xs ys : List Int) : Bool := goodB xs && goodB ys && decide (xs.length = ys.length)
def mThenStack (xs ys : List Int) : List Int := if okThen xs ys = true then thenL xs ys else []

/-- the inverse, as far as the first k tell it -/
def invTo (xs : List Int) : Nat → List Int
  | 0 => List.replicate xs.length 0
  | k + 1 => (invTo xs k).set (xs.getD k 0 - 1).toNat ((k : Int) + 1)
theorem invTo_length (xs : List Int) (k : Nat) : (invTo xs k).length = xs.length := by
  induction k with
  | zero => simp [invTo]
  | succ k ih => simp [invTo, ih]
def mInverseStack (xs : List Int) : List Int := if goodB xs = true then invTo xs xs.length else []
def mBackStack (xs : List Int) : List Int := if goodB xs = true then xs.reverse else []
theorem turnL_all (xs : List Int) : turnL xs xs.length = xs.reverse := by simp [turnL]
def swapL (xs : List Int) : List Int := xs.map fun x => (xs.length : Int) + 1 - x
def mSwapSizes (xs : List Int) : List Int := if goodB xs = true then swapL xs else []
def mStackOfPlan (n : Int) (p : List Int) : List Int := if planB n p = true then playL (ramp 1 n.toNat) p else []
def mSamePlans (n : Int) (a b : List Int) : Bool := planB n a && planB n b && decide (playL (ramp 1 n.toNat) a = playL (ramp 1 n.toNat) b)

-- lengths
theorem Good.le9 {xs : List Int} (h : Good xs) : xs.length ≤ 9 := h.2.1
theorem len_mTurnStack (xs : List Int) (k : Int) : (mTurnStack xs k).length ≤ 1048576 := by
  unfold mTurnStack
  split
  · rename_i h
    simp only [okTurn, Bool.and_eq_true, goodB_iff] at h
    rw [turnL_length]; have := h.1.le9; omega
  · simp
theorem len_mPlayPlan (xs p : List Int) : (mPlayPlan xs p).length ≤ 1048576 := by
  unfold mPlayPlan
  split
  · rename_i h
    simp only [okPlay, Bool.and_eq_true, goodB_iff] at h
    rw [playL_length]; have := h.1.le9; omega
  · simp
theorem len_mBackPlan (n : Int) (p : List Int) : (mBackPlan n p).length ≤ 1048576 := by
  unfold mBackPlan
  split
  · rename_i h
    have := (planB_iff.1 h).2.1
    rw [List.length_reverse]; omega
  · simp
theorem len_shortStep (out : List Int) (k : Int) : (shortStep out k).length ≤ out.length + 1 := by
  unfold shortStep
  split
  · omega
  · split <;> simp <;> omega
theorem len_foldl_short (p out : List Int) : (p.foldl shortStep out).length ≤ out.length + p.length := by
  induction p generalizing out with
  | nil => simp
  | cons k p ih =>
    have h1 := ih (shortStep out k)
    have h2 := len_shortStep out k
    simp only [List.foldl_cons, List.length_cons]
    omega
theorem len_mShortPlan (n : Int) (p : List Int) : (mShortPlan n p).length ≤ 1048576 := by
  unfold mShortPlan
  split
  · rename_i h
    have := (planB_iff.1 h).2.1
    have := len_foldl_short p []
    unfold shortL
    simp at this
    omega
  · simp
theorem len_mTopTo (xs : List Int) (k : Int) : (mTopTo xs k).length ≤ 1048576 := by
  unfold mTopTo
  split
  · have := noOne_length [k]; simp at this; omega
  · simp
theorem len_bringL (xs : List Int) (x k : Int) : (bringL xs x k).length ≤ 2 := by
  unfold bringL
  split
  · simp
  · have := noOne_length [placeL xs x, k]; simpa using this
theorem len_mBringTo (xs : List Int) (x k : Int) : (mBringTo xs x k).length ≤ 1048576 := by
  unfold mBringTo
  split
  · have := len_bringL xs x k; omega
  · simp
theorem len_mThenStack (xs ys : List Int) : (mThenStack xs ys).length ≤ 1048576 := by
  unfold mThenStack
  split
  · rename_i h
    simp only [okThen, Bool.and_eq_true, goodB_iff] at h
    have := h.1.2.le9
    simp [thenL]; omega
  · simp
theorem len_mInverseStack (xs : List Int) : (mInverseStack xs).length ≤ 1048576 := by
  unfold mInverseStack
  split
  · rename_i h
    have := (goodB_iff.1 h).le9
    rw [invTo_length]; omega
  · simp
theorem len_mBackStack (xs : List Int) : (mBackStack xs).length ≤ 1048576 := by
  unfold mBackStack
  split
  · rename_i h
    have := (goodB_iff.1 h).le9
    simp; omega
  · simp
theorem len_mSwapSizes (xs : List Int) : (mSwapSizes xs).length ≤ 1048576 := by
  unfold mSwapSizes
  split
  · rename_i h
    have := (goodB_iff.1 h).le9
    simp [swapL]; omega
  · simp
theorem len_mStackOfPlan (n : Int) (p : List Int) : (mStackOfPlan n p).length ≤ 1048576 := by
  unfold mStackOfPlan
  split
  · rename_i h
    have := (planB_iff.1 h).1
    rw [playL_length, ramp_length]; omega
  · simp

end Go.Pan

