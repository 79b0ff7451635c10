import Derived.Test.YtdlnniciccpchaaM5
import Derived.WalkArith
import Derived.IntWalk
namespace Go.Pan
open Go Go.RowKit

/-- numbers of 64 bits -/
def Wf64 (xs : List Int) : Prop := ∀ n ∈ xs, (Lit.int .i64 n).wf = true
theorem wf64_bd {n : Int} (h : (Lit.int .i64 n).wf = true) : -9223372036854775808 ≤ n ∧ n ≤ 9223372036854775807 := by
  simp [Lit.wf, IntKind.min, IntKind.max, IntKind.signed, IntKind.bits] at h
  omega

-- sizes without sides
def absL (xs : List Int) : List Int := xs.map absI
theorem absL_length (xs : List Int) : (absL xs).length = xs.length := by simp [absL]
def sizeW (x : Int) : Int := max x (wrap64 (-x))
def sidesL (xs : List Int) : List Int := xs.map sizeW
theorem sidesL_length (xs : List Int) : (sidesL xs).length = xs.length := by simp [sidesL]
theorem absI_eq (x : Int) : absI x = max x (-x) := by unfold absI; split <;> omega
theorem sizeW_small {x : Int} (h1 : -1048576 ≤ x) (h2 : x ≤ 1048576) : sizeW x = absI x := by
  unfold sizeW
  rw [IntWalk.wrap64_in _ (by omega), absI_eq]
theorem sizeW_good {x : Int} (h : (Lit.int .i64 x).wf = true) (h1 : 1 ≤ sizeW x ∧ sizeW x ≤ 9) : sizeW x = absI x := by
  have hb := wf64_bd h
  unfold sizeW at h1 ⊢
  rw [absI_eq]
  unfold wrap64 at h1 ⊢
  omega
theorem absI_good {x : Int} (h1 : 1 ≤ absI x ∧ absI x ≤ 9) : sizeW x = absI x := by
  rw [absI_eq] at h1
  exact sizeW_small (by omega) (by omega)
theorem absI_neg (x : Int) : absI (-x) = absI x := by rw [absI_eq, absI_eq]; omega

def Burnt (xs : List Int) : Prop := Good (absL xs)
def burntB (xs : List Int) : Bool := goodB (absL xs)
theorem burntB_iff {xs : List Int} : burntB xs = true ↔ Burnt xs := goodB_iff
theorem Burnt.len {xs : List Int} (h : Burnt xs) : 1 ≤ xs.length ∧ xs.length ≤ 9 := by
  have h1 := h.1
  have h2 := h.2.1
  rw [absL_length] at h1 h2
  exact ⟨h1, h2⟩
theorem Burnt.abs {xs : List Int} (h : Burnt xs) {x : Int} (hx : x ∈ xs) : 1 ≤ absI x ∧ absI x ≤ xs.length := by
  have := h.2.2.1 (absI x) (List.mem_map.2 ⟨x, hx, rfl⟩)
  rwa [absL_length] at this
theorem Burnt.bd {xs : List Int} (h : Burnt xs) {x : Int} (hx : x ∈ xs) : -9 ≤ x ∧ x ≤ 9 ∧ x ≠ 0 := by
  have h1 := h.abs hx
  have h2 := h.len
  rw [absI_eq] at h1
  omega
theorem sides_burnt {xs : List Int} (h : Burnt xs) : sidesL xs = absL xs := by
  refine List.map_congr_left fun x hx => ?_
  have := h.bd hx
  exact sizeW_small (by omega) (by omega)
theorem good_sides {xs : List Int} (h : Wf64 xs) : goodB (sidesL xs) = burntB xs := by
  unfold burntB
  rw [Bool.eq_iff_iff, goodB_iff, goodB_iff]
  constructor
  · intro hg
    have e : sidesL xs = absL xs := by
      refine List.map_congr_left fun x hx => ?_
      have h1 := hg.2.2.1 (sizeW x) (List.mem_map.2 ⟨x, hx, rfl⟩)
      exact sizeW_good (h x hx) ⟨h1.1, by have := hg.2.1; omega⟩
    rwa [e] at hg
  · intro hg
    rw [sides_burnt hg]
    exact hg
theorem burnt_all {xs : List Int} (h : burntB xs = true) : allB xs (-9) 9 = true :=
  allB_iff.2 fun x hx => by have := (burntB_iff.1 h).bd hx; omega
theorem burnt_not {xs : List Int} (h : allB xs (-9) 9 = false) : burntB xs = false := by
  cases hb : burntB xs with
  | false => rfl
  | true => rw [burnt_all hb] at h; cases h

-- turns
/-- the first j of them turned over -/
def negTo (xs : List Int) (j : Nat) : List Int := (xs.take j).map (fun x => -x) ++ xs.drop j
theorem negTo_length (xs : List Int) (j : Nat) : (negTo xs j).length = xs.length := by simp [negTo]; omega
theorem negTo_zero (xs : List Int) : negTo xs 0 = xs := by simp [negTo]
theorem negTo_at (xs : List Int) (j : Nat) (h : j < xs.length) : (negTo xs j)[j]'(by rw [negTo_length]; exact h) = xs[j] := by
  unfold negTo
  rw [List.getElem_append_right (by simp; omega)]
  simp [Nat.min_eq_left (Nat.le_of_lt h)]
theorem negTo_step (xs : List Int) (j : Nat) (h : j < xs.length) : (negTo xs j).set j (-(xs[j])) = negTo xs (j + 1) := by
  unfold negTo
  rw [List.set_append_right _ _ (by simp; omega), List.drop_eq_getElem_cons h, List.take_succ_eq_append_getElem h]
  have e : j - ((xs.take j).map fun x => -x).length = 0 := by simp; omega
  rw [e, List.set_cons_zero, List.map_append]
  simp only [List.append_assoc, List.map_cons, List.map_nil, List.singleton_append]
theorem negTo_abs (xs : List Int) (j : Nat) : absL (negTo xs j) = absL xs := by
  unfold absL negTo
  rw [List.map_append, List.map_map]
  conv => rhs; rw [← List.take_append_drop j xs, List.map_append]
  congr 1
  exact List.map_congr_left fun x _ => absI_neg x
def bturnL (xs : List Int) (k : Nat) : List Int := negTo (turnL xs k) k
theorem bturnL_length (xs : List Int) (k : Nat) : (bturnL xs k).length = xs.length := by unfold bturnL; rw [negTo_length, turnL_length]
theorem bturnL_eq (xs : List Int) (k : Nat) (h : k ≤ xs.length) : bturnL xs k = ((xs.take k).reverse.map fun x => -x) ++ xs.drop k := by
  have hl : (xs.take k).reverse.length = k := by simp; omega
  unfold bturnL negTo turnL
  rw [List.take_append_of_le_length (by omega), List.take_of_length_le (by omega), List.drop_append_of_le_length (by omega), List.drop_of_length_le (by omega)]
  rfl
theorem turnL_abs (xs : List Int) (k : Nat) : absL (turnL xs k) = turnL (absL xs) k := by simp [absL, turnL, List.map_take, List.map_drop]
theorem bturnL_abs (xs : List Int) (k : Nat) : absL (bturnL xs k) = turnL (absL xs) k := by unfold bturnL; rw [negTo_abs, turnL_abs]
theorem bturnL_burnt {xs : List Int} (h : Burnt xs) (k : Nat) : Burnt (bturnL xs k) := by unfold Burnt; rw [bturnL_abs]; exact turnL_good h k
/-- the first k, turned over, from the last one on -/
def revNeg (xs : List Int) (k : Nat) : List Int := (xs.take k).reverse.map fun x => -x
theorem bturnTo_step (xs : List Int) (k j : Nat) (hk : k ≤ xs.length) (hj : j < k) (x : Int) (hx : x = xs[k - 1 - j]'(by omega)) : ((revNeg xs k).take j) ++ [-x] = (revNeg xs k).take (j + 1) := by
  rw [List.take_succ_eq_append_getElem (by simp [revNeg]; omega)]
  simp only [revNeg, List.getElem_map, List.getElem_reverse, hx]
  congr 3
  rw [List.getElem_take]
  congr 1
  simp
  omega

def bplayL : List Int → List Int → List Int
  | xs, [] => xs
  | xs, k :: p => bplayL (bturnL xs k.toNat) p
theorem bplayL_append (xs p q : List Int) : bplayL xs (p ++ q) = bplayL (bplayL xs p) q := by
  induction p generalizing xs with
  | nil => rfl
  | cons k p ih => exact ih _
theorem bplayL_snoc (xs p : List Int) (k : Int) : bplayL xs (p ++ [k]) = bturnL (bplayL xs p) k.toNat := by rw [bplayL_append]; rfl
theorem bplayL_length (xs p : List Int) : (bplayL xs p).length = xs.length := by
  induction p generalizing xs with
  | nil => rfl
  | cons k p ih => exact (ih _).trans (bturnL_length _ _)
theorem bplayL_burnt {xs : List Int} (h : Burnt xs) (p : List Int) : Burnt (bplayL xs p) := by
  induction p generalizing xs with
  | nil => exact h
  | cons k p ih => exact ih (bturnL_burnt h _)
theorem bplayL_take_succ (xs p : List Int) (k : Nat) (h : k < p.length) : bplayL xs (p.take (k + 1)) = bturnL (bplayL xs (p.take k)) p[k].toNat := by
  rw [List.take_succ_eq_append_getElem h, bplayL_snoc]

def okBTurn (xs : List Int) (k : Int) : Bool := burntB xs && inB k 1 xs.length
def okBPlay (xs p : List Int) : Bool := burntB xs && planB xs.length p
theorem okBPlay_iff {xs p : List Int} : okBPlay xs p = true ↔ Burnt xs ∧ Plan xs.length p := by simp only [okBPlay, Bool.and_eq_true, burntB_iff, planB_iff]
theorem okBTurn_iff {xs : List Int} {k : Int} : okBTurn xs k = true ↔ Burnt xs ∧ 1 ≤ k ∧ k ≤ xs.length := by simp only [okBTurn, Bool.and_eq_true, burntB_iff, inB_iff]
def mPlayBurnt (xs p : List Int) : List Int := if okBPlay xs p = true then bplayL xs p else []
def mTurnBurnt (xs : List Int) (k : Int) : List Int := if okBTurn xs k = true then bturnL xs k.toNat else []
theorem okBTurn_play (xs : List Int) (k : Int) : okBPlay xs [k] = okBTurn xs k := by
  rw [Bool.eq_iff_iff, okBPlay_iff, okBTurn_iff]
  constructor
  · rintro ⟨h, p⟩; exact ⟨h, p.2.2 k (by simp)⟩
  · rintro ⟨h, h1, h2⟩
    refine ⟨h, ⟨by omega, by have := h.len; omega⟩, by simp, fun x hx => ?_⟩
    simp at hx
    subst hx
    exact ⟨h1, h2⟩
theorem mTurn_play (xs : List Int) (k : Int) : mPlayBurnt xs [k] = mTurnBurnt xs k := by
  unfold mPlayBurnt mTurnBurnt
  rw [okBTurn_play]
  rfl
theorem len_mPlayBurnt (xs p : List Int) : (mPlayBurnt xs p).length ≤ 1048576 := by
  unfold mPlayBurnt
  split
  · rename_i h; rw [bplayL_length]; have := (okBPlay_iff.1 h).1.len; omega
  · simp
theorem len_mTurnBurnt (xs : List Int) (k : Int) : (mTurnBurnt xs k).length ≤ 1048576 := by rw [← mTurn_play]; exact len_mPlayBurnt _ _
def mIsBurntSorted (xs : List Int) : Bool := burntB xs && decide (xs = ramp 1 xs.length)
def mForgetSides (xs : List Int) : List Int := if burntB xs = true then absL xs else []
theorem len_mForgetSides (xs : List Int) : (mForgetSides xs).length ≤ 1048576 := by
  unfold mForgetSides
  split
  · rename_i h; rw [absL_length]; have := (burntB_iff.1 h).len; omega
  · simp

-- gaps, by what stands apart
def qgapB (q : Int → Int → Bool) (xs : List Int) (k : Nat) : Bool := q (xs.getD k 0) (below xs (k + 1))
def qgapsTo (q : Int → Int → Bool) (xs : List Int) : Nat → List Int
  | 0 => []
  | k + 1 => if qgapB q xs k = true then qgapsTo q xs k ++ [(k : Int) + 1] else qgapsTo q xs k
def qgapsL (q : Int → Int → Bool) (xs : List Int) : List Int := qgapsTo q xs xs.length
theorem qgapsTo_yes {q : Int → Int → Bool} {xs : List Int} {k : Nat} (h : qgapB q xs k = true) : qgapsTo q xs (k + 1) = qgapsTo q xs k ++ [(k : Int) + 1] := if_pos h
theorem qgapsTo_no {q : Int → Int → Bool} {xs : List Int} {k : Nat} (h : qgapB q xs k = false) : qgapsTo q xs (k + 1) = qgapsTo q xs k := if_neg (by rw [h]; exact Bool.false_ne_true)
theorem qgapsTo_length (q : Int → Int → Bool) (xs : List Int) (k : Nat) : (qgapsTo q xs k).length ≤ k := by
  induction k with
  | zero => simp [qgapsTo]
  | succ k ih =>
    unfold qgapsTo
    split
    · simp; omega
    · omega
theorem qgaps_plain {xs : List Int} (h : Good xs) : qgapsL noPairB xs = gapsL xs := by
  unfold qgapsL gapsL
  have : ∀ k, k ≤ xs.length → qgapsTo noPairB xs k = gapsTo xs k := by
    intro k
    induction k with
    | zero => intro _; rfl
    | succ k ih =>
      intro hk
      unfold qgapsTo gapsTo
      rw [ih (by omega), gapB_eq h (by omega) hk]
      rfl
  exact this _ (Nat.le_refl _)
def noStepB (a b : Int) : Bool := b - a != 1
def bgapsL (xs : List Int) : List Int := qgapsL noStepB xs
def mBurntGaps (xs : List Int) : List Int := if burntB xs = true then bgapsL xs else []
theorem len_mBurntGaps (xs : List Int) : (mBurntGaps xs).length ≤ 1048576 := by
  unfold mBurntGaps
  split
  · rename_i h; have h1 := qgapsTo_length noStepB xs xs.length; have := (burntB_iff.1 h).len; unfold bgapsL qgapsL; omega
  · simp

/-- -1, -2, .. -/
def downL (n : Nat) : List Int := (ramp 1 n).map fun x => -x
theorem downL_length (n : Nat) : (downL n).length = n := by simp [downL, ramp]
theorem downL_succ (n : Nat) : downL (n + 1) = downL n ++ [-((n : Int) + 1)] := by simp [downL, ramp, List.range_succ, Int.add_comm]
def mAllBurnt (n : Int) : List Int := if inB n 1 9 = true then downL n.toNat else []
theorem len_mAllBurnt (n : Int) : (mAllBurnt n).length ≤ 1048576 := by
  unfold mAllBurnt
  split
  · rename_i h; rw [downL_length]; have := inB_iff.1 h; omega
  · simp

end Go.Pan

