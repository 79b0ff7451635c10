import Derived.Test.YtkfpcnbpdlcnaaaG6
import Derived.Test.YtkfpcnbpdlcnaaaM6
namespace Go.Pan
/-- a stack that is searched for -/
def farB (xs : List Int) : Bool := goodB xs && decide (xs.length ≤ 7)
theorem farB_iff {xs : List Int} : farB xs = true ↔ Good xs ∧ xs.length ≤ 7 := by simp [farB, goodB_iff]
/-- the distance of a stack -/
def farS (xs : List Int) : Nat := far xs.length xs (ramp 1 xs.length)
theorem Good.st {xs : List Int} (h : Good xs) : St xs.length xs := ⟨h, rfl⟩
theorem Good.home {xs : List Int} (h : Good xs) : St xs.length (ramp 1 xs.length) := St.ramp _ h.1 h.2.1
theorem Good.cnt {xs : List Int} (h : Good xs) : Cnt xs.length := ⟨h.1, h.2.1⟩
theorem St.rank_lt' {n : Nat} {xs : List Int} (h : St n xs) : rankL xs < fact n := rank_lt h
theorem dS_rank {n : Nat} (hn : Cnt n) {xs : List Int} (h : St n xs) : dS n (rankL xs) = far n xs (ramp 1 n) := by
  unfold dS
  rw [unrank_rank hn.pos hn.le h, far_symm hn.home h]
theorem farS_le {xs : List Int} (h : Good xs) : farS xs ≤ 2 * xs.length := (far_spec h.st h.home).2.1
def mStackDistance (xs : List Int) : Int := if farB xs = true then (farS xs : Int) else 0
/-- how many least plans sort a stack -/
def waysS (xs : List Int) : Nat := ways xs.length (farS xs) xs (ramp 1 xs.length)
def mCountLeastPlans (xs : List Int) : Int := if farB xs = true then (waysS xs : Int) else 0
theorem waysS_rank {n : Nat} (hn : Cnt n) {xs : List Int} (h : St n xs) : ways n (dS n (rankL xs)) (ramp 1 n) (unrank n (rankL xs)) = ways n (far n xs (ramp 1 n)) xs (ramp 1 n) := by
  rw [dS_rank hn h, unrank_rank hn.pos hn.le h, ways_symm]
theorem waysS_le {xs : List Int} (h : Good xs) (h7 : xs.length ≤ 7) : waysS xs ≤ 470184984576 := Nat.le_trans (ways_le _ _ _ _) (pow_bound h7 (by have := farS_le h; omega))
/-- two stacks of as many pancakes that are searched for -/
def twoB (xs ys : List Int) : Bool := farB xs && farB ys && decide (xs.length = ys.length)
theorem twoB_iff {xs ys : List Int} : twoB xs ys = true ↔ Good xs ∧ xs.length ≤ 7 ∧ Good ys ∧ xs.length = ys.length := by
  simp only [twoB, Bool.and_eq_true, farB_iff, decide_eq_true_eq]
  constructor
  · rintro ⟨⟨⟨h1, h2⟩, h3, h4⟩, h5⟩; exact ⟨h1, h2, h3, h5⟩
  · rintro ⟨h1, h2, h3, h5⟩; exact ⟨⟨⟨h1, h2⟩, h3, by omega⟩, h5⟩
def far2 (xs ys : List Int) : Nat := far xs.length xs ys
def mDistanceBetween (xs ys : List Int) : Int := if twoB xs ys = true then (far2 xs ys : Int) else 0
theorem seen_farB {xs ys : List Int} (h : twoB xs ys = true) : farB (seenL xs ys) = true := by
  obtain ⟨h1, h2, h3, h4⟩ := twoB_iff.1 h
  exact farB_iff.2 ⟨seenL_good h1 h3 h4, by simpa [seenL] using h2⟩
theorem seen_farS {xs ys : List Int} (h : twoB xs ys = true) : farS (seenL xs ys) = far2 xs ys := by
  obtain ⟨h1, h2, h3, h4⟩ := twoB_iff.1 h
  unfold farS far2
  have hl : (seenL xs ys).length = xs.length := by simp [seenL]
  rw [hl]
  exact far_seen h1 h3 h4 xs.length h4.symm
def mGapExcess (xs : List Int) : Int := if farB xs = true then (farS xs : Int) - (gapsL xs).length else 0
def mGreedyExcess (xs : List Int) : Int := if farB xs = true then ((greedyL xs).length : Int) - (farS xs : Int) else 0
def leastB (xs p : List Int) : Bool := farB xs && planB xs.length p
def mIsLeastPlan (xs p : List Int) : Bool := leastB xs p && decide (far2 xs (playL xs p) = p.length)
theorem leastB_iff {xs p : List Int} : leastB xs p = true ↔ (Good xs ∧ xs.length ≤ 7) ∧ Plan xs.length p := by simp only [leastB, Bool.and_eq_true, farB_iff, planB_iff]
theorem least_two {xs p : List Int} (h : leastB xs p = true) : twoB xs (playL xs p) = true := by
  obtain ⟨⟨h1, h2⟩, _⟩ := leastB_iff.1 h
  exact twoB_iff.2 ⟨h1, h2, playL_good h1 p, (playL_length xs p).symm⟩
theorem invTo_at {ys : List Int} (hg : Good ys) (k : Nat) (hk : k ≤ ys.length) (j : Nat) (hj : j < k) : (invTo ys k)[(ys[j] - 1).toNat]? = some ((j : Int) + 1) := by
  induction k with
  | zero => omega
  | succ k ih =>
    have hb := hg.2.2.1 _ (List.getElem_mem (show j < ys.length by omega))
    have hbk := hg.2.2.1 _ (List.getElem_mem (show k < ys.length by omega))
    have hl : (invTo ys k).length = ys.length := invTo_length ys k
    rw [invTo, getD_eq (by omega)]
    by_cases e : j = k
    · subst e
      rw [List.getElem?_set_self (by omega)]
    · have hne : ys[k] ≠ ys[j] := fun e' => (List.pairwise_iff_getElem.1 hg.2.2.2 j k (by omega) (by omega) (by omega)) e'.symm
      rw [List.getElem?_set_ne (by omega)]
      exact ih (by omega) (by omega)
theorem inv_seen {xs ys : List Int} (hx : Good xs) (hy : Good ys) (h : xs.length = ys.length) : thenL (invTo ys ys.length) xs = seenL xs ys := by
  unfold thenL seenL
  refine List.map_congr_left fun x hxm => ?_
  have hm : x ∈ ys := (good_mem hx hy h).1 hxm
  rw [placeL_of_mem hm]
  have hi := List.idxOf_lt_length_of_mem hm
  have he := List.getElem_idxOf hi
  have := invTo_at hy ys.length (Nat.le_refl _) (ys.idxOf x) hi
  rw [he] at this
  rw [List.getD_eq_getElem?_getD, this]
  rfl

end Go.Pan

