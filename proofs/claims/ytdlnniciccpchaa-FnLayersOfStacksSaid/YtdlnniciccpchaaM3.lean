import Derived.Test.YtdlnniciccpchaaLib
namespace Go.Pan

/-- there is a stack -/
def Good (xs : List Int) : Prop := 1 ≤ xs.length ∧ xs.length ≤ 9 ∧ (∀ x ∈ xs, 1 ≤ x ∧ x ≤ xs.length) ∧ xs.Nodup
instance (xs : List Int) : Decidable (Good xs) := by unfold Good; infer_instance
def goodB (xs : List Int) : Bool := decide (Good xs)

theorem length_le_of_nodup_subset : ∀ (l m : List Int), l.Nodup → (∀ x ∈ l, x ∈ m) → l.length ≤ m.length
  | [], _, _, _ => by simp
  | a :: t, m, hn, hs => by
    have hn' := List.nodup_cons.1 hn
    have ha : a ∈ m := hs a (by simp)
    have h := length_le_of_nodup_subset t (m.erase a) hn'.2 (fun x hx => (List.mem_erase_of_ne (by rintro rfl; exact hn'.1 hx)).2 (hs x (by simp [hx])))
    rw [List.length_erase_of_mem ha] at h
    have : 0 < m.length := List.length_pos_of_mem ha
    simp
    omega

theorem ramp_nodup (k : Int) (n : Nat) : (ramp k n).Nodup := by
  unfold ramp
  refine List.pairwise_map.2 (List.Pairwise.imp (fun {a b} h => ?_) List.nodup_range)
  omega
theorem mem_ramp {k : Int} {n : Nat} {x : Int} : x ∈ ramp k n ↔ k ≤ x ∧ x < k + n := by
  simp only [ramp, List.mem_map, List.mem_range]
  constructor
  · rintro ⟨a, ha, rfl⟩; omega
  · intro h; exact ⟨(x - k).toNat, by omega, by omega⟩

theorem nodup_of_all (xs : List Int) (h : ∀ v : Int, 1 ≤ v → v ≤ xs.length → v ∈ xs) : xs.Nodup := by
  by_cases hn : xs.Nodup
  · exact hn
  · exfalso
    have : ∃ i j, ∃ (hi : i < xs.length) (hj : j < xs.length), i < j ∧ xs[i] = xs[j] := by
      by_cases he : ∃ i j, ∃ (hi : i < xs.length) (hj : j < xs.length), i < j ∧ xs[i] = xs[j]
      · exact he
      · exact absurd (List.pairwise_iff_getElem.2 fun i j hi hj hij e => he ⟨i, j, hi, hj, hij, e⟩) hn
    obtain ⟨i, j, hi, hj, hij, e⟩ := this
    have hle := length_le_of_nodup_subset (ramp 1 xs.length) (xs.eraseIdx j) (ramp_nodup _ _) (fun x hx => by
      have hx := mem_ramp.1 hx
      have hm := h x hx.1 (by omega)
      obtain ⟨m, hml, rfl⟩ := List.getElem_of_mem hm
      rw [List.mem_eraseIdx_iff_getElem]
      by_cases hmj : m = j
      · subst hmj; exact ⟨i, hi, by omega, e⟩
      · exact ⟨m, hml, hmj, rfl⟩)
    rw [ramp_length, List.length_eraseIdx_of_lt hj] at hle
    omega

theorem all_of_nodup (xs : List Int) (hb : ∀ x ∈ xs, 1 ≤ x ∧ x ≤ xs.length) (hn : xs.Nodup) (v : Int) (h1 : 1 ≤ v) (h2 : v ≤ xs.length) : v ∈ xs := by
  by_cases hv : v ∈ xs
  · exact hv
  · exfalso
    have hle := length_le_of_nodup_subset (v :: xs) (ramp 1 xs.length) (List.nodup_cons.2 ⟨hv, hn⟩) (fun x hx => by
      rw [mem_ramp]
      rcases List.mem_cons.1 hx with rfl | hx
      · omega
      · have := hb x hx; omega)
    rw [ramp_length] at hle
    simp at hle
    omega

/-- the sizes that have been seen, each at its own place -/
def seenAt (xs : List Int) : List Int := (List.range 9).map fun j : Nat => if ((j : Int) + 1) ∈ xs then (j : Int) + 1 else 0
theorem seenAt_length (xs : List Int) : (seenAt xs).length = 9 := by simp [seenAt]
theorem seenAt_nil : seenAt [] = List.replicate 9 0 := by decide
theorem seenAt_snoc (xs : List Int) (m : Nat) : (seenAt xs).set m ((m : Int) + 1) = seenAt (xs ++ [(m : Int) + 1]) := by
  apply List.ext_getElem
  · simp [seenAt]
  · intro j h1 h2
    simp only [seenAt, List.getElem_set, List.getElem_map, List.getElem_range, List.mem_append, List.mem_singleton]
    by_cases e : m = j
    · subst e; simp
    · rw [if_neg e]
      have : ((j : Int) + 1 = (m : Int) + 1) = False := by simp; omega
      simp [this]
theorem seenAt_sorted (xs : List Int) (h9 : xs.length ≤ 9) (hb : ∀ x ∈ xs, 1 ≤ x ∧ x ≤ xs.length) : seenAt xs = ramp 1 xs.length ++ List.replicate (9 - xs.length) 0 ↔ xs.Nodup := by
  have hlen : (ramp 1 xs.length ++ List.replicate (9 - xs.length) (0 : Int)).length = 9 := by simp [ramp]; omega
  constructor
  · intro e
    refine nodup_of_all xs fun v h1 h2 => ?_
    have hj : (v - 1).toNat < xs.length := by omega
    have hh := congrArg (fun l => l[(v - 1).toNat]?) e
    simp only [seenAt] at hh
    rw [List.getElem?_map, List.getElem?_range (by omega), List.getElem?_append_left (by simpa [ramp] using hj), List.getElem?_eq_getElem (by simpa [ramp] using hj), ramp_get 1 _ _ hj] at hh
    have ev : (((v - 1).toNat : Nat) : Int) + 1 = v := by omega
    simp only [Option.map_some, ev, Option.some.injEq] at hh
    by_cases hv : v ∈ xs
    · exact hv
    · rw [if_neg hv] at hh; omega
  · intro hn
    apply List.ext_getElem (by rw [seenAt_length, hlen])
    intro j h1 h2
    simp only [seenAt, List.getElem_map, List.getElem_range]
    by_cases hj : j < xs.length
    · rw [if_pos (all_of_nodup xs hb hn _ (by omega) (by omega)), List.getElem_append_left (by simpa [ramp] using hj), ramp_get 1 _ _ hj]
      omega
    · rw [if_neg (fun hm => by have := hb _ hm; omega), List.getElem_append_right (by simp [ramp]; omega)]
      simp
theorem goodB_seenAt (xs : List Int) (h1 : 1 ≤ xs.length) (h9 : xs.length ≤ 9) (hb : ∀ x ∈ xs, 1 ≤ x ∧ x ≤ xs.length) :
    goodB xs = decide (seenAt xs = ramp 1 xs.length ++ List.replicate (9 - xs.length) 0) := by
  unfold goodB
  rw [decide_eq_decide, seenAt_sorted xs h9 hb]
  exact ⟨fun h => h.2.2.2, fun h => ⟨h1, h9, hb, h⟩⟩

end Go.Pan

namespace Go.Pan

theorem Good.perm {xs ys : List Int} (hg : Good xs) (h : xs.Perm ys) : Good ys :=
  ⟨by rw [← h.length_eq]; exact hg.1, by rw [← h.length_eq]; exact hg.2.1, fun x hx => by rw [← h.length_eq]; exact hg.2.2.1 x (h.mem_iff.2 hx), h.nodup_iff.1 hg.2.2.2⟩

/-- the first k of a list turned round -/
def turnL (xs : List Int) (k : Nat) : List Int := (xs.take k).reverse ++ xs.drop k
theorem turnL_perm (xs : List Int) (k : Nat) : (turnL xs k).Perm xs := by
  have h := (List.reverse_perm (xs.take k)).append_right (xs.drop k)
  rwa [List.take_append_drop] at h
theorem turnL_length (xs : List Int) (k : Nat) : (turnL xs k).length = xs.length := (turnL_perm xs k).length_eq
theorem turnL_good {xs : List Int} (h : Good xs) (k : Nat) : Good (turnL xs k) := h.perm (turnL_perm xs k).symm
theorem turnL_one (xs : List Int) : turnL xs 1 = xs := by cases xs <;> simp [turnL]
/-- what a plan makes of a list -/
def playL : List Int → List Int → List Int
  | xs, [] => xs
  | xs, k :: p => playL (turnL xs k.toNat) p
theorem playL_append (xs p q : List Int) : playL xs (p ++ q) = playL (playL xs p) q := by
  induction p generalizing xs with
  | nil => rfl
  | cons k p ih => exact ih _
theorem playL_snoc (xs p : List Int) (k : Int) : playL xs (p ++ [k]) = turnL (playL xs p) k.toNat := by rw [playL_append]; rfl
theorem playL_perm (xs p : List Int) : (playL xs p).Perm xs := by
  induction p generalizing xs with
  | nil => exact List.Perm.refl _
  | cons k p ih => exact (ih _).trans (turnL_perm _ _)
theorem playL_length (xs p : List Int) : (playL xs p).length = xs.length := (playL_perm xs p).length_eq
theorem playL_good {xs : List Int} (h : Good xs) (p : List Int) : Good (playL xs p) := h.perm (playL_perm xs p).symm
theorem playL_take_succ (xs p : List Int) (k : Nat) (h : k < p.length) : playL xs (p.take (k + 1)) = turnL (playL xs (p.take k)) p[k].toNat := by
  rw [List.take_succ_eq_append_getElem h, playL_snoc]

/-- there is a plan for n -/
def Plan (n : Int) (p : List Int) : Prop := (1 ≤ n ∧ n ≤ 9) ∧ p.length ≤ 40 ∧ ∀ k ∈ p, 1 ≤ k ∧ k ≤ n
instance (n : Int) (p : List Int) : Decidable (Plan n p) := by unfold Plan; infer_instance
def planB (n : Int) (p : List Int) : Bool := decide (Plan n p)
def allB (l : List Int) (lo hi : Int) : Bool := decide (∀ k ∈ l, lo ≤ k ∧ k ≤ hi)

theorem ramp_good (n : Nat) (h1 : 1 ≤ n) (h9 : n ≤ 9) : Good (ramp 1 n) :=
  ⟨by rw [ramp_length]; exact h1, by rw [ramp_length]; exact h9, fun x hx => by have := mem_ramp.1 hx; rw [ramp_length]; omega, ramp_nodup 1 n⟩

/-- numbers that do not fall -/
def Sorted (xs : List Int) : Prop := ∀ i, i + 1 < xs.length → xs.getD i 0 ≤ xs.getD (i + 1) 0
instance (xs : List Int) : Decidable (Sorted xs) := by
  refine decidable_of_iff (∀ i, i < xs.length - 1 → xs.getD i 0 ≤ xs.getD (i + 1) 0) ?_
  exact ⟨fun h i hi => h i (by omega), fun h i hi => h i (by omega)⟩
def sortedB (xs : List Int) : Bool := decide (Sorted xs)

theorem getD_eq {xs : List Int} {i : Nat} (h : i < xs.length) : xs.getD i 0 = xs[i] := by simp [h]

theorem sorted_ramp (k : Int) (n : Nat) : Sorted (ramp k n) := by
  intro i hi
  rw [ramp_length] at hi
  rw [getD_eq (by rw [ramp_length]; omega), getD_eq (by rw [ramp_length]; omega), ramp_get k n i (by omega), ramp_get k n (i + 1) hi]
  omega

theorem sorted_iff {xs : List Int} (h : Good xs) : Sorted xs ↔ xs = ramp 1 xs.length := by
  constructor
  · intro hs
    have hlt : ∀ i (hi : i + 1 < xs.length), xs[i] < xs[i + 1] := fun i hi => by
      have h1 := hs i hi
      rw [getD_eq (by omega), getD_eq hi] at h1
      have h2 := (List.pairwise_iff_getElem.1 h.2.2.2) i (i + 1) (by omega) hi (by omega)
      omega
    have hlo : ∀ i (hi : i < xs.length), (i : Int) + 1 ≤ xs[i] := by
      intro i
      induction i with
      | zero => intro hi; have := (h.2.2.1 _ (List.getElem_mem hi)).1; omega
      | succ i ih => intro hi; have := ih (by omega); have := hlt i hi; omega
    have hhi : ∀ m i (hi : i < xs.length), i + m + 1 = xs.length → xs[i] ≤ (i : Int) + 1 := by
      intro m
      induction m with
      | zero => intro i hi e; have := (h.2.2.1 _ (List.getElem_mem hi)).2; omega
      | succ m ih => intro i hi e; have h1 := ih (i + 1) (by omega) (by omega); have := hlt i (by omega); omega
    apply List.ext_getElem (by rw [ramp_length])
    intro i h1 h2
    have := hlo i h1
    have := hhi (xs.length - 1 - i) i h1 (by omega)
    rw [ramp_get 1 _ i h1]
    omega
  · intro e
    rw [e]
    exact sorted_ramp 1 _

theorem sortedB_eq {xs : List Int} (h : Good xs) : sortedB xs = decide (xs = ramp 1 xs.length) := by
  unfold sortedB
  rw [decide_eq_decide]
  exact sorted_iff h

/-- towers are the same if their lists are -/
theorem twl_inj {xs ys : List Int} (h : xs.length = ys.length) : xs ++ List.replicate (9 - xs.length) (0 : Int) = ys ++ List.replicate (9 - ys.length) 0 ↔ xs = ys := by
  constructor
  · intro e
    exact (List.append_inj e h).1
  · rintro rfl; rfl

/-- the first and the last k of a list exchanged -/
def swapped (xs : List Int) (k : Nat) : List Int := (List.range xs.length).map fun i => if i < k ∨ xs.length ≤ i + k then xs.getD (xs.length - 1 - i) 0 else xs.getD i 0
theorem swapped_length (xs : List Int) (k : Nat) : (swapped xs k).length = xs.length := by simp [swapped]
theorem swapped_zero (xs : List Int) : swapped xs 0 = xs := by
  apply List.ext_getElem (swapped_length xs 0)
  intro i h1 h2
  simp only [swapped, List.getElem_map, List.getElem_range]
  rw [if_neg (by omega), getD_eq h2]
theorem swapped_all (xs : List Int) (k : Nat) (h : xs.length ≤ 2 * k + 1) : swapped xs k = xs.reverse := by
  apply List.ext_getElem (by rw [swapped_length, List.length_reverse])
  intro i h1 h2
  rw [swapped_length] at h1
  simp only [swapped, List.getElem_map, List.getElem_range]
  rw [List.getElem_reverse]
  by_cases e : i < k ∨ xs.length ≤ i + k
  · rw [if_pos e, getD_eq (by omega)]
  · rw [if_neg e, getD_eq h1]
    congr 1
    omega
theorem swapped_get (xs : List Int) (k i : Nat) (h : i < xs.length) : (swapped xs k)[i]? = some (if i < k ∨ xs.length ≤ i + k then xs.getD (xs.length - 1 - i) 0 else xs.getD i 0) := by
  rw [List.getElem?_eq_getElem (by rw [swapped_length]; exact h)]
  simp [swapped]
theorem swapped_step (xs : List Int) (k : Nat) (h : 2 * k + 1 < xs.length) :
    ((swapped xs k).set k (xs.getD (xs.length - 1 - k) 0)).set (xs.length - 1 - k) (xs.getD k 0) = swapped xs (k + 1) := by
  apply List.ext_getElem (by simp [swapped_length])
  intro i h1 h2
  rw [swapped_length] at h2
  simp only [List.getElem_set, swapped, List.getElem_map, List.getElem_range]
  by_cases e1 : xs.length - 1 - k = i
  · rw [if_pos e1, if_pos (by omega)]; congr 1; omega
  · rw [if_neg e1]
    by_cases e2 : k = i
    · rw [if_pos e2, if_pos (by omega)]; congr 1; omega
    · rw [if_neg e2]
      by_cases e3 : i < k ∨ xs.length ≤ i + k
      · rw [if_pos e3, if_pos (by omega)]
      · rw [if_neg e3, if_neg (by omega)]

end Go.Pan

namespace Go.Pan

-- what the functions of chapter 1 return
def inB (n lo hi : Int) : Bool := decide (lo ≤ n) && decide (n ≤ hi)
theorem inB_true {n lo hi : Int} (h : lo ≤ n ∧ n ≤ hi) : inB n lo hi = true := by simp [inB, h]
theorem inB_iff {n lo hi : Int} : inB n lo hi = true ↔ lo ≤ n ∧ n ≤ hi := by simp [inB]
theorem inB_false {n lo hi : Int} (h : ¬ (lo ≤ n ∧ n ≤ hi)) : inB n lo hi = false := by
  cases hb : inB n lo hi with
  | false => rfl
  | true => exact absurd (inB_iff.1 hb) h
theorem goodB_iff {xs : List Int} : goodB xs = true ↔ Good xs := by simp [goodB]
theorem planB_iff {n : Int} {p : List Int} : planB n p = true ↔ Plan n p := by simp [planB]
theorem allB_iff {l : List Int} {lo hi : Int} : allB l lo hi = true ↔ ∀ k ∈ l, lo ≤ k ∧ k ≤ hi := by simp [allB]

def okTurn (xs : List Int) (k : Int) : Bool := goodB xs && inB k 1 xs.length
def mTurnStack (xs : List Int) (k : Int) : List Int := if okTurn xs k = true then turnL xs k.toNat else []
def okPlay (xs p : List Int) : Bool := goodB xs && planB xs.length p
def mPlayPlan (xs p : List Int) : List Int := if okPlay xs p = true then playL xs p else []
theorem okTurn_iff {xs : List Int} {k : Int} : okTurn xs k = true ↔ Good xs ∧ 1 ≤ k ∧ k ≤ xs.length := by simp only [okTurn, Bool.and_eq_true, goodB_iff, inB_iff]
theorem okPlay_iff {xs p : List Int} : okPlay xs p = true ↔ Good xs ∧ Plan xs.length p := by simp only [okPlay, Bool.and_eq_true, goodB_iff, planB_iff]
def mSorts (xs p : List Int) : Bool := okPlay xs p && sortedB (playL xs p)
def mIsSorted (xs : List Int) : Bool := goodB xs && sortedB xs
def mBackPlan (n : Int) (p : List Int) : List Int := if planB n p = true then p.reverse else []

/-- one turn more, or two that undo each other less -/
def shortStep (out : List Int) (k : Int) : List Int := if k = 1 then out else if out.getLast? = some k then out.dropLast else out ++ [k]
def shortL (p : List Int) : List Int := p.foldl shortStep []
def mShortPlan (n : Int) (p : List Int) : List Int := if planB n p = true then shortL p else []

/-- no number stands twice, side by side -/
def NoTwin : List Int → Prop
  | [] => True
  | [_] => True
  | a :: b :: l => a ≠ b ∧ NoTwin (b :: l)

def placeL (xs : List Int) (x : Int) : Int := if x ∈ xs then (xs.idxOf x : Int) + 1 else 0
theorem placeL_of_mem {xs : List Int} {x : Int} (h : x ∈ xs) : placeL xs x = (xs.idxOf x : Int) + 1 := by simp [placeL, h]
theorem placeL_bd {xs : List Int} {x : Int} (h : x ∈ xs) : 1 ≤ placeL xs x ∧ placeL xs x ≤ xs.length := by
  rw [placeL_of_mem h]
  have := List.idxOf_lt_length_of_mem h
  omega
def okPlace (xs : List Int) (x : Int) : Bool := goodB xs && inB x 1 xs.length
theorem mem_of_good {xs : List Int} (h : Good xs) {x : Int} (h1 : 1 ≤ x) (h2 : x ≤ xs.length) : x ∈ xs := all_of_nodup xs h.2.2.1 h.2.2.2 x h1 h2
def mPlaceIn (xs : List Int) (x : Int) : Int := if okPlace xs x = true then placeL xs x else 0
theorem mem_iff_in {xs : List Int} (h : Good xs) {x : Int} : x ∈ xs ↔ 1 ≤ x ∧ x ≤ xs.length := ⟨fun hx => h.2.2.1 x hx, fun hx => mem_of_good h hx.1 hx.2⟩

/-- turns without turns 1 -/
def noOne (p : List Int) : List Int := p.filter fun k => decide (k ≠ 1)
theorem noOne_snoc (p : List Int) (k : Int) : noOne (p ++ [k]) = if k = 1 then noOne p else noOne p ++ [k] := by
  unfold noOne
  rw [List.filter_append]
  by_cases h : k = 1 <;> simp [h]
theorem noOne_length (p : List Int) : (noOne p).length ≤ p.length := List.length_filter_le _ _
def mTopTo (xs : List Int) (k : Int) : List Int := if okTurn xs k = true then noOne [k] else []
def bringL (xs : List Int) (x k : Int) : List Int := if placeL xs x = k then [] else noOne [placeL xs x, k]
def okBring (xs : List Int) (x k : Int) : Bool := okPlace xs x && inB k 1 xs.length
def mBringTo (xs : List Int) (x k : Int) : List Int := if okBring xs x k = true then bringL xs x k else []

def thenL (xs ys : List Int) : List Int := ys.map fun i => xs.getD (i - 1).toNat 0
def okThen (xs ys : List Int) : Bool := goodB xs && goodB ys && decide (xs.length = ys.length)
def mThenStack (xs ys : List Int) : List Int := if okThen xs ys = true then thenL xs ys else []

/-- the inverse, as far as the first k tell it -/
def invTo (xs : List Int) : Nat → List Int
  | 0 => List.replicate xs.length 0
  | k + 1 => (invTo xs k).set (xs.getD k 0 - 1).toNat ((k : Int) + 1)
theorem invTo_length (xs : List Int) (k : Nat) : (invTo xs k).length = xs.length := by
  induction k with
  | zero => simp [invTo]
  | succ k ih => simp [invTo, ih]
def mInverseStack (xs : List Int) : List Int := if goodB xs = true then invTo xs xs.length else []
def mBackStack (xs : List Int) : List Int := if goodB xs = true then xs.reverse else []
theorem turnL_all (xs : List Int) : turnL xs xs.length = xs.reverse := by simp [turnL]
def swapL (xs : List Int) : List Int := xs.map fun x => (xs.length : Int) + 1 - x
def mSwapSizes (xs : List Int) : List Int := if goodB xs = true then swapL xs else []
def mStackOfPlan (n : Int) (p : List Int) : List Int := if planB n p = true then playL (ramp 1 n.toNat) p else []
def mSamePlans (n : Int) (a b : List Int) : Bool := planB n a && planB n b && decide (playL (ramp 1 n.toNat) a = playL (ramp 1 n.toNat) b)

-- lengths
theorem Good.le9 {xs : List Int} (h : Good xs) : xs.length ≤ 9 := h.2.1
theorem len_mTurnStack (xs : List Int) (k : Int) : (mTurnStack xs k).length ≤ 1048576 := by
  unfold mTurnStack
  split
  · rename_i h
    simp only [okTurn, Bool.and_eq_true, goodB_iff] at h
    rw [turnL_length]; have := h.1.le9; omega
  · simp
theorem len_mPlayPlan (xs p : List Int) : (mPlayPlan xs p).length ≤ 1048576 := by
  unfold mPlayPlan
  split
  · rename_i h
    simp only [okPlay, Bool.and_eq_true, goodB_iff] at h
    rw [playL_length]; have := h.1.le9; omega
  · simp
theorem len_mBackPlan (n : Int) (p : List Int) : (mBackPlan n p).length ≤ 1048576 := by
  unfold mBackPlan
  split
  · rename_i h
    have := (planB_iff.1 h).2.1
    rw [List.length_reverse]; omega
  · simp
theorem len_shortStep (out : List Int) (k : Int) : (shortStep out k).length ≤ out.length + 1 := by
  unfold shortStep
  split
  · omega
  · split <;> simp <;> omega
theorem len_foldl_short (p out : List Int) : (p.foldl shortStep out).length ≤ out.length + p.length := by
  induction p generalizing out with
  | nil => simp
  | cons k p ih =>
    have h1 := ih (shortStep out k)
    have h2 := len_shortStep out k
    simp only [List.foldl_cons, List.length_cons]
    omega
theorem len_mShortPlan (n : Int) (p : List Int) : (mShortPlan n p).length ≤ 1048576 := by
  unfold mShortPlan
  split
  · rename_i h
    have := (planB_iff.1 h).2.1
    have := len_foldl_short p []
    unfold shortL
    simp at this
    omega
  · simp
theorem len_mTopTo (xs : List Int) (k : Int) : (mTopTo xs k).length ≤ 1048576 := by
  unfold mTopTo
  split
  · have := noOne_length [k]; simp at this; omega
  · simp
theorem len_bringL (xs : List Int) (x k : Int) : (bringL xs x k).length ≤ 2 := by
  unfold bringL
  split
  · simp
  · have := noOne_length [placeL xs x, k]; simpa using this
theorem len_mBringTo (xs : List Int) (x k : Int) : (mBringTo xs x k).length ≤ 1048576 := by
  unfold mBringTo
  split
  · have := len_bringL xs x k; omega
  · simp
theorem len_mThenStack (xs ys : List Int) : (mThenStack xs ys).length ≤ 1048576 := by
  unfold mThenStack
  split
  · rename_i h
    simp only [okThen, Bool.and_eq_true, goodB_iff] at h
    have := h.1.2.le9
    simp [thenL]; omega
  · simp
theorem len_mInverseStack (xs : List Int) : (mInverseStack xs).length ≤ 1048576 := by
  unfold mInverseStack
  split
  · rename_i h
    have := (goodB_iff.1 h).le9
    rw [invTo_length]; omega
  · simp
theorem len_mBackStack (xs : List Int) : (mBackStack xs).length ≤ 1048576 := by
  unfold mBackStack
  split
  · rename_i h
    have := (goodB_iff.1 h).le9
    simp; omega
  · simp
theorem len_mSwapSizes (xs : List Int) : (mSwapSizes xs).length ≤ 1048576 := by
  unfold mSwapSizes
  split
  · rename_i h
    have := (goodB_iff.1 h).le9
    simp [swapL]; omega
  · simp
theorem len_mStackOfPlan (n : Int) (p : List Int) : (mStackOfPlan n p).length ≤ 1048576 := by
  unfold mStackOfPlan
  split
  · rename_i h
    have := (planB_iff.1 h).1
    rw [playL_length, ramp_length]; omega
  · simp

end Go.Pan
