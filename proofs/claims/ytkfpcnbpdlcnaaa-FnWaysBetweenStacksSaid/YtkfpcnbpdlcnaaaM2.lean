import Derived.Test.YtkfpcnbpdlcnaaaM1
namespace Go.Pan

theorem Good.perm {xs ys : List Int} (hg : Good xs) (h : xs.Perm ys) : Good ys :=
  ⟨by rw [← h.length_eq]; exact hg.1, by rw [← h.length_eq]; exact hg.2.1, fun x hx => by rw [← h.length_eq]; exact hg.2.2.1 x (h.mem_iff.2 hx), h.nodup_iff.1 hg.2.2.2⟩

/-- the first k of a list turned round -/
def turnL (xs : List Int) (k : Nat) : List Int := (xs.take k).reverse ++ xs.drop k
theorem turnL_perm (xs : List Int) (k : Nat) : (turnL xs k).Perm xs := by
  have h := (List.reverse_perm (xs.take k)).append_right (xs.drop k)
  rwa [List.take_append_drop] at h
theorem turnL_length (xs : List Int) (k : Nat) : (turnL xs k).length = xs.length := (turnL_perm xs k).length_eq
theorem turnL_good {xs : List Int} (h : Good xs) (k : Nat) : Good (turnL xs k) := h.perm (turnL_perm xs k).symm
theorem turnL_one (xs : List Int) : turnL xs 1 = xs := by cases xs <;> simp [turnL]
/-- what a plan makes of a list -/
def playL : List Int → List Int → List Int
  | xs, [] => xs
  | xs, k :: p => playL (turnL xs k.toNat) p
theorem playL_append (xs p q : List Int) : playL xs (p ++ q) = playL (playL xs p) q := by
  induction p generalizing xs with
  | nil => rfl
  | cons k p ih => exact ih _
theorem playL_snoc (xs p : List Int) (k : Int) : playL xs (p ++ [k]) = turnL (playL xs p) k.toNat := by rw [playL_append]; rfl
theorem playL_perm (xs p : List Int) : (playL xs p).Perm xs := by
  induction p generalizing xs with
  | nil => exact List.Perm.refl _
  | cons k p ih => exact (ih _).trans (turnL_perm _ _)
theorem playL_length (xs p : List Int) : (playL xs p).length = xs.length := (playL_perm xs p).length_eq
theorem playL_good {xs : List Int} (h : Good xs) (p : List Int) : Good (playL xs p) := h.perm (playL_perm xs p).symm
theorem playL_take_succ (xs p : List Int) (k : Nat) (h : k < p.length) : playL xs (p.take (k + 1)) = turnL (playL xs (p.take k)) p[k].toNat := by
  rw [List.take_succ_eq_append_getElem h, playL_snoc]

/-- there is a plan for n -/
def Plan (n : Int) (p : List Int) : Prop := (1 ≤ n ∧ n ≤ 9) ∧ p.length ≤ 40 ∧ ∀ k ∈ p, 1 ≤ k ∧ k ≤ n
instance (n : Int) (p : List Int) : Decidable (Plan n p) := by unfold Plan; infer_instance
def planB (n : Int) (p : List Int) : Bool := decide (Plan n p)
def allB (l : List Int) (lo hi : Int) : Bool := decide (∀ k ∈ l, lo ≤ k ∧ k ≤ hi)

theorem ramp_good (n : Nat) (h1 : 1 ≤ n) (h9 : n ≤ 9) : Good (ramp 1 n) :=
  ⟨by rw [ramp_length]; exact h1, by rw [ramp_length]; exact h9, fun x hx => by have := mem_ramp.1 hx; rw [ramp_length]; omega, ramp_nodup 1 n⟩

/-- numbers that do not fall -/
def Sorted (xs : List Int) : Prop := ∀ i, i + 1 < xs.length → xs.getD i 0 ≤ xs.getD (i + 1) 0
instance (xs : List Int) : Decidable (Sorted xs) := by
  refine decidable_of_iff (∀ i, i < xs.length - 1 → xs.getD i 0 ≤ xs.getD (i + 1) 0) ?_
  exact ⟨fun h i hi => h i (by omega), fun h i hi => h i (by omega)⟩
def sortedB (xs : List Int) : Bool := decide (Sorted xs)

theorem getD_eq {xs : List Int} {i : Nat} (h : i < xs.length) : xs.getD i 0 = xs[i] := by simp [h]

theorem sorted_ramp (k : Int) (n : Nat) : Sorted (ramp k n) := by
  intro i hi
  rw [ramp_length] at hi
  rw [getD_eq (by rw [ramp_length]; omega), getD_eq (by rw [ramp_length]; omega), ramp_get k n i (by omega), ramp_get k n (i + 1) hi]
  omega

theorem sorted_iff {xs : List Int} (h : Good xs) : Sorted xs ↔ xs = ramp 1 xs.length := by
  constructor
  · intro hs
    have hlt : ∀ i (hi : i + 1 < xs.length), xs[i] < xs[i + 1] := fun i hi => by
      have h1 := hs i hi
      rw [getD_eq (by omega), getD_eq hi] at h1
      have h2 := (List.pairwise_iff_getElem.1 h.2.2.2) i (i + 1) (by omega) hi (by omega)
      omega
    have hlo : ∀ i (hi : i < xs.length), (i : Int) + 1 ≤ xs[i] := by
      intro i
      induction i with
      | zero => intro hi; have := (h.2.2.1 _ (List.getElem_mem hi)).1; omega
      | succ i ih => intro hi; have := ih (by omega); have := hlt i hi; omega
    have hhi : ∀ m i (hi : i < xs.length), i + m + 1 = xs.length → xs[i] ≤ (i : Int) + 1 := by
      intro m
      induction m with
      | zero => intro i hi e; have := (h.2.2.1 _ (List.getElem_mem hi)).2; omega
      | succ m ih => intro i hi e; have h1 := ih (i + 1) (by omega) (by omega); have := hlt i (by omega); omega
    apply List.ext_getElem (by rw [ramp_length])
    intro i h1 h2
    have := hlo i h1
    have := hhi (xs.length - 1 - i) i h1 (by omega)
    rw [ramp_get 1 _ i h1]
    omega
  · intro e
    rw [e]
    exact sorted_ramp 1 _

theorem sortedB_eq {xs : List Int} (h : Good xs) : sortedB xs = decide (xs = ramp 1 xs.length) := by
  unfold sortedB
  rw [decide_eq_decide]
  exact sorted_iff h

/-- towers are the same if their lists are -/
theorem twl_inj {xs ys : List Int} (h : xs.length = ys.length) : xs ++ List.replicate (9 - xs.length) (0 : Int) = ys ++ List.replicate (9 - ys.length) 0 ↔ xs = ys := by
  constructor
  · intro e
    exact (List.append_inj e h).1
  · rintro rfl; rfl

/-- the first and the last k of a list exchanged -/
def swapped (xs : List Int) (k : Nat) : List Int := (List.range xs.length).map fun i => if i < k ∨ xs.length ≤ i + k then xs.getD (xs.length - 1 - i) 0 else xs.getD i 0
theorem swapped_length (xs : List Int) (k : Nat) : (swapped xs k).length = xs.length := by simp [swapped]
theorem swapped_zero (xs : List Int) : swapped xs 0 = xs := by
  apply List.ext_getElem (swapped_length xs 0)
  intro i h1 h2
  simp only [swapped, List.getElem_map, List.getElem_range]
  rw [if_neg (by omega), getD_eq h2]
theorem swapped_all (xs : List Int) (k : Nat) (h : xs.length ≤ 2 * k + 1) : swapped xs k = xs.reverse := by
  apply List.ext_getElem (by rw [swapped_length, List.length_reverse])
  intro i h1 h2
  rw [swapped_length] at h1
  simp only [swapped, List.getElem_map, List.getElem_range]
  rw [List.getElem_reverse]
  by_cases e : i < k ∨ xs.length ≤ i + k
  · rw [if_pos e, getD_eq (by omega)]
  · rw [if_neg e, getD_eq h1]
    congr 1
    omega
theorem swapped_get (xs : List Int) (k i : Nat) (h : i < xs.length) : (swapped xs k)[i]? = some (if i < k ∨ xs.length ≤ i + k then xs.getD (xs.length - 1 - i) 0 else xs.getD i 0) := by
  rw [List.getElem?_eq_getElem (by rw [swapped_length]; exact h)]
  simp [swapped]
theorem swapped_step (xs : List Int) (k : Nat) (h : 2 * k + 1 < xs.length) :
    ((swapped xs k).set k (xs.getD (xs.length - 1 - k) 0)).set (xs.length - 1 - k) (xs.getD k 0) = swapped xs (k + 1) := by
  apply List.ext_getElem (by simp [swapped_length])
  intro i h1 h2
  rw [swapped_length] at h2
  simp only [List.getElem_set, swapped, List.getElem_map, List.getElem_range]
  by_cases e1 : xs.length - 1 - k = i
  · rw [if_pos e1, if_pos (by omega)]; congr 1; omega
  · rw [if_neg e1]
    by_cases e2 : k = i
    · rw [if_pos e2, if_pos (by omega)]; congr 1; omega
    · rw [if_neg e2]
      by_cases e3 : i < k ∨ xs.length ≤ i + k
      · rw [if_pos e3, if_pos (by omega)]
      · rw [if_neg e3, if_neg (by omega)]

end Go.Pan

