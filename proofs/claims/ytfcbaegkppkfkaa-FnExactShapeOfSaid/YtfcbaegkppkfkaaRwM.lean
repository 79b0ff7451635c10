import Derived.Test.YtfcbaegkppkfkaaPsM
namespace Go.Pan
open Go Go.RowKit
/-- the place of the first size of a row that is not less than x -/
def hitP (r : List Int) (x : Int) : Nat := (r.takeWhile fun y => decide (y < x)).length
theorem hitP_le (r : List Int) (x : Int) : hitP r x ≤ r.length := by
  unfold hitP
  induction r with
  | nil => simp
  | cons y l ih =>
    rw [List.takeWhile_cons]
    split
    · simp; exact ih
    · simp
theorem hitP_eq {x : Int} : ∀ {r : List Int} {j : Nat}, j ≤ r.length → (∀ i (hi : i < r.length), i < j → r[i] < x) → (∀ hj : j < r.length, ¬ r[j] < x) → hitP r x = j
  | [], j, hj, _, _ => by simp at hj; subst hj; rfl
  | y :: l, 0, _, _, h2 => by
    have := h2 (by simp)
    simp only [List.getElem_cons_zero] at this
    simp [hitP, this]
  | y :: l, j + 1, hj, h1, h2 => by
    have h0 := h1 0 (by simp) (by omega)
    simp only [List.getElem_cons_zero] at h0
    have ih := hitP_eq (x := x) (r := l) (j := j) (by simpa using hj) (fun i hi hij => by have := h1 (i + 1) (by simp; omega) (by omega); simpa using this) (fun hj' => by have := h2 (by simp; omega); simpa using this)
    unfold hitP at ih ⊢
    rw [List.takeWhile_cons, if_pos (decide_eq_true h0), List.length_cons, ih]
/-- a size goes into rows: the rows then, and which has a new box -/
def insR : List (List Int) → Int → List (List Int) × Nat
  | [], x => ([[x]], 0)
  | r :: R, x => if hitP r x < r.length then ((r.set (hitP r x) x) :: (insR R (r.getD (hitP r x) 0)).1, (insR R (r.getD (hitP r x) 0)).2 + 1) else ((r ++ [x]) :: R, 0)
/-- a place is noted in a row -/
def noteP (P : List (List Int)) (k : Nat) (i : Int) : List (List Int) := if k < P.length then P.set k (P.getD k [] ++ [i]) else P ++ [[i]]
/-- rows and places after so many sizes -/
def tabTo (xs : List Int) : Nat → List (List Int) × List (List Int)
  | 0 => ([], [])
  | k + 1 => ((insR (tabTo xs k).1 (xs.getD k 0)).1, noteP (tabTo xs k).2 (insR (tabTo xs k).1 (xs.getD k 0)).2 ((k : Int) + 1))
def mRowsOf (xs : List Int) : List (List Int) := if goodB xs = true then (tabTo xs xs.length).1 else []
def mPlacesOfRows (xs : List Int) : List (List Int) := if goodB xs = true then (tabTo xs xs.length).2 else []
def mShapeOf (xs : List Int) : List Int := if goodB xs = true then (tabTo xs xs.length).1.map fun r => (r.length : Int) else []
/-- the rows ahead have been gone through -/
theorem insR_step {D R : List (List Int)} {r : List Int} {x : Int} (h : hitP r x < r.length) : (D ++ (insR (r :: R) x).1, D.length + (insR (r :: R) x).2) = ((D ++ [r.set (hitP r x) x]) ++ (insR R (r.getD (hitP r x) 0)).1, (D ++ [r.set (hitP r x) x]).length + (insR R (r.getD (hitP r x) 0)).2) := by
  simp only [insR, if_pos h, List.append_assoc, List.singleton_append, List.length_append, List.length_singleton, Prod.mk.injEq, true_and]
  omega
theorem insR_end {R : List (List Int)} {r : List Int} {x : Int} (h : ¬ hitP r x < r.length) : insR (r :: R) x = ((r ++ [x]) :: R, 0) := by
  simp only [insR, if_neg h]
theorem insR_le (R : List (List Int)) (x : Int) : (insR R x).2 ≤ R.length ∧ R.length ≤ (insR R x).1.length ∧ (insR R x).1.length ≤ R.length + 1 ∧ (insR R x).2 < (insR R x).1.length := by
  induction R generalizing x with
  | nil => simp [insR]
  | cons r R ih =>
    by_cases h : hitP r x < r.length
    · have := ih (r.getD (hitP r x) 0)
      simp only [insR, if_pos h, List.length_cons]
      omega
    · simp only [insR, if_neg h, List.length_cons]
      omega
/-- no row is empty, and so many boxes lie in them -/
theorem insR_in {R : List (List Int)} {k : Nat} (h : PilesIn R k) (x : Int) : PilesIn (insR R x).1 (k + 1) := by
  induction R generalizing x k with
  | nil =>
    have h2 := h.2
    simp [nPiles] at h2
    subst h2
    exact ⟨fun r hr => by simp [insR] at hr; rw [hr]; simp, by simp [insR, nPiles]⟩
  | cons r R ih =>
    have h2 := h.2
    have hR : PilesIn R (nPiles R) := ⟨fun q hq => h.1 q (List.mem_cons_of_mem _ hq), rfl⟩
    have hr0 := h.1 r (by simp)
    by_cases hh : hitP r x < r.length
    · have := ih hR (r.getD (hitP r x) 0)
      simp only [insR, if_pos hh]
      refine ⟨fun q hq => ?_, ?_⟩
      · rcases List.mem_cons.1 hq with rfl | hq
        · simpa using hr0
        · exact this.1 q hq
      · have h3 := this.2
        simp only [nPiles, List.map_cons, List.sum_cons, List.length_set] at h2 h3 ⊢
        omega
    · simp only [insR, if_neg hh]
      refine ⟨fun q hq => ?_, ?_⟩
      · rcases List.mem_cons.1 hq with rfl | hq
        · simp
        · exact hR.1 q hq
      · simp only [nPiles, List.map_cons, List.sum_cons, List.length_append, List.length_singleton] at h2 ⊢
        omega
theorem noteP_in {P : List (List Int)} {n : Nat} (h : PilesIn P n) (k : Nat) (i : Int) : PilesIn (noteP P k i) (n + 1) := by
  unfold noteP
  split
  · rename_i hk
    have e : P.getD k [] = P[k] := by simp [hk]
    refine ⟨fun r hr => ?_, ?_⟩
    · rcases List.mem_or_eq_of_mem_set hr with hr | rfl
      · exact h.1 r hr
      · simp
    · rw [nPiles_set P _ hk _ (by rw [e]; simp), h.2]
  · refine ⟨fun r hr => ?_, ?_⟩
    · rcases List.mem_append.1 hr with hr | hr
      · exact h.1 r hr
      · simp at hr; rw [hr]; simp
    · have := h.2
      simp only [nPiles, List.map_append, List.sum_append] at this ⊢
      simp; omega
theorem noteP_length {P : List (List Int)} {k : Nat} {i : Int} (h : k ≤ P.length) : (noteP P k i).length = if k < P.length then P.length else P.length + 1 := by
  unfold noteP
  split <;> simp
theorem insR_length {R : List (List Int)} {x : Int} : (insR R x).1.length = if (insR R x).2 < R.length then R.length else R.length + 1 := by
  induction R generalizing x with
  | nil => simp [insR]
  | cons r R ih =>
    by_cases h : hitP r x < r.length
    · have := ih (x := r.getD (hitP r x) 0)
      simp only [insR, if_pos h, List.length_cons]
      split at this <;> split <;> omega
    · simp [insR, if_neg h]
theorem tabTo_in (xs : List Int) (k : Nat) : PilesIn (tabTo xs k).1 k ∧ PilesIn (tabTo xs k).2 k ∧ (tabTo xs k).1.length = (tabTo xs k).2.length := by
  induction k with
  | zero => exact ⟨⟨fun r hr => by simp [tabTo] at hr, rfl⟩, ⟨fun r hr => by simp [tabTo] at hr, rfl⟩, rfl⟩
  | succ k ih =>
    refine ⟨insR_in ih.1 _, noteP_in ih.2.1 _ _, ?_⟩
    have h1 := (insR_le (tabTo xs k).1 (xs.getD k 0)).1
    have h2 := ih.2.2
    show (insR _ _).1.length = (noteP _ _ _).length
    rw [noteP_length (by omega), insR_length, h2]

end Go.Pan
