import Derived.Test.YtfcbaegkppkfkaaPsM
namespace Go.Pan
open Go Go.RowKit
/-- the place of the first size of a row that is not less than x -/
def hitP (r : List Int) (x : Int) : Nat := (r.takeWhile fun y => decide (y < x)).length
theorem hitP_le (r : List Int) (x : Int) : hitP r x ≤ r.length := by
  unfold hitP
  induction r with
  | nil => simp
  | cons y l ih =>
    rw [List.takeWhile_cons]
    split
    · simp; exact ih
    · simp
theorem hitP_eq {x : Int} : ∀ {r : List Int} {j : Nat}, j ≤ r.length → (∀ i (hi : i < r.length), i < j → r[i] < x) → (∀ hj : j < r.length, ¬ r[j] < x) → hitP r x = j
  | [], j, hj, _, _ => by simp at hj; subst hj; rfl
  | y :: l, 0, _, _, h2 => by
    have := h2 (by simp)
    simp only [List.getElem_cons_zero] at this
    simp [hitP, this]
  | y :: l, j + 1, hj, h1, h2 => by
    have h0 := h1 0 (by simp) (by omega)
    simp only [List.getElem_cons_zero] at h0
    have ih := hitP_eq (x := x) (r := l) (j := j) (by simpa using hj) (fun i hi hij => by have := h1 (i + 1) (by simp; omega) (by omega); simpa using this) (fun hj' => by have := h2 (by simp; omega); simpa using this)
    unfold hitP at ih ⊢
    rw [List.takeWhile_cons, if_pos (decide_eq_true h0), List.length_cons, ih]
/-- a size goes into rows: the rows then, and which has a new box -/
def insR : List (List Int) → Int → List (List Int) × Nat
  | [], x => ([[x]], 0)
  | r :: R, x => if hitP r x < r.length then ((r.set (hitP r x) x) :: (insR R (r.getD (hitP r x) 0)).1, (insR R (r.getD (hitP r x) 0)).2 + 1) else ((r ++ [x]) :: R, 0)
/-- a place is noted in a row -/
def noteP (P : List (List Int)) (k : Nat) (i : Int) : List (List Int) := if k < P.length then P.set k (P.getD k [] ++ [i]) else P ++ [[i]]
/-- rows and places after so many sizes -/
def tabTo (xs : List Int) : Nat → List (List Int) × List (List Int)
  | 0 => ([], [])
  | k + 1 => ((insR (tabTo xs k).1 (xs.getD k 0)).1, noteP (tabTo xs k).2 (insR (tabTo xs k).1 (xs.getD k 0)).2 ((k : Int) + 1))
def mRowsOf (xs : List Int) : List (List Int) := if goodB xs = true then (tabTo xs xs.length).1 else []
def mPlacesOfRows (xs : List Int) : List (List Int) := if goodB xs = true then (tabTo xs xs.length).2 else []
def mShapeOf (xs : List Int) : List Int := if goodB xs = true then (tabTo xs xs.length).1.map fun r => (r.length : Int) else []
/-- the rows ahead have been gone through -/
theorem insR_step {D R : List (List Int)} {r : List Int} {x : Int} (h : hitP r x < r.length) : (D ++ (insR (r :: R) x).1, D.length + (insR (r :: R) x).2) = ((D ++ [r.set (hitP r x) x]) ++ (insR R (r.getD (hitP r x) 0)).1, (D ++ [r.set (hitP r x) x]).length + (insR R (r.getD (hitP r x) 0)).2) := by
  simp only [insR, if_pos h, List.append_assoc, List.singleton_append, List.length_append, List.length_singleton, Prod.mk.injEq, true_and]
  omega
theorem insR_end {R : List (List Int)} {r : List Int} {x : Int} (h : ¬ hitP r x < r.length) : insR (r :: R) x = ((r ++ [x]) :: R, 0) := by
  simp only [insR, if_neg h]
theorem insR_le (R : List (List Int)) (x : Int) : (insR R x).2 ≤ R.length ∧ R.length ≤ (insR R x).1.length ∧ (insR R x).1.length ≤ R.length + 1 ∧ (insR R x).2 < (insR R x).1.length := by
  induction R generalizing x with
  | nil => simp [insR]
  | cons r R ih =>
    by_cases h : hitP r x < r.length
    · have := ih (r.getD (hitP r x) 0)
      simp only [insR, if_pos h, List.length_cons]
      omega
    · simp only [insR, if_neg h, List.length_cons]
      omega
/-- no row is empty, and so many boxes lie in them -/
theorem insR_in {R : List (List Int)} {k : Nat} (h : PilesIn R k) (x : Int) : PilesIn (insR R x).1 (k + 1) := by
  induction R generalizing x k with
  | nil =>
    have h2 := h.2
    simp [nPiles] at h2
    subst h2
    exact ⟨fun r hr => by simp [insR] at hr; rw [hr]; simp, by simp [insR, nPiles]⟩
  | cons r R ih =>
    have h2 := h.2
    have hR : PilesIn R (nPiles R) := ⟨fun q hq => h.1 q (List.mem_cons_of_mem _ hq), rfl⟩
    have hr0 := h.1 r (by simp)
    by_cases hh : hitP r x < r.length
    · have := ih hR (r.getD (hitP r x) 0)
      simp only [insR, if_pos hh]
      refine ⟨fun q hq => ?_, ?_⟩
      · rcases List.mem_cons.1 hq with rfl | hq
        · simpa using hr0
        · exact this.1 q hq
      · have h3 := this.2
        simp only [nPiles, List.map_cons, List.sum_cons, List.length_set] at h2 h3 ⊢
        omega
    · simp only [insR, if_neg hh]
      refine ⟨fun q hq => ?_, ?_⟩
      · rcases List.mem_cons.1 hq with rfl | hq
        · simp
        · exact hR.1 q hq
      · simp only [nPiles, List.map_cons, List.sum_cons, List.length_append, List.length_singleton] at h2 ⊢
        omega
theorem noteP_in {P : List (List Int)} {n : Nat} (h : PilesIn P n) (k : Nat) (i : Int) : PilesIn (noteP P k i) (n + 1) := by
  unfold noteP
  split
  · rename_i hk
    have e : P.getD k [] = P[k] := by simp [hk]
    refine ⟨fun r hr => ?_, ?_⟩
    · rcases List.mem_or_eq_of_mem_set hr with hr | rfl
      · exact h.1 r hr
      · simp
    · rw [nPiles_set P _ hk _ (by rw [e]; simp), h.2]
  · refine ⟨fun r hr => ?_, ?_⟩
    · rcases List.mem_append.1 hr with hr | hr
      · exact h.1 r hr
      · simp at hr; rw [hr]; simp
    · have := h.2
      simp only [nPiles, List.map_append, List.sum_append] at this ⊢
      simp; omega
theorem noteP_length {P : List (List Int)} {k : Nat} {i : Int} (h : k ≤ P.length) : (noteP P k i).length = if k < P.length then P.length else P.length + 1 := by
  unfold noteP
  split <;> simp
theorem insR_length {R : List (List Int)} {x : Int} : (insR R x).1.length = if (insR R x).2 < R.length then R.length else R.length + 1 := by
  induction R generalizing x with
  | nil => simp [insR]
  | cons r R ih =>
    by_cases h : hitP r x < r.length
    · have := ih (x := r.getD (hitP r x) 0)
      simp only [insR, if_pos h, List.length_cons]
      split at this <;> split <;> omega
    · simp [insR, if_neg h]
theorem tabTo_in (xs : List Int) (k : Nat) : PilesIn (tabTo xs k).1 k ∧ PilesIn (tabTo xs k).2 k ∧ (tabTo xs k).1.length = (tabTo xs k).2.length := by
  induction k with
  | zero => exact ⟨⟨fun r hr => by simp [tabTo] at hr, rfl⟩, ⟨fun r hr => by simp [tabTo] at hr, rfl⟩, rfl⟩
  | succ k ih =>
    refine ⟨insR_in ih.1 _, noteP_in ih.2.1 _ _, ?_⟩
    have h1 := (insR_le (tabTo xs k).1 (xs.getD k 0)).1
    have h2 := ih.2.2
    show (insR _ _).1.length = (noteP _ _ _).length
    rw [noteP_length (by omega), insR_length, h2]

end Go.Pan

namespace Go.Pan
open Go Go.RowKit
/-- rows whose sizes rise, all of them different and greater than 0 -/
structure Rz (R : List (List Int)) : Prop where
  up : ∀ r ∈ R, r.Pairwise (· < ·)
  nd : R.flatten.Nodup
  pos : ∀ x ∈ R.flatten, 0 < x
structure Hx (R : List (List Int)) (x : Int) : Prop where
  z : Rz R
  no : x ∉ R.flatten
  p : 0 < x
theorem hitP_lt {r : List Int} {x : Int} : ∀ i (hi : i < r.length), i < hitP r x → r[i] < x := by
  induction r with
  | nil => intro i hi; simp at hi
  | cons y l ih =>
    intro i hi h
    unfold hitP at h
    rw [List.takeWhile_cons] at h
    split at h
    · rename_i hy
      cases i with
      | zero => simpa using hy
      | succ i =>
        have := ih i (by simpa using hi) (by unfold hitP; simpa using h)
        simpa using this
    · simp at h
theorem hitP_ge {r : List Int} {x : Int} : ∀ (h : hitP r x < r.length), ¬ r[hitP r x] < x := by
  induction r with
  | nil => intro h; simp at h
  | cons y l ih =>
    intro h
    by_cases hy : y < x
    · have e : hitP (y :: l) x = hitP l x + 1 := by unfold hitP; rw [List.takeWhile_cons, if_pos (decide_eq_true hy)]; rfl
      have h' : hitP l x < l.length := by rw [e] at h; simpa using h
      have := ih h'
      simp only [e, List.getElem_cons_succ]
      exact this
    · have e : hitP (y :: l) x = 0 := by unfold hitP; rw [List.takeWhile_cons, if_neg (by simpa using hy)]; rfl
      simp only [e, List.getElem_cons_zero]
      exact hy
theorem topP_at {r : List Int} (h : 0 < r.length) : topP r = r[r.length - 1] := by unfold topP; rw [List.getD_eq_getElem?_getD, List.getElem?_eq_getElem (by omega)]; rfl
theorem hitP_in {r : List Int} {x : Int} (h0 : 0 < r.length) (ht : x < topP r) : hitP r x < r.length := by
  rcases Nat.lt_or_ge (hitP r x) r.length with h | h
  · exact h
  · have := hitP_lt (r := r) (x := x) (r.length - 1) (by omega) (by omega)
    rw [topP_at h0] at ht
    omega
theorem hitP_out {r : List Int} {x : Int} (hr : r.Pairwise (· < ·)) (hn : x ∉ r) (ht : 0 < r.length → ¬ x < topP r) : ¬ hitP r x < r.length := by
  intro h
  have h1 := hitP_ge h
  have h0 : 0 < r.length := by omega
  have h2 := ht h0
  rw [topP_at h0] at h2
  have h3 : r[hitP r x] ≠ x := fun e => hn (by rw [← e]; exact List.getElem_mem h)
  rcases Nat.lt_or_ge (hitP r x) (r.length - 1) with h4 | h4
  · have := (List.pairwise_iff_getElem.1 hr) _ _ h (by omega) h4
    omega
  · have e : hitP r x = r.length - 1 := by omega
    simp only [e] at h1 h3
    omega
theorem set_perm {r : List Int} {k : Nat} {x : Int} (h : k < r.length) (A : List Int) : (r.set k x ++ (r[k] :: A)).Perm (x :: (r ++ A)) := by
  have e : r = r.take k ++ r[k] :: r.drop (k + 1) := by rw [List.getElem_cons_drop, List.take_append_drop]
  have e2 : r.set k x = r.take k ++ x :: r.drop (k + 1) := by rw [List.set_eq_take_append_cons_drop, if_pos h]
  rw [e2]
  conv => rhs; rw [e]
  rw [List.perm_iff_count]
  intro a
  simp only [List.append_assoc, List.cons_append, List.count_append, List.count_cons]
  omega
theorem insR_perm (R : List (List Int)) (x : Int) : (insR R x).1.flatten.Perm (x :: R.flatten) := by
  induction R generalizing x with
  | nil => simp [insR]
  | cons r R ih =>
    by_cases h : hitP r x < r.length
    · simp only [insR, if_pos h, List.flatten_cons]
      have e : r.getD (hitP r x) 0 = r[hitP r x] := by simp [h]
      rw [e]
      exact ((ih (r[hitP r x])).append_left (r.set (hitP r x) x)).trans (set_perm h R.flatten)
    · simp only [insR, if_neg h, List.flatten_cons]
      rw [List.perm_iff_count]
      intro a
      simp only [List.count_append, List.count_cons, List.count_nil]
      omega
theorem Hx.row {R : List (List Int)} {r : List Int} {x : Int} (h : Hx (r :: R) x) : r.Pairwise (· < ·) ∧ x ∉ r ∧ Rz R ∧ x ∉ R.flatten := by
  have hn := h.no
  have hd := h.z.nd
  rw [List.flatten_cons] at hn hd
  rw [List.nodup_append] at hd
  exact ⟨h.z.up r (by simp), fun e => hn (List.mem_append_left _ e), ⟨fun q hq => h.z.up q (List.mem_cons_of_mem _ hq), hd.2.1, fun y hy => h.z.pos y (by rw [List.flatten_cons]; exact List.mem_append_right _ hy)⟩, fun e => hn (List.mem_append_right _ e)⟩
/-- the size that comes out of a row goes to the next ones -/
theorem Hx.step {R : List (List Int)} {r : List Int} {x : Int} (h : Hx (r :: R) x) {k : Nat} (hk : k < r.length) : Hx R (r[k]) := by
  have hd := h.z.nd
  rw [List.flatten_cons, List.nodup_append] at hd
  refine ⟨h.row.2.2.1, fun e => hd.2.2 _ (List.getElem_mem hk) _ e rfl, h.z.pos _ ?_⟩
  rw [List.flatten_cons]
  exact List.mem_append_left _ (List.getElem_mem hk)
theorem set_up {r : List Int} {x : Int} (hr : r.Pairwise (· < ·)) (hn : x ∉ r) (hk : hitP r x < r.length) : (r.set (hitP r x) x).Pairwise (· < ·) := by
  have hge := hitP_ge hk
  have hne : r[hitP r x] ≠ x := fun e => hn (by rw [← e]; exact List.getElem_mem hk)
  rw [List.pairwise_iff_getElem] at hr ⊢
  intro i j hi hj hij
  rw [List.length_set] at hi hj
  rw [List.getElem_set, List.getElem_set]
  split
  · rename_i e
    rw [if_neg (by omega)]
    have := hr (hitP r x) j hk hj (by omega)
    omega
  · split
    · rename_i e
      exact hitP_lt i hi (by omega)
    · exact hr i j hi hj hij
theorem insR_up (R : List (List Int)) (x : Int) (h : Hx R x) : ∀ r ∈ (insR R x).1, r.Pairwise (· < ·) := by
  induction R generalizing x with
  | nil => intro r hr; simp [insR] at hr; rw [hr]; simp
  | cons r R ih =>
    have hr0 := h.row
    by_cases hh : hitP r x < r.length
    · have e : r.getD (hitP r x) 0 = r[hitP r x] := by simp [hh]
      have := ih _ (h.step hh)
      simp only [insR, if_pos hh, e]
      intro q hq
      rcases List.mem_cons.1 hq with rfl | hq
      · exact set_up hr0.1 hr0.2.1 hh
      · exact this q hq
    · simp only [insR, if_neg hh]
      intro q hq
      rcases List.mem_cons.1 hq with rfl | hq
      · rw [List.pairwise_append]
        refine ⟨hr0.1, by simp, fun a ha b hb => ?_⟩
        simp at hb
        subst hb
        obtain ⟨i, hi, rfl⟩ := List.mem_iff_getElem.1 ha
        exact hitP_lt i hi (by have := hitP_le r b; omega)
      · exact h.z.up q (List.mem_cons_of_mem _ hq)
theorem Hx.ins {R : List (List Int)} {x : Int} (h : Hx R x) : Rz (insR R x).1 :=
  ⟨insR_up R x h, (insR_perm R x).nodup_iff.2 (List.nodup_cons.2 ⟨h.no, h.z.nd⟩), fun y hy => by
    rcases List.mem_cons.1 ((insR_perm R x).mem_iff.1 hy) with rfl | hy
    · exact h.p
    · exact h.z.pos y hy⟩
theorem tabTo_z {xs : List Int} (hg : Good xs) : ∀ k, k ≤ xs.length → Rz (tabTo xs k).1 ∧ (tabTo xs k).1.flatten.Perm (xs.take k)
  | 0, _ => ⟨⟨fun r hr => by simp [tabTo] at hr, by simp [tabTo], fun x hx => by simp [tabTo] at hx⟩, by simp [tabTo]⟩
  | k + 1, hk => by
    obtain ⟨h1, h2⟩ := tabTo_z hg k (by omega)
    have hlt : k < xs.length := by omega
    have e : xs.getD k 0 = xs[k] := by simp [hlt]
    have hx : Hx (tabTo xs k).1 (xs[k]) := ⟨h1, fun hm => by
      have hm := h2.mem_iff.1 hm
      have hnd := hg.2.2.2
      rw [← List.take_append_drop k xs, List.nodup_append] at hnd
      exact hnd.2.2 _ hm _ (by rw [List.drop_eq_getElem_cons hlt]; exact List.mem_cons_self) rfl, by have := hg.2.2.1 _ (List.getElem_mem hlt); omega⟩
    refine ⟨?_, ?_⟩
    · show Rz (insR (tabTo xs k).1 (xs.getD k 0)).1
      rw [e]
      exact hx.ins
    · show (insR (tabTo xs k).1 (xs.getD k 0)).1.flatten.Perm _
      rw [e, List.take_succ_eq_append_getElem hlt]
      exact (insR_perm _ _).trans ((h2.cons _).trans (List.perm_append_singleton _ _).symm)
theorem tabTo_x {xs : List Int} (hg : Good xs) {k : Nat} (hlt : k < xs.length) : Hx (tabTo xs k).1 (xs[k]) := by
  obtain ⟨h1, h2⟩ := tabTo_z hg k (by omega)
  exact ⟨h1, fun hm => by
      have hm := h2.mem_iff.1 hm
      have hnd := hg.2.2.2
      rw [← List.take_append_drop k xs, List.nodup_append] at hnd
      exact hnd.2.2 _ hm _ (by rw [List.drop_eq_getElem_cons hlt]; exact List.mem_cons_self) rfl, by have := hg.2.2.1 _ (List.getElem_mem hlt); omega⟩

end Go.Pan
