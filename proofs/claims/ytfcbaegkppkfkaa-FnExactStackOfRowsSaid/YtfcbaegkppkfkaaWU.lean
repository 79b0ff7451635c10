import Derived.Test.YtfcbaegkppkfkaaWF
namespace Go.Pan
open Go Go.RowKit

/-- the shapes without one box, in the order of their rows -/
def wbR : List Int → List (List Int)
  | [] => []
  | a :: l => (if l.headD 0 < a then [(a - 1) :: l] else []) ++ (wbR l).map (a :: ·)
/-- never more in a row than in the one before, none below 0 -/
def ShR : List Int → Prop
  | [] => True
  | a :: l => l.headD 0 ≤ a ∧ ShR l
theorem ShR.head : ∀ {q : List Int}, ShR q → 0 ≤ q.headD 0
  | [], _ => Int.le_refl 0
  | a :: l, h => Int.le_trans (ShR.head h.2) h.1
theorem ShR.sum : ∀ {q : List Int}, ShR q → q.headD 0 ≤ q.sum
  | [], _ => Int.le_refl 0
  | a :: l, h => by
    have h1 := ShR.head h.2
    have h2 := ShR.sum h.2
    simp only [List.sum_cons, List.headD_cons]
    omega
theorem wbR_spec : ∀ {q r : List Int}, ShR q → r ∈ wbR q → ShR r ∧ r.sum = q.sum - 1 ∧ r.length = q.length ∧ r.headD 0 ≤ q.headD 0
  | [], r, _, h => by simp [wbR] at h
  | a :: l, r, hs, h => by
    rw [wbR, List.mem_append] at h
    rcases h with h | h
    · split at h
      · next hlt =>
        simp only [List.mem_singleton] at h
        subst h
        refine ⟨⟨by omega, hs.2⟩, ?_, rfl, ?_⟩
        · simp only [List.sum_cons]; omega
        · simp only [List.headD_cons]; omega
      · simp at h
    · obtain ⟨t, ht, rfl⟩ := List.mem_map.1 h
      obtain ⟨h1, h2, h3, h4⟩ := wbR_spec hs.2 ht
      have h0 := hs.1
      refine ⟨⟨by omega, h1⟩, ?_, by simp [h3], Int.le_refl _⟩
      simp only [List.sum_cons]; omega
theorem wbR_length : ∀ (q : List Int), (wbR q).length ≤ q.length
  | [] => Nat.le_refl _
  | a :: l => by
    have := wbR_length l
    rw [wbR, List.length_append, List.length_map, List.length_cons]
    split <;> simp <;> omega
theorem wbR_nil : ∀ {q : List Int}, ShR q → q.sum = 0 → wbR q = []
  | [], _, _ => rfl
  | a :: l, hs, h => by
    have h1 := ShR.sum hs.2
    have h2 := ShR.head hs.2
    have h0 := hs.1
    simp only [List.sum_cons] at h
    rw [wbR, if_neg (by omega), wbR_nil hs.2 (by omega)]
    rfl
theorem wbR_ne : ∀ {q : List Int}, ShR q → 0 < q.sum → wbR q ≠ []
  | [], _, h => by simp at h
  | a :: l, hs, h => by
    have h1 := ShR.sum hs.2
    have h2 := ShR.head hs.2
    have h0 := hs.1
    simp only [List.sum_cons] at h
    rw [wbR]
    by_cases h3 : 0 < l.sum
    · have := wbR_ne hs.2 h3
      intro e
      rw [List.append_eq_nil_iff, List.map_eq_nil_iff] at e
      exact this e.2
    · rw [if_pos (by omega)]
      simp
theorem wbR_one : ∀ {q : List Int}, ShR q → q.sum = 1 → (wbR q).length = 1
  | [], _, h => by simp at h
  | a :: l, hs, h => by
    have h1 := ShR.sum hs.2
    have h2 := ShR.head hs.2
    have h0 := hs.1
    simp only [List.sum_cons] at h
    rw [wbR]
    by_cases h3 : l.sum = 0
    · rw [if_pos (by omega), wbR_nil hs.2 h3]; rfl
    · have ha : a = 0 ∨ 0 < a := by omega
      have hl : l.sum = 1 := by omega
      rw [if_neg (by omega), List.nil_append, List.length_map]
      exact wbR_one hs.2 hl

/-- the ways of d boxes -/
def wayR : Nat → List Int → Nat
  | 0, _ => 1
  | d + 1, q => ((wbR q).map (wayR d)).sum
theorem sum_flat (g : List Int → Nat) (f : List Int → List (List Int)) : ∀ (L : List (List Int)), ((L.flatMap f).map g).sum = (L.map fun q => ((f q).map g).sum).sum
  | [] => rfl
  | q :: L => by rw [List.flatMap_cons, List.map_append, List.sum_append, sum_flat g f L]; rfl
theorem lvG_wayR : ∀ (d : Nat) (L : List (List Int)), (lvG wbR d L).length = (L.map (wayR d)).sum
  | 0, L => by induction L with
    | nil => rfl
    | cons q L ih => simp only [lvG, List.length_cons, List.map_cons, List.sum_cons, wayR] at ih ⊢; omega
  | d + 1, L => by rw [lvG_head, lvG_wayR d, sum_flat]; rfl
theorem lvG_one (d : Nat) (q : List Int) : (lvG wbR d [q]).length = wayR d q := by rw [lvG_wayR]; simp
theorem lvG_mem {q : List Int} (hs : ShR q) : ∀ (d : Nat) (r : List Int), r ∈ lvG wbR d [q] → ShR r ∧ r.length = q.length ∧ r.sum = q.sum - d
  | 0, r, h => by simp only [lvG, List.mem_singleton] at h; subst h; exact ⟨hs, rfl, by simp⟩
  | d + 1, r, h => by
    rw [lvG, List.mem_flatMap] at h
    obtain ⟨t, ht, hr⟩ := h
    obtain ⟨h1, h2, h3⟩ := lvG_mem hs d t ht
    obtain ⟨h4, h5, h6, _⟩ := wbR_spec h1 hr
    exact ⟨h4, by rw [h6, h2], by rw [h5, h3]; omega⟩
theorem sum_map_same {f g : List Int → Nat} : ∀ {L : List (List Int)}, (∀ r, r ∈ L → f r = g r) → (L.map f).sum = (L.map g).sum
  | [], _ => rfl
  | q :: L, h => by rw [List.map_cons, List.map_cons, List.sum_cons, List.sum_cons, h q (List.mem_cons_self ..), sum_map_same fun r hr => h r (List.mem_cons_of_mem _ hr)]
theorem sum_map_le {f : List Int → Nat} {b : Nat} : ∀ {L : List (List Int)}, (∀ r, r ∈ L → f r ≤ b) → (L.map f).sum ≤ L.length * b
  | [], _ => by simp
  | q :: L, h => by
    have h1 := h q (List.mem_cons_self ..)
    have h2 := sum_map_le fun r hr => h r (List.mem_cons_of_mem _ hr)
    rw [List.map_cons, List.sum_cons, List.length_cons, Nat.add_mul]
    omega
theorem wayR_pos : ∀ (d : Nat) {q : List Int}, ShR q → (d : Int) ≤ q.sum → 0 < wayR d q
  | 0, _, _, _ => Nat.one_pos
  | d + 1, q, hs, h => by
    have hne := wbR_ne hs (by omega)
    obtain ⟨r, t, e⟩ := List.exists_cons_of_ne_nil hne
    have hr : r ∈ wbR q := by rw [e]; exact List.mem_cons_self ..
    obtain ⟨h1, h2, _, _⟩ := wbR_spec hs hr
    have := wayR_pos d h1 (by rw [h2]; omega)
    rw [wayR, e, List.map_cons, List.sum_cons]
    omega
theorem wayR_none : ∀ (d : Nat) {q : List Int}, ShR q → q.sum < d → wayR d q = 0
  | 0, q, hs, h => by
    have h1 := ShR.sum hs
    have h2 := ShR.head hs
    omega
  | d + 1, q, hs, h => by
    rw [wayR, sum_map_same (g := fun _ => 0) fun r hr => by
      obtain ⟨h1, h2, _, _⟩ := wbR_spec hs hr
      exact wayR_none d h1 (by rw [h2]; omega)]
    generalize wbR q = L
    induction L with
    | nil => rfl
    | cons a L ih => rw [List.map_cons, List.sum_cons, ih]
theorem wayR_le (K : Nat) : ∀ (d : Nat) {q : List Int}, ShR q → q.length ≤ K → wayR d q ≤ K ^ d
  | 0, _, _, _ => Nat.le_refl _
  | d + 1, q, hs, h => by
    rw [wayR]
    refine Nat.le_trans (sum_map_le (b := K ^ d) fun r hr => ?_) ?_
    · obtain ⟨h1, _, h3, _⟩ := wbR_spec hs hr
      exact wayR_le K d h1 (by omega)
    · rw [Nat.pow_succ, Nat.mul_comm]
      exact Nat.mul_le_mul_left _ (Nat.le_trans (wbR_length q) h)
/-- the last box leaves one way -/
theorem wayR_last : ∀ (d : Nat) {q : List Int}, ShR q → q.sum = (d : Int) + 1 → wayR (d + 1) q = wayR d q
  | 0, q, hs, h => by
    have h1 := wbR_one hs (by omega)
    show ((wbR q).map fun _ => 1).sum = 1
    have : ∀ L : List (List Int), (L.map fun _ => 1).sum = L.length := fun L => by
      induction L with
      | nil => rfl
      | cons a L ih => rw [List.map_cons, List.sum_cons, ih, List.length_cons]; omega
    rw [this, h1]
  | d + 1, q, hs, h => by
    rw [wayR, wayR, sum_map_same fun r hr => by
      obtain ⟨h1, h2, _, _⟩ := wbR_spec hs hr
      exact wayR_last d h1 (by rw [h2]; omega)]

/-- what a list must be to be a shape -/
def shpB (q : List Int) : Bool := decide (1 ≤ q.length ∧ q.length ≤ 9 ∧ (∀ x ∈ q, 1 ≤ x ∧ x ≤ 9) ∧ (∀ i, i < q.length → 0 < i → q.getD i 0 ≤ q.getD (i - 1) 0) ∧ q.sum ≤ 9)
theorem ShR_of : ∀ (q : List Int), (∀ x ∈ q, 1 ≤ x ∧ x ≤ 9) → (∀ i, i < q.length → 0 < i → q.getD i 0 ≤ q.getD (i - 1) 0) → ShR q
  | [], _, _ => trivial
  | [a], h, _ => ⟨by have := (h a (List.mem_cons_self ..)).1; show (0 : Int) ≤ a; omega, trivial⟩
  | a :: b :: l, h, hd => ⟨by have := hd 1 (by simp) (by omega); simpa using this, ShR_of (b :: l) (fun x hx => h x (List.mem_cons_of_mem _ hx)) fun i hi h0 => by
      have := hd (i + 1) (by simp at hi ⊢; omega) (by omega)
      obtain ⟨j, rfl⟩ : ∃ j, i = j + 1 := ⟨i - 1, by omega⟩
      simpa using this⟩
def mCountTables (q : List Int) : Int := if shpB q then (wayR q.sum.toNat q : Int) else 0
/-- the first k rows of the shapes without one box -/
def wbTo (q : List Int) (k : Nat) : List (List Int) := ((List.range k).filter fun i => decide (q.getD (i + 1) 0 < q.getD i 0)).map fun i => q.set i (q.getD i 0 - 1)
theorem wbTo_yes {q : List Int} {k : Nat} (h : q.getD (k + 1) 0 < q.getD k 0) : wbTo q (k + 1) = wbTo q k ++ [q.set k (q.getD k 0 - 1)] := by
  unfold wbTo
  rw [List.range_succ, List.filter_append, List.map_append, List.filter_cons_of_pos (by exact decide_eq_true h)]
  rfl
theorem wbTo_no {q : List Int} {k : Nat} (h : ¬ q.getD (k + 1) 0 < q.getD k 0) : wbTo q (k + 1) = wbTo q k := by
  unfold wbTo
  rw [List.range_succ, List.filter_append, List.map_append, List.filter_cons_of_neg (by rw [decide_eq_true_iff]; exact h)]
  simp
theorem wbTo_le (q : List Int) (k : Nat) : (wbTo q k).length ≤ k := by
  unfold wbTo
  rw [List.length_map]
  exact Nat.le_trans (List.length_filter_le _ _) (by rw [List.length_range]; exact Nat.le_refl _)
theorem wbTo_cons (a : Int) (l : List Int) : ∀ (k : Nat), wbTo (a :: l) (k + 1) = (if l.headD 0 < a then [(a - 1) :: l] else []) ++ (wbTo l k).map (a :: ·)
  | 0 => by
    have e : (a :: l).getD 1 0 = l.headD 0 := by cases l <;> rfl
    by_cases h : l.headD 0 < a
    · rw [wbTo_yes (by rw [e]; exact h), if_pos h]; simp [wbTo]
    · rw [wbTo_no (by rw [e]; exact h), if_neg h]; simp [wbTo]
  | k + 1 => by
    have e1 : (a :: l).getD (k + 1 + 1) 0 = l.getD (k + 1) 0 := by simp
    have e2 : (a :: l).getD (k + 1) 0 = l.getD k 0 := by simp
    by_cases h : l.getD (k + 1) 0 < l.getD k 0
    · rw [wbTo_yes (by rw [e1, e2]; exact h), wbTo_yes h, wbTo_cons a l k, e2, List.map_append, List.append_assoc]
      simp
    · rw [wbTo_no (by rw [e1, e2]; exact h), wbTo_no h, wbTo_cons a l k]
theorem wbTo_all : ∀ (q : List Int), wbTo q q.length = wbR q
  | [] => rfl
  | a :: l => by rw [List.length_cons, wbTo_cons, wbTo_all l, wbR]

end Go.Pan

