import Derived.Test.YtkeenoklghkonaaM2
namespace Go.Pan

-- games of the top: plain maths
/-- the turn that the top size tells -/
def topT (xs : List Int) : List Int := turnL xs (xs.getD 0 0).toNat
def topN : Nat → List Int → List Int
  | 0, xs => xs
  | t + 1, xs => topT (topN t xs)
theorem topN_succ' : ∀ (t : Nat) (xs : List Int), topN (t + 1) xs = topN t (topT xs)
  | 0, _ => rfl
  | t + 1, xs => by show topT (topN (t + 1) xs) = topT (topN t (topT xs)); rw [topN_succ' t xs]
theorem topN_add (s : Nat) : ∀ (t : Nat) (xs : List Int), topN (s + t) xs = topN s (topN t xs) := by
  induction s with
  | zero => intro t xs; rw [Nat.zero_add]; rfl
  | succ s ih => intro t xs; rw [Nat.add_right_comm]; show topT (topN (s + t) xs) = _; rw [ih]; rfl
theorem topT_good {xs : List Int} (h : Good xs) : Good (topT xs) := turnL_good h _
theorem topT_length (xs : List Int) : (topT xs).length = xs.length := turnL_length _ _
theorem topN_good {xs : List Int} (h : Good xs) : ∀ t, Good (topN t xs)
  | 0 => h
  | t + 1 => topT_good (topN_good h t)
theorem topN_length (xs : List Int) : ∀ t, (topN t xs).length = xs.length
  | 0 => rfl
  | t + 1 => (topT_length _).trans (topN_length xs t)

theorem turnL_get_lo {xs : List Int} {k i : Nat} (hk : k ≤ xs.length) (hi : i < k) : (turnL xs k).getD i 0 = xs.getD (k - 1 - i) 0 := by
  unfold turnL
  rw [List.getD_eq_getElem?_getD, List.getD_eq_getElem?_getD, List.getElem?_append_left (by simp; omega), List.getElem?_reverse (by simp; omega)]
  simp only [List.length_take, Nat.min_eq_left hk]
  rw [List.getElem?_take, if_pos (by omega)]
theorem turnL_get_hi {xs : List Int} {k i : Nat} (hk : k ≤ xs.length) (hi : k ≤ i) : (turnL xs k).getD i 0 = xs.getD i 0 := by
  unfold turnL
  rw [List.getD_eq_getElem?_getD, List.getD_eq_getElem?_getD, List.getElem?_append_right (by simp; omega)]
  simp only [List.length_reverse, List.length_take, Nat.min_eq_left hk, List.getElem?_drop]
  congr 2
  omega
theorem turnL_turnLU {xs : List Int} {k : Nat} (hk : k ≤ xs.length) : turnL (turnL xs k) k = xs := by
  refine List.ext_getElem (by rw [turnL_length, turnL_length]) fun i h1 h2 => ?_
  rw [← getD_eq h1, ← getD_eq h2]
  by_cases hi : i < k
  · rw [turnL_get_lo (by rw [turnL_length]; exact hk) hi, turnL_get_lo hk (by omega)]
    congr 1; omega
  · rw [turnL_get_hi (by rw [turnL_length]; exact hk) (by omega), turnL_get_hi hk (by omega)]

theorem Good.at {xs : List Int} (h : Good xs) {i : Nat} (hi : i < xs.length) : 1 ≤ xs.getD i 0 ∧ xs.getD i 0 ≤ xs.length := by
  rw [getD_eq hi]; exact h.2.2.1 _ (List.getElem_mem hi)
theorem Good.apart {xs : List Int} (h : Good xs) {i j : Nat} (hij : i < j) (hj : j < xs.length) : xs.getD i 0 ≠ xs.getD j 0 := by
  rw [getD_eq (by omega), getD_eq hj]
  exact (List.pairwise_iff_getElem.1 h.2.2.2) i j (by omega) hj hij

theorem first_most (h : Nat → Int) : ∀ t, 0 < t → ∃ k, k < t ∧ (∀ i, i < t → h i ≤ h k) ∧ ∀ i, i < k → h i < h k := by
  intro t
  induction t with
  | zero => intro h; omega
  | succ t ih =>
    intro _
    by_cases ht : t = 0
    · subst ht
      exact ⟨0, by omega, fun i hi => by rw [show i = 0 by omega]; exact Int.le_refl _, fun i hi => by omega⟩
    · obtain ⟨k, hk, h1, h2⟩ := ih (by omega)
      by_cases hh : h k < h t
      · exact ⟨t, by omega, fun i hi => by
          by_cases e : i = t
          · subst e; exact Int.le_refl _
          · have := h1 i (by omega); omega, fun i hi => by have := h1 i hi; omega⟩
      · exact ⟨k, by omega, fun i hi => by
          by_cases e : i = t
          · subst e; omega
          · exact h1 i (by omega), h2⟩

def fibG : Nat → Nat
  | 0 => 0
  | 1 => 1
  | m + 2 => fibG (m + 1) + fibG m + 1
theorem fibG_le (m : Nat) : fibG m ≤ fibG (m + 1) := by
  induction m with
  | zero => decide
  | succ m ih => show fibG (m + 1) ≤ fibG (m + 1) + fibG m + 1; omega
theorem fibG_lt (m : Nat) : fibG m + 1 ≤ fibG (m + 1) := by
  match m with
  | 0 => decide
  | m + 1 => show fibG (m + 1) + 1 ≤ fibG (m + 1) + fibG m + 1; omega

theorem erase_short {S : List Int} {x : Int} (h : x ∈ S) : (S.filter fun y => decide (y ≠ x)).length < S.length := by
  induction S with
  | nil => cases h
  | cons a t ih =>
    by_cases e : a = x
    · subst e
      rw [List.filter_cons_of_neg (by simp)]
      have := List.length_filter_le (fun y => decide (y ≠ a)) t
      simp only [List.length_cons]; omega
    · rw [List.filter_cons_of_pos (by simpa using e)]
      have := ih (by rcases List.mem_cons.1 h with h | h
                     · exact absurd h.symm e
                     · exact h)
      simp only [List.length_cons]; omega

/-- A game whose tops lie in a list S has at most fibG |S| turns. -/
theorem game_bound : ∀ (m : Nat) (S : List Int) (xs : List Int) (t : Nat), Good xs → S.length ≤ m →
    (∀ i, i < t → (topN i xs).getD 0 0 ∈ S) → (∀ i, i < t → 2 ≤ (topN i xs).getD 0 0) → t ≤ fibG m := by
  intro m
  induction m using Nat.strongRecOn with
  | ind m ih =>
    intro S xs t hg hS hin h2
    by_cases ht : t = 0
    · omega
    obtain ⟨k, hk, hmax, hlt⟩ := first_most (fun i => (topN i xs).getD 0 0) t (by omega)

    have hG := topN_good hg
    have hl := topN_length xs
    have hpos : 0 < xs.length := hg.1
    obtain ⟨d, hd⟩ : ∃ d : Nat, (topN k xs).getD 0 0 = (d : Int) := ⟨((topN k xs).getD 0 0).toNat, by have := h2 k hk; omega⟩
    have hd2 : 2 ≤ d := by have := h2 k hk; omega
    have hdn : d ≤ xs.length := by have := ((hG k).at (i := 0) (by rw [hl]; exact hpos)).2; rw [hl] at this; omega
    have hstep : ∀ i, (topN (i + 1) xs) = turnL (topN i xs) ((topN i xs).getD 0 0).toNat := fun i => rfl
    have hSk : (topN k xs).getD 0 0 ∈ S := hin k hk
    cases m with
    | zero =>
      have : S = [] := List.eq_nil_of_length_eq_zero (by omega)
      rw [this] at hSk; cases hSk
    | succ m =>
    -- behind turn k the size d lies at its own place
    have hplace : ∀ i, k < i → i ≤ t → (topN i xs).getD (d - 1) 0 = (d : Int) := by
      intro i hi
      induction i with
      | zero => omega
      | succ i ihi =>
        intro hit
        by_cases e : i = k
        · subst e
          rw [hstep, hd, Int.toNat_natCast, turnL_get_lo (by rw [hl]; exact hdn) (by omega), show d - 1 - (d - 1) = 0 by omega]
          exact hd
        · have hp := ihi (by omega) (by omega)
          have hm := hmax i (by omega)
          rw [hd] at hm
          have hne := (hG i).apart (i := 0) (j := d - 1) (by omega) (by rw [hl]; omega)
          rw [hp] at hne
          have h2i := h2 i (by omega)
          rw [hstep, turnL_get_hi (by rw [hl]; omega) (by omega)]
          exact hp
    have hafter : ∀ i, k < i → i < t → (topN i xs).getD 0 0 ≠ (d : Int) := by
      intro i hi hit
      have hne := (hG i).apart (i := 0) (j := d - 1) (by omega) (by rw [hl]; omega)
      rw [hplace i hi (by omega)] at hne
      exact hne
    have hS1 : (S.filter fun y => decide (y ≠ (d : Int))).length ≤ m := by
      have := erase_short (x := (d : Int)) (S := S) (by rw [← hd]; exact hSk)
      omega
    have hlate : t - 1 - k ≤ fibG m := by
      refine ih m (by omega) (S.filter fun y => decide (y ≠ (d : Int))) (topN (k + 1) xs) (t - 1 - k) (hG _) hS1 ?_ ?_
      · intro i hi
        rw [← topN_add]
        rw [List.mem_filter]
        exact ⟨hin _ (by omega), by simpa using hafter (i + (k + 1)) (by omega) (by omega)⟩
      · intro i hi
        rw [← topN_add]
        exact h2 _ (by omega)
    by_cases hlast : t = k + 1
    · have hearly : k ≤ fibG m := by
        refine ih m (by omega) (S.filter fun y => decide (y ≠ (d : Int))) xs k hg hS1 ?_ fun i hi => h2 i (by omega)
        intro i hi
        rw [List.mem_filter]
        refine ⟨hin i (by omega), ?_⟩
        have := hlt i hi
        rw [hd] at this
        rw [decide_eq_true_iff]; omega
      have := fibG_lt m
      omega
    · -- the size that comes to the top behind turn k has lain still before
      have hr0 : (topN (k + 1) xs).getD 0 0 = (topN k xs).getD (d - 1) 0 := by
        rw [hstep, hd, Int.toNat_natCast, turnL_get_lo (by rw [hl]; exact hdn) (by omega)]
        rfl
      have hstill : ∀ i, i ≤ k → (topN i xs).getD (d - 1) 0 = (topN k xs).getD (d - 1) 0 := by
        have : ∀ j, j ≤ k → (topN (k - j) xs).getD (d - 1) 0 = (topN k xs).getD (d - 1) 0 := by
          intro j
          induction j with
          | zero => intro _; rfl
          | succ j ihj =>
            intro hj
            rw [← ihj (by omega), show k - j = (k - (j + 1)) + 1 by omega, hstep]
            have h3 := hlt (k - (j + 1)) (by omega)
            rw [hd] at h3
            have h4 := h2 (k - (j + 1)) (by omega)
            rw [turnL_get_hi (by rw [hl]; omega) (by omega)]
        intro i hi
        have := this (k - i) (by omega)
        rwa [show k - (k - i) = i by omega] at this
      obtain ⟨r, hr⟩ : ∃ r, (topN (k + 1) xs).getD 0 0 = r := ⟨_, rfl⟩
      have hrd : r ≠ (d : Int) := by rw [← hr]; exact hafter (k + 1) (by omega) (by omega)
      have hrS : r ∈ S := by rw [← hr]; exact hin (k + 1) (by omega)
      have hrS1 : r ∈ (S.filter fun y => decide (y ≠ (d : Int))) := by rw [List.mem_filter]; exact ⟨hrS, by simpa using hrd⟩
      have hsh := erase_short hrS1
      cases m with
      | zero => exfalso; omega
      | succ m =>
        have hearly : k ≤ fibG m := by
          refine ih m (by omega) ((S.filter fun y => decide (y ≠ (d : Int))).filter fun y => decide (y ≠ r)) xs k hg (by omega) ?_ fun i hi => h2 i (by omega)
          intro i hi
          rw [List.mem_filter, List.mem_filter]
          refine ⟨⟨hin i (by omega), ?_⟩, ?_⟩
          · have := hlt i hi
            rw [hd] at this
            rw [decide_eq_true_iff]; omega
          · have hne := (hG i).apart (i := 0) (j := d - 1) (by omega) (by rw [hl]; omega)
            rw [hstill i (by omega), ← hr0, hr] at hne
            simpa using hne
        show t ≤ fibG (m + 1) + fibG m + 1
        omega

/-- Each game of the top ends within 54 turns. -/
theorem game_ends {xs : List Int} (hg : Good xs) {t : Nat} (h : ∀ i, i < t → (topN i xs).getD 0 0 ≠ 1) : t ≤ 54 := by
  have hb : ∀ i, 1 ≤ (topN i xs).getD 0 0 ∧ (topN i xs).getD 0 0 ≤ xs.length := fun i => by
    have := (topN_good hg i).at (i := 0) (by rw [topN_length]; exact hg.1)
    rwa [topN_length] at this
  have := game_bound 8 (ramp 2 8) xs t hg (by rw [ramp_length]; exact Nat.le_refl _) (fun i hi => mem_ramp.2 (by
    have h1 := hb i; have h2 := h i hi; have h3 := hg.2.1; omega)) (fun i hi => by have h1 := hb i; have h2 := h i hi; omega)
  exact this

end Go.Pan
