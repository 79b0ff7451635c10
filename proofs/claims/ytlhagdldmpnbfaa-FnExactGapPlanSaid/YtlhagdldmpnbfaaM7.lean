import Derived.Test.YtlhagdldmpnbfaaM6
namespace Go.Pan

-- plans by gaps
def stepL (ys : List Int) : List Int := if turnsL ys = [] then (greedyL ys).take 2 else (turnsL ys).take 1
theorem turnsTo_bd (xs : List Int) (k : Nat) : ∀ j ∈ turnsTo xs k, 1 ≤ j ∧ j ≤ (k : Int) := by
  induction k with
  | zero => simp [turnsTo]
  | succ k ih =>
    intro j hj
    unfold turnsTo at hj
    split at hj
    · rcases List.mem_append.1 hj with hj | hj
      · have := ih j hj; omega
      · simp at hj; omega
    · have := ih j hj; omega
theorem stepL_bd {ys : List Int} (h : Good ys) : ∀ j ∈ stepL ys, 1 ≤ j ∧ j ≤ (ys.length : Int) := by
  intro j hj
  unfold stepL at hj
  split at hj
  · exact greedyFrom_bd _ ys h (Nat.le_refl _) j (List.mem_of_mem_take hj)
  · exact turnsTo_bd ys _ j (List.mem_of_mem_take hj)
theorem stepL_length (ys : List Int) : (stepL ys).length ≤ 2 := by
  unfold stepL
  split
  · rw [List.length_take]; omega
  · rw [List.length_take]; omega

theorem bring_nil {ys : List Int} (h : Good ys) {m : Nat} (h1 : 2 ≤ m) (h2 : m ≤ ys.length) (e : bringL ys (m : Int) (m : Int) = []) : ys.getD (m - 1) 0 = m := by
  have hm := mem_of_good h (show (1 : Int) ≤ (m : Int) by omega) (by omega)
  have hp : placeL ys m = m := by
    unfold bringL at e
    by_cases hp : placeL ys m = m
    · exact hp
    · rw [if_neg hp] at e
      have : (m : Int) ∈ noOne [placeL ys m, (m : Int)] := by
        simp only [noOne, List.mem_filter, List.mem_cons, List.not_mem_nil, or_false, or_true, true_and, decide_eq_true_eq]
        omega
      rw [e] at this
      simp at this
  rw [placeL_of_mem hm] at hp
  have hi := List.idxOf_lt_length_of_mem hm
  have hg := List.getElem_idxOf hi
  have e2 : ys.idxOf (m : Int) = m - 1 := by omega
  rw [getD_eq (by omega)]
  simp only [e2] at hg
  exact hg
theorem greedy_nil_at : ∀ (m : Nat) {ys : List Int}, Good ys → m ≤ ys.length → greedyFrom m ys = [] → ∀ i, 1 ≤ i → i < m → ys.getD i 0 = (i : Int) + 1 := by
  intro m
  induction m with
  | zero => intro ys _ _ _ i _ hi; omega
  | succ m ih =>
    intro ys hg hm e i h1 h2
    rw [greedyFrom_step (by omega), Nat.add_sub_cancel] at e
    have e1 := (List.append_eq_nil_iff.1 e).1
    have e2 := (List.append_eq_nil_iff.1 e).2
    rw [e1] at e2
    by_cases hi : i = m
    · subst hi
      have := bring_nil hg (show 2 ≤ i + 1 by omega) hm e1
      rw [Nat.add_sub_cancel] at this
      omega
    · exact ih hg (by omega) e2 i h1 (by omega)
theorem greedy_nil {ys : List Int} (h : Good ys) (e : greedyL ys = []) : ys = ramp 1 ys.length := by
  have hat := greedy_nil_at ys.length h (Nat.le_refl _) e
  have h0 : ys.getD 0 0 = 1 := by
    have hm := mem_of_good h (Int.le_refl 1) (by have := h.1; omega)
    obtain ⟨i, hi, hx⟩ := List.getElem_of_mem hm
    by_cases e0 : i = 0
    · subst e0; rw [getD_eq hi]; exact hx
    · have := hat i (by omega) hi
      rw [getD_eq hi, hx] at this
      omega
  apply List.ext_getElem (by rw [ramp_length])
  intro i h1 h2
  rw [ramp_get 1 _ i h1, ← getD_eq h1]
  by_cases e0 : i = 0
  · subst e0; rw [h0]; rfl
  · rw [hat i (by omega) h1]; omega
theorem stepL_ne {ys : List Int} (h : Good ys) (hs : ys ≠ ramp 1 ys.length) : stepL ys ≠ [] := by
  unfold stepL
  split
  · intro e
    have := List.take_eq_nil_iff.1 e
    simp at this
    exact hs (greedy_nil h this)
  · rename_i ht
    intro e
    have := List.take_eq_nil_iff.1 e
    simp at this
    exact ht this

/-- what comes of making steps till nothing is left: at most so many are tried -/
def gapFrom : Nat → List Int → List Int → Option (List Int)
  | 0, _, _ => none
  | f + 1, ys, out => if ys = ramp 1 ys.length then some out else if 40 < (out ++ stepL ys).length then none else gapFrom f (playL ys (stepL ys)) (out ++ stepL ys)
theorem gapFrom_mono : ∀ (f : Nat) (ys out : List Int), Good ys → 41 - out.length ≤ f → out.length ≤ 40 → ∀ f', 41 - out.length ≤ f' → gapFrom f ys out = gapFrom f' ys out := by
  intro f
  induction f with
  | zero => intro ys out _ h hl; omega
  | succ f ih =>
    intro ys out hg h hl f' h'
    match f', h' with
    | 0, h' => omega
    | f' + 1, h' =>
      unfold gapFrom
      by_cases hs : ys = ramp 1 ys.length
      · rw [if_pos hs, if_pos hs]
      · rw [if_neg hs, if_neg hs]
        by_cases h40 : 40 < (out ++ stepL ys).length
        · rw [if_pos h40, if_pos h40]
        · rw [if_neg h40, if_neg h40]
          have hne := List.length_pos_iff.2 (stepL_ne hg hs)
          have hla : (out ++ stepL ys).length = out.length + (stepL ys).length := List.length_append
          exact ih _ _ (playL_good hg _) (by omega) (by omega) f' (by omega)
def gapRes (ys out : List Int) : Option (List Int) := gapFrom (41 - out.length) ys out
theorem gapRes_done {ys out : List Int} (h : ys = ramp 1 ys.length) (hl : out.length ≤ 40) : gapRes ys out = some out := by
  unfold gapRes
  obtain ⟨f, hf⟩ : ∃ f, 41 - out.length = f + 1 := ⟨40 - out.length, by omega⟩
  rw [hf, gapFrom, if_pos h]
theorem gapRes_fail {ys out : List Int} (h : ys ≠ ramp 1 ys.length) (hl : out.length ≤ 40) (h40 : 40 < (out ++ stepL ys).length) : gapRes ys out = none := by
  unfold gapRes
  obtain ⟨f, hf⟩ : ∃ f, 41 - out.length = f + 1 := ⟨40 - out.length, by omega⟩
  rw [hf, gapFrom, if_neg h, if_pos h40]
theorem gapRes_step {ys out : List Int} (hg : Good ys) (h : ys ≠ ramp 1 ys.length) (h40 : (out ++ stepL ys).length ≤ 40) : gapRes ys out = gapRes (playL ys (stepL ys)) (out ++ stepL ys) := by
  have hla : (out ++ stepL ys).length = out.length + (stepL ys).length := List.length_append
  have hne := List.length_pos_iff.2 (stepL_ne hg h)
  unfold gapRes
  obtain ⟨f, hf⟩ : ∃ f, 41 - out.length = f + 1 := ⟨40 - out.length, by omega⟩
  rw [hf, gapFrom, if_neg h, if_neg (by omega)]
  exact gapFrom_mono _ _ _ (playL_good hg _) (by omega) (by omega) _ (by omega)
def okGapPlan (xs : List Int) : Bool := goodB xs && (gapRes xs []).isSome
def mGapPlan (xs : List Int) : List Int := if goodB xs = true then (gapRes xs []).getD [] else []
theorem gapFrom_length : ∀ (f : Nat) (ys out r : List Int), out.length ≤ 40 → gapFrom f ys out = some r → r.length ≤ 40 := by
  intro f
  induction f with
  | zero => intro ys out r _ h; simp [gapFrom] at h
  | succ f ih =>
    intro ys out r hl h
    unfold gapFrom at h
    split at h
    · simp at h; subst h; exact hl
    · split at h
      · simp at h
      · exact ih _ _ r (by omega) h
theorem len_mGapPlan (xs : List Int) : (mGapPlan xs).length ≤ 1048576 := by
  unfold mGapPlan
  split
  · cases h : gapRes xs [] with
    | none => simp
    | some r => have := gapFrom_length _ _ _ r (by simp) h; simp; omega
  · simp

end Go.Pan

