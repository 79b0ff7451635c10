import Derived.Test.YtocccocpacohaaaM3
namespace Go.Pan

-- plans made short
def shortTo (p : List Int) (k : Nat) : List Int := (p.take k).foldl shortStep []
theorem shortTo_step (p : List Int) (k : Nat) (h : k < p.length) : shortTo p (k + 1) = shortStep (shortTo p k) p[k] := by
  unfold shortTo
  rw [List.take_succ_eq_append_getElem h, List.foldl_append]
  rfl
theorem shortTo_length (p : List Int) (k : Nat) : (shortTo p k).length ≤ p.length := by
  unfold shortTo
  have := len_foldl_short (p.take k) []
  simp at this
  omega
theorem shortTo_all (p : List Int) : shortTo p p.length = shortL p := by unfold shortTo shortL; rw [List.take_length]

theorem step_one (out : List Int) : shortStep out 1 = out := by simp [shortStep]
theorem step_nil (k : Int) (h : k ≠ 1) : shortStep [] k = [k] := by simp [shortStep, h]
theorem step_pop (out : List Int) (k : Int) (m : Nat) (h : k ≠ 1) (hm : out.length = m + 1) (hl : out[m]'(by omega) = k) : shortStep out k = out.take m := by
  unfold shortStep
  have e : out.getLast? = some k := by
    rw [List.getLast?_eq_getElem?, hm, Nat.add_sub_cancel, List.getElem?_eq_getElem (by omega), hl]
  rw [if_neg h, if_pos e, List.dropLast_eq_take, hm, Nat.add_sub_cancel]
theorem step_push (out : List Int) (k : Int) (m : Nat) (h : k ≠ 1) (hm : out.length = m + 1) (hl : out[m]'(by omega) ≠ k) : shortStep out k = out ++ [k] := by
  unfold shortStep
  have e : out.getLast? ≠ some k := by
    rw [List.getLast?_eq_getElem?, hm, Nat.add_sub_cancel, List.getElem?_eq_getElem (by omega)]
    simpa using hl
  rw [if_neg h, if_neg e]

/-- no two numbers side by side are the same, from the first k on backwards -/
def NoTwinTo (l : List Int) (k : Nat) : Prop := ∀ i, i + 1 < k → l.getD i 0 ≠ l.getD (i + 1) 0
theorem foldl_noOne (p out : List Int) : (noOne p).foldl shortStep out = p.foldl shortStep out := by
  induction p generalizing out with
  | nil => rfl
  | cons k p ih =>
    by_cases h : k = 1
    · subst h
      have e : noOne (1 :: p) = noOne p := by simp [noOne]
      rw [e, ih, List.foldl_cons, step_one]
    · have e : noOne (k :: p) = k :: noOne p := by simp [noOne, h]
      rw [e, List.foldl_cons, List.foldl_cons, ih]

/-- what has been read so far has no twins -/
theorem noTwin_step (out : List Int) (k : Int) (h : NoTwinTo out out.length) : NoTwinTo (shortStep out k) (shortStep out k).length := by
  unfold shortStep
  split
  · exact h
  · split
    · intro i hi
      rw [List.length_dropLast] at hi
      have := h i (by omega)
      rw [List.dropLast_eq_take]
      simp only [List.getD_eq_getElem?_getD, List.getElem?_take] at this ⊢
      rw [if_pos (by omega), if_pos (by omega)]
      exact this
    · rename_i h1 h2
      intro i hi
      rw [List.length_append, List.length_singleton] at hi
      by_cases e : i + 1 < out.length
      · have := h i e
        simp only [List.getD_eq_getElem?_getD] at this ⊢
        rw [List.getElem?_append_left (by omega), List.getElem?_append_left e]
        exact this
      · have ei : i + 1 = out.length := by omega
        rw [List.getLast?_eq_getElem?] at h2
        simp only [List.getD_eq_getElem?_getD]
        rw [List.getElem?_append_left (by omega), List.getElem?_append_right (by omega), show i + 1 - out.length = 0 by omega]
        rw [show out.length - 1 = i by omega] at h2
        rw [List.getElem?_eq_getElem (by omega)] at h2 ⊢
        simpa using h2
theorem noTwin_foldl (p out : List Int) (h : NoTwinTo out out.length) : NoTwinTo (p.foldl shortStep out) (p.foldl shortStep out).length := by
  induction p generalizing out with
  | nil => exact h
  | cons k p ih => exact ih _ (noTwin_step out k h)
theorem step_twice (out : List Int) (k : Int) (h : NoTwinTo out out.length) : shortStep (shortStep out k) k = out := by
  by_cases h1 : k = 1
  · subst h1; rw [step_one, step_one]
  · by_cases h2 : out.getLast? = some k
    · have e : shortStep out k = out.dropLast := by unfold shortStep; rw [if_neg h1, if_pos h2]
      have hne : out ≠ [] := by rintro rfl; simp at h2
      have hl : out.getLast hne = k := by rw [List.getLast?_eq_some_getLast hne] at h2; simpa using h2
      have e3 : out.dropLast.getLast? ≠ some k := by
        intro h3
        rw [List.getLast?_eq_getElem?, List.length_dropLast, List.dropLast_eq_take, List.getElem?_take] at h3
        split at h3
        · rename_i hlt
          have := h (out.length - 1 - 1) (by omega)
          rw [List.getLast?_eq_getElem?] at h2
          simp only [List.getD_eq_getElem?_getD] at this
          rw [show out.length - 1 - 1 + 1 = out.length - 1 by omega, h2, h3] at this
          exact this rfl
        · simp at h3
      rw [e]
      unfold shortStep
      rw [if_neg h1, if_neg e3, ← hl]
      exact List.dropLast_concat_getLast hne
    · have e : shortStep out k = out ++ [k] := by unfold shortStep; rw [if_neg h1, if_neg h2]
      rw [e]
      unfold shortStep
      rw [if_neg h1, if_pos (by simp)]
      simp

/-- two equal turns side by side struck: the same comes of it -/
theorem short_strike (l : List Int) (i : Nat) (h : i + 1 < l.length) (e : l[i] = l[i + 1]) : (l.take i ++ l.drop (i + 2)).foldl shortStep [] = l.foldl shortStep [] := by
  have hs : l = l.take i ++ l[i] :: l[i] :: l.drop (i + 2) := by
    conv => lhs; rw [← List.take_append_drop i l]
    congr 1
    rw [List.drop_eq_getElem_cons (by omega : i < l.length), List.drop_eq_getElem_cons h, ← e]
  conv => rhs; rw [hs]
  rw [List.foldl_append, List.foldl_append, List.foldl_cons, List.foldl_cons, step_twice]
  exact noTwin_foldl _ _ (fun i hi => by simp at hi)

/-- a list without ones and without twins stays as it is -/
theorem short_id (l : List Int) (h1 : ∀ k ∈ l, k ≠ 1) (h : NoTwinTo l l.length) : l.foldl shortStep [] = l := by
  have key : ∀ k, k ≤ l.length → (l.take k).foldl shortStep [] = l.take k := by
    intro k
    induction k with
    | zero => intro _; simp
    | succ k ih =>
      intro hk
      rw [List.take_succ_eq_append_getElem (by omega), List.foldl_append, ih (by omega)]
      show shortStep (l.take k) l[k] = _
      unfold shortStep
      rw [if_neg (h1 _ (List.getElem_mem _)), if_neg]
      rw [List.getLast?_eq_getElem?, List.length_take, Nat.min_eq_left (by omega), List.getElem?_take]
      split
      · rename_i hlt
        have := h (k - 1) (by omega)
        rw [show k - 1 + 1 = k by omega, getD_eq (by omega), getD_eq (by omega)] at this
        rw [List.getElem?_eq_getElem (by omega)]
        simpa using this
      · simp
  have := key l.length (Nat.le_refl _)
  rwa [List.take_length] at this
theorem noOne_ne (p : List Int) : ∀ k ∈ noOne p, k ≠ 1 := by
  intro k hk
  simp only [noOne, List.mem_filter, decide_eq_true_eq] at hk
  exact hk.2
theorem short_noOne (p : List Int) : (noOne p).foldl shortStep [] = shortL p := foldl_noOne p []

end Go.Pan
