import Derived.Test.YtfcbaegkppkfkaaRwM
namespace Go.Pan
open Go Go.RowKit
/-- rows whose sizes rise, all of them different and greater than 0 -/
structure Rz (R : List (List Int)) : Prop where
  up : ∀ r ∈ R, r.Pairwise (· < ·)
  nd : R.flatten.Nodup
  pos : ∀ x ∈ R.flatten, 0 < x
structure Hx (R : List (List Int)) (x : Int) : Prop where
  z : Rz R
  no : x ∉ R.flatten
  p : 0 < x
theorem hitP_lt {r : List Int} {x : Int} : ∀ i (hi : i < r.length), i < hitP r x → r[i] < x := by
  induction r with
  | nil => intro i hi; simp at hi
  | cons y l ih =>
    intro i hi h
    unfold hitP at h
    rw [List.takeWhile_cons] at h
    split at h
    · rename_i hy
      cases i with
      | zero => simpa using hy
      | succ i =>
        have := ih i (by simpa using hi) (by unfold hitP; simpa using h)
        simpa using this
    · simp at h
theorem hitP_ge {r : List Int} {x : Int} : ∀ (h : hitP r x < r.length), ¬ r[hitP r x] < x := by
  induction r with
  | nil => intro h; simp at h
  | cons y l ih =>
    intro h
    by_cases hy : y < x
    · have e : hitP (y :: l) x = hitP l x + 1 := by unfold hitP; rw [List.takeWhile_cons, if_pos (decide_eq_true hy)]; rfl
      have h' : hitP l x < l.length := by rw [e] at h; simpa using h
      have := ih h'
      simp only [e, List.getElem_cons_succ]
      exact this
    · have e : hitP (y :: l) x = 0 := by unfold hitP; rw [List.takeWhile_cons, if_neg (by simpa using hy)]; rfl
      simp only [e, List.getElem_cons_zero]
      exact hy
theorem topP_at {r : List Int} (h : 0 < r.length) : topP r = r[r.length - 1] := by unfold topP; rw [List.getD_eq_getElem?_getD, List.getElem?_eq_getElem (by omega)]; rfl
theorem hitP_in {r : List Int} {x : Int} (h0 : 0 < r.length) (ht : x < topP r) : hitP r x < r.length := by
  rcases Nat.lt_or_ge (hitP r x) r.length with h | h
  · exact h
  · have := hitP_lt (r := r) (x := x) (r.length - 1) (by omega) (by omega)
    rw [topP_at h0] at ht
    omega
theorem hitP_out {r : List Int} {x : Int} (hr : r.Pairwise (· < ·)) (hn : x ∉ r) (ht : 0 < r.length → ¬ x < topP r) : ¬ hitP r x < r.length := by
  intro h
  have h1 := hitP_ge h
  have h0 : 0 < r.length := by omega
  have h2 := ht h0
  rw [topP_at h0] at h2
  have h3 : r[hitP r x] ≠ x := fun e => hn (by rw [← e]; exact List.getElem_mem h)
  rcases Nat.lt_or_ge (hitP r x) (r.length - 1) with h4 | h4
  · have := (List.pairwise_iff_getElem.1 hr) _ _ h (by omega) h4
    omega
  · have e : hitP r x = r.length - 1 := by omega
    simp only [e] at h1 h3
    omega
theorem set_perm {r : List Int} {k : Nat} {x : Int} (h : k < r.length) (A : List Int) : (r.set k x ++ (r[k] :: A)).Perm (x :: (r ++ A)) := by
  have e : r = r.take k ++ r[k] :: r.drop (k + 1) := by rw [List.getElem_cons_drop, List.take_append_drop]
  have e2 : r.set k x = r.take k ++ x :: r.drop (k + 1) := by rw [List.set_eq_take_append_cons_drop, if_pos h]
  rw [e2]
  conv => rhs; rw [e]
  rw [List.perm_iff_count]
  intro a
  simp only [List.append_assoc, List.cons_append, List.count_append, List.count_cons]
  omega
theorem insR_perm (R : List (List Int)) (x : Int) : (insR R x).1.flatten.Perm (x :: R.flatten) := by
  induction R generalizing x with
  | nil => simp [insR]
  | cons r R ih =>
    by_cases h : hitP r x < r.length
    · simp only [insR, if_pos h, List.flatten_cons]
      have e : r.getD (hitP r x) 0 = r[hitP r x] := by simp [h]
      rw [e]
      exact ((ih (r[hitP r x])).append_left (r.set (hitP r x) x)).trans (set_perm h R.flatten)
    · simp only [insR, if_neg h, List.flatten_cons]
      rw [List.perm_iff_count]
      intro a
      simp only [List.count_append, List.count_cons, List.count_nil]
      omega
theorem Hx.row {R : List (List Int)} {r : List Int} {x : Int} (h : Hx (r :: R) x) : r.Pairwise (· < ·) ∧ x ∉ r ∧ Rz R ∧ x ∉ R.flatten := by
  have hn := h.no
  have hd := h.z.nd
  rw [List.flatten_cons] at hn hd
  rw [List.nodup_append] at hd
  exact ⟨h.z.up r (by simp), fun e => hn (List.mem_append_left _ e), ⟨fun q hq => h.z.up q (List.mem_cons_of_mem _ hq), hd.2.1, fun y hy => h.z.pos y (by rw [List.flatten_cons]; exact List.mem_append_right _ hy)⟩, fun e => hn (List.mem_append_right _ e)⟩
/-- the size that comes out of a row goes to the next ones -/
theorem Hx.step {R : List (List Int)} {r : List Int} {x : Int} (h : Hx (r :: R) x) {k : Nat} (hk : k < r.length) : Hx R (r[k]) := by
  have hd := h.z.nd
  rw [List.flatten_cons, List.nodup_append] at hd
  refine ⟨h.row.2.2.1, fun e => hd.2.2 _ (List.getElem_mem hk) _ e rfl, h.z.pos _ ?_⟩
  rw [List.flatten_cons]
  exact List.mem_append_left _ (List.getElem_mem hk)
theorem set_up {r : List Int} {x : Int} (hr : r.Pairwise (· < ·)) (hn : x ∉ r) (hk : hitP r x < r.length) : (r.set (hitP r x) x).Pairwise (· < ·) := by
  have hge := hitP_ge hk
  have hne : r[hitP r x] ≠ x := fun e => hn (by rw [← e]; exact List.getElem_mem hk)
  rw [List.pairwise_iff_getElem] at hr ⊢
  intro i j hi hj hij
  rw [List.length_set] at hi hj
  rw [List.getElem_set, List.getElem_set]
  split
  · rename_i e
    rw [if_neg (by omega)]
    have := hr (hitP r x) j hk hj (by omega)
    omega
  · split
    · rename_i e
      exact hitP_lt i hi (by omega)
    · exact hr i j hi hj hij
theorem insR_up (R : List (List Int)) (x : Int) (h : Hx R x) : ∀ r ∈ (insR R x).1, r.Pairwise (· < ·) := by
  induction R generalizing x with
  | nil => intro r hr; simp [insR] at hr; rw [hr]; simp
  | cons r R ih =>
    have hr0 := h.row
    by_cases hh : hitP r x < r.length
    · have e : r.getD (hitP r x) 0 = r[hitP r x] := by simp [hh]
      have := ih _ (h.step hh)
      simp only [insR, if_pos hh, e]
      intro q hq
      rcases List.mem_cons.1 hq with rfl | hq
      · exact set_up hr0.1 hr0.2.1 hh
      · exact this q hq
    · simp only [insR, if_neg hh]
      intro q hq
      rcases List.mem_cons.1 hq with rfl | hq
      · rw [List.pairwise_append]
        refine ⟨hr0.1, by simp, fun a ha b hb => ?_⟩
        simp at hb
        subst hb
        obtain ⟨i, hi, rfl⟩ := List.mem_iff_getElem.1 ha
        exact hitP_lt i hi (by have := hitP_le r b; omega)
      · exact h.z.up q (List.mem_cons_of_mem _ hq)
theorem Hx.ins {R : List (List Int)} {x : Int} (h : Hx R x) : Rz (insR R x).1 :=
  ⟨insR_up R x h, (insR_perm R x).nodup_iff.2 (List.nodup_cons.2 ⟨h.no, h.z.nd⟩), fun y hy => by
    rcases List.mem_cons.1 ((insR_perm R x).mem_iff.1 hy) with rfl | hy
    · exact h.p
    · exact h.z.pos y hy⟩
theorem tabTo_z {xs : List Int} (hg : Good xs) : ∀ k, k ≤ xs.length → Rz (tabTo xs k).1 ∧ (tabTo xs k).1.flatten.Perm (xs.take k)
  | 0, _ => ⟨⟨fun r hr => by simp [tabTo] at hr, by simp [tabTo], fun x hx => by simp [tabTo] at hx⟩, by simp [tabTo]⟩
  | k + 1, hk => by
    obtain ⟨h1, h2⟩ := tabTo_z hg k (by omega)
    have hlt : k < xs.length := by omega
    have e : xs.getD k 0 = xs[k] := by simp [hlt]
    have hx : Hx (tabTo xs k).1 (xs[k]) := ⟨h1, fun hm => by
      have hm := h2.mem_iff.1 hm
      have hnd := hg.2.2.2
      rw [← List.take_append_drop k xs, List.nodup_append] at hnd
      exact hnd.2.2 _ hm _ (by rw [List.drop_eq_getElem_cons hlt]; exact List.mem_cons_self) rfl, by have := hg.2.2.1 _ (List.getElem_mem hlt); omega⟩
    refine ⟨?_, ?_⟩
    · show Rz (insR (tabTo xs k).1 (xs.getD k 0)).1
      rw [e]
      exact hx.ins
    · show (insR (tabTo xs k).1 (xs.getD k 0)).1.flatten.Perm _
      rw [e, List.take_succ_eq_append_getElem hlt]
      exact (insR_perm _ _).trans ((h2.cons _).trans (List.perm_append_singleton _ _).symm)
theorem tabTo_x {xs : List Int} (hg : Good xs) {k : Nat} (hlt : k < xs.length) : Hx (tabTo xs k).1 (xs[k]) := by
  obtain ⟨h1, h2⟩ := tabTo_z hg k (by omega)
  exact ⟨h1, fun hm => by
      have hm := h2.mem_iff.1 hm
      have hnd := hg.2.2.2
      rw [← List.take_append_drop k xs, List.nodup_append] at hnd
      exact hnd.2.2 _ hm _ (by rw [List.drop_eq_getElem_cons hlt]; exact List.mem_cons_self) rfl, by have := hg.2.2.1 _ (List.getElem_mem hlt); omega⟩

end Go.Pan
