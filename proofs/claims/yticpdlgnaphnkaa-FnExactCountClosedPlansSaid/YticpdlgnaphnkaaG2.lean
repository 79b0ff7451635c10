import Derived.Test.YticpdlgnaphnkaaG1
namespace Go.Pan

theorem subset_of_le {l m : List Int} (hl : l.Nodup) (hs : ∀ x ∈ l, x ∈ m) (h : m.length ≤ l.length) : ∀ x ∈ m, x ∈ l := by
  intro x hx
  by_cases hxl : x ∈ l
  · exact hxl
  · have := length_le_of_nodup_subset (x :: l) m (List.nodup_cons.2 ⟨hxl, hl⟩) (fun y hy => by
      rcases List.mem_cons.1 hy with rfl | hy
      · exact hx
      · exact hs y hy)
    simp at this
    omega
theorem countP_same {l m : List Int} (p : Int → Bool) (hl : l.Nodup) (hm : m.Nodup) (h : ∀ x, p x = true → (x ∈ l ↔ x ∈ m)) : l.countP p = m.countP p := by
  rw [List.countP_eq_length_filter, List.countP_eq_length_filter]
  have h1 := length_le_of_nodup_subset (l.filter p) (m.filter p) (hl.filter _) (fun x hx => by
    obtain ⟨h1, h2⟩ := List.mem_filter.1 hx
    exact List.mem_filter.2 ⟨(h x h2).1 h1, h2⟩)
  have h2 := length_le_of_nodup_subset (m.filter p) (l.filter p) (hm.filter _) (fun x hx => by
    obtain ⟨h1, h2⟩ := List.mem_filter.1 hx
    exact List.mem_filter.2 ⟨(h x h2).2 h1, h2⟩)
  omega

def fact : Nat → Nat
  | 0 => 1
  | n + 1 => (n + 1) * fact n
theorem fact_pos (n : Nat) : 0 < fact n := by
  induction n with
  | zero => decide
  | succ n ih => exact Nat.mul_pos (Nat.succ_pos n) ih
theorem fact_mono {a b : Nat} (h : a ≤ b) : fact a ≤ fact b := by
  induction h with
  | refl => exact Nat.le_refl _
  | step _ ih => exact Nat.le_trans ih (Nat.le_mul_of_pos_left _ (Nat.succ_pos _))

/-- the sizes of 1 .. n that are not in bs, rising -/
def freeL (n : Nat) (bs : List Int) : List Int := (ramp 1 n).filter fun x => !(decide (x ∈ bs))
theorem mem_freeL {n : Nat} {bs : List Int} {x : Int} : x ∈ freeL n bs ↔ (1 ≤ x ∧ x ≤ n) ∧ x ∉ bs := by
  simp only [freeL, List.mem_filter, mem_ramp, Bool.not_eq_true', decide_eq_false_iff_not]
  constructor
  · rintro ⟨h1, h2⟩; exact ⟨by omega, h2⟩
  · rintro ⟨h1, h2⟩; exact ⟨by omega, h2⟩
theorem ramp_rising (k : Int) (n : Nat) : (ramp k n).Pairwise (· < ·) := by
  unfold ramp
  refine List.pairwise_map.2 (List.Pairwise.imp (fun {a b} h => ?_) List.pairwise_lt_range)
  omega
theorem freeL_rising (n : Nat) (bs : List Int) : (freeL n bs).Pairwise (· < ·) := (ramp_rising 1 n).filter _
theorem freeL_nodup (n : Nat) (bs : List Int) : (freeL n bs).Nodup := (ramp_nodup 1 n).filter _
theorem freeL_nil (n : Nat) : freeL n [] = ramp 1 n := by simp [freeL]
theorem filter_ne_length {l : List Int} {x : Int} (hn : l.Nodup) (hx : x ∈ l) : (l.filter fun y => decide (y ≠ x)).length + 1 = l.length := by
  induction l with
  | nil => cases hx
  | cons a l ih =>
    obtain ⟨h1, h2⟩ := List.nodup_cons.1 hn
    by_cases e : a = x
    · subst e
      have : l.filter (fun y => decide (y ≠ a)) = l := List.filter_eq_self.2 fun y hy => by simp; rintro rfl; exact h1 hy
      rw [List.filter_cons, if_neg (by simp), this]
      rfl
    · rcases List.mem_cons.1 hx with rfl | hx
      · exact absurd rfl e
      · have := ih h2 hx
        simp [List.filter_cons, e] at this ⊢
        omega
theorem freeL_snoc (n : Nat) (bs : List Int) (x : Int) : freeL n (bs ++ [x]) = (freeL n bs).filter fun y => decide (y ≠ x) := by
  unfold freeL
  rw [List.filter_filter]
  refine List.filter_congr fun y _ => ?_
  by_cases h1 : y ∈ bs <;> by_cases h2 : y = x <;> simp [h1, h2]
theorem freeL_snoc_length {n : Nat} {bs : List Int} {x : Int} (hx : x ∈ freeL n bs) : (freeL n (bs ++ [x])).length + 1 = (freeL n bs).length := by
  rw [freeL_snoc]
  exact filter_ne_length (freeL_nodup n bs) hx

/-- all stacks of n that begin with bs, f the places left, in order -/
def permsL (n : Nat) : Nat → List Int → List (List Int)
  | 0, bs => [bs]
  | f + 1, bs => (freeL n bs).flatMap fun x => permsL n f (bs ++ [x])
theorem flat_length {α : Type} (l : List Int) (g : Int → List α) (m : Nat) (h : ∀ x ∈ l, (g x).length = m) : (l.flatMap g).length = l.length * m := by
  induction l with
  | nil => simp
  | cons a l ih =>
    rw [List.flatMap_cons, List.length_append, h a (List.mem_cons_self ..), ih (fun x hx => h x (List.mem_cons_of_mem _ hx)), List.length_cons, Nat.succ_mul]
    omega
theorem flat_get {α : Type} (l : List Int) (g : Int → List α) (m : Nat) (h : ∀ x ∈ l, (g x).length = m) (i j : Nat) (hi : i < l.length) (hj : j < m) : (l.flatMap g)[i * m + j]? = (g l[i])[j]? := by
  induction l generalizing i with
  | nil => simp at hi
  | cons a l ih =>
    have ha := h a (List.mem_cons_self ..)
    rw [List.flatMap_cons]
    cases i with
    | zero => rw [List.getElem?_append_left (by omega)]; simp
    | succ i =>
      rw [List.getElem?_append_right (by rw [ha, Nat.succ_mul]; omega), ha]
      have e : (i + 1) * m + j - m = i * m + j := by rw [Nat.succ_mul]; omega
      rw [e, ih (fun x hx => h x (List.mem_cons_of_mem _ hx)) i (by simpa using hi)]
      simp
theorem permsL_length (n f : Nat) (bs : List Int) (h : (freeL n bs).length = f) : (permsL n f bs).length = fact f := by
  induction f generalizing bs with
  | zero => rfl
  | succ f ih =>
    rw [permsL, flat_length _ _ (fact f) (fun x hx => ih _ (by have := freeL_snoc_length hx; omega)), h]
    rfl
theorem permsL_mem {n f : Nat} {bs t : List Int} (h : t ∈ permsL n f bs) : ∃ s, t = bs ++ s ∧ s.length = f ∧ (∀ x ∈ s, x ∈ freeL n bs) ∧ s.Nodup := by
  induction f generalizing bs with
  | zero =>
    simp only [permsL, List.mem_singleton] at h
    exact ⟨[], by simp [h], rfl, by simp, List.nodup_nil⟩
  | succ f ih =>
    simp only [permsL, List.mem_flatMap] at h
    obtain ⟨x, hx, h⟩ := h
    obtain ⟨s, rfl, h1, h2, h3⟩ := ih h
    have h2' : ∀ y ∈ s, y ∈ freeL n bs ∧ y ≠ x := fun y hy => by
      have := h2 y hy
      rw [freeL_snoc, List.mem_filter] at this
      exact ⟨this.1, by simpa using this.2⟩
    refine ⟨x :: s, by simp, by simp [h1], fun y hy => ?_, List.nodup_cons.2 ⟨fun hx' => (h2' x hx').2 rfl, h3⟩⟩
    rcases List.mem_cons.1 hy with rfl | hy
    · exact hx
    · exact (h2' y hy).1
theorem permsL_all {n f : Nat} {bs s : List Int} (hl : s.length = f) (hs : ∀ x ∈ s, x ∈ freeL n bs) (hn : s.Nodup) : bs ++ s ∈ permsL n f bs := by
  induction f generalizing bs s with
  | zero =>
    obtain rfl := List.eq_nil_of_length_eq_zero hl
    simp [permsL]
  | succ f ih =>
    cases s with
    | nil => simp at hl
    | cons x s =>
      obtain ⟨h1, h2⟩ := List.nodup_cons.1 hn
      simp only [permsL, List.mem_flatMap]
      refine ⟨x, hs x (List.mem_cons_self ..), ?_⟩
      have := ih (bs := bs ++ [x]) (s := s) (by simpa using hl) (fun y hy => by
        rw [freeL_snoc, List.mem_filter]
        exact ⟨hs y (List.mem_cons_of_mem _ hy), by simp; rintro rfl; exact h1 hy⟩) h2
      simpa using this

/-- the rank of a list of different numbers among all with the same ones -/
def rankL : List Int → Nat
  | [] => 0
  | x :: r => r.countP (fun y => decide (y < x)) * fact r.length + rankL r
theorem rankL_lt (s : List Int) : rankL s < fact s.length := by
  induction s with
  | nil => decide
  | cons x r ih =>
    have h1 : r.countP (fun y => decide (y < x)) ≤ r.length := List.countP_le_length
    have h2 := Nat.mul_le_mul_right (fact r.length) h1
    simp only [rankL, List.length_cons, fact, Nat.succ_mul]
    omega
theorem rising_count {l : List Int} (h : l.Pairwise (· < ·)) (a : Nat) (ha : a < l.length) : l.countP (fun y => decide (y < l[a])) = a := by
  induction l generalizing a with
  | nil => simp at ha
  | cons x l ih =>
    obtain ⟨h1, h2⟩ := List.pairwise_cons.1 h
    cases a with
    | zero =>
      have hz : l.countP (fun y => decide (y < x)) = 0 := List.countP_eq_zero.2 fun y hy => by have := h1 y hy; simp; omega
      rw [List.countP_cons]
      simp only [List.getElem_cons_zero]
      rw [hz]
      simp
    | succ a =>
      have ha' : a < l.length := by simpa using ha
      have hx := h1 _ (List.getElem_mem ha')
      rw [List.countP_cons]
      simp only [List.getElem_cons_succ]
      rw [ih h2 a ha']
      simp [hx]
theorem permsL_rank {n f : Nat} {bs t : List Int} {i : Nat} (hf : (freeL n bs).length = f) (h : (permsL n f bs)[i]? = some t) : rankL (t.drop bs.length) = i := by
  induction f generalizing bs i with
  | zero =>
    simp only [permsL] at h
    have hi : i < 1 := (List.getElem?_eq_some_iff.1 h).1
    obtain rfl : i = 0 := by omega
    simp at h
    subst h
    simp [rankL]
  | succ f ih =>
    have hlen : ∀ x ∈ freeL n bs, (permsL n f (bs ++ [x])).length = fact f := fun x hx => permsL_length _ _ _ (by have := freeL_snoc_length hx; omega)
    have hi := (List.getElem?_eq_some_iff.1 h).1
    simp only [permsL] at hi h
    rw [flat_length _ _ _ hlen, hf] at hi
    have hp := fact_pos f
    have hj : i % fact f < fact f := Nat.mod_lt _ hp
    have ha : i / fact f < f + 1 := (Nat.div_lt_iff_lt_mul hp).2 hi
    have hd : i / fact f * fact f + i % fact f = i := by rw [Nat.mul_comm]; exact Nat.div_add_mod i (fact f)
    have e := flat_get (freeL n bs) (fun x => permsL n f (bs ++ [x])) (fact f) hlen (i / fact f) (i % fact f) (by omega) hj
    rw [hd, h] at e
    generalize hx : (freeL n bs)[i / fact f]'(by omega) = x at e
    have hxm : x ∈ freeL n bs := by rw [← hx]; exact List.getElem_mem _
    have hfl : (freeL n (bs ++ [x])).length = f := by have := freeL_snoc_length hxm; omega
    have hr := ih hfl e.symm
    obtain ⟨s, rfl, h1, h2, h3⟩ := permsL_mem (List.mem_of_getElem? e.symm)
    have hdr : (bs ++ [x] ++ s).drop bs.length = x :: s := by simp
    have hdr2 : (bs ++ [x] ++ s).drop (bs ++ [x]).length = s := List.drop_left
    rw [hdr2] at hr
    rw [hdr]
    simp only [rankL]
    rw [hr, h1]
    have hc : s.countP (fun y => decide (y < x)) = i / fact f := by
      rw [countP_same (l := s) (m := freeL n bs) _ h3 (freeL_nodup n bs) (fun y hy => ?_), ← hx]
      · exact rising_count (freeL_rising n bs) _ _
      · constructor
        · intro hys
          have := h2 y hys
          rw [freeL_snoc, List.mem_filter] at this
          exact this.1
        · intro hyf
          refine subset_of_le h3 h2 (by omega) y ?_
          rw [freeL_snoc, List.mem_filter]
          refine ⟨hyf, ?_⟩
          simp at hy ⊢
          omega
    rw [hc]
    exact hd

/-- all stacks of n, in order -/
def allS (n : Nat) : List (List Int) := permsL n n []
theorem allS_length (n : Nat) : (allS n).length = fact n := permsL_length n n [] (by rw [freeL_nil, ramp_length])
theorem mem_allS {n : Nat} (h1 : 1 ≤ n) (h9 : n ≤ 9) {s : List Int} : s ∈ allS n ↔ St n s := by
  constructor
  · intro h
    obtain ⟨t, e, hl, hm, hn⟩ := permsL_mem h
    rw [List.nil_append] at e
    subst e
    refine ⟨⟨by omega, by omega, fun x hx => ?_, hn⟩, hl⟩
    have := mem_freeL.1 (hm x hx)
    omega
  · rintro ⟨hg, hl⟩
    have := permsL_all (n := n) (bs := []) hl (fun x hx => mem_freeL.2 ⟨by have := hg.2.2.1 x hx; omega, by simp⟩) hg.2.2.2
    exact this
theorem allS_rank {n i : Nat} {s : List Int} (h : (allS n)[i]? = some s) : rankL s = i := by
  have := permsL_rank (bs := []) (by rw [freeL_nil, ramp_length]) h
  simpa using this
theorem allS_at {n : Nat} (h1 : 1 ≤ n) (h9 : n ≤ 9) {s : List Int} (h : St n s) : (allS n)[rankL s]? = some s := by
  obtain ⟨i, hi, e⟩ := List.getElem_of_mem ((mem_allS h1 h9).2 h)
  have e' : (allS n)[i]? = some s := by rw [List.getElem?_eq_getElem hi, e]
  rw [allS_rank e']
  exact e'
theorem rankL_inj {n : Nat} (h1 : 1 ≤ n) (h9 : n ≤ 9) {s t : List Int} (hs : St n s) (ht : St n t) (h : rankL s = rankL t) : s = t := by
  have e1 := allS_at h1 h9 hs
  have e2 := allS_at h1 h9 ht
  rw [h] at e1
  exact Option.some.inj (e1.symm.trans e2)
theorem allS_nodup (n : Nat) : (allS n).Nodup := by
  refine List.pairwise_iff_getElem.2 fun i j hi hj hij e => ?_
  have e1 := allS_rank (n := n) (List.getElem?_eq_getElem hi)
  have e2 := allS_rank (n := n) (List.getElem?_eq_getElem hj)
  rw [e] at e1
  omega
theorem rank_lt {n : Nat} {s : List Int} (h : St n s) : rankL s < fact n := by
  have := rankL_lt s
  rwa [h.2] at this
/-- the stack with a rank -/
def unrank (n r : Nat) : List Int := (allS n).getD r []
theorem unrank_rank {n : Nat} (h1 : 1 ≤ n) (h9 : n ≤ 9) {s : List Int} (h : St n s) : unrank n (rankL s) = s := by
  unfold unrank
  rw [List.getD_eq_getElem?_getD, allS_at h1 h9 h]
  rfl
theorem unrank_get {n r : Nat} (h : r < fact n) : (allS n)[r]? = some (unrank n r) := by
  unfold unrank
  rw [List.getD_eq_getElem?_getD, List.getElem?_eq_getElem (by rw [allS_length]; exact h)]
  rfl
theorem rank_unrank {n r : Nat} (h : r < fact n) : rankL (unrank n r) = r := allS_rank (unrank_get h)
theorem unrank_st {n r : Nat} (h1 : 1 ≤ n) (h9 : n ≤ 9) (h : r < fact n) : St n (unrank n r) := (mem_allS h1 h9).1 (List.mem_of_getElem? (unrank_get h))
theorem rankL_ramp (n : Nat) (k : Int) : rankL (ramp k n) = 0 := by
  have key : ∀ l : List Int, l.Pairwise (· < ·) → rankL l = 0 := by
    intro l
    induction l with
    | nil => intro _; rfl
    | cons x l ih =>
      intro h
      obtain ⟨h1, h2⟩ := List.pairwise_cons.1 h
      have hz : l.countP (fun y => decide (y < x)) = 0 := List.countP_eq_zero.2 fun y hy => by have := h1 y hy; simp; omega
      simp only [rankL, hz, ih h2]
      omega
  exact key _ (ramp_rising k n)
end Go.Pan
