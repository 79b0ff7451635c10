import Derived.Test.YticpdlgnaphnkaaM3
namespace Go.Pan

/-- the turns that change a stack of n -/
def ks (n : Nat) : List Nat := (List.range (n - 1)).map (· + 2)
theorem mem_ks {n k : Nat} : k ∈ ks n ↔ 2 ≤ k ∧ k ≤ n := by
  simp only [ks, List.mem_map, List.mem_range]
  constructor
  · rintro ⟨a, h, rfl⟩; omega
  · intro h; exact ⟨k - 2, by omega, by omega⟩
theorem ks_length (n : Nat) : (ks n).length = n - 1 := by simp [ks]

theorem turnL_turnL (xs : List Int) (k : Nat) : turnL (turnL xs k) k = xs := by
  by_cases h : k ≤ xs.length
  · have hl : (xs.take k).reverse.length = k := by simp; omega
    unfold turnL
    rw [List.take_append_of_le_length (by omega), List.take_of_length_le (by omega), List.drop_append_of_le_length (by omega), List.drop_of_length_le (by omega : (xs.take k).reverse.length ≤ k)]
    simp
  · simp [turnL, List.take_of_length_le, List.drop_of_length_le, (by omega : xs.length ≤ k)]
theorem turnL_eq_iff {xs ys : List Int} {k : Nat} : xs = turnL ys k ↔ turnL xs k = ys := by
  constructor
  · rintro rfl; exact turnL_turnL _ _
  · rintro rfl; exact (turnL_turnL _ _).symm
theorem turnL_map (f : Int → Int) (xs : List Int) (k : Nat) : turnL (xs.map f) k = (turnL xs k).map f := by
  simp [turnL, List.map_take, List.map_drop]

-- sums
theorem sum_map_add {α : Type} (l : List α) (f g : α → Nat) : (l.map fun x => f x + g x).sum = (l.map f).sum + (l.map g).sum := by
  induction l with
  | nil => rfl
  | cons a l ih => simp only [List.map_cons, List.sum_cons, ih]; omega
theorem sum_map_zero {α : Type} (l : List α) : (l.map fun _ => 0).sum = 0 := by
  induction l with
  | nil => rfl
  | cons a l ih => simpa using ih
theorem sum_swap {α β : Type} (l : List α) (m : List β) (f : α → β → Nat) : (l.map fun a => (m.map fun b => f a b).sum).sum = (m.map fun b => (l.map fun a => f a b).sum).sum := by
  induction l with
  | nil => simp only [List.map_nil, List.sum_nil]; rw [sum_map_zero]
  | cons a l ih => simp only [List.map_cons, List.sum_cons]; rw [sum_map_add, ih]
theorem sum_le {α : Type} (l : List α) (f : α → Nat) (B : Nat) (h : ∀ x ∈ l, f x ≤ B) : (l.map f).sum ≤ l.length * B := by
  induction l with
  | nil => simp
  | cons a l ih =>
    have h1 := h a (List.mem_cons_self ..)
    have h2 := ih (fun x hx => h x (List.mem_cons_of_mem _ hx))
    simp only [List.map_cons, List.sum_cons, List.length_cons, Nat.succ_mul]
    omega
theorem sum_pos {α : Type} {l : List α} {f : α → Nat} : 0 < (l.map f).sum ↔ ∃ x ∈ l, 0 < f x := by
  induction l with
  | nil => simp
  | cons a l ih =>
    simp only [List.map_cons, List.sum_cons, List.mem_cons, exists_eq_or_imp]
    rw [← ih]
    omega
theorem sum_congr {α : Type} {l : List α} {f g : α → Nat} (h : ∀ x ∈ l, f x = g x) : (l.map f).sum = (l.map g).sum := by
  rw [List.map_congr_left h]

/-- how many lists of d turns, all in 2 .. n, lead from s to t -/
def ways (n : Nat) : Nat → List Int → List Int → Nat
  | 0, s, t => if s = t then 1 else 0
  | d + 1, s, t => ((ks n).map fun k => ways n d s (turnL t k)).sum
theorem ways_zero (n : Nat) (s t : List Int) : ways n 0 s t = if s = t then 1 else 0 := rfl
theorem ways_last (n d : Nat) (s t : List Int) : ways n (d + 1) s t = ((ks n).map fun k => ways n d s (turnL t k)).sum := rfl
theorem ways_first (n d : Nat) (s t : List Int) : ways n (d + 1) s t = ((ks n).map fun k => ways n d (turnL s k) t).sum := by
  induction d generalizing t with
  | zero =>
    rw [ways_last]
    refine sum_congr fun k _ => ?_
    simp only [ways_zero]
    by_cases h : s = turnL t k
    · rw [if_pos h, if_pos (turnL_eq_iff.1 h)]
    · rw [if_neg h, if_neg (fun e => h (turnL_eq_iff.2 e))]
  | succ d ih =>
    rw [ways_last]
    rw [sum_congr (fun k _ => ih (turnL t k)), sum_swap]
    rfl
theorem ways_symm (n d : Nat) (s t : List Int) : ways n d s t = ways n d t s := by
  induction d generalizing s t with
  | zero =>
    simp only [ways_zero]
    by_cases h : s = t
    · rw [if_pos h, if_pos h.symm]
    · rw [if_neg h, if_neg (fun e => h e.symm)]
  | succ d ih => rw [ways_last, ways_first]; exact sum_congr fun k _ => ih _ _
theorem ways_le (n d : Nat) (s t : List Int) : ways n d s t ≤ (n - 1) ^ d := by
  induction d generalizing t with
  | zero => rw [ways_zero]; split <;> simp
  | succ d ih =>
    have h := sum_le (ks n) (fun k => ways n d s (turnL t k)) ((n - 1) ^ d) (fun k _ => ih _)
    rw [ks_length] at h
    rw [ways_last, Nat.pow_succ, Nat.mul_comm]
    exact h
theorem ways_step {n d k : Nat} {s t : List Int} (hk : k ∈ ks n) (h : 0 < ways n d s (turnL t k)) : 0 < ways n (d + 1) s t := by
  rw [ways_last]; exact sum_pos.2 ⟨k, hk, h⟩
theorem ways_cons {n d k : Nat} {s t : List Int} (hk : k ∈ ks n) (h : 0 < ways n d (turnL s k) t) : 0 < ways n (d + 1) s t := by
  rw [ways_first]; exact sum_pos.2 ⟨k, hk, h⟩
theorem ways_trans {n a b : Nat} {s u t : List Int} (h1 : 0 < ways n a s u) (h2 : 0 < ways n b u t) : 0 < ways n (a + b) s t := by
  induction b generalizing t with
  | zero =>
    rw [ways_zero] at h2
    split at h2
    · rename_i e; subst e; exact h1
    · omega
  | succ b ih =>
    rw [ways_last] at h2
    obtain ⟨k, hk, h⟩ := sum_pos.1 h2
    exact ways_step hk (ih h)
theorem ways_split {n a b : Nat} {s t : List Int} (h : 0 < ways n (a + b) s t) : ∃ u, 0 < ways n a s u ∧ 0 < ways n b u t := by
  induction b generalizing t with
  | zero => exact ⟨t, h, by rw [ways_zero, if_pos rfl]; omega⟩
  | succ b ih =>
    rw [← Nat.add_assoc, ways_last] at h
    obtain ⟨k, hk, h⟩ := sum_pos.1 h
    obtain ⟨u, h1, h2⟩ := ih h
    exact ⟨u, h1, ways_step hk h2⟩
theorem ways_perm {n d : Nat} {s t : List Int} (h : 0 < ways n d s t) : s.Perm t := by
  induction d generalizing t with
  | zero =>
    rw [ways_zero] at h
    split at h
    · rename_i e; rw [e]
    · omega
  | succ d ih =>
    rw [ways_last] at h
    obtain ⟨k, hk, h⟩ := sum_pos.1 h
    exact (ih h).trans (turnL_perm t k)
theorem ways_map (n : Nat) (f : Int → Int) (d : Nat) (s t : List Int) (hf : ∀ x ∈ s, ∀ y ∈ t, f x = f y → x = y) : ways n d (s.map f) (t.map f) = ways n d s t := by
  induction d generalizing t with
  | zero =>
    simp only [ways_zero]
    have : s.map f = t.map f ↔ s = t := by
      constructor
      · intro e
        have hl : s.length = t.length := by simpa using congrArg List.length e
        apply List.ext_getElem hl
        intro i h1 h2
        refine hf _ (List.getElem_mem _) _ (List.getElem_mem _) ?_
        have := congrArg (fun l => l[i]?) e
        simpa [h1, h2] using this
      · rintro rfl; rfl
    by_cases h : s = t
    · rw [if_pos h, if_pos (this.2 h)]
    · rw [if_neg h, if_neg (fun e => h (this.1 e))]
  | succ d ih =>
    rw [ways_last, ways_last]
    refine sum_congr fun k _ => ?_
    rw [turnL_map]
    exact ih _ (fun x hx y hy => hf x hx y ((turnL_perm t k).mem_iff.1 hy))

-- the least number with a property
def leastFrom (p : Nat → Bool) : Nat → Nat → Nat
  | 0, i => i
  | f + 1, i => if p i = true then i else leastFrom p f (i + 1)
theorem leastFrom_ge (p : Nat → Bool) (f i : Nat) : i ≤ leastFrom p f i := by
  induction f generalizing i with
  | zero => exact Nat.le_refl _
  | succ f ih =>
    unfold leastFrom
    split
    · exact Nat.le_refl _
    · have := ih (i + 1); omega
theorem leastFrom_spec (p : Nat → Bool) (f i d : Nat) (h1 : i ≤ d) (h2 : d < i + f) (h3 : p d = true) : p (leastFrom p f i) = true ∧ leastFrom p f i ≤ d ∧ ∀ e, i ≤ e → e < leastFrom p f i → p e = false := by
  induction f generalizing i with
  | zero => omega
  | succ f ih =>
    unfold leastFrom
    by_cases hp : p i = true
    · rw [if_pos hp]
      exact ⟨hp, h1, fun e _ _ => by omega⟩
    · rw [if_neg hp]
      have hne : i ≠ d := by rintro rfl; exact hp h3
      have := ih (i + 1) (by omega) (by omega)
      refine ⟨this.1, this.2.1, fun e he1 he2 => ?_⟩
      by_cases e0 : e = i
      · subst e0; simpa using hp
      · exact this.2.2 e (by omega) he2

/-- the least number of turns from s to t -/
def far (n : Nat) (s t : List Int) : Nat := leastFrom (fun d => decide (0 < ways n d s t)) (2 * n + 1) 0

-- every stack can be sorted
theorem turnL_get_lt (xs : List Int) (k j : Nat) (hk : k ≤ xs.length) (hj : j < k) : (turnL xs k)[j]? = xs[k - 1 - j]? := by
  unfold turnL
  rw [List.getElem?_append_left (by simp; omega), List.getElem?_reverse (by simp; omega), List.getElem?_take, if_pos (by simp; omega)]
  congr 1
  simp
  omega
theorem turnL_get_ge (xs : List Int) (k j : Nat) (hk : k ≤ xs.length) (hj : k ≤ j) : (turnL xs k)[j]? = xs[j]? := by
  unfold turnL
  rw [List.getElem?_append_right (by simp; omega), List.getElem?_drop]
  congr 1
  simp
  omega
theorem sortable (n m : Nat) (hm : m ≤ n) (s : List Int) (hg : Good s) (hl : s.length = n) (hp : ∀ j, m ≤ j → j < n → s[j]? = some ((j : Int) + 1)) : ∃ d, d ≤ 2 * m ∧ 0 < ways n d s (ramp 1 n) := by
  induction m generalizing s with
  | zero =>
    refine ⟨0, Nat.le_refl _, ?_⟩
    have : s = ramp 1 n := by
      apply List.ext_getElem (by rw [ramp_length, hl])
      intro i h1 h2
      have h := hp i (Nat.zero_le _) (by omega)
      rw [List.getElem?_eq_getElem h1, Option.some.injEq] at h
      rw [h, ramp_get 1 n i (by omega)]
      omega
    rw [ways_zero, if_pos this]
    omega
  | succ m ih =>
    have hmem : ((m : Int) + 1) ∈ s := mem_of_good hg (by omega) (by omega)
    obtain ⟨i, hi, he⟩ := List.getElem_of_mem hmem
    have him : i ≤ m := by
      by_cases h : i ≤ m
      · exact h
      · have h1 := hp i (by omega) (by omega)
        rw [List.getElem?_eq_getElem hi, he, Option.some.injEq] at h1
        omega
    by_cases e : i = m
    · obtain ⟨d, hd, hw⟩ := ih (by omega) s hg hl (fun j h1 h2 => by
        by_cases ej : j = m
        · subst ej; subst e; rw [List.getElem?_eq_getElem hi, he]
        · exact hp j (by omega) h2)
      exact ⟨d, by omega, hw⟩
    · -- first to the top, then down
      have key : ∀ u : List Int, Good u → u.length = n → u[0]? = some ((m : Int) + 1) → (∀ j, m + 1 ≤ j → j < n → u[j]? = some ((j : Int) + 1)) → ∃ d, d ≤ 2 * m + 1 ∧ 0 < ways n d u (ramp 1 n) := by
        intro u hu hul h0 huj
        obtain ⟨d, hd, hw⟩ := ih (by omega) (turnL u (m + 1)) (turnL_good hu _) (by rw [turnL_length, hul]) (fun j h1 h2 => by
          by_cases ej : j = m
          · subst ej
            rw [turnL_get_lt u _ _ (by omega) (by omega), show j + 1 - 1 - j = 0 by omega, h0]
          · rw [turnL_get_ge u _ _ (by omega) (by omega)]
            exact huj j (by omega) h2)
        exact ⟨d + 1, by omega, ways_cons (mem_ks.2 ⟨by omega, by omega⟩) hw⟩
      by_cases e0 : i = 0
      · subst e0
        obtain ⟨d, hd, hw⟩ := key s hg hl (by rw [List.getElem?_eq_getElem hi, he]) hp
        exact ⟨d, by omega, hw⟩
      · obtain ⟨d, hd, hw⟩ := key (turnL s (i + 1)) (turnL_good hg _) (by rw [turnL_length, hl]) (by
            rw [turnL_get_lt s _ _ (by omega) (by omega), show i + 1 - 1 - 0 = i by omega, List.getElem?_eq_getElem hi, he]) (fun j h1 h2 => by
            rw [turnL_get_ge s _ _ (by omega) (by omega)]
            exact hp j h1 h2)
        exact ⟨d + 1, by omega, ways_cons (mem_ks.2 ⟨by omega, by omega⟩) hw⟩

-- stacks told by another
theorem placeL_inj {t : List Int} {x y : Int} (hx : x ∈ t) (hy : y ∈ t) (h : placeL t x = placeL t y) : x = y := by
  rw [placeL_of_mem hx, placeL_of_mem hy] at h
  have h1 : t.idxOf x = t.idxOf y := by omega
  have hx' := List.idxOf_lt_length_of_mem hx
  have hy' := List.idxOf_lt_length_of_mem hy
  have e1 := List.getElem_idxOf hx'
  have e2 := List.getElem_idxOf hy'
  rw [← e1, ← e2]
  simp only [h1]
def seenL (s t : List Int) : List Int := s.map (placeL t)
theorem seenL_self {t : List Int} (hg : Good t) : seenL t t = ramp 1 t.length := by
  apply List.ext_getElem (by simp [seenL, ramp_length])
  intro i h1 h2
  have hi : i < t.length := by simpa [seenL] using h1
  simp only [seenL, List.getElem_map]
  rw [placeL_of_mem (List.getElem_mem hi), hg.2.2.2.idxOf_getElem i hi, ramp_get 1 _ i hi]
  omega
theorem good_mem {s t : List Int} (hs : Good s) (ht : Good t) (h : s.length = t.length) {x : Int} : x ∈ s ↔ x ∈ t := by
  rw [mem_iff_in hs, mem_iff_in ht, h]
theorem seenL_good {s t : List Int} (hs : Good s) (ht : Good t) (h : s.length = t.length) : Good (seenL s t) := by
  refine ⟨by simpa [seenL] using hs.1, by simpa [seenL] using hs.2.1, fun x hx => ?_, ?_⟩
  · simp only [seenL, List.mem_map] at hx
    obtain ⟨y, hy, rfl⟩ := hx
    have := placeL_bd ((good_mem hs ht h).1 hy)
    simp only [seenL, List.length_map]
    omega
  · unfold seenL
    refine List.pairwise_map.2 ?_
    have hn := hs.2.2.2
    refine List.pairwise_iff_getElem.2 fun i j hi hj hij e => ?_
    have := placeL_inj ((good_mem hs ht h).1 (List.getElem_mem hi)) ((good_mem hs ht h).1 (List.getElem_mem hj)) e
    exact (List.pairwise_iff_getElem.1 hn i j hi hj hij) this
theorem ways_seen {s t u : List Int} (hs : Good s) (ht : Good t) (hu : Good u) (h1 : s.length = u.length) (h2 : t.length = u.length) (n d : Nat) : ways n d (seenL s u) (seenL t u) = ways n d s t :=
  ways_map n (placeL u) d s t (fun x hx y hy e => placeL_inj ((good_mem hs hu h1).1 hx) ((good_mem ht hu h2).1 hy) e)
theorem ways_seen_ramp {s t : List Int} (hs : Good s) (ht : Good t) (h : s.length = t.length) (n d : Nat) (hn : t.length = n) : ways n d (seenL s t) (ramp 1 n) = ways n d s t := by
  rw [← ways_seen hs ht ht h rfl n d, seenL_self ht, hn]
theorem far_seen {s t : List Int} (hs : Good s) (ht : Good t) (h : s.length = t.length) (n : Nat) (hn : t.length = n) : far n (seenL s t) (ramp 1 n) = far n s t := by
  unfold far
  congr 1
  funext d
  rw [ways_seen_ramp hs ht h n d hn]

theorem reach {n : Nat} {s t : List Int} (hs : Good s) (ht : Good t) (h1 : s.length = n) (h2 : t.length = n) : ∃ d, d ≤ 2 * n ∧ 0 < ways n d s t := by
  obtain ⟨d, hd, hw⟩ := sortable n n (Nat.le_refl _) (seenL s t) (seenL_good hs ht (by omega)) (by simpa [seenL] using h1) (fun j _ _ => by omega)
  rw [ways_seen_ramp hs ht (by omega) n d h2] at hw
  exact ⟨d, hd, hw⟩

/-- a stack of n -/
def St (n : Nat) (s : List Int) : Prop := Good s ∧ s.length = n
theorem St.turn {n : Nat} {s : List Int} (h : St n s) (k : Nat) : St n (turnL s k) := ⟨turnL_good h.1 k, by rw [turnL_length]; exact h.2⟩
theorem St.perm {n : Nat} {s t : List Int} (h : St n s) (hp : s.Perm t) : St n t := ⟨h.1.perm hp, by rw [← hp.length_eq]; exact h.2⟩
theorem St.ramp (n : Nat) (h1 : 1 ≤ n) (h9 : n ≤ 9) : St n (ramp 1 n) := ⟨ramp_good n h1 h9, ramp_length 1 n⟩

section
variable {n : Nat} {s t u : List Int}
theorem far_spec (hs : St n s) (ht : St n t) : 0 < ways n (far n s t) s t ∧ far n s t ≤ 2 * n ∧ ∀ e, e < far n s t → ways n e s t = 0 := by
  obtain ⟨d, hd, hw⟩ := reach hs.1 ht.1 hs.2 ht.2
  have h := leastFrom_spec (fun d => decide (0 < ways n d s t)) (2 * n + 1) 0 d (Nat.zero_le _) (by omega) (by simpa using hw)
  refine ⟨of_decide_eq_true h.1, Nat.le_trans h.2.1 hd, fun e he => ?_⟩
  have := h.2.2 e (Nat.zero_le _) he
  simp at this
  omega
theorem far_le (hs : St n s) (ht : St n t) {d : Nat} (h : 0 < ways n d s t) : far n s t ≤ d := by
  by_cases hd : d < far n s t
  · have := (far_spec hs ht).2.2 d hd; omega
  · omega
theorem far_symm (hs : St n s) (ht : St n t) : far n s t = far n t s := by
  have h1 := far_le ht hs (d := far n s t) (by rw [ways_symm]; exact (far_spec hs ht).1)
  have h2 := far_le hs ht (d := far n t s) (by rw [ways_symm]; exact (far_spec ht hs).1)
  omega
theorem far_tri (hs : St n s) (hu : St n u) (ht : St n t) : far n s t ≤ far n s u + far n u t := far_le hs ht (ways_trans (far_spec hs hu).1 (far_spec hu ht).1)
theorem far_zero (hs : St n s) (ht : St n t) : far n s t = 0 ↔ s = t := by
  constructor
  · intro h
    have h1 := (far_spec hs ht).1
    rw [h, ways_zero] at h1
    split at h1
    · assumption
    · omega
  · rintro rfl
    have := far_le hs hs (d := 0) (by rw [ways_zero, if_pos rfl]; omega)
    omega
theorem far_one {k : Nat} (hk : k ∈ ks n) (hs : St n s) (ht : St n t) : far n s (turnL t k) ≤ far n s t + 1 ∧ far n s t ≤ far n s (turnL t k) + 1 := by
  constructor
  · exact far_le hs (ht.turn k) (ways_step hk (by rw [turnL_turnL]; exact (far_spec hs ht).1))
  · exact far_le hs ht (ways_step hk (far_spec hs (ht.turn k)).1)
theorem far_prev {d : Nat} (hs : St n s) (ht : St n t) (h : far n s t = d + 1) : ∃ k ∈ ks n, far n s (turnL t k) = d := by
  have h1 := (far_spec hs ht).1
  rw [h, ways_last] at h1
  obtain ⟨k, hk, hw⟩ := sum_pos.1 h1
  refine ⟨k, hk, ?_⟩
  have h2 := far_le hs (ht.turn k) hw
  have h3 := (far_one hk hs ht).2
  omega
theorem far_mid {a b : Nat} (hs : St n s) (ht : St n t) (h : far n s t = a + b) : ∃ u, St n u ∧ far n s u = a ∧ far n u t = b := by
  have h1 := (far_spec hs ht).1
  rw [h] at h1
  obtain ⟨u, h2, h3⟩ := ways_split h1
  have hu := hs.perm (ways_perm h2)
  have h4 := far_le hs hu h2
  have h5 := far_le hu ht h3
  have h6 := far_tri hs hu ht
  exact ⟨u, hu, by omega, by omega⟩
theorem ways_far {d : Nat} (hs : St n s) (ht : St n t) (h : d < far n s t) : ways n d s t = 0 := (far_spec hs ht).2.2 d h
theorem ways_pos_far {d : Nat} (hs : St n s) (ht : St n t) (h : far n s t = d) : 0 < ways n d s t := by rw [← h]; exact (far_spec hs ht).1
end
end Go.Pan
