import Derived.Test.YtdlnniciccpchaaM3
namespace Go.Pan

/-- the turns that change a stack of n -/
def ks (n : Nat) : List Nat := (List.range (n - 1)).map (· + 2)
theorem mem_ks {n k : Nat} : k ∈ ks n ↔ 2 ≤ k ∧ k ≤ n := by
  simp only [ks, List.mem_map, List.mem_range]
  constructor
  · rintro ⟨a, h, rfl⟩; omega
  · intro h; exact ⟨k - 2, by omega, by omega⟩
theorem ks_length (n : Nat) : (ks n).length = n - 1 := by simp [ks]

theorem turnL_turnL (xs : List Int) (k : Nat) : turnL (turnL xs k) k = xs := by
  by_cases h : k ≤ xs.length
  · have hl : (xs.take k).reverse.length = k := by simp; omega
    unfold turnL
    rw [List.take_append_of_le_length (by omega), List.take_of_length_le (by omega), List.drop_append_of_le_length (by omega), List.drop_of_length_le (by omega : (xs.take k).reverse.length ≤ k)]
    simp
  · simp [turnL, List.take_of_length_le, List.drop_of_length_le, (by omega : xs.length ≤ k)]
theorem turnL_eq_iff {xs ys : List Int} {k : Nat} : xs = turnL ys k ↔ turnL xs k = ys := by
  constructor
  · rintro rfl; exact turnL_turnL _ _
  · rintro rfl; exact (turnL_turnL _ _).symm
theorem turnL_map (f : Int → Int) (xs : List Int) (k : Nat) : turnL (xs.map f) k = (turnL xs k).map f := by
  simp [turnL, List.map_take, List.map_drop]

-- sums
theorem sum_map_add {α : Type} (l : List α) (f g : α → Nat) : (l.map fun x => f x + g x).sum = (l.map f).sum + (l.map g).sum := by
  induction l with
  | nil => rfl
  | cons a l ih => simp only [List.map_cons, List.sum_cons, ih]; omega
theorem sum_map_zero {α : Type} (l : List α) : (l.map fun _ => 0).sum = 0 := by
  induction l with
  | nil => rfl
  | cons a l ih => simpa using ih
theorem sum_swap {α β : Type} (l : List α) (m : List β) (f : α → β → Nat) : (l.map fun a => (m.map fun b => f a b).sum).sum = (m.map fun b => (l.map fun a => f a b).sum).sum := by
  induction l with
  | nil => simp only [List.map_nil, List.sum_nil]; rw [sum_map_zero]
  | cons a l ih => simp only [List.map_cons, List.sum_cons]; rw [sum_map_add, ih]
theorem sum_le {α : Type} (l : List α) (f : α → Nat) (B : Nat) (h : ∀ x ∈ l, f x ≤ B) : (l.map f).sum ≤ l.length * B := by
  induction l with
  | nil => simp
  | cons a l ih =>
    have h1 := h a (List.mem_cons_self ..)
    have h2 := ih (fun x hx => h x (List.mem_cons_of_mem _ hx))
    simp only [List.map_cons, List.sum_cons, List.length_cons, Nat.succ_mul]
    omega
theorem sum_pos {α : Type} {l : List α} {f : α → Nat} : 0 < (l.map f).sum ↔ ∃ x ∈ l, 0 < f x := by
  induction l with
  | nil => simp
  | cons a l ih =>
    simp only [List.map_cons, List.sum_cons, List.mem_cons, exists_eq_or_imp]
    rw [← ih]
    omega
theorem sum_congr {α : Type} {l : List α} {f g : α → Nat} (h : ∀ x ∈ l, f x = g x) : (l.map f).sum = (l.map g).sum := by
  rw [List.map_congr_left h]

/-- how many lists of d turns, all in 2 .. n, lead from s to t -/
def ways (n : Nat) : Nat → List Int → List Int → Nat
  | 0, s, t => if s = t then 1 else 0
  | d + 1, s, t => ((ks n).map fun k => ways n d s (turnL t k)).sum
theorem ways_zero (n : Nat) (s t : List Int) : ways n 0 s t = if s = t then 1 else 0 := rfl
theorem ways_last (n d : Nat) (s t : List Int) : ways n (d + 1) s t = ((ks n).map fun k => ways n d s (turnL t k)).sum := rfl
theorem ways_first (n d : Nat) (s t : List Int) : ways n (d + 1) s t = ((ks n).map fun k => ways n d (turnL s k) t).sum := by
  induction d generalizing t with
  | zero =>
    rw [ways_last]
    refine sum_congr fun k _ => ?_
    simp only [ways_zero]
    by_cases h : s = turnL t k
    · rw [if_pos h, if_pos (turnL_eq_iff.1 h)]
    · rw [if_neg h, if_neg (fun e => h (turnL_eq_iff.2 e))]
  | succ d ih =>
    rw [ways_last]
    rw [sum_congr (fun k _ => ih (turnL t k)), sum_swap]
    rfl
theorem ways_symm (n d : Nat) (s t : List Int) : ways n d s t = ways n d t s := by
  induction d generalizing s t with
  | zero =>
    simp only [ways_zero]
    by_cases h : s = t
    · rw [if_pos h, if_pos h.symm]
    · rw [if_neg h, if_neg (fun e => h e.symm)]
  | succ d ih => rw [ways_last, ways_first]; exact sum_congr fun k _ => ih _ _
theorem ways_le (n d : Nat) (s t : List Int) : ways n d s t ≤ (n - 1) ^ d := by
  induction d generalizing t with
  | zero => rw [ways_zero]; split <;> simp
  | succ d ih =>
    have h := sum_le (ks n) (fun k => ways n d s (turnL t k)) ((n - 1) ^ d) (fun k _ => ih _)
    rw [ks_length] at h
    rw [ways_last, Nat.pow_succ, Nat.mul_comm]
    exact h
theorem ways_step {n d k : Nat} {s t : List Int} (hk : k ∈ ks n) (h : 0 < ways n d s (turnL t k)) : 0 < ways n (d + 1) s t := by
  rw [ways_last]; exact sum_pos.2 ⟨k, hk, h⟩
theorem ways_cons {n d k : Nat} {s t : List Int} (hk : k ∈ ks n) (h : 0 < ways n d (turnL s k) t) : 0 < ways n (d + 1) s t := by
  rw [ways_first]; exact sum_pos.2 ⟨k, hk, h⟩
theorem ways_trans {n a b : Nat} {s u t : List Int} (h1 : 0 < ways n a s u) (h2 : 0 < ways n b u t) : 0 < ways n (a + b) s t := by
  induction b generalizing t with
  | zero =>
    rw [ways_zero] at h2
    split at h2
    · rename_i e; subst e; exact h1
    · omega
  | succ b ih =>
    rw [ways_last] at h2
    obtain ⟨k, hk, h⟩ := sum_pos.1 h2
    exact ways_step hk (ih h)
theorem ways_split {n a b : Nat} {s t : List Int} (h : 0 < ways n (a + b) s t) : ∃ u, 0 < ways n a s u ∧ 0 < ways n b u t := by
  induction b generalizing t with
  | zero => exact ⟨t, h, by rw [ways_zero, if_pos rfl]; omega⟩
  | succ b ih =>
    rw [← Nat.add_assoc, ways_last] at h
    obtain ⟨k, hk, h⟩ := sum_pos.1 h
    obtain ⟨u, h1, h2⟩ := ih h
    exact ⟨u, h1, ways_step hk h2⟩
theorem ways_perm {n d : Nat} {s t : List Int} (h : 0 < ways n d s t) : s.Perm t := by
  induction d generalizing t with
  | zero =>
    rw [ways_zero] at h
    split at h
    · rename_i e; rw [e]
    · omega
  | succ d ih =>
    rw [ways_last] at h
    obtain ⟨k, hk, h⟩ := sum_pos.1 h
    exact (ih h).trans (turnL_perm t k)
theorem ways_map (n : Nat) (f : Int → Int) (d : Nat) (s t : List Int) (hf : ∀ x ∈ s, ∀ y ∈ t, f x = f y → x = y) : ways n d (s.map f) (t.map f) = ways n d s t := by
  induction d generalizing t with
  | zero =>
    simp only [ways_zero]
    have : s.map f = t.map f ↔ s = t := by
      constructor
      · intro e
        have hl : s.length = t.length := by simpa using congrArg List.length e
        apply List.ext_getElem hl
        intro i h1 h2
        refine hf _ (List.getElem_mem _) _ (List.getElem_mem _) ?_
        have := congrArg (fun l => l[i]?) e
        simpa [h1, h2] using this
      · rintro rfl; rfl
    by_cases h : s = t
    · rw [if_pos h, if_pos (this.2 h)]
    · rw [if_neg h, if_neg (fun e => h (this.1 e))]
  | succ d ih =>
    rw [ways_last, ways_last]
    refine sum_congr fun k _ => ?_
    rw [turnL_map]
    exact ih _ (fun x hx y hy => hf x hx y ((turnL_perm t k).mem_iff.1 hy))

-- the least number with a property
def leastFrom (p : Nat → Bool) : Nat → Nat → Nat
  | 0, i => i
  | f + 1, i => if p i = true then i else leastFrom p f (i + 1)
theorem leastFrom_ge (p : Nat → Bool) (f i : Nat) : i ≤ leastFrom p f i := by
  induction f generalizing i with
  | zero => exact Nat.le_refl _
  | succ f ih =>
    unfold leastFrom
    split
    · exact Nat.le_refl _
    · have := ih (i + 1); omega
theorem leastFrom_spec (p : Nat → Bool) (f i d : Nat) (h1 : i ≤ d) (h2 : d < i + f) (h3 : p d = true) : p (leastFrom p f i) = true ∧ leastFrom p f i ≤ d ∧ ∀ e, i ≤ e → e < leastFrom p f i → p e = false := by
  induction f generalizing i with
  | zero => omega
  | succ f ih =>
    unfold leastFrom
    by_cases hp : p i = true
    · rw [if_pos hp]
      exact ⟨hp, h1, fun e _ _ => by omega⟩
    · rw [if_neg hp]
      have hne : i ≠ d := by rintro rfl; exact hp h3
      have := ih (i + 1) (by omega) (by omega)
      refine ⟨this.1, this.2.1, fun e he1 he2 => ?_⟩
      by_cases e0 : e = i
      · subst e0; simpa using hp
      · exact this.2.2 e (by omega) he2

/-- the least number of turns from s to t -/
def far (n : Nat) (s t : List Int) : Nat := leastFrom (fun d => decide (0 < ways n d s t)) (2 * n + 1) 0

-- every stack can be sorted
theorem turnL_get_lt (xs : List Int) (k j : Nat) (hk : k ≤ xs.length) (hj : j < k) : (turnL xs k)[j]? = xs[k - 1 - j]? := by
  unfold turnL
  rw [List.getElem?_append_left (by simp; omega), List.getElem?_reverse (by simp; omega), List.getElem?_take, if_pos (by simp; omega)]
  congr 1
  simp
  omega
theorem turnL_get_ge (xs : List Int) (k j : Nat) (hk : k ≤ xs.length) (hj : k ≤ j) : (turnL xs k)[j]? = xs[j]? := by
  unfold turnL
  rw [List.getElem?_append_right (by simp; omega), List.getElem?_drop]
  congr 1
  simp
  omega
theorem sortable (n m : Nat) (hm : m ≤ n) (s : List Int) (hg : Good s) (hl : s.length = n) (hp : ∀ j, m ≤ j → j < n → s[j]? = some ((j : Int) + 1)) : ∃ d, d ≤ 2 * m ∧ 0 < ways n d s (ramp 1 n) := by
  induction m generalizing s with
  | zero =>
    refine ⟨0, Nat.le_refl _, ?_⟩
    have : s = ramp 1 n := by
      apply List.ext_getElem (by rw [ramp_length, hl])
      intro i h1 h2
      have h := hp i (Nat.zero_le _) (by omega)
      rw [List.getElem?_eq_getElem h1, Option.some.injEq] at h
      rw [h, ramp_get 1 n i (by omega)]
      omega
    rw [ways_zero, if_pos this]
    omega
  | succ m ih =>
    have hmem : ((m : Int) + 1) ∈ s := mem_of_good hg (by omega) (by omega)
    obtain ⟨i, hi, he⟩ := List.getElem_of_mem hmem
    have him : i ≤ m := by
      by_cases h : i ≤ m
      · exact h
      · have h1 := hp i (by omega) (by omega)
        rw [List.getElem?_eq_getElem hi, he, Option.some.injEq] at h1
        omega
    by_cases e : i = m
    · obtain ⟨d, hd, hw⟩ := ih (by omega) s hg hl (fun j h1 h2 => by
        by_cases ej : j = m
        · subst ej; subst e; rw [List.getElem?_eq_getElem hi, he]
        · exact hp j (by omega) h2)
      exact ⟨d, by omega, hw⟩
    · -- first to the top, then down
      have key : ∀ u : List Int, Good u → u.length = n → u[0]? = some ((m : Int) + 1) → (∀ j, m + 1 ≤ j → j < n → u[j]? = some ((j : Int) + 1)) → ∃ d, d ≤ 2 * m + 1 ∧ 0 < ways n d u (ramp 1 n) := by
        intro u hu hul h0 huj
        obtain ⟨d, hd, hw⟩ := ih (by omega) (turnL u (m + 1)) (turnL_good hu _) (by rw [turnL_length, hul]) (fun j h1 h2 => by
          by_cases ej : j = m
          · subst ej
            rw [turnL_get_lt u _ _ (by omega) (by omega), show j + 1 - 1 - j = 0 by omega, h0]
          · rw [turnL_get_ge u _ _ (by omega) (by omega)]
            exact huj j (by omega) h2)
        exact ⟨d + 1, by omega, ways_cons (mem_ks.2 ⟨by omega, by omega⟩) hw⟩
      by_cases e0 : i = 0
      · subst e0
        obtain ⟨d, hd, hw⟩ := key s hg hl (by rw [List.getElem?_eq_getElem hi, he]) hp
        exact ⟨d, by omega, hw⟩
      · obtain ⟨d, hd, hw⟩ := key (turnL s (i + 1)) (turnL_good hg _) (by rw [turnL_length, hl]) (by
            rw [turnL_get_lt s _ _ (by omega) (by omega), show i + 1 - 1 - 0 = i by omega, List.getElem?_eq_getElem hi, he]) (fun j h1 h2 => by
            rw [turnL_get_ge s _ _ (by omega) (by omega)]
            exact hp j h1 h2)
        exact ⟨d + 1, by omega, ways_cons (mem_ks.2 ⟨by omega, by omega⟩) hw⟩

-- stacks told by another
theorem placeL_inj {t : List Int} {x y : Int} (hx : x ∈ t) (hy : y ∈ t) (h : placeL t x = placeL t y) : x = y := by
  rw [placeL_of_mem hx, placeL_of_mem hy] at h
  have h1 : t.idxOf x = t.idxOf y := by omega
  have hx' := List.idxOf_lt_length_of_mem hx
  have hy' := List.idxOf_lt_length_of_mem hy
  have e1 := List.getElem_idxOf hx'
  have e2 := List.getElem_idxOf hy'
  rw [← e1, ← e2]
  simp only [h1]
def seenL (s t : List Int) : List Int := s.map (placeL t)
theorem seenL_self {t : List Int} (hg : Good t) : seenL t t = ramp 1 t.length := by
  apply List.ext_getElem (by simp [seenL, ramp_length])
  intro i h1 h2
  have hi : i < t.length := by simpa [seenL] using h1
  simp only [seenL, List.getElem_map]
  rw [placeL_of_mem (List.getElem_mem hi), hg.2.2.2.idxOf_getElem i hi, ramp_get 1 _ i hi]
  omega
theorem good_mem {s t : List Int} (hs : Good s) (ht : Good t) (h : s.length = t.length) {x : Int} : x ∈ s ↔ x ∈ t := by
  rw [mem_iff_in hs, mem_iff_in ht, h]
theorem seenL_good {s t : List Int} (hs : Good s) (ht : Good t) (h : s.length = t.length) : Good (seenL s t) := by
  refine ⟨by simpa [seenL] using hs.1, by simpa [seenL] using hs.2.1, fun x hx => ?_, ?_⟩
  · simp only [seenL, List.mem_map] at hx
    obtain ⟨y, hy, rfl⟩ := hx
    have := placeL_bd ((good_mem hs ht h).1 hy)
    simp only [seenL, List.length_map]
    omega
  · unfold seenL
    refine List.pairwise_map.2 ?_
    have hn := hs.2.2.2
    refine List.pairwise_iff_getElem.2 fun i j hi hj hij e => ?_
    have := placeL_inj ((good_mem hs ht h).1 (List.getElem_mem hi)) ((good_mem hs ht h).1 (List.getElem_mem hj)) e
    exact (List.pairwise_iff_getElem.1 hn i j hi hj hij) this
theorem ways_seen {s t u : List Int} (hs : Good s) (ht : Good t) (hu : Good u) (h1 : s.length = u.length) (h2 : t.length = u.length) (n d : Nat) : ways n d (seenL s u) (seenL t u) = ways n d s t :=
  ways_map n (placeL u) d s t (fun x hx y hy e => placeL_inj ((good_mem hs hu h1).1 hx) ((good_mem ht hu h2).1 hy) e)
theorem ways_seen_ramp {s t : List Int} (hs : Good s) (ht : Good t) (h : s.length = t.length) (n d : Nat) (hn : t.length = n) : ways n d (seenL s t) (ramp 1 n) = ways n d s t := by
  rw [← ways_seen hs ht ht h rfl n d, seenL_self ht, hn]
theorem far_seen {s t : List Int} (hs : Good s) (ht : Good t) (h : s.length = t.length) (n : Nat) (hn : t.length = n) : far n (seenL s t) (ramp 1 n) = far n s t := by
  unfold far
  congr 1
  funext d
  rw [ways_seen_ramp hs ht h n d hn]

theorem reach {n : Nat} {s t : List Int} (hs : Good s) (ht : Good t) (h1 : s.length = n) (h2 : t.length = n) : ∃ d, d ≤ 2 * n ∧ 0 < ways n d s t := by
  obtain ⟨d, hd, hw⟩ := sortable n n (Nat.le_refl _) (seenL s t) (seenL_good hs ht (by omega)) (by simpa [seenL] using h1) (fun j _ _ => by omega)
  rw [ways_seen_ramp hs ht (by omega) n d h2] at hw
  exact ⟨d, hd, hw⟩

/-- a stack of n -/
def St (n : Nat) (s : List Int) : Prop := Good s ∧ s.length = n
theorem St.turn {n : Nat} {s : List Int} (h : St n s) (k : Nat) : St n (turnL s k) := ⟨turnL_good h.1 k, by rw [turnL_length]; exact h.2⟩
theorem St.perm {n : Nat} {s t : List Int} (h : St n s) (hp : s.Perm t) : St n t := ⟨h.1.perm hp, by rw [← hp.length_eq]; exact h.2⟩
theorem St.ramp (n : Nat) (h1 : 1 ≤ n) (h9 : n ≤ 9) : St n (ramp 1 n) := ⟨ramp_good n h1 h9, ramp_length 1 n⟩

section
variable {n : Nat} {s t u : List Int}
theorem far_spec (hs : St n s) (ht : St n t) : 0 < ways n (far n s t) s t ∧ far n s t ≤ 2 * n ∧ ∀ e, e < far n s t → ways n e s t = 0 := by
  obtain ⟨d, hd, hw⟩ := reach hs.1 ht.1 hs.2 ht.2
  have h := leastFrom_spec (fun d => decide (0 < ways n d s t)) (2 * n + 1) 0 d (Nat.zero_le _) (by omega) (by simpa using hw)
  refine ⟨of_decide_eq_true h.1, Nat.le_trans h.2.1 hd, fun e he => ?_⟩
  have := h.2.2 e (Nat.zero_le _) he
  simp at this
  omega
theorem far_le (hs : St n s) (ht : St n t) {d : Nat} (h : 0 < ways n d s t) : far n s t ≤ d := by
  by_cases hd : d < far n s t
  · have := (far_spec hs ht).2.2 d hd; omega
  · omega
theorem far_symm (hs : St n s) (ht : St n t) : far n s t = far n t s := by
  have h1 := far_le ht hs (d := far n s t) (by rw [ways_symm]; exact (far_spec hs ht).1)
  have h2 := far_le hs ht (d := far n t s) (by rw [ways_symm]; exact (far_spec ht hs).1)
  omega
theorem far_tri (hs : St n s) (hu : St n u) (ht : St n t) : far n s t ≤ far n s u + far n u t := far_le hs ht (ways_trans (far_spec hs hu).1 (far_spec hu ht).1)
theorem far_zero (hs : St n s) (ht : St n t) : far n s t = 0 ↔ s = t := by
  constructor
  · intro h
    have h1 := (far_spec hs ht).1
    rw [h, ways_zero] at h1
    split at h1
    · assumption
    · omega
  · rintro rfl
    have := far_le hs hs (d := 0) (by rw [ways_zero, if_pos rfl]; omega)
    omega
theorem far_one {k : Nat} (hk : k ∈ ks n) (hs : St n s) (ht : St n t) : far n s (turnL t k) ≤ far n s t + 1 ∧ far n s t ≤ far n s (turnL t k) + 1 := by
  constructor
  · exact far_le hs (ht.turn k) (ways_step hk (by rw [turnL_turnL]; exact (far_spec hs ht).1))
  · exact far_le hs ht (ways_step hk (far_spec hs (ht.turn k)).1)
theorem far_prev {d : Nat} (hs : St n s) (ht : St n t) (h : far n s t = d + 1) : ∃ k ∈ ks n, far n s (turnL t k) = d := by
  have h1 := (far_spec hs ht).1
  rw [h, ways_last] at h1
  obtain ⟨k, hk, hw⟩ := sum_pos.1 h1
  refine ⟨k, hk, ?_⟩
  have h2 := far_le hs (ht.turn k) hw
  have h3 := (far_one hk hs ht).2
  omega
theorem far_mid {a b : Nat} (hs : St n s) (ht : St n t) (h : far n s t = a + b) : ∃ u, St n u ∧ far n s u = a ∧ far n u t = b := by
  have h1 := (far_spec hs ht).1
  rw [h] at h1
  obtain ⟨u, h2, h3⟩ := ways_split h1
  have hu := hs.perm (ways_perm h2)
  have h4 := far_le hs hu h2
  have h5 := far_le hu ht h3
  have h6 := far_tri hs hu ht
  exact ⟨u, hu, by omega, by omega⟩
theorem ways_far {d : Nat} (hs : St n s) (ht : St n t) (h : d < far n s t) : ways n d s t = 0 := (far_spec hs ht).2.2 d h
theorem ways_pos_far {d : Nat} (hs : St n s) (ht : St n t) (h : far n s t = d) : 0 < ways n d s t := by rw [← h]; exact (far_spec hs ht).1
end

end Go.Pan

namespace Go.Pan

theorem subset_of_le {l m : List Int} (hl : l.Nodup) (hs : ∀ x ∈ l, x ∈ m) (h : m.length ≤ l.length) : ∀ x ∈ m, x ∈ l := by
  intro x hx
  by_cases hxl : x ∈ l
  · exact hxl
  · have := length_le_of_nodup_subset (x :: l) m (List.nodup_cons.2 ⟨hxl, hl⟩) (fun y hy => by
      rcases List.mem_cons.1 hy with rfl | hy
      · exact hx
      · exact hs y hy)
    simp at this
    omega
theorem countP_same {l m : List Int} (p : Int → Bool) (hl : l.Nodup) (hm : m.Nodup) (h : ∀ x, p x = true → (x ∈ l ↔ x ∈ m)) : l.countP p = m.countP p := by
  rw [List.countP_eq_length_filter, List.countP_eq_length_filter]
  have h1 := length_le_of_nodup_subset (l.filter p) (m.filter p) (hl.filter _) (fun x hx => by
    obtain ⟨h1, h2⟩ := List.mem_filter.1 hx
    exact List.mem_filter.2 ⟨(h x h2).1 h1, h2⟩)
  have h2 := length_le_of_nodup_subset (m.filter p) (l.filter p) (hm.filter _) (fun x hx => by
    obtain ⟨h1, h2⟩ := List.mem_filter.1 hx
    exact List.mem_filter.2 ⟨(h x h2).2 h1, h2⟩)
  omega

def fact : Nat → Nat
  | 0 => 1
  | n + 1 => (n + 1) * fact n
theorem fact_pos (n : Nat) : 0 < fact n := by
  induction n with
  | zero => decide
  | succ n ih => exact Nat.mul_pos (Nat.succ_pos n) ih
theorem fact_mono {a b : Nat} (h : a ≤ b) : fact a ≤ fact b := by
  induction h with
  | refl => exact Nat.le_refl _
  | step _ ih => exact Nat.le_trans ih (Nat.le_mul_of_pos_left _ (Nat.succ_pos _))

/-- the sizes of 1 .. n that are not in bs, rising -/
def freeL (n : Nat) (bs : List Int) : List Int := (ramp 1 n).filter fun x => !(decide (x ∈ bs))
theorem mem_freeL {n : Nat} {bs : List Int} {x : Int} : x ∈ freeL n bs ↔ (1 ≤ x ∧ x ≤ n) ∧ x ∉ bs := by
  simp only [freeL, List.mem_filter, mem_ramp, Bool.not_eq_true', decide_eq_false_iff_not]
  constructor
  · rintro ⟨h1, h2⟩; exact ⟨by omega, h2⟩
  · rintro ⟨h1, h2⟩; exact ⟨by omega, h2⟩
theorem ramp_rising (k : Int) (n : Nat) : (ramp k n).Pairwise (· < ·) := by
  unfold ramp
  refine List.pairwise_map.2 (List.Pairwise.imp (fun {a b} h => ?_) List.pairwise_lt_range)
  omega
theorem freeL_rising (n : Nat) (bs : List Int) : (freeL n bs).Pairwise (· < ·) := (ramp_rising 1 n).filter _
theorem freeL_nodup (n : Nat) (bs : List Int) : (freeL n bs).Nodup := (ramp_nodup 1 n).filter _
theorem freeL_nil (n : Nat) : freeL n [] = ramp 1 n := by simp [freeL]
theorem filter_ne_length {l : List Int} {x : Int} (hn : l.Nodup) (hx : x ∈ l) : (l.filter fun y => decide (y ≠ x)).length + 1 = l.length := by
  induction l with
  | nil => cases hx
  | cons a l ih =>
    obtain ⟨h1, h2⟩ := List.nodup_cons.1 hn
    by_cases e : a = x
    · subst e
      have : l.filter (fun y => decide (y ≠ a)) = l := List.filter_eq_self.2 fun y hy => by simp; rintro rfl; exact h1 hy
      rw [List.filter_cons, if_neg (by simp), this]
      rfl
    · rcases List.mem_cons.1 hx with rfl | hx
      · exact absurd rfl e
      · have := ih h2 hx
        simp [List.filter_cons, e] at this ⊢
        omega
theorem freeL_snoc (n : Nat) (bs : List Int) (x : Int) : freeL n (bs ++ [x]) = (freeL n bs).filter fun y => decide (y ≠ x) := by
  unfold freeL
  rw [List.filter_filter]
  refine List.filter_congr fun y _ => ?_
  by_cases h1 : y ∈ bs <;> by_cases h2 : y = x <;> simp [h1, h2]
theorem freeL_snoc_length {n : Nat} {bs : List Int} {x : Int} (hx : x ∈ freeL n bs) : (freeL n (bs ++ [x])).length + 1 = (freeL n bs).length := by
  rw [freeL_snoc]
  exact filter_ne_length (freeL_nodup n bs) hx

/-- all stacks of n that begin with bs, f the places left, in order -/
def permsL (n : Nat) : Nat → List Int → List (List Int)
  | 0, bs => [bs]
  | f + 1, bs => (freeL n bs).flatMap fun x => permsL n f (bs ++ [x])
theorem flat_length {α : Type} (l : List Int) (g : Int → List α) (m : Nat) (h : ∀ x ∈ l, (g x).length = m) : (l.flatMap g).length = l.length * m := by
  induction l with
  | nil => simp
  | cons a l ih =>
    rw [List.flatMap_cons, List.length_append, h a (List.mem_cons_self ..), ih (fun x hx => h x (List.mem_cons_of_mem _ hx)), List.length_cons, Nat.succ_mul]
    omega
theorem flat_get {α : Type} (l : List Int) (g : Int → List α) (m : Nat) (h : ∀ x ∈ l, (g x).length = m) (i j : Nat) (hi : i < l.length) (hj : j < m) : (l.flatMap g)[i * m + j]? = (g l[i])[j]? := by
  induction l generalizing i with
  | nil => simp at hi
  | cons a l ih =>
    have ha := h a (List.mem_cons_self ..)
    rw [List.flatMap_cons]
    cases i with
    | zero => rw [List.getElem?_append_left (by omega)]; simp
    | succ i =>
      rw [List.getElem?_append_right (by rw [ha, Nat.succ_mul]; omega), ha]
      have e : (i + 1) * m + j - m = i * m + j := by rw [Nat.succ_mul]; omega
      rw [e, ih (fun x hx => h x (List.mem_cons_of_mem _ hx)) i (by simpa using hi)]
      simp
theorem permsL_length (n f : Nat) (bs : List Int) (h : (freeL n bs).length = f) : (permsL n f bs).length = fact f := by
  induction f generalizing bs with
  | zero => rfl
  | succ f ih =>
    rw [permsL, flat_length _ _ (fact f) (fun x hx => ih _ (by have := freeL_snoc_length hx; omega)), h]
    rfl
theorem permsL_mem {n f : Nat} {bs t : List Int} (h : t ∈ permsL n f bs) : ∃ s, t = bs ++ s ∧ s.length = f ∧ (∀ x ∈ s, x ∈ freeL n bs) ∧ s.Nodup := by
  induction f generalizing bs with
  | zero =>
    simp only [permsL, List.mem_singleton] at h
    exact ⟨[], by simp [h], rfl, by simp, List.nodup_nil⟩
  | succ f ih =>
    simp only [permsL, List.mem_flatMap] at h
    obtain ⟨x, hx, h⟩ := h
    obtain ⟨s, rfl, h1, h2, h3⟩ := ih h
    have h2' : ∀ y ∈ s, y ∈ freeL n bs ∧ y ≠ x := fun y hy => by
      have := h2 y hy
      rw [freeL_snoc, List.mem_filter] at this
      exact ⟨this.1, by simpa using this.2⟩
    refine ⟨x :: s, by simp, by simp [h1], fun y hy => ?_, List.nodup_cons.2 ⟨fun hx' => (h2' x hx').2 rfl, h3⟩⟩
    rcases List.mem_cons.1 hy with rfl | hy
    · exact hx
    · exact (h2' y hy).1
theorem permsL_all {n f : Nat} {bs s : List Int} (hl : s.length = f) (hs : ∀ x ∈ s, x ∈ freeL n bs) (hn : s.Nodup) : bs ++ s ∈ permsL n f bs := by
  induction f generalizing bs s with
  | zero =>
    obtain rfl := List.eq_nil_of_length_eq_zero hl
    simp [permsL]
  | succ f ih =>
    cases s with
    | nil => simp at hl
    | cons x s =>
      obtain ⟨h1, h2⟩ := List.nodup_cons.1 hn
      simp only [permsL, List.mem_flatMap]
      refine ⟨x, hs x (List.mem_cons_self ..), ?_⟩
      have := ih (bs := bs ++ [x]) (s := s) (by simpa using hl) (fun y hy => by
        rw [freeL_snoc, List.mem_filter]
        exact ⟨hs y (List.mem_cons_of_mem _ hy), by simp; rintro rfl; exact h1 hy⟩) h2
      simpa using this

/-- the rank of a list of different numbers among all with the same ones -/
def rankL : List Int → Nat
  | [] => 0
  | x :: r => r.countP (fun y => decide (y < x)) * fact r.length + rankL r
theorem rankL_lt (s : List Int) : rankL s < fact s.length := by
  induction s with
  | nil => decide
  | cons x r ih =>
    have h1 : r.countP (fun y => decide (y < x)) ≤ r.length := List.countP_le_length
    have h2 := Nat.mul_le_mul_right (fact r.length) h1
    simp only [rankL, List.length_cons, fact, Nat.succ_mul]
    omega
theorem rising_count {l : List Int} (h : l.Pairwise (· < ·)) (a : Nat) (ha : a < l.length) : l.countP (fun y => decide (y < l[a])) = a := by
  induction l generalizing a with
  | nil => simp at ha
  | cons x l ih =>
    obtain ⟨h1, h2⟩ := List.pairwise_cons.1 h
    cases a with
    | zero =>
      have hz : l.countP (fun y => decide (y < x)) = 0 := List.countP_eq_zero.2 fun y hy => by have := h1 y hy; simp; omega
      rw [List.countP_cons]
      simp only [List.getElem_cons_zero]
      rw [hz]
      simp
    | succ a =>
      have ha' : a < l.length := by simpa using ha
      have hx := h1 _ (List.getElem_mem ha')
      rw [List.countP_cons]
      simp only [List.getElem_cons_succ]
      rw [ih h2 a ha']
      simp [hx]
theorem permsL_rank {n f : Nat} {bs t : List Int} {i : Nat} (hf : (freeL n bs).length = f) (h : (permsL n f bs)[i]? = some t) : rankL (t.drop bs.length) = i := by
  induction f generalizing bs i with
  | zero =>
    simp only [permsL] at h
    have hi : i < 1 := (List.getElem?_eq_some_iff.1 h).1
    obtain rfl : i = 0 := by omega
    simp at h
    subst h
    simp [rankL]
  | succ f ih =>
    have hlen : ∀ x ∈ freeL n bs, (permsL n f (bs ++ [x])).length = fact f := fun x hx => permsL_length _ _ _ (by have := freeL_snoc_length hx; omega)
    have hi := (List.getElem?_eq_some_iff.1 h).1
    simp only [permsL] at hi h
    rw [flat_length _ _ _ hlen, hf] at hi
    have hp := fact_pos f
    have hj : i % fact f < fact f := Nat.mod_lt _ hp
    have ha : i / fact f < f + 1 := (Nat.div_lt_iff_lt_mul hp).2 hi
    have hd : i / fact f * fact f + i % fact f = i := by rw [Nat.mul_comm]; exact Nat.div_add_mod i (fact f)
    have e := flat_get (freeL n bs) (fun x => permsL n f (bs ++ [x])) (fact f) hlen (i / fact f) (i % fact f) (by omega) hj
    rw [hd, h] at e
    generalize hx : (freeL n bs)[i / fact f]'(by omega) = x at e
    have hxm : x ∈ freeL n bs := by rw [← hx]; exact List.getElem_mem _
    have hfl : (freeL n (bs ++ [x])).length = f := by have := freeL_snoc_length hxm; omega
    have hr := ih hfl e.symm
    obtain ⟨s, rfl, h1, h2, h3⟩ := permsL_mem (List.mem_of_getElem? e.symm)
    have hdr : (bs ++ [x] ++ s).drop bs.length = x :: s := by simp
    have hdr2 : (bs ++ [x] ++ s).drop (bs ++ [x]).length = s := List.drop_left
    rw [hdr2] at hr
    rw [hdr]
    simp only [rankL]
    rw [hr, h1]
    have hc : s.countP (fun y => decide (y < x)) = i / fact f := by
      rw [countP_same (l := s) (m := freeL n bs) _ h3 (freeL_nodup n bs) (fun y hy => ?_), ← hx]
      · exact rising_count (freeL_rising n bs) _ _
      · constructor
        · intro hys
          have := h2 y hys
          rw [freeL_snoc, List.mem_filter] at this
          exact this.1
        · intro hyf
          refine subset_of_le h3 h2 (by omega) y ?_
          rw [freeL_snoc, List.mem_filter]
          refine ⟨hyf, ?_⟩
          simp at hy ⊢
          omega
    rw [hc]
    exact hd

/-- all stacks of n, in order -/
def allS (n : Nat) : List (List Int) := permsL n n []
theorem allS_length (n : Nat) : (allS n).length = fact n := permsL_length n n [] (by rw [freeL_nil, ramp_length])
theorem mem_allS {n : Nat} (h1 : 1 ≤ n) (h9 : n ≤ 9) {s : List Int} : s ∈ allS n ↔ St n s := by
  constructor
  · intro h
    obtain ⟨t, e, hl, hm, hn⟩ := permsL_mem h
    rw [List.nil_append] at e
    subst e
    refine ⟨⟨by omega, by omega, fun x hx => ?_, hn⟩, hl⟩
    have := mem_freeL.1 (hm x hx)
    omega
  · rintro ⟨hg, hl⟩
    have := permsL_all (n := n) (bs := []) hl (fun x hx => mem_freeL.2 ⟨by have := hg.2.2.1 x hx; omega, by simp⟩) hg.2.2.2
    exact this
theorem allS_rank {n i : Nat} {s : List Int} (h : (allS n)[i]? = some s) : rankL s = i := by
  have := permsL_rank (bs := []) (by rw [freeL_nil, ramp_length]) h
  simpa using this
theorem allS_at {n : Nat} (h1 : 1 ≤ n) (h9 : n ≤ 9) {s : List Int} (h : St n s) : (allS n)[rankL s]? = some s := by
  obtain ⟨i, hi, e⟩ := List.getElem_of_mem ((mem_allS h1 h9).2 h)
  have e' : (allS n)[i]? = some s := by rw [List.getElem?_eq_getElem hi, e]
  rw [allS_rank e']
  exact e'
theorem rankL_inj {n : Nat} (h1 : 1 ≤ n) (h9 : n ≤ 9) {s t : List Int} (hs : St n s) (ht : St n t) (h : rankL s = rankL t) : s = t := by
  have e1 := allS_at h1 h9 hs
  have e2 := allS_at h1 h9 ht
  rw [h] at e1
  exact Option.some.inj (e1.symm.trans e2)
theorem allS_nodup (n : Nat) : (allS n).Nodup := by
  refine List.pairwise_iff_getElem.2 fun i j hi hj hij e => ?_
  have e1 := allS_rank (n := n) (List.getElem?_eq_getElem hi)
  have e2 := allS_rank (n := n) (List.getElem?_eq_getElem hj)
  rw [e] at e1
  omega
theorem rank_lt {n : Nat} {s : List Int} (h : St n s) : rankL s < fact n := by
  have := rankL_lt s
  rwa [h.2] at this
/-- the stack with a rank -/
def unrank (n r : Nat) : List Int := (allS n).getD r []
theorem unrank_rank {n : Nat} (h1 : 1 ≤ n) (h9 : n ≤ 9) {s : List Int} (h : St n s) : unrank n (rankL s) = s := by
  unfold unrank
  rw [List.getD_eq_getElem?_getD, allS_at h1 h9 h]
  rfl
theorem unrank_get {n r : Nat} (h : r < fact n) : (allS n)[r]? = some (unrank n r) := by
  unfold unrank
  rw [List.getD_eq_getElem?_getD, List.getElem?_eq_getElem (by rw [allS_length]; exact h)]
  rfl
theorem rank_unrank {n r : Nat} (h : r < fact n) : rankL (unrank n r) = r := allS_rank (unrank_get h)
theorem unrank_st {n r : Nat} (h1 : 1 ≤ n) (h9 : n ≤ 9) (h : r < fact n) : St n (unrank n r) := (mem_allS h1 h9).1 (List.mem_of_getElem? (unrank_get h))
theorem rankL_ramp (n : Nat) (k : Int) : rankL (ramp k n) = 0 := by
  have key : ∀ l : List Int, l.Pairwise (· < ·) → rankL l = 0 := by
    intro l
    induction l with
    | nil => intro _; rfl
    | cons x l ih =>
      intro h
      obtain ⟨h1, h2⟩ := List.pairwise_cons.1 h
      have hz : l.countP (fun y => decide (y < x)) = 0 := List.countP_eq_zero.2 fun y hy => by have := h1 y hy; simp; omega
      simp only [rankL, hz, ih h2]
      omega
  exact key _ (ramp_rising k n)

end Go.Pan

namespace Go.Pan

/-- the distance of the stack with a rank -/
def dS (n r : Nat) : Nat := far n (ramp 1 n) (unrank n r)
/-- the rank of what a turn makes of the stack with a rank -/
def nb (n r k : Nat) : Nat := rankL (turnL (unrank n r) k)
/-- 1 .. 9 pancakes -/
structure Cnt (n : Nat) : Prop where
  pos : 1 ≤ n
  le : n ≤ 9
section
variable {n : Nat} (hn : Cnt n)
include hn
theorem Cnt.home : St n (ramp 1 n) := St.ramp n hn.pos hn.le
theorem un_st {r : Nat} (h : r < fact n) : St n (unrank n r) := unrank_st hn.pos hn.le h
theorem nb_lt {r : Nat} (h : r < fact n) (k : Nat) : nb n r k < fact n := rank_lt ((un_st hn h).turn k)
theorem un_nb {r : Nat} (h : r < fact n) (k : Nat) : unrank n (nb n r k) = turnL (unrank n r) k := unrank_rank hn.pos hn.le ((un_st hn h).turn k)
theorem nb_nb {r : Nat} (h : r < fact n) (k : Nat) : nb n (nb n r k) k = r := by
  show rankL (turnL (unrank n (nb n r k)) k) = r
  rw [un_nb hn h, turnL_turnL, rank_unrank h]
theorem un_zero : unrank n 0 = ramp 1 n := by
  have := unrank_rank hn.pos hn.le hn.home
  rwa [rankL_ramp] at this
theorem dS_zero : dS n 0 = 0 := by
  show far n (ramp 1 n) (unrank n 0) = 0
  rw [un_zero hn]
  exact (far_zero hn.home hn.home).2 rfl
theorem dS_eq_zero {r : Nat} (h : r < fact n) (hd : dS n r = 0) : r = 0 := by
  have h1 := (far_zero hn.home (un_st hn h)).1 hd
  have h2 := rank_unrank h
  rw [← h1, rankL_ramp] at h2
  exact h2.symm
theorem dS_nb {r k : Nat} (h : r < fact n) (hk : k ∈ ks n) : dS n (nb n r k) ≤ dS n r + 1 ∧ dS n r ≤ dS n (nb n r k) + 1 := by
  unfold dS
  rw [un_nb hn h]
  exact far_one hk hn.home (un_st hn h)
theorem dS_prev {r d : Nat} (h : r < fact n) (hd : dS n r = d + 1) : ∃ k ∈ ks n, dS n (nb n r k) = d := by
  obtain ⟨k, hk, e⟩ := far_prev hn.home (un_st hn h) hd
  exact ⟨k, hk, by unfold dS; rw [un_nb hn h]; exact e⟩
theorem dS_le {r : Nat} (h : r < fact n) : dS n r ≤ 2 * n := (far_spec hn.home (un_st hn h)).2.1
end

/-- the queue before the number p of it is looked at -/
structure BQ (n : Nat) (Q : List Nat) (p : Nat) : Prop where
  lt : ∀ r ∈ Q, r < fact n
  nodup : Q.Nodup
  head : Q[0]? = some 0
  sorted : ∀ i j a b : Nat, i ≤ j → Q[i]? = some a → Q[j]? = some b → dS n a ≤ dS n b
  closed : ∀ i a : Nat, i < p → Q[i]? = some a → ∀ k ∈ ks n, nb n a k ∈ Q
  top : ∀ x : Nat, Q[p]? = some x → ∀ r ∈ Q, dS n r ≤ dS n x + 1
  hp : p ≤ Q.length
/-- .. the number x at the place p being looked at, the turns below k having been made -/
structure BI (n : Nat) (Q : List Nat) (p x k : Nat) : Prop extends BQ n Q p where
  cur : Q[p]? = some x
  done : ∀ k' ∈ ks n, k' < k → nb n x k' ∈ Q

section
variable {n : Nat} {Q : List Nat} {p x k : Nat}
theorem BQ.start (hn : Cnt n) : BQ n [0] 0 := by
  refine ⟨fun r hr => ?_, by simp, rfl, fun i j a b _ ha hb => ?_, fun i a h => by omega, fun x hx r hr => ?_, by simp⟩
  · simp at hr; subst hr; exact fact_pos n
  · have h1 : i < 1 := (List.getElem?_eq_some_iff.1 ha).1
    have h2 : j < 1 := (List.getElem?_eq_some_iff.1 hb).1
    obtain rfl : i = 0 := by omega
    obtain rfl : j = 0 := by omega
    rw [ha] at hb
    cases hb
    exact Nat.le_refl _
  · simp at hx hr
    subst hx; subst hr
    omega
theorem BQ.length_le (h : BQ n Q p) : Q.length ≤ fact n := by
  have h1 : (Q.map fun r : Nat => (r : Int)).Nodup := List.pairwise_map.2 (h.nodup.imp fun {a b} hab e => hab (by omega))
  have h2 := length_le_of_nodup_subset (Q.map fun r : Nat => (r : Int)) (ramp 0 (fact n)) h1 (fun y hy => by
    simp only [List.mem_map] at hy
    obtain ⟨r, hr, rfl⟩ := hy
    have := h.lt r hr
    exact mem_ramp.2 ⟨by omega, by omega⟩)
  rw [List.length_map, ramp_length] at h2
  exact h2
theorem BQ.inner (h : BQ n Q p) (hx : Q[p]? = some x) : BI n Q p x 2 := ⟨h, hx, fun k' hk' hlt => by have := mem_ks.1 hk'; omega⟩
/-- what is as near as the one that is looked at has been found -/
theorem BQ.low (hn : Cnt n) (h : BQ n Q p) (hx : Q[p]? = some x) : ∀ d r, r < fact n → dS n r = d → d ≤ dS n x → r ∈ Q
  | 0, r, hr, hd, _ => by
    obtain rfl := dS_eq_zero hn hr hd
    exact List.mem_of_getElem? h.head
  | d + 1, r, hr, hd, hle => by
    obtain ⟨k, hk, e⟩ := dS_prev hn hr hd
    have hy := BQ.low hn h hx d (nb n r k) (nb_lt hn hr k) e (by omega)
    obtain ⟨i, hi, ei⟩ := List.getElem_of_mem hy
    have ei' : Q[i]? = some (nb n r k) := by rw [List.getElem?_eq_getElem hi, ei]
    have hip : i < p := by
      by_cases hip : i < p
      · exact hip
      · have := h.sorted p i x _ (by omega) hx ei'
        omega
    have := h.closed i _ hip ei' k hk
    rwa [nb_nb hn hr] at this
theorem BI.next_old (h : BI n Q p x k) (ht : nb n x k ∈ Q) : BI n Q p x (k + 1) :=
  ⟨h.toBQ, h.cur, fun k' hk' hlt => by
    by_cases e : k' = k
    · subst e; exact ht
    · exact h.done k' hk' (by omega)⟩
theorem BI.far_new (hn : Cnt n) (h : BI n Q p x k) (hk : k ∈ ks n) (ht : nb n x k ∉ Q) : dS n (nb n x k) = dS n x + 1 := by
  have hxl := h.lt x (List.mem_of_getElem? h.cur)
  have h1 := dS_nb hn hxl hk
  have h2 : ¬ dS n (nb n x k) ≤ dS n x := fun hle => ht (h.toBQ.low hn h.cur _ _ (nb_lt hn hxl k) rfl hle)
  omega
theorem BI.next_new (hn : Cnt n) (h : BI n Q p x k) (hk : k ∈ ks n) (ht : nb n x k ∉ Q) : BI n (Q ++ [nb n x k]) p x (k + 1) := by
  have hxl := h.lt x (List.mem_of_getElem? h.cur)
  have hd := h.far_new hn hk ht
  have hpl : p < Q.length := (List.getElem?_eq_some_iff.1 h.cur).1
  have hget : ∀ i a, (Q ++ [nb n x k])[i]? = some a → (i < Q.length ∧ Q[i]? = some a) ∨ (i = Q.length ∧ a = nb n x k) := by
    intro i a hi
    by_cases hl : i < Q.length
    · exact .inl ⟨hl, by rwa [List.getElem?_append_left hl] at hi⟩
    · have h0 := (List.getElem?_eq_some_iff.1 hi).1
      rw [List.getElem?_append_right (by omega)] at hi
      simp at h0
      have e : i = Q.length := by omega
      subst e
      simp at hi
      exact .inr ⟨rfl, hi.symm⟩
  refine ⟨⟨fun r hr => ?_, ?_, ?_, ?_, ?_, ?_, by simp; omega⟩, ?_, ?_⟩
  · rcases List.mem_append.1 hr with hr | hr
    · exact h.lt r hr
    · simp at hr; subst hr; exact nb_lt hn hxl k
  · refine List.nodup_append.2 ⟨h.nodup, by simp, fun a ha b hb e => ?_⟩
    simp at hb
    subst hb
    subst e
    exact ht ha
  · rw [List.getElem?_append_left (by omega)]; exact h.head
  · intro i j a b hij ha hb
    rcases hget j b hb with ⟨hj, hb'⟩ | ⟨hj, rfl⟩
    · rcases hget i a ha with ⟨hi, ha'⟩ | ⟨hi, rfl⟩
      · exact h.sorted i j a b hij ha' hb'
      · omega
    · rcases hget i a ha with ⟨hi, ha'⟩ | ⟨hi, rfl⟩
      · have := h.top x h.cur a (List.mem_of_getElem? ha')
        omega
      · exact Nat.le_refl _
  · intro i a hi ha k' hk'
    rcases hget i a ha with ⟨hi', ha'⟩ | ⟨hi', rfl⟩
    · exact List.mem_append_left _ (h.closed i a hi ha' k' hk')
    · omega
  · intro y hy r hr
    rw [List.getElem?_append_left hpl, h.cur] at hy
    cases hy
    rcases List.mem_append.1 hr with hr | hr
    · exact h.top x h.cur r hr
    · simp at hr; subst hr; omega
  · rw [List.getElem?_append_left hpl]; exact h.cur
  · intro k' hk' hlt
    by_cases e : k' = k
    · subst e; exact List.mem_append_right _ (by simp)
    · exact List.mem_append_left _ (h.done k' hk' (by omega))
theorem BI.next (h : BI n Q p x (n + 1)) : BQ n Q (p + 1) := by
  have hpl : p < Q.length := (List.getElem?_eq_some_iff.1 h.cur).1
  refine ⟨h.lt, h.nodup, h.head, h.sorted, fun i a hi ha k' hk' => ?_, fun y hy r hr => ?_, hpl⟩
  · by_cases e : i = p
    · subst e
      rw [h.cur] at ha
      cases ha
      exact h.done k' hk' (by have := (mem_ks.1 hk').2; omega)
    · exact h.closed i a (by omega) ha k' hk'
  · have h1 := h.sorted p (p + 1) x y (by omega) h.cur hy
    have h2 := h.top x h.cur r hr
    omega
theorem BQ.all (hn : Cnt n) (h : BQ n Q Q.length) : ∀ d r, r < fact n → dS n r = d → r ∈ Q
  | 0, r, hr, hd => by
    obtain rfl := dS_eq_zero hn hr hd
    exact List.mem_of_getElem? h.head
  | d + 1, r, hr, hd => by
    obtain ⟨k, hk, e⟩ := dS_prev hn hr hd
    have hy := BQ.all hn h d (nb n r k) (nb_lt hn hr k) e
    obtain ⟨i, hi, ei⟩ := List.getElem_of_mem hy
    have := h.closed i _ hi (by rw [List.getElem?_eq_getElem hi, ei]) k hk
    rwa [nb_nb hn hr] at this

/-- the distances found -/
def Fl (n : Nat) (Q : List Nat) : List Int := (List.range (fact n)).map fun r => if r ∈ Q then (dS n r : Int) else -1
/-- the stacks found -/
def Xl (n : Nat) (Q : List Nat) : List (List Int) := (List.range (fact n)).map fun r => if r ∈ Q then unrank n r else []
theorem Fl_length (n : Nat) (Q : List Nat) : (Fl n Q).length = fact n := by simp [Fl]
theorem Xl_length (n : Nat) (Q : List Nat) : (Xl n Q).length = fact n := by simp [Xl]
theorem Fl_get {r : Nat} (h : r < fact n) : (Fl n Q)[r]'(by rw [Fl_length]; exact h) = if r ∈ Q then (dS n r : Int) else -1 := by simp [Fl]
theorem Xl_get {r : Nat} (h : r < fact n) : (Xl n Q)[r]'(by rw [Xl_length]; exact h) = if r ∈ Q then unrank n r else [] := by simp [Xl]
theorem Fl_snoc (n : Nat) (Q : List Nat) (t : Nat) : (Fl n Q).set t (dS n t : Int) = Fl n (Q ++ [t]) := by
  apply List.ext_getElem (by simp [Fl])
  intro i h1 h2
  simp only [Fl, List.getElem_set, List.getElem_map, List.getElem_range, List.mem_append, List.mem_singleton]
  by_cases e : t = i
  · subst e; simp
  · rw [if_neg e]
    have : (i = t) = False := by simp; omega
    simp [this]
theorem Xl_snoc (n : Nat) (Q : List Nat) (t : Nat) : (Xl n Q).set t (unrank n t) = Xl n (Q ++ [t]) := by
  apply List.ext_getElem (by simp [Xl])
  intro i h1 h2
  simp only [Xl, List.getElem_set, List.getElem_map, List.getElem_range, List.mem_append, List.mem_singleton]
  by_cases e : t = i
  · subst e; simp
  · rw [if_neg e]
    have : (i = t) = False := by simp; omega
    simp [this]

/-- what the turn k' adds to the number of r, P having been looked at, x being looked at with the turns below k -/
def cterm (n : Nat) (P : List Nat) (x k r k' : Nat) : Nat :=
  if (nb n r k' ∈ P ∨ (nb n r k' = x ∧ k' < k)) ∧ dS n (nb n r k') + 1 = dS n r then ways n (dS n (nb n r k')) (ramp 1 n) (unrank n (nb n r k')) else 0
def Cn (n : Nat) (P : List Nat) (x k r : Nat) : Nat := (if r = 0 then 1 else 0) + ((ks n).map (cterm n P x k r)).sum
/-- the numbers of plans found -/
def Cl (n : Nat) (P : List Nat) (x k : Nat) : List Int := (List.range (fact n)).map fun r => (Cn n P x k r : Int)
theorem Cl_length (n : Nat) (P : List Nat) (x k : Nat) : (Cl n P x k).length = fact n := by simp [Cl]
theorem Cl_get {P : List Nat} {x k r : Nat} (h : r < fact n) : (Cl n P x k)[r]'(by rw [Cl_length]; exact h) = (Cn n P x k r : Int) := by simp [Cl]
theorem ks_nodup (n : Nat) : (ks n).Nodup := by
  unfold ks
  exact List.pairwise_map.2 (List.Pairwise.imp (fun {a b} h => by omega) List.nodup_range)
theorem sum_one {l : List Nat} (hl : l.Nodup) {k : Nat} (hk : k ∈ l) (e : Nat) : (l.map fun k' => if k' = k then e else 0).sum = e := by
  induction l with
  | nil => cases hk
  | cons a l ih =>
    obtain ⟨h1, h2⟩ := List.nodup_cons.1 hl
    simp only [List.map_cons, List.sum_cons]
    by_cases ea : a = k
    · subst ea
      rw [if_pos rfl, sum_congr (g := fun _ => 0) (fun y hy => if_neg (by rintro rfl; exact h1 hy)), sum_map_zero]
      omega
    · rw [if_neg ea, ih h2 (by rcases List.mem_cons.1 hk with rfl | hk; exact absurd rfl ea; exact hk)]
      omega
theorem Cn_succ {P : List Nat} {x k r : Nat} (hk : k ∈ ks n) (hx : x ∉ P) :
    Cn n P x (k + 1) r = Cn n P x k r + if nb n r k = x ∧ dS n x + 1 = dS n r then ways n (dS n x) (ramp 1 n) (unrank n x) else 0 := by
  unfold Cn
  rw [sum_congr (g := fun k' => cterm n P x k r k' + if k' = k then (if nb n r k = x ∧ dS n x + 1 = dS n r then ways n (dS n x) (ramp 1 n) (unrank n x) else 0) else 0) (fun k' _ => ?_), sum_map_add, sum_one (ks_nodup n) hk]
  · omega
  · unfold cterm
    by_cases e : k' = k
    · subst e
      rw [if_pos rfl]
      by_cases h1 : nb n r k' ∈ P
      · have h2 : nb n r k' ≠ x := by rintro rfl; exact hx h1
        simp [h1, h2]
      · by_cases h2 : nb n r k' = x
        · simp [h2, hx]
        · simp [h1, h2]
    · rw [if_neg e]
      have : (k' < k + 1) = (k' < k) := by simp; omega
      simp [this]
theorem Cn_first (n : Nat) (P : List Nat) (x y r : Nat) : Cn n P x 2 r = Cn n P y 2 r := by
  unfold Cn
  congr 1
  refine sum_congr fun k' hk' => ?_
  have := mem_ks.1 hk'
  have e : (k' < 2) = False := by simp; omega
  simp [cterm, e]
theorem Cn_last (n : Nat) (P : List Nat) (x y r : Nat) : Cn n P x (n + 1) r = Cn n (P ++ [x]) y 2 r := by
  unfold Cn
  congr 1
  refine sum_congr fun k' hk' => ?_
  have := mem_ks.1 hk'
  have e : (k' < 2) = False := by simp; omega
  have e2 : (k' < n + 1) = True := by simp; omega
  simp [cterm, e, e2]
theorem Cn_full (hn : Cnt n) {P : List Nat} {x k r : Nat} (hr : r < fact n) (h : ∀ k' ∈ ks n, dS n (nb n r k') + 1 = dS n r → nb n r k' ∈ P) : Cn n P x k r = ways n (dS n r) (ramp 1 n) (unrank n r) := by
  unfold Cn
  cases hd : dS n r with
  | zero =>
    obtain rfl := dS_eq_zero hn hr hd
    rw [if_pos rfl, sum_congr (g := fun _ => 0) (fun k' _ => by simp [cterm, hd]), sum_map_zero, ways_zero, if_pos (un_zero hn).symm]
  | succ d =>
    rw [if_neg (by rintro rfl; rw [dS_zero hn] at hd; omega), Nat.zero_add, ways_last]
    refine sum_congr fun k' hk' => ?_
    rw [← un_nb hn hr k']
    unfold cterm
    have hs := un_st hn (nb_lt hn hr k')
    by_cases e : dS n (nb n r k') + 1 = dS n r
    · rw [if_pos ⟨.inl (h k' hk' e), e⟩]
      congr 1
      omega
    · rw [if_neg (fun c => e c.2)]
      have h1 := (dS_nb hn hr hk').2
      exact (ways_far hn.home hs (show d < dS n (nb n r k') by omega)).symm
theorem BI.cur_count (hn : Cnt n) (h : BI n Q p x k) (y k' : Nat) : Cn n (Q.take p) y k' x = ways n (dS n x) (ramp 1 n) (unrank n x) := by
  have hxl := h.lt x (List.mem_of_getElem? h.cur)
  refine Cn_full hn hxl fun k'' _ he => ?_
  have hm := h.toBQ.low hn h.cur (dS n (nb n x k'')) _ (nb_lt hn hxl k'') rfl (by omega)
  obtain ⟨i, hi, ei⟩ := List.getElem_of_mem hm
  have ei' : Q[i]? = some (nb n x k'') := by rw [List.getElem?_eq_getElem hi, ei]
  have hip : i < p := by
    by_cases hip : i < p
    · exact hip
    · have := h.sorted p i x _ (by omega) h.cur ei'
      omega
  exact List.mem_of_getElem? (i := i) (by rw [List.getElem?_take, if_pos hip]; exact ei')
theorem BI.not_done (h : BI n Q p x k) : x ∉ Q.take p := by
  intro hm
  obtain ⟨i, hi, ei⟩ := List.getElem_of_mem hm
  have hpl : p < Q.length := (List.getElem?_eq_some_iff.1 h.cur).1
  obtain ⟨_, hx⟩ := List.getElem?_eq_some_iff.1 h.cur
  simp at hi
  have e : Q[i]'(by omega) = Q[p] := (show Q[i]'(by omega) = x by rw [← ei]; simp).trans hx.symm
  exact (List.pairwise_iff_getElem.1 h.nodup i p (by omega) hpl (by omega)) e
/-- the number of plans that is added to -/
theorem BI.count_yes (hn : Cnt n) (h : BI n Q p x k) (hk : k ∈ ks n) (hd : dS n (nb n x k) = dS n x + 1) :
    (Cl n (Q.take p) x k).set (nb n x k) ((Cn n (Q.take p) x k (nb n x k) : Int) + (Cn n (Q.take p) x k x : Int)) = Cl n (Q.take p) x (k + 1) := by
  have hxl := h.lt x (List.mem_of_getElem? h.cur)
  apply List.ext_getElem (by simp [Cl])
  intro i h1 h2
  simp only [Cl, List.getElem_set, List.getElem_map, List.getElem_range]
  rw [Cl_length] at h2
  rw [Cn_succ hk h.not_done]
  by_cases e : nb n x k = i
  · subst e
    rw [if_pos rfl, if_pos ⟨nb_nb hn hxl k, by omega⟩, h.cur_count hn]
    omega
  · rw [if_neg e, if_neg (fun c => e (by rw [← c.1]; exact nb_nb hn h2 k))]
    omega
theorem BI.count_no (hn : Cnt n) (h : BI n Q p x k) (hk : k ∈ ks n) (hd : dS n (nb n x k) ≠ dS n x + 1) : Cl n (Q.take p) x k = Cl n (Q.take p) x (k + 1) := by
  apply List.ext_getElem (by simp [Cl])
  intro i h1 h2
  simp only [Cl, List.getElem_map, List.getElem_range]
  rw [Cl_length] at h2
  rw [Cn_succ hk h.not_done, if_neg ?_]
  · omega
  · rintro ⟨e, e2⟩
    subst e
    rw [nb_nb hn h2] at hd
    omega
theorem Cl_first (n : Nat) (P : List Nat) (x y : Nat) : Cl n P x 2 = Cl n P y 2 := by
  unfold Cl
  simp only [Cn_first n P x y]
theorem BI.count_last (h : BI n Q p x (n + 1)) (y : Nat) : Cl n (Q.take p) x (n + 1) = Cl n (Q.take (p + 1)) y 2 := by
  have hp := List.getElem?_eq_some_iff.1 h.cur
  rw [List.take_succ_eq_append_getElem hp.1, hp.2]
  unfold Cl
  simp only [Cn_last n _ x y]
theorem Cn_le (hn : Cnt n) (P : List Nat) (x k r : Nat) (hr : r < fact n) : Cn n P x k r ≤ 1 + (n - 1) * (n - 1) ^ (2 * n) := by
  unfold Cn
  have h := sum_le (ks n) (cterm n P x k r) ((n - 1) ^ (2 * n)) (fun k' hk' => by
    have := mem_ks.1 hk'
    unfold cterm
    split
    · exact Nat.le_trans (ways_le _ _ _ _) (Nat.pow_le_pow_right (by omega) (dS_le hn (nb_lt hn hr k')))
    · exact Nat.zero_le _)
  rw [ks_length] at h
  split <;> omega

/-- all distances, numbers of plans, and stacks -/
def farL (n : Nat) : List Int := (List.range (fact n)).map fun r => (dS n r : Int)
def cntL (n : Nat) : List Int := (List.range (fact n)).map fun r => (ways n (dS n r) (ramp 1 n) (unrank n r) : Int)
theorem BQ.farL (hn : Cnt n) (h : BQ n Q Q.length) : Fl n Q = farL n := by
  unfold Fl Pan.farL
  refine List.map_congr_left fun r hr => ?_
  rw [if_pos (h.all hn _ r (List.mem_range.1 hr) rfl)]
theorem BQ.allS (hn : Cnt n) (h : BQ n Q Q.length) : Xl n Q = allS n := by
  apply List.ext_getElem (by rw [Xl_length, allS_length])
  intro i h1 h2
  rw [Xl_length] at h1
  rw [Xl_get h1, if_pos (h.all hn _ i h1 rfl)]
  have := unrank_get h1
  rw [List.getElem?_eq_getElem h2] at this
  exact (Option.some.inj this).symm
theorem BQ.cntL (hn : Cnt n) (h : BQ n Q Q.length) (y : Nat) : Cl n (Q.take Q.length) y 2 = cntL n := by
  unfold Cl Pan.cntL
  refine List.map_congr_left fun r hr => ?_
  rw [List.take_length, Cn_full hn (List.mem_range.1 hr) fun k' _ _ => h.all hn _ _ (nb_lt hn (List.mem_range.1 hr) k') rfl]
theorem Cl_start (hn : Cnt n) (y : Nat) : Cl n ([0].take 0) y 2 = (List.replicate (fact n) 0).set 0 1 := by
  apply List.ext_getElem (by simp [Cl])
  intro i h1 h2
  rw [Cl_length] at h1
  rw [Cl_get h1]
  simp only [List.getElem_set, List.getElem_replicate]
  have hz : ((ks n).map (cterm n [] y 2 i)).sum = 0 := by
    rw [sum_congr (g := fun _ => 0) (fun k' hk' => ?_), sum_map_zero]
    have := mem_ks.1 hk'
    have e : (k' < 2) = False := by simp; omega
    simp [cterm, e]
  unfold Cn
  simp only [List.take_zero, hz]
  by_cases e : i = 0
  · subst e; simp
  · have e' : ¬ 0 = i := by omega
    simp [e, e']
end

end Go.Pan

namespace Go.Pan

/-- a layer: how many plans lead to a stack, 0 to one that isn't in it -/
abbrev LC := List Int → Nat
def oneC (s : List Int) : LC := fun q => if q = s then 1 else 0
def behindC (n : Nat) (c : LC) : LC := fun q => ((ks n).map fun k => c (turnL q k)).sum
def keepC (c o : LC) : LC := fun q => if 0 < o q then c q else 0
def dropC (c o : LC) : LC := fun q => if 0 < o q then 0 else c q
def meetC (n : Nat) (c o : LC) : Prop := ∃ q, St n q ∧ 0 < c q ∧ 0 < o q
/-- the same of all stacks of n -/
def EqC (n : Nat) (c o : LC) : Prop := ∀ q, St n q → c q = o q
theorem EqC.refl (n : Nat) (c : LC) : EqC n c c := fun _ _ => rfl
theorem EqC.symm {n : Nat} {c o : LC} (h : EqC n c o) : EqC n o c := fun q hq => (h q hq).symm
theorem EqC.trans {n : Nat} {c o u : LC} (h : EqC n c o) (h' : EqC n o u) : EqC n c u := fun q hq => (h q hq).trans (h' q hq)
theorem EqC.behind {n : Nat} {c o : LC} (h : EqC n c o) : EqC n (behindC n c) (behindC n o) := fun q hq => sum_congr fun k _ => h _ (hq.turn k)
theorem EqC.keep {n : Nat} {c o c' o' : LC} (h : EqC n c o) (h' : EqC n c' o') : EqC n (keepC c c') (keepC o o') := fun q hq => by unfold keepC; rw [h q hq, h' q hq]
theorem EqC.drop {n : Nat} {c o c' o' : LC} (h : EqC n c o) (h' : EqC n c' o') : EqC n (dropC c c') (dropC o o') := fun q hq => by unfold dropC; rw [h q hq, h' q hq]
theorem EqC.meet {n : Nat} {c o c' o' : LC} (h : EqC n c o) (h' : EqC n c' o') : meetC n c c' ↔ meetC n o o' := by
  unfold meetC
  constructor
  · rintro ⟨q, hq, h1, h2⟩; exact ⟨q, hq, by rw [← h q hq]; exact h1, by rw [← h' q hq]; exact h2⟩
  · rintro ⟨q, hq, h1, h2⟩; exact ⟨q, hq, by rw [h q hq]; exact h1, by rw [h' q hq]; exact h2⟩

/-- the stacks at the distance i from s -/
def nearC (n : Nat) (s : List Int) (i : Nat) : LC := fun q => if far n s q = i then ways n i s q else 0
/-- .. those of them from which t is j turns away -/
def wayC (n : Nat) (s t : List Int) (i j : Nat) : LC := fun q => if far n s q = i ∧ far n q t = j then ways n i s q else 0
/-- the ends of all plans of i turns -/
def allC (n : Nat) (s : List Int) (i : Nat) : LC := fun q => ways n i s q

section
variable {n : Nat} {s t : List Int}
theorem allC_zero (n : Nat) (s : List Int) : EqC n (oneC s) (allC n s 0) := fun q _ => by
  unfold oneC allC
  rw [ways_zero]
  by_cases h : q = s
  · rw [if_pos h, if_pos h.symm]
  · rw [if_neg h, if_neg (fun e => h e.symm)]
theorem allC_succ (n : Nat) (s : List Int) (i : Nat) : behindC n (allC n s i) = allC n s (i + 1) := rfl
theorem nearC_pos (hs : St n s) {i : Nat} {q : List Int} (hq : St n q) : 0 < nearC n s i q ↔ far n s q = i := by
  unfold nearC
  split
  · rename_i h; exact ⟨fun _ => h, fun _ => ways_pos_far hs hq h⟩
  · rename_i h; exact ⟨fun h' => by omega, fun h' => absurd h' h⟩
theorem wayC_pos (hs : St n s) {i j : Nat} {q : List Int} (hq : St n q) : 0 < wayC n s t i j q ↔ far n s q = i ∧ far n q t = j := by
  unfold wayC
  split
  · rename_i h; exact ⟨fun _ => h, fun _ => ways_pos_far hs hq h.1⟩
  · rename_i h; exact ⟨fun h' => by omega, fun h' => absurd h' h⟩
theorem nearC_zero (hs : St n s) : EqC n (oneC s) (nearC n s 0) := fun q hq => by
  unfold oneC nearC
  rw [ways_zero]
  by_cases h : q = s
  · subst h
    simp [(far_zero hq hq).2 rfl]
  · rw [if_neg h]
    split
    · rw [if_neg (fun e => h e.symm)]
    · rfl
theorem behind_pos {c : LC} {q : List Int} : 0 < behindC n c q ↔ ∃ k ∈ ks n, 0 < c (turnL q k) := sum_pos
/-- the plans that go on from the distance i: at the distance i + 1 they are all -/
theorem behind_near (hs : St n s) {i : Nat} {q : List Int} (hq : St n q) (h : far n s q = i + 1) : behindC n (nearC n s i) q = ways n (i + 1) s q := by
  rw [ways_last]
  refine sum_congr fun k hk => ?_
  unfold nearC
  split
  · rfl
  · rename_i hne
    have h1 := (far_one hk hs hq).2
    exact (ways_far hs (hq.turn k) (by omega)).symm
theorem grown_first (hs : St n s) : EqC n (dropC (behindC n (nearC n s 0)) (nearC n s 0)) (nearC n s 1) := fun q hq => by
  unfold dropC
  by_cases h0 : far n s q = 0
  · rw [if_pos ((nearC_pos hs hq).2 h0)]
    unfold nearC
    rw [if_neg (by omega)]
  · rw [if_neg (fun h => h0 ((nearC_pos hs hq).1 h))]
    by_cases h1 : far n s q = 1
    · rw [behind_near hs hq h1]
      unfold nearC
      rw [if_pos h1]
    · have hz : ¬ 0 < behindC n (nearC n s 0) q := fun h => by
        obtain ⟨k, hk, h⟩ := behind_pos.1 h
        have h2 := (nearC_pos hs (hq.turn k)).1 h
        have h3 := (far_one hk hs hq).2
        omega
      unfold nearC at hz ⊢
      rw [if_neg h1]
      omega
theorem grown_next (hs : St n s) (i : Nat) : EqC n (dropC (dropC (behindC n (nearC n s (i + 1))) (nearC n s i)) (nearC n s (i + 1))) (nearC n s (i + 2)) := fun q hq => by
  unfold dropC
  by_cases h0 : far n s q = i + 1
  · rw [if_pos ((nearC_pos hs hq).2 h0)]
    unfold nearC
    rw [if_neg (by omega)]
  · rw [if_neg (fun h => h0 ((nearC_pos hs hq).1 h))]
    by_cases h00 : far n s q = i
    · rw [if_pos ((nearC_pos hs hq).2 h00)]
      unfold nearC
      rw [if_neg (by omega)]
    · rw [if_neg (fun h => h00 ((nearC_pos hs hq).1 h))]
      by_cases h1 : far n s q = i + 2
      · rw [behind_near hs hq h1]
        unfold nearC
        rw [if_pos h1]
      · have hz : ¬ 0 < behindC n (nearC n s (i + 1)) q := fun h => by
          obtain ⟨k, hk, h⟩ := behind_pos.1 h
          have h2 := (nearC_pos hs (hq.turn k)).1 h
          have h3 := far_one hk hs hq
          omega
        unfold nearC at hz ⊢
        rw [if_neg h1]
        omega
theorem near_meet (hs : St n s) (ht : St n t) {a b : Nat} (h : a + b ≤ far n s t) : meetC n (nearC n s a) (nearC n t b) ↔ far n s t = a + b := by
  constructor
  · rintro ⟨q, hq, h1, h2⟩
    have h1 := (nearC_pos hs hq).1 h1
    have h2 := (nearC_pos ht hq).1 h2
    have h3 := far_tri hs hq ht
    rw [far_symm ht hq] at h2
    omega
  · intro e
    obtain ⟨u, hu, h1, h2⟩ := far_mid hs ht e
    exact ⟨u, hu, (nearC_pos hs hu).2 h1, (nearC_pos ht hu).2 (by rw [far_symm ht hu]; exact h2)⟩
/-- the layers of a way, from the last of those that have been found from s -/
theorem way_mid (hs : St n s) (ht : St n t) (a b : Nat) : EqC n (keepC (nearC n s a) (nearC n t b)) (wayC n s t a b) := fun q hq => by
  unfold keepC
  by_cases h2 : far n q t = b
  · rw [if_pos ((nearC_pos ht hq).2 (by rw [far_symm ht hq]; exact h2))]
    unfold nearC wayC
    by_cases h1 : far n s q = a
    · rw [if_pos h1, if_pos ⟨h1, h2⟩]
    · rw [if_neg h1, if_neg (fun h => h1 h.1)]
  · rw [if_neg (fun h => h2 (by rw [← far_symm ht hq]; exact (nearC_pos ht hq).1 h))]
    unfold wayC
    rw [if_neg (fun h => h2 h.2)]
theorem way_back (hs : St n s) (ht : St n t) {i j : Nat} (hd : far n s t = i + (j + 1)) : EqC n (keepC (nearC n s i) (behindC n (wayC n s t (i + 1) j))) (wayC n s t i (j + 1)) := fun q hq => by
  unfold keepC
  have key : far n s q = i → (0 < behindC n (wayC n s t (i + 1) j) q ↔ far n q t = j + 1) := fun hi => by
    rw [behind_pos]
    constructor
    · rintro ⟨k, hk, h⟩
      have h1 := (wayC_pos hs (hq.turn k)).1 h
      have h2 := (far_one hk ht hq).2
      rw [far_symm ht hq, far_symm ht (hq.turn k)] at h2
      have h3 := far_tri hs hq ht
      omega
    · intro h
      obtain ⟨k, hk, e⟩ := far_prev ht hq (show far n t q = j + 1 by rw [far_symm ht hq]; exact h)
      rw [far_symm ht (hq.turn k)] at e
      refine ⟨k, hk, (wayC_pos hs (hq.turn k)).2 ⟨?_, e⟩⟩
      have h1 := (far_one hk hs hq).1
      have h2 := far_tri hs (hq.turn k) ht
      omega
  by_cases hi : far n s q = i
  · by_cases hj : far n q t = j + 1
    · rw [if_pos ((key hi).2 hj)]
      unfold nearC wayC
      rw [if_pos hi, if_pos ⟨hi, hj⟩]
    · rw [if_neg (fun h => hj ((key hi).1 h))]
      unfold wayC
      rw [if_neg (fun h => hj h.2)]
  · have h1 : nearC n s i q = 0 := by unfold nearC; rw [if_neg hi]
    have h2 : wayC n s t i (j + 1) q = 0 := by unfold wayC; rw [if_neg (fun h => hi h.1)]
    rw [h1, h2]
    split <;> rfl
theorem way_forth (hs : St n s) (ht : St n t) {i j : Nat} (hd : far n s t = i + (j + 1)) : EqC n (keepC (behindC n (wayC n s t i (j + 1))) (nearC n t j)) (wayC n s t (i + 1) j) := fun q hq => by
  unfold keepC
  by_cases hj : far n q t = j
  · rw [if_pos ((nearC_pos ht hq).2 (by rw [far_symm ht hq]; exact hj))]
    have h0 := far_tri hs hq ht
    by_cases hi : far n s q = i + 1
    · unfold wayC
      rw [if_pos ⟨hi, hj⟩, ways_last]
      refine sum_congr fun k hk => ?_
      show (if far n s (turnL q k) = i ∧ far n (turnL q k) t = j + 1 then ways n i s (turnL q k) else 0) = _
      have h1 := (far_one hk hs hq).2
      by_cases h2 : far n s (turnL q k) = i
      · have h3 := far_tri hs (hq.turn k) ht
        have h4 := (far_one hk ht hq).1
        rw [far_symm ht hq, far_symm ht (hq.turn k)] at h4
        rw [if_pos ⟨h2, by omega⟩]
      · rw [if_neg (fun h => h2 h.1)]
        exact (ways_far hs (hq.turn k) (by omega)).symm
    · have hz : ¬ 0 < behindC n (wayC n s t i (j + 1)) q := fun h => by
        obtain ⟨k, hk, h⟩ := behind_pos.1 h
        have h1 := (wayC_pos hs (hq.turn k)).1 h
        have h2 := (far_one hk hs hq).2
        omega
      have h2 : wayC n s t (i + 1) j q = 0 := by unfold wayC; rw [if_neg (fun h => hi h.1)]
      omega
  · rw [if_neg (fun h => hj (by rw [← far_symm ht hq]; exact (nearC_pos ht hq).1 h))]
    unfold wayC
    rw [if_neg (fun h => hj h.2)]
end

/-- the layers of a way of d turns from the number i on -/
def wayL (n : Nat) (s t : List Int) (d : Nat) : List LC := (List.range (d + 1)).map fun i => wayC n s t i (d - i)
def nearL (n : Nat) (s : List Int) (a : Nat) : List LC := (List.range (a + 1)).map fun i => nearC n s i

-- bounds
theorem pow_bound {n d : Nat} (hn : n ≤ 7) (hd : d ≤ 15) : (n - 1) ^ d ≤ 470184984576 := by
  have h1 : (n - 1) ^ d ≤ 6 ^ d := Nat.pow_le_pow_left (by omega) d
  have h2 : 6 ^ d ≤ 6 ^ 15 := Nat.pow_le_pow_right (by omega) hd
  have h3 : (6 : Nat) ^ 15 = 470184984576 := by decide
  omega
theorem fact_le {n : Nat} (hn : n ≤ 9) : fact n ≤ 362880 := by
  have h := fact_mono hn
  have h2 : fact 9 = 362880 := by decide
  omega

end Go.Pan

