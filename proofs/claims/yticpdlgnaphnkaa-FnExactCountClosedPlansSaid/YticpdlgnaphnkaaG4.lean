import Derived.Test.YticpdlgnaphnkaaG3
namespace Go.Pan

/-- a layer: how many plans lead to a stack, 0 to one that isn't in it -/
abbrev LC := List Int → Nat
def oneC (s : List Int) : LC := fun q => if q = s then 1 else 0
def behindC (n : Nat) (c : LC) : LC := fun q => ((ks n).map fun k => c (turnL q k)).sum
def keepC (c o : LC) : LC := fun q => if 0 < o q then c q else 0
def dropC (c o : LC) : LC := fun q => if 0 < o q then 0 else c q
def meetC (n : Nat) (c o : LC) : Prop := ∃ q, St n q ∧ 0 < c q ∧ 0 < o q
/-- the same of all stacks of n -/
def EqC (n : Nat) (c o : LC) : Prop := ∀ q, St n q → c q = o q
theorem EqC.refl (n : Nat) (c : LC) : EqC n c c := fun _ _ => rfl
theorem EqC.symm {n : Nat} {c o : LC} (h : EqC n c o) : EqC n o c := fun q hq => (h q hq).symm
theorem EqC.trans {n : Nat} {c o u : LC} (h : EqC n c o) (h' : EqC n o u) : EqC n c u := fun q hq => (h q hq).trans (h' q hq)
theorem EqC.behind {n : Nat} {c o : LC} (h : EqC n c o) : EqC n (behindC n c) (behindC n o) := fun q hq => sum_congr fun k _ => h _ (hq.turn k)
theorem EqC.keep {n : Nat} {c o c' o' : LC} (h : EqC n c o) (h' : EqC n c' o') : EqC n (keepC c c') (keepC o o') := fun q hq => by unfold keepC; rw [h q hq, h' q hq]
theorem EqC.drop {n : Nat} {c o c' o' : LC} (h : EqC n c o) (h' : EqC n c' o') : EqC n (dropC c c') (dropC o o') := fun q hq => by unfold dropC; rw [h q hq, h' q hq]
theorem EqC.meet {n : Nat} {c o c' o' : LC} (h : EqC n c o) (h' : EqC n c' o') : meetC n c c' ↔ meetC n o o' := by
  unfold meetC
  constructor
  · rintro ⟨q, hq, h1, h2⟩; exact ⟨q, hq, by rw [← h q hq]; exact h1, by rw [← h' q hq]; exact h2⟩
  · rintro ⟨q, hq, h1, h2⟩; exact ⟨q, hq, by rw [h q hq]; exact h1, by rw [h' q hq]; exact h2⟩

/-- the stacks at the distance i from s -/
def nearC (n : Nat) (s : List Int) (i : Nat) : LC := fun q => if far n s q = i then ways n i s q else 0
/-- .. those of them from which t is j turns away -/
def wayC (n : Nat) (s t : List Int) (i j : Nat) : LC := fun q => if far n s q = i ∧ far n q t = j then ways n i s q else 0
/-- the ends of all plans of i turns -/
def allC (n : Nat) (s : List Int) (i : Nat) : LC := fun q => ways n i s q

section
variable {n : Nat} {s t : List Int}
theorem allC_zero (n : Nat) (s : List Int) : EqC n (oneC s) (allC n s 0) := fun q _ => by
  unfold oneC allC
  rw [ways_zero]
  by_cases h : q = s
  · rw [if_pos h, if_pos h.symm]
  · rw [if_neg h, if_neg (fun e => h e.symm)]
theorem allC_succ (n : Nat) (s : List Int) (i : Nat) : behindC n (allC n s i) = allC n s (i + 1) := rfl
theorem nearC_pos (hs : St n s) {i : Nat} {q : List Int} (hq : St n q) : 0 < nearC n s i q ↔ far n s q = i := by
  unfold nearC
  split
  · rename_i h; exact ⟨fun _ => h, fun _ => ways_pos_far hs hq h⟩
  · rename_i h; exact ⟨fun h' => by omega, fun h' => absurd h' h⟩
theorem wayC_pos (hs : St n s) {i j : Nat} {q : List Int} (hq : St n q) : 0 < wayC n s t i j q ↔ far n s q = i ∧ far n q t = j := by
  unfold wayC
  split
  · rename_i h; exact ⟨fun _ => h, fun _ => ways_pos_far hs hq h.1⟩
  · rename_i h; exact ⟨fun h' => by omega, fun h' => absurd h' h⟩
theorem nearC_zero (hs : St n s) : EqC n (oneC s) (nearC n s 0) := fun q hq => by
  unfold oneC nearC
  rw [ways_zero]
  by_cases h : q = s
  · subst h
    simp [(far_zero hq hq).2 rfl]
  · rw [if_neg h]
    split
    · rw [if_neg (fun e => h e.symm)]
    · rfl
theorem behind_pos {c : LC} {q : List Int} : 0 < behindC n c q ↔ ∃ k ∈ ks n, 0 < c (turnL q k) := sum_pos
/-- the plans that go on from the distance i: at the distance i + 1 they are all -/
theorem behind_near (hs : St n s) {i : Nat} {q : List Int} (hq : St n q) (h : far n s q = i + 1) : behindC n (nearC n s i) q = ways n (i + 1) s q := by
  rw [ways_last]
  refine sum_congr fun k hk => ?_
  unfold nearC
  split
  · rfl
  · rename_i hne
    have h1 := (far_one hk hs hq).2
    exact (ways_far hs (hq.turn k) (by omega)).symm
theorem grown_first (hs : St n s) : EqC n (dropC (behindC n (nearC n s 0)) (nearC n s 0)) (nearC n s 1) := fun q hq => by
  unfold dropC
  by_cases h0 : far n s q = 0
  · rw [if_pos ((nearC_pos hs hq).2 h0)]
    unfold nearC
    rw [if_neg (by omega)]
  · rw [if_neg (fun h => h0 ((nearC_pos hs hq).1 h))]
    by_cases h1 : far n s q = 1
    · rw [behind_near hs hq h1]
      unfold nearC
      rw [if_pos h1]
    · have hz : ¬ 0 < behindC n (nearC n s 0) q := fun h => by
        obtain ⟨k, hk, h⟩ := behind_pos.1 h
        have h2 := (nearC_pos hs (hq.turn k)).1 h
        have h3 := (far_one hk hs hq).2
        omega
      unfold nearC at hz ⊢
      rw [if_neg h1]
      omega
theorem grown_next (hs : St n s) (i : Nat) : EqC n (dropC (dropC (behindC n (nearC n s (i + 1))) (nearC n s i)) (nearC n s (i + 1))) (nearC n s (i + 2)) := fun q hq => by
  unfold dropC
  by_cases h0 : far n s q = i + 1
  · rw [if_pos ((nearC_pos hs hq).2 h0)]
    unfold nearC
    rw [if_neg (by omega)]
  · rw [if_neg (fun h => h0 ((nearC_pos hs hq).1 h))]
    by_cases h00 : far n s q = i
    · rw [if_pos ((nearC_pos hs hq).2 h00)]
      unfold nearC
      rw [if_neg (by omega)]
    · rw [if_neg (fun h => h00 ((nearC_pos hs hq).1 h))]
      by_cases h1 : far n s q = i + 2
      · rw [behind_near hs hq h1]
        unfold nearC
        rw [if_pos h1]
      · have hz : ¬ 0 < behindC n (nearC n s (i + 1)) q := fun h => by
          obtain ⟨k, hk, h⟩ := behind_pos.1 h
          have h2 := (nearC_pos hs (hq.turn k)).1 h
          have h3 := far_one hk hs hq
          omega
        unfold nearC at hz ⊢
        rw [if_neg h1]
        omega
theorem near_meet (hs : St n s) (ht : St n t) {a b : Nat} (h : a + b ≤ far n s t) : meetC n (nearC n s a) (nearC n t b) ↔ far n s t = a + b := by
  constructor
  · rintro ⟨q, hq, h1, h2⟩
    have h1 := (nearC_pos hs hq).1 h1
    have h2 := (nearC_pos ht hq).1 h2
    have h3 := far_tri hs hq ht
    rw [far_symm ht hq] at h2
    omega
  · intro e
    obtain ⟨u, hu, h1, h2⟩ := far_mid hs ht e
    exact ⟨u, hu, (nearC_pos hs hu).2 h1, (nearC_pos ht hu).2 (by rw [far_symm ht hu]; exact h2)⟩
/-- the layers of a way, from the last of those that have been found from s -/
theorem way_mid (hs : St n s) (ht : St n t) (a b : Nat) : EqC n (keepC (nearC n s a) (nearC n t b)) (wayC n s t a b) := fun q hq => by
  unfold keepC
  by_cases h2 : far n q t = b
  · rw [if_pos ((nearC_pos ht hq).2 (by rw [far_symm ht hq]; exact h2))]
    unfold nearC wayC
    by_cases h1 : far n s q = a
    · rw [if_pos h1, if_pos ⟨h1, h2⟩]
    · rw [if_neg h1, if_neg (fun h => h1 h.1)]
  · rw [if_neg (fun h => h2 (by rw [← far_symm ht hq]; exact (nearC_pos ht hq).1 h))]
    unfold wayC
    rw [if_neg (fun h => h2 h.2)]
theorem way_back (hs : St n s) (ht : St n t) {i j : Nat} (hd : far n s t = i + (j + 1)) : EqC n (keepC (nearC n s i) (behindC n (wayC n s t (i + 1) j))) (wayC n s t i (j + 1)) := fun q hq => by
  unfold keepC
  have key : far n s q = i → (0 < behindC n (wayC n s t (i + 1) j) q ↔ far n q t = j + 1) := fun hi => by
    rw [behind_pos]
    constructor
    · rintro ⟨k, hk, h⟩
      have h1 := (wayC_pos hs (hq.turn k)).1 h
      have h2 := (far_one hk ht hq).2
      rw [far_symm ht hq, far_symm ht (hq.turn k)] at h2
      have h3 := far_tri hs hq ht
      omega
    · intro h
      obtain ⟨k, hk, e⟩ := far_prev ht hq (show far n t q = j + 1 by rw [far_symm ht hq]; exact h)
      rw [far_symm ht (hq.turn k)] at e
      refine ⟨k, hk, (wayC_pos hs (hq.turn k)).2 ⟨?_, e⟩⟩
      have h1 := (far_one hk hs hq).1
      have h2 := far_tri hs (hq.turn k) ht
      omega
  by_cases hi : far n s q = i
  · by_cases hj : far n q t = j + 1
    · rw [if_pos ((key hi).2 hj)]
      unfold nearC wayC
      rw [if_pos hi, if_pos ⟨hi, hj⟩]
    · rw [if_neg (fun h => hj ((key hi).1 h))]
      unfold wayC
      rw [if_neg (fun h => hj h.2)]
  · have h1 : nearC n s i q = 0 := by unfold nearC; rw [if_neg hi]
    have h2 : wayC n s t i (j + 1) q = 0 := by unfold wayC; rw [if_neg (fun h => hi h.1)]
    rw [h1, h2]
    split <;> rfl
theorem way_forth (hs : St n s) (ht : St n t) {i j : Nat} (hd : far n s t = i + (j + 1)) : EqC n (keepC (behindC n (wayC n s t i (j + 1))) (nearC n t j)) (wayC n s t (i + 1) j) := fun q hq => by
  unfold keepC
  by_cases hj : far n q t = j
  · rw [if_pos ((nearC_pos ht hq).2 (by rw [far_symm ht hq]; exact hj))]
    have h0 := far_tri hs hq ht
    by_cases hi : far n s q = i + 1
    · unfold wayC
      rw [if_pos ⟨hi, hj⟩, ways_last]
      refine sum_congr fun k hk => ?_
      show (if far n s (turnL q k) = i ∧ far n (turnL q k) t = j + 1 then ways n i s (turnL q k) else 0) = _
      have h1 := (far_one hk hs hq).2
      by_cases h2 : far n s (turnL q k) = i
      · have h3 := far_tri hs (hq.turn k) ht
        have h4 := (far_one hk ht hq).1
        rw [far_symm ht hq, far_symm ht (hq.turn k)] at h4
        rw [if_pos ⟨h2, by omega⟩]
      · rw [if_neg (fun h => h2 h.1)]
        exact (ways_far hs (hq.turn k) (by omega)).symm
    · have hz : ¬ 0 < behindC n (wayC n s t i (j + 1)) q := fun h => by
        obtain ⟨k, hk, h⟩ := behind_pos.1 h
        have h1 := (wayC_pos hs (hq.turn k)).1 h
        have h2 := (far_one hk hs hq).2
        omega
      have h2 : wayC n s t (i + 1) j q = 0 := by unfold wayC; rw [if_neg (fun h => hi h.1)]
      omega
  · rw [if_neg (fun h => hj (by rw [← far_symm ht hq]; exact (nearC_pos ht hq).1 h))]
    unfold wayC
    rw [if_neg (fun h => hj h.2)]
end

/-- the layers of a way of d turns from the number i on -/
def wayL (n : Nat) (s t : List Int) (d : Nat) : List LC := (List.range (d + 1)).map fun i => wayC n s t i (d - i)
def nearL (n : Nat) (s : List Int) (a : Nat) : List LC := (List.range (a + 1)).map fun i => nearC n s i

-- bounds
theorem pow_bound {n d : Nat} (hn : n ≤ 7) (hd : d ≤ 15) : (n - 1) ^ d ≤ 470184984576 := by
  have h1 : (n - 1) ^ d ≤ 6 ^ d := Nat.pow_le_pow_left (by omega) d
  have h2 : 6 ^ d ≤ 6 ^ 15 := Nat.pow_le_pow_right (by omega) hd
  have h3 : (6 : Nat) ^ 15 = 470184984576 := by decide
  omega
theorem fact_le {n : Nat} (hn : n ≤ 9) : fact n ≤ 362880 := by
  have h := fact_mono hn
  have h2 : fact 9 = 362880 := by decide
  omega
end Go.Pan
