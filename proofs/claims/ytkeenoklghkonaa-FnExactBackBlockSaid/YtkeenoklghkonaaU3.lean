import Derived.Test.YtkeenoklghkonaaU2
import Derived.Test.YtkeenoklghkonaaM3
namespace Go.Pan

-- models of the small functions of games
def homeB (xs : List Int) : Bool := decide (xs.getD 0 0 = 1)
def mIsHome (xs : List Int) : Bool := goodB xs && homeB xs
def okTopStep (xs : List Int) : Bool := goodB xs && !homeB xs
def mTopStep (xs : List Int) : List Int := if okTopStep xs = true then topT xs else []
theorem len_mTopStep (xs : List Int) : (mTopStep xs).length ≤ 1048576 := by
  unfold mTopStep
  split
  · rename_i h
    unfold okTopStep at h
    have hg := goodB_iff.1 (Bool.and_eq_true _ _ ▸ h).1
    rw [topT_length]; have := hg.2.1; omega
  · simp
def mStacksBefore (xs : List Int) : List (List Int) := if goodB xs = true then befL xs else []
theorem mStacksBefore_length (xs : List Int) : (mStacksBefore xs).length ≤ 9 := by
  unfold mStacksBefore
  split
  · rename_i h
    have hg := goodB_iff.1 h
    have := befTo_length xs xs.length; have := hg.2.1
    unfold befL; omega
  · simp
theorem mStacksBefore_rows (xs : List Int) : ∀ l ∈ mStacksBefore xs, l.length ≤ 9 := by
  unfold mStacksBefore
  split
  · rename_i h
    have hg := goodB_iff.1 h
    intro l hl
    rw [befL_length hl]; exact hg.2.1
  · simp
theorem len_mStacksBefore (xs : List Int) : (mStacksBefore xs).length ≤ 1048576 := Nat.le_trans (mStacksBefore_length xs) (by omega)
theorem rows_mStacksBefore (xs : List Int) : ∀ l ∈ mStacksBefore xs, l.length ≤ 1048576 := fun l hl => Nat.le_trans (mStacksBefore_rows xs l hl) (by omega)

-- counting off
/-- the order in which pancakes are taken off -/
def cntF (k : Nat) : Nat → List Int → List Int
  | 0, _ => []
  | f + 1, l => if l.length = 0 then [] else l.getD (k % l.length) 0 :: cntF k f (l.drop (k % l.length + 1) ++ l.take (k % l.length))
def leftF (k : Nat) : Nat → List Int → List Int
  | 0, l => l
  | f + 1, l => leftF k f (l.drop (k % l.length + 1) ++ l.take (k % l.length))
theorem cnt_next_length {k : Nat} {l : List Int} (h : 0 < l.length) : (l.drop (k % l.length + 1) ++ l.take (k % l.length)).length = l.length - 1 := by
  have := Nat.mod_lt k h
  rw [List.length_append, List.length_drop, List.length_take]; omega
theorem cntF_length (k : Nat) : ∀ (f : Nat) (l : List Int), l.length ≤ f → (cntF k f l).length = l.length
  | 0, l, h => by simp [cntF]; omega
  | f + 1, l, h => by
    rw [cntF]
    by_cases h0 : l.length = 0
    · rw [if_pos h0, h0]; rfl
    · rw [if_neg h0, List.length_cons, cntF_length k f _ (by rw [cnt_next_length (by omega)]; omega), cnt_next_length (by omega)]; omega
def okCount (xs : List Int) (k : Int) : Bool := goodB xs && inB k 0 9
def mCountGame (xs : List Int) (k : Int) : List Int := if okCount xs k = true then cntF k.toNat xs.length xs else []
theorem len_mCountGame (xs : List Int) (k : Int) : (mCountGame xs k).length ≤ 1048576 := by
  unfold mCountGame
  split
  · rename_i h
    unfold okCount at h
    have hg := goodB_iff.1 (Bool.and_eq_true _ _ ▸ h).1
    rw [cntF_length _ _ _ (Nat.le_refl _)]; have := hg.2.1; omega
  · simp

-- stacks that come again
def iterL (st : List Int → List Int) : Nat → List Int → List Int
  | 0, q => q
  | m + 1, q => st (iterL st m q)
/-- the first m stacks -/
def orbL (st : List Int → List Int) (q : List Int) (m : Nat) : List (List Int) := (List.range m).map fun i => iterL st i q
theorem orbL_succ (st : List Int → List Int) (q : List Int) (m : Nat) : orbL st q (m + 1) = orbL st q m ++ [iterL st m q] := by simp [orbL, List.range_succ]
theorem orbL_length (st : List Int → List Int) (q : List Int) (m : Nat) : (orbL st q m).length = m := by simp [orbL]
theorem mem_orbL {st : List Int → List Int} {q x : List Int} {m : Nat} : x ∈ orbL st q m ↔ ∃ i, i < m ∧ iterL st i q = x := by simp [orbL]
/-- behind i steps there is first a stack that comes again, and behind p more it first does -/
def Again (st : List Int → List Int) (q : List Int) (i p : Nat) : Prop := 0 < p ∧ (orbL st q (i + p)).Nodup ∧ iterL st (i + p) q = iterL st i q
theorem orbL_get {st : List Int → List Int} {q : List Int} {m i : Nat} (h : i < m) : (orbL st q m)[i]? = some (iterL st i q) := by simp [orbL, h]
theorem orb_inj {st : List Int → List Int} {q : List Int} {m i j : Nat} (hn : (orbL st q m).Nodup) (hi : i < m) (hj : j < m) (e : iterL st i q = iterL st j q) : i = j := by
  have h := List.pairwise_iff_getElem.1 hn
  rcases Nat.lt_trichotomy i j with hl | hl | hl
  · exact absurd (by simpa [orbL] using e) (h i j (by rw [orbL_length]; exact hi) (by rw [orbL_length]; exact hj) hl)
  · exact hl
  · exact absurd (by simpa [orbL] using e.symm) (h j i (by rw [orbL_length]; exact hj) (by rw [orbL_length]; exact hi) hl)
theorem orb_sub {st : List Int → List Int} {q : List Int} {m k : Nat} (h : k ≤ m) (hn : (orbL st q m).Nodup) : (orbL st q k).Nodup := by
  refine List.Sublist.nodup ?_ hn
  unfold orbL
  exact (List.range_sublist.2 h).map _
theorem Again.uniq {st : List Int → List Int} {q : List Int} {i p j r : Nat} (h : Again st q i p) (h' : Again st q j r) : i = j ∧ p = r := by
  obtain ⟨hp, hn, he⟩ := h
  obtain ⟨hp', hn', he'⟩ := h'
  have e1 : i + p = j + r := by
    rcases Nat.lt_trichotomy (i + p) (j + r) with hl | hl | hl
    · have := orb_inj hn' hl (show i < j + r by omega) he; omega
    · exact hl
    · have := orb_inj hn hl (show j < i + p by omega) he'; omega
  rw [e1] at he
  rw [he'] at he
  have := orb_inj hn' (show j < j + r by omega) (show i < j + r by omega) he
  omega
theorem again_or {st : List Int → List Int} (q : List Int) : ∀ m, (∃ i p, Again st q i p) ∨ (orbL st q m).Nodup
  | 0 => .inr (by simp [orbL])
  | m + 1 => by
    rcases again_or q m with h | h
    · exact .inl h
    · by_cases hm : iterL st m q ∈ orbL st q m
      · obtain ⟨i, hi, e⟩ := mem_orbL.1 hm
        exact .inl ⟨i, m - i, by omega, by rw [show i + (m - i) = m by omega]; exact h, by rw [show i + (m - i) = m by omega]; exact e.symm⟩
      · right
        rw [orbL_succ, List.nodup_append]
        exact ⟨h, by simp, fun a ha b hb e => by rw [List.mem_singleton] at hb; subst hb e; exact hm ha⟩
theorem again_is {st : List Int → List Int} {q : List Int} {n : Nat} (hst : ∀ m, Good (iterL st m q) ∧ (iterL st m q).length = n) : ∃ i p, Again st q i p := by
  rcases again_or (st := st) q 1000000001 with h | h
  · exact h
  · have := stacks_few (n := n) (L := orbL st q 1000000001) (fun x hx => by obtain ⟨i, _, rfl⟩ := mem_orbL.1 hx; exact hst i) h
    rw [orbL_length] at this
    omega
theorem orb_few {st : List Int → List Int} {q : List Int} {n m : Nat} (hst : ∀ m, Good (iterL st m q) ∧ (iterL st m q).length = n) (h : (orbL st q m).Nodup) : m ≤ 1000000000 := by
  have := stacks_few (n := n) (L := orbL st q m) (fun x hx => by obtain ⟨i, _, rfl⟩ := mem_orbL.1 hx; exact hst i) h
  rwa [orbL_length] at this
/-- how many steps there are till a stack comes again -/
def againN (st : List Int → List Int) (q : List Int) : Nat := ((List.range 1000000002).find? fun m => decide (iterL st m q ∈ orbL st q m)).getD 0
def againI (st : List Int → List Int) (q : List Int) : Nat := (orbL st q (againN st q)).idxOf (iterL st (againN st q) q)
def againP (st : List Int → List Int) (q : List Int) : Nat := againN st q - againI st q
theorem again_val {st : List Int → List Int} {q : List Int} {n : Nat} (hst : ∀ m, Good (iterL st m q) ∧ (iterL st m q).length = n) : Again st q (againI st q) (againP st q) := by
  obtain ⟨i, p, h⟩ := again_is hst
  have hN : againN st q = i + p := by
    unfold againN
    have hle := orb_few hst h.2.1
    have hf : (List.range 1000000002).find? (fun m => decide (iterL st m q ∈ orbL st q m)) = some (i + p) := by
      rw [List.find?_range_eq_some]
      refine ⟨?_, by rw [List.mem_range]; omega, fun j hj => ?_⟩
      · rw [decide_eq_true_iff, h.2.2]; exact mem_orbL.2 ⟨i, by have := h.1; omega, rfl⟩
      · rw [Bool.not_eq_true', decide_eq_false_iff_not]
        intro hm
        obtain ⟨k, hk, e⟩ := mem_orbL.1 hm
        have := orb_inj h.2.1 (show k < i + p by omega) hj e
        omega
    rw [hf]; rfl
  have hI : againI st q = i := by
    unfold againI
    rw [hN, h.2.2]
    have hp := h.1
    have hm : iterL st i q ∈ orbL st q (i + p) := mem_orbL.2 ⟨i, by omega, rfl⟩
    have hlt := List.idxOf_lt_length_of_mem hm
    rw [orbL_length] at hlt
    have hg := List.getElem_idxOf (x := iterL st i q) (xs := orbL st q (i + p)) (by rw [orbL_length]; exact hlt)
    simp only [orbL, List.getElem_map, List.getElem_range] at hg
    exact orb_inj h.2.1 hlt (by omega) hg
  have hP : againP st q = p := by unfold againP; rw [hN, hI]; omega
  rw [hI, hP]; exact h
theorem again_idx {st : List Int → List Int} {q : List Int} {m : Nat} (h : (orbL st q m).Nodup) {i : Nat} (hi : i < m) : (orbL st q m).idxOf (iterL st i q) = i := by
  have hm : iterL st i q ∈ orbL st q m := mem_orbL.2 ⟨i, hi, rfl⟩
  have hlt := List.idxOf_lt_length_of_mem hm
  rw [orbL_length] at hlt
  have hg := List.getElem_idxOf (x := iterL st i q) (xs := orbL st q m) (by rw [orbL_length]; exact hlt)
  simp only [orbL, List.getElem_map, List.getElem_range] at hg
  exact orb_inj h hlt hi hg

/-- a step of the game in which the size at the bottom tells the turn -/
def botT (xs : List Int) : List Int := turnL xs (xs.getD (xs.length - 1) 0).toNat
/-- k from the top, turned round, to the bottom -/
def cardT (k : Nat) (xs : List Int) : List Int := xs.drop k ++ (xs.take k).reverse
theorem cardT_length (k : Nat) (xs : List Int) : (cardT k xs).length = xs.length := by simp [cardT]; omega
theorem cardT_good {k : Nat} {xs : List Int} (h : Good xs) : Good (cardT k xs) := by
  refine h.perm (List.Perm.symm ?_)
  unfold cardT
  have h1 : (xs.drop k ++ (xs.take k).reverse).Perm ((xs.take k).reverse ++ xs.drop k) := List.perm_append_comm
  exact h1.trans (turnL_perm xs k)
theorem cardT_turns {k : Nat} {xs : List Int} (hk : k ≤ xs.length) : turnL (turnL xs xs.length) (xs.length - k) = cardT k xs := by
  unfold turnL cardT
  simp only [List.take_length, List.drop_length, List.append_nil]
  rw [List.take_reverse, List.drop_reverse, List.reverse_reverse]
  have e : xs.length - (xs.length - k) = k := by omega
  rw [e]
theorem iter_good {st : List Int → List Int} {q : List Int} (h : Good q) (hs : ∀ x, Good x → Good (st x) ∧ (st x).length = x.length) : ∀ m, Good (iterL st m q) ∧ (iterL st m q).length = q.length
  | 0 => ⟨h, rfl⟩
  | m + 1 => by
    have ih := iter_good h hs m
    have := hs _ ih.1
    exact ⟨this.1, this.2.trans ih.2⟩
def okCard (xs : List Int) (k : Int) : Bool := goodB xs && inB k 1 xs.length
def mCardFirst (xs : List Int) (k : Int) : Int := if okCard xs k = true then (againI (cardT k.toNat) xs : Int) else 0
def mCardMore (xs : List Int) (k : Int) : Int := if okCard xs k = true then (againP (cardT k.toNat) xs : Int) else 0
def mBottomGame (xs : List Int) : Int := if goodB xs = true then (againI botT xs : Int) + (againP botT xs : Int) - 1 else 0
end Go.Pan
