import Derived.Test.YtlomdnldokbjoaaU3
namespace Go.Pan

theorem cntF_perm (k : Nat) : ∀ (f : Nat) (l : List Int), l.length ≤ f → (cntF k f l).Perm l
  | 0, l, h => by
    have : l = [] := List.eq_nil_of_length_eq_zero (by omega)
    subst this; simp [cntF]
  | f + 1, l, h => by
    rw [cntF]
    by_cases h0 : l.length = 0
    · rw [if_pos h0, List.eq_nil_of_length_eq_zero h0]
    · rw [if_neg h0]
      have hm := Nat.mod_lt k (show l.length > 0 by omega)
      obtain ⟨m, hme⟩ : ∃ m, k % l.length = m := ⟨_, rfl⟩
      rw [hme] at hm ⊢
      have ih := cntF_perm k f (l.drop (m + 1) ++ l.take m) (by rw [List.length_append, List.length_drop, List.length_take]; omega)
      have hs : l = l.take m ++ l.getD m 0 :: l.drop (m + 1) := by
        have h1 := (List.take_append_drop m l).symm
        rw [List.drop_eq_getElem_cons hm] at h1
        rw [List.getD_eq_getElem?_getD, List.getElem?_eq_getElem hm]
        exact h1
      refine (List.Perm.cons _ (ih.trans List.perm_append_comm)).trans ?_
      have h2 : (l.getD m 0 :: (l.take m ++ l.drop (m + 1))).Perm (l.take m ++ l.getD m 0 :: l.drop (m + 1)) := List.perm_middle.symm
      exact h2.trans (by rw [← hs])
theorem cntF_zero : ∀ (f : Nat) (l : List Int), l.length ≤ f → cntF 0 f l = l
  | 0, l, h => by
    have : l = [] := List.eq_nil_of_length_eq_zero (by omega)
    subst this; simp [cntF]
  | f + 1, l, h => by
    rw [cntF]
    cases l with
    | nil => simp
    | cons x t =>
      rw [if_neg (by simp)]
      have ih := cntF_zero f t (by simp at h; omega)
      simp [ih]
theorem cntF_head {k f : Nat} {l : List Int} (h0 : 0 < l.length) (h : l.length ≤ f) : (cntF k f l)[0]? = some (l.getD (k % l.length) 0) := by
  cases f with
  | zero => omega
  | succ f => rw [cntF, if_neg (by omega)]; rfl

/-- what the law says of counting off -/
theorem countGame_is {xs : List Int} {k : Int} (h : okCount xs k = true) :
    Good xs ∧ 0 ≤ k ∧ k ≤ 9 ∧ goodB (mCountGame xs k) = true ∧ (mCountGame xs k).length = xs.length ∧ (mCountGame xs k)[0]? = some (xs.getD (k.toNat % xs.length) 0) ∧ (k = 0 → mCountGame xs k = xs) := by
  have h' := h
  unfold okCount at h'
  obtain ⟨hg, hi⟩ := Bool.and_eq_true _ _ ▸ h'
  have hG := goodB_iff.1 hg
  have hk := inB_iff.1 hi
  have e : mCountGame xs k = cntF k.toNat xs.length xs := by unfold mCountGame; rw [if_pos h]
  rw [e]
  refine ⟨hG, hk.1, hk.2, goodB_iff.2 (hG.perm (cntF_perm _ _ _ (Nat.le_refl _)).symm), cntF_length _ _ _ (Nat.le_refl _), cntF_head hG.1 (Nat.le_refl _), fun h0 => ?_⟩
  subst h0
  exact cntF_zero _ _ (Nat.le_refl _)

theorem cardT_inj {k : Nat} {xs ys : List Int} (hl : xs.length = ys.length) (e : cardT k xs = cardT k ys) : xs = ys := by
  unfold cardT at e
  obtain ⟨e1, e2⟩ := List.append_inj e (by rw [List.length_drop, List.length_drop, hl])
  have e3 := congrArg List.reverse e2
  rw [List.reverse_reverse, List.reverse_reverse] at e3
  rw [← List.take_append_drop k xs, ← List.take_append_drop k ys, e1, e3]

theorem Again.zero {st : List Int → List Int} {q : List Int} {i p : Nat} (hl : ∀ m, (iterL st m q).length = q.length) (hinj : ∀ x y : List Int, x.length = q.length → y.length = q.length → st x = st y → x = y) (h : Again st q i p) : i = 0 := by
  obtain ⟨hp, hn, he⟩ := h
  cases i with
  | zero => rfl
  | succ i =>
    have e1 : iterL st (i + 1 + p) q = st (iterL st (i + p) q) := by rw [show i + 1 + p = (i + p) + 1 by omega]; rfl
    rw [e1] at he
    have := hinj _ _ (hl _) (hl _) (he : st (iterL st (i + p) q) = st (iterL st i q))
    have := orb_inj hn (show i + p < i + 1 + p by omega) (show i < i + 1 + p by omega) this
    omega
theorem Again.le {st : List Int → List Int} {q : List Int} {i p m : Nat} (h : Again st q i p) (h0 : 0 < m) (e : iterL st m q = q) : i + p ≤ m := by
  obtain ⟨hp, hn, he⟩ := h
  by_cases hlt : m < i + p
  · have := orb_inj hn hlt (show 0 < i + p by omega) e
    omega
  · omega

/-- what the law says of the game of cards -/
theorem cardGame_is {xs : List Int} {k : Int} (h : okCard xs k = true) :
    mCardFirst xs k = 0 ∧ 1 ≤ mCardMore xs k ∧ okCard xs (xs.length : Int) = true ∧ mCardFirst xs (xs.length : Int) = 0 ∧ mCardMore xs (xs.length : Int) ≤ 2 := by
  have h' := h
  unfold okCard at h'
  obtain ⟨hg, hi⟩ := Bool.and_eq_true _ _ ▸ h'
  have hG := goodB_iff.1 hg
  have hk := inB_iff.1 hi
  have key : ∀ n : Nat, Again (cardT n) xs (againI (cardT n) xs) (againP (cardT n) xs) ∧ againI (cardT n) xs = 0 := fun n => by
    have hit := iter_good (st := cardT n) hG (fun x hx => ⟨cardT_good hx, cardT_length n x⟩)
    have hA := again_val hit
    exact ⟨hA, hA.zero (fun m => (hit m).2) (fun x y hx hy e => cardT_inj (hx.trans hy.symm) e)⟩
  have h1 := key k.toNat
  have h2 := key xs.length
  have hO : okCard xs (xs.length : Int) = true := by
    unfold okCard
    rw [hg, Bool.true_and]
    exact inB_iff.2 ⟨by omega, by omega⟩
  have e2 : iterL (cardT xs.length) 2 xs = xs := by
    have e : ∀ y : List Int, y.length = xs.length → cardT xs.length y = y.reverse := fun y hy => by unfold cardT; rw [← hy]; simp
    show cardT xs.length (cardT xs.length xs) = xs
    rw [e xs rfl, e _ (by simp), List.reverse_reverse]
  have h3 := h2.1.le (show 0 < 2 by omega) e2
  have hp := h1.1.1
  refine ⟨?_, ?_, hO, ?_, ?_⟩
  · unfold mCardFirst; rw [if_pos h, h1.2]; rfl
  · unfold mCardMore; rw [if_pos h]; omega
  · unfold mCardFirst; rw [if_pos hO, Int.toNat_natCast, h2.2]; rfl
  · unfold mCardMore; rw [if_pos hO, Int.toNat_natCast]; omega

theorem turnL_last {xs : List Int} {k : Nat} (hk : k < xs.length) : (turnL xs k).getD (xs.length - 1) 0 = xs.getD (xs.length - 1) 0 :=
  turnL_get_hi (by omega) (by omega)

/-- what the law says of the game of the bottom -/
theorem bottomGame_is {xs : List Int} (hg : goodB xs = true) :
    Good xs ∧ 0 ≤ mBottomGame xs ∧ (xs.getD (xs.length - 1) 0 = 1 → mBottomGame xs = 0) ∧ (xs.getD (xs.length - 1) 0 ≠ xs.length → xs.getD (xs.length - 1) 0 ≠ 1 → mBottomGame xs = 1) := by
  have hG := goodB_iff.1 hg
  have hit := iter_good (st := botT) hG (fun x hx => ⟨turnL_good hx _, turnL_length x _⟩)
  have hA := again_val hit
  have hp := hA.1
  have e : mBottomGame xs = (againI botT xs : Int) + (againP botT xs : Int) - 1 := by unfold mBottomGame; rw [if_pos hg]
  rw [e]
  obtain ⟨I, hI⟩ : ∃ I, againI botT xs = I := ⟨_, rfl⟩
  obtain ⟨P, hP⟩ : ∃ P, againP botT xs = P := ⟨_, rfl⟩
  rw [hI, hP] at hA ⊢
  rw [hP] at hp
  refine ⟨hG, by omega, fun h1 => ?_, fun h1 h2 => ?_⟩
  · have e1 : iterL botT 1 xs = xs := by
      show botT xs = xs
      unfold botT
      rw [h1]
      exact turnL_one xs
    have := hA.le (show 0 < 1 by omega) e1
    omega
  · obtain ⟨b, hb⟩ : ∃ b, xs.getD (xs.length - 1) 0 = b := ⟨_, rfl⟩
    rw [hb] at h1 h2
    have hlt : xs.length - 1 < xs.length := by have := hG.1; omega
    have hm : b ∈ xs := by
      rw [← hb, List.getD_eq_getElem?_getD, List.getElem?_eq_getElem hlt]
      exact List.getElem_mem _
    have hbd := hG.2.2.1 b hm
    have hbn : b.toNat < xs.length := by omega
    have e1 : botT xs = turnL xs b.toNat := by unfold botT; rw [hb]
    have e2 : botT (turnL xs b.toNat) = xs := by
      unfold botT
      rw [turnL_length, turnL_last hbn, hb]
      exact turnL_turnLU (by omega)
    have e3 : iterL botT 2 xs = xs := by
      show botT (botT xs) = xs
      rw [e1, e2]
    have h4 := hA.le (show 0 < 2 by omega) e3
    have h5 : I + P ≠ 1 := fun h => by
      have he := hA.2.2
      rw [h] at he
      have hI0 : I = 0 := by omega
      rw [hI0] at he
      have he' : turnL xs b.toNat = xs := by rw [← e1]; exact he
      have h0 := turnL_get_lo (xs := xs) (k := b.toNat) (i := 0) (by omega) (by omega)
      rw [he'] at h0
      exact hG.apart (show 0 < b.toNat - 1 - 0 by omega) (by omega) h0
    omega
end Go.Pan
