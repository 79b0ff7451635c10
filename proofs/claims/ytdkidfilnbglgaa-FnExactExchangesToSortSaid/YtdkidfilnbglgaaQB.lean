import Derived.Test.YtdkidfilnbglgaaQ8
namespace Go.Pan
-- an exchange that parts
/-- the place of a number, 0 before all and n + 1 behind all -/
def pz (xs : List Int) (v : Nat) : Nat := if v = 0 then 0 else xs.idxOf (v : Int) + 1
theorem pz_pos (xs : List Int) (v : Nat) : 1 ≤ pz xs (v + 1) := by
  unfold pz
  rw [if_neg (by omega)]
  omega
section
variable {xs : List Int} (hg : Good xs)
include hg
theorem pz_le {v : Nat} : pz xs v ≤ xs.length + 1 := by
  have _ := hg
  unfold pz
  split
  · omega
  · have := idx_le xs (v : Int); omega
theorem pz_ext {v : Nat} (hv : v ≤ xs.length + 1) : extD xs (pz xs v) = (v : Int) := by
  unfold pz
  split
  · rename_i h; subst h; rfl
  · rename_i h
    obtain ⟨u, rfl⟩ : ∃ u, v = u + 1 := ⟨v - 1, by omega⟩
    have e : extD xs (xs.idxOf (((u + 1 : Nat)) : Int) + 1) = below xs (xs.idxOf (((u + 1 : Nat)) : Int)) := by unfold extD; rw [if_neg (by omega), Nat.add_sub_cancel]
    have ec : (((u + 1 : Nat)) : Int) = (u : Int) + 1 := by omega
    rw [e, ec]
    unfold below
    rcases Nat.lt_or_ge u xs.length with h1 | h1
    · have hl := idx_mem hg h1
      rw [if_pos hl, getD_eq hl]
      exact idx_at hl
    · obtain rfl : u = xs.length := by omega
      rw [idx_last hg, if_neg (by omega)]
theorem pz_top : pz xs (xs.length + 1) = xs.length + 1 := by
  unfold pz
  rw [if_neg (by omega)]
  have := idx_last hg
  rw [show (((xs.length + 1 : Nat)) : Int) = (xs.length : Int) + 1 by omega, this]
theorem pz_inj {u v : Nat} (hu : u ≤ xs.length + 1) (hv : v ≤ xs.length + 1) (h : pz xs u = pz xs v) : u = v := by
  have e1 := pz_ext hg hu
  have e2 := pz_ext hg hv
  rw [h, e2] at e1
  omega
/-- the number before v + 1 stands at the place ahead of it -/
theorem bf_pz {v : Nat} (hv : v ≤ xs.length) : ((bfN xs v : Nat) : Int) = extD xs (pz xs (v + 1) - 1) := by
  have h1 : 1 ≤ pz xs (v + 1) := by unfold pz; rw [if_neg (by omega)]; omega
  have h2 := pz_le hg (v := v + 1)
  refine bf_pos hg (by omega) ?_
  rw [Nat.sub_add_cancel h1, pz_ext hg (by omega)]
  omega
/-- in no other order than the sorted one do all numbers stand behind the ones ahead of them -/
theorem unsorted_ex (hne : xs ≠ ramp 1 xs.length) : ∃ v, v ≤ xs.length ∧ pz xs (v + 1) < pz xs v := by
  apply Classical.byContradiction
  intro hno
  have hst : ∀ v, v ≤ xs.length → pz xs v < pz xs (v + 1) := fun v hv => by
    apply Nat.lt_of_le_of_ne
    · exact Nat.le_of_not_lt fun h => hno ⟨v, hv, h⟩
    · intro e
      have := pz_inj hg (by omega) (by omega) e
      omega
  have hlo : ∀ v, v ≤ xs.length + 1 → v ≤ pz xs v := fun v => by
    induction v with
    | zero => intro _; omega
    | succ v ih => intro hv; have := ih (by omega); have := hst v (by omega); omega
  have hhi : ∀ k v, v + k = xs.length + 1 → pz xs v ≤ v := fun k => by
    induction k with
    | zero => intro v hv; have := pz_le hg (v := v); omega
    | succ k ih => intro v hv; have := ih (v + 1) (by omega); have := hst v (by omega); omega
  apply hne
  apply List.ext_getElem (by rw [ramp_length])
  intro i h1 h2
  have e : pz xs (i + 1) = i + 1 := Nat.le_antisymm (hhi (xs.length - i) (i + 1) (by omega)) (hlo (i + 1) (by omega))
  have e2 := pz_ext hg (v := i + 1) (by omega)
  rw [e] at e2
  have e3 : extD xs (i + 1) = xs[i] := by
    unfold extD below
    rw [if_neg (by omega), Nat.add_sub_cancel, if_pos h1, getD_eq h1]
  rw [e3] at e2
  rw [e2]
  simp [ramp]
  omega
/-- the pair that the choice is made of -/
theorem choice (hne : xs ≠ ramp 1 xs.length) : ∃ x y, x < y ∧ y ≤ xs.length ∧ pz xs (x + 1) ≤ pz xs y ∧ pz xs y < pz xs x ∧ pz xs x < pz xs (y + 1) := by
  obtain ⟨v0, hv0, hp0⟩ := unsorted_ex hg hne
  -- the largest such
  have hmax : ∃ x, x ≤ xs.length ∧ pz xs (x + 1) < pz xs x ∧ ∀ v, x < v → v ≤ xs.length → pz xs v < pz xs (v + 1) := by
    have key : ∀ k v, v + k = xs.length → pz xs (v + 1) < pz xs v → ∃ x, x ≤ xs.length ∧ pz xs (x + 1) < pz xs x ∧ ∀ u, x < u → u ≤ xs.length → pz xs u < pz xs (u + 1) := fun k => by
      induction k using Nat.strongRecOn with
      | _ k ih =>
        intro v hv hp
        by_cases h : ∃ u, v < u ∧ u ≤ xs.length ∧ pz xs (u + 1) < pz xs u
        · obtain ⟨u, u1, u2, u3⟩ := h
          exact ih (xs.length - u) (by omega) u (by omega) u3
        · refine ⟨v, by omega, hp, fun u u1 u2 => ?_⟩
          apply Nat.lt_of_le_of_ne
          · exact Nat.le_of_not_lt fun h' => h ⟨u, u1, u2, h'⟩
          · intro e
            have := pz_inj hg (by omega) (by omega) e
            omega
    exact key (xs.length - v0) v0 (by omega) hp0
  obtain ⟨x, hx, hpx, hup⟩ := hmax
  have hxt : pz xs x < pz xs (xs.length + 1) := by
    rw [pz_top hg]
    apply Nat.lt_of_le_of_ne (pz_le hg)
    intro e
    have := pz_inj hg (by omega) (by omega) (e.trans (pz_top hg).symm)
    omega
  -- the least y from x + 1 on whose next stands behind x
  have key : ∀ k y, y + k = xs.length → x < y → pz xs (x + 1) ≤ pz xs y → pz xs y < pz xs x → ∃ y, x < y ∧ y ≤ xs.length ∧ pz xs (x + 1) ≤ pz xs y ∧ pz xs y < pz xs x ∧ pz xs x < pz xs (y + 1) := fun k => by
    induction k with
    | zero =>
      intro y hy h1 h2 h3
      obtain rfl : y = xs.length := by omega
      exact ⟨xs.length, h1, by omega, h2, h3, hxt⟩
    | succ k ih =>
      intro y hy h1 h2 h3
      by_cases h : pz xs x < pz xs (y + 1)
      · exact ⟨y, h1, by omega, h2, h3, h⟩
      · have h4 : pz xs (y + 1) ≠ pz xs x := fun e => by have := pz_inj hg (by omega) (by omega) e; omega
        have h5 := hup y h1 (by omega)
        exact ih (y + 1) (by omega) (by omega) (by omega) (by omega)
  have hxn : x + 1 ≤ xs.length := by
    rcases Nat.lt_or_ge x xs.length with h | h
    · omega
    · obtain rfl : x = xs.length := by omega
      omega
  obtain ⟨y, h1, h2, h3, h4, h5⟩ := key (xs.length - (x + 1)) (x + 1) (by omega) (by omega) (Nat.le_refl _) hpx
  exact ⟨x, y, h1, h2, h3, h4, h5⟩
end
section
variable {xs : List Int} (hg : Good xs)
include hg
theorem parted_at {x y a b c d : Nat} (hxy : x < y) (hyn : y ≤ xs.length) (ha : pz xs (x + 1) = a + 1) (hb : pz xs y = b) (hab : a < b) (hk1 : b < pz xs x) (hk2 : pz xs x ≤ d) (hd : pz xs (y + 1) = d + 1)
    (hc : (c = pz xs x ∧ c < d) ∨ (c = b ∧ pz xs x = d)) (hg' : Good (exL xs a b c d)) (hl' : (exL xs a b c d).length = xs.length) : (cyclesL (exL xs a b c d)).length = (cyclesL xs).length + 2 := by
  have hdn : d ≤ xs.length := by have := pz_le hg (v := y + 1); omega
  have hbc : b ≤ c := by omega
  have hcd : c < d := by omega
  obtain ⟨p1, p2, p3, p4, p5⟩ := ex_places xs a b c d (by omega) hbc (by omega) hdn
  have hf := bf_onto hg
  have hf' := bf_onto hg'
  rw [hl'] at hf'
  have xk := pz_ext hg (v := x) (by omega)
  have yk := pz_ext hg (v := y) (by omega)
  have x1k := pz_ext hg (v := x + 1) (by omega)
  have y1k := pz_ext hg (v := y + 1) (by omega)
  rw [hb] at yk
  rw [ha] at x1k
  rw [hd] at y1k
  have fx := bf_pz hg (v := x) (by omega)
  have fy := bf_pz hg (v := y) hyn
  rw [ha, Nat.add_sub_cancel] at fx
  rw [hd, Nat.add_sub_cancel] at fy
  have inj := fun (i j : Nat) (hi : i ≤ xs.length) (hj : j ≤ xs.length) (h : extD xs i = extD xs j) => extD_inj hg hi hj h
  have pos' := fun (z j : Nat) (hj : j ≤ xs.length) (h : extD (exL xs a b c d) (j + 1) = (z : Int) + 1) => bf_pos hg' (by rw [hl']; exact hj) h
  unfold cyclesL
  rw [List.length_map, List.length_map, hl']
  refine cycs_parted hf hf' (x := x) (y := y) (by omega) (by omega) (by omega) ?_ ?_ ?_ ?_ ?_ ?_ ?_ ?_
  · -- x before x + 1
    have e1 := p4 1 (by omega) (by omega)
    rw [x1k] at e1
    have e2 := pos' x (d - (b - a)) (by omega) (by rw [e1]; omega)
    rcases hc with ⟨h1, h2⟩ | ⟨h1, h2⟩
    · have e3 := p3 (c - b) (by omega) (Nat.le_refl _)
      rw [show a + (d - c) + (c - b) = d - (b - a) by omega, show b + (c - b) = pz xs x by omega, xk] at e3
      rw [e3] at e2
      omega
    · have e3 := p2 (d - c) (by omega) (Nat.le_refl _)
      rw [show a + (d - c) = d - (b - a) by omega, show c + (d - c) = pz xs x by omega, xk] at e3
      rw [e3] at e2
      omega
  · have e1 := p5 (d + 1) (by omega) (by omega)
    rw [y1k] at e1
    have e2 := pos' y d hdn (by rw [e1]; omega)
    have e3 := p4 (b - a) (by omega) (Nat.le_refl _)
    rw [show d - (b - a) + (b - a) = d by omega, show a + (b - a) = b by omega, yk] at e3
    rw [e3] at e2
    omega
  · intro e
    have := inj a (pz xs x) (by omega) (by omega) (by rw [← fx, xk, e])
    omega
  · intro e
    have := inj a b (by omega) (by omega) (by rw [← fx, yk, e])
    omega
  · intro e
    have := inj d b (by omega) (by omega) (by rw [← fy, yk, e])
    omega
  · intro z hz z1 z2 h1 h2
    have hzz := pz_ext hg (v := z + 1) (by omega)
    have hz0 := pz_le hg (v := z + 1)
    have fz := bf_pz hg (v := z) (by omega)
    obtain ⟨q, hq⟩ : ∃ q, pz xs (z + 1) = q + 1 := ⟨pz xs (z + 1) - 1, by have := pz_pos xs z; omega⟩
    rw [hq] at hzz fz hz0
    rw [Nat.add_sub_cancel] at fz
    have n1 : q ≠ a := fun e => z1 (by have := pz_inj hg (u := z + 1) (v := x + 1) (by omega) (by omega) (by omega); omega)
    have n2 : q ≠ d := fun e => z2 (by have := pz_inj hg (u := z + 1) (v := y + 1) (by omega) (by omega) (by omega); omega)
    have n3 : q ≠ pz xs x := fun e => h1 (by rw [e, xk] at fz; omega)
    have n4 : q ≠ b := fun e => h2 (by rw [e, yk] at fz; omega)
    have hz1 : (((z + 1 : Nat)) : Int) = (z : Int) + 1 := by omega
    rw [hz1] at hzz
    have fin : ∀ j, j ≤ xs.length → extD (exL xs a b c d) (j + 1) = extD xs (q + 1) → extD (exL xs a b c d) j = extD xs q → bfN (exL xs a b c d) z = bfN xs z := fun j hj g1 g2 => by
      have g3 := pos' z j hj (by rw [g1, hzz])
      rw [g2, ← fz] at g3
      omega
    by_cases r1 : q + 1 ≤ a
    · exact fin q (by omega) (p1 _ r1) (p1 _ (by omega))
    · by_cases r2 : q + 1 ≤ b
      · have g1 := p4 (q + 1 - a) (by omega) (by omega)
        have g2 := p4 (q - a) (by omega) (by omega)
        exact fin (d - (b - a) + (q - a)) (by omega) (by rw [show d - (b - a) + (q - a) + 1 = d - (b - a) + (q + 1 - a) by omega, g1]; congr 1; omega) (by rw [g2]; congr 1; omega)
      · by_cases r3 : q + 1 ≤ c
        · have g1 := p3 (q + 1 - b) (by omega) (by omega)
          have g2 := p3 (q - b) (by omega) (by omega)
          exact fin (a + (d - c) + (q - b)) (by omega) (by rw [show a + (d - c) + (q - b) + 1 = a + (d - c) + (q + 1 - b) by omega, g1]; congr 1; omega) (by rw [g2]; congr 1; omega)
        · by_cases r4 : q + 1 ≤ d
          · have g1 := p2 (q + 1 - c) (by omega) (by omega)
            have g2 := p2 (q - c) (by omega) (by omega)
            exact fin (a + (q - c)) (by omega) (by rw [show a + (q - c) + 1 = a + (q + 1 - c) by omega, g1]; congr 1; omega) (by rw [g2]; congr 1; omega)
          · exact fin q (by omega) (p5 _ (by omega) (by omega)) (p5 _ (by omega) (by omega))
  · intro z hz z1 z2 h1
    have hzz := pz_ext hg (v := z + 1) (by omega)
    have hz0 := pz_le hg (v := z + 1)
    have fz := bf_pz hg (v := z) (by omega)
    obtain ⟨q, hq⟩ : ∃ q, pz xs (z + 1) = q + 1 := ⟨pz xs (z + 1) - 1, by have := pz_pos xs z; omega⟩
    rw [hq] at hzz fz hz0
    rw [Nat.add_sub_cancel] at fz
    have hqk : q = pz xs x := inj q (pz xs x) (by omega) (by omega) (by rw [← fz, xk, h1])
    have n2 : q ≠ d := fun e => z2 (by have := pz_inj hg (u := z + 1) (v := y + 1) (by omega) (by omega) (by omega); omega)
    have hck : c = q := by omega
    have g1 := p2 1 (by omega) (by omega)
    rw [show c + 1 = q + 1 by omega, hzz] at g1
    have g3 := pos' z a (by omega) (by rw [g1]; omega)
    rw [p1 a (Nat.le_refl _)] at g3
    omega
  · intro z hz z1 z2 h1
    have hzz := pz_ext hg (v := z + 1) (by omega)
    have hz0 := pz_le hg (v := z + 1)
    have fz := bf_pz hg (v := z) (by omega)
    obtain ⟨q, hq⟩ : ∃ q, pz xs (z + 1) = q + 1 := ⟨pz xs (z + 1) - 1, by have := pz_pos xs z; omega⟩
    rw [hq] at hzz fz hz0
    rw [Nat.add_sub_cancel] at fz
    have hqb : q = b := inj q b (by omega) (by omega) (by rw [← fz, yk, h1])
    rcases hc with ⟨c1, c2⟩ | ⟨c1, c2⟩
    · have hfy : bfN xs y ≠ x := fun e => by
        have := inj d (pz xs x) (by omega) (by omega) (by rw [← fy, xk, e])
        omega
      rw [if_neg hfy]
      have g1 := p3 1 (by omega) (by omega)
      rw [show b + 1 = q + 1 by omega, hzz] at g1
      have g3 := pos' z (a + (d - c)) (by omega) (by rw [g1]; omega)
      have g2 := p2 (d - c) (by omega) (Nat.le_refl _)
      rw [show c + (d - c) = d by omega] at g2
      rw [g2] at g3
      omega
    · have hfy : bfN xs y = x := by rw [← c2, xk] at fy; omega
      rw [if_pos hfy]
      have g1 := p2 1 (by omega) (by omega)
      rw [show c + 1 = q + 1 by omega, hzz] at g1
      have g3 := pos' z a (by omega) (by rw [g1]; omega)
      rw [p1 a (Nat.le_refl _)] at g3
      omega
end
/-- as long as it is not sorted, some exchange makes two cycles more -/
theorem parted_ex {xs : List Int} (hg : Good xs) (hne : xs ≠ ramp 1 xs.length) : ∃ e, e ∈ exAll xs.length ∧ (cyclesL (exT xs e)).length = (cyclesL xs).length + 2 := by
  obtain ⟨x, y, h1, h2, h3, h4, h5⟩ := choice hg hne
  have q1 := pz_pos xs x
  have q2 := pz_pos xs y
  have q3 := pz_le hg (v := y + 1)
  obtain ⟨a, ha⟩ : ∃ a, pz xs (x + 1) = a + 1 := ⟨pz xs (x + 1) - 1, by omega⟩
  obtain ⟨d, hd⟩ : ∃ d, pz xs (y + 1) = d + 1 := ⟨pz xs (y + 1) - 1, by omega⟩
  obtain ⟨c, hc⟩ : ∃ c, (c = pz xs x ∧ c < d) ∨ (c = pz xs y ∧ pz xs x = d) := by
    by_cases h : pz xs x < d
    · exact ⟨pz xs x, .inl ⟨rfl, h⟩⟩
    · exact ⟨pz xs y, .inr ⟨rfl, by omega⟩⟩
  obtain ⟨b, hb⟩ : ∃ b, pz xs y = b := ⟨_, rfl⟩
  rw [hb] at h3 h4 hc
  have he : ((a : Int) + 1, (b : Int), (c : Int) + 1, (d : Int)) ∈ exAll xs.length := by rw [mem_exAll]; refine ⟨?_, ?_, ?_, ?_, ?_⟩ <;> simp only <;> omega
  have h9 := hg.le9
  have hB := (exAll_B (by have := hg.1; omega) h9).1 he
  have e : exT xs ((a : Int) + 1, (b : Int), (c : Int) + 1, (d : Int)) = exL xs a b c d := by
    unfold exT
    congr 1 <;> simp only <;> omega
  refine ⟨_, he, ?_⟩
  have hg' := exT_good hg hB
  have hl' := exT_length (xs := xs) hB
  rw [e] at hg' hl' ⊢
  exact parted_at hg h1 h2 ha hb (by omega) h4 (by omega) hd hc hg' hl'
end Go.Pan
