import Derived.Test.YtmlikchhkblohaaQ2
namespace Go.Pan

-- plans as segments
def planG (p : List Int) : List (Int × Int) := (noOne p).map fun k => (1, k)
theorem planG_yes {p : List Int} {k : Int} (h : k ≠ 1) : planG (p ++ [k]) = planG p ++ [(1, k)] := by unfold planG; rw [noOne_snoc, if_neg h]; simp
theorem planG_no {p : List Int} : planG (p ++ [1]) = planG p := by unfold planG; rw [noOne_snoc, if_pos rfl]
theorem planG_length (p : List Int) : (planG p).length ≤ p.length := by unfold planG; rw [List.length_map]; exact noOne_length p
def mSegmentsOfPlan (n : Int) (p : List Int) : List (Int × Int) := if planB n p = true then planG p else []
theorem len_mSegmentsOfPlan (n : Int) (p : List Int) : (mSegmentsOfPlan n p).length ≤ 1048576 := by
  unfold mSegmentsOfPlan
  split
  · rename_i h; have := (planB_iff.1 h).2.1; have := planG_length p; omega
  · simp

-- selection
structure SelInv (xs : List Int) (k : Nat) : Prop where
  good : Good (selTo xs k).xs
  len : (selTo xs k).xs.length = xs.length
  done : ∀ j, j < k → (selTo xs k).xs[j]? = some ((j : Int) + 1)
theorem place_mem {ys : List Int} {x : Int} (hm : x ∈ ys) : ∃ i, i < ys.length ∧ ys[i]? = some x ∧ placeL ys x = (i : Int) + 1 := by
  refine ⟨ys.idxOf x, List.idxOf_lt_length_of_mem hm, ?_, placeL_of_mem hm⟩
  rw [List.getElem?_eq_getElem (List.idxOf_lt_length_of_mem hm), List.getElem_idxOf]
theorem SelInv.place {xs : List Int} {k : Nat} (h : SelInv xs k) (hk : k < xs.length) : ∃ i, k ≤ i ∧ i < xs.length ∧ (selTo xs k).xs[i]? = some ((k : Int) + 1) ∧ placeL (selTo xs k).xs ((k : Int) + 1) = (i : Int) + 1 := by
  have hm : ((k : Int) + 1) ∈ (selTo xs k).xs := mem_of_good h.good (by omega) (by rw [h.len]; omega)
  obtain ⟨i, hi, he, hp⟩ := place_mem hm
  refine ⟨i, ?_, by rw [← h.len]; exact hi, he, hp⟩
  by_cases hik : k ≤ i
  · exact hik
  · have := h.done i (by omega)
    rw [he] at this
    have := Option.some.inj this
    omega
theorem SelInv.seg {xs : List Int} {k : Nat} (h : SelInv xs k) (hk : k < xs.length) (hne : placeL (selTo xs k).xs ((k : Int) + 1) ≠ (k : Int) + 1) : segB xs.length ((k : Int) + 1, placeL (selTo xs k).xs ((k : Int) + 1)) = true := by
  obtain ⟨i, h1, h2, _, hp⟩ := h.place hk
  have := h.good.le9
  rw [h.len] at this
  rw [segB_iff]
  rw [hp] at hne ⊢
  simp only
  omega
theorem SelInv.start {xs : List Int} (hg : Good xs) : SelInv xs 0 := ⟨hg, rfl, fun j hj => by omega⟩
theorem SelInv.next {xs : List Int} {k : Nat} (h : SelInv xs k) (hk : k < xs.length) : SelInv xs (k + 1) := by
  obtain ⟨i, h1, h2, he, hp⟩ := h.place hk
  by_cases e : placeL (selTo xs k).xs ((k : Int) + 1) = (k : Int) + 1
  · have hs : selTo xs (k + 1) = selTo xs k := by rw [selTo, selStep, if_pos e]
    have hik : i = k := by rw [hp] at e; omega
    subst hik
    refine ⟨by rw [hs]; exact h.good, by rw [hs]; exact h.len, fun j hj => ?_⟩
    rw [hs]
    by_cases ej : j = i
    · subst ej; exact he
    · exact h.done j (by omega)
  · have hB := h.seg hk e
    have hs : (selTo xs (k + 1)).xs = segT (selTo xs k).xs ((k : Int) + 1, placeL (selTo xs k).xs ((k : Int) + 1)) := by rw [selTo, selStep, if_neg e]
    have e1 : segT (selTo xs k).xs ((k : Int) + 1, placeL (selTo xs k).xs ((k : Int) + 1)) = segL (selTo xs k).xs k (i + 1) := by
      rw [hp]; unfold segT; congr 1 <;> simp <;> omega
    refine ⟨by rw [hs]; exact segT_good h.good hB, by rw [hs, segT_length hB]; exact h.len, fun j hj => ?_⟩
    rw [hs, e1]
    have hl := h.len
    by_cases ej : j = k
    · subst ej
      rw [segL_get_mid _ _ _ _ (by omega) (by omega) (Nat.le_refl _) (by omega), show j + (i + 1 - 1 - j) = i by omega]
      exact he
    · rw [segL_get_lo _ _ _ _ (by omega) (by omega) (by omega)]
      exact h.done j (by omega)
theorem selInv {xs : List Int} (hg : Good xs) : ∀ k, k ≤ xs.length → SelInv xs k
  | 0, _ => .start hg
  | k + 1, hk => (selInv hg k (by omega)).next (by omega)
theorem selTo_last {xs : List Int} (hg : Good xs) : selTo xs xs.length = selTo xs (xs.length - 1) := by
  have h1 := hg.1
  obtain ⟨m, hm⟩ : ∃ m, xs.length = m + 1 := ⟨xs.length - 1, by omega⟩
  have h := selInv hg m (by omega)
  obtain ⟨i, h2, h3, _, hp⟩ := h.place (by omega)
  rw [hm, Nat.add_sub_cancel, selTo, selStep, if_pos (by rw [hp]; omega)]
theorem selTo_len (xs : List Int) (k : Nat) : (selTo xs k).l.length ≤ k := by
  induction k with
  | zero => simp [selTo]
  | succ k ih =>
    rw [selTo, selStep]
    split
    · omega
    · show ((selTo xs k).l ++ [_]).length ≤ k + 1
      rw [List.length_append, List.length_singleton]; omega
theorem selTo_segs {xs : List Int} (hg : Good xs) : ∀ k, k ≤ xs.length → Segs xs.length (selTo xs k).l
  | 0, _ => fun p hp => by simp [selTo] at hp
  | k + 1, hk => by
    have ih := selTo_segs hg k (by omega)
    rw [selTo, selStep]
    split
    · exact ih
    · rename_i e
      exact ih.snoc ((selInv hg k (by omega)).seg (by omega) e)
theorem selTo_home {xs : List Int} (hg : Good xs) : (selTo xs xs.length).xs = ramp 1 xs.length := by
  have h := selInv hg xs.length (Nat.le_refl _)
  apply List.ext_getElem?
  intro j
  by_cases hj : j < xs.length
  · rw [h.done j hj, List.getElem?_eq_getElem (by rw [ramp_length]; exact hj), ramp_get 1 _ _ hj, Int.add_comm]
  · rw [List.getElem?_eq_none (by rw [h.len]; omega), List.getElem?_eq_none (by rw [ramp_length]; omega)]
theorem selTo_nil {xs : List Int} : ∀ k, (selTo xs k).l = [] → (selTo xs k).xs = xs
  | 0, _ => rfl
  | k + 1, h => by
    rw [selTo, selStep] at h ⊢
    split
    · rename_i e; rw [if_pos e] at h; exact selTo_nil k h
    · rename_i e; rw [if_neg e] at h; simp at h
theorem selL_all {xs : List Int} (hg : Good xs) : selL xs = (selTo xs xs.length).l := by unfold selL; rw [selTo_last hg]
theorem selL_nil {xs : List Int} (hg : Good xs) (h : selL xs = []) : xs = ramp 1 xs.length := by
  rw [selL_all hg] at h
  have h1 := selTo_nil _ h
  rw [selTo_home hg] at h1
  exact h1.symm
theorem selL_length (xs : List Int) : (selL xs).length ≤ xs.length := Nat.le_trans (selTo_len xs _) (by omega)
def mSelectionSegments (xs : List Int) : List (Int × Int) := if goodB xs = true then selL xs else []
theorem len_mSelectionSegments (xs : List Int) : (mSelectionSegments xs).length ≤ 1048576 := by
  unfold mSelectionSegments
  split
  · rename_i h; have := (goodB_iff.1 h).le9; have := selL_length xs; omega
  · simp

-- the best segments
theorem bestS_len {xs : List Int} (h9 : xs.length ≤ 9) : (bestS xs).l.length ≤ 81 := Nat.le_trans (bestTo_length xs _) (segsAll_le h9)
def mBestTurns0 (xs : List Int) : List (Int × Int) := if goodB xs = true then (bestS xs).l else []
def mBestTurns (xs : List Int) : List (Int × Int) := mBestTurns0 xs
def mBestLeft (xs : List Int) : Int := if goodB xs = true then ((bestS xs).least : Int) else 0
theorem len_mBestTurns (xs : List Int) : (mBestTurns xs).length ≤ 1048576 := by
  unfold mBestTurns mBestTurns0
  split
  · rename_i h; have := bestS_len (goodB_iff.1 h).le9; omega
  · simp
theorem bestTo_segs {xs : List Int} (hg : Good xs) : ∀ k, k ≤ (segsAll xs.length).length → Segs xs.length (bestTo xs k).l
  | 0, _ => fun p hp => by simp [bestTo] at hp
  | k + 1, hk => by
    have ih := bestTo_segs hg k (by omega)
    have hp : segB xs.length ((segsAll xs.length).getD k (0, 0)) = true := (segsAll_B hg.1 hg.le9).1 (by
      rw [List.getD_eq_getElem?_getD, List.getElem?_eq_getElem (by omega)]; exact List.getElem_mem _)
    unfold bestTo bestStep
    simp only
    split
    · exact fun q hq => by simp at hq; subst hq; exact hp
    · split
      · exact ih.snoc hp
      · exact ih
theorem bestTo_pos {xs : List Int} : ∀ k, 0 < k → (bestTo xs k).l ≠ []
  | 0, h => by omega
  | k + 1, _ => by
    unfold bestTo bestStep
    simp only
    split
    · simp
    · split
      · simp
      · rename_i h1 _
        have hk : 0 < k := by
          cases k with
          | zero => simp at h1
          | succ k => omega
        exact bestTo_pos k hk
theorem segsAll_two {n : Nat} (h : 2 ≤ n) : 0 < (segsAll n).length := List.length_pos_of_mem (show ((1, 2) : Int × Int) ∈ segsAll n from mem_segsAll.2 ⟨by omega, by omega, by show (2 : Int) ≤ n; omega⟩)
theorem bestS_pos {xs : List Int} (h : 2 ≤ xs.length) : (bestS xs).l ≠ [] := bestTo_pos _ (segsAll_two h)

-- greedy
def gSeg (xs : List Int) : Int × Int := if (bestS xs).least < (brkL xs).length then (bestS xs).l.getD 0 (0, 0) else (selL xs).getD 0 (0, 0)
theorem getD_mem {α : Type} {l : List α} {d : α} (h : l ≠ []) : l.getD 0 d ∈ l := by
  cases l with
  | nil => exact absurd rfl h
  | cons a l => simp
theorem not_sorted_two {xs : List Int} (hg : Good xs) (h : xs ≠ ramp 1 xs.length) : 2 ≤ xs.length := by
  by_cases h2 : 2 ≤ xs.length
  · exact h2
  · have h1 := hg.1
    exfalso
    apply h
    have := agree_last (m := xs.length) (s := xs) (t := ramp 1 xs.length) ⟨hg, rfl⟩ (St.ramp xs.length h1 hg.le9) (j := 0) (by omega) (fun i hi => by omega)
    exact this
theorem gSeg_B {xs : List Int} (hg : Good xs) (h : xs ≠ ramp 1 xs.length) : segB xs.length (gSeg xs) = true := by
  have h2 := not_sorted_two hg h
  unfold gSeg
  split
  · exact bestTo_segs hg _ (Nat.le_refl _) _ (getD_mem (bestS_pos h2))
  · have hn : selL xs ≠ [] := fun e => h (selL_nil hg e)
    have := selTo_segs hg (xs.length - 1) (by omega)
    exact this _ (getD_mem hn)
def greedyF : Nat → List Int → List (Int × Int) → Option (List (Int × Int))
  | 0, xs, out => if sortedB xs = true then some out else none
  | f + 1, xs, out => if sortedB xs = true then some out else greedyF f (segT xs (gSeg xs)) (out ++ [gSeg xs])
def greedyR (xs : List Int) : Option (List (Int × Int)) := greedyF 40 xs []
theorem greedyF_len : ∀ (f : Nat) (xs : List Int) (out r : List (Int × Int)), greedyF f xs out = some r → r.length ≤ out.length + f
  | 0, xs, out, r, h => by
    unfold greedyF at h
    split at h
    · cases h; omega
    · cases h
  | f + 1, xs, out, r, h => by
    unfold greedyF at h
    split at h
    · cases h; omega
    · have := greedyF_len f _ _ r h
      rw [List.length_append, List.length_singleton] at this
      omega
def okGreedyS (xs : List Int) : Bool := goodB xs && (greedyR xs).isSome
def mGreedySegments (xs : List Int) : List (Int × Int) := if goodB xs = true then (greedyR xs).getD [] else []
theorem len_mGreedySegments (xs : List Int) : (mGreedySegments xs).length ≤ 1048576 := by
  unfold mGreedySegments
  split
  · cases h : greedyR xs with
    | none => simp
    | some r => have := greedyF_len 40 xs [] r h; simp at this ⊢; omega
  · simp

end Go.Pan

