import Derived.Test.YtkfpcnbpdlcnaaaLib
namespace Go.Pan

/-- there is a stack -/
def Good (xs : List Int) : Prop := 1 ≤ xs.length ∧ xs.length ≤ 9 ∧ (∀ x ∈ xs, 1 ≤ x ∧ x ≤ xs.length) ∧ xs.Nodup
instance (xs : List Int) : Decidable (Good xs) := by unfold Good; infer_instance
def goodB (xs : List Int) : Bool := decide (Good xs)

theorem length_le_of_nodup_subset : ∀ (l m : List Int), l.Nodup → (∀ x ∈ l, x ∈ m) → l.length ≤ m.length
  | [], _, _, _ => by simp
  | a :: t, m, hn, hs => by
    have hn' := List.nodup_cons.1 hn
    have ha : a ∈ m := hs a (by simp)
    have h := length_le_of_nodup_subset t (m.erase a) hn'.2 (fun x hx => (List.mem_erase_of_ne (by rintro rfl; exact hn'.1 hx)).2 (hs x (by simp [hx])))
    rw [List.length_erase_of_mem ha] at h
    have : 0 < m.length := List.length_pos_of_mem ha
    simp
    omega

theorem ramp_nodup (k : Int) (n : Nat) : (ramp k n).Nodup := by
  unfold ramp
  refine List.pairwise_map.2 (List.Pairwise.imp (fun {a b} h => ?_) List.nodup_range)
  omega
theorem mem_ramp {k : Int} {n : Nat} {x : Int} : x ∈ ramp k n ↔ k ≤ x ∧ x < k + n := by
  simp only [ramp, List.mem_map, List.mem_range]
  constructor
  · rintro ⟨a, ha, rfl⟩; omega
  · intro h; exact ⟨(x - k).toNat, by omega, by omega⟩

theorem nodup_of_all (xs : List Int) (h : ∀ v : Int, 1 ≤ v → v ≤ xs.length → v ∈ xs) : xs.Nodup := by
  by_cases hn : xs.Nodup
  · exact hn
  · exfalso
    have : ∃ i j, ∃ (hi : i < xs.length) (hj : j < xs.length), i < j ∧ xs[i] = xs[j] := by
      by_cases he : ∃ i j, ∃ (hi : i < xs.length) (hj : j < xs.length), i < j ∧ xs[i] = xs[j]
      · exact he
      · exact absurd (List.pairwise_iff_getElem.2 fun i j hi hj hij e => he ⟨i, j, hi, hj, hij, e⟩) hn
    obtain ⟨i, j, hi, hj, hij, e⟩ := this
    have hle := length_le_of_nodup_subset (ramp 1 xs.length) (xs.eraseIdx j) (ramp_nodup _ _) (fun x hx => by
      have hx := mem_ramp.1 hx
      have hm := h x hx.1 (by omega)
      obtain ⟨m, hml, rfl⟩ := List.getElem_of_mem hm
      rw [List.mem_eraseIdx_iff_getElem]
      by_cases hmj : m = j
      · subst hmj; exact ⟨i, hi, by omega, e⟩
      · exact ⟨m, hml, hmj, rfl⟩)
    rw [ramp_length, List.length_eraseIdx_of_lt hj] at hle
    omega

theorem all_of_nodup (xs : List Int) (hb : ∀ x ∈ xs, 1 ≤ x ∧ x ≤ xs.length) (hn : xs.Nodup) (v : Int) (h1 : 1 ≤ v) (h2 : v ≤ xs.length) : v ∈ xs := by
  by_cases hv : v ∈ xs
  · exact hv
  · exfalso
    have hle := length_le_of_nodup_subset (v :: xs) (ramp 1 xs.length) (List.nodup_cons.2 ⟨hv, hn⟩) (fun x hx => by
      rw [mem_ramp]
      rcases List.mem_cons.1 hx with rfl | hx
      · omega
      · have := hb x hx; omega)
    rw [ramp_length] at hle
    simp at hle
    omega

/-- the sizes that have been seen, each at its own place -/
def seenAt (xs : List Int) : List Int := (List.range 9).map fun j : Nat => if ((j : Int) + 1) ∈ xs then (j : Int) + 1 else 0
theorem seenAt_length (xs : List Int) : (seenAt xs).length = 9 := by simp [seenAt]
theorem seenAt_nil : seenAt [] = List.replicate 9 0 := by decide
theorem seenAt_snoc (xs : List Int) (m : Nat) : (seenAt xs).set m ((m : Int) + 1) = seenAt (xs ++ [(m : Int) + 1]) := by
  apply List.ext_getElem
  · simp [seenAt]
  · intro j h1 h2
    simp only [seenAt, List.getElem_set, List.getElem_map, List.getElem_range, List.mem_append, List.mem_singleton]
    by_cases e : m = j
    · subst e; simp
    · rw [if_neg e]
      have : ((j : Int) + 1 = (m : Int) + 1) = False := by simp; omega
      simp [this]
theorem seenAt_sorted (xs : List Int) (h9 : xs.length ≤ 9) (hb : ∀ x ∈ xs, 1 ≤ x ∧ x ≤ xs.length) : seenAt xs = ramp 1 xs.length ++ List.replicate (9 - xs.length) 0 ↔ xs.Nodup := by
  have hlen : (ramp 1 xs.length ++ List.replicate (9 - xs.length) (0 : Int)).length = 9 := by simp [ramp]; omega
  constructor
  · intro e
    refine nodup_of_all xs fun v h1 h2 => ?_
    have hj : (v - 1).toNat < xs.length := by omega
    have hh := congrArg (fun l => l[(v - 1).toNat]?) e
    simp only [seenAt] at hh
    rw [List.getElem?_map, List.getElem?_range (by omega), List.getElem?_append_left (by simpa [ramp] using hj), List.getElem?_eq_getElem (by simpa [ramp] using hj), ramp_get 1 _ _ hj] at hh
    have ev : (((v - 1).toNat : Nat) : Int) + 1 = v := by omega
    simp only [Option.map_some, ev, Option.some.injEq] at hh
    by_cases hv : v ∈ xs
    · exact hv
    · rw [if_neg hv] at hh; omega
  · intro hn
    apply List.ext_getElem (by rw [seenAt_length, hlen])
    intro j h1 h2
    simp only [seenAt, List.getElem_map, List.getElem_range]
    by_cases hj : j < xs.length
    · rw [if_pos (all_of_nodup xs hb hn _ (by omega) (by omega)), List.getElem_append_left (by simpa [ramp] using hj), ramp_get 1 _ _ hj]
      omega
    · rw [if_neg (fun hm => by have := hb _ hm; omega), List.getElem_append_right (by simp [ramp]; omega)]
      simp
theorem goodB_seenAt (xs : List Int) (h1 : 1 ≤ xs.length) (h9 : xs.length ≤ 9) (hb : ∀ x ∈ xs, 1 ≤ x ∧ x ≤ xs.length) :
    goodB xs = decide (seenAt xs = ramp 1 xs.length ++ List.replicate (9 - xs.length) 0) := by
  unfold goodB
  rw [decide_eq_decide, seenAt_sorted xs h9 hb]
  exact ⟨fun h => h.2.2.2, fun h => ⟨h1, h9, hb, h⟩⟩

end Go.Pan

