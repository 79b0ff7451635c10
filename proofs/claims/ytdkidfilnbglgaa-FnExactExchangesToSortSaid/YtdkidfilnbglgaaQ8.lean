import Derived.Test.YtdkidfilnbglgaaQ7
namespace Go.Pan
/-- one number of each orbit -/
structure Trv (f : Nat → Nat) (N : Nat) (T : List Nat) : Prop where
  lt : ∀ t ∈ T, t < N
  apart : T.Pairwise fun a b => ¬ Rl f a b
  all : ∀ y, y < N → ∃ t ∈ T, Rl f t y
theorem Trv.le {f : Nat → Nat} {N : Nat} (hf : Onto f N) {T T' : List Nat} (h : Trv f N T) (h' : Trv f N T') : T.length ≤ T'.length := by
  have hc : ∀ t, ∃ t', t < N → t' ∈ T' ∧ Rl f t' t := fun t => by
    by_cases ht : t < N
    · obtain ⟨t', h1, h2⟩ := h'.all t ht
      exact ⟨t', fun _ => ⟨h1, h2⟩⟩
    · exact ⟨0, fun h => absurd h ht⟩
  obtain ⟨φ, hφ⟩ := Classical.axiomOfChoice hc
  have hnd : (T.map fun t => ((φ t : Nat) : Int)).Nodup := by
    refine List.pairwise_map.2 (h.apart.imp_of_mem fun {a b} ha hb hab e => hab ?_)
    have h1 := hφ a (h.lt a ha)
    have h2 := hφ b (h.lt b hb)
    have e' : φ a = φ b := by omega
    rw [← e'] at h2
    exact (h1.2.symm hf (h'.lt _ h1.1)).trans h2.2
  have h2 := length_le_of_nodup_subset _ (T'.map fun (t : Nat) => (t : Int)) hnd (fun y hy => by
    obtain ⟨t, ht, rfl⟩ := List.mem_map.1 hy
    exact List.mem_map.2 ⟨φ t, (hφ t (h.lt t ht)).1, rfl⟩)
  simpa using h2
def repsTo (f : Nat → Nat) (N : Nat) : Nat → List Nat
  | 0 => []
  | k + 1 => if inSome (cycsTo f N k) k = true then repsTo f N k else repsTo f N k ++ [k]
theorem repsTo_map (f : Nat → Nat) (N k : Nat) : cycsTo f N k = (repsTo f N k).map (cycL f N) := by
  induction k with
  | zero => rfl
  | succ k ih =>
    unfold cycsTo repsTo
    split
    · exact ih
    · rw [List.map_append, ih]; rfl
theorem repsTo_lt (f : Nat → Nat) (N k : Nat) : ∀ t ∈ repsTo f N k, t < k := by
  induction k with
  | zero => simp [repsTo]
  | succ k ih =>
    unfold repsTo
    split
    · intro t ht; have := ih t ht; omega
    · intro t ht
      rcases List.mem_append.1 ht with h | h
      · have := ih t h; omega
      · have := List.mem_singleton.1 h; omega
theorem reps_trv {f : Nat → Nat} {N : Nat} (hf : Onto f N) : Trv f N (repsTo f N N) := by
  refine ⟨repsTo_lt f N N, ?_, fun y hy => ?_⟩
  · have key : ∀ k, k ≤ N → (repsTo f N k).Pairwise fun a b => ¬ Rl f a b := fun k => by
      induction k with
      | zero => intro _; simp [repsTo]
      | succ k ih =>
        intro hk
        cases hin : inSome (cycsTo f N k) k with
        | true => unfold repsTo; rw [if_pos hin]; exact ih (by omega)
        | false =>
          unfold repsTo
          rw [if_neg (by rw [hin]; exact Bool.false_ne_true)]
          refine List.pairwise_append.2 ⟨ih (by omega), by simp, fun a ha b hb h => ?_⟩
          obtain rfl := List.mem_singleton.1 hb
          have hal := repsTo_lt f N b a ha
          have h1 : inSome (cycsTo f N b) b = true := inSome_iff.2 ⟨cycL f N a, by rw [repsTo_map]; exact List.mem_map.2 ⟨a, ha, rfl⟩, (mem_cycL hf (by omega)).2 h⟩
          rw [h1] at hin; cases hin
    exact key N (Nat.le_refl _)
  · obtain ⟨c, hc, hyc⟩ := (cycsTo_mem hf (Nat.le_refl N)).2 y hy
    rw [repsTo_map] at hc
    obtain ⟨t, ht, rfl⟩ := List.mem_map.1 hc
    exact ⟨t, ht, (mem_cycL hf (repsTo_lt f N N t ht)).1 hyc⟩
theorem cycs_count {f : Nat → Nat} {N : Nat} (hf : Onto f N) {T : List Nat} (h : Trv f N T) : (cycsL f N).length = T.length := by
  have h1 : (cycsL f N).length = (repsTo f N N).length := by unfold cycsL; rw [repsTo_map, List.length_map]
  rw [h1]
  exact Nat.le_antisymm ((reps_trv hf).le hf h) (h.le hf (reps_trv hf))

/-- two numbers taken out of their orbits: there are two orbits more -/
theorem cycs_parted {f f' : Nat → Nat} {N x y : Nat} (hf : Onto f N) (hf' : Onto f' N) (hx : x < N) (hy : y < N) (hxy : x ≠ y) (hx' : f' x = x) (hy' : f' y = y) (hfx : f x ≠ x) (hfx2 : f x ≠ y) (hfy : f y ≠ y)
    (hA : ∀ z, z < N → z ≠ x → z ≠ y → f z ≠ x → f z ≠ y → f' z = f z) (hB : ∀ z, z < N → z ≠ x → z ≠ y → f z = x → f' z = f x)
    (hC : ∀ z, z < N → z ≠ x → z ≠ y → f z = y → f' z = if f y = x then f x else f y) : (cycsL f' N).length = (cycsL f N).length + 2 := by
  -- steps of f' are steps of f
  have hstep : ∀ z, z < N → z ≠ x → z ≠ y → (f' z ≠ x ∧ f' z ≠ y) ∧ Rl f z (f' z) := fun z hz z1 z2 => by
    refine ⟨⟨fun e => z1 (hf'.inj z x hz hx (by rw [e, hx'])), fun e => z2 (hf'.inj z y hz hy (by rw [e, hy']))⟩, ?_⟩
    by_cases e1 : f z = x
    · rw [hB z hz z1 z2 e1]; exact ⟨2, by show f (f z) = f x; rw [e1]⟩
    · by_cases e2 : f z = y
      · rw [hC z hz z1 z2 e2]
        split
        · rename_i e3; exact ⟨3, by show f (f (f z)) = f x; rw [e2, e3]⟩
        · exact ⟨2, by show f (f z) = f y; rw [e2]⟩
      · rw [hA z hz z1 z2 e1 e2]; exact ⟨1, rfl⟩
  have hits : ∀ k z, z < N → z ≠ x → z ≠ y → (itN f' k z ≠ x ∧ itN f' k z ≠ y) ∧ Rl f z (itN f' k z) := fun k => by
    induction k with
    | zero => intro z _ z1 z2; exact ⟨⟨z1, z2⟩, Rl.refl z⟩
    | succ k ih =>
      intro z hz z1 z2
      obtain ⟨⟨h1, h2⟩, h3⟩ := ih z hz z1 z2
      obtain ⟨h4, h5⟩ := hstep _ (hf'.it hz k) h1 h2
      exact ⟨h4, h3.trans h5⟩
  have hfix : ∀ v, f' v = v → ∀ k, itN f' k v = v := fun v hv k => by
    induction k with
    | zero => rfl
    | succ k ih => show f' _ = v; rw [ih, hv]
  -- orbits of f are orbits of f'
  have hconv : ∀ K k, k ≤ K → ∀ z, z < N → z ≠ x → z ≠ y → itN f k z ≠ x → itN f k z ≠ y → Rl f' z (itN f k z) := fun K => by
    induction K with
    | zero => intro k hk z _ _ _ _ _; obtain rfl : k = 0 := by omega
              exact Rl.refl z
    | succ K ih =>
      intro k hk z hz z1 z2 w1 w2
      match k, hk, w1, w2 with
      | 0, _, _, _ => exact Rl.refl z
      | k + 1, hk, w1, w2 =>
        rw [itN_succ'] at w1 w2 ⊢
        have hfz := hf.lt z hz
        by_cases e1 : f z = x
        · have hb := hB z hz z1 z2 e1
          rw [e1] at w1 w2 ⊢
          match k, hk, w1, w2 with
          | 0, _, w1, _ => exact absurd rfl w1
          | k + 1, hk, w1, w2 =>
            rw [itN_succ'] at w1 w2 ⊢
            exact Rl.trans ⟨1, hb⟩ (ih k (by omega) (f x) (hf.lt x hx) hfx hfx2 w1 w2)
        · by_cases e2 : f z = y
          · have hb := hC z hz z1 z2 e2
            rw [e2] at w1 w2 ⊢
            match k, hk, w1, w2 with
            | 0, _, _, w2 => exact absurd rfl w2
            | k + 1, hk, w1, w2 =>
              rw [itN_succ'] at w1 w2 ⊢
              by_cases e3 : f y = x
              · rw [if_pos e3] at hb
                rw [e3] at w1 w2 ⊢
                match k, hk, w1, w2 with
                | 0, _, w1, _ => exact absurd rfl w1
                | k + 1, hk, w1, w2 =>
                  rw [itN_succ'] at w1 w2 ⊢
                  exact Rl.trans ⟨1, hb⟩ (ih k (by omega) (f x) (hf.lt x hx) hfx hfx2 w1 w2)
              · rw [if_neg e3] at hb
                exact Rl.trans ⟨1, hb⟩ (ih k (by omega) (f y) (hf.lt y hy) e3 hfy w1 w2)
          · exact Rl.trans ⟨1, hA z hz z1 z2 e1 e2⟩ (ih k (by omega) (f z) hfz e1 e2 w1 w2)
  have hT := reps_trv hf'
  have hnd : (repsTo f' N N).Nodup := hT.apart.imp (fun {a b} h e => h (by rw [e]; exact Rl.refl b))
  have hxT : x ∈ repsTo f' N N := by
    obtain ⟨t, ht, h⟩ := hT.all x hx
    obtain ⟨k, hk⟩ := h.symm hf' (hT.lt t ht)
    rw [hfix x hx'] at hk
    rw [hk]; exact ht
  have hyT : y ∈ repsTo f' N N := by
    obtain ⟨t, ht, h⟩ := hT.all y hy
    obtain ⟨k, hk⟩ := h.symm hf' (hT.lt t ht)
    rw [hfix y hy'] at hk
    rw [hk]; exact ht
  have hnd2 : ((repsTo f' N N).erase x).Nodup := hnd.sublist List.erase_sublist
  have hmem : ∀ t, t ∈ ((repsTo f' N N).erase x).erase y ↔ t ≠ y ∧ t ≠ x ∧ t ∈ repsTo f' N N := fun t => by
    rw [hnd2.mem_erase_iff, hnd.mem_erase_iff]
  have hlen : (repsTo f' N N).length = (((repsTo f' N N).erase x).erase y).length + 2 := by
    have h1 := List.length_erase_of_mem hxT
    have h2 := List.length_erase_of_mem (show y ∈ (repsTo f' N N).erase x from hnd.mem_erase_iff.2 ⟨fun e => hxy e.symm, hyT⟩)
    have h3 := List.length_pos_of_mem hxT
    have h4 := List.length_pos_of_mem (show y ∈ (repsTo f' N N).erase x from hnd.mem_erase_iff.2 ⟨fun e => hxy e.symm, hyT⟩)
    omega
  have hmain : ∀ v, v < N → v ≠ x → v ≠ y → ∃ t ∈ ((repsTo f' N N).erase x).erase y, Rl f t v := fun v hv v1 v2 => by
    obtain ⟨t, ht, k, hk⟩ := hT.all v hv
    have t1 : t ≠ x := fun e => by subst e; rw [hfix t hx'] at hk; exact v1 hk.symm
    have t2 : t ≠ y := fun e => by subst e; rw [hfix t hy'] at hk; exact v2 hk.symm
    refine ⟨t, (hmem t).2 ⟨t2, t1, ht⟩, ?_⟩
    rw [← hk]
    exact (hits k t (hT.lt t ht) t1 t2).2
  have hvx : ∃ t ∈ ((repsTo f' N N).erase x).erase y, Rl f t x := by
    obtain ⟨t, ht, h⟩ := hmain (f x) (hf.lt x hx) hfx hfx2
    exact ⟨t, ht, h.trans (Rl.symm hf hx ⟨1, rfl⟩)⟩
  have hTf : Trv f N (((repsTo f' N N).erase x).erase y) := by
    refine ⟨fun t ht => hT.lt t ((hmem t).1 ht).2.2, ?_, fun v hv => ?_⟩
    · refine (hT.apart.sublist (List.erase_sublist.trans List.erase_sublist)).imp_of_mem fun {a b} ha hb hab h => hab ?_
      have ha := (hmem a).1 ha
      have hb := (hmem b).1 hb
      obtain ⟨k, hk⟩ := h
      rw [← hk]
      exact hconv k k (Nat.le_refl _) a (hT.lt a ha.2.2) ha.2.1 ha.1 (by rw [hk]; exact hb.2.1) (by rw [hk]; exact hb.1)
    · by_cases v1 : v = x
      · subst v1; exact hvx
      · by_cases v2 : v = y
        · subst v2
          by_cases e3 : f v = x
          · obtain ⟨t, ht, h⟩ := hvx
            exact ⟨t, ht, h.trans (Rl.symm hf hv ⟨1, e3⟩)⟩
          · obtain ⟨t, ht, h⟩ := hmain (f v) (hf.lt v hv) e3 hfy
            exact ⟨t, ht, h.trans (Rl.symm hf hv ⟨1, rfl⟩)⟩
        · exact hmain v hv v1 v2
  rw [cycs_count hf' hT, cycs_count hf hTf, hlen]

-- the map of a stack by places
theorem bf_pos {xs : List Int} (hg : Good xs) {z j : Nat} (hj : j ≤ xs.length) (h : extD xs (j + 1) = (z : Int) + 1) : ((bfN xs z : Nat) : Int) = extD xs j := by
  rw [bf_cast hg]
  congr 1
  have e : extD xs (j + 1) = below xs j := by unfold extD; rw [if_neg (by omega), Nat.add_sub_cancel]
  rw [e] at h
  unfold below at h
  by_cases hl : j < xs.length
  · rw [if_pos hl, getD_eq hl] at h
    rw [← h]
    exact idx_of hg hl
  · rw [if_neg hl] at h
    rw [← h, idx_last hg]
    omega
theorem bf_ex {xs : List Int} (hg : Good xs) {z : Nat} (hz : z ≤ xs.length) : ∃ j, j ≤ xs.length ∧ extD xs (j + 1) = (z : Int) + 1 ∧ ((bfN xs z : Nat) : Int) = extD xs j := by
  refine ⟨xs.idxOf ((z : Int) + 1), idx_le _ _, ?_, bf_cast hg z⟩
  have e : ∀ j, extD xs (j + 1) = below xs j := fun j => by unfold extD; rw [if_neg (by omega), Nat.add_sub_cancel]
  rw [e]
  unfold below
  rcases Nat.lt_or_ge z xs.length with h | h
  · have hl := idx_mem hg h
    rw [if_pos hl, getD_eq hl]
    exact idx_at hl
  · obtain rfl : z = xs.length := by omega
    rw [idx_last hg, if_neg (by omega)]
theorem extD_at {xs : List Int} {j : Nat} (h1 : 1 ≤ j) (hj : j ≤ xs.length) : some (extD xs j) = xs[j - 1]? := by
  unfold extD below
  rw [if_neg (by omega), if_pos (by omega), List.getD_eq_getElem?_getD, List.getElem?_eq_getElem (by omega)]
  rfl
theorem extD_end {xs : List Int} : extD xs (xs.length + 1) = (xs.length : Int) + 1 := by
  unfold extD below
  rw [if_neg (by omega), Nat.add_sub_cancel, if_neg (by omega)]
/-- behind an exchange, by places -/
theorem ex_places (xs : List Int) (a b c d : Nat) (h1 : a ≤ b) (h2 : b ≤ c) (h3 : c ≤ d) (h4 : d ≤ xs.length) :
    (∀ j, j ≤ a → extD (exL xs a b c d) j = extD xs j) ∧ (∀ t, 1 ≤ t → t ≤ d - c → extD (exL xs a b c d) (a + t) = extD xs (c + t)) ∧ (∀ t, 1 ≤ t → t ≤ c - b → extD (exL xs a b c d) (a + (d - c) + t) = extD xs (b + t)) ∧
    (∀ t, 1 ≤ t → t ≤ b - a → extD (exL xs a b c d) (d - (b - a) + t) = extD xs (a + t)) ∧ (∀ j, d < j → j ≤ xs.length + 1 → extD (exL xs a b c d) j = extD xs j) := by
  have hl := exL_length xs a b c d h1 h2 h3
  have key : ∀ i j, 1 ≤ i → i ≤ xs.length → 1 ≤ j → j ≤ xs.length → (exL xs a b c d)[i - 1]? = xs[j - 1]? → extD (exL xs a b c d) i = extD xs j := fun i j i1 i2 j1 j2 e => by
    have e1 := extD_at (xs := exL xs a b c d) i1 (by omega)
    have e2 := extD_at (xs := xs) j1 j2
    rw [e, ← e2] at e1
    exact Option.some.inj e1
  have lP : (xs.take a).length = a := by rw [List.length_take]; omega
  have lB : ((xs.take d).drop c).length = d - c := by rw [List.length_drop, List.length_take]; omega
  have lM : ((xs.take c).drop b).length = c - b := by rw [List.length_drop, List.length_take]; omega
  have lA : ((xs.take b).drop a).length = b - a := by rw [List.length_drop, List.length_take]; omega
  refine ⟨fun j hj => ?_, fun t t1 t2 => ?_, fun t t1 t2 => ?_, fun t t1 t2 => ?_, fun j j1 j2 => ?_⟩
  · by_cases h0 : j = 0
    · subst h0; rfl
    · exact key j j (by omega) (by omega) (by omega) (by omega) (exL_get_lo xs a b c d (j - 1) (by omega) (by omega))
  · refine key _ _ (by omega) (by omega) (by omega) (by omega) ?_
    unfold exL
    rw [List.append_assoc, List.append_assoc, List.append_assoc, List.getElem?_append_right (by omega), lP, List.getElem?_append_left (by omega), List.getElem?_drop, List.getElem?_take, if_pos (by omega)]
    congr 1; omega
  · refine key _ _ (by omega) (by omega) (by omega) (by omega) ?_
    unfold exL
    rw [List.append_assoc, List.append_assoc, List.getElem?_append_right (by rw [List.length_append]; omega), List.length_append, lP, lB, List.getElem?_append_left (by omega), List.getElem?_drop, List.getElem?_take, if_pos (by omega)]
    congr 1; omega
  · refine key _ _ (by omega) (by omega) (by omega) (by omega) ?_
    unfold exL
    rw [List.append_assoc, List.getElem?_append_right (by simp only [List.length_append]; omega), List.length_append, List.length_append, lP, lB, lM, List.getElem?_append_left (by omega), List.getElem?_drop, List.getElem?_take, if_pos (by omega)]
    congr 1; omega
  · by_cases hjl : j ≤ xs.length
    · refine key _ _ (by omega) (by omega) (by omega) hjl ?_
      unfold exL
      rw [List.getElem?_append_right (by simp only [List.length_append]; omega), List.getElem?_drop]
      simp only [List.length_append]
      congr 1; omega
    · obtain rfl : j = xs.length + 1 := by omega
      have e1 := extD_end (xs := exL xs a b c d)
      rw [hl] at e1
      rw [e1, extD_end]
end Go.Pan
