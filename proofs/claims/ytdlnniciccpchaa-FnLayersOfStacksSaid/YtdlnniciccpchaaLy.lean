import Derived.Test.YtdlnniciccpchaaLyX
import Derived.Test.YtdlnniciccpchaaFaX1
namespace Go.Pan

theorem len_sub {α : Type} [DecidableEq α] : ∀ (l m : List α), l.Nodup → (∀ x ∈ l, x ∈ m) → l.length ≤ m.length
  | [], _, _, _ => by simp
  | a :: t, m, hn, hs => by
    have hn' := List.nodup_cons.1 hn
    have ha : a ∈ m := hs a (by simp)
    have h := len_sub t (m.erase a) hn'.2 (fun x hx => (List.mem_erase_of_ne (fun e => hn'.1 (by rw [← e]; exact hx))).2 (hs x (by simp [hx])))
    rw [List.length_erase_of_mem ha] at h
    have := List.length_pos_of_mem ha
    simp; omega
theorem countP_list {α : Type} [DecidableEq α] {l L : List α} {p : α → Bool} (hl : l.Nodup) (hL : L.Nodup) (hs : ∀ x ∈ L, x ∈ l) (hp : ∀ x ∈ l, p x = true ↔ x ∈ L) : l.countP p = L.length := by
  rw [List.countP_eq_length_filter]
  apply Nat.le_antisymm
  · exact len_sub _ _ (hl.filter _) fun x hx => (hp x (List.mem_filter.1 hx).1).1 (List.mem_filter.1 hx).2
  · exact len_sub _ _ hL fun x hx => List.mem_filter.2 ⟨hs x hx, (hp x (hs x hx)).2 hx⟩
theorem sum_oneL {k j : Nat} (h : j < k) : ((List.range k).map fun e => if j = e then 1 else 0).sum = 1 := by
  induction k with
  | zero => omega
  | succ k ih =>
    rw [List.range_succ, List.map_append, List.sum_append]
    by_cases e : j = k
    · subst e
      have : ((List.range j).map fun e => if j = e then 1 else 0).sum = 0 := by
        rw [sum_congr (g := fun _ => 0) (fun x hx => if_neg (by have := List.mem_range.1 hx; omega)), sum_map_zero]
      simp [this]
    · rw [ih (by omega)]; simp [e]
theorem sum_countP {α : Type} (l : List α) (f : α → Nat) (k : Nat) (h : ∀ x ∈ l, f x < k) : ((List.range k).map fun e => l.countP fun x => decide (f x = e)).sum = l.length := by
  induction l with
  | nil => simp only [List.countP_nil]; rw [sum_map_zero]; rfl
  | cons a l ih =>
    have e : ((List.range k).map fun e => (a :: l).countP fun x => decide (f x = e)).sum = ((List.range k).map fun e => (l.countP fun x => decide (f x = e)) + (if f a = e then 1 else 0)).sum := by
      refine sum_congr fun e _ => ?_
      rw [List.countP_cons]
      simp
    rw [e, sum_map_add, ih (fun x hx => h x (by simp [hx])), sum_oneL (h a (by simp))]
    simp
theorem ramp_at {n i : Nat} (h : i < n) : (ramp 1 n)[i]? = some ((i : Int) + 1) := by
  rw [List.getElem?_eq_getElem (by rw [ramp_length]; exact h), ramp_get 1 n i h]
  congr 1
  omega
theorem sum_iteL {α : Type} (l : List α) (p : α → Prop) [DecidablePred p] : (l.map fun x => if p x then 1 else 0).sum = l.countP fun x => decide (p x) := by
  induction l with
  | nil => rfl
  | cons a l ih =>
    rw [List.map_cons, List.sum_cons, ih, List.countP_cons]
    by_cases h : p a <;> simp [h] <;> omega
theorem sum_cast (l : List Nat) : (l.map fun (x : Nat) => (x : Int)).sum = (l.sum : Int) := by
  induction l with
  | nil => rfl
  | cons a l ih => simp [ih]

section
variable {m : Nat} (hm : Cnt m)
include hm
theorem byN_far (e : Nat) : byN m e = (allS m).countP fun q => decide (far m (ramp 1 m) q = e) := by
  unfold byN
  refine List.countP_congr fun q hq => ?_
  have hst := (mem_allS hm.pos hm.le).1 hq
  rw [decide_eq_true_iff, decide_eq_true_iff]
  exact nearC_pos hm.home hst
theorem byL_sum : (byL m).sum = (fact m : Int) := by
  unfold byL
  have e : (List.range (ecc m + 1)).map (fun e => (byN m e : Int)) = ((List.range (ecc m + 1)).map fun e => (allS m).countP fun q => decide (far m (ramp 1 m) q = e)).map fun (x : Nat) => (x : Int) := by
    rw [List.map_map]
    exact List.map_congr_left fun e _ => by rw [byN_far hm]; rfl
  rw [e, sum_cast, sum_countP _ _ _ (fun q hq => Nat.lt_succ_of_le (far_ecc hm ((mem_allS hm.pos hm.le).1 hq))), allS_length]
theorem byN_zero : byN m 0 = 1 := by
  rw [byN_far hm]
  refine countP_list (L := [ramp 1 m]) (allS_nodup m) (by simp) (fun x hx => ?_) fun x hx => ?_
  · rw [List.mem_singleton] at hx; subst hx; exact (mem_allS hm.pos hm.le).2 hm.home
  · rw [decide_eq_true_iff, List.mem_singleton, far_zero hm.home ((mem_allS hm.pos hm.le).1 hx)]
    exact eq_comm
theorem turn_ramp_head {k : Nat} (hk : k ∈ ks m) : (turnL (ramp 1 m) k)[0]? = some (k : Int) := by
  have _ := hm.pos
  have h := mem_ks.1 hk
  have h1 : (ramp 1 m).length = m := ramp_length ..
  unfold turnL
  rw [List.getElem?_append_left (by rw [List.length_reverse, List.length_take]; omega), List.getElem?_reverse (by rw [List.length_take]; omega), List.length_take, List.getElem?_take, h1, if_pos (by omega)]
  rw [show min k m - 1 - 0 = k - 1 by omega, ramp_at (by omega)]
  congr 1
  omega
theorem turns_nodup : ((ks m).map fun k => turnL (ramp 1 m) k).Nodup := by
  have h : (ks m).Nodup := ks_nodup m
  rw [List.nodup_iff_pairwise_ne, List.pairwise_map]
  refine (List.nodup_iff_pairwise_ne.1 h).imp_of_mem fun {a b} ha hb hab e => hab ?_
  have h1 := turn_ramp_head hm ha
  rw [e, turn_ramp_head hm hb] at h1
  have := Option.some.inj h1
  omega
theorem byN_one : byN m 1 = m - 1 := by
  rw [byN_far hm]
  rw [← ks_length m, ← List.length_map (f := fun k => turnL (ramp 1 m) k)]
  refine countP_list (allS_nodup m) (turns_nodup hm) (fun x hx => ?_) fun x hx => ?_
  · obtain ⟨k, hk, rfl⟩ := List.mem_map.1 hx
    exact (mem_allS hm.pos hm.le).2 (hm.home.turn k)
  · have hst := (mem_allS hm.pos hm.le).1 hx
    rw [decide_eq_true_iff, List.mem_map]
    constructor
    · intro h
      obtain ⟨k, hk, h0⟩ := far_prev hm.home hst h
      refine ⟨k, hk, ?_⟩
      have := (far_zero hm.home (hst.turn k)).1 h0
      exact (turnL_eq_iff.1 this)
    · rintro ⟨k, hk, rfl⟩
      have h1 := (far_one hk hm.home hm.home)
      have h0 : far m (ramp 1 m) (ramp 1 m) = 0 := (far_zero hm.home hm.home).2 rfl
      have h2 : far m (ramp 1 m) (turnL (ramp 1 m) k) ≠ 0 := fun e => by
        have e1 := (far_zero hm.home hst).1 e
        have e2 := turn_ramp_head hm hk
        rw [← e1, ramp_at (by have := hm.pos; omega)] at e2
        have := Option.some.inj e2
        have := (mem_ks.1 hk).1
        omega
      omega
end

theorem layers_is {n : Int} (h : inB n 1 7 = true) : ∃ m : Nat, n = (m : Int) ∧ Cnt m ∧ m ≤ 7 ∧ (∃ d : Nat, mWorstDistance n = (d : Int) ∧ d ≤ 14 ∧ (mCountByTurns n).length = d + 1 ∧ (mCountByTurns n).sum = (fact m : Int) ∧ (mCountByTurns n)[0]? = some 1 ∧
    (1 < m → (mCountByTurns n)[1]? = some ((m : Int) - 1)) ∧ (mCountByTurns n)[d]? = some ((mWorstStacks n).length : Int)) ∧ (∀ q ∈ mWorstStacks n, q.length = m ∧ farB q = true ∧ mStackDistance q = mWorstDistance n) ∧ (mWorstStacks n).Pairwise (fun x y => ltL x y = true) ∧ ∀ x ∈ mCountByTurns n, 0 ≤ x ∧ x ≤ 5040 := by
  obtain ⟨m, rfl, hm, h7⟩ := inB_seven h
  have e1 : mWorstDistance (m : Int) = (ecc m : Int) := by unfold mWorstDistance; rw [if_pos h, Int.toNat_natCast]
  have e2 : mCountByTurns (m : Int) = byL m := by unfold mCountByTurns; rw [if_pos h, Int.toNat_natCast]
  have e3 : mWorstStacks (m : Int) = worstS m := by unfold mWorstStacks; rw [if_pos h, Int.toNat_natCast]
  have hpe : peccN m = ecc m := pecc m
  have hlen : (byL m).length = ecc m + 1 := by simp [byL]
  have hget : ∀ i, i ≤ ecc m → (byL m)[i]? = some (byN m i : Int) := fun i hi => by
    unfold byL
    rw [List.getElem?_map, List.getElem?_range (by omega)]
    rfl
  have hle := ecc_le hm
  have hf7 : fact m ≤ 5040 := fact_mono h7
  refine ⟨m, rfl, hm, h7, ⟨ecc m, e1, by omega, by rw [e2, hlen], by rw [e2]; exact byL_sum hm, by rw [e2, hget 0 (by omega), byN_zero hm]; rfl, fun h1 => ?_, ?_⟩, fun q hq => ?_, by rw [e3]; exact worstS_sorted m, fun x hx => ?_⟩
  · have h2 : 0 < byN m 1 := by rw [byN_one hm]; omega
    rw [e2, hget 1 ((byN_pos hm 1).1 h2), byN_one hm]
    congr 1
    omega
  · rw [e2, e3, hget _ (Nat.le_refl _), byN_far hm]
    unfold worstS
    rw [hpe, List.countP_eq_length_filter]
  · rw [e3] at hq
    obtain ⟨hq1, hq2⟩ := List.mem_filter.1 hq
    have hst := (mem_allS hm.pos hm.le).1 hq1
    have hq3 := of_decide_eq_true hq2
    rw [hpe] at hq3
    have hl := hst.2
    have hb : farB q = true := farB_iff.2 ⟨hst.1, by omega⟩
    refine ⟨hl, hb, ?_⟩
    rw [e1]
    unfold mStackDistance
    rw [if_pos hb]
    unfold farS
    rw [hl, ← hq3, far_symm hm.home hst]
  · rw [e2] at hx
    unfold byL at hx
    obtain ⟨e, _, rfl⟩ := List.mem_map.1 hx
    have := byN_le m e
    omega

theorem closed_is {n k : Int} (h : closedB n k = true) : ∃ m j : Nat, n = (m : Int) ∧ k = (j : Int) ∧ 1 ≤ m ∧ m ≤ 7 ∧ j ≤ 8 ∧ (j = 0 → mCountClosedPlans n k = 1) ∧ (j = 1 → mCountClosedPlans n k = 0) ∧ (j = 2 → mCountClosedPlans n k = (m : Int) - 1) ∧
    (m = 2 → mCountClosedPlans n k = 1 - (j : Int) % 2) ∧ (m = 1 → 0 < j → mCountClosedPlans n k = 0) := by
  have h' := h
  unfold closedB at h'
  obtain ⟨h1, h2⟩ := Bool.and_eq_true _ _ ▸ h'
  obtain ⟨m, rfl, hm, h7⟩ := inB_seven h1
  obtain ⟨j, rfl, h8⟩ := inB_k h2
  have e : mCountClosedPlans (m : Int) (j : Int) = (Pan.ways m j (ramp 1 m) (ramp 1 m) : Int) := by unfold mCountClosedPlans; rw [if_pos h, Int.toNat_natCast, Int.toNat_natCast]
  have hne : ∀ k ∈ ks m, ramp 1 m ≠ turnL (ramp 1 m) k := fun k hk e => by
    have h1 := turn_ramp_head hm hk
    rw [← e, ramp_at (by have := hm.pos; omega)] at h1
    have := Option.some.inj h1
    have := (mem_ks.1 hk).1
    omega
  have w1 : ∀ k ∈ ks m, Pan.ways m 1 (ramp 1 m) (turnL (ramp 1 m) k) = 1 := fun k hk => by
    rw [ways_last]
    have e : ((ks m).map fun i => Pan.ways m 0 (ramp 1 m) (turnL (turnL (ramp 1 m) k) i)).sum = (ks m).countP fun i => decide (i = k) := by
      rw [← sum_iteL]
      refine sum_congr fun i hi => ?_
      rw [ways_zero]
      by_cases e : i = k
      · subst e; rw [turnL_turnL]; simp
      · rw [if_neg e, if_neg]
        intro e2
        have e3 := turnL_eq_iff.1 e2
        have h3 := turn_ramp_head hm hi
        rw [e3, turn_ramp_head hm hk] at h3
        have := Option.some.inj h3
        omega
    rw [e]
    have hnd : (ks m).Nodup := ks_nodup m
    exact countP_list (L := [k]) hnd (by simp) (fun x hx => by rw [List.mem_singleton] at hx; subst hx; exact hk) (fun x _ => by simp)
  refine ⟨m, j, rfl, rfl, hm.pos, h7, h8, fun e0 => ?_, fun e0 => ?_, fun e0 => ?_, fun e0 => ?_, fun e0 hj => ?_⟩
  · subst e0; rw [e, ways_zero, if_pos rfl]; rfl
  · subst e0
    rw [e, ways_last, sum_congr (g := fun _ => 0) (fun k hk => by rw [ways_zero, if_neg (hne k hk)]), sum_map_zero]; rfl
  · subst e0
    rw [e, ways_last, sum_congr (g := fun _ => 1) w1]
    rw [List.map_const', List.sum_replicate_nat, ks_length]
    have := hm.pos
    omega
  · subst e0
    rw [e]
    have key : ∀ i : Nat, Pan.ways 2 (i + 2) (ramp 1 2) (ramp 1 2) = Pan.ways 2 i (ramp 1 2) (ramp 1 2) := fun i => by
      rw [ways_last, show ks 2 = [2] from rfl]
      simp only [List.map_cons, List.map_nil, List.sum_cons, List.sum_nil, Nat.add_zero]
      rw [ways_last, show ks 2 = [2] from rfl]
      simp only [List.map_cons, List.map_nil, List.sum_cons, List.sum_nil, Nat.add_zero]
      rw [turnL_turnL]
    have h0 : Pan.ways 2 0 (ramp 1 2) (ramp 1 2) = 1 := by rw [ways_zero, if_pos rfl]
    have h1 : Pan.ways 2 1 (ramp 1 2) (ramp 1 2) = 0 := by
      rw [ways_last, sum_congr (g := fun _ => 0) (fun k hk => by rw [ways_zero, if_neg (hne k hk)]), sum_map_zero]
    have key2 : ∀ i : Nat, (Pan.ways 2 i (ramp 1 2) (ramp 1 2) : Int) = 1 - (i : Int) % 2 := by
      intro i
      induction i using Nat.strongRecOn with
      | _ i ih =>
        match i, ih with
        | 0, _ => rw [h0]; rfl
        | 1, _ => rw [h1]; rfl
        | i + 2, ih => rw [key, ih i (by omega)]; omega
    exact key2 j
  · subst e0
    obtain ⟨i, rfl⟩ : ∃ i, j = i + 1 := ⟨j - 1, by omega⟩
    rw [e, ways_last]
    rfl
end Go.Pan
