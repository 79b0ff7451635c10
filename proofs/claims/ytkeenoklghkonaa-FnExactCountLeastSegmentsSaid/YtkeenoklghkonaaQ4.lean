import Derived.Test.YtkeenoklghkonaaQ2
namespace Go.Pan
/-- what segments reach in at most a moves -/
def reachS (m : Nat) : Nat → List (List Int) → List (List Int)
  | 0, l => l
  | a + 1, l => reachS m a (l.flatMap fun q => q :: (segsAll m).map fun p => segT q p)
theorem reachS_mono {m : Nat} : ∀ (a : Nat) (l : List (List Int)) (q : List Int), q ∈ l → q ∈ reachS m a l
  | 0, _, _, h => h
  | a + 1, l, q, h => reachS_mono a _ q (List.mem_flatMap.2 ⟨q, h, List.mem_cons_self ..⟩)
theorem reachS_step {m : Nat} : ∀ (a : Nat) (l : List (List Int)) (q : List Int) (p : Int × Int), q ∈ reachS m a l → p ∈ segsAll m → segT q p ∈ reachS m (a + 1) l
  | 0, l, q, p, h, hp => List.mem_flatMap.2 ⟨q, h, List.mem_cons_of_mem _ (List.mem_map.2 ⟨p, hp, rfl⟩)⟩
  | a + 1, l, q, p, h, hp => reachS_step a _ q p h hp
theorem mem_reachS {m : Nat} (h1 : 1 ≤ m) (h6 : m ≤ 6) {s : List Int} (hs : St m s) : ∀ (a : Nat) (u : List Int), St m u → gfar (sG m) s u ≤ a → u ∈ reachS m a [s]
  | 0, u, hu, h => by
    have := (gfar_zero (sG_ok h1 h6) (show (sG m).St s from hs) hu).1 (by omega)
    rw [← this]; exact List.mem_singleton.2 rfl
  | a + 1, u, hu, h => by
    by_cases h0 : gfar (sG m) s u ≤ a
    · exact (fun h => by
        have h2 : ∀ (a : Nat) (l : List (List Int)), u ∈ reachS m a l → u ∈ reachS m (a + 1) l := by
          intro a
          induction a with
          | zero => intro l h; exact List.mem_flatMap.2 ⟨u, h, List.mem_cons_self ..⟩
          | succ a ih => intro l h; exact ih _ h
        exact h2 a [s] h) (mem_reachS h1 h6 hs a u hu h0)
    · have he : gfar (sG m) s u = a + 1 := by omega
      obtain ⟨k, hk, hf⟩ := gfar_prev (sG_ok h1 h6) (show (sG m).St s from hs) hu he
      have hB := sgAt_B h1 (by omega) hk
      have hv : St m (segT u (sgAt m k)) := hu.seg hB
      have h3 := mem_reachS h1 h6 hs a (segT u (sgAt m k)) hv (Nat.le_of_eq hf)
      have h4 := reachS_step a [s] _ _ h3 (sgAt_mem hk)
      rwa [segT_segT hu hB] at h4
theorem far_gtS {m : Nat} (h1 : 1 ≤ m) (h6 : m ≤ 6) {s t : List Int} (hs : St m s) (ht : St m t) (a b : Nat) (h : ((reachS m a [s]).all fun u => !(reachS m b [t]).contains u) = true) : a + b < gfar (sG m) s t := by
  apply Nat.lt_of_not_le
  intro hle
  obtain ⟨u, hu, e1, e2⟩ := gfar_mid (sG_ok h1 h6) (a := min a (gfar (sG m) s t)) (b := gfar (sG m) s t - min a (gfar (sG m) s t)) (show (sG m).St s from hs) (show (sG m).St t from ht) (by omega)
  have m1 := mem_reachS h1 h6 hs a u hu (by omega)
  have m2 := mem_reachS h1 h6 ht b u hu (by rw [gfar_symm (sG_ok h1 h6) (show (sG m).St t from ht) hu]; omega)
  have h2 := List.all_eq_true.1 h u m1
  simp [m2] at h2
theorem gecc_seg {m : Nat} (h1 : 1 ≤ m) (h6 : m ≤ 6) : gecc (sG m) (ramp 1 m) = m - 1 := by
  have hok := sG_ok h1 h6
  have hr : St m (ramp 1 m) := St.ramp m h1 (by omega)
  have hle := gecc_le hok (show (sG m).St (ramp 1 m) from hr)
  have hdm : (sG m).dm = m - 1 := rfl
  have key : ∀ (u : List Int) (a b : Nat), St m u → ((reachS m a [ramp 1 m]).all fun q => !(reachS m b [u]).contains q) = true → a + b + 1 ≤ gecc (sG m) (ramp 1 m) := fun u a b hu h => by
    have g1 := far_gtS h1 h6 hr hu a b h
    have g2 := gfar_ecc hok (show (sG m).St (ramp 1 m) from hr) (show (sG m).St u from hu)
    omega
  have hm : m = 1 ∨ m = 2 ∨ m = 3 ∨ m = 4 ∨ m = 5 ∨ m = 6 := by omega
  rcases hm with rfl | rfl | rfl | rfl | rfl | rfl
  · omega
  · have := key [2, 1] 0 0 ⟨by decide, rfl⟩ (by decide +kernel); omega
  · have := key [3, 1, 2] 1 0 ⟨by decide, rfl⟩ (by decide +kernel); omega
  · have := key [3, 1, 4, 2] 1 1 ⟨by decide, rfl⟩ (by decide +kernel); omega
  · have := key [3, 1, 5, 2, 4] 2 1 ⟨by decide, rfl⟩ (by decide +kernel); omega
  · have := key [3, 1, 5, 2, 6, 4] 2 2 ⟨by decide, rfl⟩ (by decide +kernel); omega
end Go.Pan
