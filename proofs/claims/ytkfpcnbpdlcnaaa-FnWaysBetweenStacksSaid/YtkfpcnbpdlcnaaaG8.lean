import Derived.Test.YtkfpcnbpdlcnaaaG7
namespace Go.Pan
/-- what the plans that go on from the stacks that D0 tells lead to -/
def behM (n : Nat) (c : LC) (done : List Int → Bool) : LC := fun q => ((ks n).map fun k => if done (turnL q k) = true then c (turnL q k) else 0).sum
/-- .. and those that go on from x with the turns below K -/
def behN (n : Nat) (c : LC) (done : List Int → Bool) (x : List Int) (K : Nat) : LC := fun q => ((ks n).map fun k => if (done (turnL q k) = true ∧ turnL q k ≠ x) ∨ (turnL q k = x ∧ k < K) then c (turnL q k) else 0).sum
theorem behN_first {n : Nat} {c : LC} {done done' : List Int → Bool} {x : List Int} (h : ∀ y, St n y → y ≠ x → done' y = done y) (hx : done x = false) : EqC n (behM n c done) (behN n c done' x 2) := fun q hq => by
  refine sum_congr fun k hk => ?_
  have h2 := (mem_ks.1 hk).1
  by_cases e : turnL q k = x
  · have h3 : ¬ (k < 2) := by omega
    simp [e, hx, h3]
  · simp [e, h _ (hq.turn k) e]
theorem behN_last {n : Nat} {c : LC} {done : List Int → Bool} {x : List Int} (hx : done x = true) : EqC n (behN n c done x (n + 1)) (behM n c done) := fun q _ => by
  refine sum_congr fun k hk => ?_
  have h2 := (mem_ks.1 hk).2
  by_cases e : turnL q k = x
  · have h3 : k < n + 1 := by omega
    simp [e, hx, h3]
  · simp [e]
theorem behN_succ {n : Nat} {c : LC} {done : List Int → Bool} {x : List Int} {K : Nat} (hK : K ∈ ks n) : EqC n (behN n c done x (K + 1)) (fun q => if q = turnL x K then behN n c done x K (turnL x K) + c x else behN n c done x K q) := fun q _ => by
  have key : behN n c done x (K + 1) q = behN n c done x K q + (if turnL q K = x then c x else 0) := by
    unfold behN
    rw [sum_congr (g := fun k' => (if (done (turnL q k') = true ∧ turnL q k' ≠ x) ∨ (turnL q k' = x ∧ k' < K) then c (turnL q k') else 0) + if k' = K then (if turnL q K = x then c x else 0) else 0) (fun k' _ => ?_), sum_map_add, sum_one (ks_nodup n) hK]
    by_cases e : k' = K
    · subst e
      by_cases h : turnL q k' = x
      · simp [h]
      · simp [h]
    · have h3 : (k' < K + 1) = (k' < K) := by simp; omega
      simp [e, h3]
  rw [key]
  show _ = if q = turnL x K then behN n c done x K (turnL x K) + c x else behN n c done x K q
  by_cases e : q = turnL x K
  · subst e
    rw [if_pos rfl, if_pos (turnL_turnL x K)]
  · rw [if_neg e, if_neg (fun h => e (turnL_eq_iff.2 h))]
    omega
theorem behN_le {n : Nat} {c : LC} {done : List Int → Bool} {x : List Int} {K M : Nat} (hM : ∀ q, St n q → c q ≤ M) (q : List Int) (hq : St n q) : behN n c done x K q ≤ (n - 1) * M := by
  have h := sum_le (ks n) (fun k => if (done (turnL q k) = true ∧ turnL q k ≠ x) ∨ (turnL q k = x ∧ k < K) then c (turnL q k) else 0) M (fun k _ => by
    show (if (done (turnL q k) = true ∧ turnL q k ≠ x) ∨ (turnL q k = x ∧ k < K) then c (turnL q k) else 0) ≤ M
    split
    · exact hM _ (hq.turn k)
    · exact Nat.zero_le _)
  rw [ks_length] at h
  exact h
theorem behM_none {n : Nat} {c : LC} {done : List Int → Bool} (h : ∀ y, St n y → done y = true → c y = 0) : EqC n (behM n c done) (fun _ => 0) := fun q hq => by
  unfold behM
  rw [sum_congr (g := fun _ => 0) (fun k _ => ?_), sum_map_zero]
  split
  · exact h _ (hq.turn k) (by assumption)
  · rfl
theorem behM_all {n : Nat} {c : LC} {done : List Int → Bool} (h : ∀ y, St n y → done y = true) : EqC n (behM n c done) (behindC n c) := fun q hq => by
  refine sum_congr fun k _ => ?_
  rw [if_pos (h _ (hq.turn k))]

end Go.Pan

