import Derived.Test.YtakgmcfpdbeajaaGP
import Derived.Test.YtakgmcfpdbeajaaGE
import Derived.Test.YtakgmcfpdbeajaaSS
import Derived.Test.YtakgmcfpdbeajaaR3
namespace Go.Pan
theorem ltL_app (bs a b : List Int) : ltL (bs ++ a) (bs ++ b) = ltL a b := by
  induction bs with
  | nil => rfl
  | cons x bs ih => rw [List.cons_append, List.cons_append, ltL_cons, ih]; simp
/-- all stacks stand in order -/
theorem permsL_sorted (n : Nat) : ∀ (f : Nat) (bs : List Int), (permsL n f bs).Pairwise fun x y => ltL x y = true
  | 0, _ => by simp [permsL]
  | f + 1, bs => by
    rw [permsL, List.pairwise_flatMap]
    refine ⟨fun x _ => permsL_sorted n f _, (freeL_rising n bs).imp_of_mem fun {a b} _ _ hab x hx y hy => ?_⟩
    obtain ⟨s, rfl, _⟩ := permsL_mem hx
    obtain ⟨t, rfl, _⟩ := permsL_mem hy
    rw [List.append_assoc, List.append_assoc, ltL_app, List.singleton_append, List.singleton_append, ltL_cons]
    simp [hab]
theorem allS_sorted (n : Nat) : (allS n).Pairwise fun x y => ltL x y = true := permsL_sorted n n []
theorem allS_un (m : Nat) : allS m = (List.range (fact m)).map (unrank m) := by
  apply List.ext_getElem (by simp [allS_length])
  intro i h1 h2
  have hi : i < fact m := by simpa using h2
  have h := unrank_get hi
  rw [List.getElem?_eq_getElem h1] at h
  simpa using Option.some.inj h
/-- rows and how many numbers they have -/
theorem pre_le {xss : List (List Int)} {c k : Nat} (h1 : xss.length ≤ c) (h2 : ∀ xs ∈ xss, xs.length ≤ k) : pre xss xss.length ≤ c * k := by
  unfold pre
  rw [List.take_length]
  have h := sum_le xss List.length k h2
  exact Nat.le_trans h (Nat.mul_le_mul_right k h1)
/-- the greatest distance -/
def peccN (m : Nat) : Nat := gecc (pG m) (ramp 1 m)
/-- the stacks that are so far -/
def worstS (m : Nat) : List (List Int) := (allS m).filter fun q => decide (far m (ramp 1 m) q = peccN m)
theorem worstS_sorted (m : Nat) : (worstS m).Pairwise fun x y => ltL x y = true := (allS_sorted m).filter _
theorem mem_worstS {m : Nat} (hm : Cnt m) (h7 : m ≤ 7) {q : List Int} : q ∈ worstS m ↔ (pG m).St q ∧ 0 < gnearC (pG m) (ramp 1 m) (peccN m) q := by
  have hO := pG_ok hm h7
  unfold worstS
  rw [List.mem_filter, mem_allS hm.pos hm.le]
  constructor
  · rintro ⟨h1, h2⟩
    exact ⟨h1, (gnearC_pos hO hm.home h1).2 (by rw [pfar]; exact of_decide_eq_true h2)⟩
  · rintro ⟨h1, h2⟩
    have h3 := (gnearC_pos hO hm.home h1).1 h2
    rw [pfar] at h3
    exact ⟨h1, decide_eq_true h3⟩
theorem worstS_len {m : Nat} (h7 : m ≤ 7) : (worstS m).length ≤ 5040 := by
  have h1 : (worstS m).length ≤ (allS m).length := List.length_filter_le _ _
  rw [allS_length] at h1
  have h2 := fact_mono h7
  have h3 : fact 7 = 5040 := rfl
  omega
theorem worstS_rows {m : Nat} (hm : Cnt m) : ∀ xs ∈ worstS m, xs.length ≤ 9 := fun xs hx => by
  have h1 := (mem_allS hm.pos hm.le).1 (List.mem_filter.1 hx).1
  have := h1.2
  have := hm.le
  omega
/-- among the first i ranks -/
def maxTo (d : Nat → Nat) (i : Nat) : Nat := gmaxN ((List.range i).map d)
theorem maxTo_zero (d : Nat → Nat) : maxTo d 0 = 0 := rfl
theorem maxTo_succ (d : Nat → Nat) (i : Nat) : maxTo d (i + 1) = max (maxTo d i) (d i) := by
  unfold maxTo
  rw [List.range_succ, List.map_append]
  exact gmaxN_snoc _ _
theorem maxTo_le {d : Nat → Nat} {i M : Nat} (h : ∀ r, r < i → d r ≤ M) : maxTo d i ≤ M := by
  induction i with
  | zero => exact Nat.zero_le _
  | succ i ih =>
    rw [maxTo_succ]
    exact Nat.max_le.2 ⟨ih fun r hr => h r (by omega), h i (by omega)⟩
def pickTo (d : Nat → Nat) (u : Nat → List Int) (E i : Nat) : List (List Int) := ((List.range i).filter fun r => decide (d r = E)).map u
theorem pickTo_yes {d : Nat → Nat} {u : Nat → List Int} {E i : Nat} (h : d i = E) : pickTo d u E (i + 1) = pickTo d u E i ++ [u i] := by
  unfold pickTo
  rw [List.range_succ, List.filter_append]
  simp [h]
theorem pickTo_no {d : Nat → Nat} {u : Nat → List Int} {E i : Nat} (h : d i ≠ E) : pickTo d u E (i + 1) = pickTo d u E i := by
  unfold pickTo
  rw [List.range_succ, List.filter_append]
  simp [h]
theorem pickTo_length (d : Nat → Nat) (u : Nat → List Int) (E i : Nat) : (pickTo d u E i).length ≤ i := by
  unfold pickTo
  rw [List.length_map]
  have := List.length_filter_le (fun r => decide (d r = E)) (List.range i)
  simpa using this
theorem pmax_all (m : Nat) : maxTo (dS m) (fact m) = peccN m := by
  unfold maxTo peccN gecc
  show _ = gmaxN ((allS m).map (gfar (pG m) (ramp 1 m)))
  rw [allS_un, List.map_map]
  congr 1
  exact List.map_congr_left fun r _ => (pfar m _ _).symm
theorem ppick_all (m : Nat) : pickTo (dS m) (unrank m) (peccN m) (fact m) = worstS m := by
  unfold pickTo worstS
  rw [allS_un, List.filter_map]
  rfl
def mWorstStacks (n : Int) : List (List Int) := if inB n 1 7 = true then worstS n.toNat else []
theorem inB_seven {n : Int} (h : inB n 1 7 = true) : ∃ m : Nat, n = (m : Int) ∧ Cnt m ∧ m ≤ 7 := by
  have := inB_iff.1 h
  exact ⟨n.toNat, by omega, ⟨by omega, by omega⟩, by omega⟩
theorem len_mWorstStacks (n : Int) : (mWorstStacks n).length ≤ 1048576 := by
  unfold mWorstStacks
  split
  · rename_i h
    obtain ⟨m, rfl, hm, h7⟩ := inB_seven h
    have := worstS_len h7
    rw [Int.toNat_natCast]; omega
  · simp
theorem rows_mWorstStacks (n : Int) : ∀ xs ∈ mWorstStacks n, xs.length ≤ 1048576 := by
  unfold mWorstStacks
  split
  · rename_i h
    obtain ⟨m, rfl, hm, h7⟩ := inB_seven h
    intro xs hx
    rw [Int.toNat_natCast] at hx
    have := worstS_rows hm xs hx
    omega
  · intro xs hx; cases hx
theorem tot_mWorstStacks (n : Int) : pre (mWorstStacks n) (mWorstStacks n).length ≤ 1048576 := by
  unfold mWorstStacks
  split
  · rename_i h
    obtain ⟨m, rfl, hm, h7⟩ := inB_seven h
    rw [Int.toNat_natCast]
    have := pre_le (worstS_len h7) (worstS_rows hm)
    omega
  · simp [pre]
end Go.Pan
