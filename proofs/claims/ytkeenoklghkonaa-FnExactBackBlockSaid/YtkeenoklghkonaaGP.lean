import Derived.Test.YtkeenoklghkonaaGA
namespace Go.Pan
/-- the search among plain stacks of m -/
def pG (m : Nat) : Gm where
  ks := ks m
  mv := turnL
  bk := fun k => k
  St := St m
  len := m
  dm := 2 * m
  all := allS m
theorem pways (m d : Nat) (s t : List Int) : gways (pG m) d s t = ways m d s t := by
  induction d generalizing t with
  | zero => rfl
  | succ d ih =>
    rw [gways_last, ways_last]
    exact sum_congr fun k _ => ih _
theorem pfar (m : Nat) (s t : List Int) : gfar (pG m) s t = far m s t := by
  unfold gfar far
  simp only [pways]
  rfl
theorem pG_ok {m : Nat} (hm : Cnt m) (h7 : m ≤ 7) : GOk (pG m) where
  len9 := hm.le
  length := fun q h => h.2
  small := fun q h x hx => by have := h.1.2.2.1 x hx; have h2 : q.length = m := h.2; omega
  mem := fun q => mem_allS hm.pos hm.le
  nodup := allS_nodup m
  total := by
    show (allS m).length ≤ 362880
    rw [allS_length]
    have h1 := fact_mono hm.le
    have h2 : fact 9 = 362880 := rfl
    omega
  mvSt := fun q k h _ => h.turn k
  bkIn := fun k h => h
  bkBk := fun k _ => rfl
  mvBk := fun q k _ _ => turnL_turnL q k
  rising := by
    show ((List.range (m - 1)).map (· + 2)).Pairwise (· < ·)
    rw [List.pairwise_map]
    exact List.pairwise_lt_range.imp (by intro a b hab; omega)
  reach := fun s t hs ht => by
    obtain ⟨d, h1, h2⟩ := reach hs.1 ht.1 hs.2 ht.2
    exact ⟨d, h1, by rw [pways]; exact h2⟩
  few := by
    show (ks m).length ^ (2 * m + 1) ≤ _
    rw [ks_length]
    match m, h7 with
    | 0, _ => decide
    | 1, _ => decide
    | 2, _ => decide
    | 3, _ => decide
    | 4, _ => decide
    | 5, _ => decide
    | 6, _ => decide
    | 7, _ => decide
  kpos := fun k hk => by have := mem_ks.1 hk; omega
  dm30 := by show 2 * m ≤ 1000; omega
theorem pks_length (m : Nat) : (pG m).ks.length = m - 1 := ks_length m
theorem pks_ramp {m : Nat} (_h1 : 1 ≤ m) : (pG m).ks.map (fun (j : Nat) => (j : Int)) = ramp 2 (m - 1) := by
  simp only [pG, ks, ramp, List.map_map]
  exact List.map_congr_left fun i _ => by simp; omega
end Go.Pan
