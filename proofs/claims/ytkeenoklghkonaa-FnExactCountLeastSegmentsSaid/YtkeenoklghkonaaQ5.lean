import Derived.Test.YtkeenoklghkonaaQ4
import Derived.Test.YtkeenoklghkonaaV14
namespace Go.Pan
/-- the board of the stacks of m, for segments -/
def sgBd (m : Nat) : Bd := gBd (sG m) (fact m) rankL (unrank m) (ramp 1 m) 1 (sgN m + 1)
theorem sgBd_ok {m : Nat} (h1 : 1 ≤ m) (h6 : m ≤ 6) : BOk (sgBd m) :=
  gBd_ok (sG_ok h1 h6) (fun k => by rw [mem_sks]; omega) (fun _ h => rank_lt h) (fun _ h => unrank_st h1 (by omega) h) (fun _ h => unrank_rank h1 (by omega) h) (fun _ h => rank_unrank h)
    (St.ramp m h1 (by omega)) (rankL_ramp m 1)
theorem sgBd_N (m : Nat) : (sgBd m).N = fact m := rfl
theorem sgBd_lo (m : Nat) : (sgBd m).lo = 1 := rfl
theorem sgBd_hi (m : Nat) : (sgBd m).hi = sgN m + 1 := rfl
theorem sgBd_d {m : Nat} (h1 : 1 ≤ m) (h6 : m ≤ 6) {q : List Int} (h : St m q) : (sgBd m).d (rankL q) = gfar (sG m) q (ramp 1 m) := by
  show gfar (sG m) (ramp 1 m) (unrank m (rankL q)) = _
  rw [unrank_rank h1 (by omega) h]
  exact gfar_symm (sG_ok h1 h6) (show (sG m).St (ramp 1 m) from St.ramp m h1 (by omega)) h
theorem sgBd_nb {m : Nat} (h1 : 1 ≤ m) (h6 : m ≤ 6) {r : Nat} (h : r < fact m) {k : Nat} (hk : k ∈ (sG m).ks) : unrank m ((sgBd m).nb r k) = segT (unrank m r) (sgAt m k) := by
  show unrank m (rankL (segT (unrank m r) (sgAt m k))) = _
  exact unrank_rank h1 (by omega) ((unrank_st h1 (by omega) h).seg (sgAt_B h1 (by omega) hk))

open Go.Proofs.Ytkeenoklghkonaa (keyAt)
/-- places in the order of their codes -/
structure Ord (cs : List Int) (ord : List Nat) : Prop where
  len : ord.length = cs.length
  lt : ∀ j ∈ ord, j < cs.length
  mono : ∀ i j, i < j → j < ord.length → keyAt ord cs i < keyAt ord cs j
theorem keyAt_get {cs : List Int} {ord : List Nat} {j : Nat} (hj : j < ord.length) (h : ord[j] < cs.length) : keyAt ord cs j = cs[ord[j]] := by
  unfold keyAt
  rw [List.getD_eq_getElem?_getD, List.getD_eq_getElem?_getD, List.getElem?_eq_getElem hj, Option.getD_some, List.getElem?_eq_getElem h]
  rfl
theorem Ord.nodup {cs : List Int} {ord : List Nat} (h : Ord cs ord) : ord.Nodup := by
  refine List.pairwise_iff_getElem.2 fun i j hi hj hij e => ?_
  have h1 := h.mono i j hij hj
  rw [keyAt_get hi (h.lt _ (List.getElem_mem hi)), keyAt_get hj (h.lt _ (List.getElem_mem hj))] at h1
  simp only [e] at h1
  omega
theorem Ord.one (c : Int) : Ord [c] [0] := ⟨rfl, by simp, fun i j h1 h2 => by simp at h2; omega⟩
/-- a code is found if it is there -/
theorem Ord.found {cs : List Int} {ord : List Nat} (h : Ord cs ord) {code : Int} {lo : Nat} (_hlo : lo ≤ ord.length) (hA : ∀ j, j < lo → keyAt ord cs j < code) (hB : ∀ j, lo ≤ j → j < ord.length → code ≤ keyAt ord cs j)
    (hm : code ∈ cs) : lo < ord.length ∧ keyAt ord cs lo = code := by
  obtain ⟨i, hi, e⟩ := List.getElem_of_mem hm
  -- each place is in the order
  have hin : i ∈ ord := by
    apply Classical.byContradiction
    intro hni
    have hnd : ((i :: ord).map fun (x : Nat) => (x : Int)).Nodup := List.pairwise_map.2 ((List.nodup_cons.2 ⟨hni, h.nodup⟩).imp (fun hne e => hne (by omega)))
    have hsub := length_le_of_nodup_subset _ ((List.range cs.length).map fun (x : Nat) => (x : Int)) hnd (fun x hx => by
      obtain ⟨y, hy, rfl⟩ := List.mem_map.1 hx
      refine List.mem_map.2 ⟨y, List.mem_range.2 ?_, rfl⟩
      rcases List.mem_cons.1 hy with e | hy
      · omega
      · exact h.lt y hy)
    simp only [List.length_map, List.length_cons, List.length_range] at hsub
    have := h.len
    omega
  obtain ⟨j, hj, ej⟩ := List.getElem_of_mem hin
  have hk : keyAt ord cs j = code := by rw [keyAt_get hj (by rw [ej]; exact hi)]; simp only [ej]; exact e
  have h1 : lo ≤ j := by
    apply Nat.le_of_not_lt
    intro hlt
    have := hA j hlt
    omega
  have h2 : lo < ord.length := by omega
  have h3 := hB lo (Nat.le_refl _) h2
  refine ⟨h2, ?_⟩
  rcases Nat.lt_or_eq_of_le h1 with h4 | h4
  · have := h.mono lo j h4 hj; omega
  · rw [h4]; exact hk
/-- a new code put into its place -/
theorem Ord.insert {cs : List Int} {ord : List Nat} (h : Ord cs ord) {code : Int} {lo : Nat} (hlo : lo ≤ ord.length) (hA : ∀ j, j < lo → keyAt ord cs j < code) (hB : ∀ j, lo ≤ j → j < ord.length → code ≤ keyAt ord cs j)
    (hn : ¬ (lo < ord.length ∧ keyAt ord cs lo = code)) : Ord (cs ++ [code]) (ord.take lo ++ cs.length :: ord.drop lo) := by
  have hB' : ∀ j, lo ≤ j → j < ord.length → code < keyAt ord cs j := fun j h1 h2 => by
    have h3 := hB lo (Nat.le_refl _) (by omega)
    have h4 : keyAt ord cs lo ≠ code := fun e => hn ⟨by omega, e⟩
    rcases Nat.lt_or_eq_of_le h1 with h5 | h5
    · have := h.mono lo j h5 h2; omega
    · rw [← h5]; omega
  have hold : ∀ j, j < ord.length → ∀ i, (ord.take lo ++ cs.length :: ord.drop lo)[i]? = ord[j]? → keyAt (ord.take lo ++ cs.length :: ord.drop lo) (cs ++ [code]) i = keyAt ord cs j := fun j hj i e => by
    have hl := h.lt _ (List.getElem_mem hj)
    unfold keyAt
    rw [List.getD_eq_getElem?_getD (l := ord.take lo ++ _), List.getD_eq_getElem?_getD (l := ord), e, List.getElem?_eq_getElem hj, Option.getD_some, List.getD_eq_getElem?_getD, List.getD_eq_getElem?_getD, List.getElem?_append_left hl]
  have htl : (ord.take lo).length = lo := by rw [List.length_take]; omega
  have hlow : ∀ i, i < lo → keyAt (ord.take lo ++ cs.length :: ord.drop lo) (cs ++ [code]) i = keyAt ord cs i := fun i hi =>
    hold i (by omega) i (by rw [List.getElem?_append_left (by omega), List.getElem?_take_of_lt hi])
  have hmid : keyAt (ord.take lo ++ cs.length :: ord.drop lo) (cs ++ [code]) lo = code := by
    unfold keyAt
    rw [List.getD_eq_getElem?_getD (l := ord.take lo ++ _), List.getElem?_append_right (by omega), htl, Nat.sub_self]
    simp
  have hhigh : ∀ i, lo < i → i < ord.length + 1 → keyAt (ord.take lo ++ cs.length :: ord.drop lo) (cs ++ [code]) i = keyAt ord cs (i - 1) := fun i h1 h2 =>
    hold (i - 1) (by omega) i (by
      obtain ⟨k, rfl⟩ : ∃ k, i = lo + 1 + k := ⟨i - (lo + 1), by omega⟩
      rw [List.getElem?_append_right (by omega), htl, show lo + 1 + k - lo = k + 1 by omega, List.getElem?_cons_succ, List.getElem?_drop]
      congr 1
      omega)
  refine ⟨by simp [h.len]; have := h.len; omega, fun j hj => ?_, fun i j hij hj => ?_⟩
  · rw [List.length_append, List.length_singleton]
    rcases List.mem_append.1 hj with h1 | h1
    · have := h.lt j (List.mem_of_mem_take h1); omega
    · rcases List.mem_cons.1 h1 with h2 | h2
      · omega
      · have := h.lt j (List.mem_of_mem_drop h2); omega
  · have hjl : j < ord.length + 1 := by
      have : (ord.take lo ++ cs.length :: ord.drop lo).length = ord.length + 1 := by simp; omega
      omega
    rcases Nat.lt_trichotomy i lo with hi | hi | hi
    · rw [hlow i hi]
      rcases Nat.lt_trichotomy j lo with hj' | hj' | hj'
      · rw [hlow j hj']; exact h.mono i j hij (by omega)
      · rw [hj', hmid]; exact hA i hi
      · rw [hhigh j hj' hjl]
        have h1 := hA i hi
        have h2 := hB' (j - 1) (by omega) (by omega)
        omega
    · rw [hi, hmid, hhigh j (by omega) hjl]
      exact hB' (j - 1) (by omega) (by omega)
    · rw [hhigh i hi (by omega), hhigh j (by omega) hjl]
      exact h.mono (i - 1) (j - 1) (by omega) (by omega)
end Go.Pan
