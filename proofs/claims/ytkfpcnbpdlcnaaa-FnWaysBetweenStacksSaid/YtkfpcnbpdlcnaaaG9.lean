import Derived.Test.YtkfpcnbpdlcnaaaG8
namespace Go.Pan
/-- the turns up to k that P tells -/
def pickL (P : Nat → Bool) (k : Nat) : List Int := ((ks k).filter P).map fun (j : Nat) => (j : Int)
theorem ks_one : ks 1 = [] := rfl
theorem ks_succ {k : Nat} (h : 1 ≤ k) : ks (k + 1) = ks k ++ [k + 1] := by
  obtain ⟨m, rfl⟩ : ∃ m, k = m + 1 := ⟨k - 1, by omega⟩
  simp [ks, List.range_succ]
theorem pickL_one (P : Nat → Bool) : pickL P 1 = [] := rfl
theorem pickL_yes {P : Nat → Bool} {k : Nat} (h1 : 1 ≤ k) (h : P (k + 1) = true) : pickL P (k + 1) = pickL P k ++ [(k : Int) + 1] := by
  simp [pickL, ks_succ h1, List.filter_append, h]
theorem pickL_no {P : Nat → Bool} {k : Nat} (h1 : 1 ≤ k) (h : P (k + 1) = false) : pickL P (k + 1) = pickL P k := by
  simp [pickL, ks_succ h1, List.filter_append, h]
theorem pickL_length (P : Nat → Bool) (k : Nat) : (pickL P k).length ≤ k := by
  have h := List.length_filter_le P (ks k)
  rw [ks_length] at h
  simp only [pickL, List.length_map]
  omega
theorem pickL_congr {P Q : Nat → Bool} {k : Nat} (h : ∀ j ∈ ks k, P j = Q j) : pickL P k = pickL Q k := by
  unfold pickL
  rw [List.filter_congr h]
/-- a turn that leads closer to t -/
def clo (n : Nat) (t q : List Int) (k : Nat) : Bool := decide (far n (turnL q k) t + 1 = far n q t)
def firK (n : Nat) (t q : List Int) : Nat := ((ks n).find? (clo n t q)).getD 0
def goL (n : Nat) (t : List Int) : Nat → List Int → List Int
  | 0, _ => []
  | e + 1, q => (firK n t q : Int) :: goL n t e (turnL q (firK n t q))
theorem goL_length (n : Nat) (t : List Int) (e : Nat) (q : List Int) : (goL n t e q).length = e := by
  induction e generalizing q with
  | zero => rfl
  | succ e ih => simp [goL, ih]
section
variable {n : Nat} {s t q : List Int}
theorem firK_some (hq : St n q) (ht : St n t) {e : Nat} (h : far n q t = e + 1) : (ks n).find? (clo n t q) = some (firK n t q) := by
  obtain ⟨k, hk, hf⟩ := far_prev ht hq (d := e) (by rw [far_symm ht hq]; exact h)
  have hc : clo n t q k = true := by
    unfold clo
    rw [far_symm (hq.turn k) ht, hf, h]
    simp
  cases hfi : (ks n).find? (clo n t q) with
  | none => exact absurd hc (by simpa using List.find?_eq_none.1 hfi k hk)
  | some j => simp [firK, hfi]
theorem firK_spec (hq : St n q) (ht : St n t) {e : Nat} (h : far n q t = e + 1) : (2 ≤ firK n t q ∧ firK n t q ≤ n) ∧ far n (turnL q (firK n t q)) t = e := by
  have h1 := firK_some hq ht h
  have h2 := List.find?_some h1
  have h3 := mem_ks.1 (List.mem_of_find?_eq_some h1)
  refine ⟨h3, ?_⟩
  have h4 : far n (turnL q (firK n t q)) t + 1 = far n q t := of_decide_eq_true h2
  omega
theorem pickL_head (hq : St n q) (ht : St n t) {e : Nat} (h : far n q t = e + 1) : ∃ r, pickL (clo n t q) n = (firK n t q : Int) :: r := by
  have h1 := firK_some hq ht h
  rw [← List.head?_filter] at h1
  cases hf : (ks n).filter (clo n t q) with
  | nil => rw [hf] at h1; cases h1
  | cons a l =>
    rw [hf] at h1
    simp at h1
    subst h1
    exact ⟨l.map fun (j : Nat) => (j : Int), by simp [pickL, hf]⟩
/-- no turn below the first leads closer -/
theorem firK_least (hq : St n q) (ht : St n t) {e : Nat} (h : far n q t = e + 1) {j : Nat} (hj : j ∈ ks n) (hl : j < firK n t q) : clo n t q j = false := by
  have h1 := firK_some hq ht h
  obtain ⟨_, as, bs, he, hb⟩ := List.find?_eq_some_iff_append.1 h1
  have hs : (ks n).Pairwise (· < ·) := by
    unfold ks
    rw [List.pairwise_map]
    exact List.pairwise_lt_range.imp (by intro a b hab; omega)
  rw [he] at hj hs
  rcases List.mem_append.1 hj with h2 | h2
  · simpa using hb j h2
  · rw [List.pairwise_append] at hs
    rcases List.mem_cons.1 h2 with rfl | h2
    · omega
    · have := (List.pairwise_cons.1 hs.2.1).1 j h2
      omega
/-- the layer behind, on the way to t: the turns that lead closer -/
theorem layer_clo (hs : St n s) (ht : St n t) (hq : St n q) {i d : Nat} (hi : far n s q = i) (hj : far n q t = d + 1) (hd : far n s t = i + (d + 1)) {k : Nat} (hk : k ∈ ks n) : decide (0 < wayC n s t (i + 1) d (turnL q k)) = clo n t q k := by
  rw [Bool.eq_iff_iff, decide_eq_true_iff, wayC_pos hs (hq.turn k)]
  unfold clo
  rw [decide_eq_true_iff, hj]
  have h1 := far_one hk hs hq
  have h2 := far_tri hs (hq.turn k) ht
  omega
theorem turn_seen (q t : List Int) (k : Nat) : turnL (seenL q t) k = seenL (turnL q k) t := by
  simp [turnL, seenL, List.map_take, List.map_drop]
theorem clo_seen (hq : St n q) (ht : St n t) (k : Nat) : clo n (ramp 1 n) (seenL q t) k = clo n t q k := by
  unfold clo
  rw [turn_seen, far_seen (hq.turn k).1 ht.1 (by rw [(hq.turn k).2, ht.2]) n ht.2, far_seen hq.1 ht.1 (by rw [hq.2, ht.2]) n ht.2]
theorem goL_seen (ht : St n t) (e : Nat) (q : List Int) (hq : St n q) : goL n (ramp 1 n) e (seenL q t) = goL n t e q := by
  induction e generalizing q with
  | zero => rfl
  | succ e ih =>
    have h : firK n (ramp 1 n) (seenL q t) = firK n t q := by
      unfold firK
      congr 2
      funext k
      exact clo_seen hq ht k
    simp only [goL, h]
    rw [turn_seen, ih _ (hq.turn _)]
end
/-- the plan is written up to turn i, that leads to q -/
structure PathAt (n : Nat) (s t : List Int) (d i : Nat) (q out : List Int) : Prop where
  st : St n q
  fr : far n s q = i
  ah : far n q t + i = d
  whole : out ++ goL n t (d - i) q = goL n t d s
  len : out.length = i
theorem PathAt.start {n d : Nat} {s t : List Int} (hs : St n s) (hd : far n s t = d) : PathAt n s t d 0 s [] := ⟨hs, (far_zero hs hs).2 rfl, by omega, rfl, rfl⟩
theorem PathAt.more {n d i : Nat} {s t q out : List Int} (h : PathAt n s t d i q out) (hi : i < d) : far n q t = (d - i - 1) + 1 := by have := h.ah; omega
theorem PathAt.next {n d i : Nat} {s t q out : List Int} (hs : St n s) (ht : St n t) (hd : far n s t = d) (h : PathAt n s t d i q out) (hi : i < d) : PathAt n s t d (i + 1) (turnL q (firK n t q)) (out ++ [(firK n t q : Int)]) := by
  obtain ⟨h1, h2⟩ := firK_spec h.st ht (h.more hi)
  have h3 := far_one (mem_ks.2 h1) hs h.st
  have h4 := far_tri hs (h.st.turn (firK n t q)) ht
  have h5 := h.fr
  refine ⟨h.st.turn _, by omega, by omega, ?_, by simp [h.len]⟩
  have h6 := h.whole
  rw [show d - i = (d - (i + 1)) + 1 by omega, goL] at h6
  rw [← h6]
  simp
theorem PathAt.last {n d : Nat} {s t q out : List Int} (h : PathAt n s t d d q out) : out = goL n t d s := by
  have h1 := h.whole
  rw [Nat.sub_self] at h1
  simpa [goL] using h1
/-- the turns into the next layer: the first is that of the plan -/
theorem PathAt.into {n d i : Nat} {s t q out : List Int} (hs : St n s) (ht : St n t) (hd : far n s t = d) (h : PathAt n s t d i q out) (hi : i < d) : ∃ r, pickL (fun k => decide (0 < wayC n s t (i + 1) (d - (i + 1)) (turnL q k))) n = (firK n t q : Int) :: r := by
  rw [pickL_congr (Q := clo n t q) (fun k hk => layer_clo hs ht h.st h.fr (d := d - (i + 1)) (by have := h.ah; omega) (by omega) hk)]
  exact pickL_head h.st ht (h.more hi)

def mLeastPlan (xs : List Int) : List Int := if farB xs = true then goL xs.length (ramp 1 xs.length) (farS xs) xs else []
def mPlanBetween (xs ys : List Int) : List Int := if twoB xs ys = true then goL xs.length ys (far2 xs ys) xs else []
def mCloserTurns (xs : List Int) : List Int := if farB xs = true then pickL (clo xs.length (ramp 1 xs.length) xs) xs.length else []
theorem len_mLeastPlan (xs : List Int) : (mLeastPlan xs).length ≤ 1048576 := by
  unfold mLeastPlan
  split
  · rename_i h
    have h1 := (farB_iff.1 h).1
    have := farS_le h1
    have := h1.le9
    rw [goL_length]
    omega
  · simp
theorem len_mPlanBetween (xs ys : List Int) : (mPlanBetween xs ys).length ≤ 1048576 := by
  unfold mPlanBetween
  split
  · rename_i h
    obtain ⟨h1, h2, h3, h4⟩ := twoB_iff.1 h
    have h5 : far2 xs ys ≤ 2 * xs.length := (far_spec h1.st ⟨h3, h4.symm⟩).2.1
    rw [goL_length]
    omega
  · simp
theorem len_mCloserTurns (xs : List Int) : (mCloserTurns xs).length ≤ 1048576 := by
  unfold mCloserTurns
  split
  · rename_i h
    have h1 := (farB_iff.1 h).2
    have := pickL_length (clo xs.length (ramp 1 xs.length) xs) xs.length
    omega
  · simp

end Go.Pan

