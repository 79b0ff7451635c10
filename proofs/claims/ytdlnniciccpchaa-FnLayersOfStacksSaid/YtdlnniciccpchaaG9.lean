import Derived.Test.YtdlnniciccpchaaG1
import Derived.Test.YtdlnniciccpchaaM6
namespace Go.Pan
/-- the rank as it is reckoned, the first k looked at -/
def rankTo (xs : List Int) : Nat → Nat
  | 0 => 0
  | k + 1 => rankTo xs k * (xs.length - k) + (xs.drop (k + 1)).countP (fun y => decide (y < xs.getD k 0))
theorem rankTo_inv (xs : List Int) (k : Nat) (h : k ≤ xs.length) : rankTo xs k * fact (xs.length - k) + rankL (xs.drop k) = rankL xs := by
  induction k with
  | zero => simp [rankTo]
  | succ k ih =>
    have ih := ih (by omega)
    obtain ⟨m, hm⟩ : ∃ m, xs.length - k = m + 1 := ⟨xs.length - k - 1, by omega⟩
    have hm' : xs.length - (k + 1) = m := by omega
    rw [hm, fact] at ih
    rw [hm', rankTo, hm]
    rw [List.drop_eq_getElem_cons (by omega), rankL] at ih
    have hl : (xs.drop (k + 1)).length = m := by simp; omega
    rw [hl] at ih
    rw [getD_eq (by omega), Nat.add_mul, Nat.mul_assoc]
    omega
theorem rankTo_all (xs : List Int) : rankTo xs xs.length = rankL xs := by
  have := rankTo_inv xs xs.length (Nat.le_refl _)
  rw [List.drop_length, Nat.sub_self] at this
  simpa [fact, rankL] using this
theorem rankTo_le (xs : List Int) (h9 : xs.length ≤ 9) (k : Nat) (h : k ≤ xs.length) : rankTo xs k ≤ 362880 := by
  have h1 := rankTo_inv xs k h
  have h2 := rankL_lt xs
  have h3 := fact_le h9
  have h4 := Nat.le_mul_of_pos_right (rankTo xs k) (fact_pos (xs.length - k))
  omega
/-- how many of the first j behind the place k are less -/
def lessTo (xs : List Int) (k j : Nat) : Nat := ((xs.drop (k + 1)).take j).countP (fun y => decide (y < xs.getD k 0))
theorem lessTo_zero (xs : List Int) (k : Nat) : lessTo xs k 0 = 0 := rfl
theorem lessTo_succ (xs : List Int) (k j : Nat) (hj : j < (xs.drop (k + 1)).length) : lessTo xs k (j + 1) = lessTo xs k j + if (xs.drop (k + 1))[j] < xs.getD k 0 then 1 else 0 := by
  unfold lessTo
  rw [List.take_succ_eq_append_getElem hj, List.countP_append]
  congr 1
  by_cases h : (xs.drop (k + 1))[j] < xs.getD k 0 <;> simp only [List.countP_singleton, h, decide_true, decide_false, if_true, if_false, Bool.false_eq_true]
theorem lessTo_le (xs : List Int) (k j : Nat) : lessTo xs k j ≤ j := by
  unfold lessTo
  exact Nat.le_trans List.countP_le_length (by simp; omega)
theorem rankTo_succ (xs : List Int) (k : Nat) : rankTo xs (k + 1) = rankTo xs k * (xs.length - k) + lessTo xs k (xs.drop (k + 1)).length := by
  unfold lessTo
  rw [List.take_length]
  rfl

end Go.Pan

namespace Go.Pan
def negL (n k : Nat) : List Int := List.replicate k (-1) ++ List.replicate (fact n - k) 0
theorem negL_zero (n : Nat) : negL n 0 = List.replicate (fact n) 0 := by simp [negL]
theorem negL_all (n : Nat) : negL n (fact n) = List.replicate (fact n) (-1) := by simp [negL]
theorem negL_step (n k : Nat) (h : k < fact n) : (negL n k).set k (-1) = negL n (k + 1) := by
  apply List.ext_getElem (by simp [negL]; omega)
  intro i h1 h2
  have hl : i < fact n := by simp [negL] at h1; omega
  simp only [negL, List.getElem_set, List.getElem_append, List.length_replicate, List.getElem_replicate]
  by_cases e : k = i
  · subst e; simp
  · rw [if_neg e]
    by_cases h3 : i < k
    · rw [dif_pos h3, dif_pos (by omega)]
    · rw [dif_neg h3, dif_neg (by omega)]
theorem Fl_start {n : Nat} (hn : Cnt n) : (List.replicate (fact n) (-1 : Int)).set 0 0 = Fl n [0] := by
  apply List.ext_getElem (by simp [Fl])
  intro i h1 h2
  simp only [List.getElem_set, List.getElem_replicate, Fl, List.getElem_map, List.getElem_range, List.mem_singleton]
  by_cases e : 0 = i
  · subst e; simp [dS_zero hn]
  · have e' : ¬ i = 0 := by omega
    rw [if_neg e, if_neg e']
theorem Xl_start {n : Nat} (hn : Cnt n) : (List.replicate (fact n) ([] : List Int)).set 0 (ramp 1 n) = Xl n [0] := by
  apply List.ext_getElem (by simp [Xl])
  intro i h1 h2
  simp only [List.getElem_set, List.getElem_replicate, Xl, List.getElem_map, List.getElem_range, List.mem_singleton]
  by_cases e : 0 = i
  · subst e; simp [un_zero hn]
  · have e' : ¬ i = 0 := by omega
    rw [if_neg e, if_neg e']

end Go.Pan

namespace Go.Pan
/-- a stack that is searched for -/
def farB (xs : List Int) : Bool := goodB xs && decide (xs.length ≤ 7)
theorem farB_iff {xs : List Int} : farB xs = true ↔ Good xs ∧ xs.length ≤ 7 := by simp [farB, goodB_iff]
/-- the distance of a stack -/
def farS (xs : List Int) : Nat := far xs.length xs (ramp 1 xs.length)
theorem Good.st {xs : List Int} (h : Good xs) : St xs.length xs := ⟨h, rfl⟩
theorem Good.home {xs : List Int} (h : Good xs) : St xs.length (ramp 1 xs.length) := St.ramp _ h.1 h.2.1
theorem Good.cnt {xs : List Int} (h : Good xs) : Cnt xs.length := ⟨h.1, h.2.1⟩
theorem St.rank_lt' {n : Nat} {xs : List Int} (h : St n xs) : rankL xs < fact n := rank_lt h
theorem dS_rank {n : Nat} (hn : Cnt n) {xs : List Int} (h : St n xs) : dS n (rankL xs) = far n xs (ramp 1 n) := by
  unfold dS
  rw [unrank_rank hn.pos hn.le h, far_symm hn.home h]
theorem farS_le {xs : List Int} (h : Good xs) : farS xs ≤ 2 * xs.length := (far_spec h.st h.home).2.1
def mStackDistance (xs : List Int) : Int := if farB xs = true then (farS xs : Int) else 0
/-- how many least plans sort a stack -/
def waysS (xs : List Int) : Nat := ways xs.length (farS xs) xs (ramp 1 xs.length)
def mCountLeastPlans (xs : List Int) : Int := if farB xs = true then (waysS xs : Int) else 0
theorem waysS_rank {n : Nat} (hn : Cnt n) {xs : List Int} (h : St n xs) : ways n (dS n (rankL xs)) (ramp 1 n) (unrank n (rankL xs)) = ways n (far n xs (ramp 1 n)) xs (ramp 1 n) := by
  rw [dS_rank hn h, unrank_rank hn.pos hn.le h, ways_symm]
theorem waysS_le {xs : List Int} (h : Good xs) (h7 : xs.length ≤ 7) : waysS xs ≤ 470184984576 := Nat.le_trans (ways_le _ _ _ _) (pow_bound h7 (by have := farS_le h; omega))
/-- two stacks of as many pancakes that are searched for -/
def twoB (xs ys : List Int) : Bool := farB xs && farB ys && decide (xs.length = ys.length)
theorem twoB_iff {xs ys : List Int} : twoB xs ys = true ↔ Good xs ∧ xs.length ≤ 7 ∧ Good ys ∧ xs.length = ys.length := by
  simp only [twoB, Bool.and_eq_true, farB_iff, decide_eq_true_eq]
  constructor
  · rintro ⟨⟨⟨h1, h2⟩, h3, h4⟩, h5⟩; exact ⟨h1, h2, h3, h5⟩
  · rintro ⟨h1, h2, h3, h5⟩; exact ⟨⟨⟨h1, h2⟩, h3, by omega⟩, h5⟩
def far2 (xs ys : List Int) : Nat := far xs.length xs ys
def mDistanceBetween (xs ys : List Int) : Int := if twoB xs ys = true then (far2 xs ys : Int) else 0
theorem seen_farB {xs ys : List Int} (h : twoB xs ys = true) : farB (seenL xs ys) = true := by
  obtain ⟨h1, h2, h3, h4⟩ := twoB_iff.1 h
  exact farB_iff.2 ⟨seenL_good h1 h3 h4, by simpa [seenL] using h2⟩
theorem seen_farS {xs ys : List Int} (h : twoB xs ys = true) : farS (seenL xs ys) = far2 xs ys := by
  obtain ⟨h1, h2, h3, h4⟩ := twoB_iff.1 h
  unfold farS far2
  have hl : (seenL xs ys).length = xs.length := by simp [seenL]
  rw [hl]
  exact far_seen h1 h3 h4 xs.length h4.symm
def mGapExcess (xs : List Int) : Int := if farB xs = true then (farS xs : Int) - (gapsL xs).length else 0
def mGreedyExcess (xs : List Int) : Int := if farB xs = true then ((greedyL xs).length : Int) - (farS xs : Int) else 0
def leastB (xs p : List Int) : Bool := farB xs && planB xs.length p
def mIsLeastPlan (xs p : List Int) : Bool := leastB xs p && decide (far2 xs (playL xs p) = p.length)
theorem leastB_iff {xs p : List Int} : leastB xs p = true ↔ (Good xs ∧ xs.length ≤ 7) ∧ Plan xs.length p := by simp only [leastB, Bool.and_eq_true, farB_iff, planB_iff]
theorem least_two {xs p : List Int} (h : leastB xs p = true) : twoB xs (playL xs p) = true := by
  obtain ⟨⟨h1, h2⟩, _⟩ := leastB_iff.1 h
  exact twoB_iff.2 ⟨h1, h2, playL_good h1 p, (playL_length xs p).symm⟩
theorem invTo_at {ys : List Int} (hg : Good ys) (k : Nat) (hk : k ≤ ys.length) (j : Nat) (hj : j < k) : (invTo ys k)[(ys[j] - 1).toNat]? = some ((j : Int) + 1) := by
  induction k with
  | zero => omega
  | succ k ih =>
    have hb := hg.2.2.1 _ (List.getElem_mem (show j < ys.length by omega))
    have hbk := hg.2.2.1 _ (List.getElem_mem (show k < ys.length by omega))
    have hl : (invTo ys k).length = ys.length := invTo_length ys k
    rw [invTo, getD_eq (by omega)]
    by_cases e : j = k
    · subst e
      rw [List.getElem?_set_self (by omega)]
    · have hne : ys[k] ≠ ys[j] := fun e' => (List.pairwise_iff_getElem.1 hg.2.2.2 j k (by omega) (by omega) (by omega)) e'.symm
      rw [List.getElem?_set_ne (by omega)]
      exact ih (by omega) (by omega)
theorem inv_seen {xs ys : List Int} (hx : Good xs) (hy : Good ys) (h : xs.length = ys.length) : thenL (invTo ys ys.length) xs = seenL xs ys := by
  unfold thenL seenL
  refine List.map_congr_left fun x hxm => ?_
  have hm : x ∈ ys := (good_mem hx hy h).1 hxm
  rw [placeL_of_mem hm]
  have hi := List.idxOf_lt_length_of_mem hm
  have he := List.getElem_idxOf hi
  have := invTo_at hy ys.length (Nat.le_refl _) (ys.idxOf x) hi
  rw [he] at this
  rw [List.getD_eq_getElem?_getD, this]
  rfl

end Go.Pan

namespace Go.Pan
/-- what the plans that go on from the stacks that D0 tells lead to -/
def behM (n : Nat) (c : LC) (done : List Int → Bool) : LC := fun q => ((ks n).map fun k => if done (turnL q k) = true then c (turnL q k) else 0).sum
/-- .. and those that go on from x with the turns below K -/
def behN (n : Nat) (c : LC) (done : List Int → Bool) (x : List Int) (K : Nat) : LC := fun q => ((ks n).map fun k => if (done (turnL q k) = true ∧ turnL q k ≠ x) ∨ (turnL q k = x ∧ k < K) then c (turnL q k) else 0).sum
theorem behN_first {n : Nat} {c : LC} {done done' : List Int → Bool} {x : List Int} (h : ∀ y, St n y → y ≠ x → done' y = done y) (hx : done x = false) : EqC n (behM n c done) (behN n c done' x 2) := fun q hq => by
  refine sum_congr fun k hk => ?_
  have h2 := (mem_ks.1 hk).1
  by_cases e : turnL q k = x
  · have h3 : ¬ (k < 2) := by omega
    simp [e, hx, h3]
  · simp [e, h _ (hq.turn k) e]
theorem behN_last {n : Nat} {c : LC} {done : List Int → Bool} {x : List Int} (hx : done x = true) : EqC n (behN n c done x (n + 1)) (behM n c done) := fun q _ => by
  refine sum_congr fun k hk => ?_
  have h2 := (mem_ks.1 hk).2
  by_cases e : turnL q k = x
  · have h3 : k < n + 1 := by omega
    simp [e, hx, h3]
  · simp [e]
theorem behN_succ {n : Nat} {c : LC} {done : List Int → Bool} {x : List Int} {K : Nat} (hK : K ∈ ks n) : EqC n (behN n c done x (K + 1)) (fun q => if q = turnL x K then behN n c done x K (turnL x K) + c x else behN n c done x K q) := fun q _ => by
  have key : behN n c done x (K + 1) q = behN n c done x K q + (if turnL q K = x then c x else 0) := by
    unfold behN
    rw [sum_congr (g := fun k' => (if (done (turnL q k') = true ∧ turnL q k' ≠ x) ∨ (turnL q k' = x ∧ k' < K) then c (turnL q k') else 0) + if k' = K then (if turnL q K = x then c x else 0) else 0) (fun k' _ => ?_), sum_map_add, sum_one (ks_nodup n) hK]
    by_cases e : k' = K
    · subst e
      by_cases h : turnL q k' = x
      · simp [h]
      · simp [h]
    · have h3 : (k' < K + 1) = (k' < K) := by simp; omega
      simp [e, h3]
  rw [key]
  show _ = if q = turnL x K then behN n c done x K (turnL x K) + c x else behN n c done x K q
  by_cases e : q = turnL x K
  · subst e
    rw [if_pos rfl, if_pos (turnL_turnL x K)]
  · rw [if_neg e, if_neg (fun h => e (turnL_eq_iff.2 h))]
    omega
theorem behN_le {n : Nat} {c : LC} {done : List Int → Bool} {x : List Int} {K M : Nat} (hM : ∀ q, St n q → c q ≤ M) (q : List Int) (hq : St n q) : behN n c done x K q ≤ (n - 1) * M := by
  have h := sum_le (ks n) (fun k => if (done (turnL q k) = true ∧ turnL q k ≠ x) ∨ (turnL q k = x ∧ k < K) then c (turnL q k) else 0) M (fun k _ => by
    show (if (done (turnL q k) = true ∧ turnL q k ≠ x) ∨ (turnL q k = x ∧ k < K) then c (turnL q k) else 0) ≤ M
    split
    · exact hM _ (hq.turn k)
    · exact Nat.zero_le _)
  rw [ks_length] at h
  exact h
theorem behM_none {n : Nat} {c : LC} {done : List Int → Bool} (h : ∀ y, St n y → done y = true → c y = 0) : EqC n (behM n c done) (fun _ => 0) := fun q hq => by
  unfold behM
  rw [sum_congr (g := fun _ => 0) (fun k _ => ?_), sum_map_zero]
  split
  · exact h _ (hq.turn k) (by assumption)
  · rfl
theorem behM_all {n : Nat} {c : LC} {done : List Int → Bool} (h : ∀ y, St n y → done y = true) : EqC n (behM n c done) (behindC n c) := fun q hq => by
  refine sum_congr fun k _ => ?_
  rw [if_pos (h _ (hq.turn k))]

end Go.Pan

namespace Go.Pan
/-- the turns up to k that P tells -/
def pickL (P : Nat → Bool) (k : Nat) : List Int := ((ks k).filter P).map fun (j : Nat) => (j : Int)
theorem ks_one : ks 1 = [] := rfl
theorem ks_succ {k : Nat} (h : 1 ≤ k) : ks (k + 1) = ks k ++ [k + 1] := by
  obtain ⟨m, rfl⟩ : ∃ m, k = m + 1 := ⟨k - 1, by omega⟩
  simp [ks, List.range_succ]
theorem pickL_one (P : Nat → Bool) : pickL P 1 = [] := rfl
theorem pickL_yes {P : Nat → Bool} {k : Nat} (h1 : 1 ≤ k) (h : P (k + 1) = true) : pickL P (k + 1) = pickL P k ++ [(k : Int) + 1] := by
  simp [pickL, ks_succ h1, List.filter_append, h]
theorem pickL_no {P : Nat → Bool} {k : Nat} (h1 : 1 ≤ k) (h : P (k + 1) = false) : pickL P (k + 1) = pickL P k := by
  simp [pickL, ks_succ h1, List.filter_append, h]
theorem pickL_length (P : Nat → Bool) (k : Nat) : (pickL P k).length ≤ k := by
  have h := List.length_filter_le P (ks k)
  rw [ks_length] at h
  simp only [pickL, List.length_map]
  omega
theorem pickL_congr {P Q : Nat → Bool} {k : Nat} (h : ∀ j ∈ ks k, P j = Q j) : pickL P k = pickL Q k := by
  unfold pickL
  rw [List.filter_congr h]
/-- a turn that leads closer to t -/
def clo (n : Nat) (t q : List Int) (k : Nat) : Bool := decide (far n (turnL q k) t + 1 = far n q t)
def firK (n : Nat) (t q : List Int) : Nat := ((ks n).find? (clo n t q)).getD 0
def goL (n : Nat) (t : List Int) : Nat → List Int → List Int
  | 0, _ => []
  | e + 1, q => (firK n t q : Int) :: goL n t e (turnL q (firK n t q))
theorem goL_length (n : Nat) (t : List Int) (e : Nat) (q : List Int) : (goL n t e q).length = e := by
  induction e generalizing q with
  | zero => rfl
  | succ e ih => simp [goL, ih]
section
variable {n : Nat} {s t q : List Int}
theorem firK_some (hq : St n q) (ht : St n t) {e : Nat} (h : far n q t = e + 1) : (ks n).find? (clo n t q) = some (firK n t q) := by
  obtain ⟨k, hk, hf⟩ := far_prev ht hq (d := e) (by rw [far_symm ht hq]; exact h)
  have hc : clo n t q k = true := by
    unfold clo
    rw [far_symm (hq.turn k) ht, hf, h]
    simp
  cases hfi : (ks n).find? (clo n t q) with
  | none => exact absurd hc (by simpa using List.find?_eq_none.1 hfi k hk)
  | some j => simp [firK, hfi]
theorem firK_spec (hq : St n q) (ht : St n t) {e : Nat} (h : far n q t = e + 1) : (2 ≤ firK n t q ∧ firK n t q ≤ n) ∧ far n (turnL q (firK n t q)) t = e := by
  have h1 := firK_some hq ht h
  have h2 := List.find?_some h1
  have h3 := mem_ks.1 (List.mem_of_find?_eq_some h1)
  refine ⟨h3, ?_⟩
  have h4 : far n (turnL q (firK n t q)) t + 1 = far n q t := of_decide_eq_true h2
  omega
theorem pickL_head (hq : St n q) (ht : St n t) {e : Nat} (h : far n q t = e + 1) : ∃ r, pickL (clo n t q) n = (firK n t q : Int) :: r := by
  have h1 := firK_some hq ht h
  rw [← List.head?_filter] at h1
  cases hf : (ks n).filter (clo n t q) with
  | nil => rw [hf] at h1; cases h1
  | cons a l =>
    rw [hf] at h1
    simp at h1
    subst h1
    exact ⟨l.map fun (j : Nat) => (j : Int), by simp [pickL, hf]⟩
/-- no turn below the first leads closer -/
theorem firK_least (hq : St n q) (ht : St n t) {e : Nat} (h : far n q t = e + 1) {j : Nat} (hj : j ∈ ks n) (hl : j < firK n t q) : clo n t q j = false := by
  have h1 := firK_some hq ht h
  obtain ⟨_, as, bs, he, hb⟩ := List.find?_eq_some_iff_append.1 h1
  have hs : (ks n).Pairwise (· < ·) := by
    unfold ks
    rw [List.pairwise_map]
    exact List.pairwise_lt_range.imp (by intro a b hab; omega)
  rw [he] at hj hs
  rcases List.mem_append.1 hj with h2 | h2
  · simpa using hb j h2
  · rw [List.pairwise_append] at hs
    rcases List.mem_cons.1 h2 with rfl | h2
    · omega
    · have := (List.pairwise_cons.1 hs.2.1).1 j h2
      omega
/-- the layer behind, on the way to t: the turns that lead closer -/
theorem layer_clo (hs : St n s) (ht : St n t) (hq : St n q) {i d : Nat} (hi : far n s q = i) (hj : far n q t = d + 1) (hd : far n s t = i + (d + 1)) {k : Nat} (hk : k ∈ ks n) : decide (0 < wayC n s t (i + 1) d (turnL q k)) = clo n t q k := by
  rw [Bool.eq_iff_iff, decide_eq_true_iff, wayC_pos hs (hq.turn k)]
  unfold clo
  rw [decide_eq_true_iff, hj]
  have h1 := far_one hk hs hq
  have h2 := far_tri hs (hq.turn k) ht
  omega
theorem turn_seen (q t : List Int) (k : Nat) : turnL (seenL q t) k = seenL (turnL q k) t := by
  simp [turnL, seenL, List.map_take, List.map_drop]
theorem clo_seen (hq : St n q) (ht : St n t) (k : Nat) : clo n (ramp 1 n) (seenL q t) k = clo n t q k := by
  unfold clo
  rw [turn_seen, far_seen (hq.turn k).1 ht.1 (by rw [(hq.turn k).2, ht.2]) n ht.2, far_seen hq.1 ht.1 (by rw [hq.2, ht.2]) n ht.2]
theorem goL_seen (ht : St n t) (e : Nat) (q : List Int) (hq : St n q) : goL n (ramp 1 n) e (seenL q t) = goL n t e q := by
  induction e generalizing q with
  | zero => rfl
  | succ e ih =>
    have h : firK n (ramp 1 n) (seenL q t) = firK n t q := by
      unfold firK
      congr 2
      funext k
      exact clo_seen hq ht k
    simp only [goL, h]
    rw [turn_seen, ih _ (hq.turn _)]
end
/-- the plan is written up to turn i, that leads to q -/
structure PathAt (n : Nat) (s t : List Int) (d i : Nat) (q out : List Int) : Prop where
  st : St n q
  fr : far n s q = i
  ah : far n q t + i = d
  whole : out ++ goL n t (d - i) q = goL n t d s
  len : out.length = i
theorem PathAt.start {n d : Nat} {s t : List Int} (hs : St n s) (hd : far n s t = d) : PathAt n s t d 0 s [] := ⟨hs, (far_zero hs hs).2 rfl, by omega, rfl, rfl⟩
theorem PathAt.more {n d i : Nat} {s t q out : List Int} (h : PathAt n s t d i q out) (hi : i < d) : far n q t = (d - i - 1) + 1 := by have := h.ah; omega
theorem PathAt.next {n d i : Nat} {s t q out : List Int} (hs : St n s) (ht : St n t) (hd : far n s t = d) (h : PathAt n s t d i q out) (hi : i < d) : PathAt n s t d (i + 1) (turnL q (firK n t q)) (out ++ [(firK n t q : Int)]) := by
  obtain ⟨h1, h2⟩ := firK_spec h.st ht (h.more hi)
  have h3 := far_one (mem_ks.2 h1) hs h.st
  have h4 := far_tri hs (h.st.turn (firK n t q)) ht
  have h5 := h.fr
  refine ⟨h.st.turn _, by omega, by omega, ?_, by simp [h.len]⟩
  have h6 := h.whole
  rw [show d - i = (d - (i + 1)) + 1 by omega, goL] at h6
  rw [← h6]
  simp
theorem PathAt.last {n d : Nat} {s t q out : List Int} (h : PathAt n s t d d q out) : out = goL n t d s := by
  have h1 := h.whole
  rw [Nat.sub_self] at h1
  simpa [goL] using h1
/-- the turns into the next layer: the first is that of the plan -/
theorem PathAt.into {n d i : Nat} {s t q out : List Int} (hs : St n s) (ht : St n t) (hd : far n s t = d) (h : PathAt n s t d i q out) (hi : i < d) : ∃ r, pickL (fun k => decide (0 < wayC n s t (i + 1) (d - (i + 1)) (turnL q k))) n = (firK n t q : Int) :: r := by
  rw [pickL_congr (Q := clo n t q) (fun k hk => layer_clo hs ht h.st h.fr (d := d - (i + 1)) (by have := h.ah; omega) (by omega) hk)]
  exact pickL_head h.st ht (h.more hi)

def mLeastPlan (xs : List Int) : List Int := if farB xs = true then goL xs.length (ramp 1 xs.length) (farS xs) xs else []
def mPlanBetween (xs ys : List Int) : List Int := if twoB xs ys = true then goL xs.length ys (far2 xs ys) xs else []
def mCloserTurns (xs : List Int) : List Int := if farB xs = true then pickL (clo xs.length (ramp 1 xs.length) xs) xs.length else []
theorem len_mLeastPlan (xs : List Int) : (mLeastPlan xs).length ≤ 1048576 := by
  unfold mLeastPlan
  split
  · rename_i h
    have h1 := (farB_iff.1 h).1
    have := farS_le h1
    have := h1.le9
    rw [goL_length]
    omega
  · simp
theorem len_mPlanBetween (xs ys : List Int) : (mPlanBetween xs ys).length ≤ 1048576 := by
  unfold mPlanBetween
  split
  · rename_i h
    obtain ⟨h1, h2, h3, h4⟩ := twoB_iff.1 h
    have h5 : far2 xs ys ≤ 2 * xs.length := (far_spec h1.st ⟨h3, h4.symm⟩).2.1
    rw [goL_length]
    omega
  · simp
theorem len_mCloserTurns (xs : List Int) : (mCloserTurns xs).length ≤ 1048576 := by
  unfold mCloserTurns
  split
  · rename_i h
    have h1 := (farB_iff.1 h).2
    have := pickL_length (clo xs.length (ramp 1 xs.length) xs) xs.length
    omega
  · simp

end Go.Pan
