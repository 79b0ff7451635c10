import Derived.Test.YtkfpcnbpdlcnaaaSB
namespace Go.Pan
theorem countP_split {α : Type} (l : List α) (p q r : α → Bool) (h : ∀ x ∈ l, p x = (q x || r x) ∧ (q x && r x) = false) : l.countP p = l.countP q + l.countP r := by
  induction l with
  | nil => rfl
  | cons a l ih =>
    have h1 := h a (by simp)
    have h2 := ih (fun x hx => h x (by simp [hx]))
    simp only [List.countP_cons, h2, h1.1]
    cases hq : q a <;> cases hr : r a
    · simp
    · simp; omega
    · simp; omega
    · have := h1.2; rw [hq, hr] at this; cases this
/-- on a least way from s to t, and less than i turns from s -/
def midTo (n : Nat) (s t : List Int) (d i : Nat) : Nat := (allS n).countP fun q => decide (far n s q + far n q t = d ∧ far n s q < i)
def midB (n : Nat) (s t : List Int) (d : Nat) (q : List Int) : Bool := decide (far n s q + far n q t = d)
def midL (n : Nat) (s t : List Int) (d : Nat) : Nat := (allS n).countP (midB n s t d)
theorem midTo_zero (n : Nat) (s t : List Int) (d : Nat) : midTo n s t d 0 = 0 := by simp [midTo]
theorem midTo_succ {n : Nat} (hn : Cnt n) {s t : List Int} (hs : St n s) {d i : Nat} (hi : i ≤ d) : midTo n s t d (i + 1) = midTo n s t d i + (allS n).countP (fun q => decide (0 < wayC n s t i (d - i) q)) := by
  refine countP_split _ _ _ _ fun q hq => ?_
  have hst := (mem_allS hn.pos hn.le).1 hq
  have h1 := wayC_pos (t := t) (i := i) (j := d - i) hs hst
  constructor
  · rw [Bool.eq_iff_iff]
    simp only [Bool.or_eq_true, decide_eq_true_iff]
    rw [h1]
    omega
  · rw [← Bool.not_eq_true, Bool.and_eq_true, decide_eq_true_iff, decide_eq_true_iff, h1]
    omega
theorem midTo_all (n : Nat) (s t : List Int) (d : Nat) : midTo n s t d (d + 1) = midL n s t d := by
  refine List.countP_congr fun q _ => ?_
  simp only [midB, decide_eq_true_iff]
  omega
theorem midTo_le (n : Nat) (s t : List Int) (d i : Nat) : midTo n s t d i ≤ fact n := by
  unfold midTo
  have := List.countP_le_length (p := fun q => decide (far n s q + far n q t = d ∧ far n s q < i)) (l := allS n)
  rwa [allS_length] at this
def mMiddleStacks (xs ys : List Int) : Int := if twoB xs ys = true then (midL xs.length xs ys (far2 xs ys) : Int) else 0
def maxN (l : List Nat) : Nat := l.foldr max 0
theorem le_maxN {l : List Nat} {x : Nat} (h : x ∈ l) : x ≤ maxN l := by
  induction l with
  | nil => cases h
  | cons a l ih =>
    simp only [maxN, List.foldr_cons]
    rcases List.mem_cons.1 h with rfl | h
    · exact Nat.le_max_left _ _
    · exact Nat.le_trans (ih h) (Nat.le_max_right _ _)
theorem maxN_mem {l : List Nat} (h : l ≠ []) : maxN l ∈ l := by
  induction l with
  | nil => exact absurd rfl h
  | cons a l ih =>
    simp only [maxN, List.foldr_cons]
    by_cases e : l = []
    · subst e; simp
    · have h1 := ih e
      rcases Nat.le_total a (maxN l) with h2 | h2
      · rw [show max a (List.foldr max 0 l) = maxN l from Nat.max_eq_right h2]
        exact List.mem_cons_of_mem _ h1
      · rw [show max a (List.foldr max 0 l) = a from Nat.max_eq_left h2]
        simp
/-- the greatest distance -/
def ecc (n : Nat) : Nat := maxN ((allS n).map (far n (ramp 1 n)))
/-- how many stacks are so far -/
def byN (n e : Nat) : Nat := (allS n).countP fun q => decide (0 < nearC n (ramp 1 n) e q)
section
variable {n : Nat} (hn : Cnt n)
include hn
theorem far_ecc {q : List Int} (hq : St n q) : far n (ramp 1 n) q ≤ ecc n := le_maxN (List.mem_map.2 ⟨q, (mem_allS hn.pos hn.le).2 hq, rfl⟩)
theorem ecc_at : ∃ q, St n q ∧ far n (ramp 1 n) q = ecc n := by
  have h1 : (allS n).map (far n (ramp 1 n)) ≠ [] := by
    intro e
    have h2 := congrArg List.length e
    rw [List.length_map, allS_length] at h2
    have h3 := fact_pos n
    simp at h2
    omega
  obtain ⟨q, hq, e⟩ := List.mem_map.1 (maxN_mem h1)
  exact ⟨q, (mem_allS hn.pos hn.le).1 hq, e⟩
theorem ecc_le : ecc n ≤ 2 * n := by
  obtain ⟨q, hq, e⟩ := ecc_at hn
  rw [← e]
  exact (far_spec hn.home hq).2.1
theorem byN_pos (e : Nat) : 0 < byN n e ↔ e ≤ ecc n := by
  unfold byN
  rw [List.countP_pos_iff]
  constructor
  · rintro ⟨q, hq, h⟩
    have hst := (mem_allS hn.pos hn.le).1 hq
    have h1 := (nearC_pos hn.home hst).1 (of_decide_eq_true h)
    rw [← h1]
    exact far_ecc hn hst
  · intro h
    obtain ⟨q, hq, he⟩ := ecc_at hn
    obtain ⟨u, hu, h1, _⟩ := far_mid (a := e) (b := ecc n - e) hn.home hq (by omega)
    exact ⟨u, (mem_allS hn.pos hn.le).2 hu, decide_eq_true ((nearC_pos hn.home hu).2 h1)⟩
end
theorem byN_le (n e : Nat) : byN n e ≤ fact n := by
  have h := List.countP_le_length (p := fun q => decide (0 < nearC n (ramp 1 n) e q)) (l := allS n)
  rwa [allS_length] at h
def byL (n : Nat) : List Int := (List.range (ecc n + 1)).map fun e => (byN n e : Int)
/-- the counts written up to k -/
def byTo (n k : Nat) : List Int := (List.range (ecc n + 1)).map fun e => if e < k then (byN n e : Int) else 0
theorem byTo_length (n k : Nat) : (byTo n k).length = ecc n + 1 := by simp [byTo]
theorem byTo_zero (n : Nat) : byTo n 0 = List.replicate (ecc n + 1) 0 := by
  simp only [byTo, Nat.not_lt_zero, if_false]
  rw [List.map_const', List.length_range]
theorem byTo_set {n k : Nat} (_h : k ≤ ecc n) : (byTo n k).set k (byN n k : Int) = byTo n (k + 1) := by
  apply List.ext_getElem (by simp [byTo])
  intro i h1 h2
  have hi : i < ecc n + 1 := by simpa [byTo] using h2
  simp only [byTo, List.getElem_set, List.getElem_map, List.getElem_range]
  by_cases e : k = i
  · subst e; simp
  · rw [if_neg e]
    by_cases h : i < k
    · rw [if_pos h, if_pos (by omega)]
    · rw [if_neg h, if_neg (by omega)]
theorem byTo_all (n : Nat) : byTo n (ecc n + 1) = byL n := by
  apply List.ext_getElem (by simp [byTo, byL])
  intro i h1 h2
  have hi : i < ecc n + 1 := by simpa [byTo] using h1
  simp [byTo, byL, hi]
def mCountByTurns (n : Int) : List Int := if inB n 1 7 = true then byL n.toNat else []
def mWorstDistance (n : Int) : Int := if inB n 1 7 = true then (ecc n.toNat : Int) else 0
theorem inB_nat {n : Int} (h : inB n 1 7 = true) : ∃ m : Nat, n = (m : Int) ∧ Cnt m ∧ m ≤ 7 := by
  simp [inB] at h
  exact ⟨n.toNat, by omega, ⟨by omega, by omega⟩, by omega⟩
theorem len_mCountByTurns (n : Int) : (mCountByTurns n).length ≤ 1048576 := by
  unfold mCountByTurns
  split
  · rename_i h
    obtain ⟨m, rfl, hm, h7⟩ := inB_nat h
    have := ecc_le hm
    simp [byL]
    omega
  · simp
/-- how many of the first i ranks have the distance e, and the counts up to K -/
def cntN (n i e : Nat) : Nat := (List.range i).countP fun r => decide (dS n r = e)
def lenN (n i : Nat) : Nat := maxN ((List.range i).map fun r => dS n r + 1)
def outS (n i K : Nat) : List Int := (List.range K).map fun e => (cntN n i e : Int)
theorem outS_length (n i K : Nat) : (outS n i K).length = K := by simp [outS]
theorem cntN_zero {n i e : Nat} (h : lenN n i ≤ e) : cntN n i e = 0 := by
  unfold cntN
  rw [List.countP_eq_zero]
  intro r hr hd
  have h1 := of_decide_eq_true hd
  have h2 : dS n r + 1 ≤ lenN n i := le_maxN (List.mem_map.2 ⟨r, hr, rfl⟩)
  omega
theorem outS_grow {n i K : Nat} (h : lenN n i ≤ K) : outS n i (K + 1) = outS n i K ++ [0] := by
  simp [outS, List.range_succ, cntN_zero h]
theorem cntN_succ (n i e : Nat) : cntN n (i + 1) e = cntN n i e + if dS n i = e then 1 else 0 := by
  simp [cntN, List.range_succ, List.countP_append, List.countP_cons]
theorem maxN_snoc (l : List Nat) (x : Nat) : maxN (l ++ [x]) = max (maxN l) x := by
  induction l with
  | nil => simp [maxN]
  | cons a l ih =>
    simp only [maxN, List.cons_append, List.foldr_cons] at ih ⊢
    rw [ih, Nat.max_assoc]
theorem lenN_succ (n i : Nat) : lenN n (i + 1) = max (lenN n i) (dS n i + 1) := by
  unfold lenN
  rw [List.range_succ, List.map_append]
  exact maxN_snoc _ _
theorem outS_set {n i K x : Nat} (hx : dS n i = x) : (outS n i K).set x ((cntN n i x : Int) + 1) = outS n (i + 1) K := by
  apply List.ext_getElem (by simp [outS])
  intro j h1 h2
  have hj : j < K := by simpa [outS] using h2
  simp only [outS, List.getElem_set, List.getElem_map, List.getElem_range, cntN_succ, hx]
  by_cases e : x = j
  · subst e; simp
  · simp [e]
theorem outS_get {n i K x : Nat} (hK : x < K) : (outS n i K)[x]'(by rw [outS_length]; exact hK) = (cntN n i x : Int) := by simp [outS]
theorem allS_ranks (n : Nat) : allS n = (List.range (fact n)).map (unrank n) := by
  apply List.ext_getElem (by simp [allS_length])
  intro i h1 h2
  have hi : i < fact n := by simpa using h2
  have h := unrank_get hi
  rw [List.getElem?_eq_getElem h1] at h
  simpa using Option.some.inj h
theorem lenN_all (n : Nat) : lenN n (fact n) = ecc n + 1 := by
  have h1 : ∀ l : List Nat, l ≠ [] → maxN (l.map (· + 1)) = maxN l + 1 := by
    intro l hl
    induction l with
    | nil => exact absurd rfl hl
    | cons a l ih =>
      by_cases e : l = []
      · subst e; simp [maxN]
      · have := ih e
        simp only [maxN, List.map_cons, List.foldr_cons] at this ⊢
        rw [this]
        omega
  have h2 : ((allS n).map (far n (ramp 1 n))) = (List.range (fact n)).map (dS n) := by
    rw [allS_ranks, List.map_map]
    rfl
  unfold lenN ecc
  rw [h2, ← h1, List.map_map]
  · rfl
  · intro e
    have h3 := congrArg List.length e
    have h4 := fact_pos n
    simp at h3
    omega
theorem cntN_all {n : Nat} (hn : Cnt n) (e : Nat) : cntN n (fact n) e = byN n e := by
  unfold cntN byN
  rw [allS_ranks, List.countP_map]
  refine List.countP_congr fun r hr => ?_
  have hst := unrank_st hn.pos hn.le (List.mem_range.1 hr)
  simp only [Function.comp, decide_eq_true_iff]
  exact (nearC_pos hn.home hst).symm
theorem outS_all {n : Nat} (hn : Cnt n) : outS n (fact n) (ecc n + 1) = byL n := by
  unfold outS byL
  exact List.map_congr_left fun e _ => by rw [cntN_all hn]
theorem cntN_le (n i e : Nat) : cntN n i e ≤ i := by
  have h := List.countP_le_length (p := fun r => decide (dS n r = e)) (l := List.range i)
  simpa [cntN] using h
theorem lenN_le {n : Nat} {i : Nat} (hi : i ≤ fact n) : lenN n i ≤ ecc n + 1 := by
  rw [← lenN_all n]
  by_cases h : (List.range i).map (fun r => dS n r + 1) = []
  · unfold lenN; rw [h]; exact Nat.zero_le _
  · obtain ⟨r, hr, e⟩ := List.mem_map.1 (maxN_mem h)
    unfold lenN
    rw [← e]
    exact le_maxN (List.mem_map.2 ⟨r, List.mem_range.2 (by have := List.mem_range.1 hr; omega), rfl⟩)

end Go.Pan

namespace Go.Proofs.Ytkfpcnbpdlcnaaa
open Go Go.RowKit Go.Pan

theorem FAR.farAt {n : Nat} {w : World} {a c s : Nat} {S : List Value} (h : FAR n w (.slice (some ⟨a, 0, none⟩) (fact n) (fact n)) (.slice (some ⟨c, 0, none⟩) (fact n) (fact n)) (.slice (some ⟨s, 0, none⟩) (fact n) (fact n)) S) (hn : Cnt n) {q : List Int} (hq : St n q) :
    w.cell? ⟨a, rankL q, none⟩ = some (iv (Pan.far n q (ramp 1 n) : Nat)) ∧ a < w.heap.size := by
  obtain ⟨h1, _, h2, _⟩ := h.at (rank_lt hq)
  rw [dS_rank hn hq] at h1
  exact ⟨h1, h2⟩
theorem countP_next {n i : Nat} (p : List Int → Bool) (hi : i < fact n) : ((allS n).take (i + 1)).countP p = ((allS n).take i).countP p + if p (unrank n i) = true then 1 else 0 := by
  have hl : i < (allS n).length := by rw [allS_length]; exact hi
  have hu := unrank_get hi
  rw [List.getElem?_eq_getElem hl] at hu
  rw [List.take_succ_eq_append_getElem hl, List.countP_append, Option.some.inj hu]
  simp [List.countP_cons]

set_option maxHeartbeats 4000000 in
set_option maxRecDepth 100000 in
theorem sMiddleStacks_any (v : Value) (xs : List Int) (u : Value) (ys : List Int) (w : World) (hv : OwnI w v xs) (hn : xs.length ≤ 1048576) (hu : OwnI w u ys) (hm : ys.length ≤ 1048576) :
    Calls Try.prog 12 #[v, u] w fun e w' => e = .returned (.tuple #[.int .i64 (mMiddleStacks xs ys), .bool (twoB xs ys)]) ∧ Below w.heap.size w w' := by
  have c := faTwo_any _ _ xs ys w hv hn hu hm
  cases hg : twoB xs ys with
  | true =>
    have HG := Lib.hid hg
    obtain ⟨hG, h7, hH, hl⟩ := twoB_iff.1 hg
    have HM := Lib.hid (show mMiddleStacks xs ys = (midL xs.length xs ys (far2 xs ys) : Int) from if_pos hg)
    have hS := seenL_good hG hH hl
    have hsl : (seenL xs ys).length = xs.length := by simp [seenL]
    have HC := Lib.hid hG.cnt
    have HX := Lib.hid hG.st
    have HY := Lib.hid (show St xs.length ys from ⟨hH, hl.symm⟩)
    have HXY := Lib.hid (show St xs.length (seenL xs ys) from ⟨hS, hsl⟩)
    have HD := Lib.hid (show far xs.length (seenL xs ys) (ramp 1 xs.length) = far2 xs ys from far_seen hG hH hl xs.length hl.symm)
    have hs9 : (seenL xs ys).length ≤ 9 := hS.le9
    obtain ⟨ad, cap, rfl, _, _, _⟩ := hv.shape
    obtain ⟨ad2, cap2, rfl, _, _, _⟩ := hu.shape
    rw [hg] at c
    obtain ⟨d, hd⟩ : ∃ d, far2 xs ys = d := ⟨_, rfl⟩
    have hdd : d ≤ 2 * xs.length := by rw [← hd]; exact (far_spec hG.st ⟨hH, hl.symm⟩).2.1
    rw [hd] at HM HD
    obtain ⟨n, hnn⟩ : ∃ n, xs.length = n := ⟨_, rfl⟩
    have HN := Lib.hid hnn
    have hyn : ys.length = n := by omega
    have HYN := Lib.hid hyn
    rw [hnn] at HM HC HX HY HXY HD h7 hv c hdd
    rw [hyn] at hu c
    rw [hnn, hyn]
    clear hG hg hH hl hS hsl hd hnn hyn
    go_enter Try.func12, Try.ntmps12
    go_wp2_with fail
    refine c.mono ?_
    rintro e w0 ⟨rfl, hb0⟩
    clear c
    have c1 := faAll_any n w0 HC h7
    go_wp2_with fail
    refine c1.mono ?_
    rintro e w1 ⟨a, c, s, S, rfl, HR, hb1⟩
    clear c1
    have hz : Blk (w1.alloc (.cells #[.slice none 0 0, .slice none 0 0, .slice none 0 0] 62)) w1.heap.size 62 [.slice none 0 0, .slice none 0 0, .slice none 0 0] := Blk.new _ _ [.slice none 0 0, .slice none 0 0, .slice none 0 0] _ rfl
    go_upto_region 4 with (refine wpList_store3o rfl 62 _ _ rfl w1.heap.size _ _ _ rfl rfl 62 _ hz (by kernel_rfl) rfl ⟨rfl, rfl, rfl⟩ ?_; intro w3 hbl hg3)
    have hb13 : Below w1.heap.size w1 w3 := (below_new w1 _).grown hg3 (by simp) (by intro k hk; cases hk; exact Nat.le_refl _)
    have HR3 := HR.below hb13 (Nat.le_refl _)
    have hB1 := hb0.trans (hb1.mono hb0.size)
    have hB3 := hB1.trans (hb13.mono hB1.size)
    have hl0 : w3.cell? ⟨w1.heap.size, 0, none⟩ = some (.slice (some ⟨a, 0, none⟩) (fact n) (fact n)) := by rw [hbl.cell 0]; rfl
    have hl2 : w3.cell? ⟨w1.heap.size, 2, none⟩ = some (.slice (some ⟨s, 0, none⟩) (fact n) (fact n)) := by rw [hbl.cell 2]; rfl
    have hbl1 := hbl.lt
    obtain ⟨bl, hbe⟩ : ∃ b, w1.heap.size = b := ⟨_, rfl⟩
    rw [hbe] at hl0 hl2 hbl1 ⊢
    have hz3 : w.heap.size ≤ w3.heap.size := hB3.size
    have hv3 : OwnI w3 (.slice ad n cap) xs := (show OwnI w (.slice ad n cap) xs from hv).same hB3
    have hu3 : OwnI w3 (.slice ad2 n cap2) ys := (show OwnI w (.slice ad2 n cap2) ys from hu).same hB3
    obtain ⟨h1, hal⟩ := HR3.farAt HC.out HXY.out
    rw [HD.out] at h1
    have hrk := rank_lt HXY.out
    have hrk' : (rankL (seenL xs ys) : Int) < fact n := by omega
    have hfl := fact_le (n := n) (by omega)
    have HR4 := Lib.hid HR3
    clear hb0 hb1 HR hz hg3 hb13 HR3 hbl hbe hB1 hv hu
    try simp only [List.getElem_toArray, List.getElem_cons_zero, List.getElem_cons_succ, Act.put, List.setIfInBounds_toArray, List.set_cons_zero, List.set_cons_succ]
    go_cut [7] (fun s7 wx => s7 = .int .i64 d ∧ Below w3.heap.size w3 wx)
    case first =>
      refine wp_region_held_drew (S := (fun w' => w'.cell? ⟨bl, 0, none⟩ = some (.slice (some ⟨a, 0, none⟩) (fact n) (fact n)) ∧ w'.cell? ⟨a, rankL (seenL xs ys), none⟩ = some (iv (d : Int)))) (by kernel_rfl) (⟨hl0, h1⟩) (fun hHeld => ?_)
      refine wpAnyH_take (i := 0) (v := ?_) rfl (by kernel_rfl) (by kernel_rfl) (by kernel_rfl) (fun _ _ _ h => h) (Or.inl ⟨by rfl, ?_⟩) (by assumption) ?_
      rotate_left
      · intro w _; go_simp; with_reducible rfl
      try simp only [List.getElem_toArray, List.getElem_cons_zero, Act.put, List.setIfInBounds_toArray, List.set_cons_zero, List.set_cons_succ]
      refine wpAnyH_take (i := 1) (v := ?_) rfl (by kernel_rfl) (by kernel_rfl) (by kernel_rfl) (fun _ _ _ h => h) (Or.inl ⟨by rfl, ?_⟩) (by assumption) ?_
      rotate_left
      · intro w hSw; (try dsimp only at hSw); (go_simp <;> with_reducible rfl)
      try simp only [List.getElem_toArray, List.getElem_cons_zero, List.getElem_cons_succ, Act.put, List.setIfInBounds_toArray, List.set_cons_zero, List.set_cons_succ]
      refine wpAnyH_take (i := 2) (v := ?_) rfl (by kernel_rfl) (by kernel_rfl) (by kernel_rfl) (fun _ _ _ h => h) (Or.inl ⟨by rfl, ?_⟩) (by assumption) ?_
      rotate_left
      · intro w _; go_simp; with_reducible rfl
      try simp only [List.getElem_toArray, List.getElem_cons_zero, List.getElem_cons_succ, Act.put, List.setIfInBounds_toArray, List.set_cons_zero, List.set_cons_succ]
      refine wpAnyH_take (i := 3) (v := ?_) rfl (by kernel_rfl) (by kernel_rfl) (by kernel_rfl) (fun _ _ _ h => h) (Or.inl ⟨by rfl, ?_⟩) (by assumption) ?_
      rotate_left
      · intro w _; go_simp; with_reducible rfl
      try simp only [List.getElem_toArray, List.getElem_cons_zero, List.getElem_cons_succ, Act.put, List.setIfInBounds_toArray, List.set_cons_zero, List.set_cons_succ]
      refine wpAnyH_ready (rs := [4]) (by kernel_rfl) (by simp) ?_
      refine AllReadyH.cons rfl (fun Kc hK => ?_) (AllReadyH.nil)
      go_simp
      refine (faSeen_any _ _ xs ys w3.drew (hv3.kept (fun _ _ => rfl)) (hu3.kept (fun _ _ => rfl)) HG).mono ?_
      rintro e w4 ⟨r, rfl, hor, _, hb4⟩
      go_wp2_with fail
      refine hK.out _ _ (⟨(hb4.cell (p := ⟨bl, 0, none⟩) hbl1).trans hHeld.1, (hb4.cell (p := ⟨a, rankL (seenL xs ys), none⟩) hal).trans hHeld.2⟩) (fun hHeld => ?_)
      clear hK Kc
      try simp only [List.getElem_toArray, List.getElem_cons_zero, List.getElem_cons_succ, Act.put, List.setIfInBounds_toArray, List.set_cons_zero, List.set_cons_succ]
      refine wpAnyH_ready (rs := [5]) (by kernel_rfl) (by simp) ?_
      refine AllReadyH.cons rfl (fun Kc hK => ?_) (AllReadyH.nil)
      go_simp
      refine (faRank_any _ (seenL xs ys) _ hor hs9).mono ?_
      rintro e w5 ⟨rfl, rfl⟩
      go_wp2_with fail
      refine hK.out _ _ (hHeld) (fun hHeld => ?_)
      clear hK Kc
      try simp only [List.getElem_toArray, List.getElem_cons_zero, List.getElem_cons_succ, Act.put, List.setIfInBounds_toArray, List.set_cons_zero, List.set_cons_succ]
      refine wpAnyH_take (i := 6) (v := ?_) rfl (by kernel_rfl) (by kernel_rfl) (by kernel_rfl) (fun _ _ _ h => h) (Or.inl ⟨by rfl, ?_⟩) (by assumption) ?_
      rotate_left
      · intro w _; go_simp; with_reducible rfl
      try simp only [List.getElem_toArray, List.getElem_cons_zero, List.getElem_cons_succ, Act.put, List.setIfInBounds_toArray, List.set_cons_zero, List.set_cons_succ]
      refine wpAnyH_take (i := 7) (v := ?_) rfl (by kernel_rfl) (by kernel_rfl) (by kernel_rfl) (fun _ _ _ h => h) (Or.inl ⟨by rfl, ?_⟩) (by assumption) ?_
      rotate_left
      · intro w hSw; (try dsimp only at hSw); (go_simp <;> with_reducible rfl)
      try simp only [List.getElem_toArray, List.getElem_cons_zero, List.getElem_cons_succ, Act.put, List.setIfInBounds_toArray, List.set_cons_zero, List.set_cons_succ]
      refine wpAnyH_take (i := 8) (v := ?_) rfl (by kernel_rfl) (by kernel_rfl) (by kernel_rfl) (fun _ _ _ h => h) (Or.inl ⟨by rfl, ?_⟩) (by assumption) ?_
      rotate_left
      · intro w _; go_simp; with_reducible rfl
      try simp only [List.getElem_toArray, List.getElem_cons_zero, List.getElem_cons_succ, Act.put, List.setIfInBounds_toArray, List.set_cons_zero, List.set_cons_succ]
      refine wpAnyH_done (by kernel_rfl) ?_ _
      have hb34 := (Below.refl w3.heap.size w3).drew.trans hb4
      go_wp2_with fail
      go_meet
      exact ⟨rfl, hb34⟩
    case rest =>
      obtain ⟨rfl, hcx⟩ := hcut
      have hl2c : wc.cell? ⟨bl, 2, none⟩ = some (.slice (some ⟨s, 0, none⟩) (fact n) (fact n)) := (hcx.cell (p := ⟨bl, 2, none⟩) hbl1).trans hl2
      clear h1 hrk hrk'
      go_wp2
      go_loopw [8, 10, 29] (fun cv _ iv' wr => ∃ i : Nat, i ≤ fact n ∧ iv' = .int .i64 i ∧ cv = .int .i64 (((allS n).take i).countP (midB n xs ys d) : Nat) ∧ Below w3.heap.size w3 wr) (fun _ _ i _ => fact n - (intOf i).toNat)
      case atStart => exact ⟨0, Nat.zero_le _, rfl, rfl, hcx⟩
      case round =>
        obtain ⟨i, hi, rfl, rfl, hbr⟩ := hrel
        by_cases hlt : i < fact n
        · have hlt' : (i : Int) < fact n := by omega
          have hRr := HR4.out.below hbr (Nat.le_refl _)
          obtain ⟨va, vc, hcell, hq5⟩ := hRr.stAt HC.out hlt
          have hqs := unrank_st HC.out.pos HC.out.le hlt
          have HNX := Lib.hid (countP_next (midB n xs ys d) hlt)
          obtain ⟨q, hqe⟩ : ∃ q, unrank n i = q := ⟨_, rfl⟩
          rw [hqe] at hq5 hqs HNX
          have hv5 := hv3.same hbr
          have hu5 := hu3.same hbr
          have hqn := hqs.2
          have HXQ := Lib.hid (twoB_iff.2 ⟨HX.out.1, by rw [HX.out.2]; exact h7, hqs.1, by rw [HX.out.2, hqn]⟩)
          have HYQ := Lib.hid (twoB_iff.2 ⟨HY.out.1, by rw [HY.out.2]; exact h7, hqs.1, by rw [HY.out.2, hqn]⟩)
          have hsx : St n (seenL xs q) := ⟨seenL_good HX.out.1 hqs.1 (by rw [HX.out.2, hqn]), by simp [seenL, HX.out.2]⟩
          have hsy : St n (seenL ys q) := ⟨seenL_good HY.out.1 hqs.1 (by rw [HY.out.2, hqn]), by simp [seenL, HY.out.2]⟩
          have hsx9 : (seenL xs q).length ≤ 9 := hsx.1.le9
          have hsy9 : (seenL ys q).length ≤ 9 := hsy.1.le9
          obtain ⟨h15, halr⟩ := hRr.farAt HC.out hsx
          obtain ⟨h16, _⟩ := hRr.farAt HC.out hsy
          rw [far_seen HX.out.1 hqs.1 (by rw [HX.out.2, hqn]) n hqn] at h15
          rw [far_seen HY.out.1 hqs.1 (by rw [HY.out.2, hqn]) n hqn, far_symm HY.out hqs] at h16
          have hxb := (far_spec HX.out hqs).2.1
          have hyb := (far_spec hqs HY.out).2.1
          have hrx : (rankL (seenL xs q) : Int) < fact n := by have := rank_lt hsx; omega
          have hry : (rankL (seenL ys q) : Int) < fact n := by have := rank_lt hsy; omega
          have hrxn := rank_lt hsx
          have hryn := rank_lt hsy
          have HB0 := Lib.hid (show midB n xs ys d q = decide (far n xs q + far n q ys = d) from rfl)
          obtain ⟨x, hx⟩ : ∃ x, far n xs q = x := ⟨_, rfl⟩
          obtain ⟨y, hy⟩ : ∃ y, far n q ys = y := ⟨_, rfl⟩
          rw [hx] at h15 hxb HB0
          rw [hy] at h16 hyb HB0
          have HB := Lib.hid (show Value.bool ((x : Int) + y == (d : Int)) = .bool (midB n xs ys d q) by
            rw [HB0.out, Value.bool.injEq, Bool.eq_iff_iff, beq_iff_eq, decide_eq_true_iff]
            omega)
          have hs1 := IntWalk.i64_in ((x : Int) + y) (by omega)
          have hl5 : wr.cell? ⟨bl, 0, none⟩ = some (.slice (some ⟨a, 0, none⟩) (fact n) (fact n)) := (hbr.cell (p := ⟨bl, 0, none⟩) hbl1).trans hl0
          have hblr := Nat.lt_of_lt_of_le hbl1 hbr.size
          have hcl : ((allS n).take i).countP (midB n xs ys d) ≤ fact n := by
            have h1 := List.countP_le_length (p := midB n xs ys d) (l := (allS n).take i)
            rw [List.length_take, allS_length] at h1
            omega
          obtain ⟨k, hk⟩ : ∃ k, ((allS n).take i).countP (midB n xs ys d) = k := ⟨_, rfl⟩
          rw [hk] at hcl HNX ⊢
          clear hqe hqn hsx hsy hx hy hRr hqs hk hl2c hcx
          go_upto_region 9 with fail
          go_cut [51] (fun bv wx => bv = .bool (midB n xs ys d q) ∧ Below wr.heap.size wr wx)
          case first =>
            refine wp_region_held_drew (S := (fun w' => w'.cell? ⟨bl, 0, none⟩ = some (.slice (some ⟨a, 0, none⟩) (fact n) (fact n)) ∧ w'.cell? ⟨a, rankL (seenL xs q), none⟩ = some (iv (x : Int)) ∧ w'.cell? ⟨a, rankL (seenL ys q), none⟩ = some (iv (y : Int)))) (by kernel_rfl) (⟨hl5, h15, h16⟩) (fun hHeld => ?_)
            refine wpAnyH_take (i := 0) (v := ?_) rfl (by kernel_rfl) (by kernel_rfl) (by kernel_rfl) (fun _ _ _ h => h) (Or.inl ⟨by rfl, ?_⟩) (by assumption) ?_
            rotate_left
            · intro w _; go_simp; with_reducible rfl
            try simp only [List.getElem_toArray, List.getElem_cons_zero, Act.put, List.setIfInBounds_toArray, List.set_cons_zero, List.set_cons_succ]
            refine wpAnyH_take (i := 1) (v := ?_) rfl (by kernel_rfl) (by kernel_rfl) (by kernel_rfl) (fun _ _ _ h => h) (Or.inl ⟨by rfl, ?_⟩) (by assumption) ?_
            rotate_left
            · intro w hSw; (try dsimp only at hSw); (go_simp <;> with_reducible rfl)
            try simp only [List.getElem_toArray, List.getElem_cons_zero, List.getElem_cons_succ, Act.put, List.setIfInBounds_toArray, List.set_cons_zero, List.set_cons_succ]
            refine wpAnyH_take (i := 2) (v := ?_) rfl (by kernel_rfl) (by kernel_rfl) (by kernel_rfl) (fun _ _ _ h => h) (Or.inl ⟨by rfl, ?_⟩) (by assumption) ?_
            rotate_left
            · intro w _; go_simp; with_reducible rfl
            try simp only [List.getElem_toArray, List.getElem_cons_zero, List.getElem_cons_succ, Act.put, List.setIfInBounds_toArray, List.set_cons_zero, List.set_cons_succ]
            refine wpAnyH_take (i := 3) (v := ?_) rfl (by kernel_rfl) (by kernel_rfl) (by kernel_rfl) (fun _ _ _ h => h) (Or.inl ⟨by rfl, ?_⟩) (by assumption) ?_
            rotate_left
            · intro w _; go_simp; with_reducible rfl
            try simp only [List.getElem_toArray, List.getElem_cons_zero, List.getElem_cons_succ, Act.put, List.setIfInBounds_toArray, List.set_cons_zero, List.set_cons_succ]
            refine wpAnyH_take (i := 8) (v := ?_) rfl (by kernel_rfl) (by kernel_rfl) (by kernel_rfl) (fun _ _ _ h => h) (Or.inl ⟨by rfl, ?_⟩) (by assumption) ?_
            rotate_left
            · intro w _; go_simp; with_reducible rfl
            try simp only [List.getElem_toArray, List.getElem_cons_zero, List.getElem_cons_succ, Act.put, List.setIfInBounds_toArray, List.set_cons_zero, List.set_cons_succ]
            refine wpAnyH_take (i := 9) (v := ?_) rfl (by kernel_rfl) (by kernel_rfl) (by kernel_rfl) (fun _ _ _ h => h) (Or.inl ⟨by rfl, ?_⟩) (by assumption) ?_
            rotate_left
            · intro w hSw; (try dsimp only at hSw); (go_simp <;> with_reducible rfl)
            try simp only [List.getElem_toArray, List.getElem_cons_zero, List.getElem_cons_succ, Act.put, List.setIfInBounds_toArray, List.set_cons_zero, List.set_cons_succ]
            refine wpAnyH_take (i := 10) (v := ?_) rfl (by kernel_rfl) (by kernel_rfl) (by kernel_rfl) (fun _ _ _ h => h) (Or.inl ⟨by rfl, ?_⟩) (by assumption) ?_
            rotate_left
            · intro w _; go_simp; with_reducible rfl
            try simp only [List.getElem_toArray, List.getElem_cons_zero, List.getElem_cons_succ, Act.put, List.setIfInBounds_toArray, List.set_cons_zero, List.set_cons_succ]
            refine wpAnyH_take (i := 11) (v := ?_) rfl (by kernel_rfl) (by kernel_rfl) (by kernel_rfl) (fun _ _ _ h => h) (Or.inl ⟨by rfl, ?_⟩) (by assumption) ?_
            rotate_left
            · intro w _; go_simp; with_reducible rfl
            try simp only [List.getElem_toArray, List.getElem_cons_zero, List.getElem_cons_succ, Act.put, List.setIfInBounds_toArray, List.set_cons_zero, List.set_cons_succ]
            refine wpAnyH_take (i := 17) (v := ?_) rfl (by kernel_rfl) (by kernel_rfl) (by kernel_rfl) (fun _ _ _ h => h) (Or.inl ⟨by rfl, ?_⟩) (by assumption) ?_
            rotate_left
            · intro w _; go_simp; with_reducible rfl
            try simp only [List.getElem_toArray, List.getElem_cons_zero, List.getElem_cons_succ, Act.put, List.setIfInBounds_toArray, List.set_cons_zero, List.set_cons_succ]
            refine wpAnyH_ready (rs := [4]) (by kernel_rfl) (by simp) ?_
            refine AllReadyH.cons rfl (fun Kc hK => ?_) (AllReadyH.nil)
            go_simp
            refine (faSeen_any _ _ xs q wr.drew (hv5.kept (fun _ _ => rfl)) (hq5.kept (fun _ _ => rfl)) HXQ).mono ?_
            rintro e w6 ⟨r, rfl, hor, _, hb6⟩
            go_wp2_with fail
            refine hK.out _ _ (⟨(hb6.cell (p := ⟨bl, 0, none⟩) hblr).trans hHeld.1, (hb6.cell (p := ⟨a, rankL (seenL xs q), none⟩) halr).trans hHeld.2.1, (hb6.cell (p := ⟨a, rankL (seenL ys q), none⟩) halr).trans hHeld.2.2⟩) (fun hHeld => ?_)
            clear hK Kc
            try simp only [List.getElem_toArray, List.getElem_cons_zero, List.getElem_cons_succ, Act.put, List.setIfInBounds_toArray, List.set_cons_zero, List.set_cons_succ]
            refine wpAnyH_ready (rs := [5]) (by kernel_rfl) (by simp) ?_
            refine AllReadyH.cons rfl (fun Kc hK => ?_) (AllReadyH.nil)
            go_simp
            refine (faRank_any _ (seenL xs q) _ hor hsx9).mono ?_
            rintro e w7 ⟨rfl, rfl⟩
            go_wp2_with fail
            refine hK.out _ _ (hHeld) (fun hHeld => ?_)
            clear hK Kc
            try simp only [List.getElem_toArray, List.getElem_cons_zero, List.getElem_cons_succ, Act.put, List.setIfInBounds_toArray, List.set_cons_zero, List.set_cons_succ]
            refine wpAnyH_take (i := 6) (v := ?_) rfl (by kernel_rfl) (by kernel_rfl) (by kernel_rfl) (fun _ _ _ h => h) (Or.inl ⟨by rfl, ?_⟩) (by assumption) ?_
            rotate_left
            · intro w _; go_simp; with_reducible rfl
            try simp only [List.getElem_toArray, List.getElem_cons_zero, List.getElem_cons_succ, Act.put, List.setIfInBounds_toArray, List.set_cons_zero, List.set_cons_succ]
            refine wpAnyH_take (i := 7) (v := ?_) rfl (by kernel_rfl) (by kernel_rfl) (by kernel_rfl) (fun _ _ _ h => h) (Or.inl ⟨by rfl, ?_⟩) (by assumption) ?_
            rotate_left
            · intro w hSw; (try dsimp only at hSw); (go_simp <;> with_reducible rfl)
            try simp only [List.getElem_toArray, List.getElem_cons_zero, List.getElem_cons_succ, Act.put, List.setIfInBounds_toArray, List.set_cons_zero, List.set_cons_succ]
            have hu6 := (hu5.kept (w' := wr.drew) (fun _ _ => rfl)).same hb6
            have hq6 := (hq5.kept (w' := wr.drew) (fun _ _ => rfl)).same hb6
            have hbl6 := Nat.lt_of_lt_of_le hblr hb6.size
            have hal6 := Nat.lt_of_lt_of_le halr hb6.size
            refine wpAnyH_ready (rs := [12]) (by kernel_rfl) (by simp) ?_
            refine AllReadyH.cons rfl (fun Kc hK => ?_) (AllReadyH.nil)
            go_simp
            refine (faSeen_any _ _ ys q w6 hu6 hq6 HYQ).mono ?_
            rintro e w8 ⟨r8, rfl, hor8, _, hb8⟩
            go_wp2_with fail
            refine hK.out _ _ (⟨(hb8.cell (p := ⟨bl, 0, none⟩) hbl6).trans hHeld.1, (hb8.cell (p := ⟨a, rankL (seenL xs q), none⟩) hal6).trans hHeld.2.1, (hb8.cell (p := ⟨a, rankL (seenL ys q), none⟩) hal6).trans hHeld.2.2⟩) (fun hHeld => ?_)
            clear hK Kc
            try simp only [List.getElem_toArray, List.getElem_cons_zero, List.getElem_cons_succ, Act.put, List.setIfInBounds_toArray, List.set_cons_zero, List.set_cons_succ]
            refine wpAnyH_ready (rs := [13]) (by kernel_rfl) (by simp) ?_
            refine AllReadyH.cons rfl (fun Kc hK => ?_) (AllReadyH.nil)
            go_simp
            refine (faRank_any _ (seenL ys q) _ hor8 hsy9).mono ?_
            rintro e w9 ⟨rfl, rfl⟩
            go_wp2_with fail
            refine hK.out _ _ (hHeld) (fun hHeld => ?_)
            clear hK Kc
            try simp only [List.getElem_toArray, List.getElem_cons_zero, List.getElem_cons_succ, Act.put, List.setIfInBounds_toArray, List.set_cons_zero, List.set_cons_succ]
            refine wpAnyH_take (i := 14) (v := ?_) rfl (by kernel_rfl) (by kernel_rfl) (by kernel_rfl) (fun _ _ _ h => h) (Or.inl ⟨by rfl, ?_⟩) (by assumption) ?_
            rotate_left
            · intro w _; go_simp; with_reducible rfl
            try simp only [List.getElem_toArray, List.getElem_cons_zero, List.getElem_cons_succ, Act.put, List.setIfInBounds_toArray, List.set_cons_zero, List.set_cons_succ]
            refine wpAnyH_take (i := 15) (v := ?_) rfl (by kernel_rfl) (by kernel_rfl) (by kernel_rfl) (fun _ _ _ h => h) (Or.inl ⟨by rfl, ?_⟩) (by assumption) ?_
            rotate_left
            · intro w hSw; (try dsimp only at hSw); (go_simp <;> with_reducible rfl)
            try simp only [List.getElem_toArray, List.getElem_cons_zero, List.getElem_cons_succ, Act.put, List.setIfInBounds_toArray, List.set_cons_zero, List.set_cons_succ]
            refine wpAnyH_take (i := 16) (v := ?_) rfl (by kernel_rfl) (by kernel_rfl) (by kernel_rfl) (fun _ _ _ h => h) (Or.inl ⟨by rfl, ?_⟩) (by assumption) ?_
            rotate_left
            · intro w _; go_simp; with_reducible rfl
            try simp only [List.getElem_toArray, List.getElem_cons_zero, List.getElem_cons_succ, Act.put, List.setIfInBounds_toArray, List.set_cons_zero, List.set_cons_succ]
            refine wpAnyH_take (i := 18) (v := ?_) rfl (by kernel_rfl) (by kernel_rfl) (by kernel_rfl) (fun _ _ _ h => h) (Or.inl ⟨by rfl, ?_⟩) (by assumption) ?_
            rotate_left
            · intro w _; go_simp; with_reducible rfl
            try simp only [List.getElem_toArray, List.getElem_cons_zero, List.getElem_cons_succ, Act.put, List.setIfInBounds_toArray, List.set_cons_zero, List.set_cons_succ]
            refine wpAnyH_done (by kernel_rfl) ?_ _
            have hb56 := (Below.refl wr.heap.size wr).drew.trans hb6
            have hb58 := hb56.trans (hb8.mono hb56.size)
            go_wp2_with fail
            go_meet
            exact ⟨HB.out, hb58⟩
          case rest =>
            obtain ⟨rfl, hcx⟩ := hcut
            have hb6 := hbr.trans (hcx.mono hbr.size)
            cases hp : midB n xs ys d q with
            | true =>
              rw [hp] at HNX
              clear hp
              go_wp2
              go_roundw
              case rel => exact ⟨i + 1, by omega, by go_num, by rw [HNX.out]; go_num, hb6⟩
              case measure => simp [intOf] <;> omega
            | false =>
              rw [hp] at HNX
              clear hp
              go_wp2
              go_roundw
              case rel => exact ⟨i + 1, by omega, by go_num, by rw [HNX.out]; rfl, hb6⟩
              case measure => simp [intOf] <;> omega
        · obtain hie : i = fact n := by omega
          have HE := Lib.hid (show ((allS n).take i).countP (midB n xs ys d) = midL n xs ys d by rw [hie, List.take_of_length_le (by rw [allS_length]; exact Nat.le_refl _)]; rfl)
          have hge : (fact n : Int) ≤ i := by omega
          clear hie
          go_wp2
          go_ret2
          exact ⟨by rw [HM.out, HE.out]; rfl, hB3.trans (hbr.mono hz3)⟩
  | false =>
    have HM := Lib.hid (show mMiddleStacks xs ys = 0 from if_neg (by rw [hg]; exact Bool.false_ne_true))
    rw [hg] at c
    obtain ⟨ad, cap, rfl, _, _, _⟩ := hv.shape
    obtain ⟨ad2, cap2, rfl, _, _, _⟩ := hu.shape
    clear hg
    go_enter Try.func12, Try.ntmps12
    go_wp2_with fail
    refine c.mono ?_
    rintro e w1 ⟨rfl, hb1⟩
    go_wp2
    go_ret2
    exact ⟨by rw [HM.out]; rfl, hb1⟩

theorem cellAtO {w : World} {v : Value} {xs : List Int} (h : OwnI w v xs) (j : Nat) (hj : j < xs.length) :
    ∃ g off cap, v = .slice (some ⟨g, off, none⟩) xs.length cap ∧ w.cell? ⟨g, off + j, none⟩ = some (iv xs[j]) ∧ w.frozen? ⟨g, off + j, none⟩ = false ∧ ∀ u : Int, OwnI (w.setCell ⟨g, off + j, none⟩ (iv u)) (.slice (some ⟨g, off, none⟩) xs.length cap) (xs.set j u) := by
  obtain ⟨ad, cap, rfl, h1, h2, h3⟩ := h.shape
  obtain ⟨g, off, rfl, hg, hc, hf⟩ := Own.at h (by omega)
  have hcj := hc j (by omega)
  rw [List.getElem?_map, List.getElem?_eq_getElem hj] at hcj
  refine ⟨g, off, cap, rfl, hcj, hf (off + j), fun u => ?_⟩
  have hs := Own.stored h j (by omega) (iv u)
  unfold OwnI
  rw [List.length_set, List.map_set]
  exact hs

def wlenS : Value → Nat
  | .slice _ n _ => n
  | _ => 0

set_option maxHeartbeats 4000000 in
set_option maxRecDepth 100000 in
theorem sCountByTurns_any (n : Int) (w : World) :
    Calls Try.prog 21 #[.int .i64 n] w fun e w' => ∃ r, e = .returned (.tuple #[r, .bool (inB n 1 7)]) ∧ OwnI w' r (mCountByTurns n) ∧ From w.heap.size r ∧ Below w.heap.size w w' := by
  have c := faNumber_any n w
  cases hg : inB n 1 7 with
  | true =>
    have HM := Lib.hid (show mCountByTurns n = byL n.toNat from if_pos hg)
    obtain ⟨m, rfl, hm, h7⟩ := inB_nat hg
    rw [hg] at c
    have HC := Lib.hid hm
    have heb := ecc_le hm
    rw [Int.toNat_natCast] at HM
    have c1 := faAll_any m w HC h7
    have hfl := fact_le (n := m) (by omega)
    have HB := Lib.hid (fun i (hi : i ≤ fact m) => lenN_le hi)
    have HBD := Lib.hid heb
    have hu57 := run_layer0
    clear hg hm heb
    go_enter Try.func21, Try.ntmps21
    go_wp2_with fail
    refine c.mono ?_
    rintro e w0 ⟨rfl, rfl⟩
    clear c
    go_wp2_with fail
    refine c1.mono ?_
    rintro e w1 ⟨a, c, s, S, rfl, HR, hb1⟩
    clear c1
    have hz1 := hb1.size
    go_wp2
    go_loopw [4, 6, 14] (fun ov _ iv' wr => ∃ (i : Nat) (oa : Option Addr) (oc : Nat), i ≤ fact m ∧ iv' = .int .i64 i ∧ ov = .slice oa (lenN m i) oc ∧ OwnI wr (.slice oa (lenN m i) oc) (outS m i (lenN m i)) ∧ From w1.heap.size (.slice oa (lenN m i) oc) ∧ Below w1.heap.size w1 wr) (fun _ _ i _ => fact m - (intOf i).toNat)
    case atStart => exact ⟨0, none, 0, Nat.zero_le _, rfl, rfl, OwnI.nil _, From.nil _ _ _, Below.refl _ _⟩
    case round =>
      obtain ⟨i, oa, oc, hi, rfl, rfl, ho, hf, hbr⟩ := hrel
      obtain ⟨wo, hwo⟩ : ∃ wo, wo = wr := ⟨_, rfl⟩
      subst hwo
      by_cases hlt : i < fact m
      · have hlt' : (i : Int) < fact m := by omega
        obtain ⟨h1, _, hal, _⟩ := HR.at hlt
        have h1r := (hbr.cell (p := ⟨a, i, none⟩) hal).trans h1
        obtain ⟨x, hx⟩ : ∃ x, dS m i = x := ⟨_, rfl⟩
        have HX := Lib.hid hx
        have HLS := Lib.hid (show lenN m (i + 1) = max (lenN m i) (x + 1) by rw [lenN_succ, hx])
        have hlb := HB.out (i + 1) (by omega)
        have hlb0 := HB.out i (by omega)
        have HG := Lib.hid (fun K (hK : lenN m i ≤ K) => outS_grow (n := m) (i := i) hK)
        have hxb : x ≤ 15 := by
          rw [HLS.out] at hlb
          have := HBD.out
          omega
        have hlb1 : lenN m i ≤ 15 := by have := HBD.out; omega
        rw [hx] at h1r
        obtain ⟨l0, hl0⟩ : ∃ l, lenN m i = l := ⟨_, rfl⟩
        rw [hl0] at ho hf HLS HG hlb1 ⊢
        clear h1 hx hlb hlb0 hl0
        go_wp2
        go_loopw [4] (fun ov w5 => ∃ (K : Nat) (oa : Option Addr) (oc : Nat), l0 ≤ K ∧ K ≤ max l0 (x + 1) ∧ ov = .slice oa K oc ∧ OwnI w5 (.slice oa K oc) (outS m i K) ∧ From w1.heap.size (.slice oa K oc) ∧ Below w1.heap.size w1 w5) (fun ov _ => x + 1 - wlenS ov)
        case atStart => exact ⟨l0, oa, oc, Nat.le_refl _, Nat.le_max_left _ _, rfl, ho, hf, hbr⟩
        case round =>
          obtain ⟨K, oa2, oc2, hK1, hK2, rfl, ho2, hf2, hb2⟩ := hrel
          clear ho hf h1r
          have hz2 := hb2.size
          by_cases hle : K ≤ x
          · have hle' : (K : Int) ≤ x := by omega
            have hlen : (outS m i K).length ≤ 1048576 := by rw [outS_length]; omega
            have HGK := Lib.hid (HG.out K hK1)
            go_wp2_with (at_builtin; refine wpList_app1 Try.intSl rfl _ _ rfl _ (outS m i K) rfl (ho2.alloc _) w1.heap.size hf2 wr.heap.size 0 rfl ?c1 w1 (hb2.alloc hz2 _) ?c2 hlen ?_)
            case c1 => simp [go_sem]
            case c2 => simp; omega
            intro v' w9 ho9 hf9 hb9 _
            rw [← HGK.out] at ho9
            obtain ⟨oa9, oc9, rfl, _, _, _⟩ := ho9.shape
            rw [outS_length] at ho9 hf9 ⊢
            go_wp2
            go_roundw
            case rel => exact ⟨K + 1, oa9, oc9, by omega, by omega, rfl, ho9, hf9, hb9⟩
            case measure => simp [wlenS] <;> omega
          · have hlt2 : (x : Int) < K := by omega
            have hxK : x < K := by omega
            have hKe : lenN m (i + 1) = K := by rw [HLS.out]; omega
            have HKE := Lib.hid hKe
            obtain ⟨g, off, cap, he, hd, hfd, hst⟩ := cellAtO ho2 x (by rw [outS_length]; exact hxK)
            rw [outS_length] at he hst
            simp only [Value.slice.injEq] at he
            obtain ⟨rfl, _, rfl⟩ := he
            rw [outS_get hxK] at hd
            have hst2 := hst ((cntN m i x : Int) + 1)
            rw [outS_set HX.out] at hst2
            have hcb := cntN_le m i x
            obtain ⟨k, hk⟩ : ∃ k, cntN m i x = k := ⟨_, rfl⟩
            rw [hk] at hd hst2 hcb
            have hgB : w1.heap.size ≤ g := hf2 g rfl
            have hb3 := hb2.setCell (p := ⟨g, off + x, none⟩) hgB (iv ((k : Int) + 1))
            have hs1 := IntWalk.i64_in ((k : Int) + 1) (by omega)
            clear hKe hst hk ho2 hb2
            go_wp2
            go_roundw
            case rel => exact ⟨i + 1, _, oc2, by omega, by go_num, by rw [HKE.out], by rw [HKE.out]; exact hst2, by rw [HKE.out]; exact hf2, hb3⟩
            case measure => simp [intOf] <;> omega
      · obtain hie : i = fact m := by omega
        have HE := Lib.hid (show outS m i (lenN m i) = byL m by rw [hie, lenN_all m]; exact outS_all HC.out)
        have hge : (fact m : Int) ≤ i := by omega
        clear hie
        go_wp2
        go_ret2
        exact ⟨_, rfl, by rw [HM.out, ← HE.out]; exact ho, hf.mono hz1, hb1.trans (hbr.mono hz1)⟩
  | false =>
    have HM := Lib.hid (show mCountByTurns n = [] from if_neg (by rw [hg]; exact Bool.false_ne_true))
    rw [hg] at c
    clear hg
    go_enter Try.func21, Try.ntmps21
    go_wp2_with fail
    refine c.mono ?_
    rintro e w0 ⟨rfl, rfl⟩
    go_wp2
    go_ret2
    exact ⟨_, rfl, by rw [HM.out]; exact OwnI.nil _, From.nil _ _ _, Below.refl _ _⟩

theorem sWorstDistance_any (n : Int) (w : World) :
    Calls Try.prog 23 #[.int .i64 n] w fun e w' => e = .returned (.tuple #[.int .i64 (mWorstDistance n), .bool (inB n 1 7)]) ∧ Below w.heap.size w w' := by
  have c := sCountByTurns_any n w
  cases hg : inB n 1 7 with
  | true =>
    have HM := Lib.hid (show mWorstDistance n = (ecc n.toNat : Int) from if_pos hg)
    have HL := Lib.hid (show (mCountByTurns n).length = ecc n.toNat + 1 by rw [show mCountByTurns n = byL n.toNat from if_pos hg]; simp [byL])
    obtain ⟨m, rfl, hm, h7⟩ := inB_nat hg
    have heb := ecc_le hm
    rw [Int.toNat_natCast] at HM HL
    rw [hg] at c
    obtain ⟨E, hE⟩ : ∃ E, ecc m = E := ⟨_, rfl⟩
    rw [hE] at HM HL heb
    have hs1 := IntWalk.i64_in (((E + 1 : Nat) : Int) - 1) (by omega)
    clear hg hm hE
    go_enter Try.func23, Try.ntmps23
    go_wp2_with fail
    refine c.mono ?_
    rintro e w1 ⟨r, rfl, ho, _, hb1⟩
    obtain ⟨oa, oc, rfl, _, _, _⟩ := ho.shape
    rw [HL.out]
    clear c
    go_wp2
    go_ret2
    exact ⟨by rw [HM.out]; simp, hb1⟩
  | false =>
    have HM := Lib.hid (show mWorstDistance n = 0 from if_neg (by rw [hg]; exact Bool.false_ne_true))
    rw [hg] at c
    clear hg
    go_enter Try.func23, Try.ntmps23
    go_wp2_with fail
    refine c.mono ?_
    rintro e w1 ⟨r, rfl, ho, _, hb1⟩
    go_wp2
    go_ret2
    exact ⟨by rw [HM.out]; rfl, hb1⟩

end Go.Proofs.Ytkfpcnbpdlcnaaa

