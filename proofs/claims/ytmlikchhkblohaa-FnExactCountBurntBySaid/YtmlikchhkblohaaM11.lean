import Derived.Test.YtmlikchhkblohaaM10
namespace Go.Pan
open Go Go.RowKit

-- doubled stacks
def dbl (x : Int) : List Int := if 0 < x then [2 * x - 1, 2 * x] else [-2 * x, -2 * x - 1]
theorem dbl_length (x : Int) : (dbl x).length = 2 := by unfold dbl; split <;> rfl
def doubL (xs : List Int) : List Int := xs.flatMap dbl
theorem doubL_length (xs : List Int) : (doubL xs).length = 2 * xs.length := by
  induction xs with
  | nil => rfl
  | cons a l ih =>
    have : doubL (a :: l) = dbl a ++ doubL l := rfl
    rw [this, List.length_append, dbl_length, ih, List.length_cons]
    omega
def doubTo (xs : List Int) (k : Nat) : List Int := doubL (xs.take k)
theorem doubTo_pos {xs : List Int} {k : Nat} (h : k < xs.length) (hp : 0 < xs[k]) : doubTo xs k ++ [2 * xs[k] - 1, 2 * xs[k]] = doubTo xs (k + 1) := by
  unfold doubTo doubL
  rw [List.take_succ_eq_append_getElem h, List.flatMap_append]
  simp [dbl, hp]
theorem doubTo_neg {xs : List Int} {k : Nat} (h : k < xs.length) (hp : ¬ 0 < xs[k]) : doubTo xs k ++ [-2 * xs[k], -2 * xs[k] - 1] = doubTo xs (k + 1) := by
  unfold doubTo doubL
  rw [List.take_succ_eq_append_getElem h, List.flatMap_append]
  simp [dbl, hp]
theorem doubTo_length (xs : List Int) (k : Nat) : (doubTo xs k).length ≤ 2 * k := by
  unfold doubTo
  rw [doubL_length, List.length_take]
  omega
def okDouble (xs : List Int) : Bool := burntB xs && decide (2 * xs.length ≤ 9)
theorem okDouble_iff {xs : List Int} : okDouble xs = true ↔ Burnt xs ∧ 2 * xs.length ≤ 9 := by simp only [okDouble, Bool.and_eq_true, burntB_iff, decide_eq_true_iff]
def mDoubleStack (xs : List Int) : List Int := if okDouble xs = true then doubL xs else []
theorem len_mDoubleStack (xs : List Int) : (mDoubleStack xs).length ≤ 1048576 := by
  unfold mDoubleStack
  split
  · rename_i h; rw [doubL_length]; have := (okDouble_iff.1 h).2; omega
  · simp

-- halved ones
def halv (a b : Int) : Int := if b < a then (-a).tdiv 2 else b / 2
theorem halv_hi {a b : Int} (h : b < a) (h0 : 0 ≤ a) : halv a b = -(a / 2) := by
  unfold halv
  rw [if_pos h, Int.neg_tdiv, Int.tdiv_eq_ediv_of_nonneg h0]
theorem halv_lo {a b : Int} (h : ¬ b < a) : halv a b = b / 2 := if_neg h
def halvL (xs : List Int) : List Int := (List.range (xs.length / 2)).map fun i => halv (xs.getD (2 * i) 0) (xs.getD (2 * i + 1) 0)
theorem halvL_length (xs : List Int) : (halvL xs).length = xs.length / 2 := by simp [halvL]
theorem halvL_at (xs : List Int) (i : Nat) (h : i < xs.length / 2) : (halvL xs)[i]'(by rw [halvL_length]; exact h) = halv (xs.getD (2 * i) 0) (xs.getD (2 * i + 1) 0) := by simp [halvL]
def pairOk (a b : Int) : Prop := (a % 2 = 1 ∧ b = a + 1) ∨ (a % 2 = 0 ∧ b = a - 1)
instance (a b : Int) : Decidable (pairOk a b) := inferInstanceAs (Decidable (_ ∨ _))
theorem dbl_pair {a b : Int} (ha : 1 ≤ a) (hb : 1 ≤ b) : dbl (halv a b) = [a, b] ↔ pairOk a b := by
  unfold pairOk
  by_cases h : b < a
  · rw [halv_hi h (by omega)]
    unfold dbl
    rw [if_neg (by omega)]
    simp only [List.cons.injEq, and_true]
    omega
  · rw [halv_lo h]
    unfold dbl
    by_cases h1 : 0 < b / 2
    · rw [if_pos h1]
      simp only [List.cons.injEq, and_true]
      omega
    · rw [if_neg h1]
      simp only [List.cons.injEq, and_true]
      omega
theorem doubL_pair (xs : List Int) (i : Nat) (h : i < xs.length) : (doubL xs)[2 * i]? = (dbl xs[i])[0]? ∧ (doubL xs)[2 * i + 1]? = (dbl xs[i])[1]? := by
  induction xs generalizing i with
  | nil => simp at h
  | cons a l ih =>
    have e : doubL (a :: l) = dbl a ++ doubL l := rfl
    rw [e]
    cases i with
    | zero =>
      have := dbl_length a
      constructor
      · rw [List.getElem?_append_left (by omega)]; rfl
      · rw [List.getElem?_append_left (by omega)]; rfl
    | succ i =>
      have h' : i < l.length := by simpa using h
      have := dbl_length a
      have h2 := ih i h'
      constructor
      · rw [List.getElem?_append_right (by omega), this, show 2 * (i + 1) - 2 = 2 * i by omega]; exact h2.1
      · rw [List.getElem?_append_right (by omega), this, show 2 * (i + 1) + 1 - 2 = 2 * i + 1 by omega]; exact h2.2
def pairTo (xs : List Int) (k : Nat) : Prop := ∀ i, i < k → pairOk (xs.getD (2 * i) 0) (xs.getD (2 * i + 1) 0)
instance (xs : List Int) (k : Nat) : Decidable (pairTo xs k) := inferInstanceAs (Decidable (∀ i, i < k → _))
def okHalve (xs : List Int) : Bool := goodB xs && decide (xs.length % 2 = 0) && decide (pairTo xs (xs.length / 2))
def mHalveStack (xs : List Int) : List Int := if okHalve xs = true then halvL xs else []
theorem len_mHalveStack (xs : List Int) : (mHalveStack xs).length ≤ 1048576 := by
  unfold mHalveStack
  split
  · rename_i h
    simp only [okHalve, Bool.and_eq_true, goodB_iff] at h
    have := h.1.1.2.1
    rw [halvL_length]; omega
  · simp
theorem pair_of_eq {xs : List Int} (hg : Good xs) (h : doubL (halvL xs) = xs) : xs.length % 2 = 0 ∧ pairTo xs (xs.length / 2) := by
  have hl := congrArg List.length h
  rw [doubL_length, halvL_length] at hl
  refine ⟨by omega, fun i hi => ?_⟩
  have h1 := doubL_pair (halvL xs) i (by rw [halvL_length]; exact hi)
  rw [h, halvL_at xs i hi] at h1
  have ha := hg.bd (show 2 * i < xs.length by omega)
  have hb := hg.bd (show 2 * i + 1 < xs.length by omega)
  have e1 : xs[2 * i]? = some (xs.getD (2 * i) 0) := by rw [getD_eq (by omega), List.getElem?_eq_getElem]
  have e2 : xs[2 * i + 1]? = some (xs.getD (2 * i + 1) 0) := by rw [getD_eq (by omega), List.getElem?_eq_getElem]
  rw [e1, e2] at h1
  refine (dbl_pair ha.1 hb.1).1 ?_
  have hd := dbl_length (halv (xs.getD (2 * i) 0) (xs.getD (2 * i + 1) 0))
  match hm : dbl (halv (xs.getD (2 * i) 0) (xs.getD (2 * i + 1) 0)), hd with
  | [c, d], _ =>
    rw [hm] at h1
    simp only [List.getElem?_cons_zero, List.getElem?_cons_succ, Option.some.injEq] at h1
    rw [h1.1, h1.2]
theorem eq_of_pair {xs : List Int} (hg : Good xs) (h2 : xs.length % 2 = 0) (h : pairTo xs (xs.length / 2)) : doubL (halvL xs) = xs := by
  apply List.ext_getElem?
  intro j
  by_cases hj : j < xs.length
  · have hi : j / 2 < xs.length / 2 := by omega
    have h1 := doubL_pair (halvL xs) (j / 2) (by rw [halvL_length]; exact hi)
    have ha := hg.bd (show 2 * (j / 2) < xs.length by omega)
    have hb := hg.bd (show 2 * (j / 2) + 1 < xs.length by omega)
    rw [halvL_at xs _ hi, (dbl_pair ha.1 hb.1).2 (h _ hi)] at h1
    have e1 : xs[2 * (j / 2)]? = some (xs.getD (2 * (j / 2)) 0) := by rw [getD_eq (by omega), List.getElem?_eq_getElem]
    have e2 : xs[2 * (j / 2) + 1]? = some (xs.getD (2 * (j / 2) + 1) 0) := by rw [getD_eq (by omega), List.getElem?_eq_getElem]
    rcases Nat.mod_two_eq_zero_or_one j with hm | hm
    · have e : 2 * (j / 2) = j := by omega
      rw [e] at h1 e1
      rw [h1.1, e1]
      rfl
    · have e : 2 * (j / 2) + 1 = j := by omega
      rw [e] at h1 e2
      rw [h1.2, e2]
      rfl
  · rw [List.getElem?_eq_none (by rw [doubL_length, halvL_length]; omega), List.getElem?_eq_none (by omega)]
theorem abs_halv {a b : Int} (ha : 1 ≤ a) (hb : 1 ≤ b) (h : pairOk a b) : (b < a ∧ a = 2 * absI (halv a b)) ∨ (a < b ∧ b = 2 * absI (halv a b)) := by
  unfold pairOk at h
  rw [absI_eq]
  by_cases hl : b < a
  · left
    rw [halv_hi hl (by omega)]
    omega
  · right
    rw [halv_lo hl]
    omega
theorem burnt_halv {xs : List Int} (hg : Good xs) (h2 : xs.length % 2 = 0) (h : pairTo xs (xs.length / 2)) : Burnt (halvL xs) := by
  have h1 := hg.1
  have h9 := hg.2.1
  have hat : ∀ i, i < xs.length / 2 → ∃ p, p < xs.length ∧ p / 2 = i ∧ xs.getD p 0 = 2 * absI (halv (xs.getD (2 * i) 0) (xs.getD (2 * i + 1) 0)) := by
    intro i hi
    have ha := hg.bd (show 2 * i < xs.length by omega)
    have hb := hg.bd (show 2 * i + 1 < xs.length by omega)
    rcases abs_halv ha.1 hb.1 (h i hi) with ⟨_, e⟩ | ⟨_, e⟩
    · exact ⟨2 * i, by omega, by omega, e⟩
    · exact ⟨2 * i + 1, by omega, by omega, e⟩
  have hlen : (absL (halvL xs)).length = xs.length / 2 := by rw [absL_length, halvL_length]
  refine ⟨by rw [hlen]; omega, by rw [hlen]; omega, fun x hx => ?_, ?_⟩
  · obtain ⟨i, hi, e⟩ := List.getElem_of_mem hx
    rw [hlen] at hi
    have e2 : x = absI (halv (xs.getD (2 * i) 0) (xs.getD (2 * i + 1) 0)) := by
      rw [← e]; simp only [absL, List.getElem_map]; rw [halvL_at xs i hi]
    obtain ⟨p, hp, _, e3⟩ := hat i hi
    have := hg.bd hp
    rw [hlen, e2]
    omega
  · refine List.pairwise_iff_getElem.2 fun i j hi hj hij e => ?_
    rw [hlen] at hi hj
    simp only [absL, List.getElem_map] at e
    rw [halvL_at xs i hi, halvL_at xs j hj] at e
    obtain ⟨p, hp, hpi, e1⟩ := hat i hi
    obtain ⟨q, hq, hqj, e2⟩ := hat j hj
    have hpq : xs.getD p 0 = xs.getD q 0 := by rw [e1, e2, e]
    have hlt : p < q := by omega
    exact hg.ne hlt hq hpq
/-- what the program looks at, and what the document asks -/
theorem half_ok {xs : List Int} (hg : goodB xs = true) : decide (mDoubleStack (halvL xs) = xs) = okHalve xs := by
  have hG := goodB_iff.1 hg
  unfold okHalve
  rw [hg, Bool.true_and, Bool.eq_iff_iff, decide_eq_true_iff, Bool.and_eq_true, decide_eq_true_iff, decide_eq_true_iff]
  constructor
  · intro h
    unfold mDoubleStack at h
    split at h
    · exact pair_of_eq hG h
    · rw [← h] at hG
      have := hG.1
      simp at this
  · rintro ⟨h2, hp⟩
    unfold mDoubleStack
    rw [if_pos (okDouble_iff.2 ⟨burnt_halv hG h2 hp, by rw [halvL_length]; have := hG.2.1; omega⟩)]
    exact eq_of_pair hG h2 hp

-- the greedy plan of burnt stacks
def topTo (xs : List Int) (m : Nat) : List Int := if 1 < placeL (absL xs) m then [placeL (absL xs) m] else []
def sideTo (xs : List Int) (m : Nat) : List Int := if 0 < (bplayL xs (topTo xs m)).getD 0 0 then [1] else []
def downB (xs : List Int) (m : Nat) : List Int := if xs.getD (m - 1) 0 = m then [] else topTo xs m ++ sideTo xs m ++ [(m : Int)]
theorem downB_length (xs : List Int) (m : Nat) : (downB xs m).length ≤ 3 := by
  unfold downB topTo sideTo
  split
  · simp
  · split <;> split <;> simp
def bgrTo (xs : List Int) : Nat → List Int
  | 0 => []
  | j + 1 => bgrTo xs j ++ downB (bplayL xs (bgrTo xs j)) (xs.length - j)
theorem bgrTo_length (xs : List Int) (j : Nat) : (bgrTo xs j).length ≤ 3 * j := by
  induction j with
  | zero => simp [bgrTo]
  | succ j ih =>
    have := downB_length (bplayL xs (bgrTo xs j)) (xs.length - j)
    simp only [bgrTo, List.length_append]
    omega
def mBurntGreedy (xs : List Int) : List Int := if burntB xs = true then bgrTo xs xs.length else []
theorem len_mBurntGreedy (xs : List Int) : (mBurntGreedy xs).length ≤ 1048576 := by
  unfold mBurntGreedy
  split
  · rename_i h; have h1 := bgrTo_length xs xs.length; have := (burntB_iff.1 h).len; omega
  · simp
theorem Burnt.has {xs : List Int} (h : Burnt xs) {m : Nat} (h1 : 1 ≤ m) (h2 : m ≤ xs.length) : (m : Int) ∈ absL xs :=
  mem_of_good h (by omega) (by rw [absL_length]; omega)
theorem topTo_bd {xs : List Int} (h : Burnt xs) {m : Nat} (h1 : 1 ≤ m) (h2 : m ≤ xs.length) : ∀ k ∈ topTo xs m, 1 ≤ k ∧ k ≤ (xs.length : Int) := by
  have := placeL_bd (h.has h1 h2)
  rw [absL_length] at this
  intro k hk
  unfold topTo at hk
  split at hk
  · simp at hk; omega
  · cases hk
theorem downB_bd {xs : List Int} (h : Burnt xs) {m : Nat} (h1 : 1 ≤ m) (h2 : m ≤ xs.length) : ∀ k ∈ downB xs m, 1 ≤ k ∧ k ≤ (xs.length : Int) := by
  intro k hk
  unfold downB at hk
  split at hk
  · cases hk
  · rcases List.mem_append.1 hk with hk | hk
    · rcases List.mem_append.1 hk with hk | hk
      · exact topTo_bd h h1 h2 k hk
      · unfold sideTo at hk
        split at hk
        · simp at hk; have := h.len; omega
        · cases hk
    · simp at hk; omega
/-- the place among nine cells, the last ones 0 -/
theorem place_pad {ys : List Int} {x : Int} (n : Nat) (h : x ∈ ys) : placeL (ys ++ List.replicate n 0) x = placeL ys x := by
  rw [placeL_of_mem h, placeL_of_mem (List.mem_append_left _ h), List.idxOf_append, if_pos h]
theorem sides_pad {xs : List Int} (h : Burnt xs) (n : Nat) : sidesL (xs ++ List.replicate n 0) = absL xs ++ List.replicate n 0 := by
  unfold sidesL
  rw [List.map_append, List.map_replicate]
  rw [show xs.map sizeW = absL xs from sides_burnt h, show sizeW 0 = 0 from by rw [sizeW_small (by omega) (by omega)]; rfl]

end Go.Pan

