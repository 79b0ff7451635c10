import Derived.Test.YtfcbaegkppkfkaaRwN
import Derived.Test.YtfcbaegkppkfkaaMc
import Derived.Test.YtfcbaegkppkfkaaMd
namespace Go.Pan
open Go Go.RowKit
/-- a size goes up through the rows i - 1, .., 0: in each it takes the place of the greatest less one -/
def upR : Nat → List (List Int) → Int → List (List Int) × Int
  | 0, T, x => (T, x)
  | i + 1, T, x => upR i (T.set i ((T.getD i []).set (hitP (T.getD i []) x - 1) x)) ((T.getD i []).getD (hitP (T.getD i []) x - 1) 0)
/-- the last box of row k is taken out -/
def outR (T : List (List Int)) (k : Nat) : List (List Int) × Int := upR k (T.set k (T.getD k []).dropLast) (topP (T.getD k []))
/-- the row in which a place is -/
def rowP (P : List (List Int)) (p : Int) : Nat := P.findIdx fun b => b.contains p
def backT (R P : List (List Int)) (n : Nat) : Nat → List (List Int)
  | 0 => R
  | q + 1 => (outR (backT R P n q) (rowP P ((n - q : Nat) : Int))).1
def outV (R P : List (List Int)) (n q : Nat) : Int := (outR (backT R P n q) (rowP P ((n - q : Nat) : Int))).2
def okSR (R P : List (List Int)) : Bool := mAreRows R && (mAreRows P && decide (lensL R = lensL P))
/-- the numbers at the end, the last q of which are there -/
def partS (R P : List (List Int)) (n q : Nat) : List Int := (List.range n).map fun i => if n ≤ i + q then outV R P n (n - 1 - i) else 0
def mStackOfRows (R P : List (List Int)) : List Int := if okSR R P = true then partS R P (pre R R.length) (pre R R.length) else []

theorem getD_atL {T : List (List Int)} {i : Nat} (h : i < T.length) : T.getD i [] = T[i] := by simp [h]
theorem atR_at {T : List (List Int)} {i j : Nat} (hj : j < (T.getD i []).length) : (T.getD i [])[j] = atR T i j := by
  unfold atR
  revert hj
  generalize T.getD i [] = r
  intro hj
  simp [hj]
theorem getL_set_same {T : List (List Int)} {i : Nat} (h : i < T.length) (r : List Int) : (T.set i r).getD i [] = r := by simp [List.getD_eq_getElem?_getD, h]
theorem getL_set_ne {T : List (List Int)} {i a : Nat} (h : i ≠ a) (r : List Int) : (T.set i r).getD a [] = T.getD a [] := by simp [List.getD_eq_getElem?_getD, List.getElem?_set_ne h]
theorem row_lt {T : List (List Int)} {a j : Nat} (h : j < (T.getD a []).length) : a < T.length := by
  rcases Nat.lt_or_ge a T.length with h2 | h2
  · exact h2
  · rw [List.getD_eq_getElem?_getD, List.getElem?_eq_none h2] at h; simp at h
theorem flat_set {T : List (List Int)} {i : Nat} (h : i < T.length) (r : List Int) : T.flatten = (T.take i).flatten ++ (T[i] ++ (T.drop (i + 1)).flatten) ∧ (T.set i r).flatten = (T.take i).flatten ++ (r ++ (T.drop (i + 1)).flatten) := by
  constructor
  · conv => lhs; rw [← List.take_append_drop i T, List.drop_eq_getElem_cons h, List.flatten_append, List.flatten_cons]
  · rw [List.set_eq_take_append_cons_drop, if_pos h, List.flatten_append, List.flatten_cons]
theorem hitP_gt {r : List Int} {x : Int} (hr : r.Pairwise (· < ·)) {j : Nat} (hj : j < r.length) (h : r[j] < x) : j < hitP r x := by
  rcases Nat.lt_or_ge j (hitP r x) with h2 | h2
  · exact h2
  · exfalso
    have hk : hitP r x < r.length := by omega
    have h3 := hitP_ge hk
    rcases Nat.lt_or_ge (hitP r x) j with h4 | h4
    · have := (List.pairwise_iff_getElem.1 hr) _ _ hk hj h4
      omega
    · have e : hitP r x = j := by omega
      simp only [e] at h3
      exact h3 h
structure TabOk (T : List (List Int)) : Prop where
  up : ∀ a, (T.getD a []).Pairwise (· < ·)
  col : ∀ a j, j < (T.getD (a + 1) []).length → j < (T.getD a []).length ∧ atR T a j < atR T (a + 1) j
  nd : T.flatten.Nodup
structure UpOk (i : Nat) (T : List (List Int)) (x : Int) : Prop where
  up : ∀ a, (T.getD a []).Pairwise (· < ·)
  col : ∀ a j, j < (T.getD (a + 1) []).length → j < (T.getD a []).length ∧ atR T a j < atR T (a + 1) j
  nd : (x :: T.flatten).Nodup
  hi : i ≤ T.length
  j : 0 < i → ∃ j', j' < (T.getD (i - 1) []).length ∧ atR T (i - 1) j' < x ∧ ∀ jj, j' ≤ jj → jj < (T.getD i []).length → x < atR T i jj
theorem atR_set {T : List (List Int)} {i a j : Nat} (h : i < T.length) (r : List Int) : atR (T.set i r) a j = if i = a then r.getD j 0 else atR T a j := by
  unfold atR
  split
  · rename_i e; subst e; rw [getL_set_same h]
  · rename_i e; rw [getL_set_ne e]
theorem UpOk.hit {i : Nat} {T : List (List Int)} {x : Int} (h : UpOk (i + 1) T x) : 0 < hitP (T.getD i []) x ∧ hitP (T.getD i []) x ≤ (T.getD i []).length := by
  obtain ⟨j', h1, h2, _⟩ := h.j (by omega)
  simp only [Nat.add_sub_cancel] at h1 h2
  have := hitP_gt (x := x) (h.up i) h1 (by rw [atR_at h1]; exact h2)
  exact ⟨by omega, hitP_le _ _⟩
theorem UpOk.step {i : Nat} {T : List (List Int)} {x : Int} (h : UpOk (i + 1) T x) :
    UpOk i (T.set i ((T.getD i []).set (hitP (T.getD i []) x - 1) x)) ((T.getD i []).getD (hitP (T.getD i []) x - 1) 0) := by
  obtain ⟨hk0, hkl⟩ := h.hit
  obtain ⟨j', h1, h2, h3⟩ := h.j (by omega)
  simp only [Nat.add_sub_cancel] at h1 h2 h3
  have hiT : i < T.length := by have := h.hi; omega
  have hup := h.up i
  have hj'k := hitP_gt (x := x) hup h1 (by rw [atR_at h1]; exact h2)
  obtain ⟨k, hk⟩ : ∃ k, hitP (T.getD i []) x = k + 1 := ⟨hitP (T.getD i []) x - 1, by omega⟩
  obtain ⟨r, hr⟩ : ∃ r, T.getD i [] = r := ⟨_, rfl⟩
  have hlt : ∀ q (hq : q < r.length), q < k + 1 → r[q] < x := by rw [← hr, ← hk]; exact fun q hq h => hitP_lt q hq h
  have hge : ∀ hq : k + 1 < r.length, ¬ r[k + 1] < x := by
    intro hq
    have hk' : hitP r x = k + 1 := by rw [← hr]; exact hk
    have := hitP_ge (r := r) (x := x) (by rw [hk']; exact hq)
    simp only [hk'] at this
    exact this
  have hat : ∀ q, q < r.length → atR T i q = r.getD q 0 := fun q _ => by unfold atR; rw [hr]
  have hget : ∀ q (hq : q < r.length), r.getD q 0 = r[q] := fun q hq => by rw [List.getD_eq_getElem?_getD, List.getElem?_eq_getElem hq]; rfl
  rw [hk] at hkl hj'k ⊢
  rw [hr] at hkl h1 hup ⊢
  simp only [Nat.add_sub_cancel]
  have hkr : k < r.length := by omega
  have hpw := List.pairwise_iff_getElem.1 hup
  have hyx := hlt k hkr (by omega)
  have hri : T[i] = r := by rw [← getD_atL hiT]; exact hr
  have hxr : x ∉ r := fun e => by
    have hn := h.nd
    rw [List.nodup_cons, (flat_set hiT []).1, hri] at hn
    exact hn.1 (List.mem_append_right _ (List.mem_append_left _ e))
  have hgt : ∀ q (hq : q < r.length), k < q → x < r[q] := by
    intro q hq hkq
    have h5 : k + 1 < r.length := by omega
    have h6 := hge h5
    have h7 : r[k + 1] ≠ x := fun e => hxr (by rw [← e]; exact List.getElem_mem h5)
    rcases Nat.lt_or_ge (k + 1) q with h8 | h8
    · have := hpw _ _ h5 hq h8; omega
    · have e : q = k + 1 := by omega
      subst e; omega
  have hset : ∀ q (hq : q < r.length), (r.set k x)[q]'(by simpa using hq) = if k = q then x else r[q] := fun q hq => by rw [List.getElem_set]
  have hsetD : ∀ q, q < r.length → ∀ hq : q < r.length, (r.set k x).getD q 0 = if k = q then x else r[q] := fun q _ hq => by
    have hq' : q < (r.set k x).length := by simpa using hq
    rw [List.getD_eq_getElem?_getD, List.getElem?_eq_getElem hq', Option.getD_some, hset q hq]
  rw [hget k hkr]
  refine ⟨fun a => ?_, fun a j hj => ?_, ?_, by rw [List.length_set]; omega, fun hi0 => ⟨k, ?_, ?_, fun jj hjj hl => ?_⟩⟩
  · by_cases e : i = a
    · subst e
      rw [getL_set_same hiT, List.pairwise_iff_getElem]
      intro p q hp hq hpq
      rw [List.length_set] at hp hq
      rw [hset p hp, hset q hq]
      split
      · rename_i e; rw [if_neg (by omega)]; exact hgt q hq (by omega)
      · split
        · rename_i e1 e; exact hlt p hp (by omega)
        · exact hpw p q hp hq hpq
    · rw [getL_set_ne e]; exact h.up a
  · rw [atR_set hiT, atR_set hiT]
    by_cases e1 : i = a + 1
    · rw [← e1, getL_set_same hiT, List.length_set] at hj
      obtain ⟨c1, c2⟩ := h.col a j (by rw [← e1, hr]; exact hj)
      rw [← e1, hat j hj, hget j hj] at c2
      rw [getL_set_ne (by omega), if_neg (by omega), if_pos e1, hsetD j hj hj]
      refine ⟨c1, ?_⟩
      split
      · rename_i e; subst e; omega
      · exact c2
    · rw [getL_set_ne e1] at hj
      obtain ⟨c1, c2⟩ := h.col a j hj
      rw [if_neg e1]
      by_cases e2 : i = a
      · subst e2
        rw [hr] at c1
        rw [getL_set_same hiT, List.length_set, if_pos rfl, hsetD j c1 c1]
        refine ⟨c1, ?_⟩
        split
        · rename_i e; subst e; exact h3 k (by omega) hj
        · rw [hat j c1, hget j c1] at c2; exact c2
      · rw [getL_set_ne e2, if_neg e2]; exact ⟨c1, c2⟩
  · have hp : (r[k] :: (T.set i (r.set k x)).flatten).Perm (x :: T.flatten) := by
      obtain ⟨f1, f2⟩ := flat_set hiT (r.set k x)
      rw [f1, f2, hri, List.perm_iff_count]
      intro a
      have := (List.perm_iff_count.1 (set_perm (x := x) hkr [])) a
      simp only [List.count_append, List.count_cons, List.count_nil] at this ⊢
      omega
    exact hp.nodup_iff.2 h.nd
  · obtain ⟨i0, rfl⟩ : ∃ i0, i = i0 + 1 := ⟨i - 1, by omega⟩
    rw [getL_set_ne (by omega)]
    exact (h.col i0 k (by rw [hr]; exact hkr)).1
  · obtain ⟨i0, rfl⟩ : ∃ i0, i = i0 + 1 := ⟨i - 1, by omega⟩
    have := (h.col i0 k (by rw [hr]; exact hkr)).2
    rw [hat k hkr, hget k hkr] at this
    rw [atR_set hiT, if_neg (by omega)]
    exact this
  · rw [getL_set_same hiT, List.length_set] at hl
    rw [atR_set hiT, if_pos rfl, hsetD jj hl hl]
    split
    · exact hyx
    · exact hpw k jj hkr hl (by omega)
theorem UpOk.tab {T : List (List Int)} {x : Int} (h : UpOk 0 T x) : TabOk T := ⟨h.up, h.col, (List.nodup_cons.1 h.nd).2⟩
theorem TabOk.start {T : List (List Int)} {k : Nat} (h : TabOk T) (h0 : 0 < (T.getD k []).length) (hc : (T.getD (k + 1) []).length < (T.getD k []).length) : UpOk k (T.set k (T.getD k []).dropLast) (topP (T.getD k [])) := by
  have hkT : k < T.length := row_lt h0
  obtain ⟨r, hr⟩ : ∃ r, T.getD k [] = r := ⟨_, rfl⟩
  rw [hr] at h0 hc ⊢
  have hri : T[k] = r := by rw [← getD_atL hkT]; exact hr
  have hup := h.up k
  rw [hr] at hup
  obtain ⟨c, hcl⟩ : ∃ c, r.length = c + 1 := ⟨r.length - 1, by omega⟩
  have hx : topP r = r[c] := by rw [topP_at h0]; simp only [hcl, Nat.add_sub_cancel]
  have hdl : r.dropLast.length = c := by simp [hcl]
  have hdg : ∀ q, q < c → r.dropLast.getD q 0 = r.getD q 0 := fun q hq => by
    rw [List.getD_eq_getElem?_getD, List.getD_eq_getElem?_getD, List.getElem?_eq_getElem (by omega), List.getElem?_eq_getElem (by omega), List.getElem_dropLast]
  have hat : ∀ q, atR T k q = r.getD q 0 := fun q => by unfold atR; rw [hr]
  refine ⟨fun a => ?_, fun a j hj => ?_, ?_, by rw [List.length_set]; omega, fun hk0 => ⟨c, ?_, ?_, fun jj hjj hl => ?_⟩⟩
  · by_cases e : k = a
    · subst e
      rw [getL_set_same hkT]
      exact hup.sublist (List.dropLast_sublist r)
    · rw [getL_set_ne e]; exact h.up a
  · rw [atR_set hkT, atR_set hkT]
    by_cases e1 : k = a + 1
    · rw [← e1, getL_set_same hkT, hdl] at hj
      obtain ⟨c1, c2⟩ := h.col a j (by rw [← e1, hr]; omega)
      rw [getL_set_ne (by omega), if_neg (by omega), if_pos e1, hdg j hj]
      rw [← e1, hat] at c2
      exact ⟨c1, c2⟩
    · rw [getL_set_ne e1] at hj
      obtain ⟨c1, c2⟩ := h.col a j hj
      rw [if_neg e1]
      by_cases e2 : k = a
      · subst e2
        rw [getL_set_same hkT, hdl, if_pos rfl, hdg j (by omega)]
        rw [hat] at c2
        exact ⟨by omega, c2⟩
      · rw [getL_set_ne e2, if_neg e2]; exact ⟨c1, c2⟩
  · have hp : (topP r :: (T.set k r.dropLast).flatten).Perm T.flatten := by
      obtain ⟨f1, f2⟩ := flat_set hkT r.dropLast
      rw [f1, f2, hri, List.perm_iff_count]
      intro a
      have e : r = r.dropLast ++ [topP r] := by
        have hne : r ≠ [] := by intro e; rw [e] at h0; simp at h0
        have := List.dropLast_concat_getLast hne
        rw [List.getLast_eq_getElem] at this
        rw [topP_at h0]
        exact this.symm
      have h9 : List.count a r = List.count a r.dropLast + List.count a [topP r] := by conv => lhs; rw [e, List.count_append]
      simp only [List.count_append, List.count_cons, List.count_nil] at h9 ⊢
      omega
    exact hp.nodup_iff.2 h.nd
  · obtain ⟨i0, rfl⟩ : ∃ i0, k = i0 + 1 := ⟨k - 1, by omega⟩
    rw [getL_set_ne (by omega)]
    exact (h.col i0 c (by rw [hr]; omega)).1
  · obtain ⟨i0, rfl⟩ : ∃ i0, k = i0 + 1 := ⟨k - 1, by omega⟩
    have := (h.col i0 c (by rw [hr]; omega)).2
    rw [hat, List.getD_eq_getElem?_getD, List.getElem?_eq_getElem (by omega), Option.getD_some] at this
    rw [atR_set hkT, if_neg (by omega), hx]
    exact this
  · rw [getL_set_same hkT, hdl] at hl
    omega
theorem upR_ok : ∀ (i : Nat) (T : List (List Int)) (x : Int), UpOk i T x → TabOk (upR i T x).1 ∧ (upR i T x).1.length = T.length ∧ ∀ a, ((upR i T x).1.getD a []).length = (T.getD a []).length
  | 0, T, x, h => ⟨h.tab, rfl, fun _ => rfl⟩
  | i + 1, T, x, h => by
    obtain ⟨h1, h2, h3⟩ := upR_ok i _ _ h.step
    refine ⟨h1, by rw [show (upR (i + 1) T x).1.length = _ from h2, List.length_set], fun a => ?_⟩
    rw [show ((upR (i + 1) T x).1.getD a []).length = _ from h3 a]
    by_cases e : i = a
    · subst e; rw [getL_set_same (by have := h.hi; omega), List.length_set]
    · rw [getL_set_ne e]

end Go.Pan

namespace Go.Pan
open Go Go.RowKit
theorem rise_of {r : List Int} (h : ∀ j (hj : j + 1 < r.length), r[j] ≤ r[j + 1]) (hn : r.Nodup) : r.Pairwise (· < ·) := by
  have key : ∀ d i (hi : i + d + 1 < r.length), r[i] ≤ r[i + d + 1] := by
    intro d
    induction d with
    | zero => intro i hi; exact h i hi
    | succ d ih =>
      intro i hi
      have h1 := ih i (by omega)
      have h2 := h (i + d + 1) (by omega)
      have e : i + (d + 1) + 1 = i + d + 1 + 1 := by omega
      simp only [e]
      omega
  rw [List.pairwise_iff_getElem]
  intro i j hi hj hij
  obtain ⟨d, rfl⟩ : ∃ d, j = i + d + 1 := ⟨j - i - 1, by omega⟩
  have h1 := key d i hj
  have h2 : r[i] ≠ r[i + d + 1] := (List.pairwise_iff_getElem.1 hn) _ _ hi hj (by omega)
  omega
theorem rows_apart {T : List (List Int)} (h : T.flatten.Nodup) {a b : Nat} (hab : a ≠ b) {x : Int} (ha : x ∈ T.getD a []) : x ∉ T.getD b [] := by
  intro hb
  have haT : a < T.length := by
    rcases Nat.lt_or_ge a T.length with h2 | h2
    · exact h2
    · rw [List.getD_eq_getElem?_getD, List.getElem?_eq_none h2] at ha; simp at ha
  have hbT : b < T.length := by
    rcases Nat.lt_or_ge b T.length with h2 | h2
    · exact h2
    · rw [List.getD_eq_getElem?_getD, List.getElem?_eq_none h2] at hb; simp at hb
  rw [getD_atL haT] at ha
  rw [getD_atL hbT] at hb
  have hp := (List.pairwise_flatten.1 h).2
  rw [List.pairwise_iff_getElem] at hp
  rcases Nat.lt_or_ge a b with hlt | hge
  · exact hp a b haT hbT hlt x ha x hb rfl
  · exact hp b a hbT haT (by omega) x hb x ha rfl
theorem row_nodup {T : List (List Int)} (h : T.flatten.Nodup) (a : Nat) : (T.getD a []).Nodup := by
  rcases Nat.lt_or_ge a T.length with h2 | h2
  · rw [getD_atL h2]
    exact (List.pairwise_flatten.1 h).1 _ (List.getElem_mem h2)
  · rw [List.getD_eq_getElem?_getD, List.getElem?_eq_none h2]; simp
theorem mem_row {T : List (List Int)} {a : Nat} {x : Int} (h : x ∈ T.getD a []) : a < T.length ∧ x ∈ T.flatten := by
  have haT : a < T.length := by
    rcases Nat.lt_or_ge a T.length with h2 | h2
    · exact h2
    · rw [List.getD_eq_getElem?_getD, List.getElem?_eq_none h2] at h; simp at h
  rw [getD_atL haT] at h
  exact ⟨haT, List.mem_flatten.2 ⟨_, List.getElem_mem haT, h⟩⟩
structure TabG (R : List (List Int)) : Prop where
  tab : TabOk R
  good : Good R.flatten
  few : 1 ≤ R.length ∧ R.length ≤ 9
  full : ∀ r ∈ R, 1 ≤ r.length
theorem tab_of {R : List (List Int)} (h : mAreRows R = true) : TabG R := by
  unfold mAreRows at h
  simp only [Bool.and_eq_true] at h
  obtain ⟨h1, h2, h3⟩ := h
  have hg := goodB_iff.1 h2
  have hs := shpB_iff.1 h1
  have hb : ∀ k, k < R.length → ∀ j, j < (R.getD k []).length → badR R k j = false := of_decide_eq_true h3
  have hl : R.length ≤ 9 := lens_few h1
  have hnd := hg.2.2.2
  refine ⟨⟨fun a => ?_, fun a j hj => ?_, hnd⟩, hg, ⟨by have := hs.1; simpa [lensL] using this, hl⟩, fun r hr => ?_⟩
  · rcases Nat.lt_or_ge a R.length with ha | ha
    · refine rise_of (fun j hj => ?_) (row_nodup hnd a)
      have := hb a ha (j + 1) hj
      unfold badR at this
      simp only [Bool.or_eq_false_iff, Bool.and_eq_false_imp, decide_eq_true_eq, decide_eq_false_iff_not] at this
      have h4 := this.1 (by omega)
      simp only [Nat.add_sub_cancel] at h4
      rw [atR_at (by omega), atR_at hj]
      omega
    · rw [List.getD_eq_getElem?_getD, List.getElem?_eq_none ha]; simp
  · have ha : a + 1 < R.length := row_lt hj
    have hle := lens_le h1 ha (by omega)
    simp only [Nat.add_sub_cancel] at hle
    rw [← getD_atL ha, ← getD_atL (show a < R.length by omega)] at hle
    have hj' : j < (R.getD a []).length := by omega
    refine ⟨hj', ?_⟩
    have := hb (a + 1) ha j hj
    unfold badR at this
    simp only [Bool.or_eq_false_iff, Bool.and_eq_false_imp, decide_eq_true_eq, decide_eq_false_iff_not] at this
    have h4 := this.2 (by omega)
    simp only [Nat.add_sub_cancel] at h4
    have h5 : atR R a j ≠ atR R (a + 1) j := fun e => by
      have m1 : atR R a j ∈ R.getD a [] := by rw [← atR_at hj']; exact List.getElem_mem hj'
      have m2 : atR R (a + 1) j ∈ R.getD (a + 1) [] := by rw [← atR_at hj]; exact List.getElem_mem hj
      exact rows_apart hnd (show a ≠ a + 1 by omega) m1 (by rw [e]; exact m2)
    omega
  · have := (hs.2.2.1 (r.length : Int) (List.mem_map.2 ⟨r, hr, rfl⟩)).1
    omega
theorem hit_all {r : List Int} {x : Int} (h : ∀ y ∈ r, y < x) : hitP r x = r.length := hitP_eq (Nat.le_refl _) (fun i hi _ => h _ (List.getElem_mem hi)) (fun hj => by omega)
theorem hit_in {r : List Int} {p : Int} (hr : r.Pairwise (· < ·)) (hp : p ∈ r) : hitP r (p + 1) = hitP r p + 1 := by
  obtain ⟨i, hi, rfl⟩ := List.mem_iff_getElem.1 hp
  have hpw := List.pairwise_iff_getElem.1 hr
  have e1 : hitP r r[i] = i := hitP_eq (by omega) (fun j hj h => hpw j i hj hi h) (fun _ => by omega)
  have e2 : hitP r (r[i] + 1) = i + 1 := hitP_eq (by omega) (fun j hj h => by
    rcases Nat.lt_or_ge j i with h2 | h2
    · have := hpw j i hj hi h2; omega
    · have e : j = i := by omega
      subst e; omega) (fun hj => by have := hpw i (i + 1) hi hj (by omega); omega)
  rw [e1, e2]
theorem hit_out {r : List Int} {p : Int} (hp : p ∉ r) : hitP r (p + 1) = hitP r p := by
  refine hitP_eq (hitP_le r p) (fun j hj h => by have := hitP_lt (r := r) (x := p) j hj h; omega) (fun hj => ?_)
  have h1 := hitP_ge hj
  have h2 : r[hitP r p] ≠ p := fun e => hp (by rw [← e]; exact List.getElem_mem hj)
  omega
theorem rowP_in {P : List (List Int)} (hg : Good P.flatten) {p : Nat} (h1 : 1 ≤ p) (hn : p ≤ P.flatten.length) : rowP P p < P.length ∧ (p : Int) ∈ P.getD (rowP P p) [] := by
  have hm : (p : Int) ∈ P.flatten := all_of_nodup _ hg.2.2.1 hg.2.2.2 _ (by omega) (by omega)
  obtain ⟨b, hb, hpb⟩ := List.mem_flatten.1 hm
  have hl : rowP P p < P.length := List.findIdx_lt_length_of_exists ⟨b, hb, by simpa using hpb⟩
  refine ⟨hl, ?_⟩
  have := List.findIdx_getElem (w := hl)
  rw [getD_atL hl]
  simp only [List.contains_iff_mem] at this
  exact this
theorem rowP_only {P : List (List Int)} (hg : Good P.flatten) {p : Nat} (h1 : 1 ≤ p) (hn : p ≤ P.flatten.length) {a : Nat} : (p : Int) ∈ P.getD a [] ↔ a = rowP P p := by
  have h := (rowP_in hg h1 hn).2
  constructor
  · intro ha
    by_cases e : a = rowP P p
    · exact e
    · exact absurd h (rows_apart hg.2.2.2 e ha)
  · rintro rfl; exact h
/-- the rows when the places up to m are left -/
structure Jb (R P T : List (List Int)) (m : Nat) : Prop where
  tab : TabOk T
  len : T.length = R.length
  row : ∀ a, (T.getD a []).length = hitP (P.getD a []) ((m : Int) + 1)
theorem Jb.start {R P : List (List Int)} (hR : TabG R) (hP : TabG P) (hl : lensL R = lensL P) : Jb R P R P.flatten.length := by
  refine ⟨hR.tab, rfl, fun a => ?_⟩
  have hll : R.length = P.length := by have := congrArg List.length hl; simpa [lensL] using this
  rw [hit_all (fun y hy => by have := (hP.good.2.2.1 y (mem_row hy).2).2; omega)]
  rcases Nat.lt_or_ge a R.length with ha | ha
  · have e := congrArg (fun l => l.getD a 0) hl
    simp [lensL, List.getD_eq_getElem?_getD, ha, show a < P.length by omega] at e
    rw [getD_atL ha, getD_atL (by omega)]
    omega
  · rw [List.getD_eq_getElem?_getD, List.getElem?_eq_none ha, List.getD_eq_getElem?_getD, List.getElem?_eq_none (by omega)]
theorem Jb.row_k {R P T : List (List Int)} {m : Nat} (h : Jb R P T (m + 1)) (hP : TabG P) (hn : m + 1 ≤ P.flatten.length) :
    (T.getD (rowP P (m + 1 : Nat)) []).length = hitP (P.getD (rowP P (m + 1 : Nat)) []) ((m : Int) + 1) + 1 := by
  have hm := (rowP_in hP.good (show 1 ≤ m + 1 by omega) hn).2
  rw [h.row, hit_in (hP.tab.up _) hm]
  push_cast
  rfl
theorem Jb.up {R P T : List (List Int)} {m : Nat} (h : Jb R P T (m + 1)) (hP : TabG P) (hn : m + 1 ≤ P.flatten.length) :
    UpOk (rowP P (m + 1 : Nat)) (T.set (rowP P (m + 1 : Nat)) (T.getD (rowP P (m + 1 : Nat)) []).dropLast) (topP (T.getD (rowP P (m + 1 : Nat)) [])) := by
  have h1 := h.row_k hP hn
  obtain ⟨k, hk⟩ : ∃ k, rowP P (m + 1 : Nat) = k := ⟨_, rfl⟩
  have honly := fun a => rowP_only (a := a) hP.good (show 1 ≤ m + 1 by omega) hn
  rw [hk] at h1 ⊢
  refine h.tab.start (by omega) ?_
  have h2 := h.row (k + 1)
  have hno : ((m + 1 : Nat) : Int) ∉ P.getD (k + 1) [] := fun e => by have := (honly (k + 1)).1 e; omega
  rw [hit_out hno] at h2
  obtain ⟨c, hc⟩ : ∃ c, hitP (P.getD (k + 1) []) ((m + 1 : Nat) : Int) = c := ⟨_, rfl⟩
  rw [hc] at h2
  rw [h1, h2]
  rcases Nat.eq_zero_or_pos c with h0 | h0
  · omega
  · have hcl : c ≤ (P.getD (k + 1) []).length := by rw [← hc]; exact hitP_le _ _
    have h3 := hitP_lt (r := P.getD (k + 1) []) (x := ((m + 1 : Nat) : Int)) (c - 1) (by omega) (by omega)
    obtain ⟨h4, h5⟩ := hP.tab.col k (c - 1) (by omega)
    rw [atR_at (by omega)] at h3
    have h6 := hitP_gt (x := (m : Int) + 1) (hP.tab.up k) h4 (by rw [atR_at h4]; omega)
    omega
theorem Jb.next {R P T : List (List Int)} {m : Nat} (h : Jb R P T (m + 1)) (hP : TabG P) (hn : m + 1 ≤ P.flatten.length) : Jb R P (outR T (rowP P (m + 1 : Nat))).1 m := by
  have hu := h.up hP hn
  have h1 := h.row_k hP hn
  have honly := fun a => rowP_only (a := a) hP.good (show 1 ≤ m + 1 by omega) hn
  obtain ⟨k, hk⟩ : ∃ k, rowP P (m + 1 : Nat) = k := ⟨_, rfl⟩
  rw [hk] at h1 hu honly ⊢
  obtain ⟨h2, h3, h4⟩ := upR_ok _ _ _ hu
  have hkT : k < T.length := row_lt (show 0 < (T.getD k []).length by omega)
  refine ⟨h2, by rw [show (outR T k).1.length = _ from h3, List.length_set]; exact h.len, fun a => ?_⟩
  rw [show ((outR T k).1.getD a []).length = _ from h4 a]
  by_cases e : k = a
  · subst e
    rw [getL_set_same hkT, List.length_dropLast, h1]
    rfl
  · rw [getL_set_ne e, h.row a, hit_out (fun ha => e ((honly a).1 ha).symm)]
    push_cast
    rfl
theorem backT_ok {R P : List (List Int)} (hR : TabG R) (hP : TabG P) (hl : lensL R = lensL P) : ∀ q, q ≤ P.flatten.length → Jb R P (backT R P P.flatten.length q) (P.flatten.length - q)
  | 0, _ => Jb.start hR hP hl
  | q + 1, hq => by
    have h := backT_ok hR hP hl q (by omega)
    obtain ⟨m, hm⟩ : ∃ m, P.flatten.length - q = m + 1 := ⟨P.flatten.length - q - 1, by omega⟩
    rw [hm] at h
    have := h.next hP (by omega)
    rw [show P.flatten.length - (q + 1) = m by omega]
    simp only [backT, hm]
    exact this
theorem partS_length (R P : List (List Int)) (n q : Nat) : (partS R P n q).length = n := by simp [partS]
theorem partS_zero (R P : List (List Int)) (n : Nat) : partS R P n 0 = List.replicate n 0 := by
  apply List.ext_getElem
  · simp [partS]
  · intro i h1 h2
    simp only [partS, List.getElem_map, List.getElem_range, List.getElem_replicate]
    rw [if_neg (by simp [partS] at h1; omega)]
theorem partS_succ (R P : List (List Int)) {n q : Nat} (h : q < n) : (partS R P n q).set (n - 1 - q) (outV R P n q) = partS R P n (q + 1) := by
  apply List.ext_getElem
  · simp [partS]
  · intro i h1 h2
    have hi : i < n := by simpa [partS] using h2
    rw [List.getElem_set]
    simp only [partS, List.getElem_map, List.getElem_range]
    split
    · rename_i e
      rw [if_pos (by omega), show n - 1 - i = q by omega]
    · rename_i e
      by_cases h3 : n ≤ i + q
      · rw [if_pos h3, if_pos (by omega)]
      · rw [if_neg h3, if_neg (by omega)]

end Go.Pan
