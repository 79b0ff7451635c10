import Derived.Test.YtfcbaegkppkfkaaSS
import Derived.Test.YtfcbaegkppkfkaaM3
namespace Go.Pan
open Go Go.RowKit
/-- the top of a pile; the first pile that takes x; x put on it -/
def topP (r : List Int) : Int := r.getD (r.length - 1) 0
def kP (P : List (List Int)) (x : Int) : Nat := (P.takeWhile fun r => decide (topP r < x)).length
def addP (P : List (List Int)) (x : Int) : List (List Int) := if kP P x < P.length then P.set (kP P x) (P.getD (kP P x) [] ++ [x]) else P ++ [[x]]
def pilesTo (xs : List Int) (k : Nat) : List (List Int) := (xs.take k).foldl addP []
def mPilesOf (xs : List Int) : List (List Int) := if goodB xs = true then pilesTo xs xs.length else []
theorem kP_le (P : List (List Int)) (x : Int) : kP P x ≤ P.length := by
  unfold kP
  induction P with
  | nil => simp
  | cons y l ih =>
    rw [List.takeWhile_cons]
    split
    · simp; exact ih
    · simp
theorem kP_eq {x : Int} : ∀ {P : List (List Int)} {k : Nat}, k ≤ P.length → (∀ j (hj : j < P.length), j < k → topP (P[j]) < x) → (∀ hk : k < P.length, ¬ topP (P[k]) < x) → kP P x = k
  | [], k, hk, _, _ => by simp at hk; subst hk; rfl
  | y :: l, 0, _, _, h2 => by
    have := h2 (by simp)
    simp only [List.getElem_cons_zero] at this
    simp [kP, this]
  | y :: l, k + 1, hk, h1, h2 => by
    have h0 := h1 0 (by simp) (by omega)
    simp only [List.getElem_cons_zero] at h0
    have ih := kP_eq (x := x) (P := l) (k := k) (by simpa using hk) (fun j hj hjk => by have := h1 (j + 1) (by simp; omega) (by omega); simpa using this) (fun hk' => by have := h2 (by simp; omega); simpa using this)
    unfold kP at ih ⊢
    rw [List.takeWhile_cons, if_pos (decide_eq_true h0), List.length_cons, ih]
theorem pilesTo_succ (xs : List Int) (k : Nat) (h : k < xs.length) : pilesTo xs (k + 1) = addP (pilesTo xs k) (xs[k]) := by
  unfold pilesTo
  rw [List.take_succ_eq_append_getElem h, List.foldl_append]
  rfl
def nPiles (P : List (List Int)) : Nat := (P.map List.length).sum
/-- no pile is empty, and so many pancakes lie on them -/
def PilesIn (P : List (List Int)) (k : Nat) : Prop := (∀ r ∈ P, 0 < r.length) ∧ nPiles P = k
theorem nPiles_set : ∀ (P : List (List Int)) (i : Nat) (hi : i < P.length) (r : List Int), r.length = (P[i]).length + 1 → nPiles (P.set i r) = nPiles P + 1
  | [], i, hi, _, _ => by simp at hi
  | y :: l, 0, _, r, h => by simp only [List.getElem_cons_zero] at h; simp [nPiles, h]; omega
  | y :: l, i + 1, hi, r, h => by
    simp only [List.getElem_cons_succ] at h
    have := nPiles_set l i (by simpa using hi) r h
    simp only [nPiles, List.set_cons_succ, List.map_cons, List.sum_cons] at this ⊢
    omega
theorem PilesIn.add {P : List (List Int)} {k : Nat} (h : PilesIn P k) (x : Int) : PilesIn (addP P x) (k + 1) := by
  unfold addP
  split
  · rename_i hk
    have e : P.getD (kP P x) [] = P[kP P x] := by simp [hk]
    refine ⟨fun r hr => ?_, ?_⟩
    · rcases List.mem_or_eq_of_mem_set hr with hr | rfl
      · exact h.1 r hr
      · simp
    · rw [nPiles_set P _ hk _ (by rw [e]; simp), h.2]
  · refine ⟨fun r hr => ?_, ?_⟩
    · rcases List.mem_append.1 hr with hr | hr
      · exact h.1 r hr
      · simp at hr; rw [hr]; simp
    · have := h.2
      simp only [nPiles, List.map_append, List.sum_append] at this ⊢
      simp; omega
theorem pilesTo_in (xs : List Int) (k : Nat) (h : k ≤ xs.length) : PilesIn (pilesTo xs k) k := by
  induction k with
  | zero => exact ⟨fun r hr => by simp [pilesTo] at hr, rfl⟩
  | succ k ih => rw [pilesTo_succ xs k (by omega)]; exact (ih (by omega)).add _
theorem PilesIn.len {P : List (List Int)} {k : Nat} (h : PilesIn P k) : P.length ≤ k := by
  have : ∀ Q : List (List Int), (∀ r ∈ Q, 0 < r.length) → Q.length ≤ nPiles Q := fun Q hQ => by
    induction Q with
    | nil => simp
    | cons y l ih =>
      have h1 := hQ y (by simp)
      have h2 := ih (fun r hr => hQ r (List.mem_cons_of_mem _ hr))
      simp only [nPiles, List.map_cons, List.sum_cons, List.length_cons] at h2 ⊢
      omega
  have h2 := this P h.1
  rw [h.2] at h2
  exact h2
theorem PilesIn.row {P : List (List Int)} {k : Nat} (h : PilesIn P k) {r : List Int} (hr : r ∈ P) : r.length ≤ k := by
  have : ∀ Q : List (List Int), r ∈ Q → r.length ≤ nPiles Q := fun Q hQ => by
    induction Q with
    | nil => cases hQ
    | cons y l ih =>
      simp only [nPiles, List.map_cons, List.sum_cons] at ih ⊢
      rcases List.mem_cons.1 hQ with rfl | hQ
      · omega
      · have := ih hQ; omega
  have h2 := this P hr
  rw [h.2] at h2
  exact h2
theorem len_mPilesOf (xs : List Int) : (mPilesOf xs).length ≤ 1048576 := by
  unfold mPilesOf
  split
  · rename_i h
    have h1 := (pilesTo_in xs xs.length (Nat.le_refl _)).len
    have h2 := (goodB_iff.1 h).le9
    omega
  · simp
theorem rows_mPilesOf (xs : List Int) : ∀ r ∈ mPilesOf xs, r.length ≤ 1048576 := by
  unfold mPilesOf
  split
  · rename_i h
    intro r hr
    have h1 := (pilesTo_in xs xs.length (Nat.le_refl _)).row hr
    have h2 := (goodB_iff.1 h).le9
    omega
  · intro r hr; cases hr
theorem tot_mPilesOf (xs : List Int) : pre (mPilesOf xs) (mPilesOf xs).length ≤ 1048576 := by
  unfold mPilesOf
  split
  · rename_i h
    have h1 := (pilesTo_in xs xs.length (Nat.le_refl _)).2
    have h2 := (goodB_iff.1 h).le9
    have h3 : ∀ P : List (List Int), pre P P.length = nPiles P := fun P => by unfold pre nPiles; rw [List.take_length]
    rw [h3, h1]
    omega
  · simp [pre]
/-- a row of one's own slice of slices has grown: its memory is its own still, or new -/
theorem SS.push {w w' : World} {B N g n cap i : Nat} {ty : TypeId} {cs hs : List Value} {L : List (List Int)} {u0 u1 : Value} {r1 : List Int} (h : SS w B N (.slice (some ⟨g, 0, none⟩) n cap) hs L) (hN : N ≤ w.heap.size)
    (hb : Blk w' g ty cs) (hi : hs[i]? = some u0) (hgr : w.grownBy w' u0.ownBlock) (hu : OwnI w' u1 r1) (hat : ∀ b, u1.ownBlock = some b → u0.ownBlock = some b ∨ w.heap.size ≤ b) (hBN : B ≤ N) :
    SS (w'.setCell ⟨g, i, none⟩ u1) B w'.heap.size (.slice (some ⟨g, 0, none⟩) n cap) (hs.set i u1) (L.set i r1) := by
  have hgN : B ≤ g ∧ g < N := h.inn g rfl
  have hlen := h.len
  have hil : i < hs.length := (List.getElem?_eq_some_iff.1 hi).1
  have hsz := hgr.size
  have r0 := h.row i u0 (L[i]'(by omega)) hi (List.getElem?_eq_getElem _)
  have hg0 : u0.ownBlock ≠ some g := fun e => r0.2.2 g rfl e
  have hug : ∀ b, u1.ownBlock = some b → b ≠ g := fun b hb1 e => by
    rcases hat b hb1 with h1 | h1
    · exact hg0 (by rw [← e]; exact h1)
    · omega
  have hk : ∀ b, b < w.heap.size → u0.ownBlock ≠ some b → b ≠ g → (w'.setCell ⟨g, i, none⟩ u1).heap[b]? = w.heap[b]? := fun b h1 h2 h3 => by
    rw [heap_setCell_other w' ⟨g, i, none⟩ b u1 h3]
    exact hgr.block b h1 (fun e => h2 e.symm)
  have hown := h.own.kept (w' := w') fun b hb1 => by
    have e : g = b := by simpa [Value.ownBlock] using hb1
    subst e
    exact hgr.block g (by omega) (fun e => hg0 e.symm)
  have hui : ∀ b, u1.ownBlock = some b → B ≤ b ∧ b < w'.heap.size := fun b hb1 => ⟨by
    rcases hat b hb1 with h1 | h1
    · exact (r0.2.1 b h1).1
    · omega, hu.lt b hb1⟩
  refine ⟨by simp [h.len], ?_, fun g' hg' => ⟨(h.inn g' hg').1, by have := (h.inn g' hg').2; omega⟩, fun j u' xs hj hx => ?_, fun j k u1' u2 hjk h1 h2 => ?_⟩
  · obtain ⟨ad, cap', hv, h1, h2, h3, h4, h5⟩ := hown
    simp only [Value.slice.injEq] at hv
    obtain ⟨rfl, hnn, rfl⟩ := hv
    obtain ⟨hs0, cur, ty', hh, r, hcc⟩ := h5 _ rfl
    have he : cur = cs.toArray ∧ ty' = ty := by
      have := hh.symm.trans hb
      simpa using this
    obtain ⟨rfl, rfl⟩ := he
    refine ⟨_, cap, by rw [List.length_set, hnn], by simp, by rw [List.length_set]; exact h2, h3, by simp, fun a ha => ?_⟩
    cases ha
    refine ⟨rfl, _, ty', hb.set i u1, by simpa using r, fun j hj => ?_⟩
    rw [List.length_set] at hj
    have := hcc j hj
    simp only [Nat.zero_add, List.getElem?_toArray] at this ⊢
    rw [List.getElem?_set, List.getElem?_set, this]
    by_cases e : i = j
    · subst e
      have : i < cs.length := by
        have hr : 0 + cap * 1 ≤ cs.length := by simpa using r
        omega
      simp [this, hil]
    · simp [e]
  · by_cases e : i = j
    · subst e
      rw [List.getElem?_set_self hil] at hj
      rw [List.getElem?_set_self (by omega)] at hx
      cases hj; cases hx
      exact ⟨hu.kept fun g' hg' => heap_setCell_other w' ⟨g, i, none⟩ g' u1 (hug g' hg'), fun g' hg' => hui g' hg', fun g' hg' e => by
        have h1 : g = g' := by simpa [Value.ownBlock] using hg'
        exact hug g' e h1.symm⟩
    · rw [List.getElem?_set_ne e] at hj hx
      have hr := h.row j u' xs hj hx
      refine ⟨hr.1.kept fun g' hg' => hk g' (by have := (hr.2.1 g' hg').2; omega) (fun e2 => h.apart i j u0 u' e hi hj g' e2 hg') (fun e2 => hr.2.2 g rfl (by rw [← e2]; exact hg')), fun g' hg' => ⟨(hr.2.1 g' hg').1, by have := (hr.2.1 g' hg').2; omega⟩, hr.2.2⟩
  · have hap : ∀ (k : Nat) (u2 : Value), i ≠ k → hs[k]? = some u2 → Apart u1 u2 := fun k u2 hik h2 b hb1 e => by
      rcases hat b hb1 with h3 | h3
      · exact h.apart i k u0 u2 hik hi h2 b h3 e
      · have hkl : k < hs.length := (List.getElem?_eq_some_iff.1 h2).1
        have := (h.row k u2 _ h2 (List.getElem?_eq_getElem (by omega))).2.1 b e
        omega
    by_cases e1 : i = j
    · subst e1
      rw [List.getElem?_set_self hil] at h1
      rw [List.getElem?_set_ne hjk] at h2
      cases h1
      exact hap k u2 hjk h2
    · rw [List.getElem?_set_ne e1] at h1
      by_cases e2 : i = k
      · subst e2
        rw [List.getElem?_set_self hil] at h2
        cases h2
        exact (hap j u1' e1 h1).symm
      · rw [List.getElem?_set_ne e2] at h2
        exact h.apart j k u1' u2 hjk h1 h2

end Go.Pan

