import Derived.Test.YtdlnniciccpchaaS4
import Derived.Test.YtdlnniciccpchaaI2
namespace Go.Pan
open Go Go.RowKit

/-- v's block, if it has one, lies in B .. N - 1 -/
def In (B N : Nat) (v : Value) : Prop := ∀ g, v.ownBlock = some g → B ≤ g ∧ g < N
def Apart (v u : Value) : Prop := ∀ g, v.ownBlock = some g → u.ownBlock ≠ some g
theorem Apart.symm {v u : Value} (h : Apart v u) : Apart u v := fun g hg e => h g e hg
theorem In.mono {B N B' N' : Nat} {v : Value} (h : In B N v) (hB : B' ≤ B) (hN : N ≤ N') : In B' N' v := fun g hg => ⟨Nat.le_trans hB (h g hg).1, Nat.lt_of_lt_of_le (h g hg).2 hN⟩

/-- a slice of slices of ints, each with memory of its own, all of it in the blocks B .. N - 1; hs its elements as values -/
structure SS (w : World) (B N : Nat) (v : Value) (hs : List Value) (xss : List (List Int)) : Prop where
  len : hs.length = xss.length
  own : Own w 1 v hs.length hs
  inn : In B N v
  row : ∀ (i : Nat) (u : Value) (xs : List Int), hs[i]? = some u → xss[i]? = some xs → OwnI w u xs ∧ In B N u ∧ Apart v u
  apart : ∀ (i j : Nat) (u u' : Value), i ≠ j → hs[i]? = some u → hs[j]? = some u' → Apart u u'

theorem SS.kept {w w' : World} {B N : Nat} {v : Value} {hs : List Value} {xss : List (List Int)} (h : SS w B N v hs xss) (hk : ∀ g, B ≤ g → g < N → w'.heap[g]? = w.heap[g]?) : SS w' B N v hs xss :=
  ⟨h.len, h.own.kept fun g hg => hk g (h.inn g hg).1 (h.inn g hg).2, h.inn, fun i u xs hu hx => ⟨(h.row i u xs hu hx).1.kept fun g hg => hk g ((h.row i u xs hu hx).2.1 g hg).1 ((h.row i u xs hu hx).2.1 g hg).2, (h.row i u xs hu hx).2⟩, h.apart⟩
theorem SS.below {w w' : World} {B N N' : Nat} {v : Value} {hs : List Value} {xss : List (List Int)} (h : SS w B N v hs xss) (hb : Below N' w w') (hN : N ≤ N') : SS w' B N v hs xss :=
  h.kept fun g _ hg => hb.block g (Nat.lt_of_lt_of_le hg hN)
theorem SS.grown {w w' : World} {B N : Nat} {v : Value} {hs : List Value} {xss : List (List Int)} {row : Option Nat} (h : SS w B N v hs xss) (hg : w.grownBy w' row) (hN : N ≤ w.heap.size) (hne : ∀ g, row = some g → g < B ∨ N ≤ g) : SS w' B N v hs xss :=
  h.kept fun g h1 h2 => hg.block g (Nat.lt_of_lt_of_le h2 hN) fun e => by have := hne g e.symm; omega
theorem SS.nil (w : World) (B N : Nat) : SS w B N (.slice none 0 0) [] [] :=
  ⟨rfl, Own.nil w 1, fun g hg => by simp [Value.ownBlock] at hg, fun i u xs hu => by simp at hu, fun i j u u' _ hu => by simp at hu⟩
theorem SS.mono {w : World} {B N B' N' : Nat} {v : Value} {hs : List Value} {xss : List (List Int)} (h : SS w B N v hs xss) (hB : B' ≤ B) (hN : N ≤ N') : SS w B' N' v hs xss :=
  ⟨h.len, h.own, h.inn.mono hB hN, fun i u xs hu hx => ⟨(h.row i u xs hu hx).1, (h.row i u xs hu hx).2.1.mono hB hN, (h.row i u xs hu hx).2.2⟩, h.apart⟩
/-- where its elements lie -/
theorem SS.at {w : World} {B N : Nat} {ad : Option Addr} {n cap : Nat} {hs : List Value} {xss : List (List Int)} (h : SS w B N (.slice ad n cap) hs xss) (i : Nat) (hi : i < xss.length) :
    ∃ g off, ad = some ⟨g, off, none⟩ ∧ ∃ u, hs[i]? = some u ∧ OwnI w u xss[i] ∧ In B N u ∧ Apart (.slice ad n cap) u ∧ w.cell? ⟨g, off + i, none⟩ = some u := by
  obtain ⟨ad', cap', hv, h2, _, _⟩ := h.own.shape
  simp only [Value.slice.injEq] at hv
  obtain ⟨rfl, rfl, rfl⟩ := hv
  have hl := h.len
  obtain ⟨g, off, rfl, _, hc, _⟩ := Own.at h.own (by omega)
  have hu : hs[i]? = some (hs[i]'(by omega)) := List.getElem?_eq_getElem (by omega)
  have hr := h.row i _ _ hu (List.getElem?_eq_getElem hi)
  exact ⟨g, off, rfl, _, hu, hr.1, hr.2.1, hr.2.2, by rw [hc i (by omega)]; exact hu⟩

/-- how many numbers the first i rows have -/
def pre (xss : List (List Int)) (i : Nat) : Nat := ((xss.take i).map List.length).sum
theorem pre_succ (xss : List (List Int)) (i : Nat) (h : i < xss.length) : pre xss (i + 1) = pre xss i + xss[i].length := by
  unfold pre
  rw [List.take_succ_eq_append_getElem h, List.map_append, List.sum_append]
  simp [-List.map_take]
/-- the first i rows numbered from k on -/
def markAt (xss : List (List Int)) (k : Int) (i : Nat) : List (List Int) := xss.mapIdx fun j xs => if j < i then ramp (k + (pre xss j : Int)) xs.length else xs
theorem markAt_zero (xss : List (List Int)) (k : Int) : markAt xss k 0 = xss := by
  apply List.ext_getElem?
  intro j
  simp [markAt, List.getElem?_mapIdx]
theorem markAt_length (xss : List (List Int)) (k : Int) (i : Nat) : (markAt xss k i).length = xss.length := by simp [markAt]
theorem markAt_get (xss : List (List Int)) (k : Int) (i : Nat) (h : i < xss.length) (n : Nat) (hn : i < n) : (markAt xss k n)[i]'(by rw [markAt_length]; exact h) = ramp (k + (pre xss i : Int)) xss[i].length := by
  simp [markAt, hn]
theorem markAt_old (xss : List (List Int)) (k : Int) (i : Nat) (h : i < xss.length) : (markAt xss k i)[i]'(by rw [markAt_length]; exact h) = xss[i] := by simp [markAt]
theorem markAt_ne (xss : List (List Int)) (k : Int) (i j : Nat) (h : j ≠ i) : (markAt xss k (i + 1))[j]? = (markAt xss k i)[j]? := by
  simp only [markAt, List.getElem?_mapIdx]
  cases xss[j]? with
  | none => rfl
  | some xs =>
    simp only [Option.map_some]
    congr 1
    by_cases hj : j < i
    · rw [if_pos hj, if_pos (by omega)]
    · rw [if_neg hj, if_neg (by omega)]

theorem SS.mark {w w' : World} {B N : Nat} {v u : Value} {hs : List Value} {xss : List (List Int)} {k : Int} {i : Nat} (h : SS w B N v hs (markAt xss k i)) (hi : i < xss.length) (hu : hs[i]? = some u)
    (ho : OwnI w' u (ramp (k + (pre xss i : Int)) xss[i].length)) (hg : w.grownBy w' u.ownBlock) : SS w' B N v hs (markAt xss k (i + 1)) := by
  have hx : (markAt xss k i)[i]? = some xss[i] := by rw [List.getElem?_eq_getElem (by rw [markAt_length]; exact hi), markAt_old]
  have hr := h.row i u _ hu hx
  refine ⟨by rw [h.len, markAt_length, markAt_length], h.own.grown hg hr.2.2, h.inn, fun j u' xs hu' hx' => ?_, h.apart⟩
  by_cases hj : j = i
  · subst hj
    rw [hu] at hu'
    cases hu'
    rw [List.getElem?_eq_getElem (by rw [markAt_length]; exact hi), markAt_get xss k j hi _ (Nat.lt_succ_self _)] at hx'
    cases hx'
    exact ⟨ho, hr.2⟩
  · rw [markAt_ne xss k i j hj] at hx'
    have hr' := h.row j u' xs hu' hx'
    exact ⟨hr'.1.grown hg (h.apart j i u' u hj hu' hu), hr'.2⟩

end Go.Pan

