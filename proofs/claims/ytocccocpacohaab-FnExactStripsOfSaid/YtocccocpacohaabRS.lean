import Derived.Test.YtocccocpacohaabSS
namespace Go.Pan
open Go Go.RowKit

/-- a slice of slices of ints that can be read (whoever shares its memory), all of it in blocks below N -/
structure RS (w : World) (N : Nat) (v : Value) (hs : List Value) (xss : List (List Int)) : Prop where
  len : hs.length = xss.length
  own : Own w 1 v hs.length hs
  inn : ∀ g, v.ownBlock = some g → g < N
  row : ∀ (i : Nat) (u : Value) (xs : List Int), hs[i]? = some u → xss[i]? = some xs → OwnI w u xs ∧ ∀ g, u.ownBlock = some g → g < N
theorem SS.rs {w : World} {B N : Nat} {v : Value} {hs : List Value} {xss : List (List Int)} (h : SS w B N v hs xss) : RS w N v hs xss :=
  ⟨h.len, h.own, fun g hg => (h.inn g hg).2, fun i u xs hu hx => ⟨(h.row i u xs hu hx).1, fun g hg => ((h.row i u xs hu hx).2.1 g hg).2⟩⟩
theorem RS.below {w w' : World} {N N' : Nat} {v : Value} {hs : List Value} {xss : List (List Int)} (h : RS w N v hs xss) (hb : Below N' w w') (hN : N ≤ N') : RS w' N v hs xss :=
  ⟨h.len, h.own.kept fun g hg => hb.block g (Nat.lt_of_lt_of_le (h.inn g hg) hN), h.inn, fun i u xs hu hx => ⟨(h.row i u xs hu hx).1.kept fun g hg => hb.block g (Nat.lt_of_lt_of_le ((h.row i u xs hu hx).2 g hg) hN), (h.row i u xs hu hx).2⟩⟩
theorem RS.at {w : World} {N : Nat} {ad : Option Addr} {n cap : Nat} {hs : List Value} {xss : List (List Int)} (h : RS w N (.slice ad n cap) hs xss) (i : Nat) (hi : i < xss.length) :
    ∃ g off, ad = some ⟨g, off, none⟩ ∧ ∃ u, hs[i]? = some u ∧ OwnI w u xss[i] ∧ True ∧ True ∧ w.cell? ⟨g, off + i, none⟩ = some u := by
  obtain ⟨ad', cap', hv, h2, _, _⟩ := h.own.shape
  simp only [Value.slice.injEq] at hv
  obtain ⟨rfl, rfl, rfl⟩ := hv
  have hl := h.len
  obtain ⟨g, off, rfl, _, hc, _⟩ := Own.at h.own (by omega)
  have hu : hs[i]? = some (hs[i]'(by omega)) := List.getElem?_eq_getElem (by omega)
  have hr := h.row i _ _ hu (List.getElem?_eq_getElem hi)
  exact ⟨g, off, rfl, _, hu, hr.1, trivial, trivial, by rw [hc i (by omega)]; exact hu⟩

theorem flat_split (xss : List (List Int)) (i : Nat) (hi : i < xss.length) : xss.flatten = (xss.take i).flatten ++ xss[i] ++ (xss.drop (i + 1)).flatten := by
  have h1 := List.take_append_drop i xss
  rw [List.drop_eq_getElem_cons hi] at h1
  have h2 := congrArg List.flatten h1
  rw [List.flatten_append, List.flatten_cons, ← List.append_assoc] at h2
  exact h2.symm
theorem take_flat_length (xss : List (List Int)) (i : Nat) : (xss.take i).flatten.length = pre xss i := by
  unfold pre
  rw [List.length_flatten]

/-- a slice of slices of ints whose rows follow each other in ONE block, from its beginning on, each with no room of its own -/
structure RR (w : World) (B N : Nat) (v : Value) (hs : List Value) (xss : List (List Int)) (g : Nat) (ty : TypeId) (post : List Value) : Prop where
  len : hs.length = xss.length
  own : Own w 1 v hs.length hs
  inn : In B N v
  bd : B ≤ g ∧ g < N
  ne : v.ownBlock ≠ some g
  blk : Blk w g ty (xss.flatten.map iv ++ post)
  row : ∀ (i : Nat) (h : i < xss.length), hs[i]? = some (.slice (some ⟨g, pre xss i, none⟩) xss[i].length xss[i].length)
theorem RR.below {w w' : World} {B N N' g : Nat} {ty : TypeId} {post : List Value} {v : Value} {hs : List Value} {xss : List (List Int)} (h : RR w B N v hs xss g ty post) (hb : Below N' w w') (hN : N ≤ N') : RR w' B N v hs xss g ty post :=
  ⟨h.len, h.own.kept fun g hg => hb.block g (Nat.lt_of_lt_of_le (h.inn g hg).2 hN), h.inn, h.bd, h.ne, h.blk.below hb (Nat.lt_of_lt_of_le h.bd.2 hN), h.row⟩
theorem RR.grown {w w' : World} {B N g : Nat} {ty : TypeId} {post : List Value} {v : Value} {hs : List Value} {xss : List (List Int)} {row : Option Nat} (h : RR w B N v hs xss g ty post) (hg : w.grownBy w' row) (hN : N ≤ w.heap.size) (hne : ∀ g, row = some g → g < B ∨ N ≤ g) : RR w' B N v hs xss g ty post :=
  ⟨h.len, h.own.kept fun g' h1 => hg.block g' (Nat.lt_of_lt_of_le (h.inn g' h1).2 hN) (fun e => by have := hne g' e.symm; have := h.inn g' h1; omega), h.inn, h.bd, h.ne, h.blk.grown hg (fun e => by have := hne g e; have := h.bd; omega), h.row⟩
theorem RR.rs {w : World} {B N g : Nat} {ty : TypeId} {post : List Value} {v : Value} {hs : List Value} {xss : List (List Int)} (h : RR w B N v hs xss g ty post) (hm : ∀ xs ∈ xss, xs.length ≤ 1048576) : RS w N v hs xss := by
  refine ⟨h.len, h.own, fun g hg => (h.inn g hg).2, fun i u xs hu hx => ?_⟩
  have hi : i < xss.length := (List.getElem?_eq_some_iff.1 hx).1
  have hr := h.row i hi
  rw [hu] at hr
  cases hr
  rw [List.getElem?_eq_getElem hi] at hx
  cases hx
  have hl := take_flat_length xss i
  refine ⟨⟨_, xss[i].length, rfl, by simp, Nat.le_refl _, by have := hm _ (List.getElem_mem hi); unfold maxLen; omega, by simp, fun a ha => ?_⟩, fun g' hg' => ?_⟩
  · cases ha
    refine ⟨rfl, _, ty, h.blk, ?_, fun j hj => ?_⟩
    · rw [flat_split xss i hi]
      simp only [List.size_toArray, List.length_append, List.length_map]
      rw [hl]
      omega
    · rw [flat_split xss i hi]
      simp only [List.getElem?_toArray, List.map_append, List.append_assoc]
      rw [List.getElem?_append_right (by rw [List.length_map, hl]; omega), List.length_map, hl, Nat.add_sub_cancel_left, List.getElem?_append_left (by rw [List.length_map]; omega)]
  · simp [Value.ownBlock] at hg'
    subst hg'
    exact h.bd.2

theorem markAt_set (xss : List (List Int)) (k : Int) (i : Nat) (h : i < xss.length) : markAt xss k (i + 1) = (markAt xss k i).set i (ramp (k + (pre xss i : Int)) xss[i].length) := by
  apply List.ext_getElem?
  intro j
  by_cases hj : j = i
  · subst hj
    rw [List.getElem?_set_self (by rw [markAt_length]; exact h), List.getElem?_eq_getElem (by rw [markAt_length]; exact h), markAt_get xss k j h _ (Nat.lt_succ_self _)]
  · rw [List.getElem?_set_ne (fun e => hj e.symm), markAt_ne xss k i j hj]
theorem pre_markAt (xss : List (List Int)) (k : Int) (n i : Nat) : pre (markAt xss k n) i = pre xss i := by
  unfold pre
  rw [List.map_take, List.map_take]
  congr 2
  apply List.ext_getElem?
  intro j
  simp only [markAt, List.getElem?_map, List.getElem?_mapIdx]
  cases xss[j]? with
  | none => rfl
  | some xs =>
    simp only [Option.map_some]
    congr 1
    split
    · simp [ramp]
    · rfl
theorem len_markAt (xss : List (List Int)) (k : Int) (n i : Nat) (h : i < xss.length) : ((markAt xss k n)[i]'(by rw [markAt_length]; exact h)).length = xss[i].length := by
  simp only [markAt, List.getElem_mapIdx]
  split
  · simp [ramp]
  · rfl

end Go.Pan
