import Derived.Test.YtfcbaegkppkfkaaWB
import Derived.Test.YtfcbaegkppkfkaaS15
import Derived.Test.YtfcbaegkppkfkaaI4
import Derived.Test.YtfcbaegkppkfkaaLO
import Derived.Test.YtfcbaegkppkfkaaSl
import Derived.Deep.LoopGhost
namespace Go.Pan
open Go Go.RowKit

/-- a list of lists that can be read, its own memory apart from theirs -/
structure RL (w : World) (e : TypeId) (B : Nat) (v : Value) (hs : List Value) (xss : List (List Int)) : Prop where
  len : hs.length = xss.length
  own : w.ownsRow B e 1 v xss.length hs
  row : ∀ (i : Nat) (u : Value) (xs : List Int), hs[i]? = some u → xss[i]? = some xs → OwnI w u xs ∧ Apart v u
/-- all rows lie from N on -/
def RowsFrom (N : Nat) (hs : List Value) : Prop := ∀ (i : Nat) (u : Value), hs[i]? = some u → From N u
theorem RowsFrom.nil (N : Nat) : RowsFrom N [] := fun i u h => by simp at h
theorem RowsFrom.mono {N N' : Nat} {hs : List Value} (h : RowsFrom N hs) (hN : N' ≤ N) : RowsFrom N' hs := fun i u hu => (h i u hu).mono hN
theorem RowsFrom.app {N : Nat} {hs hs2 : List Value} (h : RowsFrom N hs) (h2 : RowsFrom N hs2) : RowsFrom N (hs ++ hs2) := fun i u hu => by
  by_cases hi : i < hs.length
  · rw [List.getElem?_append_left hi] at hu; exact h i u hu
  · rw [List.getElem?_append_right (by omega)] at hu; exact h2 _ u hu
theorem RL.slice {w : World} {e : TypeId} {B : Nat} {v : Value} {hs : List Value} {xss : List (List Int)} (h : RL w e B v hs xss) : ∃ ad cap, v = .slice ad xss.length cap ∧ xss.length ≤ cap := by
  obtain ⟨ad, cap, hv, h1, _⟩ := (Own.of_row h.own).1.shape
  exact ⟨ad, cap, hv, h1⟩
theorem RL.below {w w' : World} {e : TypeId} {B N : Nat} {v : Value} {hs : List Value} {xss : List (List Int)} (h : RL w e B v hs xss) (hb : Below N w w') (hN : w.heap.size ≤ N) : RL w' e B v hs xss := by
  refine ⟨h.len, h.own.kept (grown_of_below (hb.mono hN) none) ?_, fun i u xs hu hx => ⟨(h.row i u xs hu hx).1.below hb hN, (h.row i u xs hu hx).2⟩⟩
  cases hv : v.ownBlock with
  | none => exact .inl rfl
  | some g => exact .inr (by simp)
theorem RL.grown {w w' : World} {e : TypeId} {B : Nat} {v : Value} {hs : List Value} {xss : List (List Int)} {row : Option Nat} (h : RL w e B v hs xss) (hg : w.grownBy w' row) (h1 : ∀ g, v.ownBlock = some g → row ≠ some g) (h2 : ∀ (i : Nat) (u : Value), hs[i]? = some u → ∀ g, u.ownBlock = some g → row ≠ some g) : RL w' e B v hs xss := by
  refine ⟨h.len, h.own.kept hg ?_, fun i u xs hu hx => ⟨(h.row i u xs hu hx).1.grown hg (h2 i u hu), (h.row i u xs hu hx).2⟩⟩
  cases hv : v.ownBlock with
  | none => exact .inl rfl
  | some g => exact .inr (fun e => h1 g hv e.symm)
theorem RL.nil (w : World) (e : TypeId) (B : Nat) : RL w e B (.slice none 0 0) [] [] := ⟨rfl, World.ownsRow_nil _ _ _ _, fun i u xs hu => by simp at hu⟩
theorem RL.from {w : World} {e : TypeId} {B : Nat} {v : Value} {hs : List Value} {xss : List (List Int)} (h : RL w e B v hs xss) : From B v := (Own.of_row h.own).2
theorem RL.lt {w : World} {e : TypeId} {B : Nat} {v : Value} {hs : List Value} {xss : List (List Int)} (h : RL w e B v hs xss) : ∀ g, v.ownBlock = some g → g < w.heap.size := (Own.of_row h.own).1.lt
theorem RL.rowlt {w : World} {e : TypeId} {B : Nat} {v : Value} {hs : List Value} {xss : List (List Int)} (h : RL w e B v hs xss) (i : Nat) (u : Value) (hu : hs[i]? = some u) : ∀ g, u.ownBlock = some g → g < w.heap.size := by
  have hi : i < xss.length := by rw [← h.len]; exact (List.getElem?_eq_some_iff.1 hu).1
  exact (h.row i u _ hu (List.getElem?_eq_getElem hi)).1.lt
/-- the cell of the element k -/
theorem RL.at {w : World} {e : TypeId} {B : Nat} {ad : Option Addr} {n cap : Nat} {hs : List Value} {xss : List (List Int)} (h : RL w e B (.slice ad n cap) hs xss) (k : Nat) (hk : k < xss.length) :
    ∃ g off u, ad = some ⟨g, off, none⟩ ∧ g < w.heap.size ∧ hs[k]? = some u ∧ OwnI w u xss[k] ∧ w.cell? ⟨g, off + k, none⟩ = some u := by
  have ho := (Own.of_row h.own).1
  obtain ⟨ad', cap', hv, h1, _⟩ := ho.shape
  simp only [Value.slice.injEq] at hv
  obtain ⟨rfl, rfl, rfl⟩ := hv
  obtain ⟨g, off, rfl, hg, hc, _⟩ := ho.at (by omega)
  have hkl : k < hs.length := by rw [h.len]; exact hk
  refine ⟨g, off, hs[k], rfl, hg, List.getElem?_eq_getElem hkl, (h.row k _ _ (List.getElem?_eq_getElem hkl) (List.getElem?_eq_getElem hk)).1, ?_⟩
  rw [hc k (by omega), List.getElem?_eq_getElem hkl]
theorem RL.app {w w' : World} {e : TypeId} {B g n cap N : Nat} {v : Value} {hs hs2 : List Value} {xss yss : List (List Int)} (h : RL w e B v hs xss)
    (hr : ∀ (i : Nat) (u : Value) (ys : List Int), hs2[i]? = some u → yss[i]? = some ys → OwnI w u ys) (hf : RowsFrom N hs2) (hvN : ∀ g, v.ownBlock = some g → g < N) (l2 : hs2.length = yss.length)
    (hown : w'.ownsRow B e 1 (.slice (some ⟨g, 0, none⟩) n cap) n (hs ++ hs2)) (hn : n = xss.length + yss.length) (hgr : w.grownBy w' v.ownBlock) (hat : v.ownBlock = some g ∨ g = w.heap.size) :
    RL w' e B (.slice (some ⟨g, 0, none⟩) n cap) (hs ++ hs2) (xss ++ yss) := by
  subst hn
  refine ⟨by simp [h.len, l2], by rw [List.length_append]; exact hown, fun i u xs hu hx => ?_⟩
  have key : ∀ (x : Value) (zs : List Int), OwnI w x zs → Apart v x → OwnI w' x zs ∧ Apart (.slice (some ⟨g, 0, none⟩) (xss.length + yss.length) cap) x := fun x zs hx hax => by
    refine ⟨hx.grown hgr hax.symm, fun b hb e => ?_⟩
    simp [Value.ownBlock] at hb
    subst hb
    rcases hat with hat | hat
    · exact hax g hat e
    · have := hx.lt g e; omega
  by_cases hi : i < hs.length
  · rw [List.getElem?_append_left hi] at hu
    rw [List.getElem?_append_left (by rw [← h.len]; exact hi)] at hx
    have hrr := h.row i u xs hu hx
    exact key u xs hrr.1 hrr.2
  · rw [List.getElem?_append_right (by omega)] at hu
    rw [List.getElem?_append_right (by rw [← h.len]; omega)] at hx
    rw [← h.len] at hx
    refine key u xs (hr _ u xs hu hx) fun b hb e => ?_
    have h1 := hvN b hb
    have h2 := hf _ u hu b e
    omega
/-- the source of an append -/
theorem RL.src {w : World} {e : TypeId} {B : Nat} {ad : Option Addr} {n cap : Nat} {hs : List Value} {xss : List (List Int)} (h : RL w e B (.slice ad n cap) hs xss) : Src w ad n cap hs := by
  have ho := (Own.of_row h.own).1
  obtain ⟨ad', cap', hv, _⟩ := ho.shape
  simp only [Value.slice.injEq] at hv
  obtain ⟨rfl, rfl, rfl⟩ := hv
  exact Own.src ho
theorem OwnI.olds {w : World} {ad : Option Addr} {n cap : Nat} {q : List Int} (h : OwnI w (.slice ad n cap) q) : (ad = none → q.length = 0) ∧ ∀ b, ad = some b → ∀ j u, (q.map iv)[j]? = some u → w.cell? (b.add j) = some u := by
  obtain ⟨ad', cap', hv, h1, h2, h3⟩ := h.shape
  simp only [Value.slice.injEq] at hv
  obtain ⟨rfl, rfl, rfl⟩ := hv
  refine ⟨fun e => by have := h3 e; omega, fun b hb j u hu => ?_⟩
  rcases Own.src h with ⟨e, _⟩ | ⟨a, e, hc⟩
  · rw [e] at hb; cases hb
  · rw [e] at hb; cases hb
    exact hc j u hu
theorem From.apart {N : Nat} {v u : Value} (hv : ∀ g, v.ownBlock = some g → g < N) (hu : From N u) : Apart v u := fun g h1 h2 => by
  have := hv g h1; have := hu g h2; omega

/-- levels: each step from each of the last level -/
def lvG (f : List Int → List (List Int)) : Nat → List (List Int) → List (List Int)
  | 0, L => L
  | d + 1, L => (lvG f d L).flatMap f
theorem lvG_head (f : List Int → List (List Int)) : ∀ (d : Nat) (L : List (List Int)), lvG f (d + 1) L = lvG f d (L.flatMap f)
  | 0, _ => rfl
  | d + 1, L => by rw [lvG, lvG_head f d L]; rfl

end Go.Pan

namespace Go.Proofs.Ytfcbaegkppkfkaa
open Go Go.RowKit Go.Pan

theorem infoL2 : (Try.prog.info? 23).map (fun i => (i.zero, i.size, i.bytes)) = some (some (.slice none 0 0), 1, 24) := by kernel_rfl
theorem infoL1 : (Try.prog.info? 22).map (fun i => (i.zero, i.size, i.bytes)) = some (some (.slice none 0 0), 1, 24) := by kernel_rfl

theorem Clip_lit (ad : Option Addr) (n cap : Nat) (w : World) (h : n ≤ cap) :
    Calls Try.prog 55 #[.slice ad n cap] w fun e w' => e = .returned (.slice ad n n) ∧ w = w' := by
  go_enter Try.func55, Try.ntmps55
  go_wp2
  go_ret
  exact ⟨rfl, rfl⟩

def longTo (xs q : List Int) (k : Nat) : List (List Int) := (((belowQ xs q).take k).filter fun x => decide (lastI q < x)).map fun x => q ++ [x]
theorem longTo_zero (xs q : List Int) : longTo xs q 0 = [] := rfl
theorem longTo_all (xs q : List Int) : longTo xs q (belowQ xs q).length = longer xs q := by unfold longTo longer; rw [List.take_length]
theorem longTo_yes {xs q : List Int} {k : Nat} (hk : k < (belowQ xs q).length) (h : lastI q < (belowQ xs q)[k]) : longTo xs q (k + 1) = longTo xs q k ++ [q ++ [(belowQ xs q)[k]]] := by
  unfold longTo
  rw [List.take_succ_eq_append_getElem hk, List.filter_append, List.map_append]
  simp [h]
theorem longTo_no {xs q : List Int} {k : Nat} (hk : k < (belowQ xs q).length) (h : ¬ lastI q < (belowQ xs q)[k]) : longTo xs q (k + 1) = longTo xs q k := by
  unfold longTo
  rw [List.take_succ_eq_append_getElem hk, List.filter_append, List.map_append]
  simp [h]
theorem longTo_le (xs q : List Int) (k : Nat) : (longTo xs q k).length ≤ (belowQ xs q).length := by
  unfold longTo
  rw [List.length_map]
  exact Nat.le_trans (List.length_filter_le _ _) (by rw [List.length_take]; omega)


-- END LONGER

end Go.Proofs.Ytfcbaegkppkfkaa

