import Derived.Test.YtdlnniciccpchaaU3
import Derived.Test.YtdlnniciccpchaaI4
import Derived.Test.YtdlnniciccpchaaTw
import Derived.Test.YtdlnniciccpchaaS4
namespace Go.Proofs.Ytdlnniciccpchaa
open Go Go.RowKit Go.Pan

-- IsHome, TopStep: both sides
theorem OwnI.head {w : World} {v : Value} {xs : List Int} (h : OwnI w v xs) (h1 : 1 ≤ xs.length) : ∃ g off cap, v = .slice (some ⟨g, off, none⟩) xs.length cap ∧ w.cell? ⟨g, off, none⟩ = some (iv (xs.getD 0 0)) ∧ g < w.heap.size := by
  obtain ⟨ad, cap, rfl, hc, hm, hn⟩ := h.shape
  obtain ⟨g, off, rfl, hg, hcell, _⟩ := h.at (by omega)
  refine ⟨g, off, cap, rfl, ?_, hg⟩
  have := hcell 0 (by omega)
  rw [Nat.add_zero] at this
  rw [this, List.getElem?_map, List.getElem?_eq_getElem (by omega)]
  rw [getD_eq (by omega)]
  rfl

theorem twl_at {xs : List Int} {i : Nat} (hi : i < 9) : (twl xs)[i]? = some (iv (xs.getD i 0)) ∨ 9 < xs.length := by
  by_cases h9 : 9 < xs.length
  · exact .inr h9
  left
  unfold twl
  rw [List.getElem?_map]
  by_cases h : i < xs.length
  · rw [List.getElem?_append_left h, List.getElem?_eq_getElem h, getD_eq h]; rfl
  · rw [List.getElem?_append_right (by omega), List.getElem?_replicate, if_pos (by omega), List.getD_eq_getElem?_getD, List.getElem?_eq_none (by omega)]; rfl


theorem cell_grownX {w w' : World} {g o : Nat} {row : Option Nat} (hg : w.grownBy w' row) (hl : g < w.heap.size) (hne : row ≠ some g) : w'.cell? ⟨g, o, none⟩ = w.cell? ⟨g, o, none⟩ := by
  have e : w'.heap[g]? = w.heap[g]? := hg.block g hl (fun e => hne e.symm)
  simp [World.cell?, e]
theorem range_grownX {w w' : World} {g o : Nat} {cs : List Value} {row : Option Nat} (h : w.rangeAt g o cs) (hg : w.grownBy w' row) (hl : g < w.heap.size) (hne : row ≠ some g) : w'.rangeAt g o cs := fun j v hv => by
  rw [cell_grownX hg hl hne]; exact h j v hv

theorem step_store_tower {ops : Array Oper} {o : Oper} {a : Act} {w : World} {K : Act → World → Prop} {Q : Exit → Act → World → Prop} {E : Prop}
    (hg : o.guard = none) (x y : Operand) (hop : o.op = Op.store 52 x y) (g : Nat) (xs ys : List Int) (hx9 : xs.length ≤ 9) (hy9 : ys.length ≤ 9) (hx : a.eval x = .pointer (some ⟨g, 0, none⟩)) (hy : a.eval y = tw ys) (hb : Blk w g 52 (twl xs))
    (h : ∀ w', Blk w' g 52 (twl ys) → w.grownBy w' (some g) → K (a.put o.dst undef) w') :
    if Region.wanted o (yielded ops a.tmps) = true then Oper.wp Try.prog o a w K Q else E := by
  have hw : Region.wanted o (yielded ops a.tmps) = true := by simp [Region.wanted, hg]
  rw [if_pos hw]
  have h1 := twl_length xs hx9
  have h2 := twl_length ys hy9
  refine wp_store_row 52 x y hop g (twl ys).toArray hx hy 52 _ hb (by rw [Try.infoT]; simp [h2]) (by simp [h1, h2]) (by simp [twl, Value.oneCell']) ?_
  exact h _ (hb.setRow (twl ys)) ⟨rfl, rfl, rfl, by simp [World.setRow], fun k _ hk => setRow_other w g k _ (fun e => hk (by rw [e]))⟩

end Go.Proofs.Ytdlnniciccpchaa

