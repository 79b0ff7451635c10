import Derived.WalkKit
namespace Go.Pan
open Go Go.RowKit
/-- a slice expression whose run is known in every world -/
theorem wpList_slice_h {P : Program} {ops : Array Oper} {rest : List Oper} {o : Oper} {a : Act} {w : World} {Q : Exit → Act → World → Prop} (hg : o.guard = none) {t : TypeId} (x hi : Operand) (hop : o.op = .slice t x none (some hi) none)
    (v r h : Value) (hx : a.eval x = v) (hh : a.eval hi = h) (hrun : ∀ W : World, (Instr.sliceAt t v none (some h) none).run P W = .ok r W) (hK : wpList P ops Q rest (a.put o.dst r) w) : wpList P ops Q (o :: rest) a w := by
  refine wpList_plain hg fun K hK' => ?_
  have hr := hrun w
  unfold Oper.wp
  simp [execOp, hop, hx, hh, hr, Result.andThen]
  exact hK' _ _ hK
theorem wpList_slice_lh {P : Program} {ops : Array Oper} {rest : List Oper} {o : Oper} {a : Act} {w : World} {Q : Exit → Act → World → Prop} (hg : o.guard = none) {t : TypeId} (x lo hi : Operand) (hop : o.op = .slice t x (some lo) (some hi) none)
    (v r l h : Value) (hx : a.eval x = v) (hl : a.eval lo = l) (hh : a.eval hi = h) (hrun : ∀ W : World, (Instr.sliceAt t v (some l) (some h) none).run P W = .ok r W) (hK : wpList P ops Q rest (a.put o.dst r) w) : wpList P ops Q (o :: rest) a w := by
  refine wpList_plain hg fun K hK' => ?_
  have hr := hrun w
  unfold Oper.wp
  simp [execOp, hop, hx, hl, hh, hr, Result.andThen]
  exact hK' _ _ hK
theorem wpList_slice_l {P : Program} {ops : Array Oper} {rest : List Oper} {o : Oper} {a : Act} {w : World} {Q : Exit → Act → World → Prop} (hg : o.guard = none) {t : TypeId} (x lo : Operand) (hop : o.op = .slice t x (some lo) none none)
    (v r l : Value) (hx : a.eval x = v) (hl : a.eval lo = l) (hrun : ∀ W : World, (Instr.sliceAt t v (some l) none none).run P W = .ok r W) (hK : wpList P ops Q rest (a.put o.dst r) w) : wpList P ops Q (o :: rest) a w := by
  refine wpList_plain hg fun K hK' => ?_
  have hr := hrun w
  unfold Oper.wp
  simp [execOp, hop, hx, hl, hr, Result.andThen]
  exact hK' _ _ hK

end Go.Pan

