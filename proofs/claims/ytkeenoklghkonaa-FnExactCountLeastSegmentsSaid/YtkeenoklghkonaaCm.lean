import Derived.Conc.LoneSelect
import Derived.Test.YtkeenoklghkonaaLib
/-! Communications in one goroutine, as steps of the walk ('Code.wp' is told by the machine of one, so a communication that one goroutine makes alone has a law there). -/
namespace Go.Pan
open Go Go.RowKit Go.Conc

/-- the operations with these numbers are walked from here -/
def OpsAt (P : Program) (ops : Array Oper) (Q : Exit → Act → World → Prop) (l : List Nat) (a : Act) (w : World) : Prop :=
  ∀ (b : Frame) (k : List Item) (cs : List Frame), ∃ e a' w', Q e a' w' ∧ Arrives P (lone (b.at a (.inRegion ops l :: k)) cs w) b k cs e a' w'
section
variable {P : Program} {ops : Array Oper} {Q : Exit → Act → World → Prop} {a : Act} {w : World} {i : Nat} {rest : List Nat} {o : Oper}
theorem wp_at {id : Nat} (h : OpsAt P ops Q (List.range ops.size) a w) : (Code.region id ops false).wp P Q a w :=
  fun b k cs => let ⟨e, a', w', q, r⟩ := h b k cs; ⟨e, a', w', q, .of_steps (.one step_region) r⟩
theorem OpsAt.ofOps {l : List Nat} (h : wpOps P ops Q l a w) : OpsAt P ops Q l a w := wp_ops l a w h
/-- the rest of a region, by the walk's own words -/
theorem OpsAt.list {l : List Oper} {k : Nat} (hl : ∀ j, l[j]? = ops[k + j]?) (h : wpList P ops Q l a w) : OpsAt P ops Q (List.range' k l.length) a w :=
  .ofOps (by rw [wpOps_eq_wpList l k hl]; exact h)
theorem OpsAt.value {v : Value} {w' : World} (ho : ops[i]? = some o) (hw : Region.wanted o (yielded ops a.tmps) = true) (hr : (execOp a.eval o).run P w = .ok (.value v) w')
    (h : OpsAt P ops Q rest (a.put o.dst v) w') : OpsAt P ops Q (i :: rest) a w := by
  intro b k cs
  obtain ⟨e, a', w'', hq, harr⟩ := h b k cs
  refine ⟨e, a', w'', hq, .of_steps (.one (step_lone_go ?_)) harr⟩
  have hfin : (b.at a (.inRegion ops (i :: rest) :: k)).finish v = b.at (a.put o.dst v) (.inRegion ops rest :: k) := by rw [Frame.finish_at, ho]; rfl
  rw [stepG_op ho hw, ← hfin]
  simp [stepG.apply, hr]
/-- a communication is handed up to the machine -/
theorem stepG_commE {cases : Array CommCase} {blocking : Bool} {shape : CommShape} {w' : World} (ho : ops[i]? = some o) (hw : Region.wanted o (yielded ops a.tmps) = true)
    (hr : (execOp a.eval o).run P w = .ok (.comm cases blocking shape) w') (b : Frame) (k : List Item) (cs : List Frame) :
    ∃ es, stepG P true (G (b.at a (.inRegion ops (i :: rest) :: k)) cs) w = .comm (G (b.at a (.inRegion ops (i :: rest) :: k)) cs) cases blocking shape w' es := by
  rw [stepG_oper ho hw]
  simp only [stepG.apply, if_true, Sem.runT_eq, hr, GStep.after, G, Frame.at]
  exact ⟨_, rfl⟩
theorem OpsAt.comm {v : Value} {w' w₁ : World} {cases : Array CommCase} {blocking : Bool} {shape : CommShape} (ho : ops[i]? = some o) (hw : Region.wanted o (yielded ops a.tmps) = true)
    (hr : (execOp a.eval o).run P w = .ok (.comm cases blocking shape) w₁)
    (hs : ∀ (fr : Frame) (cs : List Frame) (es : Array Event), stepG P true (G fr cs) w = .comm (G fr cs) cases blocking shape w₁ es → step P (Go.Conc.solo (G fr cs) w) = .next (Go.Conc.solo (G (fr.finish v) cs) w'))
    (h : OpsAt P ops Q rest (a.put o.dst v) w') : OpsAt P ops Q (i :: rest) a w := by
  intro b k cs
  obtain ⟨e, a', w'', hq, harr⟩ := h b k cs
  refine ⟨e, a', w'', hq, .of_steps (.one ?_) harr⟩
  obtain ⟨es, he⟩ := stepG_commE (rest := rest) ho hw hr b k cs
  have h1 := hs _ _ _ he
  have hfin : (b.at a (.inRegion ops (i :: rest) :: k)).finish v = b.at (a.put o.dst v) (.inRegion ops rest :: k) := by rw [Frame.finish_at, ho]; rfl
  rw [hfin] at h1
  exact h1
/-- an operation that yields nothing -/
theorem OpsAt.skip {w' : World} (ho : ops[i]? = some o) (hw : Region.wanted o (yielded ops a.tmps) = true) (hr : (execOp a.eval o).run P w = .ok .skip w')
    (h : OpsAt P ops Q rest (a.put o.dst undef) w') : OpsAt P ops Q (i :: rest) a w := by
  intro b k cs
  obtain ⟨e, a', w'', hq, harr⟩ := h b k cs
  refine ⟨e, a', w'', hq, .of_steps (.one (step_lone_go ?_)) harr⟩
  have hfin : (b.at a (.inRegion ops (i :: rest) :: k)).finish undef = b.at (a.put o.dst undef) (.inRegion ops rest :: k) := by rw [Frame.finish_at, ho]; rfl
  rw [stepG_op ho hw, ← hfin]
  simp [stepG.apply, hr]
/-- a call that returns -/
theorem OpsAt.call {w' : World} {f : FuncId} {args : Array Value} (ho : ops[i]? = some o) (hw : Region.wanted o (yielded ops a.tmps) = true) (hr : (execOp a.eval o).run P w = .ok (.enter f args) w')
    (h : Calls P f args w' fun e w₂ => ∃ v, e = .returned v ∧ OpsAt P ops Q rest (a.put o.dst v) w₂) : OpsAt P ops Q (i :: rest) a w := by
  intro b k cs
  have hfin : ∀ v, (b.at a (.inRegion ops (i :: rest) :: k)).finish v = b.at (a.put o.dst v) (.inRegion ops rest :: k) := fun v => by rw [Frame.finish_at, ho]; rfl
  obtain ⟨_, _, _, ⟨v, rfl, hv⟩, hst, _, hlv⟩ := h (b.at a (.inRegion ops (i :: rest) :: k) :: cs)
  obtain ⟨e, a', w₃, hq, harr⟩ := hv b k cs
  have hen : step P (lone (b.at a (.inRegion ops (i :: rest) :: k)) cs w) = .next (lone (Frame.enter P f args .normal) (b.at a (.inRegion ops (i :: rest) :: k) :: cs) w') := step_lone_go (by rw [stepG_op ho hw]; simp [stepG.apply, hr, Frame.at])
  refine ⟨e, a', w₃, hq, .of_steps (.head hen (hst.trans (.one ?_))) harr⟩
  rw [← hfin]
  exact step_leave_returned hlv
/-- the end of a region -/
theorem OpsAt.nil (h : Q .normal a w) : OpsAt P ops Q [] a w := fun _ _ _ => ⟨.normal, a, w, h, .one step_region_end⟩
variable {c cap s r : Nat} {buf : Array Value} {z v : Value} {tm closed : Bool}
/-- 'c <- v', there being room -/
theorem OpsAt.send (ho : ops[i]? = some o) (hw : Region.wanted o (yielded ops a.tmps) = true) (hr : (execOp a.eval o).run P w = .ok (.comm #[scase c v z] true .send) w)
    (hc : w.heap[c]? = some (.chan cap buf false s r tm)) (hroom : buf.size < cap)
    (h : OpsAt P ops Q rest (a.put o.dst undef) (w.setChan c cap (buf.push v) false (s + 1) r tm)) : OpsAt P ops Q (i :: rest) a w :=
  .comm ho hw hr (fun _ _ _ hs => step_lone_send_room hs hc hroom) h
/-- a select of one receive with a default: something lies there -/
theorem OpsAt.selRecv (ho : ops[i]? = some o) (hw : Region.wanted o (yielded ops a.tmps) = true) (hr : (execOp a.eval o).run P w = .ok (.comm #[rcase c z] false .select) w)
    (hc : w.heap[c]? = some (.chan cap buf closed s r tm)) (hsome : 0 < buf.size)
    (h : OpsAt P ops Q rest (a.put o.dst (.tuple #[goInt 0, .bool true, buf.getD 0 undef])) (w.setChan c cap (buf.extract 1 buf.size) closed s (r + 1) tm)) : OpsAt P ops Q (i :: rest) a w :=
  .comm ho hw hr (fun _ _ _ hs => step_lone_select_recv_buf hs hc hsome) h
/-- .. nothing does -/
theorem OpsAt.selDefault (ho : ops[i]? = some o) (hw : Region.wanted o (yielded ops a.tmps) = true) (hr : (execOp a.eval o).run P w = .ok (.comm #[rcase c z] false .select) w)
    (hc : w.heap[c]? = some (.chan cap #[] false s r tm))
    (h : OpsAt P ops Q rest (a.put o.dst (.tuple #[goInt (-1), .bool false, z])) w) : OpsAt P ops Q (i :: rest) a w :=
  .comm ho hw hr (fun _ _ _ hs => step_lone_select_default hs hc) h
end
end Go.Pan
