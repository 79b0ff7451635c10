import Derived.Test.YtfcbaegkppkfkaaRwT
import Derived.Tactics
import Derived.Tactics2
import Derived.Defers
import Derived.Recover
import Derived.Laws.Pointers
namespace Go.Proofs.Ytfcbaegkppkfkaa
open Go Go.RowKit Go.Pan

set_option maxHeartbeats 1600000 in
set_option maxRecDepth 100000 in
/-- row.taking's closure where the row was raised -/
theorem takingC_pan (b0 b1 b2 : Nat) (g o n c : Nat) (xs : List Int) (x y1 : Int) (v1 : Value) (k : Nat) (fd : Bool) (older : List PanicEntry) (w : World) (hk : k < n) (y : Int)
    (hv1 : ∃ a m d, v1 = .slice a m d) (h0 : Blk w b0 3 [.int .i64 x]) (h1 : Blk w b1 61 [v1]) (h2 : Blk w b2 3 [.int .i64 y1]) (hy : w.cell? ⟨g, o + k, none⟩ = some (.int .i64 y)) (hfz : ∀ j, w.frozen? ⟨g, j, none⟩ = false) (hd : b1 ≠ g ∧ b2 ≠ g ∧ b0 ≠ g ∧ b0 ≠ b1 ∧ b0 ≠ b2 ∧ b1 ≠ b2)
    (hS : Calls Try.prog 67 #[.slice (some ⟨g, o, none⟩) n c, .int .i64 x] w fun e w' => e = .returned (.tuple #[.int .i64 k, .bool fd]) ∧ w' = w) :
    CallsD Try.prog 66 #[.pointer (some ⟨b0, 0, none⟩), .pointer (some ⟨b1, 0, none⟩), .pointer (some ⟨b2, 0, none⟩)] (.panicking ({ v := .iface 61 (.slice (some ⟨g, o, none⟩) n c), recovered := false } :: older)) w fun e u' w' =>
      e = .returned (.tuple #[]) ∧ u' = .panicking ({ v := .iface 61 (.slice (some ⟨g, o, none⟩) n c), recovered := true } :: older) ∧ w' = ((w.setCell ⟨b1, 0, none⟩ (.slice (some ⟨g, o, none⟩) n c)).setCell ⟨b2, 0, none⟩ (.int .i64 y)).setCell ⟨g, o + k, none⟩ (.int .i64 x) := by
  have hta : ∀ w : World, Sem.run Try.prog (Instr.typeAssert (Value.iface 61 (.slice (some ⟨g, o, none⟩) n c)) 20 61 false) w = .ok (.slice (some ⟨g, o, none⟩) n c) w := fun w => by
    first | rfl | (simp [Instr.typeAssert, go_sem]; done)
  refine callsD_of_wpS Try.func66 rfl fun c₀ cs hu => ?_
  apply wpS_seq
  apply wpS_region
  simp [wpOpsS, go_sem, recoverD, hu, Try.ntmps66, Exit.thenS]
  apply wpS_seq
  apply wpS_region
  simp [wpOpsS, go_sem, Exit.thenS]
  refine wpS_cond (t := true) (by simp [Act.eval, Array.replicate]) ?_
  simp only [if_true]
  apply wpS_seq
  apply wpS_region
  simp [wpOpsS, go_sem, Exit.thenS, hta, Result.andThen]
  refine wpS_of_wp ?_
  obtain ⟨a, m, d, rfl⟩ := hv1
  have hkn : (k : Int) < (n : Int) := by omega
  have hc0 : w.cell? ⟨b0, 0, none⟩ = some (.int .i64 x) := h0.cell 0
  have hc1 : w.cell? ⟨b1, 0, none⟩ = some (.slice a m d) := h1.cell 0
  have hf1 := h1.frozen 0
  have k2 := h2.other (a := ⟨b1, 0, none⟩) (fun e => hd.2.2.2.2.2 e.symm) (.slice (some ⟨g, o, none⟩) n c)
  have hc2 : (w.setCell ⟨b1, 0, none⟩ (.slice (some ⟨g, o, none⟩) n c)).cell? ⟨b2, 0, none⟩ = some (.int .i64 y1) := k2.cell 0
  have hf2 := k2.frozen 0
  have k0 := (h0.other (a := ⟨b1, 0, none⟩) hd.2.2.2.1 (.slice (some ⟨g, o, none⟩) n c)).other (a := ⟨b2, 0, none⟩) hd.2.2.2.2.1 (.int .i64 y)
  have hc3 : ((w.setCell ⟨b1, 0, none⟩ (.slice (some ⟨g, o, none⟩) n c)).setCell ⟨b2, 0, none⟩ (.int .i64 y)).cell? ⟨b0, 0, none⟩ = some (.int .i64 x) := k0.cell 0
  have hgb : ((w.setCell ⟨b1, 0, none⟩ (.slice (some ⟨g, o, none⟩) n c)).setCell ⟨b2, 0, none⟩ (.int .i64 y)).heap[g]? = w.heap[g]? := (heap_setCell_other _ _ g _ (fun e => hd.2.1 e.symm)).trans (heap_setCell_other w _ g _ (fun e => hd.1 e.symm))
  have hc4 : ((w.setCell ⟨b1, 0, none⟩ (.slice (some ⟨g, o, none⟩) n c)).setCell ⟨b2, 0, none⟩ (.int .i64 y)).cell? ⟨g, o + k, none⟩ = some (.int .i64 y) := (World.cell?_of_block hgb).trans hy
  have hf4 : ∀ j, ((w.setCell ⟨b1, 0, none⟩ (.slice (some ⟨g, o, none⟩) n c)).setCell ⟨b2, 0, none⟩ (.int .i64 y)).frozen? ⟨g, j, none⟩ = false := fun j => (World.frozen?_of_block hgb).trans (hfz j)
  clear hgb k0 k2 h0 h1 h2 hd
  go_wp2_with fail
  refine hS.mono ?_
  rintro e w2 ⟨rfl, rfl⟩
  go_wp2
  clear hta hc0 hc1 hf1 hc2 hf2 hc3 hc4 hf4 hS
  cases c₀
  simp_all [bodyPostS, results, Try.results66]

end Go.Proofs.Ytfcbaegkppkfkaa
