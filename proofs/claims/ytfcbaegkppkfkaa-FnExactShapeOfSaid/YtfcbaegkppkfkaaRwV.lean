import Derived.Test.YtfcbaegkppkfkaaRwU
namespace Go.Proofs.Ytfcbaegkppkfkaa
open Go Go.RowKit Go.Pan

set_option maxHeartbeats 1600000 in
set_option maxRecDepth 100000 in
/-- row.taking where the row takes the size at its end -/
theorem taking_ok (u : Value) (xs : List Int) (x : Int) (w : World) (hu : OwnI w u xs) (h9 : xs.length ≤ 9) (ht : 0 < xs.length → ¬ x < topP xs) :
    Calls Try.prog 62 #[u, .int .i64 x] w fun e w' => ∃ u1, e = .returned (.tuple #[u1, .int .i64 0]) ∧ OwnI w' u1 (xs ++ [x]) ∧ (∀ g, u1.ownBlock = some g → u.ownBlock = some g ∨ w.heap.size ≤ g) ∧ w.grownBy w' u.ownBlock := by
  have hmf : ∀ (fn : Fn) (first cap : Array Value) (w : World), (Instr.makeFunc fn first cap).run Try.prog w = .ok (.func fn first cap) w := fun _ _ _ _ => rfl
  have HU := Lib.hid hu
  obtain ⟨ad, cap, rfl, _, _, _⟩ := hu.shape
  clear hu
  go_enter_defers Try.func62, Try.ntmps62
  go_wp2_with fail
  refine (ended_ok _ xs x _ (((HU.out.alloc _).alloc _).alloc _) h9 (fun h => by have := ht h; omega)).mono ?_
  rintro e w2 ⟨u1, rfl, ho1, hat1, hgr1⟩
  obtain ⟨a1, c1, rfl, _, _, _⟩ := ho1.shape
  have hun : ∀ j, w.heap.size ≤ j → (Value.slice ad xs.length cap).ownBlock ≠ some j := fun j hj e => by have := HU.out.lt j e; omega
  have hb1 : Blk w2 (w.heap.size + 1) 61 [.slice none 0 0] := ((Blk.new _ 61 [.slice none 0 0] (w.heap.size + 1) (by simp)).alloc _).grown hgr1 (hun _ (by omega))
  have hb2 : Blk w2 (w.heap.size + 1 + 1) 3 [.int .i64 0] := (Blk.new _ 3 [.int .i64 0] (w.heap.size + 1 + 1) (by simp)).grown hgr1 (hun _ (by omega))
  have hc1 : w2.cell? ⟨w.heap.size + 1, 0, none⟩ = some (.slice none 0 0) := hb1.cell 0
  have hf1 := hb1.frozen 0
  have hb2' := hb2.other (a := ⟨w.heap.size + 1, 0, none⟩) (by simp) (.slice a1 (xs ++ [x]).length c1)
  have hc2 : (w2.setCell ⟨w.heap.size + 1, 0, none⟩ (.slice a1 (xs ++ [x]).length c1)).cell? ⟨w.heap.size + 1 + 1, 0, none⟩ = some (.int .i64 0) := hb2'.cell 0
  have hf2 := hb2'.frozen 0
  rw [show (xs ++ [x]).length = xs.length + 1 by simp] at hc2 hf2
  go_wp2_with fail
  refine leaves_cons (f := 66) (args := #[.pointer (some ⟨w.heap.size, 0, none⟩), .pointer (some ⟨w.heap.size + 1, 0, none⟩), .pointer (some ⟨w.heap.size + 1 + 1, 0, none⟩)]) (by simp) (by simp [go_sem]) ?_
  refine (takingC_idle _ _ _ _).mono ?_
  rintro e u' w3 ⟨rfl, rfl, rfl⟩
  have hl : (xs ++ [x]).length = xs.length + 1 := by simp
  rw [hl] at ho1 hat1 hb2'
  have k1 := (hb1.set 0 (.slice a1 (xs.length + 1) c1)).other (a := ⟨w.heap.size + 1 + 1, 0, none⟩) (by simp) (.int .i64 0)
  have k2 := hb2'.set 0 (.int .i64 0)
  have r1 : ((w2.setCell ⟨w.heap.size + 1, 0, none⟩ (.slice a1 (xs.length + 1) c1)).setCell ⟨w.heap.size + 1 + 1, 0, none⟩ (.int .i64 0)).cell? ⟨w.heap.size + 1, 0, none⟩ = some (.slice a1 (xs.length + 1) c1) := k1.cell 0
  have r2 : ((w2.setCell ⟨w.heap.size + 1, 0, none⟩ (.slice a1 (xs.length + 1) c1)).setCell ⟨w.heap.size + 1 + 1, 0, none⟩ (.int .i64 0)).cell? ⟨w.heap.size + 1 + 1, 0, none⟩ = some (.int .i64 0) := k2.cell 0
  simp [Leaves, settle, results, Try.results62, go_sem, r1, r2]
  have hz := hgr1.size
  have hz' : w.heap.size + 1 + 1 + 1 ≤ w2.heap.size := by simpa using hz
  have hat : ∀ g, (Value.slice a1 (xs.length + 1) c1).ownBlock = some g → (Value.slice ad xs.length cap).ownBlock = some g ∨ w.heap.size + 1 + 1 + 1 ≤ g := by simpa using hat1
  have hne : ∀ g, (Value.slice a1 (xs.length + 1) c1).ownBlock = some g → g ≠ w.heap.size + 1 ∧ g ≠ w.heap.size + 1 + 1 := fun g hg => by
    rcases hat g hg with h | h
    · have := HU.out.lt g h; omega
    · omega
  refine ⟨ho1.kept fun g hg => (heap_setCell_other _ _ g _ (hne g hg).2).trans (heap_setCell_other _ _ g _ (hne g hg).1), fun g hg => (hat g hg).imp_right fun h => by omega, ⟨hgr1.os, hgr1.tape, hgr1.output, by simp; omega, fun k hk hnk => ?_⟩⟩
  have e1 := heap_setCell_other (w2.setCell ⟨w.heap.size + 1, 0, none⟩ (.slice a1 (xs.length + 1) c1)) ⟨w.heap.size + 1 + 1, 0, none⟩ k (.int .i64 0) (by simp; omega)
  have e2 := heap_setCell_other w2 ⟨w.heap.size + 1, 0, none⟩ k (.slice a1 (xs.length + 1) c1) (by simp; omega)
  rw [e1, e2, hgr1.block k (by simp; omega) hnk, Below.heap_alloc _ _ k (by simp; omega), Below.heap_alloc _ _ k (by simp; omega), Below.heap_alloc _ _ k hk]

end Go.Proofs.Ytfcbaegkppkfkaa
