import Derived.Test.YtfcbaegkppkfkaaRwV
import Derived.Test.YtfcbaegkppkfkaaRwL
namespace Go.Proofs.Ytfcbaegkppkfkaa
open Go Go.RowKit Go.Pan

set_option maxHeartbeats 1600000 in
set_option maxRecDepth 100000 in
/-- row.taking where the row is raised: the size takes its place, another comes out -/
theorem taking_pan (u : Value) (xs : List Int) (x : Int) (w : World) (hu : OwnI w u xs) (h0 : 0 < xs.length) (h9 : xs.length ≤ 9) (ht : x < topP xs) (k : Nat) (fd : Bool) (hk : k < xs.length)
    (hS : ∀ W, OwnI W u xs → Calls Try.prog 67 #[u, .int .i64 x] W fun e w' => e = .returned (.tuple #[.int .i64 k, .bool fd]) ∧ w' = W) :
    Calls Try.prog 62 #[u, .int .i64 x] w fun e w' => e = .returned (.tuple #[u, .int .i64 (xs[k])]) ∧ OwnI w' u (xs.set k x) ∧ w.grownBy w' u.ownBlock := by
  have hmf : ∀ (fn : Fn) (first cap : Array Value) (w : World), (Instr.makeFunc fn first cap).run Try.prog w = .ok (.func fn first cap) w := fun _ _ _ _ => rfl
  have HU := Lib.hid hu
  have HS := Lib.hid hS
  have HT := Lib.hid ht
  obtain ⟨ad, cap, rfl, _, _, _⟩ := hu.shape
  obtain ⟨g, o, rfl, hg, hcr, _⟩ := Own.at hu (by omega)
  clear hu hS ht hcr
  go_enter_defers Try.func62, Try.ntmps62
  go_wp2_with fail
  have HU3 := Lib.hid (((HU.out.alloc (.cells #[.int .i64 x] 3)).alloc (.cells #[.slice none 0 0] 61)).alloc (.cells #[.int .i64 0] 3))
  refine (ended_pan _ xs x _ HU3.out h0 h9 HT.out).mono ?_
  rintro e w2 ⟨rfl, rfl⟩
  obtain ⟨w2, hw2⟩ : ∃ w2, ((w.alloc (.cells #[.int .i64 x] 3)).alloc (.cells #[.slice none 0 0] 61)).alloc (.cells #[.int .i64 0] 3) = w2 := ⟨_, rfl⟩
  have hb0 : Blk w2 w.heap.size 3 [.int .i64 x] := by rw [← hw2]; exact ((Blk.new w 3 [.int .i64 x] _ rfl).alloc _).alloc _
  have hb1 : Blk w2 (w.heap.size + 1) 61 [.slice none 0 0] := by rw [← hw2]; exact (Blk.new _ 61 [.slice none 0 0] (w.heap.size + 1) (by simp)).alloc _
  have hb2 : Blk w2 (w.heap.size + 1 + 1) 3 [.int .i64 0] := by rw [← hw2]; exact Blk.new _ 3 [.int .i64 0] (w.heap.size + 1 + 1) (by simp)
  rw [hw2] at HU3 ⊢
  obtain ⟨g', o', he, hg2, hcr, hfz⟩ := Own.at HU3.out (by omega)
  simp only [Option.some.injEq, Addr.mk.injEq, and_true] at he
  obtain ⟨rfl, rfl⟩ := he
  have hy := hcr k (by omega)
  rw [List.getElem?_map, List.getElem?_eq_getElem hk] at hy
  refine leaves_cons (f := 66) (args := #[.pointer (some ⟨w.heap.size, 0, none⟩), .pointer (some ⟨w.heap.size + 1, 0, none⟩), .pointer (some ⟨w.heap.size + 1 + 1, 0, none⟩)]) (by simp) (by simp [go_sem]) ?_
  refine (takingC_pan w.heap.size (w.heap.size + 1) (w.heap.size + 1 + 1) g o xs.length cap xs x 0 (.slice none 0 0) k fd [] w2 hk (xs[k]) ⟨_, _, _, rfl⟩ hb0 hb1 hb2 hy (fun j => hfz j) (by omega) (HS.out w2 HU3.out)).mono ?_
  rintro e u' w3 ⟨rfl, rfl, rfl⟩
  have k1 := ((hb1.set 0 (.slice (some ⟨g, o, none⟩) xs.length cap)).other (a := ⟨w.heap.size + 1 + 1, 0, none⟩) (by simp) (.int .i64 (xs[k]))).other (a := ⟨g, o + k, none⟩) (by simp; omega) (.int .i64 x)
  have k2 := ((hb2.other (a := ⟨w.heap.size + 1, 0, none⟩) (by simp) (.slice (some ⟨g, o, none⟩) xs.length cap)).set 0 (.int .i64 (xs[k]))).other (a := ⟨g, o + k, none⟩) (by simp; omega) (.int .i64 x)
  have r1 : (((w2.setCell ⟨w.heap.size + 1, 0, none⟩ (.slice (some ⟨g, o, none⟩) xs.length cap)).setCell ⟨w.heap.size + 1 + 1, 0, none⟩ (.int .i64 (xs[k]))).setCell ⟨g, o + k, none⟩ (.int .i64 x)).cell? ⟨w.heap.size + 1, 0, none⟩ = some (.slice (some ⟨g, o, none⟩) xs.length cap) := k1.cell 0
  have r2 : (((w2.setCell ⟨w.heap.size + 1, 0, none⟩ (.slice (some ⟨g, o, none⟩) xs.length cap)).setCell ⟨w.heap.size + 1 + 1, 0, none⟩ (.int .i64 (xs[k]))).setCell ⟨g, o + k, none⟩ (.int .i64 x)).cell? ⟨w.heap.size + 1 + 1, 0, none⟩ = some (.int .i64 (xs[k])) := k2.cell 0
  simp [Leaves, settle, results, Try.results62, go_sem, r1, r2]
  have hz2 : w2.heap.size = w.heap.size + 1 + 1 + 1 := by rw [← hw2]; simp
  have ho : OwnI ((w2.setCell ⟨w.heap.size + 1, 0, none⟩ (.slice (some ⟨g, o, none⟩) xs.length cap)).setCell ⟨w.heap.size + 1 + 1, 0, none⟩ (.int .i64 (xs[k]))) (.slice (some ⟨g, o, none⟩) xs.length cap) xs := HU3.out.kept fun j hj => by
    have e : g = j := by simpa [Value.ownBlock] using hj
    subst e
    exact (heap_setCell_other _ _ g _ (by simp; omega)).trans (heap_setCell_other _ _ g _ (by simp; omega))
  refine ⟨ho.put hk x, ⟨by rw [← hw2]; rfl, by rw [← hw2]; rfl, by rw [← hw2]; rfl, by simp; omega, fun j hj hne => ?_⟩⟩
  have hjg : j ≠ g := fun e => hne (by rw [e]; rfl)
  rw [heap_setCell_other _ ⟨g, o + k, none⟩ j _ hjg, heap_setCell_other _ ⟨w.heap.size + 1 + 1, 0, none⟩ j _ (by simp; omega), heap_setCell_other _ ⟨w.heap.size + 1, 0, none⟩ j _ (by simp; omega), ← hw2, Below.heap_alloc _ _ j (by simp; omega), Below.heap_alloc _ _ j (by simp; omega), Below.heap_alloc _ _ j hj]

end Go.Proofs.Ytfcbaegkppkfkaa
