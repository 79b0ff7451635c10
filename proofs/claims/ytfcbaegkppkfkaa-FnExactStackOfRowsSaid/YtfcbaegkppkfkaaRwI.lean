import Derived.Test.YtfcbaegkppkfkaaPsA
import Derived.Test.YtfcbaegkppkfkaaS1
import Derived.Test.YtfcbaegkppkfkaaRwL
import Derived.Test.YtfcbaegkppkfkaaRwN
import Derived.Test.YtfcbaegkppkfkaaPsS
import Derived.Test.YtfcbaegkppkfkaaI2
import Derived.WalkLawsBesides
import Derived.Tactics
import Derived.Tactics2
import Derived.Defers
import Derived.Recover
import Derived.Laws.Pointers
import Derived.Deep.AppendLies
import Derived.Lib.SliceRun
namespace Go.Proofs.Ytfcbaegkppkfkaa
open Go Go.RowKit Go.Pan

theorem Try.intSlRow : IntSl Try.prog 61 3 := ⟨Try.underlying61, Try.intSl.i⟩

/-- a size at the end of a row that can take it there -/
theorem ended_ok (u : Value) (xs : List Int) (x : Int) (w : World) (hu : OwnI w u xs) (h9 : xs.length ≤ 9) (ht : 0 < xs.length → ¬ x < topP xs) :
    Calls Try.prog 68 #[u, .int .i64 x] w fun e w' => ∃ u1, e = .returned u1 ∧ OwnI w' u1 (xs ++ [x]) ∧ (∀ g, u1.ownBlock = some g → u.ownBlock = some g ∨ w.heap.size ≤ g) ∧ w.grownBy w' u.ownBlock := by
  obtain ⟨ad, cap, rfl, _, _, _⟩ := hu.shape
  have hlq : xs.length ≤ 1048576 := by omega
  by_cases h0 : 0 < xs.length
  · obtain ⟨g, o, rfl, hg, hcr, _⟩ := Own.at hu (by omega)
    obtain ⟨l1, hl1⟩ : ∃ l1, xs.length = l1 + 1 := ⟨xs.length - 1, by omega⟩
    have hct := hcr l1 (by omega)
    have hty : topP xs = xs[l1] := by unfold topP; rw [List.getD_eq_getElem?_getD, show xs.length - 1 = l1 by omega, List.getElem?_eq_getElem (by omega)]; rfl
    rw [List.getElem?_map, List.getElem?_eq_getElem (by omega), ← hty] at hct
    have hct' : w.cell? ⟨g, o + l1, none⟩ = some (.int .i64 (topP xs)) := hct
    have hs1 : IntKind.i64.wrap ((xs.length : Int) - 1) = (l1 : Int) := by rw [hl1]; push_cast; rw [Int.add_sub_cancel]; exact IntWalk.i64_in _ (by omega)
    have hl2 : (l1 : Int) < (xs.length : Int) := by omega
    have h0' : (0 : Int) < (xs.length : Int) := by omega
    have ht' := ht h0
    have HU := Lib.hid hu
    clear hcr hct hty hu hl1 ht
    go_enter Try.func68, Try.ntmps68
    go_wp2_with (at_builtin; refine wpList_app1D Try.intSlRow rfl _ _ rfl (.slice (some ⟨g, o, none⟩) xs.length cap) xs rfl (HU.out.alloc _) w.heap.size x rfl (Blk.cell (cs := [iv x]) (heap_alloc_new _ _) 0) hlq (w.heap.size + 1) (by simp) ?_; intro v2 w2 ho2 hat2 hgr2)
    go_ret
    exact ⟨v2, rfl, ho2, fun b hb => (hat2 b hb).imp_right fun h => by omega, ⟨hgr2.os, hgr2.tape, hgr2.output, by have := hgr2.size; simp at this; omega, fun k hk hne => (hgr2.block k (by simp; omega) hne).trans (Below.heap_alloc w _ k hk)⟩⟩
  · obtain rfl : xs = [] := List.eq_nil_of_length_eq_zero (by omega)
    have HU := Lib.hid hu
    clear hu ht h0
    go_enter Try.func68, Try.ntmps68
    go_wp2_with (at_builtin; refine wpList_app1D Try.intSlRow rfl _ _ rfl (.slice ad 0 cap) [] rfl (HU.out.alloc _) w.heap.size x rfl (Blk.cell (cs := [iv x]) (heap_alloc_new _ _) 0) hlq (w.heap.size + 1) (by simp) ?_; intro v2 w2 ho2 hat2 hgr2)
    go_ret
    exact ⟨v2, rfl, ho2, fun b hb => (hat2 b hb).imp_right fun h => by omega, ⟨hgr2.os, hgr2.tape, hgr2.output, by have := hgr2.size; simp at this; omega, fun k hk hne => (hgr2.block k (by simp; omega) hne).trans (Below.heap_alloc w _ k hk)⟩⟩

/-- a row that has a greater size is raised -/
theorem ended_pan (u : Value) (xs : List Int) (x : Int) (w : World) (hu : OwnI w u xs) (h0 : 0 < xs.length) (h9 : xs.length ≤ 9) (ht : x < topP xs) :
    Calls Try.prog 68 #[u, .int .i64 x] w fun e w' => e = .panicked [{ v := .iface 61 u, recovered := false }] ∧ w' = w := by
  obtain ⟨ad, cap, rfl, _, _, _⟩ := hu.shape
  obtain ⟨g, o, rfl, hg, hcr, _⟩ := Own.at hu (by omega)
  obtain ⟨l1, hl1⟩ : ∃ l1, xs.length = l1 + 1 := ⟨xs.length - 1, by omega⟩
  have hct := hcr l1 (by omega)
  have hty : topP xs = xs[l1] := by unfold topP; rw [List.getD_eq_getElem?_getD, show xs.length - 1 = l1 by omega, List.getElem?_eq_getElem (by omega)]; rfl
  rw [List.getElem?_map, List.getElem?_eq_getElem (by omega), ← hty] at hct
  have hct' : w.cell? ⟨g, o + l1, none⟩ = some (.int .i64 (topP xs)) := hct
  have hs1 : IntKind.i64.wrap ((xs.length : Int) - 1) = (l1 : Int) := by rw [hl1]; push_cast; rw [Int.add_sub_cancel]; exact IntWalk.i64_in _ (by omega)
  have hl2 : (l1 : Int) < (xs.length : Int) := by omega
  have h0' : (0 : Int) < (xs.length : Int) := by omega
  clear hcr hct hty hu hl1
  go_enter Try.func68, Try.ntmps68
  go_wp2
  exact ⟨rfl, rfl, rfl⟩

end Go.Proofs.Ytfcbaegkppkfkaa

namespace Go.Proofs.Ytfcbaegkppkfkaa
open Go Go.RowKit Go.Pan

/-- row.taking's closure where nothing was raised -/
theorem takingC_idle (p q r : Value) (w : World) :
    CallsD Try.prog 66 #[p, q, r] .returning w fun e u' w' => e = .returned (.tuple #[]) ∧ u' = .returning ∧ w' = w := by
  refine callsD_of_wpS Try.func66 rfl fun c₀ cs hu => ?_
  apply wpS_seq
  apply wpS_region
  simp [wpOpsS, go_sem, recoverD, hu, Try.ntmps66, Exit.thenS]
  apply wpS_seq
  apply wpS_region
  simp [wpOpsS, go_sem, Exit.thenS]
  refine wpS_cond (t := false) (by simp [Act.eval, Array.replicate]) ?_
  simp only [Bool.false_eq_true, if_false]
  refine wpS_of_wp (wp_skip ?_)
  cases c₀
  simp_all [bodyPostS, results, Try.results66]

end Go.Proofs.Ytfcbaegkppkfkaa

namespace Go.Proofs.Ytfcbaegkppkfkaa
open Go Go.RowKit Go.Pan

set_option maxHeartbeats 1600000 in
set_option maxRecDepth 100000 in
/-- row.taking's closure where the row was raised -/
theorem takingC_pan (b0 b1 b2 : Nat) (g o n c : Nat) (xs : List Int) (x y1 : Int) (v1 : Value) (k : Nat) (fd : Bool) (older : List PanicEntry) (w : World) (hk : k < n) (y : Int)
    (hv1 : ∃ a m d, v1 = .slice a m d) (h0 : Blk w b0 3 [.int .i64 x]) (h1 : Blk w b1 61 [v1]) (h2 : Blk w b2 3 [.int .i64 y1]) (hy : w.cell? ⟨g, o + k, none⟩ = some (.int .i64 y)) (hfz : ∀ j, w.frozen? ⟨g, j, none⟩ = false) (hd : b1 ≠ g ∧ b2 ≠ g ∧ b0 ≠ g ∧ b0 ≠ b1 ∧ b0 ≠ b2 ∧ b1 ≠ b2)
    (hS : Calls Try.prog 67 #[.slice (some ⟨g, o, none⟩) n c, .int .i64 x] w fun e w' => e = .returned (.tuple #[.int .i64 k, .bool fd]) ∧ w' = w) :
    CallsD Try.prog 66 #[.pointer (some ⟨b0, 0, none⟩), .pointer (some ⟨b1, 0, none⟩), .pointer (some ⟨b2, 0, none⟩)] (.panicking ({ v := .iface 61 (.slice (some ⟨g, o, none⟩) n c), recovered := false } :: older)) w fun e u' w' =>
      e = .returned (.tuple #[]) ∧ u' = .panicking ({ v := .iface 61 (.slice (some ⟨g, o, none⟩) n c), recovered := true } :: older) ∧ w' = ((w.setCell ⟨b1, 0, none⟩ (.slice (some ⟨g, o, none⟩) n c)).setCell ⟨b2, 0, none⟩ (.int .i64 y)).setCell ⟨g, o + k, none⟩ (.int .i64 x) := by
  have hta : ∀ w : World, Sem.run Try.prog (Instr.typeAssert (Value.iface 61 (.slice (some ⟨g, o, none⟩) n c)) 20 61 false) w = .ok (.slice (some ⟨g, o, none⟩) n c) w := fun w => by
    first | rfl | (simp [Instr.typeAssert, go_sem]; done)
  refine callsD_of_wpS Try.func66 rfl fun c₀ cs hu => ?_
  apply wpS_seq
  apply wpS_region
  simp [wpOpsS, go_sem, recoverD, hu, Try.ntmps66, Exit.thenS]
  apply wpS_seq
  apply wpS_region
  simp [wpOpsS, go_sem, Exit.thenS]
  refine wpS_cond (t := true) (by simp [Act.eval, Array.replicate]) ?_
  simp only [if_true]
  apply wpS_seq
  apply wpS_region
  simp [wpOpsS, go_sem, Exit.thenS, hta, Result.andThen]
  refine wpS_of_wp ?_
  obtain ⟨a, m, d, rfl⟩ := hv1
  have hkn : (k : Int) < (n : Int) := by omega
  have hc0 : w.cell? ⟨b0, 0, none⟩ = some (.int .i64 x) := h0.cell 0
  have hc1 : w.cell? ⟨b1, 0, none⟩ = some (.slice a m d) := h1.cell 0
  have hf1 := h1.frozen 0
  have k2 := h2.other (a := ⟨b1, 0, none⟩) (fun e => hd.2.2.2.2.2 e.symm) (.slice (some ⟨g, o, none⟩) n c)
  have hc2 : (w.setCell ⟨b1, 0, none⟩ (.slice (some ⟨g, o, none⟩) n c)).cell? ⟨b2, 0, none⟩ = some (.int .i64 y1) := k2.cell 0
  have hf2 := k2.frozen 0
  have k0 := (h0.other (a := ⟨b1, 0, none⟩) hd.2.2.2.1 (.slice (some ⟨g, o, none⟩) n c)).other (a := ⟨b2, 0, none⟩) hd.2.2.2.2.1 (.int .i64 y)
  have hc3 : ((w.setCell ⟨b1, 0, none⟩ (.slice (some ⟨g, o, none⟩) n c)).setCell ⟨b2, 0, none⟩ (.int .i64 y)).cell? ⟨b0, 0, none⟩ = some (.int .i64 x) := k0.cell 0
  have hgb : ((w.setCell ⟨b1, 0, none⟩ (.slice (some ⟨g, o, none⟩) n c)).setCell ⟨b2, 0, none⟩ (.int .i64 y)).heap[g]? = w.heap[g]? := (heap_setCell_other _ _ g _ (fun e => hd.2.1 e.symm)).trans (heap_setCell_other w _ g _ (fun e => hd.1 e.symm))
  have hc4 : ((w.setCell ⟨b1, 0, none⟩ (.slice (some ⟨g, o, none⟩) n c)).setCell ⟨b2, 0, none⟩ (.int .i64 y)).cell? ⟨g, o + k, none⟩ = some (.int .i64 y) := (World.cell?_of_block hgb).trans hy
  have hf4 : ∀ j, ((w.setCell ⟨b1, 0, none⟩ (.slice (some ⟨g, o, none⟩) n c)).setCell ⟨b2, 0, none⟩ (.int .i64 y)).frozen? ⟨g, j, none⟩ = false := fun j => (World.frozen?_of_block hgb).trans (hfz j)
  clear hgb k0 k2 h0 h1 h2 hd
  go_wp2_with fail
  refine hS.mono ?_
  rintro e w2 ⟨rfl, rfl⟩
  go_wp2
  clear hta hc0 hc1 hf1 hc2 hf2 hc3 hc4 hf4 hS
  cases c₀
  simp_all [bodyPostS, results, Try.results66]

end Go.Proofs.Ytfcbaegkppkfkaa

namespace Go.Proofs.Ytfcbaegkppkfkaa
open Go Go.RowKit Go.Pan

set_option maxHeartbeats 1600000 in
set_option maxRecDepth 100000 in
/-- row.taking where the row takes the size at its end -/
theorem taking_ok (u : Value) (xs : List Int) (x : Int) (w : World) (hu : OwnI w u xs) (h9 : xs.length ≤ 9) (ht : 0 < xs.length → ¬ x < topP xs) :
    Calls Try.prog 62 #[u, .int .i64 x] w fun e w' => ∃ u1, e = .returned (.tuple #[u1, .int .i64 0]) ∧ OwnI w' u1 (xs ++ [x]) ∧ (∀ g, u1.ownBlock = some g → u.ownBlock = some g ∨ w.heap.size ≤ g) ∧ w.grownBy w' u.ownBlock := by
  have hmf : ∀ (fn : Fn) (first cap : Array Value) (w : World), (Instr.makeFunc fn first cap).run Try.prog w = .ok (.func fn first cap) w := fun _ _ _ _ => rfl
  have HU := Lib.hid hu
  obtain ⟨ad, cap, rfl, _, _, _⟩ := hu.shape
  clear hu
  go_enter_defers Try.func62, Try.ntmps62
  go_wp2_with fail
  refine (ended_ok _ xs x _ (((HU.out.alloc _).alloc _).alloc _) h9 (fun h => by have := ht h; omega)).mono ?_
  rintro e w2 ⟨u1, rfl, ho1, hat1, hgr1⟩
  obtain ⟨a1, c1, rfl, _, _, _⟩ := ho1.shape
  have hun : ∀ j, w.heap.size ≤ j → (Value.slice ad xs.length cap).ownBlock ≠ some j := fun j hj e => by have := HU.out.lt j e; omega
  have hb1 : Blk w2 (w.heap.size + 1) 61 [.slice none 0 0] := ((Blk.new _ 61 [.slice none 0 0] (w.heap.size + 1) (by simp)).alloc _).grown hgr1 (hun _ (by omega))
  have hb2 : Blk w2 (w.heap.size + 1 + 1) 3 [.int .i64 0] := (Blk.new _ 3 [.int .i64 0] (w.heap.size + 1 + 1) (by simp)).grown hgr1 (hun _ (by omega))
  have hc1 : w2.cell? ⟨w.heap.size + 1, 0, none⟩ = some (.slice none 0 0) := hb1.cell 0
  have hf1 := hb1.frozen 0
  have hb2' := hb2.other (a := ⟨w.heap.size + 1, 0, none⟩) (by simp) (.slice a1 (xs ++ [x]).length c1)
  have hc2 : (w2.setCell ⟨w.heap.size + 1, 0, none⟩ (.slice a1 (xs ++ [x]).length c1)).cell? ⟨w.heap.size + 1 + 1, 0, none⟩ = some (.int .i64 0) := hb2'.cell 0
  have hf2 := hb2'.frozen 0
  rw [show (xs ++ [x]).length = xs.length + 1 by simp] at hc2 hf2
  go_wp2_with fail
  refine leaves_cons (f := 66) (args := #[.pointer (some ⟨w.heap.size, 0, none⟩), .pointer (some ⟨w.heap.size + 1, 0, none⟩), .pointer (some ⟨w.heap.size + 1 + 1, 0, none⟩)]) (by simp) (by simp [go_sem]) ?_
  refine (takingC_idle _ _ _ _).mono ?_
  rintro e u' w3 ⟨rfl, rfl, rfl⟩
  have hl : (xs ++ [x]).length = xs.length + 1 := by simp
  rw [hl] at ho1 hat1 hb2'
  have k1 := (hb1.set 0 (.slice a1 (xs.length + 1) c1)).other (a := ⟨w.heap.size + 1 + 1, 0, none⟩) (by simp) (.int .i64 0)
  have k2 := hb2'.set 0 (.int .i64 0)
  have r1 : ((w2.setCell ⟨w.heap.size + 1, 0, none⟩ (.slice a1 (xs.length + 1) c1)).setCell ⟨w.heap.size + 1 + 1, 0, none⟩ (.int .i64 0)).cell? ⟨w.heap.size + 1, 0, none⟩ = some (.slice a1 (xs.length + 1) c1) := k1.cell 0
  have r2 : ((w2.setCell ⟨w.heap.size + 1, 0, none⟩ (.slice a1 (xs.length + 1) c1)).setCell ⟨w.heap.size + 1 + 1, 0, none⟩ (.int .i64 0)).cell? ⟨w.heap.size + 1 + 1, 0, none⟩ = some (.int .i64 0) := k2.cell 0
  simp [Leaves, settle, results, Try.results62, go_sem, r1, r2]
  have hz := hgr1.size
  have hz' : w.heap.size + 1 + 1 + 1 ≤ w2.heap.size := by simpa using hz
  have hat : ∀ g, (Value.slice a1 (xs.length + 1) c1).ownBlock = some g → (Value.slice ad xs.length cap).ownBlock = some g ∨ w.heap.size + 1 + 1 + 1 ≤ g := by simpa using hat1
  have hne : ∀ g, (Value.slice a1 (xs.length + 1) c1).ownBlock = some g → g ≠ w.heap.size + 1 ∧ g ≠ w.heap.size + 1 + 1 := fun g hg => by
    rcases hat g hg with h | h
    · have := HU.out.lt g h; omega
    · omega
  refine ⟨ho1.kept fun g hg => (heap_setCell_other _ _ g _ (hne g hg).2).trans (heap_setCell_other _ _ g _ (hne g hg).1), fun g hg => (hat g hg).imp_right fun h => by omega, ⟨hgr1.os, hgr1.tape, hgr1.output, by simp; omega, fun k hk hnk => ?_⟩⟩
  have e1 := heap_setCell_other (w2.setCell ⟨w.heap.size + 1, 0, none⟩ (.slice a1 (xs.length + 1) c1)) ⟨w.heap.size + 1 + 1, 0, none⟩ k (.int .i64 0) (by simp; omega)
  have e2 := heap_setCell_other w2 ⟨w.heap.size + 1, 0, none⟩ k (.slice a1 (xs.length + 1) c1) (by simp; omega)
  rw [e1, e2, hgr1.block k (by simp; omega) hnk, Below.heap_alloc _ _ k (by simp; omega), Below.heap_alloc _ _ k (by simp; omega), Below.heap_alloc _ _ k hk]

end Go.Proofs.Ytfcbaegkppkfkaa

namespace Go.Proofs.Ytfcbaegkppkfkaa
open Go Go.RowKit Go.Pan

set_option maxHeartbeats 1600000 in
set_option maxRecDepth 100000 in
/-- row.taking where the row is raised: the size takes its place, another comes out -/
theorem taking_pan (u : Value) (xs : List Int) (x : Int) (w : World) (hu : OwnI w u xs) (h0 : 0 < xs.length) (h9 : xs.length ≤ 9) (ht : x < topP xs) (k : Nat) (fd : Bool) (hk : k < xs.length)
    (hS : ∀ W, OwnI W u xs → Calls Try.prog 67 #[u, .int .i64 x] W fun e w' => e = .returned (.tuple #[.int .i64 k, .bool fd]) ∧ w' = W) :
    Calls Try.prog 62 #[u, .int .i64 x] w fun e w' => e = .returned (.tuple #[u, .int .i64 (xs[k])]) ∧ OwnI w' u (xs.set k x) ∧ w.grownBy w' u.ownBlock := by
  have hmf : ∀ (fn : Fn) (first cap : Array Value) (w : World), (Instr.makeFunc fn first cap).run Try.prog w = .ok (.func fn first cap) w := fun _ _ _ _ => rfl
  have HU := Lib.hid hu
  have HS := Lib.hid hS
  have HT := Lib.hid ht
  obtain ⟨ad, cap, rfl, _, _, _⟩ := hu.shape
  obtain ⟨g, o, rfl, hg, hcr, _⟩ := Own.at hu (by omega)
  clear hu hS ht hcr
  go_enter_defers Try.func62, Try.ntmps62
  go_wp2_with fail
  have HU3 := Lib.hid (((HU.out.alloc (.cells #[.int .i64 x] 3)).alloc (.cells #[.slice none 0 0] 61)).alloc (.cells #[.int .i64 0] 3))
  refine (ended_pan _ xs x _ HU3.out h0 h9 HT.out).mono ?_
  rintro e w2 ⟨rfl, rfl⟩
  obtain ⟨w2, hw2⟩ : ∃ w2, ((w.alloc (.cells #[.int .i64 x] 3)).alloc (.cells #[.slice none 0 0] 61)).alloc (.cells #[.int .i64 0] 3) = w2 := ⟨_, rfl⟩
  have hb0 : Blk w2 w.heap.size 3 [.int .i64 x] := by rw [← hw2]; exact ((Blk.new w 3 [.int .i64 x] _ rfl).alloc _).alloc _
  have hb1 : Blk w2 (w.heap.size + 1) 61 [.slice none 0 0] := by rw [← hw2]; exact (Blk.new _ 61 [.slice none 0 0] (w.heap.size + 1) (by simp)).alloc _
  have hb2 : Blk w2 (w.heap.size + 1 + 1) 3 [.int .i64 0] := by rw [← hw2]; exact Blk.new _ 3 [.int .i64 0] (w.heap.size + 1 + 1) (by simp)
  rw [hw2] at HU3 ⊢
  obtain ⟨g', o', he, hg2, hcr, hfz⟩ := Own.at HU3.out (by omega)
  simp only [Option.some.injEq, Addr.mk.injEq, and_true] at he
  obtain ⟨rfl, rfl⟩ := he
  have hy := hcr k (by omega)
  rw [List.getElem?_map, List.getElem?_eq_getElem hk] at hy
  refine leaves_cons (f := 66) (args := #[.pointer (some ⟨w.heap.size, 0, none⟩), .pointer (some ⟨w.heap.size + 1, 0, none⟩), .pointer (some ⟨w.heap.size + 1 + 1, 0, none⟩)]) (by simp) (by simp [go_sem]) ?_
  refine (takingC_pan w.heap.size (w.heap.size + 1) (w.heap.size + 1 + 1) g o xs.length cap xs x 0 (.slice none 0 0) k fd [] w2 hk (xs[k]) ⟨_, _, _, rfl⟩ hb0 hb1 hb2 hy (fun j => hfz j) (by omega) (HS.out w2 HU3.out)).mono ?_
  rintro e u' w3 ⟨rfl, rfl, rfl⟩
  have k1 := ((hb1.set 0 (.slice (some ⟨g, o, none⟩) xs.length cap)).other (a := ⟨w.heap.size + 1 + 1, 0, none⟩) (by simp) (.int .i64 (xs[k]))).other (a := ⟨g, o + k, none⟩) (by simp; omega) (.int .i64 x)
  have k2 := ((hb2.other (a := ⟨w.heap.size + 1, 0, none⟩) (by simp) (.slice (some ⟨g, o, none⟩) xs.length cap)).set 0 (.int .i64 (xs[k]))).other (a := ⟨g, o + k, none⟩) (by simp; omega) (.int .i64 x)
  have r1 : (((w2.setCell ⟨w.heap.size + 1, 0, none⟩ (.slice (some ⟨g, o, none⟩) xs.length cap)).setCell ⟨w.heap.size + 1 + 1, 0, none⟩ (.int .i64 (xs[k]))).setCell ⟨g, o + k, none⟩ (.int .i64 x)).cell? ⟨w.heap.size + 1, 0, none⟩ = some (.slice (some ⟨g, o, none⟩) xs.length cap) := k1.cell 0
  have r2 : (((w2.setCell ⟨w.heap.size + 1, 0, none⟩ (.slice (some ⟨g, o, none⟩) xs.length cap)).setCell ⟨w.heap.size + 1 + 1, 0, none⟩ (.int .i64 (xs[k]))).setCell ⟨g, o + k, none⟩ (.int .i64 x)).cell? ⟨w.heap.size + 1 + 1, 0, none⟩ = some (.int .i64 (xs[k])) := k2.cell 0
  simp [Leaves, settle, results, Try.results62, go_sem, r1, r2]
  have hz2 : w2.heap.size = w.heap.size + 1 + 1 + 1 := by rw [← hw2]; simp
  have ho : OwnI ((w2.setCell ⟨w.heap.size + 1, 0, none⟩ (.slice (some ⟨g, o, none⟩) xs.length cap)).setCell ⟨w.heap.size + 1 + 1, 0, none⟩ (.int .i64 (xs[k]))) (.slice (some ⟨g, o, none⟩) xs.length cap) xs := HU3.out.kept fun j hj => by
    have e : g = j := by simpa [Value.ownBlock] using hj
    subst e
    exact (heap_setCell_other _ _ g _ (by simp; omega)).trans (heap_setCell_other _ _ g _ (by simp; omega))
  refine ⟨ho.put hk x, ⟨by rw [← hw2]; rfl, by rw [← hw2]; rfl, by rw [← hw2]; rfl, by simp; omega, fun j hj hne => ?_⟩⟩
  have hjg : j ≠ g := fun e => hne (by rw [e]; rfl)
  rw [heap_setCell_other _ ⟨g, o + k, none⟩ j _ hjg, heap_setCell_other _ ⟨w.heap.size + 1 + 1, 0, none⟩ j _ (by simp; omega), heap_setCell_other _ ⟨w.heap.size + 1, 0, none⟩ j _ (by simp; omega), ← hw2, Below.heap_alloc _ _ j (by simp; omega), Below.heap_alloc _ _ j (by simp; omega), Below.heap_alloc _ _ j hj]

end Go.Proofs.Ytfcbaegkppkfkaa

namespace Go.Proofs.Ytfcbaegkppkfkaa
open Go Go.RowKit Go.Pan

theorem isNaN_any (x : Int) (w : World) : Calls Try.prog 69 #[.int .i64 x] w fun e w' => e = .returned (.bool false) ∧ w' = w := by
  have h : (x == x) = true := by simp
  go_enter Try.func69, Try.ntmps69
  go_wp2
  go_ret
  exact ⟨by simp, rfl⟩

theorem Less_any (x y : Int) (w : World) : Calls Try.prog 64 #[.int .i64 x, .int .i64 y] w fun e w' => e = .returned (.bool (decide (x < y))) ∧ w' = w := by
  go_enter Try.func64, Try.ntmps64
  go_wp2_with fail
  refine ((isNaN_any _ _)).mono ?_
  rintro e w1 ⟨rfl, rfl⟩
  go_wp2
  go_ret
  exact ⟨rfl, rfl⟩

theorem sNaN_any (x : Int) (w : World) : Calls Try.prog 65 #[.int .i64 x] w fun e w' => e = .returned (.bool false) ∧ w' = w := by
  have h : (x == x) = true := by simp
  go_enter Try.func65, Try.ntmps65
  go_wp2
  go_ret
  exact ⟨by simp, rfl⟩

set_option maxHeartbeats 4000000 in
set_option maxRecDepth 100000 in
/-- slices.BinarySearch in a row that rises: the place of the first size not less than x -/
theorem bsRow_any (g o c : Nat) (xs : List Int) (x : Int) (w : World) (hu : OwnI w (.slice (some ⟨g, o, none⟩) xs.length c) xs) (h0 : 0 < xs.length) (h9 : xs.length ≤ 9) (hr : xs.Pairwise (· < ·)) :
    Calls Try.prog 67 #[.slice (some ⟨g, o, none⟩) xs.length c, .int .i64 x] w fun e w' => e = .returned (.tuple #[.int .i64 (hitP xs x), .bool (decide (xs[hitP xs x]? = some x))]) ∧ w' = w := by
  have h1 := hu.shape
  obtain ⟨ad', c', he, hlc, _, _⟩ := h1
  simp only [Value.slice.injEq, true_and] at he
  obtain ⟨rfl, rfl⟩ := he
  obtain ⟨g', o', he, hg, hcr, _⟩ := Own.at hu (by omega)
  simp only [Option.some.injEq, Addr.mk.injEq, and_true] at he
  obtain ⟨rfl, rfl⟩ := he
  have HCR := Lib.hid hcr
  have HR := Lib.hid hr
  have H0 := Lib.hid (show (∀ q (hq : q < xs.length), q < 0 → xs[q] < x) ∧ (∀ q (hq : q < xs.length), xs.length ≤ q → x ≤ xs[q]) from ⟨fun _ _ h => by omega, fun _ _ h => by omega⟩)
  obtain ⟨n, hn⟩ : ∃ n, xs.length = n := ⟨_, rfl⟩
  have HN := Lib.hid hn
  rw [hn] at h9 hlc h0 ⊢
  clear hu hcr hr hn
  go_enter Try.func67, Try.ntmps67
  go_wp2
  go_loopw [7, 8, 9] (fun iv_ jv _ wi => ∃ a b : Nat, a ≤ b ∧ b ≤ n ∧ iv_ = .int .i64 a ∧ jv = .int .i64 b ∧ Hid ((∀ q (hq : q < xs.length), q < a → xs[q] < x) ∧ (∀ q (hq : q < xs.length), b ≤ q → x ≤ xs[q])) ∧ wi = w) (fun iv_ jv _ _ => (intOf jv).toNat - (intOf iv_).toNat)
  case atStart => exact ⟨0, n, Nat.zero_le _, Nat.le_refl _, rfl, rfl, by rw [← HN.out]; exact H0, rfl⟩
  case round =>
    obtain ⟨a, b, hab, hbn, rfl, rfl, HK, rfl⟩ := hrel
    clear H0
    by_cases hlt : a < b
    · have hlt' : (a : Int) < (b : Int) := by omega
      obtain ⟨h, hh⟩ : ∃ h : Nat, h = (a + b) / 2 := ⟨_, rfl⟩
      have hhd : ((a : Int) + (b : Int)) / 2 = (h : Int) := by omega
      have hha : a ≤ h := by omega
      have hhb : h < b := by omega
      have hhn : h < n := by omega
      have hhn' : (h : Int) < (n : Int) := by omega
      have hhx : h < xs.length := by rw [HN.out]; exact hhn
      have hch := HCR.out h (by omega)
      rw [List.getElem?_map, List.getElem?_eq_getElem hhx] at hch
      obtain ⟨y, hye⟩ : ∃ y, xs[h] = y := ⟨_, rfl⟩
      rw [hye] at hch
      have hch' : wr.cell? ⟨g, o + h, none⟩ = some (.int .i64 y) := hch
      have HY := Lib.hid hye
      have hw1 : IntKind.i64.wrap ((a : Int) + (b : Int)) = ((a + b : Nat) : Int) := by push_cast; exact IntWalk.i64_in _ (by omega)
      clear hch hye hh
      by_cases hyx : y < x
      · have HK2 := Lib.hid (show (∀ q (hq : q < xs.length), q < h + 1 → xs[q] < x) ∧ (∀ q (hq : q < xs.length), b ≤ q → x ≤ xs[q]) from ⟨fun q hq h2 => by
          by_cases e : q = h
          · subst e; rw [HY.out]; exact hyx
          · have := (List.pairwise_iff_getElem.1 HR.out) q h hq hhx (by omega)
            rw [HY.out] at this; omega, HK.out.2⟩)
        go_wp2_with (refine (Less_any _ _ _).mono ?_; rintro e w' ⟨rfl, rfl⟩)
        go_roundw
        case rel => exact ⟨h + 1, b, by omega, by omega, by go_num, rfl, HK2, by trivial⟩
        case measure => simp [intOf] <;> omega
      · have HK2 := Lib.hid (show (∀ q (hq : q < xs.length), q < a → xs[q] < x) ∧ (∀ q (hq : q < xs.length), h ≤ q → x ≤ xs[q]) from ⟨HK.out.1, fun q hq h2 => by
          by_cases e : q = h
          · subst e; rw [HY.out]; omega
          · have := (List.pairwise_iff_getElem.1 HR.out) h q hhx hq (by omega)
            rw [HY.out] at this; omega⟩)
        go_wp2_with (refine (Less_any _ _ _).mono ?_; rintro e w' ⟨rfl, rfl⟩)
        go_roundw
        case rel => exact ⟨a, h, by omega, by omega, rfl, rfl, HK2, by trivial⟩
        case measure => simp [intOf] <;> omega
    · obtain rfl : a = b := by omega
      have HH := Lib.hid (show hitP xs x = a from hitP_eq (by rw [HN.out]; exact hbn) (fun i hi h => HK.out.1 i hi h) (fun hj => by have := HK.out.2 a hj (Nat.le_refl _); omega))
      by_cases han : a < n
      · have han' : (a : Int) < (n : Int) := by omega
        have hax : a < xs.length := by rw [HN.out]; exact han
        have hch := HCR.out a (by omega)
        rw [List.getElem?_map, List.getElem?_eq_getElem hax] at hch
        obtain ⟨y, hye⟩ : ∃ y, xs[a] = y := ⟨_, rfl⟩
        rw [hye] at hch
        have hch' : wr.cell? ⟨g, o + a, none⟩ = some (.int .i64 y) := hch
        have HY := Lib.hid (show xs[a]? = some y by rw [List.getElem?_eq_getElem hax, hye])
        clear hch hye
        by_cases hyx : y = x
        · have hyx' : (y == x) = true := by rw [hyx]; simp
          go_wp2_with (refine (sNaN_any _ _).mono ?_; rintro e w' ⟨rfl, rfl⟩)
          go_ret2
          exact ⟨by rw [HH.out, HY.out, hyx]; simp, rfl⟩
        · have hyx' : (y == x) = false := by rw [beq_eq_false_iff_ne]; exact hyx
          go_wp2_with (refine (sNaN_any _ _).mono ?_; rintro e w' ⟨rfl, rfl⟩)
          go_ret2
          exact ⟨by rw [HH.out, HY.out]; simp [hyx], rfl⟩
      · obtain rfl : a = n := by omega
        have han' : ¬ ((a : Int) < (a : Int)) := by omega
        have HY := Lib.hid (show xs[a]? = none from List.getElem?_eq_none (by rw [HN.out]; exact Nat.le_refl _))
        go_wp2
        go_ret2
        exact ⟨by rw [HH.out, HY.out]; simp, rfl⟩

set_option maxHeartbeats 4000000 in
set_option maxRecDepth 100000 in
/-- slices.BinarySearch in a row that rises: the place of the first size not less than x -/
theorem bsI_any (g o c : Nat) (xs : List Int) (x : Int) (w : World) (hu : OwnI w (.slice (some ⟨g, o, none⟩) xs.length c) xs) (h0 : 0 < xs.length) (h9 : xs.length ≤ 9) (hr : xs.Pairwise (· < ·)) :
    Calls Try.prog 59 #[.slice (some ⟨g, o, none⟩) xs.length c, .int .i64 x] w fun e w' => e = .returned (.tuple #[.int .i64 (hitP xs x), .bool (decide (xs[hitP xs x]? = some x))]) ∧ w' = w := by
  have h1 := hu.shape
  obtain ⟨ad', c', he, hlc, _, _⟩ := h1
  simp only [Value.slice.injEq, true_and] at he
  obtain ⟨rfl, rfl⟩ := he
  obtain ⟨g', o', he, hg, hcr, _⟩ := Own.at hu (by omega)
  simp only [Option.some.injEq, Addr.mk.injEq, and_true] at he
  obtain ⟨rfl, rfl⟩ := he
  have HCR := Lib.hid hcr
  have HR := Lib.hid hr
  have H0 := Lib.hid (show (∀ q (hq : q < xs.length), q < 0 → xs[q] < x) ∧ (∀ q (hq : q < xs.length), xs.length ≤ q → x ≤ xs[q]) from ⟨fun _ _ h => by omega, fun _ _ h => by omega⟩)
  obtain ⟨n, hn⟩ : ∃ n, xs.length = n := ⟨_, rfl⟩
  have HN := Lib.hid hn
  rw [hn] at h9 hlc h0 ⊢
  clear hu hcr hr hn
  go_enter Try.func59, Try.ntmps59
  go_wp2
  go_loopw [7, 8, 9] (fun iv_ jv _ wi => ∃ a b : Nat, a ≤ b ∧ b ≤ n ∧ iv_ = .int .i64 a ∧ jv = .int .i64 b ∧ Hid ((∀ q (hq : q < xs.length), q < a → xs[q] < x) ∧ (∀ q (hq : q < xs.length), b ≤ q → x ≤ xs[q])) ∧ wi = w) (fun iv_ jv _ _ => (intOf jv).toNat - (intOf iv_).toNat)
  case atStart => exact ⟨0, n, Nat.zero_le _, Nat.le_refl _, rfl, rfl, by rw [← HN.out]; exact H0, rfl⟩
  case round =>
    obtain ⟨a, b, hab, hbn, rfl, rfl, HK, rfl⟩ := hrel
    clear H0
    by_cases hlt : a < b
    · have hlt' : (a : Int) < (b : Int) := by omega
      obtain ⟨h, hh⟩ : ∃ h : Nat, h = (a + b) / 2 := ⟨_, rfl⟩
      have hhd : ((a : Int) + (b : Int)) / 2 = (h : Int) := by omega
      have hha : a ≤ h := by omega
      have hhb : h < b := by omega
      have hhn : h < n := by omega
      have hhn' : (h : Int) < (n : Int) := by omega
      have hhx : h < xs.length := by rw [HN.out]; exact hhn
      have hch := HCR.out h (by omega)
      rw [List.getElem?_map, List.getElem?_eq_getElem hhx] at hch
      obtain ⟨y, hye⟩ : ∃ y, xs[h] = y := ⟨_, rfl⟩
      rw [hye] at hch
      have hch' : wr.cell? ⟨g, o + h, none⟩ = some (.int .i64 y) := hch
      have HY := Lib.hid hye
      have hw1 : IntKind.i64.wrap ((a : Int) + (b : Int)) = ((a + b : Nat) : Int) := by push_cast; exact IntWalk.i64_in _ (by omega)
      clear hch hye hh
      by_cases hyx : y < x
      · have HK2 := Lib.hid (show (∀ q (hq : q < xs.length), q < h + 1 → xs[q] < x) ∧ (∀ q (hq : q < xs.length), b ≤ q → x ≤ xs[q]) from ⟨fun q hq h2 => by
          by_cases e : q = h
          · subst e; rw [HY.out]; exact hyx
          · have := (List.pairwise_iff_getElem.1 HR.out) q h hq hhx (by omega)
            rw [HY.out] at this; omega, HK.out.2⟩)
        go_wp2_with (refine (Less_any _ _ _).mono ?_; rintro e w' ⟨rfl, rfl⟩)
        go_roundw
        case rel => exact ⟨h + 1, b, by omega, by omega, by go_num, rfl, HK2, by trivial⟩
        case measure => simp [intOf] <;> omega
      · have HK2 := Lib.hid (show (∀ q (hq : q < xs.length), q < a → xs[q] < x) ∧ (∀ q (hq : q < xs.length), h ≤ q → x ≤ xs[q]) from ⟨HK.out.1, fun q hq h2 => by
          by_cases e : q = h
          · subst e; rw [HY.out]; omega
          · have := (List.pairwise_iff_getElem.1 HR.out) h q hhx hq (by omega)
            rw [HY.out] at this; omega⟩)
        go_wp2_with (refine (Less_any _ _ _).mono ?_; rintro e w' ⟨rfl, rfl⟩)
        go_roundw
        case rel => exact ⟨a, h, by omega, by omega, rfl, rfl, HK2, by trivial⟩
        case measure => simp [intOf] <;> omega
    · obtain rfl : a = b := by omega
      have HH := Lib.hid (show hitP xs x = a from hitP_eq (by rw [HN.out]; exact hbn) (fun i hi h => HK.out.1 i hi h) (fun hj => by have := HK.out.2 a hj (Nat.le_refl _); omega))
      by_cases han : a < n
      · have han' : (a : Int) < (n : Int) := by omega
        have hax : a < xs.length := by rw [HN.out]; exact han
        have hch := HCR.out a (by omega)
        rw [List.getElem?_map, List.getElem?_eq_getElem hax] at hch
        obtain ⟨y, hye⟩ : ∃ y, xs[a] = y := ⟨_, rfl⟩
        rw [hye] at hch
        have hch' : wr.cell? ⟨g, o + a, none⟩ = some (.int .i64 y) := hch
        have HY := Lib.hid (show xs[a]? = some y by rw [List.getElem?_eq_getElem hax, hye])
        clear hch hye
        by_cases hyx : y = x
        · have hyx' : (y == x) = true := by rw [hyx]; simp
          go_wp2_with (refine (sNaN_any _ _).mono ?_; rintro e w' ⟨rfl, rfl⟩)
          go_ret2
          exact ⟨by rw [HH.out, HY.out, hyx]; simp, rfl⟩
        · have hyx' : (y == x) = false := by rw [beq_eq_false_iff_ne]; exact hyx
          go_wp2_with (refine (sNaN_any _ _).mono ?_; rintro e w' ⟨rfl, rfl⟩)
          go_ret2
          exact ⟨by rw [HH.out, HY.out]; simp [hyx], rfl⟩
      · obtain rfl : a = n := by omega
        have han' : ¬ ((a : Int) < (a : Int)) := by omega
        have HY := Lib.hid (show xs[a]? = none from List.getElem?_eq_none (by rw [HN.out]; exact Nat.le_refl _))
        go_wp2
        go_ret2
        exact ⟨by rw [HH.out, HY.out]; simp, rfl⟩

end Go.Proofs.Ytfcbaegkppkfkaa

namespace Go.Pan
open Go Go.RowKit Go.Proofs.Ytfcbaegkppkfkaa
/-- a row in new memory at the end of the first -/
theorem S2.appU {w w2 w' : World} {B g cap n : Nat} {ty : TypeId} {u v u1 : Value} {x : List Int} {hR hP : List Value} {R P : List (List Int)} (h : S2 w B ty u hR R v hP P) (hB : B ≤ w.heap.size) (hn : R.length = n)
    (hb : Below w.heap.size w w2) (hu : OwnI w2 u1 x) (hi : In w.heap.size w2.heap.size u1)
    (hown : w'.ownsRow B ty 1 (.slice (some ⟨g, 0, none⟩) (n + 1) cap) (n + 1) (hR ++ [u1])) (hgr : w2.grownBy w' u.ownBlock) (hat : u.ownBlock = some g ∨ g = w2.heap.size) (hlt : g < w'.heap.size) :
    S2 w' B ty (.slice (some ⟨g, 0, none⟩) (n + 1) cap) (hR ++ [u1]) (R ++ [x]) v hP P := by
  subst hn
  have hz := hb.size
  have hz2 := hgr.size
  have hk : ∀ k, k < w.heap.size → u.ownBlock ≠ some k → w'.heap[k]? = w.heap[k]? := fun k h1 h2 => (hgr.block k (by omega) (fun e => h2 e.symm)).trans (hb.block k h1)
  have hkP : ∀ k, Ft v hP k → w'.heap[k]? = w.heap[k]? := fun k hf => hk k (h.p.ft hf).2 (fun e => h.d k (.inl e) hf)
  have hrl := h.r.len
  refine ⟨?_, (h.p.keptF hkP).mono (Nat.le_refl _) (by omega), by rw [List.length_append]; exact hown, ownsRow_keptF h.po fun k hk2 => hkP k (.inl hk2), fun k h1 h2 => ?_⟩
  · have := SS.app (cap := cap) (h.r.below hb (Nat.le_refl _)) hz hu hi (by rw [hrl]; exact hown) hgr hat hlt hB
    rw [hrl] at this
    exact this
  · have hkN := (h.p.ft h2).2
    rcases h1 with h1 | ⟨i, a, hi2, ha⟩
    · have e : g = k := by simpa [Value.ownBlock] using h1
      subst e
      rcases hat with h3 | h3
      · exact h.d g (.inl h3) h2
      · omega
    · rcases Nat.lt_or_ge i hR.length with hl | hl
      · rw [List.getElem?_append_left hl] at hi2
        exact h.d k (.inr ⟨i, a, hi2, ha⟩) h2
      · rw [List.getElem?_append_right hl] at hi2
        have : i - hR.length < 1 := by have := (List.getElem?_eq_some_iff.1 hi2).1; simpa using this
        rw [show i - hR.length = 0 by omega] at hi2
        simp at hi2
        subst hi2
        have := (hi k ha).1
        omega

end Go.Pan

namespace Go.Proofs.Ytfcbaegkppkfkaa
open Go Go.RowKit Go.Pan

set_option maxHeartbeats 8000000 in
set_option maxRecDepth 100000 in
theorem intoRows_any (v vp : Value) (hR hP : List Value) (R P : List (List Int)) (x : Int) (w : World) (B : Nat) (h : S2 w B 22 v hR R vp hP P) (hB : B ≤ w.heap.size) (h9 : R.length ≤ 9) (hr : ∀ r ∈ R, 0 < r.length ∧ r.length ≤ 9) (hx : Hx R x) :
    Calls Try.prog 52 #[v, .int .i64 x] w fun e w' => ∃ v' hR', e = .returned (.tuple #[v', .int .i64 (insR R x).2]) ∧ S2 w' B 22 v' hR' (insR R x).1 vp hP P ∧ Below B w w' := by
  obtain ⟨ad, cap, rfl, hc, hcm, _⟩ := (Own.of_row h.ro).1.shape
  obtain ⟨i0, hi, hz0, hz1, hz2⟩ := info_parts Try.info22
  have HI := Lib.hid hi
  have HZ0 := Lib.hid hz0
  have HZ1 := Lib.hid hz1
  have HZ2 := Lib.hid hz2
  obtain ⟨M, hM⟩ : ∃ M, R.length = M := ⟨_, rfl⟩
  have HM := Lib.hid hM
  have HBW := Lib.hid hB
  rw [hM] at hc h9 h ⊢
  have HS1 := Lib.hid (show S2 w B 22 (.slice ad M cap) hR ([] ++ R) vp hP P from h)
  have HRR := Lib.hid (show ∀ r ∈ ([] ++ R), 0 < r.length ∧ r.length ≤ 9 from hr)
  have HHX := Lib.hid hx
  clear hi hz0 hz1 hz2 h hr hx hM hB
  go_enter Try.func52, Try.ntmps52
  go_wp2
  go_loopw [1, 6, 9] (fun xv _ kv wi => ∃ (q : Nat) (hR : List Value) (D R' : List (List Int)) (x' : Int), q ≤ M ∧ kv = .int .i64 q ∧ xv = .int .i64 x' ∧ Hid (D.length = q) ∧ Hid (S2 wi B 22 (.slice ad M cap) hR (D ++ R') vp hP P) ∧ Hid (D ++ (insR R' x').1 = (insR R x).1 ∧ q + (insR R' x').2 = (insR R x).2 ∧ q + R'.length = M) ∧ Hid (∀ r ∈ D ++ R', 0 < r.length ∧ r.length ≤ 9) ∧ Hid (Hx R' x') ∧ Below B w wi) (fun _ _ kv _ => M - (intOf kv).toNat)
  case atStart => exact ⟨0, hR, [], R, x, Nat.zero_le _, rfl, rfl, Lib.hid rfl, HS1, Lib.hid ⟨rfl, by omega, by have := HM.out; omega⟩, HRR, HHX, Below.refl _ _⟩
  case round =>
    clear HS1 HRR HHX
    obtain ⟨q, hR, D, R', x', hq, rfl, rfl, hD, hS, HE, HRR, HHX, hbr⟩ := hrel
    have hDR : (D ++ R').length = M := by rw [List.length_append, hD.out]; exact HE.out.2.2
    have hro := hS.out.ro
    rw [hDR] at hro
    have HRO := Lib.hid hro
    have HDR := Lib.hid hDR
    clear hro hDR
    obtain ⟨wk, rfl⟩ : ∃ z, z = wr := ⟨_, rfl⟩
    have hBk := hbr.size
    by_cases hqM : q < M
    · have hqM' : (q : Int) < (M : Int) := by omega
      obtain ⟨r, R'', rfl⟩ : ∃ r R'', R' = r :: R'' := by
        cases R' with
        | nil => have := HE.out.2.2; simp at this; omega
        | cons r R'' => exact ⟨r, R'', rfl⟩
      have hqr : (D ++ r :: R'')[q]? = some r := by rw [List.getElem?_append_right (by rw [hD.out]; omega), hD.out, Nat.sub_self]; rfl
      obtain ⟨g, hg0, cs, hcs⟩ := owns_zero HRO.out (by omega)
      subst hg0
      obtain ⟨u, hu⟩ : ∃ u, hR[q]? = some u := ⟨_, List.getElem?_eq_getElem (by have := HRO.out.1; omega)⟩
      have hcg : wk.cell? ⟨g, q, none⟩ = some u := by rw [owns_cell HRO.out hqM]; exact hu
      have hOu := (hS.out.r.row q u r hu hqr).1
      have hr0 := HRR.out r (by simp)
      obtain ⟨ua, uc, rfl, huc, hucm, _⟩ := hOu.shape
      obtain ⟨gu, ou, rfl, hgu, _, _⟩ := Own.at hOu (by omega)
      have HQR := Lib.hid hqr
      have HU := Lib.hid hu
      have HCS := Lib.hid hcs
      have HOU := Lib.hid hOu
      have hug : (Value.slice (some ⟨gu, ou, none⟩) r.length uc).ownBlock ≠ some g := (hS.out.r.row q _ r hu hqr).2.2 g rfl
      have hBW : B ≤ wk.heap.size := Nat.le_trans HBW.out hBk
      have HSN := Lib.hid (fun (w2 : World) (u1 : Value) (r1 : List Int) (hgr : wk.grownBy w2 (Value.slice (some ⟨gu, ou, none⟩) r.length uc).ownBlock) (ho : OwnI w2 u1 r1) (hat : ∀ b, u1.ownBlock = some b → (Value.slice (some ⟨gu, ou, none⟩) r.length uc).ownBlock = some b ∨ wk.heap.size ≤ b) => S2.push hS.out hBW HDR.out hcs hu hgr ho hat)
      have HBG := Lib.hid (show B ≤ g from (hS.out.r.inn g rfl).1)
      have HBU := Lib.hid (show B ≤ gu from (hS.out.r.ft (.inr ⟨q, _, hu, rfl⟩)).1)
      obtain ⟨hup, hnx, _, _⟩ := HHX.out.row
      have HUP := Lib.hid hup
      have HNX := Lib.hid hnx
      clear hqr hu hcs hOu hup hnx
      by_cases ht : x' < topP r
      · have hkr := hitP_in hr0.1 ht
        have HKR := Lib.hid hkr
        have HT := Lib.hid ht
        obtain ⟨k, hk⟩ : ∃ k, hitP r x' = k := ⟨_, rfl⟩
        have HK := Lib.hid hk
        rw [hk] at hkr
        obtain ⟨y, hy⟩ : ∃ y, r[k] = y := ⟨_, rfl⟩
        have HY := Lib.hid hy
        have hHX2 := HHX.out.step hkr
        rw [hy] at hHX2
        have hyp := hHX2.p
        have hy0 : (y == 0) = false := by rw [beq_eq_false_iff_ne]; omega
        have HHX2 := Lib.hid hHX2
        have HC := Lib.hid (taking_pan (.slice (some ⟨gu, ou, none⟩) r.length uc) r x' wk HOU.out hr0.1 hr0.2 ht k (decide (r[hitP r x']? = some x')) hkr (fun W hW => by
          have := bsRow_any gu ou uc r x' W hW hr0.1 hr0.2 HUP.out
          rw [hk] at this ⊢
          exact this))
        clear ht hk hy hHX2 hyp
        go_wp2_with fail
        refine HC.out.mono ?_
        rintro e w2 ⟨rfl, ho2, hgr2⟩
        rw [HY.out]
        have hbg2 : Blk w2 g 22 cs := HCS.out.grown hgr2 hug
        have hcg2 := hcell_setP hbg2 (owns_len HRO.out HCS.out hqM)
        have hfg2 : ∀ j, w2.frozen? ⟨g, j, none⟩ = false := fun j => frozen_of_row w2 g _ _ _ hbg2
        have hsn := HSN.out w2 (.slice (some ⟨gu, ou, none⟩) r.length uc) (r.set k x') hgr2 ho2 (fun b hb => .inl hb)
        have hset : (D ++ r :: R'').set q (r.set k x') = (D ++ [r.set k x']) ++ R'' := by rw [List.set_append_right _ _ (by rw [hD.out]; omega), hD.out, Nat.sub_self, List.set_cons_zero, List.append_assoc]; rfl
        rw [hset] at hsn
        have HS2 := Lib.hid hsn
        have hst := insR_step (D := D) (R := R'') (r := r) (x := x') HKR.out
        rw [HK.out, show r.getD k 0 = y by rw [List.getD_eq_getElem?_getD, List.getElem?_eq_getElem hkr, HY.out]; rfl, hD.out, Prod.mk.injEq, List.length_append, hD.out, List.length_singleton] at hst
        have HST := Lib.hid hst
        have hB2 := (hbr.grown hgr2 hBW (fun b hb => by cases hb; exact HBU.out)).setCell (p := ⟨g, q, none⟩) HBG.out (.slice (some ⟨gu, ou, none⟩) r.length uc)
        clear hsn hset hst ho2 hgr2 hbg2 hcg HC
        go_wp2
        go_roundw
        case rel => exact ⟨q + 1, _, D ++ [r.set k x'], R'', y, by omega, by go_num, rfl, Lib.hid (by rw [List.length_append, hD.out]; rfl), HS2, Lib.hid ⟨by rw [← HST.out.1]; exact HE.out.1, by rw [← HST.out.2]; exact HE.out.2.1, by have := HE.out.2.2; simp at this; omega⟩, Lib.hid (fun t ht => by
          rw [List.append_assoc] at ht
          rcases List.mem_append.1 ht with ht | ht
          · exact HRR.out t (List.mem_append_left _ ht)
          · rcases List.mem_cons.1 ht with rfl | ht
            · have := HRR.out r (by simp); simpa using this
            · exact HRR.out t (by simp only [List.mem_append, List.mem_cons]; exact .inr (.inr ht))), HHX2, hB2⟩
        case measure => simp [intOf] <;> omega
      · have HH := Lib.hid (hitP_out HUP.out HNX.out (fun _ => ht))
        have HC := Lib.hid (taking_ok (.slice (some ⟨gu, ou, none⟩) r.length uc) r x' wk HOU.out hr0.2 (fun _ => ht))
        clear ht
        go_wp2_with fail
        refine HC.out.mono ?_
        rintro e w2 ⟨u1, rfl, ho2, hat2, hgr2⟩
        obtain ⟨a1, c1, rfl, _, _, _⟩ := ho2.shape
        have hbg2 : Blk w2 g 22 cs := HCS.out.grown hgr2 hug
        have hcg2 := hcell_setP hbg2 (owns_len HRO.out HCS.out hqM)
        have hfg2 : ∀ j, w2.frozen? ⟨g, j, none⟩ = false := fun j => frozen_of_row w2 g _ _ _ hbg2
        have hsn := HSN.out w2 _ (r ++ [x']) hgr2 ho2 hat2
        have hl2 : (r ++ [x']).length = r.length + 1 := by simp
        rw [hl2] at hsn
        have hset : (D ++ r :: R'').set q (r ++ [x']) = D ++ ((r ++ [x']) :: R'') := by rw [List.set_append_right _ _ (by rw [hD.out]; omega), hD.out, Nat.sub_self, List.set_cons_zero]
        rw [hset] at hsn
        have HS2 := Lib.hid hsn
        have hie := insR_end (R := R'') HH.out
        have hE1 := HE.out.1
        have hE2 := HE.out.2.1
        rw [hie] at hE1 hE2
        have HE1 := Lib.hid hE1
        have HE2 := Lib.hid hE2
        have hB2 := (hbr.grown hgr2 hBW (fun b hb => by cases hb; exact HBU.out)).setCell (p := ⟨g, q, none⟩) HBG.out (.slice a1 (r.length + 1) c1)
        have HB2 := Lib.hid hB2
        clear hl2 hsn hset hie hE1 hE2 ho2 hgr2 hbg2 hcg hat2 HC hB2
        go_wp2
        go_ret2
        exact ⟨_, _, by rw [← HE2.out]; rfl, by rw [← HE1.out]; exact HS2.out, HB2.out⟩
    · obtain rfl : q = M := by omega
      have hge : ¬ ((q : Int) < (q : Int)) := by omega
      obtain rfl : R' = [] := by have := HE.out.2.2; exact List.eq_nil_of_length_eq_zero (by omega)
      have hBW : B ≤ wk.heap.size := Nat.le_trans HBW.out hBk
      rw [List.append_nil] at hS
      have HDM := Lib.hid (show D.length = q from hD.out)
      have HO2 := Lib.hid ((HRO.out.alloc (.cells #[iv x'] 3)).alloc (.cells #[.slice (some ⟨wk.heap.size, 0, none⟩) 1 1] 22))
      have HRW := Lib.hid (show OwnI ((wk.alloc (.cells #[iv x'] 3)).alloc (.cells #[.slice (some ⟨wk.heap.size, 0, none⟩) 1 1] 22)) (.slice (some ⟨wk.heap.size, 0, none⟩) 1 1) [x'] from (Own.of_row (owns_of_blkP (B := 0) (n := 1) (cap := 1) (hs := [iv x']) (Blk.new wk 3 [iv x'] _ rfl) (Nat.zero_le _) rfl (Nat.le_refl _) (by unfold maxLen; omega) rfl rfl)).1.alloc _)
      have HNW := Lib.hid (Blk.new (wk.alloc (.cells #[iv x'] 3)) 22 [.slice (some ⟨wk.heap.size, 0, none⟩) 1 1] (wk.heap.size + 1) (by simp))
      have HBD := Lib.hid (((Below.refl wk.heap.size wk).alloc (Nat.le_refl _) (.cells #[iv x'] 3)).alloc (by simp) (.cells #[.slice (some ⟨wk.heap.size, 0, none⟩) 1 1] 22))
      have HBR := Lib.hid hbr
      go_wp2_with (at_builtin; (refine wpList_append_lies _ rfl _ _ 23 rfl B 22 i0 _ 1 24 Try.underlying23 HI.out HZ0.out HZ1.out HZ2.out rfl (by omega) (.slice ad q cap) q hR rfl HO2.out _ 1 1 [.slice (some ⟨wk.heap.size, 0, none⟩) 1 1] rfl (by simp) (World.news_of_block HNW.out) (by simp [Value.oneCell']) (by omega) (by unfold maxLen; omega) (by omega) (by simp; omega) (wk.heap.size + 1 + 1) (by simp) ?_); intro g8 cap8 w8 hown8 hgr8 hat8 hlt8)
      have hs9 := S2.appU hS.out hBW HDM.out HBD.out HRW.out (fun g hg => by cases hg; exact ⟨Nat.le_refl _, by simp; omega⟩) hown8 hgr8 (by simpa using hat8) hlt8
      have hB9 := (((HBR.out.alloc hBW (.cells #[iv x'] 3)).alloc (by simp; omega) (.cells #[.slice (some ⟨wk.heap.size, 0, none⟩) 1 1] 22)).grown hgr8 (by simp; omega) (fun b hb => (hS.out.r.inn b hb).1))
      have HS9 := Lib.hid hs9
      have HB9 := Lib.hid hB9
      have hE1 := HE.out.1
      have hE2 := HE.out.2.1
      have HE1 := Lib.hid hE1
      have HE2 := Lib.hid hE2
      clear hs9 hB9 hE1 hE2 hown8 hgr8 hat8 hlt8
      go_wp2
      go_ret2
      exact ⟨_, by rw [← HE2.out]; rfl, ⟨_, by rw [← HE1.out]; exact HS9.out⟩, HB9.out⟩

end Go.Proofs.Ytfcbaegkppkfkaa

namespace Go.Proofs.Ytfcbaegkppkfkaa
open Go Go.RowKit Go.Pan

theorem ownsRow_ofBlkR {w : World} {B g n cap : Nat} {ty : TypeId} {cs hs : List Value} (h : Blk w g ty cs) (hB : B ≤ g) (hn : hs.length = n) (hnc : n ≤ cap) (hcm : cap ≤ maxLen) (hl : cs.length = cap) (ht : cs.take n = hs) : w.ownsRow B ty 1 (.slice (some ⟨g, 0, none⟩) n cap) n hs :=
  ⟨by omega, .inr ⟨g, cap, cs.toArray, rfl, hB, h, hnc, hcm, by simp [hl], by simpa using ht⟩⟩

set_option maxHeartbeats 1600000 in
theorem CloneR_any (v : Value) (xs : List Int) (w : World) (hv : OwnI w v xs) (h1 : 1 ≤ xs.length) (hn : xs.length ≤ 1048576) :
    Calls Try.prog 56 #[v] w fun e w' => ∃ r, e = .returned r ∧ OwnI w' r xs ∧ From w.heap.size r ∧ Below w.heap.size w w' := by
  obtain ⟨ad, cap, rfl, hc, _, _⟩ := hv.shape
  have hs := Own.src hv
  obtain ⟨g0, off, rfl, _, _, _⟩ := hv.at (by omega)
  have qT : ∀ (w : World) (a : Option Addr) (n c n' c' : Nat), (binOp .eql 22 (.slice a n c) (.slice none n' c')).run Try.prog w = .ok (.bool a.isNone) w := fun w a n c n' c' => Lib.run_eql_slice_nil w _ _ a n c n' c' Try.underlying22
  go_enter Try.func56, Try.ntmps56
  go_wp2_with (at_builtin; refine wpList_appI Try.intSl rfl _ _ rfl (.slice (some ⟨w.heap.size, 0, none⟩) 0 0) [] rfl (OwnI.lit w _ [] 0 rfl (by simp) _ rfl) w.heap.size (From.at _ _ _ _ _ (Nat.le_refl _)) (some ⟨g0, off, none⟩) xs.length cap xs rfl rfl (hs.alloc _) w (below_new w _) (by simp) (by simp) hn ?_)
  intro v' w1 ho hf hb _
  go_wp2
  go_ret
  exact ⟨_, rfl, by simpa using ho, hf, hb⟩

set_option maxHeartbeats 4000000 in
set_option maxRecDepth 100000 in
theorem copiesB_any (v : Value) (hs0 : List Value) (L : List (List Int)) (w : World) (B N : Nat) (hv : SS w B N v hs0 L) (hN : N ≤ w.heap.size) (hL : Hid (∀ q ∈ L, 1 ≤ q.length ∧ q.length ≤ 9)) (hm : L.length ≤ 1048576) :
    Calls Try.prog 41 #[v] w fun e w' => ∃ hs, e = .returned (.slice (some ⟨w.heap.size, 0, none⟩) L.length L.length) ∧ SS w' w.heap.size w'.heap.size (.slice (some ⟨w.heap.size, 0, none⟩) L.length L.length) hs L ∧ Blk w' w.heap.size 22 hs ∧ Below w.heap.size w w' := by
  obtain ⟨ad, cap, rfl, hcc, hcm, hnil⟩ := hv.own.shape
  have hl0 := hv.len
  obtain ⟨i0, hi, hz0, hz1, hz2⟩ := info_parts Try.info22
  have HV := Lib.hid hv
  obtain ⟨m, hml⟩ : ∃ m, L.length = m := ⟨_, rfl⟩
  have HML := Lib.hid hml
  have HL0 := Lib.hid (show hs0.length = m by rw [hl0]; exact hml)
  rw [hml] at hm ⊢
  rw [HL0.out] at hcc HV ⊢
  clear hv hml hl0
  go_enter Try.func41, Try.ntmps41
  go_wp2_with (at_make; refine wpList_make_full _ rfl _ _ 23 rfl w.heap.size 22 i0 (.slice none 0 0) 1 Try.underlying23 hi hz0 hz1 _ _ _ _ m rfl rfl rfl rfl ?b1 ?b2 ?b3 ?_)
  case b1 => rw [hz2]; omega
  case b2 => unfold maxLen; omega
  case b3 => exact Nat.le_refl _
  intro w1 hown hgr
  have hb1 : Below w.heap.size w w1 := (Below.refl _ _).grown hgr (Nat.le_refl _) (by intro k hk; cases hk)
  have hbl : Blk w1 w.heap.size 22 ([] ++ List.replicate (m - 0) (.slice none 0 0)) := by
    have := (Blk.of_row hown).1
    simpa [toList_madeCells_one] using this
  have hl1 := hbl.lt
  have HS0 := Lib.hid (show SS w1 w.heap.size w1.heap.size (.slice (some ⟨w.heap.size, 0, none⟩) 0 m) [] (L.take 0) from ⟨rfl, (Own.of_row (ownsRow_ofBlkR (n := 0) (cap := m) (hs := []) hbl (Nat.le_refl _) rfl (Nat.zero_le _) (by unfold maxLen; omega) (by simp) rfl)).1, fun g hg => by simp [Value.ownBlock] at hg; omega, fun i u xs hu => by simp at hu, fun i j u u' _ hu => by simp at hu⟩)
  clear hi hz0 hz1 hz2 hown hgr
  go_wp2
  go_loopw [4, 5, 11] (fun _ _ i wr => ∃ (k : Nat) (hs : List Value), k ≤ m ∧ i = .int .i64 k ∧ hs.length = k ∧ Hid (SS wr w.heap.size wr.heap.size (.slice (some ⟨w.heap.size, 0, none⟩) k m) hs (L.take k)) ∧ Blk wr w.heap.size 22 (hs ++ List.replicate (m - k) (.slice none 0 0)) ∧ Below w.heap.size w wr) (fun _ _ i _ => m - (intOf i).toNat)
  case atStart => exact ⟨0, [], Nat.zero_le _, rfl, rfl, HS0, hbl, hb1⟩
  case round =>
    obtain ⟨k, hs, hk, rfl, hhl, hS, hB, hbr⟩ := hrel
    clear HS0 hbl hb1
    by_cases hlt : k < m
    · have hlt' : (k : Int) < m := by omega
      have hkl : k < L.length := by rw [HML.out]; exact hlt
      have hmem := List.getElem_mem hkl
      have hq := hL.out _ hmem
      have hTK := List.take_succ_eq_append_getElem hkl
      have hVR := HV.out.below hbr hN
      have hown0 := hVR.own
      obtain ⟨u, hu⟩ : ∃ u, hs0[k]? = some u := ⟨_, List.getElem?_eq_getElem (by rw [HL0.out]; exact hlt)⟩
      have hrow := (hVR.row k u _ hu (List.getElem?_eq_getElem hkl)).1
      rw [HL0.out] at hown0
      obtain ⟨g, off, hadd, hgl, hcc0, _⟩ := hown0.at (by omega)
      subst hadd
      have hck := (hcc0 k (by omega)).trans hu
      obtain ⟨q, hqe⟩ : ∃ q, L[k] = q := ⟨_, rfl⟩
      rw [hqe] at hq hTK hrow
      have HTK := Lib.hid hTK
      have HHL := Lib.hid hhl
      have hsr := hbr.size
      have hlB := hB.lt
      obtain ⟨ua, uc, rfl, _, _, _⟩ := hrow.shape
      have CL := Lib.hid (CloneR_any _ q wr hrow hq.1 (by omega))
      clear hqe hmem hkl hTK hq hhl hu hVR hown0 hcc0
      go_wp2_with fail
      refine CL.out.mono ?_
      rintro e w6 ⟨r6, rfl, ho6, hf6, hb6⟩
      go_wp2_with fail
      refine (Clip_any r6 q w6 ho6).mono ?_
      rintro e w7 ⟨r7, rfl, ho7, hob, rfl⟩
      have hf7 : From wr.heap.size r7 := fun g hg => hf6 g (by rw [← hob]; exact hg)
      obtain ⟨a7, c7, rfl, _, _, _⟩ := ho7.shape
      have hz7 := hb6.size
      have hB7 : Blk w6 w.heap.size 22 (hs ++ List.replicate (m - k) (.slice none 0 0)) := hB.below hb6 hlB
      have hbr7 := hbr.trans (hb6.mono hbr.size)
      have hHL := HHL.out
      have hset : (hs ++ List.replicate (m - k) (Value.slice none 0 0)).set k (.slice a7 q.length c7) = (hs ++ [.slice a7 q.length c7]) ++ List.replicate (m - (k + 1)) (.slice none 0 0) := by
        rw [List.set_append_right _ _ (by omega), hHL, Nat.sub_self, show m - k = (m - (k + 1)) + 1 by omega, List.replicate_succ, List.set_cons_zero, List.append_assoc]
        rfl
      have hB8 := hB7.set k (.slice a7 q.length c7)
      rw [hset] at hB8
      have hc7 := hB7.cell k
      rw [List.getElem?_append_right (by omega), hHL, Nat.sub_self, List.getElem?_replicate, if_pos (by omega)] at hc7
      have hf7' := hB7.frozen k
      have HI7 := Lib.hid (show In wr.heap.size w6.heap.size (.slice a7 q.length c7) from fun g hg => ⟨hf7 g hg, ho7.lt g hg⟩)
      have hgs : w6.grownBy (w6.setCell ⟨w.heap.size, k, none⟩ (.slice a7 q.length c7)) (some w.heap.size) := grownBy_setCell w6 w.heap.size k _
      have HS7 : SS w6 w.heap.size wr.heap.size (.slice (some ⟨w.heap.size, 0, none⟩) k m) hs (L.take k) := hS.out.below hb6 (Nat.le_refl _)
      have hrow : (w6.setCell ⟨w.heap.size, k, none⟩ (.slice a7 q.length c7)).ownsRow w.heap.size 22 1 (.slice (some ⟨w.heap.size, 0, none⟩) (hs.length + 1) m) (hs.length + 1) (hs ++ [.slice a7 q.length c7]) :=
        ownsRow_ofBlkR hB8 (Nat.le_refl _) (by simp) (by omega) (by unfold maxLen; omega) (by simp; omega) (by rw [List.take_left' (by simp)])
      have hS8 := SS.app HS7 (by omega) ho7 HI7.out hrow hgs (.inl rfl) (by simp [World.setCell]; omega) (by omega)
      rw [← HTK.out, hHL] at hS8
      have HS8 := Lib.hid hS8
      have hbr8 := hbr7.setCell (p := ⟨w.heap.size, k, none⟩) (Nat.le_refl _) (.slice a7 q.length c7)
      have HL8 := Lib.hid (show (hs ++ [Value.slice a7 q.length c7]).length = k + 1 by simp [hHL])
      clear hS hB hB7 hbr7 hHL hset HI7 hgs HS7 hrow hS8 ho7 hf7 hb6 hbr ho6 hf6 hob
      go_wp2
      go_roundw
      case rel => exact ⟨k + 1, _, by omega, by go_num, HL8.out, HS8, hB8, hbr8⟩
      case measure => simp [intOf] <;> omega
    · obtain rfl : k = m := by omega
      have HT := Lib.hid (show L.take k = L by rw [← HML.out]; exact List.take_length)
      have HF := Lib.hid (show SS wr w.heap.size wr.heap.size (.slice (some ⟨w.heap.size, 0, none⟩) k k) hs L by rw [← HT.out]; exact hS.out)
      have HBB := Lib.hid (show Blk wr w.heap.size 22 hs by rw [Nat.sub_self, List.replicate_zero, List.append_nil] at hB; exact hB)
      clear hS hB
      go_wp2
      go_ret
      first | exact ⟨_, rfl, HF.out, HBB.out, hbr⟩ | exact ⟨rfl, ⟨_, HF.out, HBB.out⟩, hbr⟩

theorem copies_any (v : Value) (hs0 : List Value) (L : List (List Int)) (w : World) (B N : Nat) (hv : SS w B N v hs0 L) (hN : N ≤ w.heap.size) (hL : Hid (∀ q ∈ L, 1 ≤ q.length ∧ q.length ≤ 9)) (hm : L.length ≤ 1048576) :
    Calls Try.prog 41 #[v] w fun e w' => ∃ r hs, e = .returned r ∧ SS w' w.heap.size w'.heap.size r hs L ∧ Below w.heap.size w w' :=
  (copiesB_any v hs0 L w B N hv hN hL hm).mono fun _ _ ⟨hs, h1, h2, _, h4⟩ => ⟨_, hs, h1, h2, h4⟩

end Go.Proofs.Ytfcbaegkppkfkaa
