import Derived.Test.YtfcbaegkppkfkaaPsA
import Derived.Test.YtfcbaegkppkfkaaS1
import Derived.WalkLawsBesides
namespace Go.Proofs.Ytfcbaegkppkfkaa
open Go Go.RowKit Go.Pan

theorem Try.intSlRow : IntSl Try.prog 61 3 := ⟨Try.underlying61, Try.intSl.i⟩

/-- a size at the end of a row that can take it there -/
theorem ended_ok (u : Value) (xs : List Int) (x : Int) (w : World) (hu : OwnI w u xs) (h9 : xs.length ≤ 9) (ht : 0 < xs.length → ¬ x < topP xs) :
    Calls Try.prog 68 #[u, .int .i64 x] w fun e w' => ∃ u1, e = .returned u1 ∧ OwnI w' u1 (xs ++ [x]) ∧ (∀ g, u1.ownBlock = some g → u.ownBlock = some g ∨ w.heap.size ≤ g) ∧ w.grownBy w' u.ownBlock := by
  obtain ⟨ad, cap, rfl, _, _, _⟩ := hu.shape
  have hlq : xs.length ≤ 1048576 := by omega
  by_cases h0 : 0 < xs.length
  · obtain ⟨g, o, rfl, hg, hcr, _⟩ := Own.at hu (by omega)
    obtain ⟨l1, hl1⟩ : ∃ l1, xs.length = l1 + 1 := ⟨xs.length - 1, by omega⟩
    have hct := hcr l1 (by omega)
    have hty : topP xs = xs[l1] := by unfold topP; rw [List.getD_eq_getElem?_getD, show xs.length - 1 = l1 by omega, List.getElem?_eq_getElem (by omega)]; rfl
    rw [List.getElem?_map, List.getElem?_eq_getElem (by omega), ← hty] at hct
    have hct' : w.cell? ⟨g, o + l1, none⟩ = some (.int .i64 (topP xs)) := hct
    have hs1 : IntKind.i64.wrap ((xs.length : Int) - 1) = (l1 : Int) := by rw [hl1]; push_cast; rw [Int.add_sub_cancel]; exact IntWalk.i64_in _ (by omega)
    have hl2 : (l1 : Int) < (xs.length : Int) := by omega
    have h0' : (0 : Int) < (xs.length : Int) := by omega
    have ht' := ht h0
    have HU := Lib.hid hu
    clear hcr hct hty hu hl1 ht
    go_enter Try.func68, Try.ntmps68
    go_wp2_with (at_builtin; refine wpList_app1D Try.intSlRow rfl _ _ rfl (.slice (some ⟨g, o, none⟩) xs.length cap) xs rfl (HU.out.alloc _) w.heap.size x rfl (Blk.cell (cs := [iv x]) (heap_alloc_new _ _) 0) hlq (w.heap.size + 1) (by simp) ?_; intro v2 w2 ho2 hat2 hgr2)
    go_ret
    exact ⟨v2, rfl, ho2, fun b hb => (hat2 b hb).imp_right fun h => by omega, ⟨hgr2.os, hgr2.tape, hgr2.output, by have := hgr2.size; simp at this; omega, fun k hk hne => (hgr2.block k (by simp; omega) hne).trans (Below.heap_alloc w _ k hk)⟩⟩
  · obtain rfl : xs = [] := List.eq_nil_of_length_eq_zero (by omega)
    have HU := Lib.hid hu
    clear hu ht h0
    go_enter Try.func68, Try.ntmps68
    go_wp2_with (at_builtin; refine wpList_app1D Try.intSlRow rfl _ _ rfl (.slice ad 0 cap) [] rfl (HU.out.alloc _) w.heap.size x rfl (Blk.cell (cs := [iv x]) (heap_alloc_new _ _) 0) hlq (w.heap.size + 1) (by simp) ?_; intro v2 w2 ho2 hat2 hgr2)
    go_ret
    exact ⟨v2, rfl, ho2, fun b hb => (hat2 b hb).imp_right fun h => by omega, ⟨hgr2.os, hgr2.tape, hgr2.output, by have := hgr2.size; simp at this; omega, fun k hk hne => (hgr2.block k (by simp; omega) hne).trans (Below.heap_alloc w _ k hk)⟩⟩

/-- a row that has a greater size is raised -/
theorem ended_pan (u : Value) (xs : List Int) (x : Int) (w : World) (hu : OwnI w u xs) (h0 : 0 < xs.length) (h9 : xs.length ≤ 9) (ht : x < topP xs) :
    Calls Try.prog 68 #[u, .int .i64 x] w fun e w' => e = .panicked [{ v := .iface 61 u, recovered := false }] ∧ w' = w := by
  obtain ⟨ad, cap, rfl, _, _, _⟩ := hu.shape
  obtain ⟨g, o, rfl, hg, hcr, _⟩ := Own.at hu (by omega)
  obtain ⟨l1, hl1⟩ : ∃ l1, xs.length = l1 + 1 := ⟨xs.length - 1, by omega⟩
  have hct := hcr l1 (by omega)
  have hty : topP xs = xs[l1] := by unfold topP; rw [List.getD_eq_getElem?_getD, show xs.length - 1 = l1 by omega, List.getElem?_eq_getElem (by omega)]; rfl
  rw [List.getElem?_map, List.getElem?_eq_getElem (by omega), ← hty] at hct
  have hct' : w.cell? ⟨g, o + l1, none⟩ = some (.int .i64 (topP xs)) := hct
  have hs1 : IntKind.i64.wrap ((xs.length : Int) - 1) = (l1 : Int) := by rw [hl1]; push_cast; rw [Int.add_sub_cancel]; exact IntWalk.i64_in _ (by omega)
  have hl2 : (l1 : Int) < (xs.length : Int) := by omega
  have h0' : (0 : Int) < (xs.length : Int) := by omega
  clear hcr hct hty hu hl1
  go_enter Try.func68, Try.ntmps68
  go_wp2
  exact ⟨rfl, rfl, rfl⟩

end Go.Proofs.Ytfcbaegkppkfkaa
