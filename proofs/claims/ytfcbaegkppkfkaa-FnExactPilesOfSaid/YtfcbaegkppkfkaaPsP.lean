import Derived.Test.YtfcbaegkppkfkaaPsB
import Derived.Test.YtfcbaegkppkfkaaCe
import Derived.Test.YtfcbaegkppkfkaaS1
import Derived.BigQuiet
import Derived.Deep.AppendLies
namespace Go.Proofs.Ytfcbaegkppkfkaa
open Go Go.RowKit Go.Pan

theorem Try.info41P : (Try.prog.info? 41).map (fun i => (i.zero, i.size, i.bytes)) = some (some (.agg #[.nilFunc, .nilFunc]), 2, 16) := by kernel_rfl
/-- a pile as its two functions -/
def cP : Cel Nat 2 := ⟨fun b => [.func (Fn.func 60) #[] #[.pointer (some ⟨b, 0, none⟩)], .func (Fn.func 61) #[] #[.pointer (some ⟨b, 0, none⟩)]], fun _ => rfl, fun p v h => by simp at h; rcases h with rfl | rfl <;> rfl⟩

/-- 'slices.Clip' -/
theorem ClipP_any (v : Value) (xs : List Int) (w : World) (hv : OwnI w v xs) :
    Calls Try.prog 55 #[v] w fun e w' => ∃ r, e = .returned r ∧ OwnI w r xs ∧ r.ownBlock = v.ownBlock ∧ w = w' := by
  obtain ⟨ad, cap, rfl, hc, hm, hnil⟩ := hv.shape
  go_enter Try.func55, Try.ntmps55
  go_wp2
  go_ret
  exact ⟨.slice ad xs.length xs.length, rfl, Own.clip hv, by cases ad <;> rfl, rfl⟩

theorem ownI_of_blkP {w : World} {g : Nat} {ty : TypeId} {x : Int} (h : Blk w g ty [iv x]) : OwnI w (.slice (some ⟨g, 0, none⟩) 1 1) [x] :=
  ⟨_, 1, rfl, by simp, by simp, by unfold maxLen; omega, by simp, fun a ha => by
    cases ha
    exact ⟨rfl, _, ty, h, by simp, fun j hj => by simp⟩⟩
/-- what lies on a pile -/
theorem allP_any (b : Nat) (u : Value) (xs : List Int) (w : World) (hb : Blk w b 22 [u]) (hu : OwnI w u xs) :
    Calls Try.prog 61 #[.pointer (some ⟨b, 0, none⟩)] w fun e w' => ∃ r, e = .returned r ∧ OwnI w r xs ∧ r.ownBlock = u.ownBlock ∧ w = w' := by
  have hc : w.cell? ⟨b, 0, none⟩ = some u := hb.cell 0
  have C := ClipP_any u xs w hu
  obtain ⟨ad, cap, rfl, _, _, _⟩ := hu.shape
  go_enter Try.func61, Try.ntmps61
  go_wp2_with fail
  refine C.mono ?_
  rintro e w2 ⟨r, rfl, h1, h2, rfl⟩
  go_wp2
  go_ret
  exact ⟨r, rfl, h1, h2, rfl⟩

/-- a new pile -/
theorem pileOn_any (x : Int) (w : World) :
    Calls Try.prog 51 #[.int .i64 x] w fun e w' => ∃ b u, e = .returned (.agg (cP.c b).toArray) ∧ Blk w' b 22 [u] ∧ OwnI w' u [x] ∧ w.heap.size ≤ b ∧ b < w'.heap.size ∧ (∀ g, u.ownBlock = some g → w.heap.size ≤ g ∧ g < w'.heap.size ∧ g ≠ b) ∧ Below w.heap.size w w' := by
  go_enter Try.func51, Try.ntmps51
  have hsz : (Try.prog.info? 41).map (·.size) = some 2 := by kernel_rfl
  go_wp2_with (first | (refine wpList_storeS2 rfl 41 _ _ rfl w.heap.size _ _ rfl rfl 41 [.nilFunc, .nilFunc] (((Blk.new w 41 [.nilFunc, .nilFunc] _ rfl).alloc _).alloc _) hsz rfl ⟨rfl, rfl⟩ ?_; intro w' hbk hgr; have hrg := hbk.range))
  have hz := hgr.size
  have hz' : w.heap.size + 1 + 1 + 1 ≤ w'.heap.size := by simpa using hz
  have h1 : Blk w' (w.heap.size + 1) 3 [.int .i64 x] := ((Blk.new (w.alloc (.cells #[.nilFunc, .nilFunc] 41)) 3 [.int .i64 x] (w.heap.size + 1) (by simp)).alloc _).grown hgr (by intro e; simp at e)
  have h2 : Blk w' (w.heap.size + 1 + 1) 22 [.slice (some ⟨w.heap.size + 1, 0, none⟩) 1 1] := (Blk.new _ 22 [.slice (some ⟨w.heap.size + 1, 0, none⟩) 1 1] (w.heap.size + 1 + 1) (by simp)).grown hgr (by intro e; simp at e; omega)
  have hB := ((((Below.refl w.heap.size w).alloc (Nat.le_refl _) _).alloc (by simp) _).alloc (by simp; omega) _).grown hgr (by simp; omega) (fun k hk => by cases hk; exact Nat.le_refl _)
  exact bodyPost_ret (results_cell_row rfl _ _ w.heap.size 41 _ _ _ rfl hbk Try.underlying41 rfl hsz) rfl ⟨w.heap.size + 1 + 1, _, rfl, h2, ownI_of_blkP h1, by omega, by omega, fun g hg => by simp [Value.ownBlock] at hg; omega, hB⟩

/-- a pile takes a pancake, or not -/
theorem takeP_no (b : Nat) (u : Value) (xs : List Int) (x : Int) (w : World) (hb : Blk w b 22 [u]) (hu : OwnI w u xs) (h0 : 0 < xs.length) (h9 : xs.length ≤ 9) (ht : topP xs < x) :
    Calls Try.prog 60 #[.int .i64 x, .pointer (some ⟨b, 0, none⟩)] w fun e w' => e = .returned (.bool false) ∧ w' = w := by
  have hc : w.cell? ⟨b, 0, none⟩ = some u := hb.cell 0
  obtain ⟨ad, cap, rfl, _, _, _⟩ := hu.shape
  obtain ⟨g, o, rfl, hg, hcr, _⟩ := Own.at hu (by omega)
  obtain ⟨l1, hl1⟩ : ∃ l1, xs.length = l1 + 1 := ⟨xs.length - 1, by omega⟩
  have hct := hcr l1 (by omega)
  have hty : topP xs = xs[l1] := by unfold topP; rw [List.getD_eq_getElem?_getD, show xs.length - 1 = l1 by omega, List.getElem?_eq_getElem (by omega)]; rfl
  rw [List.getElem?_map, List.getElem?_eq_getElem (by omega), ← hty] at hct
  have hct' : w.cell? ⟨g, o + l1, none⟩ = some (.int .i64 (topP xs)) := hct
  have hs1 : IntKind.i64.wrap ((xs.length : Int) - 1) = (l1 : Int) := by rw [hl1]; push_cast; rw [Int.add_sub_cancel]; exact IntWalk.i64_in _ (by omega)
  have hl2 : (l1 : Int) < (xs.length : Int) := by omega
  clear hcr hct hty
  go_enter Try.func60, Try.ntmps60
  go_wp2_with fail
  go_ret
  exact ⟨rfl, rfl⟩
theorem takeP_yes (b : Nat) (u : Value) (xs : List Int) (x : Int) (w : World) (hb : Blk w b 22 [u]) (hu : OwnI w u xs) (hub : u.ownBlock ≠ some b) (h0 : 0 < xs.length) (h9 : xs.length ≤ 9) (ht : ¬ topP xs < x) :
    Calls Try.prog 60 #[.int .i64 x, .pointer (some ⟨b, 0, none⟩)] w fun e w' => e = .returned (.bool true) ∧ ∃ W u1, w' = W.setCell ⟨b, 0, none⟩ u1 ∧ OwnI W u1 (xs ++ [x]) ∧ (∀ g, u1.ownBlock = some g → u.ownBlock = some g ∨ w.heap.size ≤ g) ∧ w.grownBy W u.ownBlock := by
  have hc : w.cell? ⟨b, 0, none⟩ = some u := hb.cell 0
  have hblt := hb.lt
  obtain ⟨ad, cap, rfl, _, _, _⟩ := hu.shape
  obtain ⟨g, o, rfl, hg, hcr, _⟩ := Own.at hu (by omega)
  obtain ⟨l1, hl1⟩ : ∃ l1, xs.length = l1 + 1 := ⟨xs.length - 1, by omega⟩
  have hct := hcr l1 (by omega)
  have hty : topP xs = xs[l1] := by unfold topP; rw [List.getD_eq_getElem?_getD, show xs.length - 1 = l1 by omega, List.getElem?_eq_getElem (by omega)]; rfl
  rw [List.getElem?_map, List.getElem?_eq_getElem (by omega), ← hty] at hct
  have hct' : w.cell? ⟨g, o + l1, none⟩ = some (.int .i64 (topP xs)) := hct
  have hs1 : IntKind.i64.wrap ((xs.length : Int) - 1) = (l1 : Int) := by rw [hl1]; push_cast; rw [Int.add_sub_cancel]; exact IntWalk.i64_in _ (by omega)
  have hl2 : (l1 : Int) < (xs.length : Int) := by omega
  have ht' : x ≤ topP xs := by omega
  have HU := Lib.hid hu
  have HB := Lib.hid hb
  have hlq : xs.length ≤ 1048576 := by omega
  clear hcr hct hty hu hb hl1
  go_enter Try.func60, Try.ntmps60
  go_wp2_with (at_builtin; refine wpList_app1D Try.intSl rfl _ _ rfl (.slice (some ⟨g, o, none⟩) xs.length cap) xs rfl (HU.out.alloc _) w.heap.size x rfl ?c1 hlq (w.heap.size + 1) ?c2 ?_; rotate_right; intro v2 w2 ho2 hat2 hgr2; obtain ⟨a2, c2, rfl, _, _, _⟩ := ho2.shape; have hbk := (HB.out.alloc _).grown hgr2 hub; have hcb : w2.cell? ⟨b, 0, none⟩ = some (.slice (some ⟨g, o, none⟩) xs.length cap) := hbk.cell 0; have hfb := hbk.frozen 0)
  go_ret
  rw [List.length_append] at ho2 hat2
  exact ⟨rfl, w2, _, rfl, ho2, fun g hg => (hat2 g hg).imp_right fun h => by omega, ⟨hgr2.os, hgr2.tape, hgr2.output, by have := hgr2.size; simp at this; omega, fun k hk hne => (hgr2.block k (by simp; omega) hne).trans (Below.heap_alloc w _ k hk)⟩⟩

end Go.Proofs.Ytfcbaegkppkfkaa
