import Derived.Test.YtdlnniciccpchaaProg
import Derived.Test.YtdlnniciccpchaaLib
namespace Go.Proofs.Ytdlnniciccpchaa
open Go Go.RowKit Go.Pan

theorem Try.info3 : (Try.prog.info? 3).map (fun i => (i.zero, i.size, i.bytes)) = some (some (.int .i64 0), 1, 8) := by kernel_rfl
theorem Try.info22 : (Try.prog.info? 24).map (fun i => (i.zero, i.size, i.bytes)) = some (some (.slice none 0 0), 1, 24) := by kernel_rfl

theorem copy_step (xs : List Int) (k : Nat) (hk : k < xs.length) :
    ((xs.take k ++ List.replicate (xs.length - k) 0).map iv).set k (iv xs[k]) = (xs.take (k+1) ++ List.replicate (xs.length - (k+1)) 0).map iv := by
  rw [← List.map_set]
  congr 1
  have e : List.replicate (xs.length - k) (0 : Int) = 0 :: List.replicate (xs.length - (k + 1)) 0 := by
    rw [← List.replicate_succ]; congr 1; omega
  have e2 : k - (xs.take k).length = 0 := by simp; omega
  rw [e, List.set_append_right _ _ (by simp; omega), e2, List.set_cons_zero, List.take_succ_eq_append_getElem hk, List.append_assoc]
  rfl

theorem eq_take_succ (xs ys : List Int) (k : Nat) (h : xs.length = ys.length) (hk : k < xs.length) (e : xs.take k = ys.take k) (hx : xs[k] = ys[k]'(by omega)) : xs.take (k + 1) = ys.take (k + 1) := by
  rw [List.take_succ_eq_append_getElem hk, List.take_succ_eq_append_getElem (by omega : k < ys.length), e, hx]

theorem mark_step (cs : List Value) (k0 : Int) (k : Nat) (hk : k < cs.length) :
    ((ramp k0 k).map iv ++ cs.drop k).set k (iv (k0 + k)) = (ramp k0 (k + 1)).map iv ++ cs.drop (k + 1) := by
  rw [List.set_append_right _ _ (by simp [ramp]), List.drop_eq_getElem_cons hk, show k - ((ramp k0 k).map iv).length = 0 from by simp [ramp], List.set_cons_zero]
  simp [ramp, List.range_succ]

theorem grown_set {w wr : World} {g off n cap : Nat} (h : w.grownBy wr (Value.slice (some ⟨g, off, none⟩) n cap).ownBlock) (j : Nat) (u : Value) :
    w.grownBy (wr.setCell ⟨g, j, none⟩ u) (Value.slice (some ⟨g, off, none⟩) n cap).ownBlock :=
  ⟨h.os, h.tape, h.output, by have := h.size; simpa [World.setCell] using this, fun k hk hne => (heap_setCell_other wr ⟨g, j, none⟩ k u (fun e => hne (by simp [Value.ownBlock, e]))).trans (h.block k hk hne)⟩

end Go.Proofs.Ytdlnniciccpchaa

