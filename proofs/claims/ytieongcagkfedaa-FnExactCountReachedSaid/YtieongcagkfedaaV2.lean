import Derived.Test.YtieongcagkfedaaS4
import Derived.Test.YtieongcagkfedaaS8
import Derived.Test.YtieongcagkfedaaLO
import Derived.Test.YtieongcagkfedaaCe
import Derived.Test.YtieongcagkfedaaQ1
import Derived.Test.YtieongcagkfedaaTSg
namespace Go.Pan
open Go Go.RowKit
/-- a law of a plain region's list, at a step of a region that draws -/
theorem Oper.wp_weaken {P : Program} {o : Oper} {a : Act} {w : World} {K : Act → World → Prop} {Q Q' : Exit → Act → World → Prop} (h : Oper.wp P o a w K Q') (hp : ∀ ch a w, Q' (.panic ch) a w → Q (.panic ch) a w) (ho : ¬ LetsOut Q') :
    Oper.wp P o a w K Q := by
  unfold Oper.wp Oper.upon at *
  split <;> simp_all
  · exact Calls.mono h fun e w' hr => by
      cases e with
      | returned v => exact hr
      | panicked ch => exact hp _ _ _ hr
      | outgrown => exact hr.elim
theorem step_of_list {P : Program} {ops : Array Oper} {o : Oper} {a : Act} {w : World} {K : Act → World → Prop} {Q : Exit → Act → World → Prop} {E : Prop} (hg : o.guard = none)
    (h : ∀ Q' : Exit → Act → World → Prop, (∀ a w, K a w → Q' .normal a w) → wpList P ops Q' [o] a w) : if Region.wanted o (yielded ops a.tmps) = true then Oper.wp P o a w K Q else E := by
  have hw : Region.wanted o (yielded ops a.tmps) = true := by simp [Region.wanted, hg]
  rw [if_pos hw]
  have h1 := h (fun e a w => match e with | .normal => K a w | .outgrown => False | e => Q e a w) (fun a w hk => hk)
  simp only [wpList, hw, if_true] at h1
  rcases h1 with h1 | ⟨_, a', w', hf⟩
  · exact Oper.wp_weaken h1 (fun ch a w h => h) (fun ⟨a', w', hf⟩ => hf)
  · exact hf.elim

end Go.Pan

namespace Go.Proofs.Ytieongcagkfedaa
open Go Go.RowKit Go.Pan

/-- 's[l:h]' of a slice that lies somewhere -/
theorem sub_some {ad : Addr} {cap l h : Nat} {q : List Int} (h1 : l ≤ h) (h2 : h ≤ q.length) (h3 : h ≤ cap) : ∃ (a0 : Addr) (c0 : Nat), (∀ W : World, (Instr.sliceAt 22 (.slice (some ad) q.length cap) (some (.int .i64 (l : Int))) (some (.int .i64 (h : Int))) none).run Try.prog W = .ok (.slice (some a0) ((q.take h).drop l).length c0) W) ∧
    ∀ w : World, OwnI w (.slice (some ad) q.length cap) q → OwnI w (.slice (some a0) ((q.take h).drop l).length c0) ((q.take h).drop l) := by
  have hlen : ((q.take h).drop l).length = h - l := by rw [List.length_drop, List.length_take, Nat.min_eq_left h2]
  obtain ⟨i, hi, hz, hs1, hb8⟩ := info_parts Try.info3
  have he : Try.prog.elem 22 = 3 := by simp [Program.elem, Try.underlying22]
  have hrun : ∀ W : World, (Instr.sliceAt 22 (.slice (some ad) q.length cap) (some (.int .i64 (l : Int))) (some (.int .i64 (h : Int))) none).run Try.prog W = .ok (.slice (if cap = l then some ad else (some ad).map (·.add (l * 1))) (h - l) (cap - l)) W := fun W => by
    rw [run_sliceAt_slice W 22 _ _ _ _ (by rw [he]; exact Try.underlying22), run_slice_lh W 22 (some ad) q.length cap (by rw [he]; exact Try.underlying22) .i64 .i64 l h (by omega) (by omega) (by omega)]
    simp [sizeOf, typeInfo, he, hi, hs1, sliced, Result.andThen]
  have hk : ∀ w : World, OwnI w (.slice (some ad) q.length cap) q → OwnI w (.slice (if cap = l then some ad else (some ad).map (·.add (l * 1))) ((q.take h).drop l).length (cap - l)) ((q.take h).drop l) := fun w ho => by
    have hd := OwnI.take ho h2
    have h4 : (q.take h).length = h := by rw [List.length_take, Nat.min_eq_left h2]
    have := Own.drop (show Own w 1 (.slice (some ad) h cap) h ((q.take h).map iv) by have := hd; unfold OwnI at this; rwa [h4] at this) h1
    unfold OwnI
    rw [hlen, List.map_drop]
    exact this
  by_cases hc : cap = l
  · simp only [if_pos hc] at hrun hk
    exact ⟨ad, cap - l, fun W => by rw [hrun, hlen], hk⟩
  · simp only [if_neg hc] at hrun hk
    exact ⟨ad.add (l * 1), cap - l, fun W => by rw [hrun, hlen]; rfl, hk⟩

end Go.Proofs.Ytieongcagkfedaa

namespace Go.Pan
-- what the functions return
def okSeg (xs : List Int) (p : Int × Int) : Bool := goodB xs && segB xs.length p
def mTurnSegment (xs : List Int) (p : Int × Int) : List Int := if okSeg xs p = true then segT xs p else []
def okSegs (xs : List Int) (l : List (Int × Int)) : Bool := goodB xs && (decide ((l.length : Int) ≤ 40) && segsB xs.length l)
def mPlaySegments (xs : List Int) (l : List (Int × Int)) : List Int := if okSegs xs l = true then playG xs l else []
def mBreakPoints (xs : List Int) : List Int := if goodB xs = true then brkL xs else []
def mSegmentBound (xs : List Int) : Int := if goodB xs = true then (((brkL xs).length + 1) / 2 : Nat) else 0
theorem len_mTurnSegment (xs : List Int) (p : Int × Int) : (mTurnSegment xs p).length ≤ 1048576 := by
  unfold mTurnSegment
  split
  · rename_i h
    simp only [okSeg, Bool.and_eq_true, goodB_iff] at h
    rw [segT_length h.2]; have := h.1.le9; omega
  · simp
theorem len_mPlaySegments (xs : List Int) (l : List (Int × Int)) : (mPlaySegments xs l).length ≤ 1048576 := by
  unfold mPlaySegments
  split
  · rename_i h
    simp only [okSegs, Bool.and_eq_true, goodB_iff, segsB_iff] at h
    rw [playG_length h.2.2]; have := h.1.le9; omega
  · simp
theorem len_mBreakPoints (xs : List Int) : (mBreakPoints xs).length ≤ 1048576 := by
  unfold mBreakPoints
  split
  · rename_i h; have := (goodB_iff.1 h).le9; have := brkL_length xs; omega
  · simp

end Go.Pan

namespace Go.Proofs.Ytieongcagkfedaa
open Go Go.RowKit Go.Pan

theorem okSegs_bad {xs : List Int} {l : List (Int × Int)} {k : Nat} (hk : k < l.length) (h : segB xs.length l[k] = false) : okSegs xs l = false := by
  unfold okSegs
  have : segsB xs.length l = false := by
    cases hs : segsB xs.length l with
    | false => rfl
    | true => have := segsB_iff.1 hs _ (List.getElem_mem hk); rw [h] at this; cases this
  rw [this, Bool.and_false, Bool.and_false]
theorem okSegs_all {xs : List Int} {l : List (Int × Int)} (hg : goodB xs = true) (h40 : (l.length : Int) ≤ 40) (h : Segs xs.length (l.take l.length)) : okSegs xs l = true := by
  rw [List.take_length] at h
  unfold okSegs
  rw [hg, decide_eq_true h40, segsB_iff.2 h]
  rfl
theorem segs_take_succ {n : Int} {l : List (Int × Int)} {k : Nat} (hk : k < l.length) (h : Segs n (l.take k)) (hp : segB n l[k] = true) : Segs n (l.take (k + 1)) := by
  rw [List.take_succ_eq_append_getElem hk]
  exact h.snoc hp

end Go.Proofs.Ytieongcagkfedaa

