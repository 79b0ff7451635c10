import Derived.Test.YtpclomokljgphaaR10
namespace Go.Pan
open Go Go.RowKit
theorem Blk.turned {w w' : World} {g B : Nat} {ty : TypeId} {cs : List Value} {row : Option Nat} (h : Blk w g ty cs) (hg : w.grownBy w' row) (hr : ∀ r, row = some r → B ≤ r ∧ ∃ o : Obj, w.heap[r]? = some o ∧ o.isCells = false) : Blk w' g ty cs := by
  unfold Blk at h ⊢
  refine (hg.block g (Array.getElem?_eq_some_iff.1 h).1 (fun e => ?_)).trans h
  obtain ⟨_, o, ho, hc⟩ := hr g e.symm
  rw [h] at ho
  cases ho
  cases hc
theorem Own.turned {w w' : World} {sz n B : Nat} {v : Value} {cs : List Value} {row : Option Nat} (h : Go.Pan.Own w sz v n cs) (hg : w.grownBy w' row) (hr : ∀ r, row = some r → B ≤ r ∧ ∃ o : Obj, w.heap[r]? = some o ∧ o.isCells = false) : Go.Pan.Own w' sz v n cs := by
  refine h.grown hg fun g hv e => ?_
  obtain ⟨_, o, ho, hc⟩ := hr g e
  obtain ⟨ad, cap, rfl, _, _, _, _, hk⟩ := h
  cases ad with
  | none => simp [Value.ownBlock] at hv
  | some a =>
    simp [Value.ownBlock] at hv
    obtain ⟨_, cur, ty, hh, _⟩ := hk a rfl
    rw [hv, ho] at hh
    cases hh
    cases hc
end Go.Pan
namespace Go.Proofs.Ytpclomokljgphaa
open Go Go.RowKit Go.Pan Go.Shelf

attribute [local go_sem] Oper.semAt_some

/-- FirstNoPair's cells ahead of a return -/
def FnpI (h m : Nat) (w W : World) : Prop := Blk W h 3 [iv m] ∧ Blk W (h + 1) 22 [.slice none 0 0] ∧ Blk W (h + 1 + 1) 4 [.bool false] ∧ Below h w W
/-- .. behind it -/
def FnpR (h : Nat) (w : World) (xs : List Int) (W : World) : Prop := ∃ r, Blk W (h + 1) 22 [r] ∧ Blk W (h + 1 + 1) 4 [.bool true] ∧ OwnI W r xs ∧ From h r ∧ Below h w W

theorem FnpR.turned {h B : Nat} {w W W' : World} {xs : List Int} {row : Option Nat} (H : FnpR h w xs W) (hg : W.grownBy W' row) (hh : h ≤ B) (hr : ∀ r, row = some r → B ≤ r ∧ ∃ o : Obj, W.heap[r]? = some o ∧ o.isCells = false) : FnpR h w xs W' := by
  obtain ⟨r, h1, h2, h3, h4, h5⟩ := H
  exact ⟨r, h1.turned hg hr, h2.turned hg hr, h3.turned hg hr, h4, h5.grown hg (by have := h1.lt; omega) (fun k e => Nat.le_trans hh (hr k e).1)⟩
theorem FnpI.kept {h m B : Nat} {w W W' : World} (H : FnpI h m w W) (hb : Below B W W') (hh : h + 2 < B) : FnpI h m w W' := by
  obtain ⟨h1, h2, h3, h4⟩ := H
  exact ⟨h1.below hb (by omega), h2.below hb (by omega), h3.below hb (by omega), h4.trans (hb.mono (by omega))⟩

set_option maxRecDepth 100000 in
set_option maxHeartbeats 4000000 in
theorem FirstNoPair_any (n : Int) (w : World) :
    Calls Try.prog 62 #[.int .i64 n] w fun e w' => ∃ r, e = .returned (.tuple #[r, .bool (okFirst n)]) ∧ OwnI w' r (mFirstNoPair n) ∧ From w.heap.size r ∧ Below w.heap.size w w' := by
  cases hi : inB n 1 9 with
  | true =>
    obtain ⟨m, hm⟩ : ∃ m : Nat, n = (m : Int) := ⟨n.toNat, by have := inB_iff.1 hi; omega⟩
    subst hm
    have hb := inB_iff.1 hi
    have h9 : m ≤ 9 := by omega
    have HM := Lib.hid (show mFirstNoPair (m : Int) = (lookL m m []).headD [] by unfold mFirstNoPair noPairs; rw [if_pos hi]; rfl)
    have HK := Lib.hid (show okFirst (m : Int) = decide ((lookL m m []).length ≠ 0) by unfold okFirst noPairs; rw [hi, Bool.true_and]; rfl)
    have HI := Lib.hid hi
    have HQ := Lib.hid (show ∀ q ∈ growL noPairB m m [], q.length = m from fun q hq => by have := growL_len noPairB m m [] q hq; simpa using this)
    clear hi hb
    refine callsIn_wide.1 (callsIn_of_wp_marks (F := Fence.wide) (n := 9) Try.func62 rfl trivial ?_ rfl)
    simp only [Try.ntmps62, List.size_toArray, List.length_cons, List.length_nil, Nat.reduceAdd, Nat.reduceSub, Array.replicate_succ, Array.replicate_zero, List.push_toArray, List.append_toArray, List.nil_append, List.cons_append]
    have hbw : Below w.heap.size w (((w.alloc (.cells #[.int .i64 m] 3)).alloc (.cells #[.slice none 0 0] 22)).alloc (.cells #[.bool false] 4)) := (((Below.refl _ w).alloc (Nat.le_refl _) _).alloc (by simp) _).alloc (by simp; omega) _
    have hbx : Blk (((w.alloc (.cells #[.int .i64 m] 3)).alloc (.cells #[.slice none 0 0] 22)).alloc (.cells #[.bool false] 4)) w.heap.size 3 [iv m] := ((Blk.new w 3 [iv m] _ rfl).alloc _).alloc _
    have hby : Blk (((w.alloc (.cells #[.int .i64 m] 3)).alloc (.cells #[.slice none 0 0] 22)).alloc (.cells #[.bool false] 4)) (w.heap.size + 1) 22 [.slice none 0 0] := (Blk.new (w.alloc (.cells #[.int .i64 m] 3)) 22 [.slice none 0 0] _ (by simp)).alloc _
    have hbz : Blk (((w.alloc (.cells #[.int .i64 m] 3)).alloc (.cells #[.slice none 0 0] 22)).alloc (.cells #[.bool false] 4)) (w.heap.size + 1 + 1) 4 [.bool false] := Blk.new ((w.alloc (.cells #[.int .i64 m] 3)).alloc (.cells #[.slice none 0 0] 22)) 4 [.bool false] _ (by simp)
    gi_wp2_with fail
    refine ⟨trivial, (callsIn_wide.2 (isCount_any _ _)).mono ?_⟩
    rintro e w1 ⟨rfl, rfl⟩
    rw [HI.out]
    gi_wp2_with fail
    refine ⟨trivial, (callsIn_wide.2 (towersOf_any (m : Int) 102 _)).mono ?_⟩
    rintro e w2 ⟨rfl, hc1, hc2, hsz, hb2⟩
    simp only [World.size_alloc] at hc1 hc2 hsz hb2
    have hI2 : FnpI w.heap.size m w w2 := ⟨hbx.below hb2 (by omega), hby.below hb2 (by omega), hbz.below hb2 (by omega), hbw.trans (hb2.mono (by omega))⟩
    have hseq := towers_low 102 noPairB m h9 (enters_of Try.func102 (by kernel_rfl) rfl) no_calls (w.heap.size + 1 + 1 + 1) (w.heap.size + 1 + 1 + 1 + 1) w2 (by omega) (by omega) hc1 hc2
    clear hc1 hc2 hbx hby hbz hbw hb2
    gi_wp2_with fail
    refine wpIn_rangeFunc_low rfl (by omega) (gf := 126) rfl trivial (enters_of Try.func126 (by kernel_rfl) rfl) hseq (Below.refl _ _) (fun _ => rfl)
      (fun pre W => pre = [] ∧ FnpI w.heap.size m w W) (fun c pre W => c = .ret ∧ ∃ x : TwU, pre = [x] ∧ FnpR w.heap.size w x.1 W)
      (fun s A A' hI hB => ⟨hI.1, hI.2.kept hB (by omega)⟩) (fun c s X Y row hs hg hr => by obtain ⟨h1, x, h2, h3⟩ := hs; exact ⟨h1, x, h2, h3.turned hg (by omega) hr⟩) ⟨rfl, hI2⟩
      (fun x a' W => ∃ g, Blk W g 51 (twl x.1) ∧ a' = { tmps := #[.int .i64 m, .pointer (some ⟨w.heap.size, 0, none⟩), .pointer (some ⟨w.heap.size + 1, 0, none⟩), .pointer (some ⟨w.heap.size + 1 + 1, 0, none⟩), .pointer (some ⟨g, 0, none⟩), .int .i64 m, .bool true, .bool false, .int .i64 m, .func (.func 126) #[] #[.pointer (some ⟨w.heap.size + 1 + 1 + 1, 0, none⟩), .pointer (some ⟨w.heap.size + 1 + 1 + 1 + 1, 0, none⟩)], tw x.1, undef, undef, undef], defers := [] })
      (fun x a' _ X Y row hs hg hr => by obtain ⟨g, h2, h3⟩ := hs; exact ⟨g, h2.turned hg hr, h3⟩) ?assign ?body ?done ?stop
    case assign =>
      rintro l pre x W K ⟨hnil, hI⟩ hK
      have hzero : Blk (W.alloc (.cells (twl []).toArray 51)) W.heap.size 51 (twl []) := Blk.new _ _ (twl []) _ rfl
      clear hI hseq hI2
      gi_wp2_with (refine wpListIn_store_tow rfl _ _ rfl W.heap.size [] x.1 (by simp) x.2 rfl rfl hzero ?_; intro w3 hbT3 hgr3)
      have hg13 : W.grownBy w3 none := by
        obtain ⟨a1, a2, a3, a4, a5⟩ := hgr3
        exact ⟨a1, a2, a3, by simp at a4; omega, fun k hk _ => (a5 k (by simp; omega) (by simp; omega)).trans (Below.heap_alloc W _ k hk)⟩
      exact hK _ _ hg13 ⟨W.heap.size, hbT3, rfl⟩
    case body =>
      rintro l pre x r0 a' W hl ⟨rfl, hI⟩ ⟨g, hbg, rfl⟩ hlt hlen
      have hxl : x.1.length = m := HQ.out _ (towL_mem hlen (fun q hq => by rw [HQ.out q hq]; exact h9))
      obtain ⟨h1, h2, h3, h4⟩ := hI
      have hcc := h1.cell 0
      simp only [List.getElem?_cons_zero] at hcc
      clear hlen hseq hI2
      gi_wp2_with (refine wpListIn_load_tow rfl _ rfl g x.1 x.2 rfl hbg ?_)
      refine ⟨trivial, (callsIn_round (list_any x.1 m _ hxl h9)).mono ?_⟩
      rintro e w4 ⟨r, rfl, ho, hf, hb4⟩
      obtain ⟨ad, cap, rfl, _, _, _⟩ := ho.shape
      have h2' := h2.below hb4 h2.lt
      have h3' := h3.below hb4 h3.lt
      have hc2 := h2'.cell 0
      have hc3 := h3'.cell 0
      simp only [List.getElem?_cons_zero] at hc2 hc3
      have hf2 := h2'.frozen 0
      have hf3 := h3'.frozen 0
      have hB4 := h4.trans (hb4.mono (by have := h4.size; omega))
      have hz := h4.size
      have hz4 := hb4.size
      have hlz := h3.lt
      have g1 := grownBy_setCell w4 (w.heap.size + 1) 0 (.slice ad x.1.length cap)
      have g2 := grownBy_setCell (w4.setCell ⟨w.heap.size + 1, 0, none⟩ (.slice ad x.1.length cap)) (w.heap.size + 1 + 1) 0 (.bool true)
      have k2 : Blk (w4.setCell ⟨w.heap.size + 1, 0, none⟩ (.slice ad x.1.length cap)) (w.heap.size + 1) 22 [.slice ad x.1.length cap] := by simpa using h2'.set 0 (.slice ad x.1.length cap)
      have k2' := k2.other (a := ⟨w.heap.size + 1 + 1, 0, none⟩) (by simp) (.bool true)
      have k3 : Blk ((w4.setCell ⟨w.heap.size + 1, 0, none⟩ (.slice ad x.1.length cap)).setCell ⟨w.heap.size + 1 + 1, 0, none⟩ (.bool true)) (w.heap.size + 1 + 1) 4 [.bool true] := by
        simpa using (h3'.other (a := ⟨w.heap.size + 1, 0, none⟩) (by simp) (.slice ad x.1.length cap)).set 0 (.bool true)
      have o2 := (ho.grown g1 (fun k hk e => by have := hf k hk; cases e; omega)).grown g2 (fun k hk e => by have := hf k hk; cases e; omega)
      have hB5 := (hB4.setCell (p := ⟨w.heap.size + 1, 0, none⟩) (by simp) (.slice ad x.1.length cap)).setCell (p := ⟨w.heap.size + 1 + 1, 0, none⟩) (by simp; omega) (.bool true)
      have kf := ((KeepsFrom.of_grownBy (B := w2.heap.size) (show W.grownBy w4 none from ⟨hb4.os, hb4.tape, hb4.output, hb4.size, fun k hk _ => hb4.block k hk⟩) (fun j e => by cases e)).trans (KeepsFrom.of_grownBy (B := w2.heap.size) g1 (fun j e => by cases e; omega))).trans (KeepsFrom.of_grownBy (B := w2.heap.size) g2 (fun j e => by cases e; omega))
      have hfr : From w.heap.size (.slice ad x.1.length cap) := hf.mono (by omega)
      clear hxl g1 g2 k2 h2' h3' hB4 h1 h2 h3 h4 hb4 ho hf
      gi_wp2
      exact ⟨kf, rfl, x, rfl, _, k2', k3, o2, hfr, hB5⟩
    case done =>
      rintro D W hD ⟨hnil, hI⟩ hK
      have h0 : (lookL m m []).length = 0 := by
        rw [growL_no] at hnil
        have := congrArg List.length hnil
        simpa [towL] using this
      have HK0 := Lib.hid (show okFirst (m : Int) = false by rw [HK.out, h0]; rfl)
      have HM0 := Lib.hid (show mFirstNoPair (m : Int) = [] by rw [HM.out, List.eq_nil_of_length_eq_zero h0]; rfl)
      obtain ⟨h1, h2, h3, h4⟩ := hI
      have hc2 := h2.cell 0
      have hc3 := h3.cell 0
      simp only [List.getElem?_cons_zero] at hc2 hc3
      have hf2 := h2.frozen 0
      have hf3 := h3.frozen 0
      clear hnil h0 hseq hI2
      have k2 : Blk (W.setCell ⟨w.heap.size + 1, 0, none⟩ (.slice none 0 0)) (w.heap.size + 1) 22 [.slice none 0 0] := by simpa using h2.set 0 (.slice none 0 0)
      have k2' := k2.other (a := ⟨w.heap.size + 1 + 1, 0, none⟩) (by simp) (.bool false)
      have k3 : Blk ((W.setCell ⟨w.heap.size + 1, 0, none⟩ (.slice none 0 0)).setCell ⟨w.heap.size + 1 + 1, 0, none⟩ (.bool false)) (w.heap.size + 1 + 1) 4 [.bool false] := by
        simpa using (h3.other (a := ⟨w.heap.size + 1, 0, none⟩) (by simp) (.slice none 0 0)).set 0 (.bool false)
      have hB5 := (h4.setCell (p := ⟨w.heap.size + 1, 0, none⟩) (by simp) (.slice none 0 0)).setCell (p := ⟨w.heap.size + 1 + 1, 0, none⟩) (by simp; omega) (.bool false)
      have hK2 := ((heap_setCell_other (W.setCell ⟨w.heap.size + 1, 0, none⟩ (.slice none 0 0)) ⟨w.heap.size + 1 + 1, 0, none⟩ D (.bool false) (by simp; omega)).trans (heap_setCell_other W ⟨w.heap.size + 1, 0, none⟩ D (.slice none 0 0) (by simp; omega))).trans hK
      have gp := fun o' => grownBy_putObj' ((W.setCell ⟨w.heap.size + 1, 0, none⟩ (.slice none 0 0)).setCell ⟨w.heap.size + 1 + 1, 0, none⟩ (.bool false)) D o'
      have hrow : ∀ r, some D = some r → 0 ≤ r ∧ ∃ o : Obj, ((W.setCell ⟨w.heap.size + 1, 0, none⟩ (.slice none 0 0)).setCell ⟨w.heap.size + 1 + 1, 0, none⟩ (.bool false)).heap[r]? = some o ∧ o.isCells = false := fun r e => by cases e; exact ⟨Nat.zero_le _, _, hK2, rfl⟩
      gi_wp2
      refine ⟨by simp, .inl ⟨_, _, rfl, run_takeDeferred hK2, ?_⟩⟩
      refine ⟨_, results_cells2 rfl _ _ _ _ _ _ rfl rfl (agg_sl _) (agg_bool _) (Blk.cell (k2'.turned (gp _) hrow) 0) (Blk.cell (k3.turned (gp _) hrow) 0), _, by rw [HK0.out], by rw [HM0.out]; exact OwnI.nil _, From.nil _ _ _, ?_⟩
      exact hB5.trans (belowK_b (w := w) (Nat.le_refl _) _ D _ _ (by omega) hK2 rfl rfl)
    case stop =>
      rintro D c pre W hD hp ⟨rfl, x, rfl, hR⟩ hK
      obtain ⟨r0, hr0⟩ := hp
      have hd := towL_head hr0 (fun q hq => by rw [HQ.out q hq]; exact h9)
      rw [growL_no] at hd
      have HK1 := Lib.hid (show okFirst (m : Int) = true by rw [HK.out]; exact decide_eq_true hd.2)
      have HM1 := Lib.hid (show mFirstNoPair (m : Int) = x.1 by rw [HM.out, hd.1])
      obtain ⟨r, k2, k3, ho, hf, hB⟩ := hR
      have gp := fun o' => grownBy_putObj' W D o'
      have hrow : ∀ r, some D = some r → 0 ≤ r ∧ ∃ o : Obj, W.heap[r]? = some o ∧ o.isCells = false := fun r e => by cases e; exact ⟨Nat.zero_le _, _, hK, rfl⟩
      clear hd hr0 hseq hI2
      gi_wp2
      refine ⟨by simp, .inl ⟨_, _, rfl, run_takeDeferred hK, ?_⟩⟩
      refine ⟨_, results_cells2 rfl _ _ _ _ _ _ rfl rfl (agg_sl _) (agg_bool _) (Blk.cell (k2.turned (gp _) hrow) 0) (Blk.cell (k3.turned (gp _) hrow) 0), _, by rw [HK1.out], by rw [HM1.out]; exact ho.turned (gp _) hrow, hf, ?_⟩
      exact hB.trans (belowK_b (w := w) (Nat.le_refl _) _ D _ _ (by omega) hK rfl rfl)
  | false =>
    have HM := Lib.hid (show mFirstNoPair n = [] from if_neg (by rw [hi]; exact Bool.false_ne_true))
    have HK := Lib.hid (show okFirst n = false by unfold okFirst; rw [hi]; rfl)
    have HI := Lib.hid hi
    clear hi
    refine callsIn_wide.1 (callsIn_of_wp_marks (F := Fence.wide) (n := 9) Try.func62 rfl trivial ?_ rfl)
    simp only [Try.ntmps62, List.size_toArray, List.length_cons, List.length_nil, Nat.reduceAdd, Nat.reduceSub, Array.replicate_succ, Array.replicate_zero, List.push_toArray, List.append_toArray, List.nil_append, List.cons_append]
    gi_wp2_with fail
    refine ⟨trivial, (callsIn_wide.2 (isCount_any _ _)).mono ?_⟩
    rintro e w1 ⟨rfl, rfl⟩
    rw [HI.out]
    gi_wp2
    have b1 := ((Blk.new (w.alloc (.cells #[.int .i64 n] 3)) 22 [.slice none 0 0] (w.heap.size + 1) (by simp)).alloc (.cells #[.bool false] 4)).cell 0
    have b2 := (Blk.new ((w.alloc (.cells #[.int .i64 n] 3)).alloc (.cells #[.slice none 0 0] 22)) 4 [.bool false] (w.heap.size + 1 + 1) (by simp)).cell 0
    exact ⟨_, results_cells2 rfl _ _ _ _ _ _ rfl rfl (agg_sl _) (agg_bool _) b1 b2, _, by rw [HK.out], by rw [HM.out]; exact OwnI.nil _, From.nil _ _ _, (((Below.refl _ w).alloc (Nat.le_refl _) _).alloc (by simp) _).alloc (by simp; omega) _⟩
end Go.Proofs.Ytpclomokljgphaa
