import Derived.Test.YtdkidfilnbglgaaR8
import Derived.Test.YtdkidfilnbglgaaWS
import Derived.OwnWalkIn
namespace Go.Pan
open Go Go.RowKit
theorem towLC_vals : ∀ (L : List (List Int)), (∀ q ∈ L, q.length ≤ 9) → (towL L).map (·.1) = L
  | [], _ => rfl
  | q :: L, h => by
    have h1 := towLC_vals L (fun r hr => h r (List.mem_cons_of_mem _ hr))
    have h2 := mkU_val (h q (List.mem_cons_self ..))
    simp only [towL, List.map_cons, List.map_map] at h1 ⊢
    rw [h2]
    congr 1
theorem towLC_mem {L : List (List Int)} {x : TwU} {pre r : List TwU} (h : towL L = pre ++ x :: r) (h9 : ∀ q ∈ L, q.length ≤ 9) : x.1 ∈ L := by
  have hx : x ∈ towL L := by rw [h]; simp
  unfold towL at hx
  obtain ⟨q, hq, rfl⟩ := List.mem_map.1 hx
  rw [mkU_val (h9 q hq)]
  exact hq
theorem BlkC.turned {w w' : World} {g B : Nat} {ty : TypeId} {cs : List Value} {row : Option Nat} (h : Blk w g ty cs) (hg : w.grownBy w' row) (hr : ∀ r, row = some r → B ≤ r ∧ ∃ o : Obj, w.heap[r]? = some o ∧ o.isCells = false) : Blk w' g ty cs := by
  unfold Blk at h ⊢
  refine (hg.block g (Array.getElem?_eq_some_iff.1 h).1 (fun e => ?_)).trans h
  obtain ⟨_, o, ho, hc⟩ := hr g e.symm
  rw [h] at ho
  cases ho
  cases hc
theorem OwnCT.turned {w w' : World} {sz n B : Nat} {v : Value} {cs : List Value} {row : Option Nat} (h : Go.Pan.Own w sz v n cs) (hg : w.grownBy w' row) (hr : ∀ r, row = some r → B ≤ r ∧ ∃ o : Obj, w.heap[r]? = some o ∧ o.isCells = false) : Go.Pan.Own w' sz v n cs := by
  refine h.grown hg fun g hv e => ?_
  obtain ⟨_, o, ho, hc⟩ := hr g e
  obtain ⟨ad, cap, rfl, _, _, _, _, hk⟩ := h
  cases ad with
  | none => simp [Value.ownBlock] at hv
  | some a =>
    simp [Value.ownBlock] at hv
    obtain ⟨_, cur, ty, hh, _⟩ := hk a rfl
    rw [hv, ho] at hh
    cases hh
    cases hc
/-- the counts of towers so far -/
def risU (n : Nat) (pre : List TwU) : List Int := risC n (pre.map (·.1))
theorem risU_snoc (n : Nat) (pre : List TwU) (x : TwU) : risU n (pre ++ [x]) = tick (risU n pre) (mostL x.1 - 1) := by
  unfold risU
  rw [List.map_append]
  exact risC_snoc n _ _
theorem wpListIn_make_full {F : Fence} {n : Nat} {P : Program} (w : World) {ops : Array Oper} {rest : List Oper} {o : Oper} {a : Act} {Q : Exit → Act → World → Prop}
    (hg : o.guard = none) (l c : Operand) (t : TypeId) (hop : o.op = Op.makeSlice t l c)
    (base : Nat) (e : TypeId) (i : TypeInfo) (z : Value) (size : Nat) (h1 : P.underlying t = some (.slice e)) (h2 : P.info? e = some i) (h3 : i.zero = some z) (h4 : i.size = size)
    (kl kc : IntKind) (L C : Int) (m : Nat) (hl : a.eval l = .int kl L) (hc : a.eval c = .int kc C) (hL : L = (m : Int)) (hC : C = (m : Int)) (b2 : i.bytes * m ≤ 281474976710656) (b3 : m ≤ maxLen) (b4 : base ≤ w.heap.size)
    (hK : ∀ w', w'.ownsRow base e size (.slice (some ⟨w.heap.size, 0, none⟩) m m) m (madeCells z.cells (m * size)).toList → w.grownBy w' none → wpListIn F n P ops Q rest (a.put o.dst (.slice (some ⟨w.heap.size, 0, none⟩) m m)) w') :
    wpListIn F n P ops Q (o :: rest) a w := by
  refine wpListIn_plain hg fun K hK' => ?_
  obtain ⟨w', hrun, r1, r2⟩ := run_make_full (P := P) w base t e i z size h1 h2 h3 h4 kl kc m b2 b3 b4
  subst hL
  subst hC
  unfold Oper.wpIn
  refine ⟨?_, ?_⟩
  · simp [Oper.about, hop]
  · rw [Oper.semAt_plain F _ _ (by rw [hop]; intro c hc'; cases hc')]
    simp [execOp, hop, hl, hc, hrun, Result.andThen]
    exact hK' _ _ (hK w' r1 r2)
end Go.Pan
namespace Go.Proofs.Ytdkidfilnbglgaa
open Go Go.RowKit Go.Pan Go.Shelf

attribute [local go_sem] Oper.semAt_some

theorem areAnyC_any (a b : Int) (w : World) :
    Calls Try.prog 127 #[.int .i64 a, .int .i64 b] w fun e w' => e = .returned (.bool (anyMay a b)) ∧ w = w' := by
  go_enter Try.func127, Try.ntmps127
  go_wp2
  go_ret
  exact ⟨rfl, rfl⟩
theorem anyC_calls : Hid (∀ (a b : Int) (u : World), -1048576 ≤ a → a ≤ 1048576 → -1048576 ≤ b → b ≤ 1048576 → Calls Try.prog 127 #[.int .i64 a, .int .i64 b] u fun e w' => e = .returned (.bool (anyMay a b)) ∧ u = w') :=
  Lib.hid fun a b u _ _ _ _ => areAnyC_any a b u

theorem callsInC_round {l n : Nat} {P : Program} {f : FuncId} {args : Array Value} {w : World} {R : Ending → World → Prop} (h : Calls P f args w R) : CallsIn (Fence.wide.inRound l) n P f args w R := (callsIn_wide (n := n)).2 h
/-- CountByRising's cells -/
def CbI (h b4 m : Nat) (w : World) (c : List Int) (W : World) : Prop := Blk W h 3 [iv m] ∧ Blk W (h + 1) 3 (c.map iv) ∧ Blk W b4 22 [.slice (some ⟨h + 1, 0, none⟩) m m] ∧ Below h w W
theorem CbI.kept {h b4 m B : Nat} {w W W' : World} {c : List Int} (H : CbI h b4 m w c W) (hb : Below B W W') (hh : b4 < B) (h4 : h + 1 < b4) : CbI h b4 m w c W' := by
  obtain ⟨h1, h2, h3, h4⟩ := H
  exact ⟨h1.below hb (by omega), h2.below hb (by omega), h3.below hb (by omega), h4.trans (hb.mono (by omega))⟩

set_option maxRecDepth 100000 in
set_option maxHeartbeats 8000000 in
theorem CountByRising_any (n : Int) (w : World) :
    Calls Try.prog 67 #[.int .i64 n] w fun e w' => ∃ r, e = .returned (.tuple #[r, .bool (inB n 1 7)]) ∧ OwnI w' r (mCountByRising n) ∧ From w.heap.size r ∧ Below w.heap.size w w' := by
  cases hi : inB n 1 7 with
  | true =>
    obtain ⟨m, hm⟩ : ∃ m : Nat, n = (m : Int) := ⟨n.toNat, by have := inB_iff.1 hi; omega⟩
    subst hm
    have hb := inB_iff.1 hi
    have h9 : m ≤ 9 := by omega
    have HM := Lib.hid (show mCountByRising (m : Int) = risC m (allL m) from if_pos hi)
    have HG := Lib.hid (show ∀ q ∈ allL m, Pan.Good q ∧ q.length = m from fun q hq => allL_good (by omega) (by omega) hq)
    have HU := Lib.hid (show risU m (towL (growL anyMay m m [])) = risC m (allL m) by unfold risU; rw [towLC_vals _ (fun q hq => by have := (HG.out q hq).2; omega)]; rfl)
    have HLEN := Lib.hid (show (allL m).length ≤ 387420489 from Nat.le_trans (growL_length anyMay m (by omega) m []) (pow9_le m (by omega)))
    have hq1 : ¬ ((m : Int) < 1) := by omega
    have hq7 : ¬ ((7 : Int) < (m : Int)) := by omega
    obtain ⟨i0, hi0, hz0, hz1, hz2⟩ := info_parts Try.info3
    have HI := Lib.hid hi0
    have HZ0 := Lib.hid hz0
    have HZ1 := Lib.hid hz1
    have HZ2 := Lib.hid hz2
    clear hi hb hi0 hz0 hz1 hz2
    refine callsIn_wide.1 (callsIn_of_wp_marks (F := Fence.wide) (n := 9) Try.func67 rfl trivial ?_ rfl)
    simp only [Try.ntmps67, List.size_toArray, List.length_cons, List.length_nil, Nat.reduceAdd, Nat.reduceSub, Array.replicate_succ, Array.replicate_zero, List.push_toArray, List.append_toArray, List.nil_append, List.cons_append]
    have hbw1 : Below w.heap.size w (w.alloc (.cells #[.int .i64 m] 3)) := below_new w _
    have hbx1 : Blk (w.alloc (.cells #[.int .i64 m] 3)) w.heap.size 3 [iv m] := Blk.new w 3 [iv m] _ rfl
    gi_wp2_with (gi_at_make; (refine wpListIn_make_full _ rfl _ _ 22 rfl (w.heap.size + 1) 3 i0 (.int .i64 0) 1 Try.underlying22 HI.out HZ0.out HZ1.out _ _ _ _ m rfl rfl rfl rfl (by rw [HZ2.out]; omega) (by unfold maxLen; omega) (by simp) ?_); intro w1 hown hgr; have hx1 := (hbx1.grown hgr (by simp)).alloc (.cells #[.slice (some ⟨w.heap.size + 1, 0, none⟩) m m] 22); have hc1 := hx1.cell 0; simp only [List.getElem?_cons_zero] at hc1)
    have hC1 : Blk w1 (w.heap.size + 1) 3 ((risU m []).map iv) := by
      have h := (Blk.of_row (show w1.ownsRow (w.heap.size + 1) 3 1 (.slice (some ⟨w.heap.size + 1, 0, none⟩) m m) m _ from by simpa using hown)).1
      have h2 : (madeCells (Value.int IntKind.i64 0).cells m).toList = List.replicate m (.int .i64 0) := toList_madeCells_one _ _
      rw [h2] at h
      simpa [risU, risC] using h
    have hz1 : w.heap.size + 1 < w1.heap.size := hC1.lt
    have hB1 : Below w.heap.size w w1 := hbw1.grown hgr (by simp) (by intro k hk; cases hk)
    obtain ⟨w2, hw2⟩ : ∃ y, w1.alloc (.cells #[.slice (some ⟨w.heap.size + 1, 0, none⟩) m m] 22) = y := ⟨_, rfl⟩
    have hI1 : CbI w.heap.size w1.heap.size m w (risU m []) w2 := by
      rw [← hw2]
      exact ⟨hx1, hC1.alloc _, Blk.new w1 22 [.slice (some ⟨w.heap.size + 1, 0, none⟩) m m] _ rfl, hB1.alloc hB1.size _⟩
    have hz2 : w2.heap.size = w1.heap.size + 1 := by rw [← hw2]; simp
    obtain ⟨b4, hb4⟩ : ∃ y, w1.heap.size = y := ⟨_, rfl⟩
    rw [hb4] at hI1 hz1 hz2 ⊢
    rw [hw2]
    clear hown hgr hx1 hc1 hC1 hB1 hw2 hb4 hbw1 hbx1
    refine ⟨trivial, (callsIn_wide.2 (towersOf_any (m : Int) 127 _)).mono ?_⟩
    rintro e w3 ⟨rfl, hc1, hc2, hsz, hb3⟩
    have HZ2' := Lib.hid hz2
    rw [hz2] at hc1 hc2 hsz hb3 ⊢
    have hI2 : CbI w.heap.size b4 m w (risU m []) w3 := hI1.kept hb3 (by omega) (by omega)
    have hseq := towers_low 127 anyMay m h9 (enters_of Try.func127 (by kernel_rfl) rfl) anyC_calls (b4 + 1) (b4 + 1 + 1) w3 (by omega) (by omega) hc1 hc2
    clear hc1 hc2 hb3 hI1 hz2
    gi_wp2_with fail
    refine wpIn_rangeFunc_low rfl (by omega) (gf := 166) rfl trivial (enters_of Try.func166 (by kernel_rfl) rfl) hseq (Below.refl _ _) (fun _ => rfl)
      (fun pre W => CbI w.heap.size b4 m w (risU m pre) W) (fun _ _ _ => False)
      (fun s A A' hI hB => hI.kept hB (by omega) hz1) (fun _ _ _ _ _ h _ _ => h) hI2
      (fun x a' W => ∃ g, Blk W g 69 (twl x.1) ∧ a' = { tmps := #[.int .i64 m, .pointer (some ⟨w.heap.size, 0, none⟩), .slice none 0 0, .bool false, .pointer (some ⟨b4, 0, none⟩), .pointer (some ⟨g, 0, none⟩), undef, undef, .int .i64 m, .bool false, .bool false, .int .i64 m, .bool false, .bool false, .int .i64 m, .slice (some ⟨w.heap.size + 1, 0, none⟩) m m, .int .i64 m, .func (.func 166) #[] #[.pointer (some ⟨b4 + 1, 0, none⟩), .pointer (some ⟨b4 + 1 + 1, 0, none⟩)], tw x.1, undef, undef, undef, undef, undef, undef, undef, undef, undef, undef, undef, undef, undef, undef, undef], defers := [] })
      (fun x a' _ X Y row hs hg hr => by obtain ⟨g, h2, h3⟩ := hs; exact ⟨g, BlkC.turned h2 hg hr, h3⟩) ?assign ?body ?done ?stop
    case assign =>
      rintro l pre x W K hI hK
      have hzero : Blk (W.alloc (.cells (twl []).toArray 69)) W.heap.size 69 (twl []) := Blk.new _ _ (twl []) _ rfl
      clear hI hseq hI2
      gi_wp2_with (refine wpListIn_store_tow rfl _ _ rfl W.heap.size [] x.1 (by simp) x.2 rfl rfl hzero ?_; intro w3 hbT3 hgr3)
      have hg13 : W.grownBy w3 none := by
        obtain ⟨a1, a2, a3, a4, a5⟩ := hgr3
        exact ⟨a1, a2, a3, by simp at a4; omega, fun k hk _ => (a5 k (by simp; omega) (by simp; omega)).trans (Below.heap_alloc W _ k hk)⟩
      exact hK _ _ hg13 ⟨W.heap.size, hbT3, rfl⟩
    case body =>
      rintro l pre x r0 a' W hl hI ⟨g, hbg, rfl⟩ hlt hlen
      have h9all : ∀ q ∈ growL anyMay m m [], q.length ≤ 9 := fun q hq => by have := (HG.out q hq).2; omega
      have hxg := HG.out _ (towLC_mem hlen h9all)
      have hd := deepG hxg.1
      have hdp := hd.pos
      have hdl := hd.le
      rw [hxg.2] at hdl
      have hpl : pre.length ≤ 387420489 := by
        have h1 := HLEN.out
        have h2 : (towL (growL anyMay m m [])).length = (allL m).length := by unfold towL; rw [List.length_map]; rfl
        rw [hlen, List.length_append] at h2
        omega
      have hT := risU_snoc m pre x
      have hrl : (risU m pre).length = m := risC_length m _
      have hrb : ∀ y ∈ risU m pre, 0 ≤ y ∧ y ≤ pre.length := fun y hy => by
        unfold risU at hy
        have := risC_le m _ y hy
        rw [List.length_map] at this
        exact this
      have hgood : goodB x.1 = true := goodB_iff.2 hxg.1
      have hmr : mRisingLength x.1 = ((mostL x.1 : Nat) : Int) := if_pos hgood
      obtain ⟨C, hCC⟩ : ∃ C, risU m pre = C := ⟨_, rfl⟩
      rw [hCC] at hI hT hrl hrb
      obtain ⟨D, hD⟩ : ∃ D, mostL x.1 = D := ⟨_, rfl⟩
      rw [hD] at hdp hdl hT hmr
      obtain ⟨d, rfl⟩ : ∃ d, D = d + 1 := ⟨D - 1, by omega⟩
      rw [Nat.add_sub_cancel] at hT
      have hdm : d < m := by omega
      have hst : tick C d = C.set d (C[d]'(by omega) + 1) := by unfold tick; rw [getD_eq (by omega)]
      have hxb := hrb _ (List.getElem_mem (show d < C.length by omega))
      obtain ⟨h1, h2, h3, h4⟩ := hI
      have hcc := h1.cell 0
      simp only [List.getElem?_cons_zero] at hcc
      have hcd := h2.cell d
      rw [List.getElem?_map, List.getElem?_eq_getElem (by omega)] at hcd
      obtain ⟨y, hy⟩ : ∃ y, C[d]'(by omega) = y := ⟨_, rfl⟩
      rw [hy] at hcd hxb hst
      rw [hst] at hT
      have hcd' : W.cell? ⟨w.heap.size + 1, d, none⟩ = some (.int .i64 y) := hcd
      have hxl := hxg.2
      have HT := Lib.hid hT
      have cL := list_any x.1 m W hxl h9
      have CR := Lib.hid (fun (W' : World) (v : Value) (ho : OwnI W' v x.1) => show Calls Try.prog 39 #[v] W' fun e w' => e = .returned (.tuple #[.int .i64 ((d + 1 : Nat) : Int), .bool true]) ∧ Below W'.heap.size W' w' by
        have := RisingLength_any v x.1 W' ho (by omega)
        rw [hmr, hgood] at this
        exact this)
      have CL := Lib.hid cL
      have hy0 := hxb.1
      have hy9 : y ≤ 387420489 := by omega
      have hd0 : (0 : Int) ≤ (d : Int) := by omega
      have hdI : (d : Int) < (m : Int) := by omega
      have hzW := h4.size
      clear hlen hseq hI2 hd hT hrb hxb hst hy hCC hD hcd cL hmr hgood hrl h9all hdp hdl
      gi_wp2_with (refine wpListIn_load_tow rfl _ rfl g x.1 x.2 rfl hbg ?_)
      refine ⟨trivial, (callsInC_round CL.out).mono ?_⟩
      rintro e w4 ⟨r, rfl, ho, hf, hb4⟩
      obtain ⟨ad, cap, rfl, _, _, _⟩ := ho.shape
      have cR := CR.out w4 _ ho
      rw [hxl] at cR
      have h1' := h1.below hb4 h1.lt
      have h2' := h2.below hb4 h2.lt
      have h3' := h3.below hb4 h3.lt
      have hbg' := hbg.below hb4 hbg.lt
      have hB4 := h4.trans (hb4.mono hzW)
      have hc4 := (hb4.cell (p := ⟨w.heap.size + 1, d, none⟩) h2.lt).trans hcd'
      have kf4 := KeepsFrom.of_grownBy (B := w3.heap.size) (show W.grownBy w4 none from ⟨hb4.os, hb4.tape, hb4.output, hb4.size, fun k hk _ => hb4.block k hk⟩) (fun j e => by cases e)
      have hz4 := hb4.size
      have hU4 := Up.below (B := w3.heap.size + 2) hb4 (Nat.le_refl _)
      clear h1 h2 h3 h4 hb4 ho hf hbg hcc hcd'
      gi_wp2_with fail
      refine ⟨trivial, (callsInC_round cR).mono ?_⟩
      rintro e w5 ⟨rfl, hb5⟩
      have h15 := h1'.below hb5 h1'.lt
      have h25 := h2'.below hb5 h2'.lt
      have h35 := h3'.below hb5 h3'.lt
      have hB5 := hB4.trans (hb5.mono hB4.size)
      have hc5 := (hb5.cell (p := ⟨w.heap.size + 1, d, none⟩) h2'.lt).trans hc4
      have hf5 := h25.frozen d
      have hs5 := h35.cell 0
      simp only [List.getElem?_cons_zero] at hs5
      have kf5 := KeepsFrom.of_grownBy (B := w3.heap.size) (show w4.grownBy w5 none from ⟨hb5.os, hb5.tape, hb5.output, hb5.size, fun k hk _ => hb5.block k hk⟩) (fun j e => by cases e)
      have hz5 := hb5.size
      have hU5 := Up.below (B := w3.heap.size + 2) hb5 (by omega)
      have hd1 : ((d + 1 : Nat) : Int) - 1 = (d : Int) := by omega
      have hst5 := h25.set d (.int .i64 (y + 1))
      rw [← List.map_set, ← HT.out] at hst5
      have h1s := h15.other (a := ⟨w.heap.size + 1, d, none⟩) (by simp) (.int .i64 (y + 1))
      have h3s := h35.other (a := ⟨w.heap.size + 1, d, none⟩) (by simp; omega) (.int .i64 (y + 1))
      have g2 := grownBy_setCell w5 (w.heap.size + 1) d (.int .i64 (y + 1))
      have hBs := hB5.setCell (p := ⟨w.heap.size + 1, d, none⟩) (by simp) (.int .i64 (y + 1))
      clear h1' h2' h3' hb5 hB4 hc4 cR hbg' h15 h25 h35
      gi_wp2
      exact ⟨(kf4.trans kf5).trans (KeepsFrom.of_grownBy (B := w3.heap.size) g2 (fun j e => by cases e; omega)),
          (hU4.trans hU5).trans (Up.grown g2 (fun j e => by cases e; omega)), ⟨h1s, hst5, h3s, hBs⟩⟩
    case done =>
      rintro D W hD hI hK
      rw [HU.out] at hI
      obtain ⟨h1, h2, h3, h4⟩ := hI
      have hs3 := h3.cell 0
      simp only [List.getElem?_cons_zero] at hs3
      have HR := Lib.hid (show OwnI W (.slice (some ⟨w.heap.size + 1, 0, none⟩) m m) (mCountByRising (m : Int)) by
        rw [HM.out]
        exact OwnI.of_blk0 h2 (risC_length m _).symm (by omega))
      have gp := fun o' => grownBy_putObj' W D o'
      have hrow : ∀ r, some D = some r → 0 ≤ r ∧ ∃ o : Obj, W.heap[r]? = some o ∧ o.isCells = false := fun r e => by cases e; exact ⟨Nat.zero_le _, _, hK, rfl⟩
      clear hseq hI2 h1 h2 h3
      gi_wp2
      refine ⟨by simp, .inl ⟨_, _, rfl, run_takeDeferred hK, ?_⟩⟩
      exact ⟨_, results_tmp2 rfl _ _ _, _, rfl, OwnCT.turned HR.out (gp _) hrow, From.at _ _ _ _ _ (by omega), h4.trans (belowK_b (w := w) (Nat.le_refl _) W D _ _ (by omega) hK rfl rfl)⟩
    case stop =>
      rintro D c pre W _ _ h _
      exact h.elim
  | false =>
    have HM := Lib.hid (show mCountByRising n = [] from if_neg (by rw [hi]; exact Bool.false_ne_true))
    have hno : ¬ (1 ≤ n ∧ n ≤ 7) := fun h => by rw [inB_iff.2 h] at hi; cases hi
    clear hi
    refine callsIn_wide.1 (callsIn_of_wp_marks (F := Fence.wide) (n := 9) Try.func67 rfl trivial ?_ rfl)
    simp only [Try.ntmps67, List.size_toArray, List.length_cons, List.length_nil, Nat.reduceAdd, Nat.reduceSub, Array.replicate_succ, Array.replicate_zero, List.push_toArray, List.append_toArray, List.nil_append, List.cons_append]
    by_cases hq1 : n < 1
    · clear hno
      gi_wp2
      exact ⟨_, results_tmp2 rfl _ _ _, _, rfl, by rw [HM.out]; exact OwnI.nil _, From.nil _ _ _, below_new w _⟩
    · have hq7 : (7 : Int) < n := by omega
      clear hno
      gi_wp2
      exact ⟨_, results_tmp2 rfl _ _ _, _, rfl, by rw [HM.out]; exact OwnI.nil _, From.nil _ _ _, below_new w _⟩
end Go.Proofs.Ytdkidfilnbglgaa
