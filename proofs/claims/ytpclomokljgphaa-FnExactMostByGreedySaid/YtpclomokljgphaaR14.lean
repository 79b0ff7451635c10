import Derived.Test.YtpclomokljgphaaR11
import Derived.Test.YtpclomokljgphaaR12
import Derived.Test.YtpclomokljgphaaI10
import Derived.Test.YtpclomokljgphaaI4
namespace Go.Pan
open Go Go.RowKit
theorem towL_vals : ∀ (L : List (List Int)), (∀ q ∈ L, q.length ≤ 9) → (towL L).map (·.1) = L
  | [], _ => rfl
  | q :: L, h => by
    have h1 := towL_vals L (fun r hr => h r (List.mem_cons_of_mem _ hr))
    have h2 := mkU_val (h q (List.mem_cons_self ..))
    simp only [towL, List.map_cons, List.map_map] at h1 ⊢
    rw [h2]
    congr 1
/-- the most so far, of towers -/
def mostU (pre : List TwU) : List Int × Int := mostOf (pre.map (·.1))
theorem mostU_snoc (pre : List TwU) (x : TwU) : mostU (pre ++ [x]) = mostStep (mostU pre) x.1 := by simp [mostU, mostOf]
end Go.Pan
namespace Go.Proofs.Ytpclomokljgphaa
open Go Go.RowKit Go.Pan Go.Shelf

attribute [local go_sem] Oper.semAt_some

theorem wp_then_calm {P : Program} {c : Code} {K : Act → World → Prop} {Q : Exit → Act → World → Prop} {a : Act} {w : World} (h : c.wp P (Exit.then K (fun _ _ _ => False)) a w) : c.wp P (Exit.then K Q) a w :=
  wp_mono h fun e a w h => by cases e <;> first | exact h | exact h.elim

theorem areAny_any (a b : Int) (w : World) :
    Calls Try.prog 106 #[.int .i64 a, .int .i64 b] w fun e w' => e = .returned (.bool (anyMay a b)) ∧ w = w' := by
  go_enter Try.func106, Try.ntmps106
  go_wp2
  go_ret
  exact ⟨rfl, rfl⟩
theorem any_calls : Hid (∀ (a b : Int) (u : World), -1048576 ≤ a → a ≤ 1048576 → -1048576 ≤ b → b ≤ 1048576 → Calls Try.prog 106 #[.int .i64 a, .int .i64 b] u fun e w' => e = .returned (.bool (anyMay a b)) ∧ u = w') :=
  Lib.hid fun a b u _ _ _ _ => areAny_any a b u

/-- MostByGreedy's cells -/
def MbI (h m : Nat) (w : World) (s : List Int × Int) (W : World) : Prop := Blk W h 3 [iv m] ∧ Blk W (h + 1) 3 [iv s.2] ∧ Blk W (h + 1 + 1) 51 (twl s.1) ∧ Below h w W
theorem MbI.kept {h m B : Nat} {w W W' : World} {s : List Int × Int} (H : MbI h m w s W) (hb : Below B W W') (hh : h + 2 < B) : MbI h m w s W' := by
  obtain ⟨h1, h2, h3, h4⟩ := H
  exact ⟨h1.below hb (by omega), h2.below hb (by omega), h3.below hb (by omega), h4.trans (hb.mono (by omega))⟩

set_option maxRecDepth 100000 in
set_option maxHeartbeats 8000000 in
theorem MostByGreedy_any (n : Int) (w : World) :
    Calls Try.prog 64 #[.int .i64 n] w fun e w' => ∃ r, e = .returned (.tuple #[r, .int .i64 (mMostLong n), .bool (inB n 1 7)]) ∧ OwnI w' r (mMostByGreedy n) ∧ From w.heap.size r ∧ Below w.heap.size w w' := by
  cases hi : inB n 1 7 with
  | true =>
    obtain ⟨m, hm⟩ : ∃ m : Nat, n = (m : Int) := ⟨n.toNat, by have := inB_iff.1 hi; omega⟩
    subst hm
    have hb := inB_iff.1 hi
    have h9 : m ≤ 9 := by omega
    have HM := Lib.hid (show mMostByGreedy (m : Int) = (mostOf (allL m)).1 from if_pos hi)
    have HS := Lib.hid (show mMostLong (m : Int) = (mostOf (allL m)).2 from if_pos hi)
    have HG := Lib.hid (show ∀ q ∈ allL m, Pan.Good q ∧ q.length = m from fun q hq => allL_good (by omega) (by omega) hq)
    have HU := Lib.hid (show mostU (towL (growL anyMay m m [])) = mostOf (allL m) by unfold mostU; rw [towL_vals _ (fun q hq => by have := (HG.out q hq).2; omega)]; rfl)
    have HFL := Lib.hid (show (mostOf (allL m)).1.length = m from most_length HG.out (allL_ne m))
    have hq1 : ¬ ((m : Int) < 1) := by omega
    have hq7 : ¬ ((7 : Int) < (m : Int)) := by omega
    clear hi hb
    refine callsIn_wide.1 (callsIn_of_wp_marks (F := Fence.wide) (n := 9) Try.func64 rfl trivial ?_ rfl)
    simp only [Try.ntmps64, List.size_toArray, List.length_cons, List.length_nil, Nat.reduceAdd, Nat.reduceSub, Array.replicate_succ, Array.replicate_zero, List.push_toArray, List.append_toArray, List.nil_append, List.cons_append]
    have hbw : Below w.heap.size w (((w.alloc (.cells #[.int .i64 m] 3)).alloc (.cells #[.int .i64 (-1)] 3)).alloc (.cells (twl []).toArray 51)) := (((Below.refl _ w).alloc (Nat.le_refl _) _).alloc (by simp) _).alloc (by simp; omega) _
    have hbx : Blk (((w.alloc (.cells #[.int .i64 m] 3)).alloc (.cells #[.int .i64 (-1)] 3)).alloc (.cells (twl []).toArray 51)) w.heap.size 3 [iv m] := ((Blk.new w 3 [iv m] _ rfl).alloc _).alloc _
    have hby : Blk (((w.alloc (.cells #[.int .i64 m] 3)).alloc (.cells #[.int .i64 (-1)] 3)).alloc (.cells (twl []).toArray 51)) (w.heap.size + 1) 3 [iv (-1)] := (Blk.new (w.alloc (.cells #[.int .i64 m] 3)) 3 [iv (-1)] _ (by simp)).alloc _
    have hbz : Blk (((w.alloc (.cells #[.int .i64 m] 3)).alloc (.cells #[.int .i64 (-1)] 3)).alloc (.cells (twl []).toArray 51)) (w.heap.size + 1 + 1) 51 (twl []) := Blk.new ((w.alloc (.cells #[.int .i64 m] 3)).alloc (.cells #[.int .i64 (-1)] 3)) 51 (twl []) _ (by simp)
    gi_wp2_with fail
    refine ⟨trivial, (callsIn_wide.2 (towersOf_any (m : Int) 106 _)).mono ?_⟩
    rintro e w2 ⟨rfl, hc1, hc2, hsz, hb2⟩
    simp only [World.size_alloc] at hc1 hc2 hsz hb2
    have hI2 : MbI w.heap.size m w (mostU []) w2 := ⟨hbx.below hb2 (by omega), hby.below hb2 (by omega), hbz.below hb2 (by omega), hbw.trans (hb2.mono (by omega))⟩
    have hseq := towers_low 106 anyMay m h9 (enters_of Try.func106 (by kernel_rfl) rfl) any_calls (w.heap.size + 1 + 1 + 1) (w.heap.size + 1 + 1 + 1 + 1) w2 (by omega) (by omega) hc1 hc2
    clear hc1 hc2 hbx hby hbz hbw hb2
    gi_wp2_with fail
    refine wpIn_rangeFunc_low rfl (by omega) (gf := 126) rfl trivial (enters_of Try.func126 (by kernel_rfl) rfl) hseq (Below.refl _ _) (fun _ => rfl)
      (fun pre W => MbI w.heap.size m w (mostU pre) W) (fun _ _ _ => False)
      (fun s A A' hI hB => hI.kept hB (by omega)) (fun _ _ _ _ _ h _ _ => h) hI2
      (fun x a' W => ∃ g, Blk W g 51 (twl x.1) ∧ a' = { tmps := #[.int .i64 m, .pointer (some ⟨w.heap.size, 0, none⟩), .slice none 0 0, .int .i64 0, .bool false, .pointer (some ⟨w.heap.size + 1, 0, none⟩), .pointer (some ⟨w.heap.size + 1 + 1, 0, none⟩), .pointer (some ⟨g, 0, none⟩), undef, .int .i64 m, .bool false, .bool false, .int .i64 m, .bool false, .bool false, .int .i64 m, .func (.func 126) #[] #[.pointer (some ⟨w.heap.size + 1 + 1 + 1, 0, none⟩), .pointer (some ⟨w.heap.size + 1 + 1 + 1 + 1, 0, none⟩)], tw x.1, undef, undef, undef, undef, undef, undef, undef, undef, undef, undef, undef, undef, undef], defers := [] })
      (fun x a' _ X Y row hs hg hr => by obtain ⟨g, h2, h3⟩ := hs; exact ⟨g, h2.turned hg hr, h3⟩) ?assign ?body ?done ?stop
    case assign =>
      rintro l pre x W K hI hK
      have hzero : Blk (W.alloc (.cells (twl []).toArray 51)) W.heap.size 51 (twl []) := Blk.new _ _ (twl []) _ rfl
      clear hI hseq hI2
      gi_wp2_with (refine wpListIn_store_tow rfl _ _ rfl W.heap.size [] x.1 (by simp) x.2 rfl rfl hzero ?_; intro w3 hbT3 hgr3)
      have hg13 : W.grownBy w3 none := by
        obtain ⟨a1, a2, a3, a4, a5⟩ := hgr3
        exact ⟨a1, a2, a3, by simp at a4; omega, fun k hk _ => (a5 k (by simp; omega) (by simp; omega)).trans (Below.heap_alloc W _ k hk)⟩
      exact hK _ _ hg13 ⟨W.heap.size, hbT3, rfl⟩
    case body =>
      rintro l pre x r0 a' W hl hI ⟨g, hbg, rfl⟩ hlt hlen
      have h9all : ∀ q ∈ growL anyMay m m [], q.length ≤ 9 := fun q hq => by have := (HG.out q hq).2; omega
      have hxg := HG.out _ (towL_mem hlen h9all)
      have hall : ∀ q ∈ pre.map (·.1), Pan.Good q ∧ q.length = m := fun q hq => HG.out q (by
        have e := congrArg (List.map (·.1)) hlen
        rw [towL_vals _ h9all, List.map_append] at e
        show q ∈ growL anyMay m m []
        rw [e]
        exact List.mem_append_left _ hq)
      have hok : MostOk m (mostU pre) := mostOk_of hall
      have hT := mostU_snoc pre x
      obtain ⟨s, hs⟩ : ∃ s, mostU pre = s := ⟨_, rfl⟩
      rw [hs] at hI hok hT
      obtain ⟨b, k⟩ := s
      have hb9 : b.length ≤ 9 := by
        rcases hok with ⟨h, _⟩ | ⟨_, h, _⟩
        · simp at h; rw [h]; simp
        · simp at h; omega
      have cG := greedy_any x.1 W (Lib.hid hxg.1)
      rw [hxg.2] at cG
      obtain ⟨h1, h2, h3, h4⟩ := hI
      simp only at h2 h3
      have hcc := h1.cell 0
      simp only [List.getElem?_cons_zero] at hcc
      have hxl := hxg.2
      have HT := Lib.hid hT
      have CG := Lib.hid cG
      clear hlen hseq hI2 hok hall hs hxg hT cG h9all
      gi_wp2_with (refine wpListIn_load_tow rfl _ rfl g x.1 x.2 rfl hbg ?_)
      refine ⟨trivial, (callsIn_round CG.out).mono ?_⟩
      rintro e w4 ⟨r, rfl, ho, hf, hb4⟩
      obtain ⟨ad, cap, rfl, _, _, _⟩ := ho.shape
      obtain ⟨G, hG⟩ : ∃ G, (greedyL x.1).length = G := ⟨_, rfl⟩
      have HG2 := Lib.hid hG
      have h1' := h1.below hb4 h1.lt
      have h2' := h2.below hb4 h2.lt
      have h3' := h3.below hb4 h3.lt
      have hbg' := hbg.below hb4 hbg.lt
      have hc2 := h2'.cell 0
      simp only [List.getElem?_cons_zero] at hc2
      have hf2 := h2'.frozen 0
      have hB4 := h4.trans (hb4.mono (by have := h4.size; omega))
      have hz := h4.size
      have hz4 := hb4.size
      have hlz := h3.lt
      have kf4 := KeepsFrom.of_grownBy (B := w2.heap.size) (show W.grownBy w4 none from ⟨hb4.os, hb4.tape, hb4.output, hb4.size, fun k hk _ => hb4.block k hk⟩) (fun j e => by cases e)
      have hU4 := Up.below (B := w2.heap.size + 2) hb4 (Nat.le_refl _)
      rw [hG]
      clear hG h1 h2 h3 h4 hb4 ho hf hbg hcc
      by_cases hgt : k < (G : Int)
      · have HN := Lib.hid (show mostU (pre ++ [x]) = (x.1, (G : Int)) by rw [HT.out]; unfold mostStep; rw [if_pos (decide_eq_true (by rw [HG2.out]; exact hgt)), HG2.out])
        gi_wp2_with (first
          | (refine wpListIn_load_tow rfl _ rfl g x.1 x.2 rfl hbg' ?_)
          | (refine wpListIn_store_tow rfl _ _ rfl (w.heap.size + 1 + 1) b x.1 hb9 x.2 rfl rfl h3' ?_; intro w5 hbT5 hgr5; have h25 := h2'.grown hgr5 (by simp); have hc5 := h25.cell 0; simp only [List.getElem?_cons_zero] at hc5; have hf5 := h25.frozen 0))
        have h15 := h1'.grown hgr5 (by simp; omega)
        have k2 : Blk (w5.setCell ⟨w.heap.size + 1, 0, none⟩ (iv (G : Int))) (w.heap.size + 1) 3 [iv (G : Int)] := by simpa using h25.set 0 (iv (G : Int))
        have k1 := h15.other (a := ⟨w.heap.size + 1, 0, none⟩) (by simp) (iv (G : Int))
        have k3 := hbT5.other (a := ⟨w.heap.size + 1, 0, none⟩) (by simp) (iv (G : Int))
        have g2 := grownBy_setCell w5 (w.heap.size + 1) 0 (iv (G : Int))
        have hB5 := (hB4.grown hgr5 (by omega) (fun j e => by cases e; omega)).setCell (p := ⟨w.heap.size + 1, 0, none⟩) (by simp) (iv (G : Int))
        exact ⟨(kf4.trans (KeepsFrom.of_grownBy (B := w2.heap.size) hgr5 (fun j e => by cases e; omega))).trans (KeepsFrom.of_grownBy (B := w2.heap.size) g2 (fun j e => by cases e; omega)),
          (hU4.trans (Up.grown hgr5 (fun j e => by cases e; omega))).trans (Up.grown g2 (fun j e => by cases e; omega)), by show MbI _ _ _ (mostU (pre ++ [x])) _; rw [HN.out]; exact ⟨k1, k2, k3, hB5⟩⟩
      · have HN := Lib.hid (show mostU (pre ++ [x]) = (b, k) by rw [HT.out]; unfold mostStep; rw [if_neg (by rw [HG2.out, decide_eq_false hgt]; exact Bool.false_ne_true)])
        gi_wp2
        exact ⟨kf4, hU4, by show MbI _ _ _ (mostU (pre ++ [x])) _; rw [HN.out]; exact ⟨h1', h2', h3', hB4⟩⟩
    case done =>
      rintro D W hD hI hK
      rw [HU.out] at hI
      obtain ⟨q, hq⟩ : ∃ q, (mostOf (allL m)).1 = q := ⟨_, rfl⟩
      obtain ⟨k, hk⟩ : ∃ k, (mostOf (allL m)).2 = k := ⟨_, rfl⟩
      obtain ⟨h1, h2, h3, h4⟩ := hI
      rw [hk] at h2
      rw [hq] at h3
      have hql : q.length = m := by rw [← hq]; exact HFL.out
      have HQ := Lib.hid hq
      have HK := Lib.hid hk
      have hra := h3.range
      have hc1 := h1.cell 0
      have hc2 := h2.cell 0
      simp only [List.getElem?_cons_zero] at hc1 hc2
      clear hseq hI2 hq hk
      gi_wp2_with fail
      refine wpIn_wide.2 ?_
      have hut := Try.underlying51
      have hs9 : (twl q).length = 9 := twl_length _ (by omega)
      have hsz9 : (Try.prog.info? 51).map (·.size) = some (twl q).length := by rw [Try.infoT, hs9]
      have hl3 := h3.lt
      have hz := h4.size
      clear hs9
      refine wp_then_calm ?_
      refine wp_region_held_drew (S := (fun w' => w'.rangeAt (w.heap.size + 1 + 1) 0 (twl q) ∧ w'.cell? ⟨w.heap.size, 0, none⟩ = some (iv m) ∧ w'.cell? ⟨w.heap.size + 1, 0, none⟩ = some (iv k) ∧ Below W.heap.size W w')) (by kernel_rfl) (⟨hra, hc1, hc2, (Below.refl _ _).drew⟩) (fun hHeld => ?_)
      refine wpAnyH_take (i := 0) rfl (by kernel_rfl) (by kernel_rfl) (by kernel_rfl) (fun _ _ _ h => h) (yieldsIf_load_mid (by rfl) _ _ rfl _ _ rfl _ _ (fun w hw => hw.1) hut rfl hsz9) (by assumption) ?_
      try simp only [List.getElem_toArray, List.getElem_cons_zero, List.getElem_cons_succ, Act.put, List.setIfInBounds_toArray, List.set_cons_zero, List.set_cons_succ]
      refine wpAnyH_take (i := 1) (v := .int .i64 (m : Int)) rfl (by kernel_rfl) (by kernel_rfl) (by kernel_rfl) (fun _ _ _ h => h) (Or.inl ⟨by rfl, fun w' hw => by obtain ⟨_, h, _, _⟩ := hw; (go_simp <;> with_reducible rfl)⟩) (by assumption) ?_
      try simp only [List.getElem_toArray, List.getElem_cons_zero, List.getElem_cons_succ, Act.put, List.setIfInBounds_toArray, List.set_cons_zero, List.set_cons_succ]
      refine wpAnyH_take (i := 3) (v := .int .i64 k) rfl (by kernel_rfl) (by kernel_rfl) (by kernel_rfl) (fun _ _ _ h => h) (Or.inl ⟨by rfl, fun w' hw => by obtain ⟨_, _, h, _⟩ := hw; (go_simp <;> with_reducible rfl)⟩) (by assumption) ?_
      try simp only [List.getElem_toArray, List.getElem_cons_zero, List.getElem_cons_succ, Act.put, List.setIfInBounds_toArray, List.set_cons_zero, List.set_cons_succ]
      have hzz := hHeld.2.2.2.size
      refine wpAnyH_ready (rs := [2]) (by kernel_rfl) (by simp) ?_
      refine AllReadyH.cons rfl (fun K hK => ?_) AllReadyH.nil
      go_simp
      refine (list_any q m _ hql h9).mono ?_
      rintro e w5 ⟨r5, rfl, ho5, hf5, hb5⟩
      go_wp2_with fail
      refine hK.out _ _ (⟨range_below hHeld.1 hb5 (by omega), (hb5.cell (p := ⟨w.heap.size, 0, none⟩) (by simp; omega)).trans hHeld.2.1, (hb5.cell (p := ⟨w.heap.size + 1, 0, none⟩) (by simp; omega)).trans hHeld.2.2.1, hHeld.2.2.2.trans (hb5.mono hHeld.2.2.2.size)⟩) (fun hHeld => ?_)
      clear hK K
      try simp only [List.getElem_toArray, List.getElem_cons_zero, List.getElem_cons_succ, Act.put, List.setIfInBounds_toArray, List.set_cons_zero, List.set_cons_succ]
      refine wpAnyH_take (i := 4) (v := ?_) rfl (by kernel_rfl) (by kernel_rfl) (by kernel_rfl) (fun _ _ _ h => h) (Or.inl ⟨by rfl, ?_⟩) (by assumption) ?_
      rotate_left
      · intro w _; go_simp; with_reducible rfl
      try simp only [List.getElem_toArray, List.getElem_cons_zero, List.getElem_cons_succ, Act.put, List.setIfInBounds_toArray, List.set_cons_zero, List.set_cons_succ]
      refine wpAnyH_take (i := 5) (v := ?_) rfl (by kernel_rfl) (by kernel_rfl) (by kernel_rfl) (fun _ _ _ h => h) (Or.inl ⟨by rfl, ?_⟩) (by assumption) ?_
      rotate_left
      · intro w _; go_simp; with_reducible rfl
      try simp only [List.getElem_toArray, List.getElem_cons_zero, List.getElem_cons_succ, Act.put, List.setIfInBounds_toArray, List.set_cons_zero, List.set_cons_succ]
      refine wpAnyH_take (i := 6) (v := ?_) rfl (by kernel_rfl) (by kernel_rfl) (by kernel_rfl) (fun _ _ _ h => h) (Or.inl ⟨by rfl, ?_⟩) (by assumption) ?_
      rotate_left
      · intro w _; go_simp; with_reducible rfl
      try simp only [List.getElem_toArray, List.getElem_cons_zero, List.getElem_cons_succ, Act.put, List.setIfInBounds_toArray, List.set_cons_zero, List.set_cons_succ]
      refine wpAnyH_done (by kernel_rfl) ?_ _
      have hB5 := hHeld.2.2.2
      have hDlt : D < W.heap.size := (Array.getElem?_eq_some_iff.1 hK).1
      have hK5 := (hB5.block D hDlt).trans hK
      have hBB := h4.trans (hB5.mono hz)
      have gp := fun o' => grownBy_putObj' w5 D o'
      have hrow : ∀ r, some D = some r → 0 ≤ r ∧ ∃ o : Obj, w5.heap[r]? = some o ∧ o.isCells = false := fun r e => by cases e; exact ⟨Nat.zero_le _, _, hK5, rfl⟩
      have hf6 : From w.heap.size r5 := hf5.mono (by omega)
      have HO := Lib.hid ho5
      clear ho5 hf5 hHeld hb5 hB5 hra hc1 hc2 h1 h2 h3 h4
      gi_wp2
      refine ⟨by simp, .inl ⟨_, _, rfl, run_takeDeferred hK5, ?_⟩⟩
      exact ⟨_, results_tmp3 rfl _ _ _, r5, by rw [HS.out, HK.out]; rfl, by rw [HM.out, HQ.out]; exact HO.out.turned (gp _) hrow, hf6, hBB.trans (belowK_b (w := w) (Nat.le_refl _) w5 D _ _ (by omega) hK5 rfl rfl)⟩
    case stop =>
      rintro D c pre W _ _ h _
      exact h.elim
  | false =>
    have HM := Lib.hid (show mMostByGreedy n = [] from if_neg (by rw [hi]; exact Bool.false_ne_true))
    have HS := Lib.hid (show mMostLong n = 0 from if_neg (by rw [hi]; exact Bool.false_ne_true))
    have hno : ¬ (1 ≤ n ∧ n ≤ 7) := fun h => by rw [inB_iff.2 h] at hi; cases hi
    clear hi
    refine callsIn_wide.1 (callsIn_of_wp_marks (F := Fence.wide) (n := 9) Try.func64 rfl trivial ?_ rfl)
    simp only [Try.ntmps64, List.size_toArray, List.length_cons, List.length_nil, Nat.reduceAdd, Nat.reduceSub, Array.replicate_succ, Array.replicate_zero, List.push_toArray, List.append_toArray, List.nil_append, List.cons_append]
    by_cases hq1 : n < 1
    · clear hno
      gi_wp2
      exact ⟨_, results_tmp3 rfl _ _ _, _, by rw [HS.out]; rfl, by rw [HM.out]; exact OwnI.nil _, From.nil _ _ _, below_new w _⟩
    · have hq7 : (7 : Int) < n := by omega
      clear hno
      gi_wp2
      exact ⟨_, results_tmp3 rfl _ _ _, _, by rw [HS.out]; rfl, by rw [HM.out]; exact OwnI.nil _, From.nil _ _ _, below_new w _⟩
end Go.Proofs.Ytpclomokljgphaa
