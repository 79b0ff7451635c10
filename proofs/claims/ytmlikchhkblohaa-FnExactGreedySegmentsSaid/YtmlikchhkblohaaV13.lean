import Derived.Test.YtmlikchhkblohaaV10
import Derived.Test.YtmlikchhkblohaaV11
import Derived.Test.YtmlikchhkblohaaV12
namespace Go.Proofs.Ytmlikchhkblohaa
open Go Go.RowKit Go.Pan

set_option maxHeartbeats 4000000 in
set_option maxRecDepth 100000 in
theorem greedySegment_any (xs : List Int) (w : World) (hg : Hid (Go.Pan.Good xs)) (hne : Hid (xs ≠ ramp 1 xs.length)) :
    Calls Try.prog 115 #[tw xs, .int .i64 xs.length] w fun e w' => e = .returned (.agg #[.int .i64 (gSeg xs).1, .int .i64 (gSeg xs).2]) ∧ Below w.heap.size w w' := by
  have hl9 := hg.out.le9
  have hl1 := hg.out.1
  have h2c := not_sorted_two hg.out hne.out
  have hbp := bestS_pos h2c
  have hsp : selL xs ≠ [] := fun e => hne.out (selL_nil hg.out e)
  have hgS : gSeg xs = if (bestS xs).least < (brkL xs).length then (bestS xs).l.getD 0 (0, 0) else (selL xs).getD 0 (0, 0) := rfl
  have hbl0 : 0 < (bestS xs).l.length := List.length_pos_iff.2 hbp
  have hsl0 : 0 < (selL xs).length := List.length_pos_iff.2 hsp
  have hsz2 : (Try.prog.info? 62).map (·.size) = some 2 := infoSegment
  have hM10 : (bestS xs).least ≤ 10 := bestTo_least xs hg.out _ (Nat.le_refl _)
  have hbk := brkL_length xs
  obtain ⟨W, hW⟩ : ∃ W, W = (w.alloc (.cells (twl xs).toArray 86)).alloc (.cells #[iv 0, iv 0] 62) := ⟨_, rfl⟩
  have hbx : Blk W w.heap.size 86 (twl xs) := by rw [hW]; exact (Blk.new w _ (twl xs) _ rfl).alloc _
  have hz : Blk W (w.heap.size + 1) 62 [iv 0, iv 0] := by rw [hW]; exact Blk.new _ _ [iv 0, iv 0] _ (by simp)
  have hb0 : Below w.heap.size w W := by rw [hW]; exact (((Below.refl _ _).alloc (Nat.le_refl _) _).alloc (by simp) _)
  obtain ⟨p, hp⟩ : ∃ p, gSeg xs = p := ⟨_, rfl⟩
  rw [hp] at hgS ⊢
  clear hp hsp hbp
  subst hW
  go_enter Try.func115, Try.ntmps115
  go_wp2_with (first | (refine wpList_load_tower rfl _ rfl w.heap.size xs hl9 rfl hbx ?_))
  refine (bestTurns_any xs _ hg).mono ?_
  rintro e w3 ⟨r3, rfl, ho3, hf3, hb3⟩
  obtain ⟨a3, c3', rfl, hc3, _, _⟩ := ho3.shape
  have hbx3 := hbx.below hb3 hbx.lt
  have hz3 := hz.below hb3 hz.lt
  have hB3 := hb0.trans (hb3.mono hb0.size)
  obtain ⟨M, hM⟩ : ∃ x, (bestS xs).least = x := ⟨_, rfl⟩
  rw [hM] at hgS hM10 ⊢
  clear hbx hz hb0 hb3 hM hf3
  go_wp2_with (first | (refine wpList_load_tower rfl _ rfl w.heap.size xs hl9 rfl hbx3 ?_))
  refine (breakPoints_any xs _ hg).mono ?_
  rintro e w4 ⟨r4, rfl, ho4, hf4, hb4⟩
  obtain ⟨a4, c4', rfl, hc4, _, _⟩ := ho4.shape
  have hbx4 := hbx3.below hb4 hbx3.lt
  have hz4 := hz3.below hb4 hz3.lt
  have hB4 := hB3.trans (hb4.mono hB3.size)
  have hou4 := ho3.same hb4
  obtain ⟨m, hm⟩ : ∃ m, (brkL xs).length = m := ⟨_, rfl⟩
  rw [hm] at hc4 hgS hbk ⊢
  clear hbx3 hz3 hB3 hb4 ho4 hf4 hm ho3
  by_cases hlt : M < m
  · have hlt' : (M : Int) < m := by omega
    rw [if_pos hlt] at hgS
    obtain ⟨b, off, rfl, hbl, hra⟩ := OwnC.rowAt hou4 hbl0
    rw [List.getD_eq_getElem?_getD, List.getElem?_eq_getElem hbl0, Option.getD_some] at hgS
    rw [← hgS] at hra
    have hra' : w4.rangeAt b (off + 0 * 2) [.int .i64 p.1, .int .i64 p.2] := hra
    have hszl : (Try.prog.info? 62).map (·.size) = some ([.int .i64 p.1, .int .i64 p.2] : List Value).length := infoSegment
    obtain ⟨BL, hBL⟩ : ∃ x, (bestS xs).l.length = x := ⟨_, rfl⟩
    rw [hBL] at hc3 hbl0 ⊢
    clear hou4 hra hgS hBL hbx4
    go_wp2_with (first
      | (refine wpList_load_mid rfl 62 _ rfl b (off + 0 * 2) rfl [.int .i64 p.1, .int .i64 p.2] _ hra' Try.underlying62 rfl hszl ?_)
      | (refine wpList_storeS2 rfl 62 _ _ rfl (w.heap.size + 1) (.int .i64 p.1) (.int .i64 p.2) rfl rfl _ _ hz4 hsz2 rfl ⟨rfl, rfl⟩ ?_; intro w5 hz5 hgr5))
    have hB5 := hB4.grown hgr5 hB4.size (by intro j hj; cases hj; omega)
    exact bodyPost_ret (results_cell_row rfl _ _ (w.heap.size + 1) 62 _ _ _ rfl hz5 Try.underlying62 rfl hsz2) rfl ⟨rfl, hB5⟩
  · have hge : (m : Int) ≤ M := by omega
    rw [if_neg hlt] at hgS
    go_wp2_with (first | (refine wpList_load_tower rfl _ rfl w.heap.size xs hl9 rfl hbx4 ?_))
    refine (selection_any xs _ hg).mono ?_
    rintro e w6 ⟨r6, rfl, ho6, hf6, hb6⟩
    obtain ⟨a6, c6', rfl, hc6, _, _⟩ := ho6.shape
    have hz6 := hz4.below hb6 hz4.lt
    have hB6 := hB4.trans (hb6.mono hB4.size)
    obtain ⟨b, off, rfl, hbl, hra⟩ := OwnC.rowAt ho6 hsl0
    rw [List.getD_eq_getElem?_getD, List.getElem?_eq_getElem hsl0, Option.getD_some] at hgS
    rw [← hgS] at hra
    have hra' : w6.rangeAt b (off + 0 * 2) [.int .i64 p.1, .int .i64 p.2] := hra
    have hszl : (Try.prog.info? 62).map (·.size) = some ([.int .i64 p.1, .int .i64 p.2] : List Value).length := infoSegment
    obtain ⟨SL, hSL⟩ : ∃ x, (selL xs).length = x := ⟨_, rfl⟩
    rw [hSL] at hc6 hsl0 ⊢
    clear hou4 hra hgS hSL hbx4 hz4 hB4 hb6 ho6 hf6
    go_wp2_with (first
      | (refine wpList_load_mid rfl 62 _ rfl b (off + 0 * 2) rfl [.int .i64 p.1, .int .i64 p.2] _ hra' Try.underlying62 rfl hszl ?_)
      | (refine wpList_storeS2 rfl 62 _ _ rfl (w.heap.size + 1) (.int .i64 p.1) (.int .i64 p.2) rfl rfl _ _ hz6 hsz2 rfl ⟨rfl, rfl⟩ ?_; intro w7 hz7 hgr7))
    have hB7 := hB6.grown hgr7 hB6.size (by intro j hj; cases hj; omega)
    exact bodyPost_ret (results_cell_row rfl _ _ (w.heap.size + 1) 62 _ _ _ rfl hz7 Try.underlying62 rfl hsz2) rfl ⟨rfl, hB7⟩

set_option maxHeartbeats 4000000 in
set_option maxRecDepth 100000 in
theorem GreedySegments_any (v : Value) (xs : List Int) (w : World) (hv : OwnI w v xs) (hn : xs.length ≤ 1048576) :
    Calls Try.prog 68 #[v] w fun e w' => ∃ r, e = .returned (.tuple #[r, .bool (okGreedyS xs)]) ∧ OwnC c2 w' r (mGreedySegments xs) ∧ From w.heap.size r ∧ Below w.heap.size w w' := by
  obtain ⟨ad, cap, rfl, hc, _, _⟩ := hv.shape
  obtain ⟨i0, hi, hz0, hz1, hz2⟩ := info_parts infoSegment3
  have HI := Lib.hid hi
  have HZ0 := Lib.hid hz0
  have HZ1 := Lib.hid hz1
  clear hi hz0 hz1 hz2
  have cg := IsStack_any _ _ _ hv hn
  cases hg : goodB xs with
  | true =>
    have HG := Lib.hid hg
    have HGd := Lib.hid (goodB_iff.1 hg)
    have hl9 := HGd.out.le9
    have hl1 := HGd.out.1
    rw [hg] at cg
    clear hg
    go_enter Try.func68, Try.ntmps68
    go_wp2_with fail
    refine (cg).mono ?_
    rintro e w1 ⟨rfl, hb⟩
    have hv1 := hv.same hb
    clear hv cg
    go_wp2_with fail
    refine (towerOf_any _ _ _ hv1 hl9).mono ?_
    rintro e w2 ⟨rfl, hb2⟩
    have hB2 := hb.trans (hb2.mono hb.size)
    have hz : Blk (w2.alloc (.cells (twl []).toArray 86)) w2.heap.size 86 (twl []) := Blk.new w2 _ (twl []) _ rfl
    have hs2 := hB2.size
    have hB3 := hB2.alloc hB2.size (.cells (twl []).toArray 86)
    clear hb hb2 hv1
    go_wp2_with (first | (refine wpList_store_tower rfl _ _ rfl w2.heap.size [] xs (by simp) hl9 rfl rfl hz ?_; intro w3 hbT hgr))
    have hB4 := hB3.grown hgr hB3.size (fun k hk => by simp at hk; omega)
    clear hz hB2 hB3 hgr
    have hut := Try.underlying86
    have hbxl := hbT.lt
    obtain ⟨bx, hbx⟩ : ∃ x, w2.heap.size = x := ⟨_, rfl⟩
    rw [hbx] at hbT hs2 hbxl
    go_wp2
    rw [hbx]
    go_loopw [6, 7] (fun o _ wr => ∃ (cur : List Int) (out : List (Int × Int)), Blk wr bx 86 (twl cur) ∧ OwnC c2 wr o out ∧ From (bx + 1) o ∧ Below w.heap.size w wr ∧ Hid (Go.Pan.Good cur) ∧ Hid (cur.length = xs.length) ∧ out.length ≤ 40 ∧ Hid (greedyF (40 - out.length) cur out = greedyR xs)) (fun o _ _ => 42 - slenV o)
    case atStart => exact ⟨xs, [], hbT, OwnC.nil _, From.nil _ _ _, hB4, HGd, Lib.hid rfl, by simp, Lib.hid rfl⟩
    case round =>
      obtain ⟨cur, O, hbl, ho, hf, hbr, hgc, hcl, hO40, hinv⟩ := hrel
      clear hbT hB4
      obtain ⟨ao, co, rfl, hco, _, _⟩ := ho.shape
      have hc9 := hgc.out.le9
      have hOl : O.length ≤ 1048576 := by omega
      have hs9 : (twl cur).length = 9 := twl_length _ hc9
      have hsz : (Try.prog.info? 86).map (·.size) = some (twl cur).length := by rw [Try.infoT, hs9]
      have heq := tower_eq cur (ramp 1 xs.length) hc9 (by rw [ramp_length]; exact hcl.out)
      have hlT := hbl.lt
      have hra := hbl.range
      have HS9 := Lib.hid hs9
      have hsz2 : (Try.prog.info? 62).map (·.size) = some 2 := infoSegment
      clear hs9
      by_cases hsort : cur = ramp 1 xs.length
      · have hde : decide (cur = ramp 1 xs.length) = true := decide_eq_true hsort
        have HR := Lib.hid (okGreedy_some HG.out (show greedyR xs = some O by
          rw [← hinv.out]; exact greedyF_sorted (by rw [sortedB_eq hgc.out, hcl.out]; exact hde)))
        rw [hde] at heq
        clear hsort hde hinv
        go_wp2_with fail
        refine wp_region_held_drew (S := (fun w' => w'.rangeAt bx 0 (twl cur))) (by kernel_rfl) (hra) (fun hHeld => ?_)
        refine wpAnyH_take (i := 0) rfl (by kernel_rfl) (by kernel_rfl) (by kernel_rfl) (fun _ _ _ h => h) (yieldsIf_load_mid (by rfl) _ _ rfl _ _ rfl _ _ (fun w hw => hw) hut rfl hsz) (by assumption) ?_
        refine wpAnyH_take (i := 1) (v := ?_) rfl (by kernel_rfl) (by kernel_rfl) (by kernel_rfl) (fun _ _ _ h => h) (Or.inl ⟨by rfl, ?_⟩) (by assumption) ?_
        rotate_left
        · intro w _; go_simp; with_reducible rfl
        refine wpAnyH_ready (rs := [2]) (by kernel_rfl) (by simp) ?_
        refine AllReadyH.cons rfl (fun K hK => ?_) AllReadyH.nil
        go_simp
        refine (sortedTower_any _ _ hl9).mono ?_
        rintro e w6 ⟨rfl, hb6⟩
        go_wp2_with fail
        refine hK.out _ _ (range_below hHeld hb6 hlT) (fun hHeld => ?_)
        clear hK K
        refine wpAnyH_take (i := 3) (v := ?_) rfl (by kernel_rfl) (by kernel_rfl) (by kernel_rfl) (fun _ _ _ h => h) (Or.inl ⟨by rfl, ?_⟩) (by assumption) ?_
        rotate_left
        · intro w _; go_simp; with_reducible rfl
        refine wpAnyH_done (by kernel_rfl) ?_ _
        have ho6 : OwnC c2 w6 _ O := (Own.drew ho).same hb6
        have hB6 := hbr.drew.trans (hb6.mono hbr.size)
        clear ho hra hbl
        go_wp2_with fail
        refine (ClipS_any _ _ _ ho6).mono ?_
        rintro e w7 ⟨r, rfl, hor, hrb, rfl⟩
        have hfr : From w.heap.size r := fun b hb => Nat.le_trans hs2 (Nat.le_of_succ_le (hf b (by rw [← hrb]; exact hb)))
        clear hrb
        go_wp2
        go_ret2
        exact ⟨_, by rw [HR.out.1]; rfl, by rw [HR.out.2]; exact hor, hfr, hB6⟩
      · have hde : decide (cur = ramp 1 xs.length) = false := decide_eq_false hsort
        have hso : sortedB cur = false := by rw [sortedB_eq hgc.out, hcl.out]; exact hde
        have HNE := Lib.hid (show cur ≠ ramp 1 cur.length by rw [hcl.out]; exact hsort)
        rw [hde] at heq
        clear hsort hde
        go_wp2_with fail
        refine wp_region_held_drew (S := (fun w' => w'.rangeAt bx 0 (twl cur))) (by kernel_rfl) (hra) (fun hHeld => ?_)
        refine wpAnyH_take (i := 0) rfl (by kernel_rfl) (by kernel_rfl) (by kernel_rfl) (fun _ _ _ h => h) (yieldsIf_load_mid (by rfl) _ _ rfl _ _ rfl _ _ (fun w hw => hw) hut rfl hsz) (by assumption) ?_
        refine wpAnyH_take (i := 1) (v := ?_) rfl (by kernel_rfl) (by kernel_rfl) (by kernel_rfl) (fun _ _ _ h => h) (Or.inl ⟨by rfl, ?_⟩) (by assumption) ?_
        rotate_left
        · intro w _; go_simp; with_reducible rfl
        refine wpAnyH_ready (rs := [2]) (by kernel_rfl) (by simp) ?_
        refine AllReadyH.cons rfl (fun K hK => ?_) AllReadyH.nil
        go_simp
        refine (sortedTower_any _ _ hl9).mono ?_
        rintro e w6 ⟨rfl, hb6⟩
        go_wp2_with fail
        refine hK.out _ _ (range_below hHeld hb6 hlT) (fun hHeld => ?_)
        clear hK K
        refine wpAnyH_take (i := 3) (v := ?_) rfl (by kernel_rfl) (by kernel_rfl) (by kernel_rfl) (fun _ _ _ h => h) (Or.inl ⟨by rfl, ?_⟩) (by assumption) ?_
        rotate_left
        · intro w _; go_simp; with_reducible rfl
        refine wpAnyH_done (by kernel_rfl) ?_ _
        have ho6 : OwnC c2 w6 _ O := (Own.drew ho).same hb6
        have hbl6 := (hbl.drew).below hb6 hlT
        have hB6 := hbr.drew.trans (hb6.mono hbr.size)
        have hlT6 := hbl6.lt
        clear ho hra hbl hb6
        by_cases h40 : O.length = 40
        · have h40' : (O.length : Int) = 40 := by omega
          have HR := Lib.hid (okGreedy_none (xs := xs) (by rw [← hinv.out, h40]; exact greedyF_zero hso))
          go_wp2
          go_ret2
          exact ⟨_, by rw [HR.out.1]; rfl, by rw [HR.out.2]; exact OwnC.nil _, From.nil _ _ _, hB6⟩
        · have hq : ((O.length : Int) == 40) = false := by simp; omega
          have hpB := gSeg_B hgc.out HNE.out
          have hFN : greedyF (40 - (O ++ [gSeg cur]).length) (segT cur (gSeg cur)) (O ++ [gSeg cur]) = greedyR xs := by
            rw [← hinv.out, List.length_append, List.length_singleton, show 40 - O.length = (40 - (O.length + 1)) + 1 by omega, greedyF_next hso]
          have cgr := greedySegment_any cur
          rw [hcl.out] at cgr
          obtain ⟨p, hp⟩ : ∃ p, gSeg cur = p := ⟨_, rfl⟩
          rw [hp] at hpB hFN cgr
          have HPB := Lib.hid hpB
          have HFN := Lib.hid hFN
          have HGN := Lib.hid (segT_good hgc.out hpB)
          have HLN := Lib.hid (show (segT cur p).length = xs.length by rw [segT_length hpB]; exact hcl.out)
          have hN9 : (segT cur p).length ≤ 9 := by rw [segT_length hpB]; exact hc9
          clear hso hinv hpB hFN hp
          go_wp2_with (first | (refine wpList_load_tower rfl _ rfl bx cur hc9 rfl hbl6 ?_))
          refine (cgr _ hgc (Lib.hid (by rw [← hcl.out]; exact HNE.out))).mono ?_
          rintro e w7 ⟨rfl, hb7⟩
          have ho7 : OwnC c2 w7 _ O := Own.same ho6 hb7
          have hbl7 := hbl6.below hb7 hlT6
          have hB7 := hB6.trans (hb7.mono hB6.size)
          have hs7 := hB7.size
          have hl7 := hbl7.lt
          have ho8 := Own.alloc ho7 (.cells #[.int .i64 p.1, .int .i64 p.2] 62)
          have hbl8 := hbl7.alloc (.cells #[.int .i64 p.1, .int .i64 p.2] 62)
          have hB8 := hB7.alloc hs7 (.cells #[.int .i64 p.1, .int .i64 p.2] 62)
          have hz8 : Blk (w7.alloc (.cells [.int .i64 p.1, .int .i64 p.2].toArray 62)) w7.heap.size 62 [.int .i64 p.1, .int .i64 p.2] := Blk.new w7 _ _ _ rfl
          have HLT := Lib.hid (Own.lt ho7)
          have hs8 := hB8.size
          have hl8 := hz8.lt
          have ho9 := Own.alloc ho8 (.cells #[.int .i64 p.1, .int .i64 p.2] 62)
          have hbl9 := hbl8.alloc (.cells #[.int .i64 p.1, .int .i64 p.2] 62)
          have hB9 := hB8.alloc hs8 (.cells #[.int .i64 p.1, .int .i64 p.2] 62)
          have hz9 := hz8.alloc (.cells #[.int .i64 p.1, .int .i64 p.2] 62)
          have hsrc := Src.pair (p := p) (Blk.new (w7.alloc (.cells #[.int .i64 p.1, .int .i64 p.2] 62)) 62 [iv p.1, iv p.2] _ rfl)
          clear cgr ho6 hbl6 hB6 hb7 ho7 hbl7 hB7 ho8 hbl8 hB8
          go_wp2_with (first
            | (refine wpList_loadS2 rfl 62 _ rfl w7.heap.size _ _ rfl _ hz8 Try.underlying62 rfl hsz2 ?_)
            | (refine wpList_build_pair Try.underlying54 HI.out HZ0.out HZ1.out rfl _ rfl (.int .i64 p.1) (.int .i64 p.2) rfl ?_)
            | (at_builtin; go_loud (
               refine wpList_appC segSl (by omega) (by omega) rfl _ _ rfl _ O rfl ho9 (bx + 1) hf _ 1 1 [p] rfl rfl hsrc _ (Below.refl _ _) hbl9.lt hOl (by simp) ?_
               intro v10 w10 ho10 hf10 hb10 hg10
               have hbl10 := hbl9.below hb10 (by omega)
               have hB10 := hB9.trans (hb10.mono (by omega))
               have hz10 := hz9.grown hg10 (fun e => by
                 have h1 := HLT.out w7.heap.size e
                 omega)
               clear ho9 hbl9 hB9 hz9 hg10 hsrc hz8 hb10))
            | (refine wpList_load_tower rfl _ rfl bx cur hc9 rfl hbl10 ?_)
            | (refine wpList_loadS2 rfl 62 _ rfl w7.heap.size _ _ rfl _ hz10 Try.underlying62 rfl hsz2 ?_))
          refine (segmentTurned_any cur xs.length p _ hc9 (Lib.hid (by rw [← hcl.out]; exact HPB.out)) (Lib.hid (by rw [hcl.out]))).mono ?_
          rintro e w11 ⟨rfl, hb11⟩
          have hlt10 := hbl10.lt
          have hbl11 := hbl10.below hb11 hlt10
          have ho11 := ho10.same hb11
          have hB11 := hB10.trans (hb11.mono hB10.size)
          clear ho10 hB10 hbl10 hb11 hz10
          go_wp2_with (first | (refine wpList_store_tower rfl _ _ rfl bx cur (segT cur p) hc9 hN9 rfl rfl hbl11 ?_; intro w12 hbl12 hgr12))
          have hB12 := hB11.grown hgr12 hB11.size (by intro j hj; cases hj; omega)
          have ho12 := ho11.grown hgr12 (by intro g hg e; have := hf10 g hg; cases e; omega)
          obtain ⟨a10, c10, rfl, _, _, _⟩ := ho12.shape
          clear hgr12 hbl11 hB11 ho11
          rw [show ∀ (a : Act), a.put none undef = a from fun _ => rfl]
          go_roundw
          case rel => exact ⟨segT cur p, O ++ [p], hbl12, ho12, hf10, hB12, HGN, HLN, by rw [List.length_append, List.length_singleton]; omega, HFN⟩
          case measure => simp [slenV] <;> omega
  | false =>
    have HO := Lib.hid (show okGreedyS xs = false by unfold okGreedyS; rw [hg]; rfl)
    have HM := Lib.hid (show mGreedySegments xs = [] from if_neg (by rw [hg]; exact Bool.false_ne_true))
    rw [hg] at cg
    clear hg
    go_enter Try.func68, Try.ntmps68
    go_wp2_with fail
    refine (cg).mono ?_
    rintro e w1 ⟨rfl, hb⟩
    go_wp2
    go_ret2
    exact ⟨_, by rw [HO.out]; rfl, by rw [HM.out]; exact OwnC.nil _, From.nil _ _ _, hb⟩

end Go.Proofs.Ytmlikchhkblohaa

