import Derived.Test.YtmlikchhkblohaaV9
namespace Go.Proofs.Ytmlikchhkblohaa
open Go Go.RowKit Go.Pan

theorem greedyF_sorted {f : Nat} {cur : List Int} {out : List (Int × Int)} (h : sortedB cur = true) : greedyF f cur out = some out := by
  cases f <;> simp [greedyF, h]
theorem greedyF_zero {cur : List Int} {out : List (Int × Int)} (h : sortedB cur = false) : greedyF 0 cur out = none := by simp [greedyF, h]
theorem greedyF_next {f : Nat} {cur : List Int} {out : List (Int × Int)} (h : sortedB cur = false) : greedyF (f + 1) cur out = greedyF f (segT cur (gSeg cur)) (out ++ [gSeg cur]) := by simp [greedyF, h]
theorem okGreedy_some {xs : List Int} {out : List (Int × Int)} (hg : goodB xs = true) (h : greedyR xs = some out) : okGreedyS xs = true ∧ mGreedySegments xs = out := by
  unfold okGreedyS mGreedySegments
  rw [hg, h]
  exact ⟨rfl, rfl⟩
theorem okGreedy_none {xs : List Int} (h : greedyR xs = none) : okGreedyS xs = false ∧ mGreedySegments xs = [] := by
  unfold okGreedyS mGreedySegments
  rw [h]
  exact ⟨by simp, by split <;> rfl⟩

def slenV : Value → Nat
  | .slice _ n _ => n
  | _ => 0

set_option maxHeartbeats 4000000 in
set_option maxRecDepth 100000 in
theorem sGreedySegments_any (v : Value) (xs : List Int) (w : World) (hv : OwnI w v xs) (hn : xs.length ≤ 1048576) :
    Calls Try.prog 67 #[v] w fun e w' => ∃ r, e = .returned (.tuple #[r, .bool (okGreedyS xs)]) ∧ OwnC c2 w' r (mGreedySegments xs) ∧ From w.heap.size r ∧ Below w.heap.size w w' := by
  obtain ⟨ad, cap, rfl, hc, _, _⟩ := hv.shape
  obtain ⟨i0, hi, hz0, hz1, hz2⟩ := info_parts infoSegment3
  have HI := Lib.hid hi
  have HZ0 := Lib.hid hz0
  have HZ1 := Lib.hid hz1
  clear hi hz0 hz1 hz2
  have cg := stGood_any _ _ _ hv hn
  cases hg : goodB xs with
  | true =>
    have HG := Lib.hid hg
    have HGd := Lib.hid (goodB_iff.1 hg)
    have hl9 := HGd.out.le9
    have hl1 := HGd.out.1
    rw [hg] at cg
    clear hg
    go_enter Try.func67, Try.ntmps67
    go_wp2_with fail
    refine (cg).mono ?_
    rintro e w1 ⟨rfl, hb⟩
    have hv1 := hv.same hb
    clear hv cg
    have hB1 := hb
    go_wp2
    go_loopw [0, 4, 5, 6, 7] (fun s o _ _ _ wr => ∃ (cur : List Int) (out : List (Int × Int)), OwnI wr s cur ∧ OwnC c2 wr o out ∧ From w.heap.size o ∧ Below w.heap.size w wr ∧ Hid (Go.Pan.Good cur) ∧ Hid (cur.length = xs.length) ∧ out.length ≤ 41 ∧ Hid ((out.length ≤ 40 → greedyF (40 - out.length) cur out = greedyR xs) ∧ (out.length = 41 → greedyR xs = none))) (fun _ o _ _ _ _ => 42 - slenV o)
    case atStart => exact ⟨xs, [], hv1, OwnC.nil _, From.nil _ _ _, hB1, HGd, Lib.hid rfl, by simp, Lib.hid ⟨fun _ => rfl, fun h => by simp at h⟩⟩
    case round =>
      obtain ⟨cur, O, hs, ho, hf, hbr, hgc, hcl, hO41, hinv⟩ := hrel
      clear hv1 hB1 hb
      obtain ⟨as0, cs0, rfl, hcs, _, _⟩ := hs.shape
      obtain ⟨ao, co, rfl, hco, _, _⟩ := ho.shape
      have hcn : cur.length ≤ 1048576 := by have := hcl.out; omega
      have hOl : O.length ≤ 1048576 := by omega
      have hlr := hbr.size
      have hsz2 : (Try.prog.info? 62).map (·.size) = some 2 := infoSegment
      by_cases h40 : O.length ≤ 40
      · have h40' : (O.length : Int) ≤ 40 := by omega
        have cs' := stSorted_any _ cur wr hs hcn
        cases hso : sortedB cur with
        | true =>
          rw [hso] at cs'
          have HR := Lib.hid (okGreedy_some HG.out (show greedyR xs = some O by rw [← hinv.out.1 h40]; exact greedyF_sorted hso))
          clear hso
          go_wp2_with fail
          refine cs'.mono ?_
          rintro e w2 ⟨rfl, hb2⟩
          have ho2 := ho.same hb2
          have hB2 := hbr.trans (hb2.mono hlr)
          clear cs' ho hbr hb2 hs
          go_wp2
          go_ret2
          exact ⟨_, by rw [HR.out.1]; rfl, by rw [HR.out.2]; exact ho2, hf, hB2⟩
        | false =>
          rw [hso] at cs'
          have hne : cur ≠ ramp 1 cur.length := fun e => by
            rw [sortedB_eq hgc.out, decide_eq_true e] at hso; cases hso
          have h2c := not_sorted_two hgc.out hne
          have hpB := gSeg_B hgc.out hne
          have hbp := bestS_pos h2c
          have hsp : selL cur ≠ [] := fun e => hne (selL_nil hgc.out e)
          have hgS : gSeg cur = if (bestS cur).least < (brkL cur).length then (bestS cur).l.getD 0 (0, 0) else (selL cur).getD 0 (0, 0) := rfl
          have hFN : ((O ++ [gSeg cur]).length ≤ 40 → greedyF (40 - (O ++ [gSeg cur]).length) (segT cur (gSeg cur)) (O ++ [gSeg cur]) = greedyR xs) ∧ ((O ++ [gSeg cur]).length = 41 → greedyR xs = none) := by
            have h := hinv.out.1 h40
            rw [List.length_append, List.length_singleton]
            constructor
            · intro h1
              rw [← h, show 40 - O.length = (40 - (O.length + 1)) + 1 by omega, greedyF_next hso]
            · intro h1
              rw [← h, show 40 - O.length = 0 by omega, greedyF_zero hso]
          obtain ⟨p, hp⟩ : ∃ p, gSeg cur = p := ⟨_, rfl⟩
          rw [hp] at hpB hFN hgS
          have HPB := Lib.hid hpB
          have HFN := Lib.hid hFN
          have HGN := Lib.hid (segT_good hgc.out hpB)
          have HLN := Lib.hid (show (segT cur p).length = xs.length by rw [segT_length hpB]; exact hcl.out)
          have HBL := Lib.hid (show (bestS cur).least ≤ 10 from bestTo_least cur hgc.out _ (Nat.le_refl _))
          have hbk := brkL_length cur
          have hc9 := hgc.out.le9
          clear hso hinv hne hpB hFN hp
          go_wp2_with fail
          refine cs'.mono ?_
          rintro e w2 ⟨rfl, hb2⟩
          have hs2 := hs.same hb2
          have ho2 := ho.same hb2
          have hB2 := hbr.trans (hb2.mono hlr)
          clear cs' ho hbr hb2 hs
          go_wp2_with fail
          refine (sgBest_any _ cur _ hs2 hgc).mono ?_
          rintro e w3 ⟨r3, rfl, ho3, hf3, hb3⟩
          obtain ⟨a3, c3', rfl, hc3, _, _⟩ := ho3.shape
          have hs3 := hs2.same hb3
          have hou3 := ho2.same hb3
          have hB3 := hB2.trans (hb3.mono hB2.size)
          have hsz3 := hB3.size
          have hbl0 : 0 < (bestS cur).l.length := List.length_pos_iff.2 hbp
          obtain ⟨b, off, rfl, hbl, hra⟩ := OwnC.rowAt ho3 hbl0
          obtain ⟨q, hq⟩ : ∃ q, (bestS cur).l[0] = q := ⟨_, rfl⟩
          have hqd : (bestS cur).l.getD 0 (0, 0) = q := by rw [List.getD_eq_getElem?_getD, List.getElem?_eq_getElem hbl0]; exact hq
          rw [hqd] at hgS
          rw [hq] at hra
          have hra' : w3.rangeAt b (off + 0 * 2) [.int .i64 q.1, .int .i64 q.2] := hra
          have hszl : (Try.prog.info? 62).map (·.size) = some ([.int .i64 q.1, .int .i64 q.2] : List Value).length := infoSegment
          have hB4 := hB3.alloc hsz3 (.cells #[.int .i64 q.1, .int .i64 q.2] 62)
          have hz4 : Blk (w3.alloc (.cells [.int .i64 q.1, .int .i64 q.2].toArray 62)) w3.heap.size 62 [.int .i64 q.1, .int .i64 q.2] := Blk.new w3 _ _ _ rfl
          have hou4 := hou3.alloc (.cells #[.int .i64 q.1, .int .i64 q.2] 62)
          have hs4 := hs3.alloc (.cells #[.int .i64 q.1, .int .i64 q.2] 62)
          obtain ⟨bx, hbx⟩ : ∃ x, w3.heap.size = x := ⟨_, rfl⟩
          have hLo := Own.lt hou3
          have hLs := Own.lt hs3
          rw [hbx] at hLo hLs
          have hwbx : w.heap.size ≤ bx := by omega
          obtain ⟨BL, hBL⟩ : ∃ x, (bestS cur).l.length = x := ⟨_, rfl⟩
          obtain ⟨M, hM⟩ : ∃ x, (bestS cur).least = x := ⟨_, rfl⟩
          rw [hBL] at hc3 hbl0 ⊢
          rw [hM] at hgS HBL ⊢
          have hM10 := HBL.out
          clear hs2 ho2 hB2 hs3 hou3 hB3 ho3 hf3 hb3 hra hqd hq hbp hBL hM HBL
          go_wp2_with (first
            | (refine wpList_load_mid rfl 62 _ rfl b (off + 0 * 2) rfl [.int .i64 q.1, .int .i64 q.2] _ hra' Try.underlying62 rfl hszl ?_))
          refine (sgBreaks_any _ cur _ hs4 hgc).mono ?_
          rintro e w5 ⟨r5, rfl, ho5, hf5, hb5⟩
          obtain ⟨a5, c5', rfl, hc5, _, _⟩ := ho5.shape
          rw [hbx] at hz4
          have hz5 := hz4.below hb5 hz4.lt
          have hs5 := hs4.same hb5
          have hou5 := hou4.same hb5
          have hB5 := hB4.trans (hb5.mono hB4.size)
          obtain ⟨m, hm⟩ : ∃ m, (brkL cur).length = m := ⟨_, rfl⟩
          rw [hm] at hc5 hgS hbk ⊢
          clear hz4 hs4 hou4 hB4 hb5 ho5 hf5 hm
          by_cases hlt : M < m
          · have hlt' : (M : Int) < m := by omega
            rw [if_pos hlt] at hgS
            subst hgS

            have hbl5 := hz5.lt
            go_wp2_with (first | (refine wpList_loadS2 rfl 62 _ rfl bx _ _ rfl _ hz5 Try.underlying62 rfl hsz2 ?_))
            refine (sgTurn_any _ cur cur.length p _ hs5 hcn HPB (Lib.hid rfl)).mono ?_
            rintro e w8 ⟨r8, rfl, ho8, hf8, hb8⟩
            have hz8 := hz5.below hb8 hbl5
            have hou8 := hou5.same hb8
            have hB8 := hB5.trans (hb8.mono hB5.size)
            have hs8 := hB8.size
            have HAP := Lib.hid (show ∀ g, r8.ownBlock = some g → (Value.slice ao O.length co).ownBlock ≠ some g from fun g hg e => by
              have h1 := hf8 g hg
              have h2 := hou5.lt g e
              omega)
            have hou9 := hou8.alloc (.cells #[.int .i64 p.1, .int .i64 p.2] 62)
            have hB9 := hB8.alloc hs8 (.cells #[.int .i64 p.1, .int .i64 p.2] 62)
            have hsrc := Src.pair (p := p) (Blk.new w8 62 [iv p.1, iv p.2] _ rfl)
            have HR8 := Lib.hid (Own.alloc ho8 (.cells #[.int .i64 p.1, .int .i64 p.2] 62))
            clear hz5 hs5 hou5 hB5 hb8 hou8 hB8 ho8 hf8
            go_wp2_with (first | (refine wpList_loadS2 rfl 62 _ rfl bx _ _ rfl _ hz8 Try.underlying62 rfl hsz2 ?_) | (refine wpList_build_pair Try.underlying54 HI.out HZ0.out HZ1.out rfl _ rfl (.int .i64 p.1) (.int .i64 p.2) rfl ?_) | (at_builtin; refine wpList_appC segSl (by omega) (by omega) rfl _ _ rfl _ O rfl hou9 w.heap.size hf (some ⟨w8.heap.size, 0, none⟩) 1 1 [p] rfl rfl hsrc w hB9 (by simp <;> omega) hOl (by simp) ?_; intro v10 w10 ho10 hf10 hb10 hg10))
            have hr10 : OwnI w10 r8 (segT cur p) := Own.grown HR8.out hg10 HAP.out
            obtain ⟨a10, c10, rfl, _, _, _⟩ := ho10.shape
            clear hg10 hz8
            go_roundw
            case rel => exact ⟨segT cur p, O ++ [p], hr10, ho10, hf10, hb10, HGN, HLN, by rw [List.length_append, List.length_singleton]; omega, HFN⟩
            case measure => simp [slenV] <;> omega
          · have hge : (m : Int) ≤ M := by omega
            rw [if_neg hlt] at hgS
            have hsl0 : 0 < (selL cur).length := List.length_pos_iff.2 hsp
            go_wp2_with fail
            refine (sgSelection_any _ cur _ hs5 hgc).mono ?_
            rintro e w6 ⟨r6, rfl, ho6, hf6, hb6⟩
            obtain ⟨a6, c6', rfl, hc6, _, _⟩ := ho6.shape
            have hz6 := hz5.below hb6 hz5.lt
            have hs6 := hs5.same hb6
            have hou6 := hou5.same hb6
            have hB6 := hB5.trans (hb6.mono hB5.size)
            have hsz6 := hB6.size
            obtain ⟨b6, off6, rfl, hbl6, hra6⟩ := OwnC.rowAt ho6 hsl0
            obtain ⟨q6, hq6⟩ : ∃ q, (selL cur)[0] = q := ⟨_, rfl⟩
            have hqd6 : (selL cur).getD 0 (0, 0) = q6 := by rw [List.getD_eq_getElem?_getD, List.getElem?_eq_getElem hsl0]; exact hq6
            rw [hqd6] at hgS
            rw [hq6] at hra6
            subst hgS
            have hra6' : w6.rangeAt b6 (off6 + 0 * 2) [.int .i64 p.1, .int .i64 p.2] := hra6
            have hszl : (Try.prog.info? 62).map (·.size) = some ([.int .i64 p.1, .int .i64 p.2] : List Value).length := infoSegment
            have HLTo := Lib.hid (fun g (hg : (Value.slice ao O.length co).ownBlock = some g) => (show g ≠ bx from fun e => by
              have h1 := hLo g hg
              omega))
            have HLTs := Lib.hid (fun g (hg : (Value.slice as0 cur.length cs0).ownBlock = some g) => (show g ≠ bx from fun e => by
              have h1 := hLs g hg
              omega))
            obtain ⟨SL, hSL⟩ : ∃ x, (selL cur).length = x := ⟨_, rfl⟩
            rw [hSL] at hc6 hsl0 ⊢
            clear hz5 hs5 hou5 hB5 hb6 ho6 hf6 hra6 hqd6 hq6 hSL
            go_wp2_with (first
              | (refine wpList_load_mid rfl 62 _ rfl b6 (off6 + 0 * 2) rfl [.int .i64 p.1, .int .i64 p.2] _ hra6' Try.underlying62 rfl hszl ?_)
              | (refine wpList_storeS2 rfl 62 _ _ rfl bx (.int .i64 p.1) (.int .i64 p.2) rfl rfl _ _ hz6 hsz2 rfl ⟨rfl, rfl⟩ ?_
                 intro w7 hz7 hgr7
                 have hou7 := hou6.grown hgr7 (by intro g hg e; exact HLTo.out g hg (Option.some.inj e).symm)
                 have hs7 := hs6.grown hgr7 (by intro g hg e; exact HLTs.out g hg (Option.some.inj e).symm)
                 have hB7 := hB6.grown hgr7 hB6.size (by intro j hj; cases hj; omega)
                 clear hz6 hou6 hs6 hB6 hgr7)
              | (refine wpList_loadS2 rfl 62 _ rfl bx _ _ rfl _ hz7 Try.underlying62 rfl hsz2 ?_))
            have hbl7 := hz7.lt
            refine (sgTurn_any _ cur cur.length p _ hs7 hcn HPB (Lib.hid rfl)).mono ?_
            rintro e w8 ⟨r8, rfl, ho8, hf8, hb8⟩
            have hz8 := hz7.below hb8 hbl7
            have hou8 := hou7.same hb8
            have hB8 := hB7.trans (hb8.mono hB7.size)
            have hs8 := hB8.size
            have HAP := Lib.hid (show ∀ g, r8.ownBlock = some g → (Value.slice ao O.length co).ownBlock ≠ some g from fun g hg e => by
              have h1 := hf8 g hg
              have h2 := hou7.lt g e
              omega)
            have hou9 := hou8.alloc (.cells #[.int .i64 p.1, .int .i64 p.2] 62)
            have hB9 := hB8.alloc hs8 (.cells #[.int .i64 p.1, .int .i64 p.2] 62)
            have hsrc := Src.pair (p := p) (Blk.new w8 62 [iv p.1, iv p.2] _ rfl)
            have HR8 := Lib.hid (Own.alloc ho8 (.cells #[.int .i64 p.1, .int .i64 p.2] 62))
            clear hz7 hs7 hou7 hB7 hb8 hou8 hB8 ho8 hf8
            go_wp2_with (first | (refine wpList_loadS2 rfl 62 _ rfl bx _ _ rfl _ hz8 Try.underlying62 rfl hsz2 ?_) | (refine wpList_build_pair Try.underlying54 HI.out HZ0.out HZ1.out rfl _ rfl (.int .i64 p.1) (.int .i64 p.2) rfl ?_) | (at_builtin; refine wpList_appC segSl (by omega) (by omega) rfl _ _ rfl _ O rfl hou9 w.heap.size hf (some ⟨w8.heap.size, 0, none⟩) 1 1 [p] rfl rfl hsrc w hB9 (by simp <;> omega) hOl (by simp) ?_; intro v10 w10 ho10 hf10 hb10 hg10))
            have hr10 : OwnI w10 r8 (segT cur p) := Own.grown HR8.out hg10 HAP.out
            obtain ⟨a10, c10, rfl, _, _, _⟩ := ho10.shape
            clear hg10 hz8
            go_roundw
            case rel => exact ⟨segT cur p, O ++ [p], hr10, ho10, hf10, hb10, HGN, HLN, by rw [List.length_append, List.length_singleton]; omega, HFN⟩
            case measure => simp [slenV] <;> omega
      · have h41 : O.length = 41 := by omega
        have h41' : (40 : Int) < O.length := by omega
        have HR := Lib.hid (okGreedy_none (hinv.out.2 h41))
        go_wp2
        go_ret2
        exact ⟨_, by rw [HR.out.1]; rfl, by rw [HR.out.2]; exact OwnC.nil _, From.nil _ _ _, hbr⟩
  | false =>
    have HO := Lib.hid (show okGreedyS xs = false by unfold okGreedyS; rw [hg]; rfl)
    have HM := Lib.hid (show mGreedySegments xs = [] from if_neg (by rw [hg]; exact Bool.false_ne_true))
    rw [hg] at cg
    clear hg
    go_enter Try.func67, Try.ntmps67
    go_wp2_with fail
    refine (cg).mono ?_
    rintro e w1 ⟨rfl, hb⟩
    go_wp2
    go_ret2
    exact ⟨_, by rw [HO.out]; rfl, by rw [HM.out]; exact OwnC.nil _, From.nil _ _ _, hb⟩

end Go.Proofs.Ytmlikchhkblohaa

