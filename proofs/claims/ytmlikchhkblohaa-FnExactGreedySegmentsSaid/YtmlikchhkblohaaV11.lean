import Derived.Test.YtmlikchhkblohaaV8
import Derived.Test.YtmlikchhkblohaaV9
namespace Go.Proofs.Ytmlikchhkblohaa
open Go Go.RowKit Go.Pan

set_option maxHeartbeats 4000000 in
set_option maxRecDepth 100000 in
theorem bestTurns_any (xs : List Int) (w : World) (hg : Hid (Go.Pan.Good xs)) :
    Calls Try.prog 111 #[tw xs, .int .i64 xs.length] w fun e w' => ∃ r, e = .returned (.tuple #[r, .int .i64 ((bestS xs).least : Int)]) ∧ OwnC c2 w' r (bestS xs).l ∧ From w.heap.size r ∧ Below w.heap.size w w' := by
  obtain ⟨i0, hi, hz0, hz1, hz2⟩ := info_parts infoSegment3
  have HI := Lib.hid hi
  have HZ0 := Lib.hid hz0
  have HZ1 := Lib.hid hz1
  have hl9 := hg.out.le9
  have hl1 := hg.out.1
  have HSB := Lib.hid (fun p (hp : p ∈ segsAll xs.length) => (segsAll_B hg.out.1 hg.out.le9).1 hp)
  have hL := segsAll_le hl9
  have hbx : Blk (w.alloc (.cells (twl xs).toArray 86)) w.heap.size 86 (twl xs) := Blk.new w _ (twl xs) _ rfl
  have hb0 := below_new w (.cells (twl xs).toArray 86)
  clear hi hz0 hz1 hz2
  go_enter Try.func111, Try.ntmps111
  go_wp2_with (first | (refine wpList_load_tower rfl _ rfl w.heap.size xs hl9 rfl hbx ?_))
  refine (breakPoints_any xs _ hg).mono ?_
  rintro e w1 ⟨r1, rfl, ho1, hf1, hb1⟩
  obtain ⟨a1, c1', rfl, hc1, _, _⟩ := ho1.shape
  have hbx1 := hbx.below hb1 hbx.lt
  have hB1 := hb0.trans (hb1.mono hb0.size)
  clear hbx hb0 hb1 ho1 hf1
  go_wp2_with fail
  refine (segmentsFor_any xs.length _ hl1 hl9).mono ?_
  rintro e w2 ⟨r2, rfl, ho2, hf2, hb2⟩
  obtain ⟨a2, c2', rfl, hc2, _, _⟩ := ho2.shape
  have HX2 := Lib.hid (hbx1.below hb2 hbx1.lt)
  have HO2 := Lib.hid ho2
  have HB2 := Lib.hid (hB1.trans (hb2.mono hB1.size))
  clear hbx1 hB1 hb2 hf2 ho2
  go_wp2
  go_loopw [6, 7, 8, 9, 10, 18] (fun o m _ _ _ i wr => ∃ k : Nat, k ≤ (segsAll xs.length).length ∧ i = .int .i64 k ∧ m = .int .i64 ((bestTo xs k).least : Int) ∧ OwnC c2 wr o (bestTo xs k).l ∧ From w2.heap.size o ∧ Below w2.heap.size w2 wr) (fun _ _ _ _ _ i _ => (segsAll xs.length).length - (intOf i).toNat)
  case atStart => exact ⟨0, by omega, by go_num, by simp [bestTo], OwnC.nil _, From.nil _ _ _, Below.refl _ _⟩
  case round =>
    obtain ⟨k, hk, rfl, rfl, ho, hf, hbr⟩ := hrel
    have hsr := HO2.out.below hbr (Nat.le_refl _)
    have hlx := HX2.out.lt
    by_cases hlt : k < (segsAll xs.length).length
    · obtain ⟨b, off, rfl, hbl, hra⟩ := OwnC.rowAt hsr hlt
      have hle := bestTo_least xs hg.out k hk
      obtain ⟨p, hp⟩ : ∃ p, (segsAll xs.length)[k] = p := ⟨_, rfl⟩
      have HI2 := Lib.hid (HSB.out p (by rw [← hp]; exact List.getElem_mem _))
      have HGD := Lib.hid (show (segsAll xs.length).getD k (0, 0) = p by rw [List.getD_eq_getElem?_getD, List.getElem?_eq_getElem hlt]; exact hp)
      have hsl := segT_length (xs := xs) HI2.out
      have HGT := Lib.hid (segT_good hg.out HI2.out)
      have HBL := Lib.hid (brkL_length (segT xs p))
      rw [hp] at hra
      have hra' : wr.rangeAt b (off + k * 2) [.int .i64 p.1, .int .i64 p.2] := hra
      have hszl : (Try.prog.info? 62).map (·.size) = some ([.int .i64 p.1, .int .i64 p.2] : List Value).length := infoSegment
      have hsz2 : (Try.prog.info? 62).map (·.size) = some 2 := infoSegment
      have hlr := hbr.size
      have hba := hbr.alloc hlr (.cells #[iv 0, iv 0] 62)
      have hz : Blk (wr.alloc (.cells #[iv 0, iv 0] 62)) wr.heap.size 62 [iv 0, iv 0] := Blk.new wr _ [iv 0, iv 0] _ rfl
      have hoa := ho.alloc (.cells #[iv 0, iv 0] 62)
      have HLT := Lib.hid (Own.lt ho)
      obtain ⟨M, hM⟩ : ∃ M, (bestTo xs k).least = M := ⟨_, rfl⟩
      have HM := Lib.hid hM
      obtain ⟨B, hB⟩ : ∃ B, (bestTo xs k).l = B := ⟨_, rfl⟩
      have HB := Lib.hid hB
      have hBl : B.length ≤ 1048576 := by have := bestTo_length xs k; rw [hB] at this; omega
      rw [hM] at hle ⊢
      rw [hB] at hoa
      clear hra hp ho hsr hbr hM hB
      go_wp2_with (first
        | (refine wpList_load_mid rfl 62 _ rfl b (off + k * 2) rfl [.int .i64 p.1, .int .i64 p.2] _ hra' Try.underlying62 rfl hszl ?_)
        | (refine wpList_storeS2 rfl 62 _ _ rfl wr.heap.size (.int .i64 p.1) (.int .i64 p.2) rfl rfl _ _ hz hsz2 rfl ⟨rfl, rfl⟩ ?_
           intro w3 hz3 hgr3
           have ho3 := hoa.grown hgr3 (by intro g hg e; have := HLT.out g hg; cases e; omega)
           have hB3 := hba.grown hgr3 hba.size (by intro j hj; cases hj; exact hlr)
           have hbx3 := HX2.out.below hB3 hlx
           clear hz hba hoa hgr3)
        | (refine wpList_load_tower rfl _ rfl w.heap.size xs hl9 rfl hbx3 ?_)
        | (refine wpList_loadS2 rfl 62 _ rfl wr.heap.size _ _ rfl _ hz3 Try.underlying62 rfl hsz2 ?_))
      refine (segmentTurned_any xs xs.length p _ hl9 HI2 (Lib.hid rfl)).mono ?_
      rintro e w4 ⟨rfl, hb4⟩
      have hz4 := hz3.below hb4 hz3.lt
      have ho4 := ho3.same hb4
      have hB4 := hB3.trans (hb4.mono hB3.size)
      have cb := breakPoints_any (segT xs p) w4 HGT
      rw [hsl] at cb
      have HSL := Lib.hid hsl
      clear hz3 ho3 hB3 hb4 hbx3 hsl
      go_wp2_with fail
      refine cb.mono ?_
      rintro e w5 ⟨r5, rfl, ho5, hf5, hb5⟩
      obtain ⟨a5, c5', rfl, hc5, _, _⟩ := ho5.shape
      have hz5 := hz4.below hb5 hz4.lt
      have hou4 := ho4.same hb5
      have hB5' := hB4.trans (hb5.mono hB4.size)
      have hs5 := hB5'.size
      have hou5 := hou4.alloc (.cells #[.int .i64 p.1, .int .i64 p.2] 62)
      have hB5 := hB5'.alloc hs5 (.cells #[.int .i64 p.1, .int .i64 p.2] 62)
      have hsrc := Src.pair (p := p) (Blk.new w5 62 [iv p.1, iv p.2] _ rfl)
      obtain ⟨m, hm⟩ : ∃ m, (brkL (segT xs p)).length = m := ⟨_, rfl⟩
      have HMM := Lib.hid hm
      have hm10 : m ≤ 10 := by have h1 := HBL.out; have h2 := HSL.out; omega
      rw [hm] at hc5 ⊢
      clear hz4 ho4 hB4 hb5 ho5 hf5 hm cb
      by_cases hk0 : k = 0
      · have hq : (((k : Nat) : Int) == 0) = true := by simp [hk0]
        have HS := Lib.hid (bestTo_A HGD.out (.inl hk0))
        clear hou4 hB5'
        go_wp2_with (first | (refine wpList_loadS2 rfl 62 _ rfl wr.heap.size _ _ rfl _ hz5 Try.underlying62 rfl hsz2 ?_) | (refine wpList_build_pair Try.underlying54 HI.out HZ0.out HZ1.out rfl _ rfl (.int .i64 p.1) (.int .i64 p.2) rfl ?_) | (at_builtin; refine wpList_appC segSl (by omega) (by omega) rfl _ _ rfl (.slice none 0 0) [] rfl (OwnC.nil _) w2.heap.size (From.nil _ _ _) (some ⟨w5.heap.size, 0, none⟩) 1 1 [p] rfl rfl hsrc w2 hB5 (by simp <;> omega) (by simp) (by simp) ?_; intro v7 w7 ho7 hf7 hb7 hg7))
        have HO7 := Lib.hid (show OwnC c2 w7 v7 (bestTo xs (k + 1)).l by rw [HS.out.1]; exact ho7)
        go_roundw
        case rel => exact ⟨k + 1, by omega, by go_num, by rw [HS.out.2, HMM.out], HO7.out, hf7, hb7⟩
        case measure => simp [intOf] <;> omega
      · have hq : (((k : Nat) : Int) == 0) = false := by simp [hk0]
        rcases Nat.lt_trichotomy m M with hlt2 | heq | hgt
        · have HS := Lib.hid (bestTo_A HGD.out (.inr (show (brkL (segT xs p)).length < (bestTo xs k).least by rw [HMM.out, HM.out]; exact hlt2)))
          have hlt3 : (m : Int) < M := by omega
          clear hou4 hB5'
          go_wp2_with (first | (refine wpList_loadS2 rfl 62 _ rfl wr.heap.size _ _ rfl _ hz5 Try.underlying62 rfl hsz2 ?_) | (refine wpList_build_pair Try.underlying54 HI.out HZ0.out HZ1.out rfl _ rfl (.int .i64 p.1) (.int .i64 p.2) rfl ?_) | (at_builtin; refine wpList_appC segSl (by omega) (by omega) rfl _ _ rfl (.slice none 0 0) [] rfl (OwnC.nil _) w2.heap.size (From.nil _ _ _) (some ⟨w5.heap.size, 0, none⟩) 1 1 [p] rfl rfl hsrc w2 hB5 (by simp <;> omega) (by simp) (by simp) ?_; intro v7 w7 ho7 hf7 hb7 hg7))
          have HO7 := Lib.hid (show OwnC c2 w7 v7 (bestTo xs (k + 1)).l by rw [HS.out.1]; exact ho7)
          go_roundw
          case rel => exact ⟨k + 1, by omega, by go_num, by rw [HS.out.2, HMM.out], HO7.out, hf7, hb7⟩
          case measure => simp [intOf] <;> omega
        · have HS := Lib.hid (bestTo_B HGD.out hk0 (show (brkL (segT xs p)).length = (bestTo xs k).least by rw [HMM.out, HM.out]; exact heq))
          subst heq
          clear hou4 hB5'
          go_wp2_with (first | (refine wpList_loadS2 rfl 62 _ rfl wr.heap.size _ _ rfl _ hz5 Try.underlying62 rfl hsz2 ?_) | (refine wpList_build_pair Try.underlying54 HI.out HZ0.out HZ1.out rfl _ rfl (.int .i64 p.1) (.int .i64 p.2) rfl ?_) | (at_builtin; refine wpList_appC segSl (by omega) (by omega) rfl _ _ rfl _ B rfl hou5 w2.heap.size hf (some ⟨w5.heap.size, 0, none⟩) 1 1 [p] rfl rfl hsrc w2 hB5 (by simp <;> omega) hBl (by simp) ?_; intro v7 w7 ho7 hf7 hb7 hg7))
          have HO7 := Lib.hid (show OwnC c2 w7 v7 (bestTo xs (k + 1)).l by rw [HS.out.1, HB.out]; exact ho7)
          go_roundw
          case rel => exact ⟨k + 1, by omega, by go_num, by rw [HS.out.2, HM.out], HO7.out, hf7, hb7⟩
          case measure => simp [intOf] <;> omega
        · have HS := Lib.hid (bestTo_C HGD.out hk0 (show (bestTo xs k).least < (brkL (segT xs p)).length by rw [HMM.out, HM.out]; exact hgt))
          have hgt3 : (M : Int) < m := by omega
          clear hou5 hB5 hsrc
          go_wp2
          go_roundw
          case rel => exact ⟨k + 1, by omega, by go_num, by rw [HS.out, HM.out], by rw [HS.out, HB.out]; exact hou4, hf, hB5'⟩
          case measure => simp [intOf] <;> omega
    · obtain rfl : k = (segsAll xs.length).length := by omega
      have HE := Lib.hid (show OwnC c2 wr u6 (bestS xs).l from ho)
      have hB := HB2.out.trans (hbr.mono HB2.out.size)
      clear ho hsr
      go_wp2_with fail
      refine (ClipS_any _ _ _ HE.out).mono ?_
      rintro e w6 ⟨r, rfl, hor, hob, rfl⟩
      have hfr : From w.heap.size r := fun g hg => Nat.le_trans HB2.out.size (hf g (by rw [← hob]; exact hg))
      clear hob
      go_wp2
      go_ret2
      exact ⟨_, rfl, hor, hfr, hB⟩

set_option maxRecDepth 100000 in
theorem BestTurns_any (v : Value) (xs : List Int) (w : World) (hv : OwnI w v xs) (hn : xs.length ≤ 1048576) :
    Calls Try.prog 65 #[v] w fun e w' => ∃ r, e = .returned (.tuple #[r, .int .i64 (mBestLeft xs), .bool (goodB xs)]) ∧ OwnC c2 w' r (mBestTurns xs) ∧ From w.heap.size r ∧ Below w.heap.size w w' := by
  obtain ⟨ad, cap, rfl, hc, _, _⟩ := hv.shape
  have cg := IsStack_any _ _ _ hv hn
  cases hg : goodB xs with
  | true =>
    have HM := Lib.hid (show mBestTurns xs = (bestS xs).l from if_pos hg)
    have HL := Lib.hid (show mBestLeft xs = ((bestS xs).least : Int) from if_pos hg)
    have HG := Lib.hid (goodB_iff.1 hg)
    have hl9 := HG.out.le9
    rw [hg] at cg
    clear hg
    go_enter Try.func65, Try.ntmps65
    go_wp2_with fail
    refine (cg).mono ?_
    rintro e w1 ⟨rfl, hb⟩
    go_wp2_with fail
    refine (towerOf_any _ _ _ (hv.same hb) hl9).mono ?_
    rintro e w2 ⟨rfl, hb2⟩
    go_wp2_with fail
    refine (bestTurns_any xs _ HG).mono ?_
    rintro e w3 ⟨r, rfl, ho, hf, hb3⟩
    have hB2 := hb.trans (hb2.mono hb.size)
    go_wp2
    go_ret3
    exact ⟨_, by rw [HL.out]; rfl, by rw [HM.out]; exact ho, hf.mono hB2.size, hB2.trans (hb3.mono hB2.size)⟩
  | false =>
    have HM := Lib.hid (show mBestTurns xs = [] from if_neg (by rw [hg]; exact Bool.false_ne_true))
    have HL := Lib.hid (show mBestLeft xs = 0 from if_neg (by rw [hg]; exact Bool.false_ne_true))
    rw [hg] at cg
    clear hg
    go_enter Try.func65, Try.ntmps65
    go_wp2_with fail
    refine (cg).mono ?_
    rintro e w1 ⟨rfl, hb⟩
    go_wp2
    go_ret3
    exact ⟨_, by rw [HL.out]; rfl, by rw [HM.out]; exact OwnC.nil _, From.nil _ _ _, hb⟩

end Go.Proofs.Ytmlikchhkblohaa

