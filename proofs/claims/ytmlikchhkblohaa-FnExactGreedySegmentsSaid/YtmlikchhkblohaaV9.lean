import Derived.Test.YtmlikchhkblohaaV14
namespace Go.Proofs.Ytmlikchhkblohaa
open Go Go.RowKit Go.Pan

theorem bestTo_A {xs : List Int} {k : Nat} {p : Int × Int} (hp : (segsAll xs.length).getD k (0, 0) = p) (h : k = 0 ∨ (brkL (segT xs p)).length < (bestTo xs k).least) :
    (bestTo xs (k + 1)).l = [p] ∧ (bestTo xs (k + 1)).least = (brkL (segT xs p)).length := by
  unfold bestTo bestStep
  rw [hp]
  simp only
  rw [if_pos (by rcases h with rfl | h; exact .inl rfl; exact .inr h)]
  exact ⟨rfl, rfl⟩
theorem bestTo_B {xs : List Int} {k : Nat} {p : Int × Int} (hp : (segsAll xs.length).getD k (0, 0) = p) (h0 : k ≠ 0) (h : (brkL (segT xs p)).length = (bestTo xs k).least) :
    (bestTo xs (k + 1)).l = (bestTo xs k).l ++ [p] ∧ (bestTo xs (k + 1)).least = (bestTo xs k).least := by
  rw [show bestTo xs (k + 1) = bestStep xs (bestTo xs k) ((segsAll xs.length).getD k (0, 0)) (k == 0) from rfl]
  unfold bestStep
  rw [hp]
  simp only
  rw [if_neg (by simp [h0, h]), if_pos h]
  exact ⟨rfl, h⟩
theorem bestTo_C {xs : List Int} {k : Nat} {p : Int × Int} (hp : (segsAll xs.length).getD k (0, 0) = p) (h0 : k ≠ 0) (h : (bestTo xs k).least < (brkL (segT xs p)).length) :
    bestTo xs (k + 1) = bestTo xs k := by
  rw [show bestTo xs (k + 1) = bestStep xs (bestTo xs k) ((segsAll xs.length).getD k (0, 0)) (k == 0) from rfl]
  unfold bestStep
  rw [hp]
  simp only
  rw [if_neg (by simp [h0]; omega), if_neg (by omega)]

set_option maxHeartbeats 4000000 in
set_option maxRecDepth 100000 in
theorem sgBest_any (v : Value) (xs : List Int) (w : World) (hv : OwnI w v xs) (hg : Hid (Go.Pan.Good xs)) :
    Calls Try.prog 110 #[v] w fun e w' => ∃ r, e = .returned (.tuple #[r, .int .i64 ((bestS xs).least : Int)]) ∧ OwnC c2 w' r (bestS xs).l ∧ From w.heap.size r ∧ Below w.heap.size w w' := by
  obtain ⟨ad, cap, rfl, hc, _, _⟩ := hv.shape
  obtain ⟨i0, hi, hz0, hz1, hz2⟩ := info_parts infoSegment3
  have HI := Lib.hid hi
  have HZ0 := Lib.hid hz0
  have HZ1 := Lib.hid hz1
  have hl9 := hg.out.le9
  have hl1 := hg.out.1
  have hln : xs.length ≤ 1048576 := by omega
  have HSB := Lib.hid (fun p (hp : p ∈ segsAll xs.length) => (segsAll_B hg.out.1 hg.out.le9).1 hp)
  have hL := segsAll_le hl9
  clear hi hz0 hz1 hz2
  go_enter Try.func110, Try.ntmps110
  go_wp2_with fail
  refine (sgBreaks_any _ xs _ hv hg).mono ?_
  rintro e w1 ⟨r1, rfl, ho1, hf1, hb1⟩
  obtain ⟨a1, c1', rfl, hc1, _, _⟩ := ho1.shape
  have hv1 := hv.same hb1
  go_wp2_with fail
  refine (sgAll_any xs.length _ hl1 hl9).mono ?_
  rintro e w2 ⟨r2, rfl, ho2, hf2, hb2⟩
  obtain ⟨a2, c2', rfl, hc2, _, _⟩ := ho2.shape
  have HV2 := Lib.hid (hv1.same hb2)
  have HO2 := Lib.hid ho2
  have HB2 := Lib.hid (hb1.trans (hb2.mono hb1.size))
  clear hv hv1 ho1 hf1 hb1 hb2 hf2 ho2
  go_wp2
  go_loopw [4, 5, 6, 17] (fun o m f i wr => ∃ k : Nat, k ≤ (segsAll xs.length).length ∧ i = .int .i64 k ∧ m = .int .i64 ((bestTo xs k).least : Int) ∧ f = .bool (decide (k = 0)) ∧ OwnC c2 wr o (bestTo xs k).l ∧ From w2.heap.size o ∧ Below w2.heap.size w2 wr) (fun _ _ _ i _ => (segsAll xs.length).length - (intOf i).toNat)
  case atStart => exact ⟨0, by omega, by go_num, by simp [bestTo], by simp, OwnC.nil _, From.nil _ _ _, Below.refl _ _⟩
  case round =>
    obtain ⟨k, hk, rfl, rfl, rfl, ho, hf, hbr⟩ := hrel
    have hvr := HV2.out.below hbr (Nat.le_refl _)
    have hsr := HO2.out.below hbr (Nat.le_refl _)
    by_cases hlt : k < (segsAll xs.length).length
    · obtain ⟨b, off, rfl, hbl, hra⟩ := OwnC.rowAt hsr hlt
      have hle := bestTo_least xs hg.out k hk
      obtain ⟨p, hp⟩ : ∃ p, (segsAll xs.length)[k] = p := ⟨_, rfl⟩
      have HI2 := Lib.hid (HSB.out p (by rw [← hp]; exact List.getElem_mem _))
      have HGD := Lib.hid (show (segsAll xs.length).getD k (0, 0) = p by rw [List.getD_eq_getElem?_getD, List.getElem?_eq_getElem hlt]; exact hp)
      have HSL := Lib.hid (segT_length (xs := xs) HI2.out)
      have HGT := Lib.hid (segT_good hg.out HI2.out)
      have HBL := Lib.hid (brkL_length (segT xs p))
      rw [hp] at hra
      have hra' : wr.rangeAt b (off + k * 2) [.int .i64 p.1, .int .i64 p.2] := hra
      have hsz2 : (Try.prog.info? 62).map (·.size) = some ([.int .i64 p.1, .int .i64 p.2] : List Value).length := infoSegment
      have hlr := hbr.size
      have hba := hbr.alloc hlr (.cells #[.int .i64 p.1, .int .i64 p.2] 62)
      have hz : Blk (wr.alloc (.cells [.int .i64 p.1, .int .i64 p.2].toArray 62)) wr.heap.size 62 [.int .i64 p.1, .int .i64 p.2] := Blk.new wr _ _ _ rfl
      have hoa := ho.alloc (.cells #[.int .i64 p.1, .int .i64 p.2] 62)
      have hva := hvr.alloc (.cells #[.int .i64 p.1, .int .i64 p.2] 62)
      obtain ⟨M, hM⟩ : ∃ M, (bestTo xs k).least = M := ⟨_, rfl⟩
      have HM := Lib.hid hM
      obtain ⟨B, hB⟩ : ∃ B, (bestTo xs k).l = B := ⟨_, rfl⟩
      have HB := Lib.hid hB
      have hBl : B.length ≤ 1048576 := by have := bestTo_length xs k; rw [hB] at this; omega
      obtain ⟨F, hF⟩ : ∃ F, decide (k = 0) = F := ⟨_, rfl⟩
      have HF := Lib.hid hF
      rw [hM] at hle ⊢
      rw [hB] at hoa
      rw [hF]
      clear hra hp ho hsr hvr hbr hM hB hF
      go_wp2_with (first | (refine wpList_load_mid rfl 62 _ rfl b (off + k * 2) rfl [.int .i64 p.1, .int .i64 p.2] _ hra' Try.underlying62 rfl hsz2 ?_))
      refine (sgTurn_any _ xs xs.length p _ hva hln HI2 (Lib.hid rfl)).mono ?_
      rintro e w3 ⟨r3, rfl, ho3, hf3, hb3⟩
      have hz3 := hz.below hb3 (by simp)
      have hoa3 := hoa.same hb3
      have hB3 := hba.trans (hb3.mono hba.size)
      clear hz hoa hba hb3 hva
      go_wp2_with fail
      refine (sgBreaks_any _ (segT xs p) _ ho3 HGT).mono ?_
      rintro e w4 ⟨r4, rfl, ho4, hf4, hb4⟩
      obtain ⟨a4, c4', rfl, hc4, _, _⟩ := ho4.shape
      have hz4 := hz3.below hb4 hz3.lt
      have k0 : w4.cell? ⟨wr.heap.size, 0, none⟩ = some (.int .i64 p.1) := hz4.cell 0
      have k1 : w4.cell? ⟨wr.heap.size, 1, none⟩ = some (.int .i64 p.2) := hz4.cell 1
      have hoa4 := hoa3.same hb4
      have hB4 := hB3.trans (hb4.mono hB3.size)
      have hs4 := hB4.size
      have hou5 := hoa4.alloc (.cells #[.int .i64 p.1, .int .i64 p.2] 62)
      have hB5 := hB4.alloc hs4 (.cells #[.int .i64 p.1, .int .i64 p.2] 62)
      have hsrc := Src.pair (p := p) (Blk.new w4 62 [iv p.1, iv p.2] _ rfl)
      obtain ⟨m, hm⟩ : ∃ m, (brkL (segT xs p)).length = m := ⟨_, rfl⟩
      have HMM := Lib.hid hm
      have hm10 : m ≤ 10 := by have h1 := HBL.out; have h2 := HSL.out; omega
      rw [hm] at hc4 ⊢
      clear hz3 hz4 hoa3 hB3 hb4 ho3 hf3 ho4 hf4 hm
      cases F with
      | true =>
        have HS := Lib.hid (bestTo_A HGD.out (.inl (of_decide_eq_true HF.out)))
        go_wp2_with (first | (refine wpList_build_pair Try.underlying54 HI.out HZ0.out HZ1.out rfl _ rfl (.int .i64 p.1) (.int .i64 p.2) rfl ?_) | (at_builtin; refine wpList_appC segSl (by omega) (by omega) rfl _ _ rfl (.slice none 0 0) [] rfl (OwnC.nil _) w2.heap.size (From.nil _ _ _) (some ⟨w4.heap.size, 0, none⟩) 1 1 [p] rfl rfl hsrc w2 hB5 (by simp; omega) (by simp) (by simp) ?_; intro v7 w7 ho7 hf7 hb7 hg7))
        have HO7 := Lib.hid (show OwnC c2 w7 v7 (bestTo xs (k + 1)).l by rw [HS.out.1]; exact ho7)
        go_roundw
        case rel => exact ⟨k + 1, by omega, by go_num, by rw [HS.out.2, HMM.out], by simp, HO7.out, hf7, hb7⟩
        case measure => simp [intOf] <;> omega
      | false =>
        have hk0 : k ≠ 0 := of_decide_eq_false HF.out
        rcases Nat.lt_trichotomy m M with hlt2 | heq | hgt
        · have HS := Lib.hid (bestTo_A HGD.out (.inr (show (brkL (segT xs p)).length < (bestTo xs k).least by rw [HMM.out, HM.out]; exact hlt2)))
          have hlt3 : (m : Int) < M := by omega
          go_wp2_with (first | (refine wpList_build_pair Try.underlying54 HI.out HZ0.out HZ1.out rfl _ rfl (.int .i64 p.1) (.int .i64 p.2) rfl ?_) | (at_builtin; refine wpList_appC segSl (by omega) (by omega) rfl _ _ rfl (.slice none 0 0) [] rfl (OwnC.nil _) w2.heap.size (From.nil _ _ _) (some ⟨w4.heap.size, 0, none⟩) 1 1 [p] rfl rfl hsrc w2 hB5 (by simp; omega) (by simp) (by simp) ?_; intro v7 w7 ho7 hf7 hb7 hg7))
          have HO7 := Lib.hid (show OwnC c2 w7 v7 (bestTo xs (k + 1)).l by rw [HS.out.1]; exact ho7)
          go_roundw
          case rel => exact ⟨k + 1, by omega, by go_num, by rw [HS.out.2, HMM.out], by simp, HO7.out, hf7, hb7⟩
          case measure => simp [intOf] <;> omega
        · have HS := Lib.hid (bestTo_B HGD.out hk0 (show (brkL (segT xs p)).length = (bestTo xs k).least by rw [HMM.out, HM.out]; exact heq))
          subst heq
          go_wp2_with (first | (refine wpList_build_pair Try.underlying54 HI.out HZ0.out HZ1.out rfl _ rfl (.int .i64 p.1) (.int .i64 p.2) rfl ?_) | (at_builtin; refine wpList_appC segSl (by omega) (by omega) rfl _ _ rfl _ B rfl hou5 w2.heap.size hf (some ⟨w4.heap.size, 0, none⟩) 1 1 [p] rfl rfl hsrc w2 hB5 (by simp; omega) hBl (by simp) ?_; intro v7 w7 ho7 hf7 hb7 hg7))
          have HO7 := Lib.hid (show OwnC c2 w7 v7 (bestTo xs (k + 1)).l by rw [HS.out.1, HB.out]; exact ho7)
          go_roundw
          case rel => exact ⟨k + 1, by omega, by go_num, by rw [HS.out.2, HM.out], by simp, HO7.out, hf7, hb7⟩
          case measure => simp [intOf] <;> omega
        · have HS := Lib.hid (bestTo_C HGD.out hk0 (show (bestTo xs k).least < (brkL (segT xs p)).length by rw [HMM.out, HM.out]; exact hgt))
          have hgt3 : (M : Int) < m := by omega
          clear hou5 hB5 hsrc
          go_wp2
          go_roundw
          case rel => exact ⟨k + 1, by omega, by go_num, by rw [HS.out, HM.out], by simp [hk0], by rw [HS.out, HB.out]; exact hoa4, hf, hB4⟩
          case measure => simp [intOf] <;> omega
    · obtain rfl : k = (segsAll xs.length).length := by omega
      have HE := Lib.hid (show OwnC c2 wr u4 (bestS xs).l from ho)
      have hf' : From w.heap.size u4 := hf.mono HB2.out.size
      have hB := HB2.out.trans (hbr.mono HB2.out.size)
      clear ho hsr hvr
      go_wp2
      go_ret2
      exact ⟨_, rfl, HE.out, hf', hB⟩

set_option maxRecDepth 100000 in
theorem sBestTurns_any (v : Value) (xs : List Int) (w : World) (hv : OwnI w v xs) (hn : xs.length ≤ 1048576) :
    Calls Try.prog 64 #[v] w fun e w' => ∃ r, e = .returned (.tuple #[r, .int .i64 (mBestLeft xs), .bool (goodB xs)]) ∧ OwnC c2 w' r (mBestTurns xs) ∧ From w.heap.size r ∧ Below w.heap.size w w' := by
  have cg := stGood_any _ _ _ hv hn
  cases hg : goodB xs with
  | true =>
    have HM := Lib.hid (show mBestTurns xs = (bestS xs).l from if_pos hg)
    have HL := Lib.hid (show mBestLeft xs = ((bestS xs).least : Int) from if_pos hg)
    have HG := Lib.hid (goodB_iff.1 hg)
    rw [hg] at cg
    clear hg
    go_enter Try.func64, Try.ntmps64
    go_wp2_with fail
    refine (cg).mono ?_
    rintro e w1 ⟨rfl, hb⟩
    go_wp2_with fail
    refine (sgBest_any _ xs _ (hv.same hb) HG).mono ?_
    rintro e w2 ⟨r, rfl, ho, hf, hb2⟩
    go_wp2
    go_ret3
    exact ⟨_, by rw [HL.out]; rfl, by rw [HM.out]; exact ho, hf.mono hb.size, hb.trans (hb2.mono hb.size)⟩
  | false =>
    have HM := Lib.hid (show mBestTurns xs = [] from if_neg (by rw [hg]; exact Bool.false_ne_true))
    have HL := Lib.hid (show mBestLeft xs = 0 from if_neg (by rw [hg]; exact Bool.false_ne_true))
    rw [hg] at cg
    clear hg
    go_enter Try.func64, Try.ntmps64
    go_wp2_with fail
    refine (cg).mono ?_
    rintro e w1 ⟨rfl, hb⟩
    go_wp2
    go_ret3
    exact ⟨_, by rw [HL.out]; rfl, by rw [HM.out]; exact OwnC.nil _, From.nil _ _ _, hb⟩

end Go.Proofs.Ytmlikchhkblohaa

