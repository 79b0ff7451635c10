import Derived.Test.YtdkidfilnbglgaaWN
namespace Go.Proofs.Ytdkidfilnbglgaa
open Go Go.RowKit Go.Pan

set_option maxHeartbeats 4000000 in
set_option maxRecDepth 100000 in
theorem sMovesToSort_any (v : Value) (xs : List Int) (w : World) (hv : OwnI w v xs) (hn : xs.length ≤ 1048576) :
    Calls Try.prog 46 #[v] w fun e w' => ∃ r, e = .returned (.tuple #[r, .bool (goodB xs)]) ∧ OwnC c2 w' r (mMovesToSort xs) ∧ From w.heap.size r ∧ Below w.heap.size w w' := by
  have cg := stGood_any v xs w hv hn
  obtain ⟨ad, cap, rfl, hcc, _, _⟩ := hv.shape
  cases hg : goodB xs with
  | true =>
    have hG := goodB_iff.1 hg
    have h9 := hG.le9
    have hd := deepG hG
    have HM := Lib.hid (show mMovesToSort xs = (mvTo xs xs.length).2 from if_pos hg)
    have hRl := riseL_length hd
    have hDl := hd.le
    have HG := Lib.hid hG
    rw [hg] at cg
    obtain ⟨i0, hi0, hz0, hz1, hz2⟩ := info_parts infoInsertion3
    have HI := Lib.hid hi0
    have HZ0 := Lib.hid hz0
    have HZ1 := Lib.hid hz1
    obtain ⟨R, hRR⟩ : ∃ R, riseL xs = R := ⟨_, rfl⟩
    have HRR := Lib.hid hRR
    rw [hRR] at hRl
    obtain ⟨n, hn'⟩ : ∃ n, xs.length = n := ⟨_, rfl⟩
    have HNN := Lib.hid hn'
    have hV := Lib.hid (show Own w 1 (.slice ad n cap) n (xs.map iv) by have := OwnI.ofLen hv hn'; rw [hn'] at this; exact this)
    rw [hn'] at cg h9 hDl hcc HM ⊢
    have hRl9 : R.length ≤ 9 := by omega
    clear hg hG hd hRl hDl hi0 hz0 hz1 hz2 hRR hn' hn hv
    go_enter Try.func46, Try.ntmps46
    go_wp2_with fail
    refine (cg).mono ?_
    rintro e w1 ⟨rfl, hb1⟩
    have hv1 : OwnI w1 (.slice ad n cap) xs := by unfold OwnI; rw [HNN.out]; exact Own.same hV.out hb1
    have cR := inRising_any _ xs w1 hv1 HG
    rw [HRR.out] at cR
    clear cg
    go_wp2_with fail
    refine cR.mono ?_
    rintro e w2 ⟨r2, rfl, ho2, hf2, hb2⟩
    obtain ⟨a1, c1, rfl, hc1, _, _⟩ := ho2.shape
    have hB2 := hb1.trans (hb2.mono hb1.size)
    have hv2 : OwnI w2 (.slice ad n cap) xs := hv1.same hb2
    have HLT := Lib.hid ho2.lt
    have hs2 := hB2.size
    have hv2' : Own w2 1 (.slice ad n cap) n ((mvTo xs 0).1.map iv) := OwnI.ofLen hv2 HNN.out
    clear cR hv1 hb1 hb2 hf2 hv2
    go_wp2
    go_loopw [0, 5, 6] (fun sv o i wr => ∃ (k : Nat) (sa : Option Addr) (sc : Nat), k ≤ n ∧ i = .int .i64 ((k : Int) + 1) ∧ sv = .slice sa n sc ∧ Own wr 1 (.slice sa n sc) n ((mvTo xs k).1.map iv) ∧ OwnC c2 wr o (mvTo xs k).2 ∧ From w2.heap.size o ∧ OwnI wr (.slice a1 R.length c1) R ∧ Below w2.heap.size w2 wr) (fun _ _ i _ => n + 1 - (intOf i).toNat)
    case atStart => exact ⟨0, ad, cap, Nat.zero_le _, by go_num, rfl, hv2', OwnC.nil _, From.nil _ _ _, ho2, Below.refl _ _⟩
    case round =>
      obtain ⟨k, sa, sc, hk, rfl, rfl, hsv, hom, hfm, hoR, hbr⟩ := hrel
      clear hv2' ho2
      by_cases hlt : k < n
      · have hle : (k : Int) + 1 ≤ n := by omega
        have hpm := mvTo_perm HG.out k (by rw [HNN.out]; omega)
        have HGS := Lib.hid (show Go.Pan.Good (mvTo xs k).1 from HG.out.perm hpm.1.symm)
        have HSL := Lib.hid (show (mvTo xs k).1.length = n by rw [hpm.1.length_eq, HNN.out])
        have hml := hpm.2
        have hsr := hbr.size
        have cC := l1Has_any _ R ((k : Int) + 1) wr hoR (by omega)
        have HY := Lib.hid (fun (h : (k : Int) + 1 ∈ R) => show mvTo xs (k + 1) = mvTo xs k from mvTo_yes (by rw [HRR.out]; exact h))
        have HN := Lib.hid (fun (h : ¬ (k : Int) + 1 ∈ R) => mvTo_no (xs := xs) (k := k) (by rw [HRR.out]; exact h))
        obtain ⟨s, hs⟩ : ∃ s, (mvTo xs k).1 = s := ⟨_, rfl⟩
        obtain ⟨l, hl⟩ : ∃ l, (mvTo xs k).2 = l := ⟨_, rfl⟩
        rw [hs] at hsv HGS HSL HN
        rw [hl] at hom hml HN
        have HSS := Lib.hid hs
        have HLL := Lib.hid hl
        clear hpm hs hl
        by_cases hin : (k : Int) + 1 ∈ R
        · have HS := Lib.hid (HY.out hin)
          rw [show decide ((k : Int) + 1 ∈ R) = true from decide_eq_true hin] at cC
          clear hin HN HY
          go_wp2_with fail
          refine cC.mono ?_
          rintro e w5 ⟨rfl, hb5⟩
          have hsv5 := hsv.same hb5
          have hom5 : OwnC c2 w5 u5 l := hom.same hb5
          have hoR5 := hoR.same hb5
          have hB5 := hbr.trans (hb5.mono hsr)
          clear hsv hom hoR hbr hb5 cC
          go_wp2
          go_roundw
          case rel => exact ⟨k + 1, sa, sc, by omega, by go_num, rfl, by rw [HS.out, HSS.out]; exact hsv5, by rw [HS.out, HLL.out]; exact hom5, hfm, hoR5, hB5⟩
          case measure => simp [intOf] <;> omega
        · have HS := Lib.hid (HN.out hin)
          rw [show decide ((k : Int) + 1 ∈ R) = false from decide_eq_false hin] at cC
          have hsl9 : s.length ≤ 9 := by rw [HSL.out]; exact h9
          have HX := Lib.hid (show 1 ≤ (k : Int) + 1 ∧ (k : Int) + 1 ≤ s.length by rw [HSL.out]; omega)
          have HB := Lib.hid (mvOf_B HGS.out HX.out.1 HX.out.2)
          have hM1 : (mvOf s ((k : Int) + 1)).1 = placeL s ((k : Int) + 1) := rfl
          have hM2 : k = 0 → (mvOf s ((k : Int) + 1)).2 = 1 := fun h => by subst h; exact mvOf_one HGS.out
          have hM3 : 0 < k → (mvOf s ((k : Int) + 1)).2 = if placeL s ((k : Int) + 1) < placeL s (k : Int) + 1 then placeL s (k : Int) + 1 - 1 else placeL s (k : Int) + 1 := fun h => by
            have := mvOf_more HGS.out (x := (k : Int) + 1) (by omega) HX.out.2
            rw [show (k : Int) + 1 - 1 = (k : Int) by omega] at this
            exact this
          have hpb : ∀ y, 0 ≤ placeL s y ∧ placeL s y ≤ 9 := fun y => by
            by_cases h : y ∈ s
            · have := placeL_bd h; omega
            · unfold placeL; rw [if_neg h]; omega
          have hp1 := hpb ((k : Int) + 1)
          have hp2 := hpb (k : Int)
          obtain ⟨m, hm⟩ : ∃ m, mvOf s ((k : Int) + 1) = m := ⟨_, rfl⟩
          rw [hm] at HS HB hM1 hM2 hM3
          obtain ⟨F, hF⟩ : ∃ F, placeL s ((k : Int) + 1) = F := ⟨_, rfl⟩
          obtain ⟨T, hT⟩ : ∃ T, placeL s (k : Int) = T := ⟨_, rfl⟩
          rw [hF] at hM1 hM3 hp1
          rw [hT] at hM3 hp2
          have HF := Lib.hid hF
          have HT := Lib.hid hT
          have HM1 := Lib.hid hM1
          have HM2 := Lib.hid hM2
          have HM3 := Lib.hid hM3
          have hF0 := hp1.1
          have hF9 := hp1.2
          have hT0 := hp2.1
          have hT9 := hp2.2
          clear hin HN HY hm hF hT hM1 hM2 hM3 hp1 hp2 hpb
          have hs1 : s.length ≤ 1048576 := by omega
          go_wp2_with fail
          refine cC.mono ?_
          rintro e w5 ⟨rfl, hb5⟩
          have hsv5 := hsv.same hb5
          have hom5 : OwnC c2 w5 u5 l := hom.same hb5
          have hoR5 := hoR.same hb5
          have hB5 := hbr.trans (hb5.mono hsr)
          have HOS := Lib.hid (show ∀ w', Below w5.heap.size w5 w' → OwnI w' (.slice sa n sc) s from fun w' hb => by
            unfold OwnI; rw [HSL.out]; exact hsv5.same hb)
          clear hsv hom hoR hbr hb5 cC
          have cP := stPlace_any _ s ((k : Int) + 1) w5 (HOS.out _ (Below.refl _ _)) hs1
          rw [HF.out] at cP
          go_wp2_with fail
          refine cP.mono ?_
          rintro e w6 ⟨rfl, hb6⟩
          clear cP
          go_upto_if 28 with fail
          go_cut [8] (fun s8 wx => s8 = .int .i64 m.2 ∧ Below w5.heap.size w5 wx)
          case first =>
            by_cases hk0 : k = 0
            · have HM22 := Lib.hid (HM2.out hk0)
              have hdd : decide (0 < k) = false := decide_eq_false (by omega)
              subst hk0
              go_wp2
              go_meet
              exact ⟨by rw [HM22.out], hb6⟩
            · have hkp : decide (0 < k) = true := decide_eq_true (by omega)
              have hkp' : (0 : Int) < k := by omega
              have hM3 := HM3.out (by omega)
              have cP := stPlace_any _ s (k : Int) w6 (HOS.out _ hb6) hs1
              rw [HT.out] at cP
              go_wp2_with fail
              refine cP.mono ?_
              rintro e w7 ⟨rfl, hb7⟩
              clear cP
              have hb67 := hb6.trans (hb7.mono hb6.size)
              by_cases hft : F < T + 1
              · rw [if_pos hft] at hM3
                have HM4 := Lib.hid hM3
                clear hM3
                go_wp2
                go_meet
                exact ⟨by rw [HM4.out]; go_num, hb67⟩
              · rw [if_neg hft] at hM3
                have HM4 := Lib.hid hM3
                clear hM3
                go_wp2
                go_meet
                exact ⟨by rw [HM4.out], hb67⟩
          case rest =>
            obtain ⟨hto, hb7⟩ := hcut
            subst hto
            have hos7 := HOS.out _ hb7
            have hom7 : OwnC c2 wc u5 l := hom5.same hb7
            have hoR7 := hoR5.same hb7
            have hB7 := hB5.trans (hb7.mono hB5.size)
            have hzM : Blk (wc.alloc (.cells #[.int .i64 0, .int .i64 0] 28)) wc.heap.size 28 [.int .i64 0, .int .i64 0] := Blk.new wc _ [.int .i64 0, .int .i64 0] _ rfl
            have hB70 := hB7.alloc hB7.size (.cells #[.int .i64 0, .int .i64 0] 28)
            have hos70 : OwnI _ (.slice sa n sc) s := Own.alloc hos7 (.cells #[.int .i64 0, .int .i64 0] 28)
            have hom70 : OwnC c2 _ u5 l := Own.alloc hom7 (.cells #[.int .i64 0, .int .i64 0] 28)
            have hoR70 : OwnI _ (.slice a1 R.length c1) R := Own.alloc hoR7 (.cells #[.int .i64 0, .int .i64 0] 28)
            have hls := Own.lt hos7
            have hlm := Own.lt hom7
            have hlr := Own.lt hoR7
            have hw7 := hB7.size
            go_upto_region 15 with (first | (refine wpList_storeS2 rfl 28 _ _ rfl wc.heap.size (.int .i64 F) (.int .i64 m.2) rfl rfl 28 _ hzM infoInsertion rfl ⟨rfl, rfl⟩ ?_; intro w8 hM8 hg8))
            rw [← HM1.out] at hM8 ⊢
            have hos8 : OwnI w8 (.slice sa n sc) s := Own.grown hos70 hg8 (fun g hg e => by have := hls g hg; cases e; omega)
            have hom8 : OwnC c2 w8 u5 l := Own.grown hom70 hg8 (fun g hg e => by have := hlm g hg; cases e; omega)
            have hoR8 : OwnI w8 (.slice a1 R.length c1) R := Own.grown hoR70 hg8 (fun g hg e => by have := hlr g hg; cases e; omega)
            have hB8 := hB70.grown hg8 hB70.size (fun g e => by cases e; exact hw7)
            have hmb8 : wc.heap.size < w8.heap.size := hM8.lt
            obtain ⟨mb, hmb⟩ : ∃ x, wc.heap.size = x := ⟨_, rfl⟩
            rw [hmb] at hM8 hls hlm hlr hmb8 hw7 ⊢
            clear hzM hB70 hos70 hom70 hoR70 hg8 hos7 hom7 hoR7 hB7 hb7 hmb hb6 hom5 hsv5 hoR5 hB5
            have HM8 := Lib.hid hM8
            go_wp2_with (first | (refine wpList_loadS2 rfl 28 _ rfl mb (.int .i64 m.1) (.int .i64 m.2) rfl 28 HM8.out Try.underlying28 rfl infoInsertion ?_))
            refine (inMake_any _ s (s.length : Int) m w8 hos8 hs1 HB (Lib.hid rfl)).mono ?_
            rintro e w9 ⟨r9, rfl, ho9, hf9, hb9⟩
            have hi9 : (insT s m).length = n := by rw [insT_length HB.out rfl, HSL.out]
            obtain ⟨a9, c9, hr9, hc9, _, _⟩ := Own.shape ho9
            rw [hi9] at hr9 hc9
            subst hr9
            have HO9 := Lib.hid (show Own w9 1 (.slice a9 n c9) n ((insT s m).map iv) by unfold OwnI at ho9; rw [hi9] at ho9; exact ho9)
            have hM9 := hM8.below hb9 hmb8
            have hom9 : OwnC c2 w9 u5 l := hom8.same hb9
            have hoR9 := hoR8.same hb9
            have hB9 := hB8.trans (hb9.mono hB8.size)
            have hz9 := hb9.size
            clear hos8 hom8 hoR8 hB8 ho9 hb9 hi9 hM8 HM8
            have hl1 : l.length ≤ 1048576 := by omega
            have hsrc := Src.pair (p := m) (Blk.new w9 28 [iv m.1, iv m.2] _ rfl)
            have homa : OwnC c2 (w9.alloc (.cells #[.int .i64 m.1, .int .i64 m.2] 28)) u5 l := Own.alloc hom9 _
            have hbn := hB9.alloc hB9.size (.cells #[.int .i64 m.1, .int .i64 m.2] 28)
            have hO9a := Own.alloc HO9.out (.cells #[.int .i64 m.1, .int .i64 m.2] 28)
            have hoR9a : OwnI _ (.slice a1 R.length c1) R := Own.alloc hoR9 (.cells #[.int .i64 m.1, .int .i64 m.2] 28)
            have HM9 := Lib.hid hM9
            have hz9a : w2.heap.size ≤ (w9.alloc (.cells #[.int .i64 m.1, .int .i64 m.2] 28)).heap.size := by simp; omega
            go_wp2_with (first | (refine wpList_loadS2 rfl 28 _ rfl mb (.int .i64 m.1) (.int .i64 m.2) rfl 28 HM9.out Try.underlying28 rfl infoInsertion ?_) | (refine wpList_build_pair Try.underlying36 HI.out HZ0.out HZ1.out rfl _ rfl (.int .i64 m.1) (.int .i64 m.2) rfl ?_) | (at_builtin; refine wpList_appC insSl2 (by omega) (by omega) rfl _ _ rfl u5 l rfl homa w2.heap.size hfm (some ⟨w9.heap.size, 0, none⟩) 1 1 [m] rfl rfl hsrc w2 hbn hz9a hl1 (by simp) ?_; intro v10 w10 ho10 hf10 hb10 hg10))
            have HO10 := Lib.hid (show Own w10 1 (.slice a9 n c9) n ((mvTo xs (k + 1)).1.map iv) by
              rw [HS.out]
              exact hO9a.grown hg10 (fun g hg e => by have := hlm g e; have := hf9 g hg; omega))
            have hoR10 : OwnI w10 (.slice a1 R.length c1) R := Own.grown hoR9a hg10 (fun g hg e => by have := HLT.out g hg; have := hfm g e; omega)
            have HOM := Lib.hid (show OwnC c2 w10 v10 (mvTo xs (k + 1)).2 by rw [HS.out]; exact ho10)
            clear hsrc homa hbn hO9a hoR9a hz9a hM9 hom9 hoR9 hB9 ho10 hg10
            go_roundw
            case rel => exact ⟨k + 1, a9, c9, by omega, by go_num, rfl, HO10.out, HOM.out, hf10, hoR10, hb10⟩
            case measure => simp [intOf] <;> omega
      · obtain rfl : k = n := by omega
        have hgt : ¬ ((k : Int) + 1 ≤ k) := by omega
        have HMM := Lib.hid (show OwnC c2 wr u5 (mMovesToSort xs) by rw [HM.out]; exact hom)
        have hB9 := hB2.trans (hbr.mono hs2)
        clear hom hsv hoR
        go_wp2
        go_ret2
        exact ⟨_, rfl, HMM.out, hfm.mono hs2, hB9⟩
  | false =>
    have HM := Lib.hid (show mMovesToSort xs = [] from if_neg (by rw [hg]; exact Bool.false_ne_true))
    rw [hg] at cg
    clear hg
    go_enter Try.func46, Try.ntmps46
    go_wp2_with fail
    refine (cg).mono ?_
    rintro e w1 ⟨rfl, hb1⟩
    go_wp2
    go_ret2
    exact ⟨_, rfl, by rw [HM.out]; exact OwnC.nil _, From.nil _ _ _, hb1⟩
end Go.Proofs.Ytdkidfilnbglgaa
