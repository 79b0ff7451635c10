import Derived.Test.YtdkidfilnbglgaaWM
namespace Go.Proofs.Ytdkidfilnbglgaa
open Go Go.RowKit Go.Pan

set_option maxHeartbeats 4000000 in
set_option maxRecDepth 100000 in
theorem MovesToSort_any (v : Value) (xs : List Int) (w : World) (hv : OwnI w v xs) (hn : xs.length ≤ 1048576) :
    Calls Try.prog 47 #[v] w fun e w' => ∃ r, e = .returned (.tuple #[r, .bool (goodB xs)]) ∧ OwnC c2 w' r (mMovesToSort xs) ∧ From w.heap.size r ∧ Below w.heap.size w w' := by
  have c := LongestRising_any v xs w hv hn
  obtain ⟨ad, cap, rfl, hcc, _, _⟩ := hv.shape
  cases hg : goodB xs with
  | true =>
    have hG := goodB_iff.1 hg
    have h9 := hG.le9
    have hd := deepG hG
    have HM := Lib.hid (show mMovesToSort xs = (mvTo xs xs.length).2 from if_pos hg)
    have hR : mLongestRising xs = riseL xs := if_pos hg
    have hRl := riseL_length hd
    have hDl := hd.le
    have HG := Lib.hid hG
    rw [hg, hR] at c
    obtain ⟨i0, hi0, hz0, hz1, hz2⟩ := info_parts infoInsertion3
    have HI := Lib.hid hi0
    have HZ0 := Lib.hid hz0
    have HZ1 := Lib.hid hz1
    have HZ2 := Lib.hid hz2
    obtain ⟨R, hRR⟩ : ∃ R, riseL xs = R := ⟨_, rfl⟩
    have HRR := Lib.hid hRR
    rw [hRR] at c hRl
    obtain ⟨n, hn'⟩ : ∃ n, xs.length = n := ⟨_, rfl⟩
    have HNN := Lib.hid hn'
    rw [hn'] at c h9 hDl hcc HM ⊢
    obtain ⟨d, hd'⟩ : ∃ d : Nat, R.length + d = n := ⟨n - R.length, by omega⟩
    have HD := Lib.hid hd'
    have hRl9 : R.length ≤ 9 := by omega
    have hdi : (n : Int) - (R.length : Int) = (d : Int) := by omega
    have hd9 : d ≤ 9 := by omega
    have HDI := Lib.hid hdi
    have hV := Lib.hid (show Own w 1 (.slice ad n cap) n (xs.map iv) by have := OwnI.ofLen hv hn'; rw [hn'] at this; exact this)
    clear hg hG hd hR hRl hDl hi0 hz0 hz1 hz2 hRR hn' hn hv hd'
    go_enter Try.func47, Try.ntmps47
    go_wp2_with fail
    refine c.mono ?_
    rintro e w1 ⟨r1, rfl, ho1, hf1, hb1⟩
    obtain ⟨a1, c1, rfl, hc1, _, _⟩ := ho1.shape
    have hv1 : OwnI w1 (.slice ad n cap) xs := by unfold OwnI; rw [HNN.out]; exact Own.same hV.out hb1
    clear c
    go_wp2_with fail
    refine (towerOf_any _ xs w1 hv1 (by rw [HNN.out]; exact h9)).mono ?_
    rintro e w2 ⟨rfl, hb2⟩
    have ho2 := ho1.same hb2
    have hB2 := hb1.trans (hb2.mono hb1.size)
    have hz0 : Blk (w2.alloc (.cells (twl []).toArray 69)) w2.heap.size 69 (twl []) := Blk.new w2 _ (twl []) _ rfl
    have hB20 := hB2.alloc hB2.size (.cells (twl []).toArray 69)
    have ho20 := ho2.alloc (.cells (twl []).toArray 69)
    have HLT := Lib.hid ho2.lt
    have hs2 := hB2.size
    have hx9 : xs.length ≤ 9 := by rw [HNN.out]; exact h9
    clear hv1 ho1 hb1 hb2 hB2 ho2 hf1
    go_upto_region 6 with (first | (refine wpList_store_tower rfl _ _ rfl w2.heap.size [] xs (by simp) hx9 rfl rfl hz0 ?_; intro w3 hbT3 hgr3))
    have hB3 := hB20.grown hgr3 hB20.size (by intro k hk; cases hk; exact hs2)
    have ho3 : OwnI w3 (.slice a1 R.length c1) R := ho20.grown hgr3 (by intro g hg e; have := HLT.out g hg; cases e; omega)
    obtain ⟨bx, hbx⟩ : ∃ x, w2.heap.size = x := ⟨_, rfl⟩
    rw [hbx] at hbT3 hs2 ⊢
    rw [hbx] at HLT
    have hz3 : bx < w3.heap.size := hbT3.lt
    clear hz0 hB20 ho20 hgr3
    go_wp2_with (at_make; refine wpList_make_own _ rfl _ _ 36 rfl w.heap.size 28 i0 _ 2 Try.underlying36 HI.out HZ0.out HZ1.out _ _ _ d rfl rfl rfl ?b1 ?b2 ?b3 ?_)
    case b1 => rw [HZ2.out]; omega
    case b2 => unfold maxLen; omega
    case b3 => exact hB3.size
    intro w4 hown4 hgr4
    have hm4 : OwnC c2 w4 _ [] := (Own.of_row hown4).1
    have hfm4 := (Own.of_row hown4).2
    have hmb4 : From w3.heap.size (Value.slice (some ⟨w3.heap.size, 0, none⟩) 0 d) := From.at _ _ _ _ _ (Nat.le_refl _)
    have hbT4 := hbT3.grown hgr4 (by simp)
    have ho4 := ho3.grown hgr4 (by intro _ _ h; cases h)
    have hB4 := hB3.grown hgr4 hB3.size (by intro k hk; cases hk)
    have HB0 := Lib.hid (show bx < w3.heap.size from hz3)
    have HLT3 := Lib.hid (show ∀ g, (Value.slice a1 R.length c1).ownBlock = some g → g < bx from fun g hg => HLT.out g hg)
    have HS2 := Lib.hid hs2
    have HZ34 := Lib.hid (show w3.heap.size ≤ w4.heap.size from hgr4.size)
    have hB34 : w.heap.size ≤ w3.heap.size := hB3.size
    clear hown4 hgr4 hbT3 ho3 hB3 hz3
    go_wp2
    go_loopw [8, 9] (fun o i wr => ∃ k : Nat, k ≤ n ∧ i = .int .i64 ((k : Int) + 1) ∧ Blk wr bx 69 (twl (mvTo xs k).1) ∧ OwnC c2 wr o (mvTo xs k).2 ∧ From w3.heap.size o ∧ OwnI wr (.slice a1 R.length c1) R ∧ Below w.heap.size w wr ∧ Hid (w3.heap.size ≤ wr.heap.size)) (fun _ i _ => n + 1 - (intOf i).toNat)
    case atStart => exact ⟨0, Nat.zero_le _, by go_num, hbT4, hm4, hmb4, ho4, hB4, HZ34⟩
    case round =>
      obtain ⟨k, hk, rfl, hbT, hom, hfm, hoR, hbr, hws⟩ := hrel
      clear hbT4 hm4 hfm4 hmb4 ho4 hB4
      by_cases hlt : k < n
      · have hle : (k : Int) + 1 ≤ n := by omega
        have hpm := mvTo_perm HG.out k (by rw [HNN.out]; omega)
        have HGS := Lib.hid (show Go.Pan.Good (mvTo xs k).1 from HG.out.perm hpm.1.symm)
        have HSL := Lib.hid (show (mvTo xs k).1.length = n by rw [hpm.1.length_eq, HNN.out])
        have hml := hpm.2
        have hsr := hbr.size
        have cC := slContainsM_any _ R ((k : Int) + 1) wr hoR (by omega)
        have HY := Lib.hid (fun (h : (k : Int) + 1 ∈ R) => show mvTo xs (k + 1) = mvTo xs k from mvTo_yes (by rw [HRR.out]; exact h))
        have HN := Lib.hid (fun (h : ¬ (k : Int) + 1 ∈ R) => mvTo_no (xs := xs) (k := k) (by rw [HRR.out]; exact h))
        obtain ⟨s, hs⟩ : ∃ s, (mvTo xs k).1 = s := ⟨_, rfl⟩
        obtain ⟨l, hl⟩ : ∃ l, (mvTo xs k).2 = l := ⟨_, rfl⟩
        rw [hs] at hbT HGS HSL HN
        rw [hl] at hom hml HN
        have HSS := Lib.hid hs
        have HLL := Lib.hid hl
        clear hpm hs hl
        by_cases hin : (k : Int) + 1 ∈ R
        · have HS := Lib.hid (HY.out hin)
          rw [show decide ((k : Int) + 1 ∈ R) = true from decide_eq_true hin] at cC
          clear hin HN HY
          go_wp2_with fail
          refine cC.mono ?_
          rintro e w5 ⟨rfl, hb5⟩
          have hbT5 := hbT.below hb5 hbT.lt
          have hom5 : OwnC c2 w5 u8 l := hom.same hb5
          have hoR5 := hoR.same hb5
          have hB5 := hbr.trans (hb5.mono hsr)
          have hws5 := Lib.hid (Nat.le_trans hws.out hb5.size)
          clear hbT hom hoR hbr hb5 cC hws
          go_wp2
          go_roundw
          case rel => exact ⟨k + 1, by omega, by go_num, by rw [HS.out, HSS.out]; exact hbT5, by rw [HS.out, HLL.out]; exact hom5, hfm, hoR5, hB5, hws5⟩
          case measure => simp [intOf] <;> omega
        · have HS := Lib.hid (HN.out hin)
          rw [show decide ((k : Int) + 1 ∈ R) = false from decide_eq_false hin] at cC
          have hsl9 : s.length ≤ 9 := by rw [HSL.out]; exact h9
          have HX := Lib.hid (show 1 ≤ (k : Int) + 1 ∧ (k : Int) + 1 ≤ s.length by rw [HSL.out]; omega)
          have HB := Lib.hid (mvOf_B HGS.out HX.out.1 HX.out.2)
          obtain ⟨m, hm⟩ : ∃ m, mvOf s ((k : Int) + 1) = m := ⟨_, rfl⟩
          have HMV := Lib.hid hm
          rw [hm] at HS HB
          clear hin HN HY hm
          go_wp2_with fail
          refine cC.mono ?_
          rintro e w5 ⟨rfl, hb5⟩
          have hbT5 := hbT.below hb5 hbT.lt
          have hom5 : OwnC c2 w5 u8 l := hom.same hb5
          have hoR5 := hoR.same hb5
          have hB5 := hbr.trans (hb5.mono hsr)
          have hws5 := Nat.le_trans hws.out hb5.size
          clear hbT hom hoR hbr hb5 cC hws
          go_wp2_with (first | (refine wpList_load_tower rfl _ rfl bx s hsl9 rfl hbT5 ?_))
          have cB := belowLess_any s ((k : Int) + 1) n w5 HGS HX HSL h9
          rw [HMV.out] at cB
          refine cB.mono ?_
          rintro e w6 ⟨rfl, hb6⟩
          have hbT6 := hbT5.below hb6 hbT5.lt
          have hom6 : OwnC c2 w6 u8 l := hom5.same hb6
          have hoR6 := hoR5.same hb6
          have hB6 := hB5.trans (hb6.mono hB5.size)
          have hws6 := Nat.le_trans hws5 hb6.size
          clear hbT5 hom5 hoR5 hB5 hb6 cB hws5
          have hzM : Blk (w6.alloc (.cells #[.int .i64 0, .int .i64 0] 28)) w6.heap.size 28 [.int .i64 0, .int .i64 0] := Blk.new w6 _ [.int .i64 0, .int .i64 0] _ rfl
          have hB60 := hB6.alloc hB6.size (.cells #[.int .i64 0, .int .i64 0] 28)
          have hbT60 := hbT6.alloc (.cells #[.int .i64 0, .int .i64 0] 28)
          have hom60 : OwnC c2 _ u8 l := Own.alloc hom6 (.cells #[.int .i64 0, .int .i64 0] 28)
          have hoR60 : OwnI _ (.slice a1 R.length c1) R := Own.alloc hoR6 (.cells #[.int .i64 0, .int .i64 0] 28)
          have hlt6 := hom6.lt
          have hbx6 : bx < w6.heap.size := hbT6.lt
          have HR6 := Lib.hid (show ∀ g, (Value.slice a1 R.length c1).ownBlock = some g → g ≠ w6.heap.size from fun g hg e => by have := HLT3.out g hg; omega)
          have hw6 := hB6.size
          go_upto_region 12 with (first | (refine wpList_storeS2 rfl 28 _ _ rfl w6.heap.size (.int .i64 m.1) (.int .i64 m.2) rfl rfl 28 _ hzM infoInsertion rfl ⟨rfl, rfl⟩ ?_; intro w7 hM7 hg7))
          have hbT7 := hbT60.grown hg7 (by simp; omega)
          have hom7 : OwnC c2 w7 u8 l := Own.grown hom60 hg7 (fun g hg e => by have := hlt6 g hg; cases e; omega)
          have hoR7 : OwnI w7 (.slice a1 R.length c1) R := Own.grown hoR60 hg7 (fun g hg e => by cases e; exact HR6.out _ hg rfl)
          have hB7 := hB60.grown hg7 hB60.size (fun g e => by cases e; exact hw6)
          have hws7 : w3.heap.size ≤ w7.heap.size := by have := hg7.size; simp at this; omega
          have hmb7 : w6.heap.size < w7.heap.size := hM7.lt
          obtain ⟨mb, hmb⟩ : ∃ x, w6.heap.size = x := ⟨_, rfl⟩
          rw [hmb] at hM7 hlt6 hbx6 HR6 hmb7 hws6 hw6 ⊢
          clear hzM hB60 hbT60 hom60 hoR60 hg7 hbT6 hom6 hoR6 hB6 hmb
          have hl1 : l.length ≤ 1048576 := by omega
          have hsrc := Src.pair (p := m) (Blk.new w7 28 [iv m.1, iv m.2] _ rfl)
          have homa : OwnC c2 (w7.alloc (.cells #[.int .i64 m.1, .int .i64 m.2] 28)) u8 l := Own.alloc hom7 _
          have hbn := (below_new w7 (.cells #[.int .i64 m.1, .int .i64 m.2] 28)).mono hws7
          have hM7a := hM7.alloc (.cells #[.int .i64 m.1, .int .i64 m.2] 28)
          have hbT7a := hbT7.alloc (.cells #[.int .i64 m.1, .int .i64 m.2] 28)
          have hoR7a : OwnI _ (.slice a1 R.length c1) R := Own.alloc hoR7 (.cells #[.int .i64 m.1, .int .i64 m.2] 28)
          have HHM := Lib.hid hM7
          have hB7a := hB7.alloc hB7.size (.cells #[.int .i64 m.1, .int .i64 m.2] 28)
          have hz7a : w3.heap.size ≤ (w7.alloc (.cells #[.int .i64 m.1, .int .i64 m.2] 28)).heap.size := by simp; omega
          go_upto_region 13 with (first | (refine wpList_loadS2 rfl 28 _ rfl mb (.int .i64 m.1) (.int .i64 m.2) rfl 28 HHM.out Try.underlying28 rfl infoInsertion ?_) | (refine wpList_build_pair Try.underlying36 HI.out HZ0.out HZ1.out rfl _ rfl (.int .i64 m.1) (.int .i64 m.2) rfl ?_) | (at_builtin; refine wpList_appC insSl2 (by omega) (by omega) rfl _ _ rfl u8 l rfl homa w3.heap.size hfm (some ⟨w7.heap.size, 0, none⟩) 1 1 [m] rfl rfl hsrc w7 hbn hz7a hl1 (by simp) ?_; intro v8 w8 ho8 hf8 hb8 hg8))
          have hM8 := hM7a.grown hg8 (fun e => by have := hlt6 mb e; omega)
          have hbT8 := hbT7a.grown hg8 (fun e => by have := hfm bx e; have := HB0.out; omega)
          have hoR8 : OwnI w8 (.slice a1 R.length c1) R := Own.grown hoR7a hg8 (fun g hg e => by have := HLT3.out g hg; have := hfm g e; have := HB0.out; omega)
          have hB8 := hB7a.grown hg8 hB7a.size (fun g e => by have := hfm g e; omega)
          have hws8 : w3.heap.size ≤ w8.heap.size := Nat.le_trans hws7 hb8.size
          have HO8 := Lib.hid (show OwnC c2 w8 v8 (mvTo xs (k + 1)).2 by rw [HS.out]; exact ho8)
          have HHM8 := Lib.hid hM8
          clear hsrc homa hbn hM7a hbT7a hoR7a hB7a hz7a hM7 hbT7 hom7 hoR7 hB7 ho8 hg8 hb8 HHM hfm
          go_wp2_with (first | (refine wpList_load_tower rfl _ rfl bx s hsl9 rfl hbT8 ?_) | (refine wpList_loadS2 rfl 28 _ rfl mb (.int .i64 m.1) (.int .i64 m.2) rfl 28 HHM8.out Try.underlying28 rfl infoInsertion ?_))
          refine (inserted_any s (n : Int) m w8 hsl9 (by rw [HSL.out] at HB; exact HB) (Lib.hid (by rw [HSL.out]))).mono ?_
          rintro e w9 ⟨rfl, hb9⟩
          have hbT9 := hbT8.below hb9 hbT8.lt
          have HO9 := Lib.hid (HO8.out.below hb9 (Nat.le_refl _))
          have hoR9 := hoR8.same hb9
          have hB9 := hB8.trans (hb9.mono hB8.size)
          have hws9 := Nat.le_trans hws8 hb9.size
          have HFV := Lib.hid hf8
          have hi9 : (insT s m).length ≤ 9 := by rw [insT_length HB.out rfl]; exact hsl9
          have HIE := Lib.hid (show (mvTo xs (k + 1)).1 = insT s m by rw [HS.out])
          obtain ⟨s2, hs2'⟩ : ∃ x, insT s m = x := ⟨_, rfl⟩
          rw [hs2'] at hi9 HIE ⊢
          clear hbT8 hoR8 hB8 hb9 hws8 hs2'
          go_wp2_with (first | (refine wpList_store_tower rfl _ _ rfl bx s s2 hsl9 hi9 rfl rfl hbT9 ?_; intro w10 hbT10 hg10))
          have HO10 := Lib.hid (Own.grown HO9.out hg10 (fun g hg e => by have := hf8 g hg; cases e; have := HB0.out; omega))
          have hoR10 : OwnI w10 (.slice a1 R.length c1) R := Own.grown hoR9 hg10 (fun g hg e => by have := HLT3.out g hg; cases e; omega)
          have hB10 := hB9.grown hg10 hB9.size (fun g e => by cases e; exact HS2.out)
          have hws10 := Lib.hid (Nat.le_trans hws9 hg10.size)
          have HBT := Lib.hid (show Blk w10 bx 69 (twl (mvTo xs (k + 1)).1) by rw [HIE.out]; exact hbT10)
          clear hbT9 hoR9 hB9 hg10 hbT10 hws9
          go_roundw
          case rel => exact ⟨k + 1, by omega, by go_num, HBT.out, HO10.out, HFV.out, hoR10, hB10, hws10⟩
          case measure => simp [intOf] <;> omega
      · obtain rfl : k = n := by omega
        have hgt : ¬ ((k : Int) + 1 ≤ k) := by omega
        have HMM := Lib.hid (show OwnC c2 wr u8 (mMovesToSort xs) by rw [HM.out]; exact hom)
        clear hom hbT hoR
        go_wp2
        go_ret2
        exact ⟨_, rfl, HMM.out, hfm.mono hB34, hbr⟩
  | false =>
    have HM := Lib.hid (show mMovesToSort xs = [] from if_neg (by rw [hg]; exact Bool.false_ne_true))
    rw [hg] at c
    clear hg
    go_enter Try.func47, Try.ntmps47
    go_wp2_with fail
    refine c.mono ?_
    rintro e w1 ⟨r1, rfl, ho1, hf1, hb1⟩
    obtain ⟨a1, c1, rfl, hc1, _, _⟩ := ho1.shape
    clear c
    go_wp2
    go_ret2
    exact ⟨_, rfl, by rw [HM.out]; exact OwnC.nil _, From.nil _ _ _, hb1⟩
end Go.Proofs.Ytdkidfilnbglgaa
