import Derived.Test.YtfcbaegkppkfkaaRxL
namespace Go.Proofs.Ytfcbaegkppkfkaa
open Go Go.RowKit Go.Pan

set_option maxRecDepth 100000 in
set_option maxHeartbeats 3200000 in
theorem walk_FnExactStackOfRows (a0 : Option Addr) (cap0 : Nat) (xss0 : List (List Int)) (a1 : Option Addr) (cap1 : Nat) (xss1 : List (List Int)) (w : World) (hi0 : IntM w (.slice a0 xss0.length cap0) xss0) (hi1 : IntM w (.slice a1 xss1.length cap1) xss1) :
    Calls Try.prog 7 #[.slice a0 xss0.length cap0, .slice a1 xss1.length cap1] w fun e w' => e = .returned (.bool true) ∧ Below w.heap.size w w' := by
  have HI0 := Lib.hid hi0
  have HI1 := Lib.hid hi1
  clear hi0 hi1
  go_enter Try.func7, Try.ntmps7
  go_wp2_with fail
  refine (szM_any _ xss0 1048576 w HI0.out (by omega) (by omega)).mono ?_
  rintro e w0 ⟨z, rfl, rfl, hz⟩
  rcases hz with rfl | ⟨hz, ht0⟩
  · go_wp2
    go_ret
    exact ⟨rfl, Below.refl _ _⟩
  have HT0 := Lib.hid (show xss0.length + pre xss0 xss0.length ≤ 1048576 by omega)
  have hzL : z ≤ 1048576 := by omega
  clear ht0
  go_wp2_with fail
  refine (szM_any _ xss1 z w HI1.out hz hzL).mono ?_
  rintro e w0 ⟨z1, rfl, rfl, hz1⟩
  rcases hz1 with rfl | ⟨hz1, ht1⟩
  · go_wp2
    go_ret
    exact ⟨rfl, Below.refl _ _⟩
  have HT1 := Lib.hid (show xss1.length + pre xss1 xss1.length ≤ 1048576 by omega)
  clear ht1
  have HR0 := Lib.hid (show ∀ xs ∈ xss0, xs.length ≤ 1048576 from fun xs hx => by
    obtain ⟨i, hi, rfl⟩ := List.getElem_of_mem hx
    have := row_le_all xss0 i hi
    have := HT0.out
    omega)
  have HR1 := Lib.hid (show ∀ xs ∈ xss1, xs.length ≤ 1048576 from fun xs hx => by
    obtain ⟨i, hi, rfl⟩ := List.getElem_of_mem hx
    have := row_le_all xss1 i hi
    have := HT1.out
    omega)
  have hn0 : xss0.length ≤ 1048576 := by have := HT0.out; omega
  have hn1 : xss1.length ≤ 1048576 := by have := HT1.out; omega
  have hlm := len_mStackOfRows xss0 xss1
  obtain ⟨mm, hmm⟩ : ∃ mm, mStackOfRows xss0 xss1 = mm := ⟨_, rfl⟩
  obtain ⟨bb, hbb⟩ : ∃ bb, okSR xss0 xss1 = bb := ⟨_, rfl⟩
  have hS := sStackOfRows_any (R := xss0) (P := xss1)
  have hI := StackOfRows_any (R := xss0) (P := xss1)
  rw [hmm] at hlm
  rw [hmm, hbb] at hS hI
  have HS := Lib.hid hS
  have HI := Lib.hid hI
  have hbn : ((bb : Bool) != bb) = false := by simp
  clear hmm hbb hS hI
  go_wp2_with fail
  refine (toIntSS_any _ xss0 w HI0.out HT0.out).mono ?_
  rintro e w1 ⟨s0, q0, rfl, hs0, hb1⟩
  have hz1' := hb1.size
  go_wp2_with fail
  refine (toIntSS_any _ xss1 w1 (HI1.out.below hb1) HT1.out).mono ?_
  rintro e w2 ⟨s1, q1, rfl, hs1, hb2⟩
  have hB2 := hb1.trans (hb2.mono hb1.size)
  have hz2 := hb2.size
  go_wp2_with fail
  refine (HS.out _ _ _ _ w2 _ _ _ _ (hs0.below hb2 (Nat.le_refl _)) hz2 hs1 (Nat.le_refl _) HT0.out HT1.out).mono ?_
  rintro e w3 ⟨v0, rfl, ho3, hf3, hb3⟩
  have hB3 := hB2.trans (hb3.mono hB2.size)
  have hz3 := hb3.size
  have hl3 := ho3.lt
  clear hs0 hs1 hb1 hb2 hb3 hB2
  go_wp2_with fail
  refine (toIntSS_any _ xss0 w3 (HI0.out.below hB3) HT0.out).mono ?_
  rintro e w4 ⟨x0, p0, rfl, hx0, hb4⟩
  have hB4 := hB3.trans (hb4.mono hB3.size)
  have hz4 := hb4.size
  go_wp2_with fail
  refine (toIntSS_any _ xss1 w4 (HI1.out.below hB4) HT1.out).mono ?_
  rintro e w5 ⟨x1, p1, rfl, hx1, hb5⟩
  have hB5 := hB4.trans (hb5.mono hB4.size)
  have hz5 := hb5.size
  have hx05 := hx0.below hb5 (Nat.le_refl _)
  have hv5 := (ho3.same hb4).same hb5
  clear hx0 ho3 hb4 hb5 hB3 hB4
  go_wp2_with fail
  refine (HI.out _ _ _ _ w5 _ _ _ _ hx05 hz5 hx1 (Nat.le_refl _) HT0.out HT1.out).mono ?_
  rintro e w6 ⟨g0, rfl, ho6, hf6, hb6⟩
  have hB6 := hB5.trans (hb6.mono hB5.size)
  have hz6 := hb6.size
  have hl6 := ho6.lt
  have hx06 := hx05.below hb6 hz5
  have hx16 := hx1.below hb6 (Nat.le_refl _)
  have hv6 := hv5.same hb6
  clear hx05 hx1 hv5 hb6 hB5
  go_wp2_with fail
  refine (eqIntS_any _ _ _ _ _ (OwnI.ints ho6) (OwnI.ints hv6) hlm hlm).mono ?_
  rintro e w7 ⟨rfl, hb7⟩
  rw [show decide (mm = mm) = true from decide_eq_true rfl]
  have hB7 := hB6.trans (hb7.mono hB6.size)
  have hz7 := hb7.size
  have hg7 := ho6.same hb7
  have hx07 := hx06.below hb7 (by omega)
  have hx17 := hx16.below hb7 (by omega)
  have hv7 := hv6.same hb7
  clear ho6 hx06 hx16 hv6 hb7 hB6
  go_wp2_with fail
  refine (toIntSS_any _ xss0 w7 (HI0.out.below hB7) HT0.out).mono ?_
  rintro e w8 ⟨y0, t0, rfl, hy0, hb8⟩
  have hB8 := hB7.trans (hb8.mono hB7.size)
  have hz8 := hb8.size
  have hg8 := hg7.same hb8
  have hx08 := hx07.below hb8 (by omega)
  have hx18 := hx17.below hb8 (by omega)
  have hv8 := hv7.same hb8
  clear hg7 hx07 hx17 hv7 hb8 hB7
  go_wp2_with fail
  refine (eqIntSS_any _ _ _ _ _ _ _ _ xss0 w8 hx08 (by omega) hy0 (Nat.le_refl _) hn0 HR0.out).mono ?_
  rintro e w9 ⟨rfl, hb9⟩
  have hB9 := hB8.trans (hb9.mono hB8.size)
  have hz9 := hb9.size
  have hg9 := hg8.same hb9
  have hx09 := hx08.below hb9 (by omega)
  have hx19 := hx18.below hb9 (by omega)
  have hv9 := hv8.same hb9
  clear hg8 hx08 hx18 hv8 hb9 hB8 hy0
  go_wp2_with fail
  refine (toIntSS_any _ xss1 w9 (HI1.out.below hB9) HT1.out).mono ?_
  rintro e w10 ⟨y1, t1, rfl, hy1, hb10⟩
  have hB10 := hB9.trans (hb10.mono hB9.size)
  have hz10 := hb10.size
  have hg10 := hg9.same hb10
  have hx010 := hx09.below hb10 (by omega)
  have hx110 := hx19.below hb10 (by omega)
  have hv10 := hv9.same hb10
  clear hg9 hx09 hx19 hv9 hb10 hB9
  go_wp2_with fail
  refine (eqIntSS_any _ _ _ _ _ _ _ _ xss1 w10 hx110 (by omega) hy1 (Nat.le_refl _) hn1 HR1.out).mono ?_
  rintro e w11 ⟨rfl, hb11⟩
  have hB11 := hB10.trans (hb11.mono hB10.size)
  have hz11 := hb11.size
  have hg11 := hg10.same hb11
  have hx011 := hx010.below hb11 (by omega)
  have hx111 := hx110.below hb11 (by omega)
  have hv11 := hv10.same hb11
  clear hg10 hx010 hx110 hv10 hb11 hB10 hy1
  go_wp2_with fail
  refine (markM_any _ _ _ _ xss0 1 w11 hx011 hn0 HR0.out (by have := HT0.out; omega) (by omega) (by omega) (by omega)).mono ?_
  rintro e w12 ⟨rfl, _, hk12, hb12⟩
  have hB12 := hB11.trans (hb12.mono (by omega))
  have hz12 := hb12.size
  have hg12 := hg11.kept fun g hg => hk12 g (hg11.lt g hg) (.inr (by have := hf6 g hg; omega))
  have hx112 : SS w12 _ _ _ _ _ := hx111.kept fun g h1 h2 => hk12 g (by omega) (.inr h1)
  have hv12 := hv11.kept fun g hg => hk12 g (hv11.lt g hg) (.inl (hl3 g hg))
  clear hg11 hx011 hx111 hv11 hk12 hb12 hB11
  have ht0' := HT0.out
  have ht1' := HT1.out
  obtain ⟨k1, hk1⟩ : ∃ k1 : Int, 1 + (pre xss0 xss0.length : Nat) = k1 := ⟨_, rfl⟩
  have hk1b : 0 ≤ k1 ∧ k1 ≤ 16777216 := by omega
  have hk10 := hk1b.1
  rw [hk1]
  go_wp2_with fail
  refine (markM_any _ _ _ _ xss1 k1 w12 hx112 hn1 HR1.out (by omega) hk1b.1 hk1b.2 (by omega)).mono ?_
  rintro e w13 ⟨rfl, _, hk13, hb13⟩
  have hB13 := hB12.trans (hb13.mono (by omega))
  have hz13 := hb13.size
  have hg13 := hg12.kept fun g hg => hk13 g (hg12.lt g hg) (.inr (by have := hf6 g hg; omega))
  have hv13 := hv12.kept fun g hg => hk13 g (hv12.lt g hg) (.inl (by have := hl3 g hg; omega))
  clear hg12 hx112 hv12 hk13 hb13 hB12 ht0' ht1' hk1
  obtain ⟨k2, hk2⟩ : ∃ k2 : Int, k1 + (pre xss1 xss1.length : Nat) = k2 := ⟨_, rfl⟩
  have hk20 : 0 ≤ k2 := by omega
  rw [hk2]
  clear hk2 hk1b hk10
  go_wp2_with fail
  refine (eqIntS_any _ _ _ _ _ (OwnI.ints hg13) (OwnI.ints hv13) hlm hlm).mono ?_
  rintro e w14 ⟨rfl, hb14⟩
  rw [show decide (mm = mm) = true from decide_eq_true rfl]
  have hB14 := hB13.trans (hb14.mono hB13.size)
  have hz14 := hb14.size
  have hg14 := hg13.same hb14
  have hv14 := hv13.same hb14
  clear hg13 hv13 hb14 hB13
  go_wp2_with fail
  refine (markIntS_any _ _ _ 1 w14 hg14 hlm (by omega) (by omega)).mono ?_
  rintro e w15 ⟨rfl, hg15, hgr15⟩
  have hB15 := hB14.grown hgr15 hB14.size (fun g hg => by have := hf6 g hg; omega)
  have hz15 := hgr15.size
  have hv15 := hv14.grown hgr15 (fun g hg e => by have := hf6 g e; have := hl3 g hg; omega)
  clear hg14 hv14 hgr15 hB14
  go_wp2_with fail
  refine (heldIntS_any _ _ 1 w15 hg15 hlm (by omega) (by omega)).mono ?_
  rintro e w16 ⟨rfl, hb16⟩
  have hB16 := hB15.trans (hb16.mono hB15.size)
  have hz16 := hb16.size
  have hg16 := hg15.same hb16
  have hv16 := hv15.same hb16
  clear hg15 hv15 hb16 hB15
  obtain ⟨L, hL⟩ : ∃ L : Int, (1 : Int) + (mm.length : Nat) = L := ⟨_, rfl⟩
  have hL0 : 0 ≤ L := by omega
  have hLn : (L != L) = false := by simp
  have HL := Lib.hid hL
  rw [hL]
  clear hL
  go_wp2_with fail
  refine (toIntSS_any _ xss0 w16 (HI0.out.below hB16) HT0.out).mono ?_
  rintro e w17 ⟨s0, q0, rfl, hs0, hb17⟩
  have hB17 := hB16.trans (hb17.mono hB16.size)
  have hz17 := hb17.size
  go_wp2_with fail
  refine (toIntSS_any _ xss1 w17 (HI1.out.below hB17) HT1.out).mono ?_
  rintro e w18 ⟨s1, q1, rfl, hs1, hb18⟩
  have hB18 := hB17.trans (hb18.mono hB17.size)
  have hz18 := hb18.size
  go_wp2_with fail
  refine (HI.out _ _ _ _ w18 _ _ _ _ (hs0.below hb18 (Nat.le_refl _)) hz18 hs1 (Nat.le_refl _) HT0.out HT1.out).mono ?_
  rintro e w19 ⟨h0, rfl, ho19, hf19, hb19⟩
  have hB19 := hB18.trans (hb19.mono hB18.size)
  have hz19 := hb19.size
  have hg19 := ((hg16.same hb17).same hb18).same hb19
  have hv19 := ((hv16.same hb17).same hb18).same hb19
  clear hs0 hs1 hg16 hv16 hb17 hb18 hb19 hB16 hB17 hB18
  go_wp2_with fail
  refine (eqIntS_any _ _ _ _ _ (OwnI.ints ho19) (OwnI.ints hv19) hlm hlm).mono ?_
  rintro e w20 ⟨rfl, hb20⟩
  rw [show decide (mm = mm) = true from decide_eq_true rfl]
  have hB20 := hB19.trans (hb20.mono hB19.size)
  have hg20 := hg19.same hb20
  clear hg19 hv19 ho19 hb20 hB19
  go_wp2_with fail
  refine (heldIntS_any _ _ 1 w20 hg20 hlm (by omega) (by omega)).mono ?_
  rintro e w21 ⟨rfl, hb21⟩
  rw [HL.out]
  have hB21 := hB20.trans (hb21.mono hB20.size)
  clear hg20 hb21 hB20
  go_wp2
  go_ret
  exact ⟨rfl, hB21⟩

end Go.Proofs.Ytfcbaegkppkfkaa
