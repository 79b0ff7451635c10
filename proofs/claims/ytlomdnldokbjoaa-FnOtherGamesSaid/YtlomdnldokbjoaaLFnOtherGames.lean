import Derived.Test.YtlomdnldokbjoaaU16
import Derived.Test.YtlomdnldokbjoaaU11
import Derived.Test.YtlomdnldokbjoaaU12
import Derived.Test.YtlomdnldokbjoaaU14
import Derived.Test.YtlomdnldokbjoaaOm
import Derived.Test.YtlomdnldokbjoaaDo
namespace Go.Proofs.Ytlomdnldokbjoaa
open Go Go.RowKit Go.Pan

set_option maxRecDepth 100000 in
set_option maxHeartbeats 16000000 in
theorem walk_FnOtherGames (a0 : Option Addr) (n0 c0 : Nat) (a1 : Option Addr) (n1 c1 : Nat) (w : World) (h0 : Byts w (.slice a0 n0 c0) n0 w.heap.size) (hn0 : n0 ≤ maxLen) (h1 : Byts w (.slice a1 n1 c1) n1 w.heap.size) (hn1 : n1 ≤ maxLen) :
    Calls Try.prog 7 #[.slice a0 n0 c0, .slice a1 n1 c1] w fun e w' => e = .returned (.bool true) ∧ Below w.heap.size w w' := by
  go_enter Try.func7, Try.ntmps7
  go_wp2_with fail
  refine (big_any a0 a1 n0 n1 c0 c1 w hn0 hn1).mono ?_
  rintro e w' ⟨b, rfl, rfl⟩
  cases b with
  | true =>
    go_wp2
    go_ret
    exact ⟨rfl, Below.refl _ _⟩
  | false =>
  have B0 : Below w'.heap.size w' w' := Below.refl _ _
  have H1 := Lib.hid h1
  clear h1
  go_wp2_with fail
  refine (DrawCountGame_any a0 n0 c0 w' h0 hn0).mono ?_
  rintro e w1 ⟨s, k, rfl, xs, hs, hxl, hk, B1⟩
  clear B0 h0
  have hx6 : xs.length ≤ 1048576 := by omega
  clear hxl
  obtain ⟨g, hg⟩ : ∃ z, okCount xs k = z := ⟨_, rfl⟩
  obtain ⟨T, hT⟩ : ∃ z, mCountGame xs k = z := ⟨_, rfl⟩
  have HT6 := Lib.hid (show T.length ≤ 1048576 by rw [← hT]; exact len_mCountGame _ _)
  have c2 := CountGame_any s xs k w1 hs hx6
  rw [hT, hg] at c2
  go_wp2_with fail
  refine c2.mono ?_
  rintro e w2 ⟨p, rfl, hp, _, b2⟩
  clear c2
  replace hs := Own.same hs b2
  have B2 := B1.trans (b2.mono B1.size)
  clear B1
  have c3 := sCountGame_any s xs k w2 hs hx6
  rw [hT, hg] at c3
  go_wp2_with fail
  refine c3.mono ?_
  rintro e w3 ⟨q, rfl, hq, _, b3⟩
  clear c3
  replace hs := Own.same hs b3
  replace hp := Own.same hp b3
  have B3 := B2.trans (b3.mono B2.size)
  clear B2
  go_wp2_with fail
  refine (pSame_any p q T T w3 (OwnI.ints hp) (OwnI.ints hq) HT6.out HT6.out).mono ?_
  rintro e w4 ⟨rfl, b4⟩
  replace hs := Own.same hs b4
  replace hp := Own.same hp b4
  replace hq := Own.same hq b4
  have B4 := B3.trans (b4.mono B3.size)
  clear B3
  clear hq
  cases g with
  | false =>
    as_aux_lemma =>
    clear hs hp hT hg HT6
    have hy := Byts.later H1.out B4
    go_wp2_with fail
    refine (DrawCardGame_any a1 n1 c1 w4 hy hn1).mono ?_
    rintro e w5 ⟨t, m, rfl, ys, ht, hyl, hm, b5⟩
    have B5 := B4.trans (b5.mono B4.size)
    have hy6 : ys.length ≤ 1048576 := by omega
    clear hy hyl b5 B4
    obtain ⟨g2, hg2⟩ : ∃ z, okCard ys m = z := ⟨_, rfl⟩
    obtain ⟨A, hA⟩ : ∃ z, mCardFirst ys m = z := ⟨_, rfl⟩
    obtain ⟨P, hP⟩ : ∃ z, mCardMore ys m = z := ⟨_, rfl⟩
    have c6 := CardGame_any t ys m w5 ht hy6
    rw [hA, hP, hg2] at c6
    go_wp2_with fail
    refine c6.mono ?_
    rintro e w6 ⟨rfl, b6⟩
    clear c6
    replace ht := Own.same ht b6
    have B6 := B5.trans (b6.mono B5.size)
    clear B5
    have c7 := sCardGame_any t ys m w6 ht hy6
    rw [hA, hP, hg2] at c7
    go_wp2_with fail
    refine c7.mono ?_
    rintro e w7 ⟨rfl, b7⟩
    clear c7
    replace ht := Own.same ht b7
    have B7 := B6.trans (b7.mono B6.size)
    clear B6
    cases g2 with
    | false =>
      as_aux_lemma =>
      clear ht hA hP hg2
      have hz := Byts.later H1.out B7
      go_wp2_with fail
      refine (DrawBottomGame_any a1 n1 c1 w7 hz hn1).mono ?_
      rintro e w8 ⟨u, rfl, zs, hu, hzl, b8⟩
      have B8 := B7.trans (b8.mono B7.size)
      have hz6 : zs.length ≤ 1048576 := by omega
      clear hz hzl b8 B7
      obtain ⟨g3, hg3⟩ : ∃ z, goodB zs = z := ⟨_, rfl⟩
      obtain ⟨M, hM⟩ : ∃ z, mBottomGame zs = z := ⟨_, rfl⟩
      have c9 := BottomGame_any u zs w8 hu hz6
      rw [hM, hg3] at c9
      go_wp2_with fail
      refine c9.mono ?_
      rintro e w9 ⟨rfl, b9⟩
      clear c9
      replace hu := Own.same hu b9
      have B9 := B8.trans (b9.mono B8.size)
      clear B8
      have c10 := sBottomGame_any u zs w9 hu hz6
      rw [hM, hg3] at c10
      go_wp2_with fail
      refine c10.mono ?_
      rintro e w10 ⟨rfl, b10⟩
      clear c10
      replace hu := Own.same hu b10
      have B10 := B9.trans (b10.mono B9.size)
      clear B9
      cases g3 with
      | false =>
        clear hu hM hg3 hz6
        go_wp2
        go_ret
        exact ⟨by simp, B10⟩
      | true =>
        have V := bottomGame_is hg3
        rw [hM] at V
        obtain ⟨v1, v2, v3, v4⟩ := V
        have v0 := v1.1
        obtain ⟨ub, uo, uc, rfl, hcu⟩ : ∃ b o c, u = .slice (some ⟨b, o, none⟩) zs.length c ∧ w10.cell? ⟨b, o + (zs.length - 1), none⟩ = some (.int .i64 (zs.getD (zs.length - 1) 0)) := by
          obtain ⟨ua, uc, rfl, _, _, _⟩ := hu.shape
          obtain ⟨b, o, rfl, _, hc, _⟩ := hu.at (by omega)
          refine ⟨b, o, uc, rfl, ?_⟩
          rw [hc _ (by omega), List.getElem?_map, List.getD_eq_getElem?_getD, List.getElem?_eq_getElem (show zs.length - 1 < zs.length by omega)]
          rfl
        have HC := Lib.hid hcu
        clear hu hcu
        obtain ⟨N, hN⟩ : ∃ N, zs.length = N + 1 := ⟨zs.length - 1, by omega⟩
        obtain ⟨z, hz⟩ : ∃ z, zs.getD (zs.length - 1) 0 = z := ⟨_, rfl⟩
        have hcu := HC.out
        rw [hz] at v3 v4 hcu
        rw [hN] at v4 hcu ⊢
        rw [Nat.add_sub_cancel] at hcu
        have hi1 : IntKind.i64.wrap (((N + 1 : Nat) : Int) - 1) = (N : Int) := by rw [IntKind.wrap_i64]; omega
        have hi2 : (((N + 1 : Nat) : Int) - 1) = (N : Int) := by omega
        have hi3 : (N : Int) < ((N + 1 : Nat) : Int) := by omega
        have hi4 : (0 : Int) ≤ (N : Int) := by omega
        have hi5 : N < N + 1 := by omega
        have hN9 : N < 1048576 := by omega
        have f5 : decide (M < 0) = false := decide_eq_false (by omega)
        have HB := Lib.hid B10
        clear B10 HC hN hz v0 v1 v2 hM hg3 hz6
        have hi6 : (N : Int) < (N : Int) + 1 := by omega
        by_cases e1 : z = 1
        · obtain rfl := v3 e1
          have f6 : (z == 1) = true := by simpa using e1
          have f7 : (z != 1) = false := by simpa using e1
          by_cases e2 : z = (N : Int) + 1
          · have f8 : (z != (N : Int) + 1) = false := by simpa using e2
            clear v3 v4 e1 e2
            go_wp2
            go_ret
            first | exact ⟨rfl, HB.out⟩ | exact ⟨by simp, HB.out⟩
          · have f8 : (z != (N : Int) + 1) = true := by simpa using e2
            clear v3 v4 e1 e2
            go_wp2
            go_ret
            first | exact ⟨rfl, HB.out⟩ | exact ⟨by simp, HB.out⟩
        · have f6 : (z == 1) = false := by simpa using e1
          have f7 : (z != 1) = true := by simpa using e1
          by_cases e2 : z = (N : Int) + 1
          · have f8 : (z != (N : Int) + 1) = false := by simpa using e2
            clear v3 v4 e1 e2
            go_wp2
            go_ret
            first | exact ⟨rfl, HB.out⟩ | exact ⟨by simp, HB.out⟩
          · obtain rfl := v4 (by rw [Int.natCast_add]; exact e2) e1
            have f8 : (z != (N : Int) + 1) = true := by simpa using e2
            clear v3 v4 e1 e2
            go_wp2
            go_ret
            first | exact ⟨rfl, HB.out⟩ | exact ⟨by simp, HB.out⟩
    | true =>
      as_aux_lemma =>
      have V := cardGame_is hg2
      rw [hA, hP] at V
      obtain ⟨rfl, v2, v3, v4, v5⟩ := V
      obtain ⟨P2, hP2⟩ : ∃ z, mCardMore ys (ys.length : Int) = z := ⟨_, rfl⟩
      rw [hP2] at v5
      have f1 : decide (P < 1) = false := decide_eq_false (by omega)
      have f2 : decide (2 < P2) = false := decide_eq_false (by omega)
      obtain ⟨ta, tc, rfl, _, _, _⟩ := ht.shape
      clear hA hP hg2 v2 v5
      have c8 := CardGame_any (.slice ta ys.length tc) ys (ys.length : Int) w7 ht hy6
      rw [v4, hP2, v3] at c8
      go_wp2_with fail
      refine c8.mono ?_
      rintro e w8 ⟨rfl, b8⟩
      clear c8
      replace ht := Own.same ht b8
      have B8 := B7.trans (b8.mono B7.size)
      clear B7
      clear ht v3 v4 hP2
      have hz := Byts.later H1.out B8
      go_wp2_with fail
      refine (DrawBottomGame_any a1 n1 c1 w8 hz hn1).mono ?_
      rintro e w9 ⟨u, rfl, zs, hu, hzl, b9⟩
      have B9 := B8.trans (b9.mono B8.size)
      have hz6 : zs.length ≤ 1048576 := by omega
      clear hz hzl b9 B8
      obtain ⟨g3, hg3⟩ : ∃ z, goodB zs = z := ⟨_, rfl⟩
      obtain ⟨M, hM⟩ : ∃ z, mBottomGame zs = z := ⟨_, rfl⟩
      have c10 := BottomGame_any u zs w9 hu hz6
      rw [hM, hg3] at c10
      go_wp2_with fail
      refine c10.mono ?_
      rintro e w10 ⟨rfl, b10⟩
      clear c10
      replace hu := Own.same hu b10
      have B10 := B9.trans (b10.mono B9.size)
      clear B9
      have c11 := sBottomGame_any u zs w10 hu hz6
      rw [hM, hg3] at c11
      go_wp2_with fail
      refine c11.mono ?_
      rintro e w11 ⟨rfl, b11⟩
      clear c11
      replace hu := Own.same hu b11
      have B11 := B10.trans (b11.mono B10.size)
      clear B10
      cases g3 with
      | false =>
        clear hu hM hg3 hz6
        go_wp2
        go_ret
        exact ⟨by simp, B11⟩
      | true =>
        have V := bottomGame_is hg3
        rw [hM] at V
        obtain ⟨v1, v2, v3, v4⟩ := V
        have v0 := v1.1
        obtain ⟨ub, uo, uc, rfl, hcu⟩ : ∃ b o c, u = .slice (some ⟨b, o, none⟩) zs.length c ∧ w11.cell? ⟨b, o + (zs.length - 1), none⟩ = some (.int .i64 (zs.getD (zs.length - 1) 0)) := by
          obtain ⟨ua, uc, rfl, _, _, _⟩ := hu.shape
          obtain ⟨b, o, rfl, _, hc, _⟩ := hu.at (by omega)
          refine ⟨b, o, uc, rfl, ?_⟩
          rw [hc _ (by omega), List.getElem?_map, List.getD_eq_getElem?_getD, List.getElem?_eq_getElem (show zs.length - 1 < zs.length by omega)]
          rfl
        have HC := Lib.hid hcu
        clear hu hcu
        obtain ⟨N, hN⟩ : ∃ N, zs.length = N + 1 := ⟨zs.length - 1, by omega⟩
        obtain ⟨z, hz⟩ : ∃ z, zs.getD (zs.length - 1) 0 = z := ⟨_, rfl⟩
        have hcu := HC.out
        rw [hz] at v3 v4 hcu
        rw [hN] at v4 hcu ⊢
        rw [Nat.add_sub_cancel] at hcu
        have hi1 : IntKind.i64.wrap (((N + 1 : Nat) : Int) - 1) = (N : Int) := by rw [IntKind.wrap_i64]; omega
        have hi2 : (((N + 1 : Nat) : Int) - 1) = (N : Int) := by omega
        have hi3 : (N : Int) < ((N + 1 : Nat) : Int) := by omega
        have hi4 : (0 : Int) ≤ (N : Int) := by omega
        have hi5 : N < N + 1 := by omega
        have hN9 : N < 1048576 := by omega
        have f5 : decide (M < 0) = false := decide_eq_false (by omega)
        have HB := Lib.hid B11
        clear B11 HC hN hz v0 v1 v2 hM hg3 hz6
        have hi6 : (N : Int) < (N : Int) + 1 := by omega
        by_cases e1 : z = 1
        · obtain rfl := v3 e1
          have f6 : (z == 1) = true := by simpa using e1
          have f7 : (z != 1) = false := by simpa using e1
          by_cases e2 : z = (N : Int) + 1
          · have f8 : (z != (N : Int) + 1) = false := by simpa using e2
            clear v3 v4 e1 e2
            go_wp2
            go_ret
            first | exact ⟨rfl, HB.out⟩ | exact ⟨by simp, HB.out⟩
          · have f8 : (z != (N : Int) + 1) = true := by simpa using e2
            clear v3 v4 e1 e2
            go_wp2
            go_ret
            first | exact ⟨rfl, HB.out⟩ | exact ⟨by simp, HB.out⟩
        · have f6 : (z == 1) = false := by simpa using e1
          have f7 : (z != 1) = true := by simpa using e1
          by_cases e2 : z = (N : Int) + 1
          · have f8 : (z != (N : Int) + 1) = false := by simpa using e2
            clear v3 v4 e1 e2
            go_wp2
            go_ret
            first | exact ⟨rfl, HB.out⟩ | exact ⟨by simp, HB.out⟩
          · obtain rfl := v4 (by rw [Int.natCast_add]; exact e2) e1
            have f8 : (z != (N : Int) + 1) = true := by simpa using e2
            clear v3 v4 e1 e2
            go_wp2
            go_ret
            first | exact ⟨rfl, HB.out⟩ | exact ⟨by simp, HB.out⟩
  | true =>
    as_aux_lemma =>
    have V := countGame_is hg
    rw [hT] at V
    obtain ⟨v1, v2, v3, v4, v5, v6, v7⟩ := V
    have v0 := v1.1
    have c5 := IsStack_any p T w4 hp HT6.out
    rw [v4] at c5
    go_wp2_with fail
    refine c5.mono ?_
    rintro e w5 ⟨rfl, b5⟩
    clear c5
    replace hs := Own.same hs b5
    replace hp := Own.same hp b5
    have B5 := B4.trans (b5.mono B4.size)
    clear B4
    obtain ⟨K, rfl⟩ : ∃ K : Nat, k = (K : Int) := ⟨k.toNat, by omega⟩
    rw [Int.toNat_natCast] at v6
    have hmod := Nat.mod_lt K v0
    have cP := fun m => Calls.quiet_of (pSameQ_any p s T xs (w5.drewN m) (OwnI.ints (own_drewN hp m)) (OwnI.ints (own_drewN hs m)) HT6.out hx6)
    obtain ⟨sa, sc, rfl, _, _, _⟩ := hs.shape
    obtain ⟨sb, so, rfl, _, hc1, _⟩ := hs.at (by omega)
    obtain ⟨pa, pc, rfl, _, _, _⟩ := hp.shape
    obtain ⟨pb, po, rfl, _, hc2, _⟩ := hp.at (by omega)
    obtain ⟨z, hz⟩ : ∃ z, xs.getD (K % xs.length) 0 = z := ⟨_, rfl⟩
    rw [hz] at v6
    have d1 : w5.cell? ⟨sb, so + K % xs.length, none⟩ = some (.int .i64 z) := by rw [hc1 _ (by omega), List.getElem?_map, ← hz, List.getD_eq_getElem?_getD, List.getElem?_eq_getElem hmod]; rfl
    have d2 : w5.cell? ⟨pb, po, none⟩ = some (.int .i64 z) := by have h := hc2 0 (by omega); rw [Nat.add_zero, List.getElem?_map, v6] at h; exact h
    have e1 : ((K : Int) % (xs.length : Int)) = ((K % xs.length : Nat) : Int) := (Int.natCast_emod _ _).symm
    have e2 : ((K % xs.length : Nat) : Int) < (xs.length : Int) := by omega
    have e3 : (0 : Int) < (T.length : Int) := by omega
    have e4 : 0 < T.length := by omega
    have e5 : ((xs.length : Int) == 0) = false := beq_eq_false_iff_ne.2 (by omega)
    have e6 : ¬ ((xs.length : Int) = 0) := by omega
    have e7 : ¬ (xs = []) := fun e => by rw [e] at e6; simp at e6
    have HV7 := Lib.hid v7
    have HB := Lib.hid B5
    clear hc1 hc2 hs hp v1 v2 v3 v5 v6 v7 hz hT hg hmod B5
    by_cases hK : K = 0
    · as_aux_lemma =>
      have hTx := HV7.out (by omega)
      rw [decide_eq_true hTx] at cP
      subst hK
      clear HV7 hTx e1 e2
      rw [Nat.zero_mod, Nat.add_zero] at d1
      go_wp2
      go_loud (go_quiet ((go_at_call 15; exact cP _)))
      clear cP
      have B6 := HB.out.drewN nq
      obtain ⟨w6, hw9⟩ : ∃ z, w5.drewN nq = z := ⟨_, rfl⟩
      rw [hw9] at B6 ⊢
      clear hw9 d1 d2
      have hy := Byts.later H1.out B6
      go_wp2_with fail
      refine (DrawCardGame_any a1 n1 c1 w6 hy hn1).mono ?_
      rintro e w7 ⟨t, m, rfl, ys, ht, hyl, hm, b7⟩
      have B7 := B6.trans (b7.mono B6.size)
      have hy6 : ys.length ≤ 1048576 := by omega
      clear hy hyl b7 B6
      obtain ⟨g2, hg2⟩ : ∃ z, okCard ys m = z := ⟨_, rfl⟩
      obtain ⟨A, hA⟩ : ∃ z, mCardFirst ys m = z := ⟨_, rfl⟩
      obtain ⟨P, hP⟩ : ∃ z, mCardMore ys m = z := ⟨_, rfl⟩
      have c8 := CardGame_any t ys m w7 ht hy6
      rw [hA, hP, hg2] at c8
      go_wp2_with fail
      refine c8.mono ?_
      rintro e w8 ⟨rfl, b8⟩
      clear c8
      replace ht := Own.same ht b8
      have B8 := B7.trans (b8.mono B7.size)
      clear B7
      have c9 := sCardGame_any t ys m w8 ht hy6
      rw [hA, hP, hg2] at c9
      go_wp2_with fail
      refine c9.mono ?_
      rintro e w9 ⟨rfl, b9⟩
      clear c9
      replace ht := Own.same ht b9
      have B9 := B8.trans (b9.mono B8.size)
      clear B8
      cases g2 with
      | false =>
        as_aux_lemma =>
        clear ht hA hP hg2
        have hz := Byts.later H1.out B9
        go_wp2_with fail
        refine (DrawBottomGame_any a1 n1 c1 w9 hz hn1).mono ?_
        rintro e w10 ⟨u, rfl, zs, hu, hzl, b10⟩
        have B10 := B9.trans (b10.mono B9.size)
        have hz6 : zs.length ≤ 1048576 := by omega
        clear hz hzl b10 B9
        obtain ⟨g3, hg3⟩ : ∃ z, goodB zs = z := ⟨_, rfl⟩
        obtain ⟨M, hM⟩ : ∃ z, mBottomGame zs = z := ⟨_, rfl⟩
        have c11 := BottomGame_any u zs w10 hu hz6
        rw [hM, hg3] at c11
        go_wp2_with fail
        refine c11.mono ?_
        rintro e w11 ⟨rfl, b11⟩
        clear c11
        replace hu := Own.same hu b11
        have B11 := B10.trans (b11.mono B10.size)
        clear B10
        have c12 := sBottomGame_any u zs w11 hu hz6
        rw [hM, hg3] at c12
        go_wp2_with fail
        refine c12.mono ?_
        rintro e w12 ⟨rfl, b12⟩
        clear c12
        replace hu := Own.same hu b12
        have B12 := B11.trans (b12.mono B11.size)
        clear B11
        cases g3 with
        | false =>
          clear hu hM hg3 hz6
          go_wp2
          go_ret
          exact ⟨by simp, B12⟩
        | true =>
          have V := bottomGame_is hg3
          rw [hM] at V
          obtain ⟨v1, v2, v3, v4⟩ := V
          have v0 := v1.1
          obtain ⟨ub, uo, uc, rfl, hcu⟩ : ∃ b o c, u = .slice (some ⟨b, o, none⟩) zs.length c ∧ w12.cell? ⟨b, o + (zs.length - 1), none⟩ = some (.int .i64 (zs.getD (zs.length - 1) 0)) := by
            obtain ⟨ua, uc, rfl, _, _, _⟩ := hu.shape
            obtain ⟨b, o, rfl, _, hc, _⟩ := hu.at (by omega)
            refine ⟨b, o, uc, rfl, ?_⟩
            rw [hc _ (by omega), List.getElem?_map, List.getD_eq_getElem?_getD, List.getElem?_eq_getElem (show zs.length - 1 < zs.length by omega)]
            rfl
          have HC := Lib.hid hcu
          clear hu hcu
          obtain ⟨N, hN⟩ : ∃ N, zs.length = N + 1 := ⟨zs.length - 1, by omega⟩
          obtain ⟨z, hz⟩ : ∃ z, zs.getD (zs.length - 1) 0 = z := ⟨_, rfl⟩
          have hcu := HC.out
          rw [hz] at v3 v4 hcu
          rw [hN] at v4 hcu ⊢
          rw [Nat.add_sub_cancel] at hcu
          have hi1 : IntKind.i64.wrap (((N + 1 : Nat) : Int) - 1) = (N : Int) := by rw [IntKind.wrap_i64]; omega
          have hi2 : (((N + 1 : Nat) : Int) - 1) = (N : Int) := by omega
          have hi3 : (N : Int) < ((N + 1 : Nat) : Int) := by omega
          have hi4 : (0 : Int) ≤ (N : Int) := by omega
          have hi5 : N < N + 1 := by omega
          have hN9 : N < 1048576 := by omega
          have f5 : decide (M < 0) = false := decide_eq_false (by omega)
          have HB := Lib.hid B12
          clear B12 HC hN hz v0 v1 v2 hM hg3 hz6
          have hi6 : (N : Int) < (N : Int) + 1 := by omega
          by_cases e1 : z = 1
          · obtain rfl := v3 e1
            have f6 : (z == 1) = true := by simpa using e1
            have f7 : (z != 1) = false := by simpa using e1
            by_cases e2 : z = (N : Int) + 1
            · have f8 : (z != (N : Int) + 1) = false := by simpa using e2
              clear v3 v4 e1 e2
              go_wp2
              go_ret
              first | exact ⟨rfl, HB.out⟩ | exact ⟨by simp, HB.out⟩
            · have f8 : (z != (N : Int) + 1) = true := by simpa using e2
              clear v3 v4 e1 e2
              go_wp2
              go_ret
              first | exact ⟨rfl, HB.out⟩ | exact ⟨by simp, HB.out⟩
          · have f6 : (z == 1) = false := by simpa using e1
            have f7 : (z != 1) = true := by simpa using e1
            by_cases e2 : z = (N : Int) + 1
            · have f8 : (z != (N : Int) + 1) = false := by simpa using e2
              clear v3 v4 e1 e2
              go_wp2
              go_ret
              first | exact ⟨rfl, HB.out⟩ | exact ⟨by simp, HB.out⟩
            · obtain rfl := v4 (by rw [Int.natCast_add]; exact e2) e1
              have f8 : (z != (N : Int) + 1) = true := by simpa using e2
              clear v3 v4 e1 e2
              go_wp2
              go_ret
              first | exact ⟨rfl, HB.out⟩ | exact ⟨by simp, HB.out⟩
      | true =>
        as_aux_lemma =>
        have V := cardGame_is hg2
        rw [hA, hP] at V
        obtain ⟨rfl, v2, v3, v4, v5⟩ := V
        obtain ⟨P2, hP2⟩ : ∃ z, mCardMore ys (ys.length : Int) = z := ⟨_, rfl⟩
        rw [hP2] at v5
        have f1 : decide (P < 1) = false := decide_eq_false (by omega)
        have f2 : decide (2 < P2) = false := decide_eq_false (by omega)
        obtain ⟨ta, tc, rfl, _, _, _⟩ := ht.shape
        clear hA hP hg2 v2 v5
        have c10 := CardGame_any (.slice ta ys.length tc) ys (ys.length : Int) w9 ht hy6
        rw [v4, hP2, v3] at c10
        go_wp2_with fail
        refine c10.mono ?_
        rintro e w10 ⟨rfl, b10⟩
        clear c10
        replace ht := Own.same ht b10
        have B10 := B9.trans (b10.mono B9.size)
        clear B9
        clear ht v3 v4 hP2
        have hz := Byts.later H1.out B10
        go_wp2_with fail
        refine (DrawBottomGame_any a1 n1 c1 w10 hz hn1).mono ?_
        rintro e w11 ⟨u, rfl, zs, hu, hzl, b11⟩
        have B11 := B10.trans (b11.mono B10.size)
        have hz6 : zs.length ≤ 1048576 := by omega
        clear hz hzl b11 B10
        obtain ⟨g3, hg3⟩ : ∃ z, goodB zs = z := ⟨_, rfl⟩
        obtain ⟨M, hM⟩ : ∃ z, mBottomGame zs = z := ⟨_, rfl⟩
        have c12 := BottomGame_any u zs w11 hu hz6
        rw [hM, hg3] at c12
        go_wp2_with fail
        refine c12.mono ?_
        rintro e w12 ⟨rfl, b12⟩
        clear c12
        replace hu := Own.same hu b12
        have B12 := B11.trans (b12.mono B11.size)
        clear B11
        have c13 := sBottomGame_any u zs w12 hu hz6
        rw [hM, hg3] at c13
        go_wp2_with fail
        refine c13.mono ?_
        rintro e w13 ⟨rfl, b13⟩
        clear c13
        replace hu := Own.same hu b13
        have B13 := B12.trans (b13.mono B12.size)
        clear B12
        cases g3 with
        | false =>
          clear hu hM hg3 hz6
          go_wp2
          go_ret
          exact ⟨by simp, B13⟩
        | true =>
          have V := bottomGame_is hg3
          rw [hM] at V
          obtain ⟨v1, v2, v3, v4⟩ := V
          have v0 := v1.1
          obtain ⟨ub, uo, uc, rfl, hcu⟩ : ∃ b o c, u = .slice (some ⟨b, o, none⟩) zs.length c ∧ w13.cell? ⟨b, o + (zs.length - 1), none⟩ = some (.int .i64 (zs.getD (zs.length - 1) 0)) := by
            obtain ⟨ua, uc, rfl, _, _, _⟩ := hu.shape
            obtain ⟨b, o, rfl, _, hc, _⟩ := hu.at (by omega)
            refine ⟨b, o, uc, rfl, ?_⟩
            rw [hc _ (by omega), List.getElem?_map, List.getD_eq_getElem?_getD, List.getElem?_eq_getElem (show zs.length - 1 < zs.length by omega)]
            rfl
          have HC := Lib.hid hcu
          clear hu hcu
          obtain ⟨N, hN⟩ : ∃ N, zs.length = N + 1 := ⟨zs.length - 1, by omega⟩
          obtain ⟨z, hz⟩ : ∃ z, zs.getD (zs.length - 1) 0 = z := ⟨_, rfl⟩
          have hcu := HC.out
          rw [hz] at v3 v4 hcu
          rw [hN] at v4 hcu ⊢
          rw [Nat.add_sub_cancel] at hcu
          have hi1 : IntKind.i64.wrap (((N + 1 : Nat) : Int) - 1) = (N : Int) := by rw [IntKind.wrap_i64]; omega
          have hi2 : (((N + 1 : Nat) : Int) - 1) = (N : Int) := by omega
          have hi3 : (N : Int) < ((N + 1 : Nat) : Int) := by omega
          have hi4 : (0 : Int) ≤ (N : Int) := by omega
          have hi5 : N < N + 1 := by omega
          have hN9 : N < 1048576 := by omega
          have f5 : decide (M < 0) = false := decide_eq_false (by omega)
          have HB := Lib.hid B13
          clear B13 HC hN hz v0 v1 v2 hM hg3 hz6
          have hi6 : (N : Int) < (N : Int) + 1 := by omega
          by_cases e1 : z = 1
          · obtain rfl := v3 e1
            have f6 : (z == 1) = true := by simpa using e1
            have f7 : (z != 1) = false := by simpa using e1
            by_cases e2 : z = (N : Int) + 1
            · have f8 : (z != (N : Int) + 1) = false := by simpa using e2
              clear v3 v4 e1 e2
              go_wp2
              go_ret
              first | exact ⟨rfl, HB.out⟩ | exact ⟨by simp, HB.out⟩
            · have f8 : (z != (N : Int) + 1) = true := by simpa using e2
              clear v3 v4 e1 e2
              go_wp2
              go_ret
              first | exact ⟨rfl, HB.out⟩ | exact ⟨by simp, HB.out⟩
          · have f6 : (z == 1) = false := by simpa using e1
            have f7 : (z != 1) = true := by simpa using e1
            by_cases e2 : z = (N : Int) + 1
            · have f8 : (z != (N : Int) + 1) = false := by simpa using e2
              clear v3 v4 e1 e2
              go_wp2
              go_ret
              first | exact ⟨rfl, HB.out⟩ | exact ⟨by simp, HB.out⟩
            · obtain rfl := v4 (by rw [Int.natCast_add]; exact e2) e1
              have f8 : (z != (N : Int) + 1) = true := by simpa using e2
              clear v3 v4 e1 e2
              go_wp2
              go_ret
              first | exact ⟨rfl, HB.out⟩ | exact ⟨by simp, HB.out⟩
    · as_aux_lemma =>
      have f9 : ((K : Int) == 0) = false := beq_eq_false_iff_ne.2 (by omega)
      obtain ⟨r, hr⟩ : ∃ r, K % xs.length = r := ⟨_, rfl⟩
      rw [hr] at e1 e2 d1
      have e8 : ((K : Int).tmod (xs.length : Int)) = (r : Int) := by rw [Int.tmod_eq_emod_of_nonneg (by omega)]; exact e1
      clear HV7 hr
      go_wp2
      go_quiet (fail)
      clear cP
      have B6 := HB.out.drewN nq
      obtain ⟨w6, hw9⟩ : ∃ z, w5.drewN nq = z := ⟨_, rfl⟩
      rw [hw9] at B6 ⊢
      clear hw9 d1 d2
      have hy := Byts.later H1.out B6
      go_wp2_with fail
      refine (DrawCardGame_any a1 n1 c1 w6 hy hn1).mono ?_
      rintro e w7 ⟨t, m, rfl, ys, ht, hyl, hm, b7⟩
      have B7 := B6.trans (b7.mono B6.size)
      have hy6 : ys.length ≤ 1048576 := by omega
      clear hy hyl b7 B6
      obtain ⟨g2, hg2⟩ : ∃ z, okCard ys m = z := ⟨_, rfl⟩
      obtain ⟨A, hA⟩ : ∃ z, mCardFirst ys m = z := ⟨_, rfl⟩
      obtain ⟨P, hP⟩ : ∃ z, mCardMore ys m = z := ⟨_, rfl⟩
      have c8 := CardGame_any t ys m w7 ht hy6
      rw [hA, hP, hg2] at c8
      go_wp2_with fail
      refine c8.mono ?_
      rintro e w8 ⟨rfl, b8⟩
      clear c8
      replace ht := Own.same ht b8
      have B8 := B7.trans (b8.mono B7.size)
      clear B7
      have c9 := sCardGame_any t ys m w8 ht hy6
      rw [hA, hP, hg2] at c9
      go_wp2_with fail
      refine c9.mono ?_
      rintro e w9 ⟨rfl, b9⟩
      clear c9
      replace ht := Own.same ht b9
      have B9 := B8.trans (b9.mono B8.size)
      clear B8
      cases g2 with
      | false =>
        as_aux_lemma =>
        clear ht hA hP hg2
        have hz := Byts.later H1.out B9
        go_wp2_with fail
        refine (DrawBottomGame_any a1 n1 c1 w9 hz hn1).mono ?_
        rintro e w10 ⟨u, rfl, zs, hu, hzl, b10⟩
        have B10 := B9.trans (b10.mono B9.size)
        have hz6 : zs.length ≤ 1048576 := by omega
        clear hz hzl b10 B9
        obtain ⟨g3, hg3⟩ : ∃ z, goodB zs = z := ⟨_, rfl⟩
        obtain ⟨M, hM⟩ : ∃ z, mBottomGame zs = z := ⟨_, rfl⟩
        have c11 := BottomGame_any u zs w10 hu hz6
        rw [hM, hg3] at c11
        go_wp2_with fail
        refine c11.mono ?_
        rintro e w11 ⟨rfl, b11⟩
        clear c11
        replace hu := Own.same hu b11
        have B11 := B10.trans (b11.mono B10.size)
        clear B10
        have c12 := sBottomGame_any u zs w11 hu hz6
        rw [hM, hg3] at c12
        go_wp2_with fail
        refine c12.mono ?_
        rintro e w12 ⟨rfl, b12⟩
        clear c12
        replace hu := Own.same hu b12
        have B12 := B11.trans (b12.mono B11.size)
        clear B11
        cases g3 with
        | false =>
          clear hu hM hg3 hz6
          go_wp2
          go_ret
          exact ⟨by simp, B12⟩
        | true =>
          have V := bottomGame_is hg3
          rw [hM] at V
          obtain ⟨v1, v2, v3, v4⟩ := V
          have v0 := v1.1
          obtain ⟨ub, uo, uc, rfl, hcu⟩ : ∃ b o c, u = .slice (some ⟨b, o, none⟩) zs.length c ∧ w12.cell? ⟨b, o + (zs.length - 1), none⟩ = some (.int .i64 (zs.getD (zs.length - 1) 0)) := by
            obtain ⟨ua, uc, rfl, _, _, _⟩ := hu.shape
            obtain ⟨b, o, rfl, _, hc, _⟩ := hu.at (by omega)
            refine ⟨b, o, uc, rfl, ?_⟩
            rw [hc _ (by omega), List.getElem?_map, List.getD_eq_getElem?_getD, List.getElem?_eq_getElem (show zs.length - 1 < zs.length by omega)]
            rfl
          have HC := Lib.hid hcu
          clear hu hcu
          obtain ⟨N, hN⟩ : ∃ N, zs.length = N + 1 := ⟨zs.length - 1, by omega⟩
          obtain ⟨z, hz⟩ : ∃ z, zs.getD (zs.length - 1) 0 = z := ⟨_, rfl⟩
          have hcu := HC.out
          rw [hz] at v3 v4 hcu
          rw [hN] at v4 hcu ⊢
          rw [Nat.add_sub_cancel] at hcu
          have hi1 : IntKind.i64.wrap (((N + 1 : Nat) : Int) - 1) = (N : Int) := by rw [IntKind.wrap_i64]; omega
          have hi2 : (((N + 1 : Nat) : Int) - 1) = (N : Int) := by omega
          have hi3 : (N : Int) < ((N + 1 : Nat) : Int) := by omega
          have hi4 : (0 : Int) ≤ (N : Int) := by omega
          have hi5 : N < N + 1 := by omega
          have hN9 : N < 1048576 := by omega
          have f5 : decide (M < 0) = false := decide_eq_false (by omega)
          have HB := Lib.hid B12
          clear B12 HC hN hz v0 v1 v2 hM hg3 hz6
          have hi6 : (N : Int) < (N : Int) + 1 := by omega
          by_cases e1 : z = 1
          · obtain rfl := v3 e1
            have f6 : (z == 1) = true := by simpa using e1
            have f7 : (z != 1) = false := by simpa using e1
            by_cases e2 : z = (N : Int) + 1
            · have f8 : (z != (N : Int) + 1) = false := by simpa using e2
              clear v3 v4 e1 e2
              go_wp2
              go_ret
              first | exact ⟨rfl, HB.out⟩ | exact ⟨by simp, HB.out⟩
            · have f8 : (z != (N : Int) + 1) = true := by simpa using e2
              clear v3 v4 e1 e2
              go_wp2
              go_ret
              first | exact ⟨rfl, HB.out⟩ | exact ⟨by simp, HB.out⟩
          · have f6 : (z == 1) = false := by simpa using e1
            have f7 : (z != 1) = true := by simpa using e1
            by_cases e2 : z = (N : Int) + 1
            · have f8 : (z != (N : Int) + 1) = false := by simpa using e2
              clear v3 v4 e1 e2
              go_wp2
              go_ret
              first | exact ⟨rfl, HB.out⟩ | exact ⟨by simp, HB.out⟩
            · obtain rfl := v4 (by rw [Int.natCast_add]; exact e2) e1
              have f8 : (z != (N : Int) + 1) = true := by simpa using e2
              clear v3 v4 e1 e2
              go_wp2
              go_ret
              first | exact ⟨rfl, HB.out⟩ | exact ⟨by simp, HB.out⟩
      | true =>
        as_aux_lemma =>
        have V := cardGame_is hg2
        rw [hA, hP] at V
        obtain ⟨rfl, v2, v3, v4, v5⟩ := V
        obtain ⟨P2, hP2⟩ : ∃ z, mCardMore ys (ys.length : Int) = z := ⟨_, rfl⟩
        rw [hP2] at v5
        have f1 : decide (P < 1) = false := decide_eq_false (by omega)
        have f2 : decide (2 < P2) = false := decide_eq_false (by omega)
        obtain ⟨ta, tc, rfl, _, _, _⟩ := ht.shape
        clear hA hP hg2 v2 v5
        have c10 := CardGame_any (.slice ta ys.length tc) ys (ys.length : Int) w9 ht hy6
        rw [v4, hP2, v3] at c10
        go_wp2_with fail
        refine c10.mono ?_
        rintro e w10 ⟨rfl, b10⟩
        clear c10
        replace ht := Own.same ht b10
        have B10 := B9.trans (b10.mono B9.size)
        clear B9
        clear ht v3 v4 hP2
        have hz := Byts.later H1.out B10
        go_wp2_with fail
        refine (DrawBottomGame_any a1 n1 c1 w10 hz hn1).mono ?_
        rintro e w11 ⟨u, rfl, zs, hu, hzl, b11⟩
        have B11 := B10.trans (b11.mono B10.size)
        have hz6 : zs.length ≤ 1048576 := by omega
        clear hz hzl b11 B10
        obtain ⟨g3, hg3⟩ : ∃ z, goodB zs = z := ⟨_, rfl⟩
        obtain ⟨M, hM⟩ : ∃ z, mBottomGame zs = z := ⟨_, rfl⟩
        have c12 := BottomGame_any u zs w11 hu hz6
        rw [hM, hg3] at c12
        go_wp2_with fail
        refine c12.mono ?_
        rintro e w12 ⟨rfl, b12⟩
        clear c12
        replace hu := Own.same hu b12
        have B12 := B11.trans (b12.mono B11.size)
        clear B11
        have c13 := sBottomGame_any u zs w12 hu hz6
        rw [hM, hg3] at c13
        go_wp2_with fail
        refine c13.mono ?_
        rintro e w13 ⟨rfl, b13⟩
        clear c13
        replace hu := Own.same hu b13
        have B13 := B12.trans (b13.mono B12.size)
        clear B12
        cases g3 with
        | false =>
          clear hu hM hg3 hz6
          go_wp2
          go_ret
          exact ⟨by simp, B13⟩
        | true =>
          have V := bottomGame_is hg3
          rw [hM] at V
          obtain ⟨v1, v2, v3, v4⟩ := V
          have v0 := v1.1
          obtain ⟨ub, uo, uc, rfl, hcu⟩ : ∃ b o c, u = .slice (some ⟨b, o, none⟩) zs.length c ∧ w13.cell? ⟨b, o + (zs.length - 1), none⟩ = some (.int .i64 (zs.getD (zs.length - 1) 0)) := by
            obtain ⟨ua, uc, rfl, _, _, _⟩ := hu.shape
            obtain ⟨b, o, rfl, _, hc, _⟩ := hu.at (by omega)
            refine ⟨b, o, uc, rfl, ?_⟩
            rw [hc _ (by omega), List.getElem?_map, List.getD_eq_getElem?_getD, List.getElem?_eq_getElem (show zs.length - 1 < zs.length by omega)]
            rfl
          have HC := Lib.hid hcu
          clear hu hcu
          obtain ⟨N, hN⟩ : ∃ N, zs.length = N + 1 := ⟨zs.length - 1, by omega⟩
          obtain ⟨z, hz⟩ : ∃ z, zs.getD (zs.length - 1) 0 = z := ⟨_, rfl⟩
          have hcu := HC.out
          rw [hz] at v3 v4 hcu
          rw [hN] at v4 hcu ⊢
          rw [Nat.add_sub_cancel] at hcu
          have hi1 : IntKind.i64.wrap (((N + 1 : Nat) : Int) - 1) = (N : Int) := by rw [IntKind.wrap_i64]; omega
          have hi2 : (((N + 1 : Nat) : Int) - 1) = (N : Int) := by omega
          have hi3 : (N : Int) < ((N + 1 : Nat) : Int) := by omega
          have hi4 : (0 : Int) ≤ (N : Int) := by omega
          have hi5 : N < N + 1 := by omega
          have hN9 : N < 1048576 := by omega
          have f5 : decide (M < 0) = false := decide_eq_false (by omega)
          have HB := Lib.hid B13
          clear B13 HC hN hz v0 v1 v2 hM hg3 hz6
          have hi6 : (N : Int) < (N : Int) + 1 := by omega
          by_cases e1 : z = 1
          · obtain rfl := v3 e1
            have f6 : (z == 1) = true := by simpa using e1
            have f7 : (z != 1) = false := by simpa using e1
            by_cases e2 : z = (N : Int) + 1
            · have f8 : (z != (N : Int) + 1) = false := by simpa using e2
              clear v3 v4 e1 e2
              go_wp2
              go_ret
              first | exact ⟨rfl, HB.out⟩ | exact ⟨by simp, HB.out⟩
            · have f8 : (z != (N : Int) + 1) = true := by simpa using e2
              clear v3 v4 e1 e2
              go_wp2
              go_ret
              first | exact ⟨rfl, HB.out⟩ | exact ⟨by simp, HB.out⟩
          · have f6 : (z == 1) = false := by simpa using e1
            have f7 : (z != 1) = true := by simpa using e1
            by_cases e2 : z = (N : Int) + 1
            · have f8 : (z != (N : Int) + 1) = false := by simpa using e2
              clear v3 v4 e1 e2
              go_wp2
              go_ret
              first | exact ⟨rfl, HB.out⟩ | exact ⟨by simp, HB.out⟩
            · obtain rfl := v4 (by rw [Int.natCast_add]; exact e2) e1
              have f8 : (z != (N : Int) + 1) = true := by simpa using e2
              clear v3 v4 e1 e2
              go_wp2
              go_ret
              first | exact ⟨rfl, HB.out⟩ | exact ⟨by simp, HB.out⟩
end Go.Proofs.Ytlomdnldokbjoaa
