import Derived.Test.YtdlnniciccpchaaI25
import Derived.Test.YtdlnniciccpchaaS32
import Derived.Test.YtdlnniciccpchaaLyX
import Derived.Test.YtdlnniciccpchaaLz
namespace Go.Proofs.Ytdlnniciccpchaa
open Go Go.RowKit Go.Pan

set_option maxRecDepth 100000 in
set_option maxHeartbeats 16000000 in
theorem walk_FnLayersOfStacks (a0 : Option Addr) (n0 c0 : Nat) (a1 : Option Addr) (n1 c1 : Nat) (w : World) (h0 : Byts w (.slice a0 n0 c0) n0 w.heap.size) (hn0 : n0 ≤ maxLen) (h1 : Byts w (.slice a1 n1 c1) n1 w.heap.size) (hn1 : n1 ≤ maxLen) :
    Calls Try.prog 4 #[.slice a0 n0 c0, .slice a1 n1 c1] w fun e w' => e = .returned (.bool true) ∧ Below w.heap.size w w' := by
  go_enter Try.func4, Try.ntmps4
  go_wp2_with fail
  refine (big_any a0 a1 n0 n1 c0 c1 w hn0 hn1).mono ?_
  rintro e w' ⟨b, rfl, rfl⟩
  cases b with
  | true =>
    go_wp2
    go_ret
    exact ⟨rfl, Below.refl _ _⟩
  | false =>
  have B0 : Below w'.heap.size w' w' := Below.refl _ _
  have H1 := Lib.hid h1
  clear h1
  go_wp2_with fail
  refine (DrawWorstStacks_any a0 n0 c0 w' h0 hn0).mono ?_
  rintro e w1 ⟨n, rfl, hnb, B1⟩
  clear B0 h0
  obtain ⟨g, hg⟩ : ∃ z, inB n 1 7 = z := ⟨_, rfl⟩
  obtain ⟨M, hM⟩ : ∃ z, mWorstStacks n = z := ⟨_, rfl⟩
  obtain ⟨L, hL⟩ : ∃ z, mCountByTurns n = z := ⟨_, rfl⟩
  obtain ⟨D, hD⟩ : ∃ z, mWorstDistance n = z := ⟨_, rfl⟩
  have HM6 := Lib.hid (show M.length ≤ 1048576 by rw [← hM]; exact len_mWorstStacks _)
  have HR6 := Lib.hid (show ∀ q ∈ M, q.length ≤ 1048576 by rw [← hM]; exact rows_mWorstStacks _)
  have HL6 := Lib.hid (show L.length ≤ 1048576 by rw [← hL]; exact len_mCountByTurns _)
  have c2 := WorstStacks_any n w1
  rw [hM, hg] at c2
  go_wp2_with fail
  refine c2.mono ?_
  rintro e w2 ⟨p, ps, rfl, hp, b2⟩
  clear c2
  have B2 := B1.trans (b2.mono B1.size)
  clear B1
  have np : w2.heap.size ≤ w2.heap.size := Nat.le_refl _
  have c3 := sWorstStacks_any n w2
  rw [hM, hg] at c3
  go_wp2_with fail
  refine c3.mono ?_
  rintro e w3 ⟨q, qs, rfl, hq, b3⟩
  clear c3
  have B3 := B2.trans (b3.mono B2.size)
  clear B2
  replace hp := hp.below b3 np
  replace np := Nat.le_trans np b3.size
  have nq : w3.heap.size ≤ w3.heap.size := Nat.le_refl _
  have c4 := CountByTurns_any n w3
  rw [hL, hg] at c4
  go_wp2_with fail
  refine c4.mono ?_
  rintro e w4 ⟨c, rfl, hc, _, b4⟩
  clear c4
  have B4 := B3.trans (b4.mono B3.size)
  clear B3
  replace hp := hp.below b4 np
  replace hq := hq.below b4 nq
  replace np := Nat.le_trans np b4.size
  replace nq := Nat.le_trans nq b4.size
  have c5 := sCountByTurns_any n w4
  rw [hL, hg] at c5
  go_wp2_with fail
  refine c5.mono ?_
  rintro e w5 ⟨d, rfl, hd, _, b5⟩
  clear c5
  replace hc := Own.same hc b5
  have B5 := B4.trans (b5.mono B4.size)
  clear B4
  replace hp := hp.below b5 np
  replace hq := hq.below b5 nq
  replace np := Nat.le_trans np b5.size
  replace nq := Nat.le_trans nq b5.size
  have c6 := WorstDistance_any n w5
  rw [hD, hg] at c6
  go_wp2_with fail
  refine c6.mono ?_
  rintro e w6 ⟨rfl, b6⟩
  clear c6
  replace hc := Own.same hc b6
  replace hd := Own.same hd b6
  have B6 := B5.trans (b6.mono B5.size)
  clear B5
  replace hp := hp.below b6 np
  replace hq := hq.below b6 nq
  replace np := Nat.le_trans np b6.size
  replace nq := Nat.le_trans nq b6.size
  have c7 := sWorstDistance_any n w6
  rw [hD, hg] at c7
  go_wp2_with fail
  refine c7.mono ?_
  rintro e w7 ⟨rfl, b7⟩
  clear c7
  replace hc := Own.same hc b7
  replace hd := Own.same hd b7
  have B7 := B6.trans (b7.mono B6.size)
  clear B6
  replace hp := hp.below b7 np
  replace hq := hq.below b7 nq
  replace np := Nat.le_trans np b7.size
  replace nq := Nat.le_trans nq b7.size
  go_wp2_with fail
  refine (fRows_any p q _ _ _ _ ps qs M w7 hp np hq nq HM6.out HR6.out).mono ?_
  rintro e w8 ⟨rfl, b8⟩
  replace hc := Own.same hc b8
  replace hd := Own.same hd b8
  have B8 := B7.trans (b8.mono B7.size)
  clear B7
  replace hp := hp.below b8 np
  replace hq := hq.below b8 nq
  replace np := Nat.le_trans np b8.size
  replace nq := Nat.le_trans nq b8.size
  go_wp2_with fail
  refine (fSame_any c d L L w8 (OwnI.ints hc) (OwnI.ints hd) HL6.out HL6.out).mono ?_
  rintro e w9 ⟨rfl, b9⟩
  replace hc := Own.same hc b9
  replace hd := Own.same hd b9
  have B9 := B8.trans (b9.mono B8.size)
  clear B8
  replace hp := hp.below b9 np
  replace hq := hq.below b9 nq
  replace np := Nat.le_trans np b9.size
  replace nq := Nat.le_trans nq b9.size
  clear hq nq hd
  cases g with
  | false =>
    as_aux_lemma =>
    clear hp np hc hM hL hD hg HM6 HR6 HL6
    have hy := Byts.later H1.out B9
    go_wp2_with fail
    refine (DrawCountClosedPlans_any a1 n1 c1 w9 hy hn1).mono ?_
    rintro e w10 ⟨m, k, rfl, hm, hk, b10⟩
    have B10 := B9.trans (b10.mono B9.size)
    clear hy b10 B9
    obtain ⟨g2, hg2⟩ : ∃ z, closedB m k = z := ⟨_, rfl⟩
    obtain ⟨C, hC⟩ : ∃ z, mCountClosedPlans m k = z := ⟨_, rfl⟩
    have c11 := CountClosedPlans_any m k w10
    rw [hC, hg2] at c11
    go_wp2_with fail
    refine c11.mono ?_
    rintro e w11 ⟨rfl, b11⟩
    clear c11
    have B11 := B10.trans (b11.mono B10.size)
    clear B10
    have c12 := sCountClosedPlans_any m k w11
    rw [hC, hg2] at c12
    go_wp2_with fail
    refine c12.mono ?_
    rintro e w12 ⟨rfl, b12⟩
    clear c12
    have B12 := B11.trans (b12.mono B11.size)
    clear B11
    cases g2 with
    | false =>
      clear hg2 hC hm hk
      go_wp2
      go_ret
      exact ⟨by simp, B12⟩
    | true =>
      have V := closed_is hg2
      rw [hC] at V
      obtain ⟨i, j, rfl, rfl, v1, v2, v3, v4, v5, v6, v7, v8⟩ := V
      have HB := Lib.hid B12
      clear hg2 hC hm hk B12
      have f0 : (i : Int) - 1 = IntKind.i64.wrap ((i : Int) - 1) := by rw [IntKind.wrap_i64]; omega
      have W4 := Lib.hid v4
      have W5 := Lib.hid v5
      have W6 := Lib.hid v6
      have W7 := Lib.hid v7
      have W8 := Lib.hid v8
      clear v4 v5 v6 v7 v8
      by_cases j0 : j = 0
      · obtain rfl := W4.out j0
        subst j0
        by_cases i2 : i = 2
        · subst i2; clear W4 W5 W6 W7 W8; go_wp2; go_ret; exact ⟨by simp, HB.out⟩
        · have g2 : ((i : Int) == 2) = false := beq_eq_false_iff_ne.2 (by omega)
          by_cases i1 : i = 1
          · subst i1; clear W4 W5 W6 W7 W8 g2 i2; go_wp2; go_ret; exact ⟨by simp, HB.out⟩
          · have g1 : ((i : Int) == 1) = false := beq_eq_false_iff_ne.2 (by omega)
            clear W4 W5 W6 W7 W8 i1 i2 f0
            go_wp2
            go_ret
            exact ⟨by simp, HB.out⟩
      · have k0 : ((j : Int) == 0) = false := beq_eq_false_iff_ne.2 (by omega)
        have kp : decide ((0 : Int) < (j : Int)) = true := decide_eq_true (by omega)
        obtain ⟨t1, ht1⟩ : ∃ b : Bool, ((j : Int) == 1) = b := ⟨_, rfl⟩
        obtain ⟨t2, ht2⟩ : ∃ b : Bool, ((j : Int) == 2) = b := ⟨_, rfl⟩
        obtain ⟨t3, ht3⟩ : ∃ b : Bool, ((i : Int) == 2) = b := ⟨_, rfl⟩
        obtain ⟨t4, ht4⟩ : ∃ b : Bool, ((i : Int) == 1) = b := ⟨_, rfl⟩
        have r1 : t1 = true → (C != 0) = false := fun e => by subst e; have h := beq_iff_eq.1 ht1; have := W5.out (by omega); simp [this]
        have r2 : t2 = true → (C != (i : Int) - 1) = false := fun e => by subst e; have h := beq_iff_eq.1 ht2; have := W6.out (by omega); simp [this]
        have r3 : t3 = true → (C != 1 - (j : Int) % 2) = false := fun e => by subst e; have h := beq_iff_eq.1 ht3; have := W7.out (by omega); simp [this]
        have r4 : t4 = true → (C != 0) = false := fun e => by subst e; have h := beq_iff_eq.1 ht4; have := W8.out (by omega) (by omega); simp [this]
        have e1 : IntKind.i64.wrap ((i : Int) - 1) = (i : Int) - 1 := f0.symm
        have e2 : (j : Int).tmod 2 = (j : Int) % 2 := Int.tmod_eq_emod_of_nonneg (by omega)
        have e3 : IntKind.i64.wrap (1 - (j : Int) % 2) = 1 - (j : Int) % 2 := by rw [IntKind.wrap_i64]; omega
        clear W4 W5 W6 W7 W8 f0
        have n12 : ¬ (t1 = true ∧ t2 = true) := fun ⟨e, e2⟩ => by subst e; subst e2; have h := beq_iff_eq.1 ht1; have h2 := beq_iff_eq.1 ht2; omega
        have n34 : ¬ (t3 = true ∧ t4 = true) := fun ⟨e, e2⟩ => by subst e; subst e2; have h := beq_iff_eq.1 ht3; have h2 := beq_iff_eq.1 ht4; omega
        cases t1 <;> cases t2 <;> cases t3 <;> cases t4
        all_goals (first | exact absurd ⟨rfl, rfl⟩ n12 | exact absurd ⟨rfl, rfl⟩ n34 | skip)
        all_goals (first | (have s1 := r1 rfl) | skip)
        all_goals (first | (have s2 := r2 rfl) | skip)
        all_goals (first | (have s3 := r3 rfl) | skip)
        all_goals (first | (have s4 := r4 rfl) | skip)
        all_goals (clear r1 r2 r3 r4 n12 n34; go_wp2; go_ret; exact ⟨by first | rfl | simp, HB.out⟩)
  | true =>
    as_aux_lemma =>
    have V := layers_is hg
    rw [hM, hL, hD] at V
    obtain ⟨m, rfl, hm, h7, ⟨d, rfl, hd14, v1, v2, v3, v4, v5⟩, v6, v7, v8⟩ := V
    have hm1 := hm.pos
    have HV1 := Lib.hid v1
    have HV3 := Lib.hid v3
    have HV4 := Lib.hid v4
    have HV5 := Lib.hid v5
    have HV6 := Lib.hid v6
    have HV7 := Lib.hid v7
    have HV8 := Lib.hid v8
    have f1 : ((L.length : Int) != (d : Int) + 1) = false := by rw [bne_eq_false_iff_eq]; omega
    have e1 : IntKind.i64.wrap ((d : Int) + 1) = (d : Int) + 1 := by rw [IntKind.wrap_i64]; omega
    clear v1 v3 v4 v5 v6 v7 v8
    obtain ⟨ca, cc, rfl, _, _, _⟩ := hc.shape
    have c10 := fSum_any (.slice ca L.length cc) L w9 (OwnI.ints hc) HL6.out (fun x hx => by have := HV8.out x hx; omega)
    rw [v2] at c10
    go_wp2_with fail
    refine c10.mono ?_
    rintro e w10 ⟨rfl, b10⟩
    clear c10
    replace hc := Own.same hc b10
    have B10 := B9.trans (b10.mono B9.size)
    clear B9
    replace hp := hp.below b10 np
    replace np := Nat.le_trans np b10.size
    clear v2
    go_wp2_with fail
    refine (fFactorial_any m w10 hm1 (by omega)).mono ?_
    rintro e w11 ⟨rfl, hwe⟩
    subst hwe
    have v1 := HV1.out
    have v3 := HV3.out
    have v4 := HV4.out
    have v5 := HV5.out
    clear HV1 HV3 HV5 HV8
    obtain ⟨gc, oc, rfl, _, hcl, _⟩ := hc.at (by omega)
    have d0 : w11.cell? ⟨gc, oc, none⟩ = some (.int .i64 1) := by have h := hcl 0 (by omega); rw [Nat.add_zero, List.getElem?_map, v3] at h; exact h
    have hdl : L.length = d + 1 := v1
    have d2 : w11.cell? ⟨gc, oc + d, none⟩ = some (.int .i64 (M.length : Int)) := by have h := hcl d (by omega); rw [List.getElem?_map, v5] at h; exact h
    have hd1 : (d : Int) < (L.length : Int) := by omega
    have hd2 : (0 : Int) < (L.length : Int) := by omega
    have hd3 : d < L.length := by omega
    have hd4 : 0 < L.length := by omega
    have z0 : ((M.length : Int) != (M.length : Int)) = false := by simp
    have z1 : ((fact m : Int) != (fact m : Int)) = false := by simp
    have HB := Lib.hid B10
    obtain ⟨pa, pc, rfl, _, _, _⟩ := hp.own.shape
    have hpl := hp.len
    rw [hpl] at hp ⊢
    obtain ⟨LL, hLL⟩ : ∃ z, L.length = z := ⟨_, rfl⟩
    have hcl1 := fun h : 1 < m => (show w11.cell? ⟨gc, oc + 1, none⟩ = some (.int .i64 ((m : Int) - 1)) by have h2 := hcl 1 (by have h3 := v4 h; obtain ⟨h4, _⟩ := List.getElem?_eq_some_iff.1 h3; omega); rw [List.getElem?_map, v4 h] at h2; exact h2)
    have hl1 := fun h : 1 < m => (show 1 < L.length by have h3 := v4 h; obtain ⟨h4, _⟩ := List.getElem?_eq_some_iff.1 h3; omega)
    have HC1 := Lib.hid hcl1
    have HL1 := Lib.hid hl1
    have HPL := Lib.hid hpl
    have HP := Lib.hid hp
    have HNP := Lib.hid np
    clear hcl1 hl1 hpl hp np hcl hc v1 v3 v4 v5 hdl hM hL hD hg HL6 HV4 B10
    by_cases hm2 : 1 < m
    · as_aux_lemma =>
      have d1 := HC1.out hm2
      have hl3 := HL1.out hm2
      have g1 : decide ((1 : Int) < (m : Int)) = true := decide_eq_true (by omega)
      have hl4 : (1 : Int) < (L.length : Int) := by omega
      have ez : IntKind.i64.wrap ((m : Int) - 1) = (m : Int) - 1 := by rw [IntKind.wrap_i64]; omega
      rw [hLL] at hd1 hd2 hd3 hd4 hl3 hl4 f1 ⊢
      clear HC1 HL1 hLL
      go_wp2
      go_loopw [146] (fun i wr => ∃ k : Nat, i = .int .i64 (k : Int) ∧ k ≤ M.length ∧ Hid (SS wr w1.heap.size w2.heap.size (.slice pa M.length pc) ps M) ∧ w2.heap.size ≤ wr.heap.size ∧ Below w'.heap.size w' wr) (fun i _ => M.length - (intOf i).toNat)
      case atStart => exact ⟨0, rfl, Nat.zero_le _, HP, HNP.out, HB.out⟩
      case round =>
        as_aux_lemma =>
        have hM6 := HM6.out
        obtain ⟨k, rfl, hk, hS, hN, hB⟩ := hrel
        clear HP HB HNP
        by_cases hlt : k < M.length
        · obtain ⟨g, off, rfl, y, hy, hoy, _, _, hcell⟩ := hS.out.at k hlt
          as_aux_lemma =>
          obtain ⟨ay, cy, rfl, _, _, _⟩ := hoy.shape
          have hyl := HR6.out _ (List.getElem_mem hlt)
          obtain ⟨u1, u2, u3⟩ := HV6.out _ (List.getElem_mem hlt)
          have hltI : (k : Int) < (M.length : Int) := by omega
          obtain ⟨Y, hY⟩ : ∃ z, M[k] = z := ⟨_, rfl⟩
          rw [hY] at hoy hyl u1 u2 u3 hcell
          have cD := StackDistance_any _ Y wr hoy hyl
          rw [u2, u3] at cD
          clear u1 u2 u3 hoy hy hyl hY
          have ew : IntKind.i64.wrap ((M.length : Int) - 1) = (M.length : Int) - 1 := by rw [IntKind.wrap_i64]; omega
          by_cases h2 : 2 < k
          · have q1 : decide ((2 : Int) < (k : Int)) = true := decide_eq_true (by omega)
            by_cases h3 : (k : Int) < (M.length : Int) - 1
            · have q2 : decide ((k : Int) < (M.length : Int) - 1) = true := decide_eq_true h3
              clear cD
              go_wp2
              go_roundw
              case rel => exact ⟨k + 1, by go_num, by omega, hS, hN, hB⟩
              case measure => simp [intOf]; omega
            · have q2 : decide ((k : Int) < (M.length : Int) - 1) = false := decide_eq_false h3
              go_wp2_with fail
              refine cD.mono ?_
              rintro e wy ⟨rfl, by1⟩
              have hS2 := Lib.hid (hS.out.below by1 hN)
              have hN2 := Nat.le_trans hN by1.size
              have hB2 := hB.trans (by1.mono hB.size)
              clear cD
              go_wp2
              go_roundw
              case rel => exact ⟨k + 1, by go_num, by omega, hS2, hN2, hB2⟩
              case measure => simp [intOf]; omega
          · have q1 : decide ((2 : Int) < (k : Int)) = false := decide_eq_false (by omega)
            go_wp2_with fail
            refine cD.mono ?_
            rintro e wy ⟨rfl, by1⟩
            have hS2 := Lib.hid (hS.out.below by1 hN)
            have hN2 := Nat.le_trans hN by1.size
            have hB2 := hB.trans (by1.mono hB.size)
            clear cD
            go_wp2
            go_roundw
            case rel => exact ⟨k + 1, by go_num, by omega, hS2, hN2, hB2⟩
            case measure => simp [intOf]; omega
        · obtain rfl : k = M.length := by omega
          as_aux_lemma =>
          go_wp2
          go_loopw [22] (fun i wz => ∃ k : Nat, i = .int .i64 ((k : Int) + 1) ∧ (k = 0 ∨ k + 1 ≤ M.length) ∧ Hid (SS wz w1.heap.size w2.heap.size (.slice pa M.length pc) ps M) ∧ Below w'.heap.size w' wz) (fun i _ => M.length - (intOf i).toNat)
          case atStart => exact ⟨0, by go_num, .inl rfl, hS, hB⟩
          case round =>
            as_aux_lemma =>
            clear hS hB hN
            obtain ⟨k, rfl, hk, hS, hB⟩ := hrel
            by_cases hlt : k + 1 < M.length
            · have hltI : ((k : Int) + 1) < (M.length : Int) := by omega
              as_aux_lemma =>
              obtain ⟨g, off, e1, y, hy, hoy, _, _, hcell⟩ := hS.out.at k (by omega)
              obtain ⟨g2, off2, e2, y2, hy2, hoy2, _, _, hcell2⟩ := hS.out.at (k + 1) hlt
              subst e1
              cases e2
              obtain ⟨ay, cy, rfl, _, _, _⟩ := hoy.shape
              obtain ⟨ay2, cy2, rfl, _, _, _⟩ := hoy2.shape
              have r1 := List.pairwise_iff_getElem.1 HV7.out k (k + 1) (by omega) hlt (by omega)
              have hk2 : k < M.length := by omega
              have u1 := (HV6.out _ (List.getElem_mem hk2)).1
              have u2 := (HV6.out _ (List.getElem_mem hlt)).1
              have yl1 := HR6.out _ (List.getElem_mem hk2)
              obtain ⟨Y, hY⟩ : ∃ z, M[k] = z := ⟨_, rfl⟩
              obtain ⟨Z, hZ⟩ : ∃ z, M[k + 1] = z := ⟨_, rfl⟩
              rw [hY] at hoy hcell u1 yl1 r1
              rw [hZ] at hoy2 hcell2 u2 r1
              have cL := fun q => Calls.quiet_of (fLessQ_any _ _ Y Z (wr.drewN q) (OwnI.ints (own_drewN hoy q)) (OwnI.ints (own_drewN hoy2 q)) (by omega) yl1)
              rw [r1] at cL
              have hk3 : (k : Int) < (M.length : Int) := by omega
              have ew : IntKind.i64.wrap ((k : Int) + 1 - 1) = (k : Int) := by rw [IntKind.wrap_i64]; omega
              have ew2 : (k : Int) + 1 - 1 = (k : Int) := by omega
              clear hy hy2 hoy hoy2 u1 u2 yl1 r1 hY hZ hk2
              go_wp2
              go_quiet ((go_at_call 27; exact cL _))
              clear cL
              go_wp2
              go_roundw
              case rel => exact ⟨k + 1, by go_num, .inr (by omega), Lib.hid (hS.out.kept fun _ _ _ => rfl), hB.drewN _⟩
              case measure => simp [intOf]; omega
            · have hltI : ¬ ((k : Int) + 1) < (M.length : Int) := by omega
              as_aux_lemma =>
              clear hS
              have B90 := hB
              clear hB
              have hy := Byts.later H1.out B90
              go_wp2_with fail
              refine (DrawCountClosedPlans_any a1 n1 c1 wr hy hn1).mono ?_
              rintro e w91 ⟨m, k, rfl, hm, hk, b91⟩
              have B91 := B90.trans (b91.mono B90.size)
              clear hy b91 B90
              obtain ⟨g2, hg2⟩ : ∃ z, closedB m k = z := ⟨_, rfl⟩
              obtain ⟨C, hC⟩ : ∃ z, mCountClosedPlans m k = z := ⟨_, rfl⟩
              have c92 := CountClosedPlans_any m k w91
              rw [hC, hg2] at c92
              go_wp2_with fail
              refine c92.mono ?_
              rintro e w92 ⟨rfl, b92⟩
              clear c92
              have B92 := B91.trans (b92.mono B91.size)
              clear B91
              have c93 := sCountClosedPlans_any m k w92
              rw [hC, hg2] at c93
              go_wp2_with fail
              refine c93.mono ?_
              rintro e w93 ⟨rfl, b93⟩
              clear c93
              have B93 := B92.trans (b93.mono B92.size)
              clear B92
              cases g2 with
              | false =>
                clear hg2 hC hm hk
                go_wp2
                go_ret
                exact ⟨by simp, B93⟩
              | true =>
                have V := closed_is hg2
                rw [hC] at V
                obtain ⟨i, j, rfl, rfl, v1, v2, v3, v4, v5, v6, v7, v8⟩ := V
                have HB := Lib.hid B93
                clear hg2 hC hm hk B93
                have f0 : (i : Int) - 1 = IntKind.i64.wrap ((i : Int) - 1) := by rw [IntKind.wrap_i64]; omega
                have W4 := Lib.hid v4
                have W5 := Lib.hid v5
                have W6 := Lib.hid v6
                have W7 := Lib.hid v7
                have W8 := Lib.hid v8
                clear v4 v5 v6 v7 v8
                by_cases j0 : j = 0
                · obtain rfl := W4.out j0
                  subst j0
                  by_cases i2 : i = 2
                  · subst i2; clear W4 W5 W6 W7 W8; go_wp2; go_ret; exact ⟨by simp, HB.out⟩
                  · have g2 : ((i : Int) == 2) = false := beq_eq_false_iff_ne.2 (by omega)
                    by_cases i1 : i = 1
                    · subst i1; clear W4 W5 W6 W7 W8 g2 i2; go_wp2; go_ret; exact ⟨by simp, HB.out⟩
                    · have g1 : ((i : Int) == 1) = false := beq_eq_false_iff_ne.2 (by omega)
                      clear W4 W5 W6 W7 W8 i1 i2 f0
                      go_wp2
                      go_ret
                      exact ⟨by simp, HB.out⟩
                · have k0 : ((j : Int) == 0) = false := beq_eq_false_iff_ne.2 (by omega)
                  have kp : decide ((0 : Int) < (j : Int)) = true := decide_eq_true (by omega)
                  obtain ⟨t1, ht1⟩ : ∃ b : Bool, ((j : Int) == 1) = b := ⟨_, rfl⟩
                  obtain ⟨t2, ht2⟩ : ∃ b : Bool, ((j : Int) == 2) = b := ⟨_, rfl⟩
                  obtain ⟨t3, ht3⟩ : ∃ b : Bool, ((i : Int) == 2) = b := ⟨_, rfl⟩
                  obtain ⟨t4, ht4⟩ : ∃ b : Bool, ((i : Int) == 1) = b := ⟨_, rfl⟩
                  have r1 : t1 = true → (C != 0) = false := fun e => by subst e; have h := beq_iff_eq.1 ht1; have := W5.out (by omega); simp [this]
                  have r2 : t2 = true → (C != (i : Int) - 1) = false := fun e => by subst e; have h := beq_iff_eq.1 ht2; have := W6.out (by omega); simp [this]
                  have r3 : t3 = true → (C != 1 - (j : Int) % 2) = false := fun e => by subst e; have h := beq_iff_eq.1 ht3; have := W7.out (by omega); simp [this]
                  have r4 : t4 = true → (C != 0) = false := fun e => by subst e; have h := beq_iff_eq.1 ht4; have := W8.out (by omega) (by omega); simp [this]
                  have e1 : IntKind.i64.wrap ((i : Int) - 1) = (i : Int) - 1 := f0.symm
                  have e2 : (j : Int).tmod 2 = (j : Int) % 2 := Int.tmod_eq_emod_of_nonneg (by omega)
                  have e3 : IntKind.i64.wrap (1 - (j : Int) % 2) = 1 - (j : Int) % 2 := by rw [IntKind.wrap_i64]; omega
                  clear W4 W5 W6 W7 W8 f0
                  have n12 : ¬ (t1 = true ∧ t2 = true) := fun ⟨e, e2⟩ => by subst e; subst e2; have h := beq_iff_eq.1 ht1; have h2 := beq_iff_eq.1 ht2; omega
                  have n34 : ¬ (t3 = true ∧ t4 = true) := fun ⟨e, e2⟩ => by subst e; subst e2; have h := beq_iff_eq.1 ht3; have h2 := beq_iff_eq.1 ht4; omega
                  cases t1 <;> cases t2 <;> cases t3 <;> cases t4
                  all_goals (first | exact absurd ⟨rfl, rfl⟩ n12 | exact absurd ⟨rfl, rfl⟩ n34 | skip)
                  all_goals (first | (have s1 := r1 rfl) | skip)
                  all_goals (first | (have s2 := r2 rfl) | skip)
                  all_goals (first | (have s3 := r3 rfl) | skip)
                  all_goals (first | (have s4 := r4 rfl) | skip)
                  all_goals (clear r1 r2 r3 r4 n12 n34; go_wp2; go_ret; exact ⟨by first | rfl | simp, HB.out⟩)
    · as_aux_lemma =>
      have g1 : decide ((1 : Int) < (m : Int)) = false := decide_eq_false (by omega)
      rw [hLL] at hd1 hd2 hd3 hd4 f1 ⊢
      clear HC1 HL1 hLL
      go_wp2
      go_loopw [146] (fun i wr => ∃ k : Nat, i = .int .i64 (k : Int) ∧ k ≤ M.length ∧ Hid (SS wr w1.heap.size w2.heap.size (.slice pa M.length pc) ps M) ∧ w2.heap.size ≤ wr.heap.size ∧ Below w'.heap.size w' wr) (fun i _ => M.length - (intOf i).toNat)
      case atStart => exact ⟨0, rfl, Nat.zero_le _, HP, HNP.out, HB.out⟩
      case round =>
        as_aux_lemma =>
        have hM6 := HM6.out
        obtain ⟨k, rfl, hk, hS, hN, hB⟩ := hrel
        clear HP HB HNP
        by_cases hlt : k < M.length
        · obtain ⟨g, off, rfl, y, hy, hoy, _, _, hcell⟩ := hS.out.at k hlt
          as_aux_lemma =>
          obtain ⟨ay, cy, rfl, _, _, _⟩ := hoy.shape
          have hyl := HR6.out _ (List.getElem_mem hlt)
          obtain ⟨u1, u2, u3⟩ := HV6.out _ (List.getElem_mem hlt)
          have hltI : (k : Int) < (M.length : Int) := by omega
          obtain ⟨Y, hY⟩ : ∃ z, M[k] = z := ⟨_, rfl⟩
          rw [hY] at hoy hyl u1 u2 u3 hcell
          have cD := StackDistance_any _ Y wr hoy hyl
          rw [u2, u3] at cD
          clear u1 u2 u3 hoy hy hyl hY
          have ew : IntKind.i64.wrap ((M.length : Int) - 1) = (M.length : Int) - 1 := by rw [IntKind.wrap_i64]; omega
          by_cases h2 : 2 < k
          · have q1 : decide ((2 : Int) < (k : Int)) = true := decide_eq_true (by omega)
            by_cases h3 : (k : Int) < (M.length : Int) - 1
            · have q2 : decide ((k : Int) < (M.length : Int) - 1) = true := decide_eq_true h3
              clear cD
              go_wp2
              go_roundw
              case rel => exact ⟨k + 1, by go_num, by omega, hS, hN, hB⟩
              case measure => simp [intOf]; omega
            · have q2 : decide ((k : Int) < (M.length : Int) - 1) = false := decide_eq_false h3
              go_wp2_with fail
              refine cD.mono ?_
              rintro e wy ⟨rfl, by1⟩
              have hS2 := Lib.hid (hS.out.below by1 hN)
              have hN2 := Nat.le_trans hN by1.size
              have hB2 := hB.trans (by1.mono hB.size)
              clear cD
              go_wp2
              go_roundw
              case rel => exact ⟨k + 1, by go_num, by omega, hS2, hN2, hB2⟩
              case measure => simp [intOf]; omega
          · have q1 : decide ((2 : Int) < (k : Int)) = false := decide_eq_false (by omega)
            go_wp2_with fail
            refine cD.mono ?_
            rintro e wy ⟨rfl, by1⟩
            have hS2 := Lib.hid (hS.out.below by1 hN)
            have hN2 := Nat.le_trans hN by1.size
            have hB2 := hB.trans (by1.mono hB.size)
            clear cD
            go_wp2
            go_roundw
            case rel => exact ⟨k + 1, by go_num, by omega, hS2, hN2, hB2⟩
            case measure => simp [intOf]; omega
        · obtain rfl : k = M.length := by omega
          as_aux_lemma =>
          go_wp2
          go_loopw [22] (fun i wz => ∃ k : Nat, i = .int .i64 ((k : Int) + 1) ∧ (k = 0 ∨ k + 1 ≤ M.length) ∧ Hid (SS wz w1.heap.size w2.heap.size (.slice pa M.length pc) ps M) ∧ Below w'.heap.size w' wz) (fun i _ => M.length - (intOf i).toNat)
          case atStart => exact ⟨0, by go_num, .inl rfl, hS, hB⟩
          case round =>
            as_aux_lemma =>
            clear hS hB hN
            obtain ⟨k, rfl, hk, hS, hB⟩ := hrel
            by_cases hlt : k + 1 < M.length
            · have hltI : ((k : Int) + 1) < (M.length : Int) := by omega
              as_aux_lemma =>
              obtain ⟨g, off, e1, y, hy, hoy, _, _, hcell⟩ := hS.out.at k (by omega)
              obtain ⟨g2, off2, e2, y2, hy2, hoy2, _, _, hcell2⟩ := hS.out.at (k + 1) hlt
              subst e1
              cases e2
              obtain ⟨ay, cy, rfl, _, _, _⟩ := hoy.shape
              obtain ⟨ay2, cy2, rfl, _, _, _⟩ := hoy2.shape
              have r1 := List.pairwise_iff_getElem.1 HV7.out k (k + 1) (by omega) hlt (by omega)
              have hk2 : k < M.length := by omega
              have u1 := (HV6.out _ (List.getElem_mem hk2)).1
              have u2 := (HV6.out _ (List.getElem_mem hlt)).1
              have yl1 := HR6.out _ (List.getElem_mem hk2)
              obtain ⟨Y, hY⟩ : ∃ z, M[k] = z := ⟨_, rfl⟩
              obtain ⟨Z, hZ⟩ : ∃ z, M[k + 1] = z := ⟨_, rfl⟩
              rw [hY] at hoy hcell u1 yl1 r1
              rw [hZ] at hoy2 hcell2 u2 r1
              have cL := fun q => Calls.quiet_of (fLessQ_any _ _ Y Z (wr.drewN q) (OwnI.ints (own_drewN hoy q)) (OwnI.ints (own_drewN hoy2 q)) (by omega) yl1)
              rw [r1] at cL
              have hk3 : (k : Int) < (M.length : Int) := by omega
              have ew : IntKind.i64.wrap ((k : Int) + 1 - 1) = (k : Int) := by rw [IntKind.wrap_i64]; omega
              have ew2 : (k : Int) + 1 - 1 = (k : Int) := by omega
              clear hy hy2 hoy hoy2 u1 u2 yl1 r1 hY hZ hk2
              go_wp2
              go_quiet ((go_at_call 27; exact cL _))
              clear cL
              go_wp2
              go_roundw
              case rel => exact ⟨k + 1, by go_num, .inr (by omega), Lib.hid (hS.out.kept fun _ _ _ => rfl), hB.drewN _⟩
              case measure => simp [intOf]; omega
            · have hltI : ¬ ((k : Int) + 1) < (M.length : Int) := by omega
              as_aux_lemma =>
              clear hS
              have B90 := hB
              clear hB
              have hy := Byts.later H1.out B90
              go_wp2_with fail
              refine (DrawCountClosedPlans_any a1 n1 c1 wr hy hn1).mono ?_
              rintro e w91 ⟨m, k, rfl, hm, hk, b91⟩
              have B91 := B90.trans (b91.mono B90.size)
              clear hy b91 B90
              obtain ⟨g2, hg2⟩ : ∃ z, closedB m k = z := ⟨_, rfl⟩
              obtain ⟨C, hC⟩ : ∃ z, mCountClosedPlans m k = z := ⟨_, rfl⟩
              have c92 := CountClosedPlans_any m k w91
              rw [hC, hg2] at c92
              go_wp2_with fail
              refine c92.mono ?_
              rintro e w92 ⟨rfl, b92⟩
              clear c92
              have B92 := B91.trans (b92.mono B91.size)
              clear B91
              have c93 := sCountClosedPlans_any m k w92
              rw [hC, hg2] at c93
              go_wp2_with fail
              refine c93.mono ?_
              rintro e w93 ⟨rfl, b93⟩
              clear c93
              have B93 := B92.trans (b93.mono B92.size)
              clear B92
              cases g2 with
              | false =>
                clear hg2 hC hm hk
                go_wp2
                go_ret
                exact ⟨by simp, B93⟩
              | true =>
                have V := closed_is hg2
                rw [hC] at V
                obtain ⟨i, j, rfl, rfl, v1, v2, v3, v4, v5, v6, v7, v8⟩ := V
                have HB := Lib.hid B93
                clear hg2 hC hm hk B93
                have f0 : (i : Int) - 1 = IntKind.i64.wrap ((i : Int) - 1) := by rw [IntKind.wrap_i64]; omega
                have W4 := Lib.hid v4
                have W5 := Lib.hid v5
                have W6 := Lib.hid v6
                have W7 := Lib.hid v7
                have W8 := Lib.hid v8
                clear v4 v5 v6 v7 v8
                by_cases j0 : j = 0
                · obtain rfl := W4.out j0
                  subst j0
                  by_cases i2 : i = 2
                  · subst i2; clear W4 W5 W6 W7 W8; go_wp2; go_ret; exact ⟨by simp, HB.out⟩
                  · have g2 : ((i : Int) == 2) = false := beq_eq_false_iff_ne.2 (by omega)
                    by_cases i1 : i = 1
                    · subst i1; clear W4 W5 W6 W7 W8 g2 i2; go_wp2; go_ret; exact ⟨by simp, HB.out⟩
                    · have g1 : ((i : Int) == 1) = false := beq_eq_false_iff_ne.2 (by omega)
                      clear W4 W5 W6 W7 W8 i1 i2 f0
                      go_wp2
                      go_ret
                      exact ⟨by simp, HB.out⟩
                · have k0 : ((j : Int) == 0) = false := beq_eq_false_iff_ne.2 (by omega)
                  have kp : decide ((0 : Int) < (j : Int)) = true := decide_eq_true (by omega)
                  obtain ⟨t1, ht1⟩ : ∃ b : Bool, ((j : Int) == 1) = b := ⟨_, rfl⟩
                  obtain ⟨t2, ht2⟩ : ∃ b : Bool, ((j : Int) == 2) = b := ⟨_, rfl⟩
                  obtain ⟨t3, ht3⟩ : ∃ b : Bool, ((i : Int) == 2) = b := ⟨_, rfl⟩
                  obtain ⟨t4, ht4⟩ : ∃ b : Bool, ((i : Int) == 1) = b := ⟨_, rfl⟩
                  have r1 : t1 = true → (C != 0) = false := fun e => by subst e; have h := beq_iff_eq.1 ht1; have := W5.out (by omega); simp [this]
                  have r2 : t2 = true → (C != (i : Int) - 1) = false := fun e => by subst e; have h := beq_iff_eq.1 ht2; have := W6.out (by omega); simp [this]
                  have r3 : t3 = true → (C != 1 - (j : Int) % 2) = false := fun e => by subst e; have h := beq_iff_eq.1 ht3; have := W7.out (by omega); simp [this]
                  have r4 : t4 = true → (C != 0) = false := fun e => by subst e; have h := beq_iff_eq.1 ht4; have := W8.out (by omega) (by omega); simp [this]
                  have e1 : IntKind.i64.wrap ((i : Int) - 1) = (i : Int) - 1 := f0.symm
                  have e2 : (j : Int).tmod 2 = (j : Int) % 2 := Int.tmod_eq_emod_of_nonneg (by omega)
                  have e3 : IntKind.i64.wrap (1 - (j : Int) % 2) = 1 - (j : Int) % 2 := by rw [IntKind.wrap_i64]; omega
                  clear W4 W5 W6 W7 W8 f0
                  have n12 : ¬ (t1 = true ∧ t2 = true) := fun ⟨e, e2⟩ => by subst e; subst e2; have h := beq_iff_eq.1 ht1; have h2 := beq_iff_eq.1 ht2; omega
                  have n34 : ¬ (t3 = true ∧ t4 = true) := fun ⟨e, e2⟩ => by subst e; subst e2; have h := beq_iff_eq.1 ht3; have h2 := beq_iff_eq.1 ht4; omega
                  cases t1 <;> cases t2 <;> cases t3 <;> cases t4
                  all_goals (first | exact absurd ⟨rfl, rfl⟩ n12 | exact absurd ⟨rfl, rfl⟩ n34 | skip)
                  all_goals (first | (have s1 := r1 rfl) | skip)
                  all_goals (first | (have s2 := r2 rfl) | skip)
                  all_goals (first | (have s3 := r3 rfl) | skip)
                  all_goals (first | (have s4 := r4 rfl) | skip)
                  all_goals (clear r1 r2 r3 r4 n12 n34; go_wp2; go_ret; exact ⟨by first | rfl | simp, HB.out⟩)
end Go.Proofs.Ytdlnniciccpchaa
