import Derived.Test.YtfcbaegkppkfkaaRxI
import Derived.Test.YtfcbaegkppkfkaaMe
import Derived.Test.YtfcbaegkppkfkaaS3
import Derived.Test.YtfcbaegkppkfkaaHS
import Derived.Test.YtfcbaegkppkfkaaMa
namespace Go.Pan
open Go Go.RowKit
theorem UpOk.out {i : Nat} {T : List (List Int)} {x : Int} (h : UpOk i T x) (a : Nat) : x ∉ T.getD a [] := fun e => (List.nodup_cons.1 h.nd).1 (mem_row e).2
theorem pre_all {R : List (List Int)} : pre R R.length = R.flatten.length := (flat_len R).symm

end Go.Pan

namespace Go.Proofs.Ytfcbaegkppkfkaa
open Go Go.RowKit Go.Pan

set_option maxHeartbeats 16000000 in
set_option maxRecDepth 100000 in
theorem sStackOfRows_any (v vp : Value) (hs hp : List Value) (R P : List (List Int)) (w : World) (B N B' N' : Nat) (hv : SS w B N v hs R) (hN : N ≤ w.heap.size) (hvp : SS w B' N' vp hp P) (hN' : N' ≤ w.heap.size)
    (ht : R.length + pre R R.length ≤ 1048576) (ht' : P.length + pre P P.length ≤ 1048576) :
    Calls Try.prog 24 #[v, vp] w fun e w' => ∃ r, e = .returned (.tuple #[r, .bool (okSR R P)]) ∧ OwnI w' r (mStackOfRows R P) ∧ From w.heap.size r ∧ Below w.heap.size w w' := by
  have c1 := inTable_any v B N hs R w hv hN ht
  have HV := Lib.hid hv
  have HVP := Lib.hid hvp
  have HT' := Lib.hid ht'
  clear hv hvp
  cases ha : mAreRows R with
  | false =>
    have HNO := Lib.hid (okSR_no1 (P := P) ha)
    rw [ha] at c1
    clear ha
    go_enter Try.func24, Try.ntmps24
    go_wp2_with fail
    refine (c1).mono ?_
    rintro e w1 ⟨rfl, hb1⟩
    clear c1
    go_wp2
    go_ret2
    exact ⟨_, by rw [HNO.out]; rfl, by rw [mSR_no HNO.out]; exact OwnI.nil _, From.nil _ _ _, hb1⟩
  | true =>
    rw [ha] at c1
    cases hp1 : mAreRows P with
    | false =>
      have HNO := Lib.hid (okSR_no2 (R := R) hp1)
      have HP1 := Lib.hid hp1
      clear ha hp1
      go_enter Try.func24, Try.ntmps24
      go_wp2_with fail
      refine (c1).mono ?_
      rintro e w1 ⟨rfl, hb1⟩
      have c2 := inTable_any vp B' N' hp P w1 (HVP.out.below hb1 hN') (Nat.le_trans hN' hb1.size) HT'.out
      rw [HP1.out] at c2
      clear c1
      go_wp2_with fail
      refine (c2).mono ?_
      rintro e w2 ⟨rfl, hb2⟩
      have hB2 := hb1.trans (hb2.mono hb1.size)
      clear c2
      go_wp2
      go_ret2
      exact ⟨_, by rw [HNO.out]; rfl, by rw [mSR_no HNO.out]; exact OwnI.nil _, From.nil _ _ _, hB2⟩
    | true =>
      have TR := Lib.hid (tab_of ha)
      have TP := Lib.hid (tab_of hp1)
      have HA := Lib.hid ha
      have HP1 := Lib.hid hp1
      have hnr : R.length ≤ 1048576 := by omega
      have hnp : P.length ≤ 1048576 := by omega
      clear ha hp1
      cases hl : decide (lensL R = lensL P) with
      | false =>
        have HNO := Lib.hid (okSR_no3 hl)
        have HL := Lib.hid hl
        clear hl
        go_enter Try.func24, Try.ntmps24
        go_wp2_with fail
        refine (c1).mono ?_
        rintro e w1 ⟨rfl, hb1⟩
        have c2 := inTable_any vp B' N' hp P w1 (HVP.out.below hb1 hN') (Nat.le_trans hN' hb1.size) HT'.out
        rw [HP1.out] at c2
        clear c1
        go_wp2_with fail
        refine (c2).mono ?_
        rintro e w2 ⟨rfl, hb2⟩
        have hB2 := hb1.trans (hb2.mono hb1.size)
        have hz2 := hB2.size
        clear c2 hb1 hb2
        go_wp2_with fail
        refine (inShape_any v B N hs R w2 (HV.out.below hB2 hN) (by omega) hnr).mono ?_
        rintro e w3 ⟨r3, rfl, ho3, hf3, hb3⟩
        have hB3 := hB2.trans (hb3.mono hz2)
        have hz3 := hB3.size
        go_wp2_with fail
        refine (inShape_any vp B' N' hp P w3 (HVP.out.below hB3 hN') (by omega) hnp).mono ?_
        rintro e w4 ⟨r4, rfl, ho4, hf4, hb4⟩
        have hB4 := hB3.trans (hb4.mono hz3)
        have ho34 := ho3.same hb4
        have c5 := stSame_any r3 r4 (lensL R) (lensL P) w4 ho34 (by rw [lensL_length]; omega) ho4 (by rw [lensL_length]; omega)
        rw [HL.out] at c5
        clear ho3 hf3 hb3 ho4 hf4 hb4 ho34
        go_wp2_with fail
        refine (c5).mono ?_
        rintro e w5 ⟨rfl, hb5⟩
        have hB5 := hB4.trans (hb5.mono hB4.size)
        clear c5 hb5
        go_wp2
        go_ret2
        exact ⟨_, by rw [HNO.out]; rfl, by rw [mSR_no HNO.out]; exact OwnI.nil _, From.nil _ _ _, hB5⟩
      | true =>
        have HYES := Lib.hid (okSR_yes HA.out HP1.out hl)
        have HL := Lib.hid hl
        have HLL := Lib.hid (of_decide_eq_true hl)
        have hgR := TR.out.good
        have hgP := TP.out.good
        have hlen : R.flatten.length = P.flatten.length := by
          have e : ∀ X : List (List Int), (lensL X).sum = (X.flatten.length : Int) := fun X => by
            induction X with
            | nil => rfl
            | cons x X ih => simp only [lensL, List.map_cons, List.sum_cons, List.flatten_cons, List.length_append] at ih ⊢; rw [ih]; push_cast; rfl
          have := e R
          rw [HLL.out, e P] at this
          omega
        have HPL := Lib.hid (show pre R R.length = P.flatten.length by rw [← flat_len, hlen])
        obtain ⟨n, hn⟩ : ∃ n, P.flatten.length = n := ⟨_, rfl⟩
        have HN1 := Lib.hid hn
        have HNR := Lib.hid (hlen.trans hn)
        have hn9 : n ≤ 9 := by rw [← hn]; exact hgP.2.1
        have hn1 : 1 ≤ n := by rw [← hn]; exact hgP.1
        have HRows := Lib.hid (show ∀ q ∈ R, 1 ≤ q.length ∧ q.length ≤ 9 from fun q hq => ⟨TR.out.full q hq, by
          have h1 := hgR.2.1
          obtain ⟨i, hi, rfl⟩ := List.getElem_of_mem hq
          have h2 := row_le_all R i hi
          rw [flat_len] at h1
          omega⟩)
        have HPr := Lib.hid (show ∀ r ∈ P, r.length ≤ 9 from fun q hq => by
          have h1 := hgP.2.1
          obtain ⟨i, hi, rfl⟩ := List.getElem_of_mem hq
          have h2 := row_le_all P i hi
          rw [flat_len] at h1
          omega)
        have hp9 := TP.out.few.2
        have hR9 := TR.out.few.2
        have hpre9 : pre R R.length ≤ 1048576 := by omega
        have hmf : ∀ (fn : Fn) (first cap : Array Value) (w : World), (Instr.makeFunc fn first cap).run Try.prog w = .ok (.func fn first cap) w := fun _ _ _ _ => rfl
        obtain ⟨i0, hi, hz0, hz1, hz2⟩ := info_parts Try.info3
        have HI := Lib.hid hi
        have HZ0 := Lib.hid hz0
        have HZ1 := Lib.hid hz1
        have HZ2 := Lib.hid hz2
        clear hl hgR hgP hlen hn hi hz0 hz1 hz2
        go_enter Try.func24, Try.ntmps24
        go_wp2_with fail
        refine (c1).mono ?_
        rintro e w1 ⟨rfl, hb1⟩
        have c2 := inTable_any vp B' N' hp P w1 (HVP.out.below hb1 hN') (Nat.le_trans hN' hb1.size) HT'.out
        rw [HP1.out] at c2
        clear c1
        go_wp2_with fail
        refine (c2).mono ?_
        rintro e w2 ⟨rfl, hb2⟩
        have hB2 := hb1.trans (hb2.mono hb1.size)
        have hz2 := hB2.size
        clear c2 hb1 hb2
        go_wp2_with fail
        refine (inShape_any v B N hs R w2 (HV.out.below hB2 hN) (by omega) hnr).mono ?_
        rintro e w3 ⟨r3, rfl, ho3, hf3, hb3⟩
        have hB3 := hB2.trans (hb3.mono hz2)
        have hz3 := hB3.size
        go_wp2_with fail
        refine (inShape_any vp B' N' hp P w3 (HVP.out.below hB3 hN') (by omega) hnp).mono ?_
        rintro e w4 ⟨r4, rfl, ho4, hf4, hb4⟩
        have hB4 := hB3.trans (hb4.mono hz3)
        have ho34 := ho3.same hb4
        have c5 := stSame_any r3 r4 (lensL R) (lensL P) w4 ho34 (by rw [lensL_length]; omega) ho4 (by rw [lensL_length]; omega)
        rw [HL.out] at c5
        clear ho3 hf3 hb3 ho4 hf4 hb4 ho34
        go_wp2_with fail
        refine (c5).mono ?_
        rintro e w5 ⟨rfl, hb5⟩
        have hB5 := hB4.trans (hb5.mono hB4.size)
        have hz5 := hB5.size
        clear c5 hb5
        obtain ⟨ad, cap, rfl, hcc, _, _⟩ := HV.out.own.shape
        rw [HV.out.len] at hcc HV ⊢
        obtain ⟨j0, hj, hy0, hy1, hy2⟩ := info_parts Try.info22
        have HJ := Lib.hid hj
        have HY0 := Lib.hid hy0
        have HY1 := Lib.hid hy1
        have HY2 := Lib.hid hy2
        have HSA := Lib.hid (S2.nil w5 w5.heap.size 22)
        clear hj hy0 hy1 hy2
        go_wp2
        go_loopw [6, 7, 9, 37] (fun lv nv _ kv wi => ∃ (k : Nat) (hR : List Value), k ≤ R.length ∧ kv = .int .i64 k ∧ nv = .int .i64 (pre R k : Nat) ∧ Hid (S2 wi w5.heap.size 22 lv hR (R.take k) (.slice none 0 0) [] []) ∧ Below w5.heap.size w5 wi) (fun _ _ _ kv _ => R.length - (intOf kv).toNat)
        case atStart => exact ⟨0, [], Nat.zero_le _, rfl, rfl, HSA, Below.refl _ _⟩
        case round =>
          obtain ⟨k, hR, hk, rfl, rfl, hS, hbr⟩ := hrel
          clear HSA
          have hbw := hB5.trans (hbr.mono hz5)
          by_cases hlt : k < R.length
          · have hlt' : (k : Int) < (R.length : Int) := by omega
            have hVR := HV.out.below hbw hN
            obtain ⟨u, hu⟩ : ∃ u, hs[k]? = some u := ⟨_, List.getElem?_eq_getElem (by rw [HV.out.len]; exact hlt)⟩
            have hrow := (hVR.row k u _ hu (List.getElem?_eq_getElem hlt)).1
            have hown0 := hVR.own
            rw [HV.out.len] at hown0
            obtain ⟨g, off, hadd, hgl, hcc0, _⟩ := hown0.at (by omega)
            subst hadd
            have hck := (hcc0 k (by omega)).trans hu
            have hq9 := HRows.out _ (List.getElem_mem hlt)
            have HTK := Lib.hid (List.take_succ_eq_append_getElem hlt)
            have hps := pre_succ R k hlt
            have hple := pre_le_all R k
            obtain ⟨q, hqe⟩ : ∃ q, R[k] = q := ⟨_, rfl⟩
            rw [hqe] at hrow hq9 HTK hps
            have hn9' : pre R R.length = n := by rw [HPL.out]; exact HN1.out
            have hpq : ((pre R (k + 1) : Nat) : Int) = (pre R k : Nat) + (q.length : Int) := by rw [hps]; push_cast; rfl
            have HPQ := Lib.hid hpq
            obtain ⟨pk, hpk⟩ : ∃ pk, pre R k = pk := ⟨_, rfl⟩
            rw [hpk] at hple HPQ ⊢
            have hpk9 : pk ≤ 9 := by omega
            obtain ⟨ua, uc, rfl, _, _, _⟩ := hrow.shape
            have CO := Lib.hid (l1Own_any _ q wr hrow (by omega))
            have htl : (R.take k).length = k := by rw [List.length_take]; omega
            obtain ⟨la, lc, rfl, hlc, hlcm, _⟩ := (Own.of_row (S2.poN hS.out.swap htl)).1.shape
            have HTL := Lib.hid htl
            have hz := hbr.size
            clear hu hrow hVR hown0 hcc0 hqe hps hpq hple hpk htl hn9'
            go_wp2_with fail
            refine CO.out.mono ?_
            rintro e w6 ⟨r6, rfl, ho6, hf6, hb6⟩
            obtain ⟨a6, c6, rfl, _, _, _⟩ := ho6.shape
            have hz6 := hb6.size
            have HO6 := Lib.hid (((S2.poN (hS.out.below hb6).swap HTL.out)).alloc (.cells #[.slice a6 q.length c6] 22))
            have HQ6 := Lib.hid ho6
            have HB6 := Lib.hid (hb6.alloc hz6 (.cells #[.slice a6 q.length c6] 22))
            have HI6 := Lib.hid (show In wr.heap.size (w6.alloc (.cells #[.slice a6 q.length c6] 22)).heap.size (.slice a6 q.length c6) from fun g hg => ⟨hf6 g hg, by have := ho6.lt g hg; simp; omega⟩)
            clear ho6 hf6 hb6 CO
            go_wp2_with (at_builtin; refine wpList_append_lies _ rfl _ _ 23 rfl w5.heap.size 22 j0 _ 1 24 Try.underlying23 HJ.out HY0.out HY1.out HY2.out rfl (by omega) (.slice la k lc) k hR rfl HO6.out _ 1 1 [.slice a6 q.length c6] rfl (by simp) (World.news_of_block (heap_alloc_new _ _)) (by simp [Value.oneCell']) (by omega) (by unfold maxLen; omega) (by omega) (by simp; omega) (w6.heap.size + 1) (by simp) ?_; intro g8 cap8 w8 hown8 hgr8 hat8 hlt8; have hs8 := S2.appU hS.out hz HTL.out HB6.out (HQ6.out.alloc _) HI6.out hown8 hgr8 (by simpa using hat8) hlt8; rw [← HTK.out] at hs8; have hB8 := (hbr.trans (HB6.out.mono hz)).grown hgr8 (by simp; omega) (fun b hb => (hS.out.r.inn b hb).1); have HS8 := Lib.hid hs8; clear hs8 hown8 hgr8 hat8 hlt8)
            go_roundw
            case rel => exact ⟨k + 1, _, by omega, by go_num, by rw [HPQ.out], HS8, hB8⟩
            case measure => simp [intOf] <;> omega
          · obtain rfl : k = R.length := by omega
            have hge : ¬ ((R.length : Int) < (R.length : Int)) := by omega
            have hnn : pre R R.length = n := by rw [HPL.out]; exact HN1.out
            rw [hnn]
            have hz7 := hbr.size
            have HS7 := Lib.hid (show S2 wr w5.heap.size 22 u6 hR (backT R P n 0) (.slice none 0 0) [] [] by have := hS.out; rw [List.take_length] at this; exact this)
            obtain ⟨w7, rfl⟩ : ∃ z, z = wr := ⟨_, rfl⟩
            have hro7 : w7.ownsRow w5.heap.size 22 1 u6 R.length hR := HS7.out.ro
            obtain ⟨la, lc, rfl, hlc, hlcm, _⟩ := (Own.of_row hro7).1.shape
            obtain ⟨gl, hgl0, _⟩ := owns_zero hro7 (by have := TR.out.few.1; omega)
            subst hgl0
            have hR1 := TR.out.few.1
            clear hS hro7
            go_wp2_with (at_make; refine wpList_make_full _ rfl _ _ 22 rfl w7.heap.size 3 i0 (.int .i64 0) 1 Try.underlying22 HI.out HZ0.out HZ1.out _ _ _ _ n rfl rfl rfl rfl (by rw [HZ2.out]; omega) (by unfold maxLen; omega) (Nat.le_refl _) ?_; intro w8 hown hgr)
            have hb8 : Below w7.heap.size w7 w8 := (Below.refl _ _).grown hgr (Nat.le_refl _) (by intro k hk; cases hk)
            have h0 : w8.ownsRow w7.heap.size 3 1 (.slice (some ⟨w7.heap.size, 0, none⟩) n n) n ((partS R P n 0).map iv) := by rw [partS_zero]; simpa [Value.cells, toList_madeCells_one] using hown
            obtain ⟨hk8, hr8⟩ := Blk.of_row hown
            have hz8 := hk8.lt
            have HO8 := Lib.hid (show OwnI w8 (.slice (some ⟨w7.heap.size, 0, none⟩) n n) (partS R P n 0) by have := (Own.of_row h0).1; show Own w8 1 _ (partS R P n 0).length _; rw [partS_length]; exact this)
            have HS8 := Lib.hid (HS7.out.below hb8)
            have HF8 := Lib.hid (show ¬ Ft (.slice (some ⟨gl, 0, none⟩) R.length lc) hR w7.heap.size from fun h => by have := (HS7.out.r.ft h).2; omega)
            have hB8 := hbw.trans (hb8.mono hbw.size)
            have hz78 := hbw.size
            obtain ⟨gs, hgs⟩ : ∃ gs, w7.heap.size = gs := ⟨_, rfl⟩
            obtain ⟨B5, hB5e⟩ : ∃ B5, w5.heap.size = B5 := ⟨_, rfl⟩
            have HG1 := Lib.hid (show w.heap.size ≤ gs by omega)
            have HG1B := Lib.hid (show w.heap.size ≤ B5 by omega)
            rw [hgs] at HO8 HF8 hz8 ⊢
            rw [hB5e] at HS8
            clear hb8 h0 hk8 hr8 hown hgr HS7 hbw hbr hz7 hgs hB5e hz78 hz5 hB5
            go_wp2
            go_loopw [11, 12, 13, 14, 15, 16, 17, 18] (fun pv _ _ _ _ _ _ _ wi => ∃ (q : Nat) (hR' : List Value), q ≤ n ∧ pv = .int .i64 ((n : Int) - q) ∧ Hid (S2 wi B5 22 (.slice (some ⟨gl, 0, none⟩) R.length lc) hR' (backT R P n q) (.slice none 0 0) [] []) ∧ Hid (OwnI wi (.slice (some ⟨gs, 0, none⟩) n n) (partS R P n q)) ∧ Hid (¬ Ft (.slice (some ⟨gl, 0, none⟩) R.length lc) hR' gs) ∧ Below w.heap.size w wi) (fun pv _ _ _ _ _ _ _ _ => (intOf pv).toNat)
            case atStart => exact ⟨0, hR, Nat.zero_le _, by simp, HS8, HO8, HF8, hB8⟩
            case round =>
              obtain ⟨q, hR', hqn, rfl, hS, hO, hF, hbr⟩ := hrel
              clear HS8 HO8 HF8 hB8
              by_cases hq : q < n
              · obtain ⟨i, hi⟩ : ∃ i : Nat, n - q = i + 1 := ⟨n - q - 1, by omega⟩
                have hie : (n : Int) - (q : Int) = ((i + 1 : Nat) : Int) := by omega
                rw [hie]
                obtain ⟨m, hm⟩ : ∃ m, i + 1 = m := ⟨_, rfl⟩
                have hm1 : (1 : Int) ≤ (m : Int) := by omega
                have hjb := backT_ok TR.out TP.out HLL.out q (by rw [HN1.out]; exact hqn)
                rw [HN1.out, hi] at hjb
                have hin1 : i + 1 ≤ P.flatten.length := by rw [HN1.out]; omega
                have hrp := (rowP_in TP.out.good (show 1 ≤ i + 1 by omega) hin1).1
                have hon := fun a => rowP_only (a := a) TP.out.good (show 1 ≤ i + 1 by omega) hin1
                have hrk := hjb.row_k TP.out hin1
                have hup := hjb.up TP.out hin1
                obtain ⟨T, hT⟩ : ∃ T, backT R P n q = T := ⟨_, rfl⟩
                have HV1 := Lib.hid (show outV R P n q = (outR T (rowP P ((i + 1 : Nat) : Int))).2 by unfold outV; rw [hi, hT])
                have HT1 := Lib.hid (show backT R P n (q + 1) = (outR T (rowP P ((i + 1 : Nat) : Int))).1 by show (outR (backT R P n q) (rowP P ((n - q : Nat) : Int))).1 = _; rw [hi, hT])
                rw [hT] at hjb hrk hup hS
                have HR9 := Lib.hid (show ∀ a, (T.getD a []).length ≤ 9 from fun a => by
                  rw [hjb.row a]
                  refine Nat.le_trans (hitP_le _ _) ?_
                  rcases Nat.lt_or_ge a P.length with ha | ha
                  · rw [getD_atL ha]; exact HPr.out _ (List.getElem_mem ha)
                  · rw [List.getD_eq_getElem?_getD, List.getElem?_eq_none ha]; simp)
                have HTL := Lib.hid hjb.len
                obtain ⟨k, hk⟩ : ∃ k, rowP P ((i + 1 : Nat) : Int) = k := ⟨_, rfl⟩
                rw [hk] at hrk hup HV1 HT1 hrp hon
                rw [hm] at hon ⊢
                have HON := Lib.hid hon
                have HUP := Lib.hid hup
                have HRK := Lib.hid (show 0 < (T.getD k []).length by omega)
                have hkR : k < R.length := by have := HRK.out; rw [← HTL.out]; exact row_lt this
                have HIM := Lib.hid (show n - q = i + 1 ∧ i + 1 = m from ⟨hi, hm⟩)
                obtain ⟨M, hMe⟩ : ∃ M, P.length = M := ⟨_, rfl⟩
                have HMP := Lib.hid hMe
                rw [hMe] at hrp hp9
                have HVPR := Lib.hid (HVP.out.below hbr hN')
                obtain ⟨pa, pc, rfl, hpc, _, _⟩ := HVP.out.own.shape
                have hpl : hp.length = M := by rw [HVP.out.len]; exact hMe
                rw [hpl] at hpc ⊢
                have HPL2 := Lib.hid hpl
                have hbz := hbr.size
                obtain ⟨wz, rfl⟩ : ∃ z, z = wr := ⟨_, rfl⟩
                clear hie hjb hrk hup hT hk hin1 hon hpl hi hm hMe
                go_wp2
                go_loopw [12, 13, 14, 60] (fun kv _ _ jv wi => ∃ j kk : Nat, j ≤ M ∧ jv = .int .i64 j ∧ kv = .int .i64 (kk : Int) ∧ Hid (kk = if k < j then k else 0) ∧ Below wz.heap.size wz wi) (fun _ _ _ jv _ => M - (intOf jv).toNat)
                case atStart => exact ⟨0, 0, Nat.zero_le _, rfl, rfl, Lib.hid rfl, Below.refl _ _⟩
                case round =>
                  obtain ⟨j, kk, hj, rfl, rfl, HKK, hbA⟩ := hrel
                  have hzA := hbA.size
                  by_cases hjM : j < M
                  · have hjM' : (j : Int) < (M : Int) := by omega
                    have hjP : j < P.length := by rw [HMP.out]; exact hjM
                    have hVA := HVPR.out.below hbA (Nat.le_trans hN' hbz)
                    obtain ⟨u, hu⟩ : ∃ u, hp[j]? = some u := ⟨_, List.getElem?_eq_getElem (by rw [HPL2.out]; exact hjM)⟩
                    have hrow := (hVA.row j u _ hu (List.getElem?_eq_getElem hjP)).1
                    have hown0 := hVA.own
                    rw [HPL2.out] at hown0
                    obtain ⟨g, off, hadd, hgl2, hcc0, _⟩ := hown0.at (by omega)
                    subst hadd
                    have hck := (hcc0 j (by omega)).trans hu
                    have hr9 := HPr.out _ (List.getElem_mem hjP)
                    have honj := HON.out j
                    rw [getD_atL hjP] at honj
                    obtain ⟨r, hre⟩ : ∃ r, P[j] = r := ⟨_, rfl⟩
                    rw [hre] at hrow hr9 honj
                    obtain ⟨ua, uc, rfl, _, _, _⟩ := hrow.shape
                    have CH := Lib.hid (l1Has_any _ r (m : Int) wr hrow (by omega))
                    clear hu hrow hVA hown0 hcc0 hre
                    by_cases hjk : j = k
                    · have hyes : decide ((m : Int) ∈ r) = true := by rw [decide_eq_true_iff]; exact honj.2 hjk
                      have HIF := Lib.hid (show j = (if k < j + 1 then k else 0) by rw [if_pos (by omega)]; exact hjk)
                      rw [hyes] at CH
                      clear hyes honj hjk
                      go_wp2_with fail
                      refine CH.out.mono ?_
                      rintro e w2 ⟨rfl, hb2⟩
                      have hB2 := hbA.trans (hb2.mono hzA)
                      clear hb2 hbA CH
                      go_wp2
                      go_roundw
                      case rel => exact ⟨j + 1, _, by omega, by go_num, rfl, HIF, hB2⟩
                      case measure => simp [intOf] <;> omega
                    · have hno : decide ((m : Int) ∈ r) = false := by rw [decide_eq_false_iff_not]; exact fun h => hjk (honj.1 h)
                      have HIF := Lib.hid (show kk = (if k < j + 1 then k else 0) by
                        rw [HKK.out]
                        by_cases h : k < j
                        · rw [if_pos h, if_pos (by omega)]
                        · rw [if_neg h, if_neg (by omega)])
                      rw [hno] at CH
                      clear hno honj
                      go_wp2_with fail
                      refine CH.out.mono ?_
                      rintro e w2 ⟨rfl, hb2⟩
                      have hB2 := hbA.trans (hb2.mono hzA)
                      clear hb2 hbA CH
                      go_wp2
                      go_roundw
                      case rel => exact ⟨j + 1, _, by omega, by go_num, rfl, HIF, hB2⟩
                      case measure => simp [intOf] <;> omega
                  · obtain rfl : j = M := by omega
                    have hge : ¬ ((j : Int) < (j : Int)) := by omega
                    have hkk : kk = k := by rw [HKK.out, if_pos hrp]
                    rw [hkk]
                    clear hkk HKK
                    have hS := hS.out.below hbA
                    have hO := hO.out.below hbA (Nat.le_refl _)
                    have hbr := hbr.trans (hbA.mono hbz)
                    obtain ⟨wk, rfl⟩ : ∃ z, z = wr := ⟨_, rfl⟩
                    clear hbA hzA
                    obtain ⟨r, hr⟩ : ∃ r, T.getD k [] = r := ⟨_, rfl⟩
                    have HOUT := Lib.hid (show outR T k = upR k (T.set k r.dropLast) (topP r) by unfold outR; rw [hr])
                    have hrk9 := HR9.out k
                    have hk0 := HRK.out
                    have hu := HUP.out
                    rw [hr] at hk0 hu hrk9
                    have hro := hS.ro
                    rw [HTL.out] at hro
                    have hkT : k < T.length := by rw [HTL.out]; exact hkR
                    obtain ⟨cs, hcs⟩ := blk_of_owns hro
                    obtain ⟨u, hu0⟩ : ∃ u, hR'[k]? = some u := ⟨_, List.getElem?_eq_getElem (by have := hro.1; omega)⟩
                    have hri : T[k]? = some r := by rw [List.getElem?_eq_getElem hkT, ← getD_atL hkT, hr]
                    have hou := (hS.r.row k u r hu0 hri).1
                    obtain ⟨ua, uc, rfl, huc, hucm, _⟩ := hou.shape
                    obtain ⟨gu, ou, rfl, hgu, hcr, _⟩ := Own.at hou (by omega)
                    obtain ⟨c, hcl⟩ : ∃ c, r.length = c + 1 := ⟨r.length - 1, by omega⟩
                    have hcg : wk.cell? ⟨gl, k, none⟩ = some (.slice (some ⟨gu, ou, none⟩) r.length uc) := by rw [owns_cell hro hkR]; exact hu0
                    have hcx := hcr c (by omega)
                    rw [List.getElem?_map, List.getElem?_eq_getElem (by omega)] at hcx
                    have htop : topP r = r[c] := by rw [topP_at hk0]; simp only [hcl, Nat.add_sub_cancel]
                    rw [← htop] at hcx
                    have hcx' : wk.cell? ⟨gu, ou + c, none⟩ = some (.int .i64 (topP r)) := hcx
                    have hdl : r.dropLast = r.take c := by rw [List.dropLast_eq_take, hcl]; rfl
                    have hB5w : B5 ≤ wk.heap.size := Nat.le_of_lt (hS.r.inn gl rfl).2 |> fun h => Nat.le_trans (hS.r.inn gl rfl).1 h
                    have hcut := S2.push hS hB5w HTL.out hcs hu0 ⟨rfl, rfl, rfl, Nat.le_refl _, fun _ _ _ => rfl⟩ (u1 := .slice (some ⟨gu, ou, none⟩) c uc) (r1 := r.take c) (OwnI.cut hou (by omega)) (fun b hb => .inl hb)
                    rw [← hdl] at hcut
                    have HCUT := Lib.hid hcut
                    have hglB := (hS.r.inn gl rfl).1
                    have HBK := Lib.hid (hbr.setCell (p := ⟨gl, k, none⟩) (Nat.le_trans HG1B.out hglB) (.slice (some ⟨gu, ou, none⟩) c uc))
                    have hgsl : gs ≠ gl := fun e => hF.out (.inl (by rw [e]; rfl))
                    have HO1 := Lib.hid (show OwnI (wk.setCell ⟨gl, k, none⟩ (.slice (some ⟨gu, ou, none⟩) c uc)) (.slice (some ⟨gs, 0, none⟩) n n) (partS R P n q) from hO.kept fun g hg => by
                      have e : gs = g := by simpa [Value.ownBlock] using hg
                      subst e
                      exact heap_setCell_other wk ⟨gl, k, none⟩ gs _ hgsl)
                    have hfg : ∀ j, wk.frozen? ⟨gl, j, none⟩ = false := fun j => frozen_of_row wk gl _ _ _ hcs
                    have HFT := Lib.hid (show ∀ j, Ft (.slice (some ⟨gl, 0, none⟩) R.length lc) (hR'.set k (.slice (some ⟨gu, ou, none⟩) c uc)) j → Ft (.slice (some ⟨gl, 0, none⟩) R.length lc) hR' j from fun j hj => by
                      rcases hj with hj | ⟨i, u, hi, hj⟩
                      · exact .inl hj
                      · by_cases e : k = i
                        · subst e
                          rw [List.getElem?_set_self (List.getElem?_eq_some_iff.1 hu0).1] at hi
                          cases hi
                          exact .inr ⟨k, _, hu0, hj⟩
                        · rw [List.getElem?_set_ne e] at hi
                          exact .inr ⟨i, u, hi, hj⟩)
                    have HR9B := Lib.hid (show ∀ a, ((T.set k r.dropLast).getD a []).length ≤ 9 from fun a => by
                      by_cases e : k = a
                      · subst e; rw [getL_set_same hkT, List.length_dropLast]; omega
                      · rw [getL_set_ne e]; exact HR9.out a)
                    have HTLB := Lib.hid (show (T.set k r.dropLast).length = R.length by rw [List.length_set]; exact HTL.out)
                    have HUB := Lib.hid hu
                    obtain ⟨x0, hx0⟩ : ∃ x0, topP r = x0 := ⟨_, rfl⟩
                    obtain ⟨T0, hT0⟩ : ∃ T0, T.set k r.dropLast = T0 := ⟨_, rfl⟩
                    obtain ⟨hR0, hR0e⟩ : ∃ hR0, hR'.set k (.slice (some ⟨gu, ou, none⟩) c uc) = hR0 := ⟨_, rfl⟩
                    rw [hx0] at hcx' HUB HOUT
                    rw [hT0] at HCUT HUB HOUT HR9B HTLB
                    rw [hR0e] at HCUT HFT
                    rw [hcl] at hcg huc
                    rw [hcl] at hrk9
                    have HF0 := Lib.hid (show ¬ Ft (.slice (some ⟨gl, 0, none⟩) R.length lc) hR0 gs from fun h => hF.out (HFT.out gs h))
                    clear hu hr hro hu0 hri hou hcr hcx htop hdl hcut hcs hx0 hT0 hR0e hk0 hcl hS hO hF HUP HRK hkT hbr HFT
                    go_wp2
                    obtain ⟨w1, hw1⟩ : ∃ w1, wk.setCell ⟨gl, k, none⟩ (.slice (some ⟨gu, ou, none⟩) c uc) = w1 := ⟨_, rfl⟩
                    rw [hw1] at HCUT HBK HO1 ⊢
                    have HBX := Lib.hid HBK.out
                    clear hw1 hcg hcx' hfg
                    go_loopw [12, 16, 17, 18] (fun iv_ xv _ _ wi => ∃ (m' : Nat) (T' : List (List Int)) (x : Int), m' ≤ k ∧ iv_ = .int .i64 ((m' : Int) - 1) ∧ xv = .int .i64 x ∧ Hid (UpOk m' T' x) ∧ Hid (upR m' T' x = outR T k) ∧ Hid (T'.length = R.length ∧ ∀ a, (T'.getD a []).length ≤ 9) ∧ Hid (S2 wi B5 22 (.slice (some ⟨gl, 0, none⟩) R.length lc) hR0 T' (.slice none 0 0) [] []) ∧ Hid (OwnI wi (.slice (some ⟨gs, 0, none⟩) n n) (partS R P n q)) ∧ Below w.heap.size w wi) (fun iv_ _ _ _ _ => (intOf iv_ + 1).toNat)
                    case atStart => exact ⟨k, T0, x0, Nat.le_refl _, rfl, rfl, HUB, Lib.hid HOUT.out.symm, Lib.hid ⟨HTLB.out, HR9B.out⟩, HCUT, HO1, HBX.out⟩
                    case round =>
                      obtain ⟨m', T', x, hmk, rfl, rfl, HUP, HUE, HTL', HS, HO, hbr⟩ := hrel
                      clear HUB HCUT HBX HBK HOUT HTLB HR9B HO1
                      cases m' with
                      | zero =>
                        have hT : (outR T k).1 = T' ∧ (outR T k).2 = x := by rw [← HUE.out]; exact ⟨rfl, rfl⟩
                        have HT := Lib.hid hT
                        clear hT
                        have HMI := Lib.hid (show (m : Int) - 1 = (i : Int) ∧ n - 1 - q = i by have := HIM.out; omega)
                        have hm1' : IntKind.i64.wrap ((m : Int) - 1) = (i : Int) := by rw [HMI.out.1]; exact IntWalk.i64_in _ (by have := HIM.out; omega)
                        have hin : (i : Int) < (n : Int) := by have := HIM.out; omega
                        have hi0 : (0 : Int) ≤ (i : Int) := by omega
                        have h5 : Own wr 1 (.slice (some ⟨gs, 0, none⟩) n n) (partS R P n q).length ((partS R P n q).map iv) := HO.out
                        rw [partS_length] at h5
                        obtain ⟨gg, oo, he, hgl5, hcs5, hfs5⟩ := Own.at h5 (by omega)
                        simp only [Option.some.injEq, Addr.mk.injEq, and_true] at he
                        obtain ⟨rfl, rfl⟩ := he
                        have hd := hcs5 i (by omega)
                        rw [List.getElem?_map, List.getElem?_eq_getElem (by rw [partS_length]; omega)] at hd
                        have hpt := OwnI.put HO.out (j := i) (by rw [partS_length]; omega) x
                        rw [Nat.zero_add] at hd hpt
                        have hps := partS_succ R P hq
                        rw [HMI.out.2, HV1.out, HT.out.2] at hps
                        rw [hps] at hpt
                        have hs9 := S2.other (w' := wr.setCell ⟨gs, i, none⟩ (iv x)) HS.out (by simp) (fun g hg => heap_setCell_other wr ⟨gs, i, none⟩ g _ (fun e => by
                          rcases hg with hg | hg
                          · rw [e] at hg; exact HF0.out hg
                          · rcases hg with hg | ⟨j, u, hj, _⟩ <;> simp [Value.ownBlock] at *))
                        have hTT : T' = backT R P n (q + 1) := by rw [HT1.out, HT.out.1]
                        rw [hTT] at hs9
                        have HS9 := Lib.hid hs9
                        have HO9 := Lib.hid hpt
                        have HB9 := Lib.hid (hbr.setCell (p := ⟨gs, i, none⟩) HG1.out (iv x))
                        have hmq : (m : Int) - 1 = (n : Int) - ((q + 1 : Nat) : Int) := by have := HIM.out; omega
                        have HMQ := Lib.hid hmq
                        clear h5 hgl5 hcs5 hps hpt hs9 hTT HS HO hmq
                        go_wp2
                        exact ⟨⟨q + 1, hR0, by omega, by rw [← HMQ.out, HMI.out.1], HS9, HO9, HF0, HB9.out⟩, by simp [intOf]; have := HIM.out; omega⟩
                      | succ i' =>
                        have hz : (((i' + 1 : Nat) : Int) - 1) = (i' : Int) := by omega
                        rw [hz]
                        have hiM : i' < R.length := by omega
                        have hi0 : (0 : Int) ≤ (i' : Int) := by omega
                        have hiMI : (i' : Int) < (R.length : Int) := by omega
                        have hhit := HUP.out.hit
                        have hst := HUP.out.step
                        have hrow9 := HTL'.out.2 i'
                        have hupi := HUP.out.up i'
                        have hxo := HUP.out.out i'
                        obtain ⟨y, hy⟩ : ∃ y, T'.getD i' [] = y := ⟨_, rfl⟩
                        have hne : upR (i' + 1) T' x = upR i' (T'.set i' (y.set (hitP y x - 1) x)) (y.getD (hitP y x - 1) 0) := by
                          rw [show upR (i' + 1) T' x = upR i' (T'.set i' ((T'.getD i' []).set (hitP (T'.getD i' []) x - 1) x)) ((T'.getD i' []).getD (hitP (T'.getD i' []) x - 1) 0) from rfl, hy]
                        rw [hy] at hhit hst hrow9 hupi hxo
                        obtain ⟨kk, hkk⟩ : ∃ kk, hitP y x = kk + 1 := ⟨hitP y x - 1, by omega⟩
                        have hkq : kk < y.length := by omega
                        have hro2 := HS.out.ro
                        rw [HTL'.out.1] at hro2
                        obtain ⟨u, hv⟩ : ∃ u, hR0[i']? = some u := ⟨_, List.getElem?_eq_getElem (by have := hro2.1; omega)⟩
                        have hTi : i' < T'.length := by rw [HTL'.out.1]; exact hiM
                        have hqi : T'[i']? = some y := by rw [List.getElem?_eq_getElem hTi, ← getD_atL hTi, hy]
                        have hov := (HS.out.r.row i' u y hv hqi).1
                        have hcv : wr.cell? ⟨gl, i', none⟩ = some u := by rw [owns_cell hro2 hiM]; exact hv
                        obtain ⟨va, vc, rfl, _, _, _⟩ := hov.shape
                        obtain ⟨gv, ov, rfl, hgv, hcrv, hfv⟩ := Own.at hov (by omega)
                        have HCRV := Lib.hid hcrv
                        have hcx := hcrv kk (by omega)
                        rw [List.getElem?_map, List.getElem?_eq_getElem hkq] at hcx
                        obtain ⟨z, hze⟩ : ∃ z, y[kk] = z := ⟨_, rfl⟩
                        rw [hze] at hcx
                        have hcx' : wr.cell? ⟨gv, ov + kk, none⟩ = some (.int .i64 z) := hcx
                        have hgd : y.getD kk 0 = z := by rw [List.getD_eq_getElem?_getD, List.getElem?_eq_getElem hkq, hze]; rfl
                        rw [hkk] at hne hst
                        simp only [Nat.add_sub_cancel] at hne hst
                        rw [hgd] at hne hst
                        have HST := Lib.hid hst
                        have HNE := Lib.hid (show upR i' (T'.set i' (y.set kk x)) z = outR T k by rw [← hne]; exact HUE.out)
                        have HPUT := Lib.hid (S2.put HS.out hv hqi hkq x)
                        have HBP := Lib.hid (hbr.setCell (p := ⟨gv, ov + kk, none⟩) (Nat.le_trans HG1B.out (HS.out.r.ft (.inr ⟨i', _, hv, rfl⟩)).1) (iv x))
                        have hgvs : gs ≠ gv := fun e => HF0.out (.inr ⟨i', _, hv, by rw [e]; rfl⟩)
                        have HOP := Lib.hid (show OwnI (wr.setCell ⟨gv, ov + kk, none⟩ (iv x)) (.slice (some ⟨gs, 0, none⟩) n n) (partS R P n q) from HO.out.kept fun g hg => by
                          have e : gs = g := by simpa [Value.ownBlock] using hg
                          subst e
                          exact heap_setCell_other wr ⟨gv, ov + kk, none⟩ gs _ hgvs)
                        have HTL2 := Lib.hid (show (T'.set i' (y.set kk x)).length = R.length ∧ ∀ a, ((T'.set i' (y.set kk x)).getD a []).length ≤ 9 from ⟨by rw [List.length_set]; exact HTL'.out.1, fun a => by
                          by_cases e : i' = a
                          · subst e; rw [getL_set_same hTi, List.length_set]; exact hrow9
                          · rw [getL_set_ne e]; exact HTL'.out.2 a⟩)
                        obtain ⟨L, hL⟩ : ∃ L, y.length = L := ⟨_, rfl⟩
                        have HYL := Lib.hid hL
                        rw [hL] at hrow9 hcv
                        have HKK2 := Lib.hid hkk
                        have HXO := Lib.hid hxo
                        have HYU := Lib.hid hupi
                        have HZK := Lib.hid (show y[kk]? = some z by rw [List.getElem?_eq_getElem hkq, hze])
                        have hkL : kk < L := by omega
                        have hL1 : (L : Int) - 1 = ((L - 1 : Nat) : Int) := by omega
                        obtain ⟨wq, rfl⟩ : ∃ z, z = wr := ⟨_, rfl⟩
                        clear hhit hst hupi hne hro2 hv hqi hov hcrv hcx hcx' hgd hy HUP HUE HTL' HS HO hbr hxo hze hkk hL hkq hTi
                        go_wp2
                        go_loopw [17] (fun jv wi => ∃ j : Nat, kk ≤ j ∧ j < L ∧ jv = .int .i64 j ∧ wi = wq) (fun jv _ => (intOf jv).toNat)
                        case atStart => exact ⟨L - 1, by omega, by omega, by rw [← hL1], rfl⟩
                        case round =>
                          obtain ⟨j, hkj, hjL, rfl, rfl⟩ := hrel
                          have hjy : j < y.length := by rw [HYL.out]; exact hjL
                          have hjL' : (j : Int) < (L : Int) := by omega
                          have hj0 : (0 : Int) ≤ (j : Int) := by omega
                          have hcj := HCRV.out j (by omega)
                          rw [List.getElem?_map, List.getElem?_eq_getElem hjy] at hcj
                          obtain ⟨b, hb⟩ : ∃ b, y[j] = b := ⟨_, rfl⟩
                          rw [hb] at hcj
                          have hcj' : wr.cell? ⟨gv, ov + j, none⟩ = some (.int .i64 b) := hcj
                          by_cases hjk : j = kk
                          · subst hjk
                            have hbz : b = z := by have h := HZK.out; rw [List.getElem?_eq_getElem hjy, hb] at h; exact Option.some.inj h
                            have hbx : b < x := by rw [← hb]; exact hitP_lt j hjy (by rw [HKK2.out]; omega)
                            subst hbz
                            have hbx' : ¬ b > x := by omega
                            clear hcj hb hbx
                            go_wp2
                            exact ⟨⟨i', _, b, by omega, rfl, rfl, HST, HNE, HTL2, HPUT, HOP, HBP.out⟩, by simp [intOf] <;> omega⟩
                          · have hbx : b > x := by
                              have h1 : ¬ b < x := by
                                intro h
                                have := hitP_gt HYU.out hjy (by rw [hb]; exact h)
                                rw [HKK2.out] at this
                                omega
                              have h2 : b ≠ x := fun e => HXO.out (by rw [← e, ← hb]; exact List.getElem_mem hjy)
                              omega
                            have hj1 : (j : Int) - 1 = ((j - 1 : Nat) : Int) := by omega
                            clear hcj hb
                            go_wp2
                            go_roundw
                            case rel => exact ⟨j - 1, by omega, by omega, by rw [← hj1], by trivial⟩
                            case measure => simp [intOf] <;> omega
              · obtain rfl : q = n := by omega
                have hie : (q : Int) - (q : Int) = 0 := by omega
                rw [hie]
                have HOE := Lib.hid (show OwnI wr (.slice (some ⟨gs, 0, none⟩) q q) (mStackOfRows R P) by
                  have e : mStackOfRows R P = partS R P q q := by unfold mStackOfRows; rw [if_pos HYES.out, HPL.out, HN1.out]
                  rw [e]
                  exact hO.out)
                clear hie hS hO hF
                go_wp2
                go_ret2
                exact ⟨_, by rw [HYES.out]; rfl, HOE.out, From.at _ _ _ _ _ HG1.out, hbr⟩

end Go.Proofs.Ytfcbaegkppkfkaa

namespace Go.Proofs.Ytfcbaegkppkfkaa
open Go Go.RowKit Go.Pan

set_option maxHeartbeats 1600000 in
set_option maxRecDepth 100000 in
theorem szM_any (v : Value) (xss : List (List Int)) (L : Int) (w : World) (hv : IntM w v xss) (hL0 : 0 ≤ L) (hL1 : L ≤ 1048576) :
    Calls Try.prog 23 #[v, .int .i64 L] w fun e w' => ∃ z : Int, e = .returned (.int .i64 z) ∧ w = w' ∧ (z = -1 ∨ (0 ≤ z ∧ z = L - xss.length - (pre xss xss.length : Nat))) := by
  obtain ⟨ad, cap, rfl, hc, hm, hr⟩ := hv
  have hs1 := IntWalk.i64_in (L - (xss.length : Int)) (by unfold maxLen at hm; omega)
  by_cases h : L - (xss.length : Int) < 0
  · go_enter Try.func23, Try.ntmps23
    go_wp2
    go_ret
    exact ⟨_, rfl, rfl, .inl rfl⟩
  · have h' : 0 ≤ L - (xss.length : Int) := by omega
    have HR := Lib.hid hr
    clear hr
    go_enter Try.func23, Try.ntmps23
    go_wp2
    go_loopw [1, 5] (fun lv iv' wr => ∃ (i : Nat) (l : Int), i ≤ xss.length ∧ iv' = .int .i64 i ∧ lv = .int .i64 l ∧ 0 ≤ l ∧ Hid (l = L - (xss.length : Int) - (pre xss i : Nat)) ∧ wr = w) (fun _ iv' _ => xss.length - (intOf iv').toNat)
    case atStart => exact ⟨0, _, Nat.zero_le _, rfl, rfl, h', Lib.hid (by simp [pre]), rfl⟩
    case round =>
      obtain ⟨i, l, hi, rfl, rfl, hl0, hl, rfl⟩ := hrel
      by_cases hlt : i < xss.length
      · have hlt' : (i : Int) < (xss.length : Int) := by omega
        obtain ⟨b, off, rfl, hbl, hcell⟩ := HR.out (by intro e; simp [e] at hlt)
        obtain ⟨u, hu, hx⟩ := hcell i hlt
        have HP := Lib.hid (pre_succ xss i hlt)
        obtain ⟨a2, c2, rfl, _, _, _⟩ := id hx
        have cz := szIntS_any _ xss[i] l wr hx hl0 (by have := hl.out; omega)
        clear hcell hx
        go_wp2_with fail
        refine cz.mono ?_
        rintro e w1 ⟨z, rfl, rfl, hz⟩
        rcases hz with rfl | ⟨hz0, hz1⟩
        · go_wp2
          go_ret
          exact ⟨_, rfl, rfl, .inl rfl⟩
        · have HZ := Lib.hid (show z = L - (xss.length : Int) - (pre xss (i + 1) : Nat) by
            have := hl.out; have := HP.out; omega)
          clear hz1
          go_wp2
          go_roundw
          case rel => exact ⟨i + 1, z, by omega, by go_num, rfl, hz0, HZ, by first | rfl | trivial⟩
          case measure => simp [intOf] <;> omega
      · obtain rfl : i = xss.length := by omega
        have hge : (xss.length : Int) ≤ (xss.length : Int) := Int.le_refl _
        have HE := Lib.hid (show l = L - xss.length - (pre xss xss.length : Nat) by have := hl.out; omega)
        go_wp2
        go_ret
        exact ⟨_, rfl, rfl, .inr ⟨hl0, HE.out⟩⟩

set_option maxHeartbeats 400000 in
theorem markM_any (v : Value) (B N : Nat) (hs : List Value) (xss : List (List Int)) (k : Int) (w : World) (hv : SS w B N v hs xss) (hn : xss.length ≤ 1048576) (hm : ∀ xs ∈ xss, xs.length ≤ 1048576) (ht : pre xss xss.length ≤ 1048576) (h0 : 0 ≤ k) (h1 : k ≤ 16777216) (hBw : B ≤ w.heap.size) :
    Calls Try.prog 14 #[v, .int .i64 k] w fun e w' => e = .returned (.int .i64 (k + (pre xss xss.length : Nat))) ∧ SS w' B N v hs (markAt xss k xss.length) ∧ (∀ g, g < w.heap.size → (g < B ∨ N ≤ g) → w'.heap[g]? = w.heap[g]?) ∧ Below B w w' := by
  obtain ⟨ad, cap, rfl, hc, _, _⟩ := hv.own.shape
  have hl := hv.len
  rw [hl] at hc hv ⊢
  have HT := Lib.hid ht
  have HM := Lib.hid hm
  clear ht hm
  go_enter Try.func14, Try.ntmps14
  go_wp2
  go_loopw [1, 5] (fun q i wr => ∃ j : Nat, j ≤ xss.length ∧ i = .int .i64 j ∧ q = .int .i64 (k + (pre xss j : Nat)) ∧ SS wr B N (.slice ad xss.length cap) hs (markAt xss k j) ∧ Hid (∀ g, g < w.heap.size → (g < B ∨ N ≤ g) → wr.heap[g]? = w.heap[g]?) ∧ Below B w wr) (fun _ i _ => xss.length - (intOf i).toNat)
  case atStart => exact ⟨0, Nat.zero_le _, rfl, by simp [pre], by rw [markAt_zero]; exact hv, Lib.hid (fun _ _ _ => rfl), Below.refl _ _⟩
  case round =>
    obtain ⟨j, hj, rfl, rfl, ho, HK, hbr⟩ := hrel
    by_cases hlt : j < xss.length
    · obtain ⟨g, off, rfl, u, hu, hou, hiu, _, hcell⟩ := ho.at j (by rw [markAt_length]; exact hlt)
      rw [markAt_old xss k j hlt] at hou
      obtain ⟨au, cu, rfl, _, _, _⟩ := hou.shape
      have HP := Lib.hid (pre_succ xss j hlt)
      have hpj : pre xss j ≤ 1048576 := Nat.le_trans (pre_le xss j) HT.out
      have hxl := HM.out _ (List.getElem_mem hlt)
      have HS := Lib.hid (fun (w' : World) (h1 : OwnI w' _ _) (h2 : wr.grownBy w' _) => SS.mark ho hlt hu h1 h2)
      have HI := Lib.hid hiu
      clear ho hu hv hiu
      go_wp2_with fail
      refine (markIntS_any _ xss[j].length _ (k + (pre xss j : Nat)) _ hou hxl (by omega) (by omega)).mono ?_
      rintro e w2 ⟨rfl, ho2, hg2⟩
      have hS2 := HS.out w2 ho2 hg2
      have hB2 := hbr.grown hg2 (Nat.le_trans hBw hbr.size) (fun g hg => (HI.out g hg).1)
      have hsz := hbr.size
      have HK2 := Lib.hid (show ∀ g, g < w.heap.size → (g < B ∨ N ≤ g) → w2.heap[g]? = w.heap[g]? from fun g hg hb => (hg2.block g (by omega) (fun e => by have := HI.out g e.symm; omega)).trans (HK.out g hg hb))
      obtain ⟨q, hq⟩ : ∃ q : Int, k + (pre xss j : Nat) + (xss[j].length : Nat) = q := ⟨_, rfl⟩
      have HQ := Lib.hid (show q = k + (pre xss (j + 1) : Nat) by rw [HP.out]; omega)
      rw [hq]
      clear hou ho2 hg2 hbr hcell hq
      go_wp2
      go_roundw
      case rel => exact ⟨j + 1, by omega, by go_num, by rw [HQ.out], hS2, HK2, hB2⟩
      case measure => simp [intOf]; omega
    · obtain rfl : j = xss.length := by omega
      go_wp2
      go_ret
      exact ⟨rfl, ho, HK.out, hbr⟩

theorem len_mStackOfRows (R P : List (List Int)) : (mStackOfRows R P).length ≤ 1048576 := by
  unfold mStackOfRows
  split
  · rename_i h
    rw [partS_length]
    unfold okSR at h
    simp only [Bool.and_eq_true] at h
    have := (tab_of h.1).good.2.1
    rw [flat_len] at this
    omega
  · simp

end Go.Proofs.Ytfcbaegkppkfkaa
