import Derived.Test.YtfcbaegkppkfkaaRwC
import Derived.Test.YtfcbaegkppkfkaaRwL
import Derived.Test.YtfcbaegkppkfkaaI1
namespace Go.Proofs.Ytfcbaegkppkfkaa
open Go Go.RowKit Go.Pan

set_option maxHeartbeats 8000000 in
set_option maxRecDepth 100000 in
theorem tablesOf_any (v : Value) (xs : List Int) (w : World) (hv : OwnI w v xs) (hn : xs.length ≤ 1048576) :
    Calls Try.prog 31 #[v] w fun e w' => ∃ r hs p hp, e = .returned (.tuple #[r, p, .bool (goodB xs)]) ∧ Hid (SS w' w.heap.size w'.heap.size r hs (mRowsOf xs)) ∧ Hid (SS w' w.heap.size w'.heap.size p hp (mPlacesOfRows xs)) ∧ Below w.heap.size w w' := by
  obtain ⟨ad, cap, rfl, hc, _, _⟩ := hv.shape
  have cg := IsStack_any _ _ _ hv hn
  cases hg : goodB xs with
  | true =>
    have HG := Lib.hid (goodB_iff.1 hg)
    have HM := Lib.hid (show mRowsOf xs = (tabTo xs xs.length).1 ∧ mPlacesOfRows xs = (tabTo xs xs.length).2 from ⟨if_pos hg, if_pos hg⟩)
    have h9 := HG.out.le9
    rw [hg] at cg
    obtain ⟨i0, hi, hz0, hz1, hz2⟩ := info_parts Try.info22
    have HI := Lib.hid hi
    have HZ0 := Lib.hid hz0
    have HZ1 := Lib.hid hz1
    have HZ2 := Lib.hid hz2
    clear hg hi hz0 hz1 hz2
    go_enter Try.func31, Try.ntmps31
    go_wp2_with fail
    refine (cg).mono ?_
    rintro e w1 ⟨rfl, hb1⟩
    have HV := Lib.hid (hv.same hb1)
    have hz1 := hb1.size
    have HS0 := Lib.hid (show S2 w1 w1.heap.size 22 (.slice none 0 0) [] (tabTo xs 0).1 (.slice none 0 0) [] (tabTo xs 0).2 from S2.nil w1 _ _)
    clear cg hv
    go_wp2
    go_loopw [5, 6, 7, 8, 9, 15] (fun rv pv _ _ _ i wr => ∃ (k : Nat) (hR hP : List Value), k ≤ xs.length ∧ i = .int .i64 k ∧ Hid (S2 wr w1.heap.size 22 rv hR (tabTo xs k).1 pv hP (tabTo xs k).2) ∧ Below w1.heap.size w1 wr) (fun _ _ _ _ _ i _ => xs.length - (intOf i).toNat)
    case atStart => exact ⟨0, [], [], Nat.zero_le _, rfl, HS0, Below.refl _ _⟩
    case round =>
      obtain ⟨k, hR, hP, hk, rfl, hS, hbr⟩ := hrel
      clear HS0
      by_cases hlt : k < xs.length
      · have hlt' : (k : Int) < (xs.length : Int) := by omega
        obtain ⟨gx, ox, rfl, hgx, hcx, _⟩ := Own.at HV.out (by omega)
        have hx := hcx k (by omega)
        rw [List.getElem?_map, List.getElem?_eq_getElem hlt] at hx
        have hxr := (hbr.cell (p := ⟨gx, ox + k, none⟩) hgx).trans hx
        have HPI := Lib.hid (tabTo_in xs k)
        have HHX := Lib.hid (tabTo_x HG.out hlt)
        obtain ⟨x, hxe⟩ : ∃ x, xs[k] = x := ⟨_, rfl⟩
        have hgd : xs.getD k 0 = x := by rw [List.getD_eq_getElem?_getD, List.getElem?_eq_getElem hlt, hxe]; rfl
        obtain ⟨R0, hR0⟩ : ∃ R0, (tabTo xs k).1 = R0 := ⟨_, rfl⟩
        obtain ⟨P0, hP0⟩ : ∃ P0, (tabTo xs k).2 = P0 := ⟨_, rfl⟩
        have HT := Lib.hid (show tabTo xs (k + 1) = ((insR R0 x).1, noteP P0 (insR R0 x).2 ((k : Int) + 1)) by simp only [tabTo]; rw [hR0, hP0, hgd])
        rw [hxe] at hxr HHX
        rw [hR0, hP0] at hS HPI
        rw [hR0] at HHX
        have HRP := Lib.hid (show R0.length = P0.length from HPI.out.2.2)
        have hR9 : R0.length ≤ 9 := by have := HPI.out.1.len; omega
        have HRR := Lib.hid (show ∀ r ∈ R0, 0 < r.length ∧ r.length ≤ 9 from fun r hr => ⟨HPI.out.1.1 r hr, by have := HPI.out.1.row hr; omega⟩)
        have HPR := Lib.hid (show ∀ r ∈ P0, 0 < r.length ∧ r.length ≤ 9 from fun r hr => ⟨HPI.out.2.1.1 r hr, by have := HPI.out.2.1.row hr; omega⟩)
        have cI := intoRows_any u5 u6 hR hP R0 P0 x wr w1.heap.size hS.out hbr.size hR9 HRR.out HHX.out
        have HE := Lib.hid (insR_le R0 x).1
        obtain ⟨q, hq⟩ : ∃ q, (insR R0 x).2 = q := ⟨_, rfl⟩
        have HQ := Lib.hid hq
        rw [hq] at cI HE
        obtain ⟨M, hM⟩ : ∃ M, P0.length = M := ⟨_, rfl⟩
        have HMP := Lib.hid hM
        have hqM0 : q ≤ M := by have := HE.out; have := HRP.out; omega
        have hM9 : M ≤ 9 := by have := HRP.out; omega
        obtain ⟨pa, pc, rfl, hpc, hpcm, _⟩ := (Own.of_row (S2.poN hS.out hM)).1.shape
        clear hcx hx hxe hgd hR0 hP0 hq hM
        go_wp2_with fail
        refine cI.mono ?_
        rintro e w2 ⟨v2, hR2, rfl, hS2, hb2⟩
        have HS2 := Lib.hid hS2
        have hB2 := hbr.trans hb2
        have hz2 := hB2.size
        clear hS2 hb2 cI hS hbr
        by_cases hqM : q < M
        · have hqne : ((q : Int) == (M : Int)) = false := by rw [beq_eq_false_iff_ne]; omega
          have hqM' : (q : Int) < (M : Int) := by omega
          have hpo := S2.poN HS2.out HMP.out
          obtain ⟨gp, hgp0, cps, hcps⟩ := owns_zero hpo (by omega)
          subst hgp0
          obtain ⟨pu, hpu⟩ : ∃ pu, hP[q]? = some pu := ⟨_, List.getElem?_eq_getElem (by have := hpo.1; omega)⟩
          have hcp2 := S2.cellP HS2.out HMP.out hqM hpu
          have hqP : q < P0.length := by rw [HMP.out]; exact hqM
          obtain ⟨pr, hpr⟩ : ∃ pr, P0[q] = pr := ⟨_, rfl⟩
          have hPR0 : P0[q]? = some pr := by rw [List.getElem?_eq_getElem hqP, hpr]
          have HPL := Lib.hid (HPR.out pr (by rw [← hpr]; exact List.getElem_mem hqP))
          have hOp := HS2.out.p.row q pu pr hpu hPR0
          obtain ⟨pua, puc, rfl, _, _, _⟩ := hOp.1.shape
          have hug4 : (Value.slice pua pr.length puc).ownBlock ≠ some gp := hOp.2.2 gp rfl
          have hpl : pr.length ≤ 1048576 := by have := HPL.out; omega
          have HOP := Lib.hid (hOp.1.alloc (.cells #[.int .i64 ((k : Int) + 1)] 3))
          have HCP := Lib.hid hcps
          have HPU := Lib.hid hpu
          have HPR0 := Lib.hid hPR0
          have HPO := Lib.hid hpo
          have HFR := Lib.hid (hOp.2.1)
          clear hpr hOp hqP hcps hpu hPR0 hpo
          go_wp2_with (at_builtin; refine wpList_app1D Try.intSl rfl _ _ rfl (.slice pua pr.length puc) pr rfl HOP.out w2.heap.size ((k : Int) + 1) rfl (Blk.cell (cs := [iv ((k : Int) + 1)]) (heap_alloc_new _ _) 0) hpl (w2.heap.size + 1) (by simp) ?_; intro v4 w4 ho4 hat4 hgr4; obtain ⟨a4, c4, rfl, _, _, _⟩ := ho4.shape; have hbg4 : Blk w4 gp 22 cps := (HCP.out.alloc _).grown hgr4 hug4; have hcg4 := hcell_setP hbg4 (owns_len HPO.out HCP.out hqM); have hfg4 : ∀ j, w4.frozen? ⟨gp, j, none⟩ = false := (fun j => frozen_of_row w4 gp _ _ _ hbg4))
          have hl4 : (pr ++ [(k : Int) + 1]).length = pr.length + 1 := by simp
          have hF := (S2.push (HS2.out.swap.below (below_new _ (.cells #[.int .i64 ((k : Int) + 1)] 3))) (by simp; omega) HMP.out (HCP.out.alloc _) HPU.out hgr4 ho4 (by simpa using hat4)).swap
          rw [hl4] at hF
          have hnt : noteP P0 (insR R0 x).2 ((k : Int) + 1) = P0.set q (pr ++ [(k : Int) + 1]) := by
            rw [HQ.out]
            unfold noteP
            rw [if_pos (by rw [HMP.out]; exact hqM), show P0.getD q [] = pr by rw [List.getD_eq_getElem?_getD, HPR0.out]; rfl]
          have hT1 : (tabTo xs (k + 1)).1 = (insR R0 x).1 := by rw [HT.out]
          have hT2 : (tabTo xs (k + 1)).2 = P0.set q (pr ++ [(k : Int) + 1]) := by rw [HT.out]; exact hnt
          rw [← hT1, ← hT2] at hF
          have hB9 := ((hB2.alloc hz2 (.cells #[.int .i64 ((k : Int) + 1)] 3)).grown hgr4 (by simp; omega) (fun b hb => (HFR.out b hb).1)).setCell (p := ⟨gp, q, none⟩) (HS2.out.p.inn gp rfl).1 (.slice a4 (pr.length + 1) c4)
          exact ⟨⟨k + 1, _, _, by omega, by go_num, Lib.hid hF, hB9⟩, by simp [intOf] <;> omega⟩
        · obtain rfl : q = M := by omega
          have hqq : ((q : Int) == (q : Int)) = true := by simp
          have HPO := Lib.hid ((S2.poN HS2.out HMP.out).alloc (.cells #[.slice none 0 0] 22))
          have hPl : hP.length = q := by have := HPO.out.1; omega
          have HPU := Lib.hid (show (hP ++ [Value.slice none 0 0])[q]? = some (.slice none 0 0) by rw [List.getElem?_append_right (by omega), hPl, Nat.sub_self]; rfl)
          have HN2 := Lib.hid (show (P0 ++ [([] : List Int)]).length = q + 1 by rw [List.length_append, HMP.out]; rfl)
          have hq1 : (q : Int) < ((q + 1 : Nat) : Int) := by omega
          have hnb : ∀ g : Nat, (Value.slice none 0 0).ownBlock ≠ some g := fun g e => by cases e
          have HNB := Lib.hid hnb
          have hl0 : ([] : List Int).length ≤ 1048576 := by simp
          clear hPl hnb
          go_wp2_with (first | (at_builtin; refine wpList_append_lies _ rfl _ _ 23 rfl w1.heap.size 22 i0 _ 1 24 Try.underlying23 HI.out HZ0.out HZ1.out HZ2.out rfl (by omega) (.slice pa q pc) q hP rfl HPO.out _ 1 1 [.slice none 0 0] rfl (by simp) (World.news_of_block (heap_alloc_new _ _)) (by simp [Value.oneCell']) (by omega) (by unfold maxLen; omega) (by omega) (by simp; omega) (w2.heap.size + 1) (by simp) ?_; intro g3 cap3 w3 hown3 hgr3 hat3 hlt3; have HS3 := Lib.hid (S2.appN HS2.out.swap hz2 HMP.out hown3 hgr3 hat3 hlt3).swap; have hB3 := (hB2.alloc hz2 (.cells #[.slice none 0 0] 22)).grown hgr3 (by simp; omega) (fun b hb => (HS2.out.p.inn b hb).1); have hz3 := hB3.size; have hcp3 := S2.cellP HS3.out HN2.out (Nat.lt_succ_self q) HPU.out; obtain ⟨cps, hcps⟩ := blk_of_owns (S2.poN HS3.out HN2.out); have HCP := Lib.hid hcps; clear hown3 hgr3 hcps) | (at_builtin; refine wpList_app1D Try.intSl rfl _ _ rfl (.slice none 0 0) [] rfl (OwnI.nil _) w3.heap.size ((k : Int) + 1) rfl (Blk.cell (cs := [iv ((k : Int) + 1)]) (heap_alloc_new _ _) 0) hl0 (w3.heap.size + 1) (by simp) ?_; intro v4 w4 ho4 hat4 hgr4; obtain ⟨a4, c4, rfl, _, _, _⟩ := ho4.shape; have hbg4 : Blk w4 g3 22 cps := (HCP.out.alloc _).grown hgr4 (HNB.out g3); have hcg4 := hcell_setP hbg4 (owns_len (S2.poN HS3.out HN2.out) HCP.out (Nat.lt_succ_self q)); have hfg4 : ∀ j, w4.frozen? ⟨g3, j, none⟩ = false := (fun j => frozen_of_row w4 g3 _ _ _ hbg4)))
          have hl4 : (([] : List Int) ++ [(k : Int) + 1]).length = 1 := rfl
          have hF := (S2.push (HS3.out.swap.below (below_new _ (.cells #[.int .i64 ((k : Int) + 1)] 3))) (by simp; omega) HN2.out (HCP.out.alloc _) HPU.out hgr4 ho4 (by simpa using hat4)).swap
          rw [hl4] at hF
          have hs2 : (P0 ++ [([] : List Int)]).set q ([] ++ [(k : Int) + 1]) = P0 ++ [[(k : Int) + 1]] := by rw [List.set_append_right _ _ (by rw [HMP.out]; omega), HMP.out, Nat.sub_self]; rfl
          have hT1 : (tabTo xs (k + 1)).1 = (insR R0 x).1 := by rw [HT.out]
          have hT2 : (tabTo xs (k + 1)).2 = P0 ++ [[(k : Int) + 1]] := by
            rw [HT.out]
            show noteP P0 (insR R0 x).2 _ = _
            rw [HQ.out]
            unfold noteP
            rw [if_neg (by rw [HMP.out]; omega)]
          rw [hs2, ← hT1, ← hT2] at hF
          have hB9 := ((hB3.alloc hz3 (.cells #[.int .i64 ((k : Int) + 1)] 3)).grown hgr4 (by simp; omega) (fun b hb => by cases hb)).setCell (p := ⟨g3, q, none⟩) (HS3.out.p.inn g3 rfl).1 (.slice a4 1 c4)
          exact ⟨⟨k + 1, _, _, by omega, by go_num, Lib.hid hF, hB9⟩, by simp [intOf] <;> omega⟩
      · obtain rfl : k = xs.length := by omega
        have hge3 : ¬ ((xs.length : Int) < (xs.length : Int)) := by omega
        have HPI := Lib.hid (tabTo_in xs xs.length)
        obtain ⟨R0, hR0⟩ : ∃ R0, (tabTo xs xs.length).1 = R0 := ⟨_, rfl⟩
        obtain ⟨P0, hP0⟩ : ∃ P0, (tabTo xs xs.length).2 = P0 := ⟨_, rfl⟩
        rw [hR0, hP0] at hS HPI HM
        have HRR := Lib.hid (show ∀ r ∈ R0, 1 ≤ r.length ∧ r.length ≤ 9 from fun r hr => ⟨HPI.out.1.1 r hr, by have := HPI.out.1.row hr; omega⟩)
        have HPR := Lib.hid (show ∀ r ∈ P0, 1 ≤ r.length ∧ r.length ≤ 9 from fun r hr => ⟨HPI.out.2.1.1 r hr, by have := HPI.out.2.1.row hr; omega⟩)
        have hRl : R0.length ≤ 1048576 := by have := HPI.out.1.len; omega
        have hPl : P0.length ≤ 1048576 := by have := HPI.out.2.1.len; omega
        have hzr := hbr.size
        clear hR0 hP0
        go_wp2_with fail
        refine (copies_any _ hR R0 wr w1.heap.size wr.heap.size hS.out.r (Nat.le_refl _) HRR hRl).mono ?_
        rintro e w2 ⟨r2, hs2, rfl, hS2, hb2⟩
        have HS2 := Lib.hid hS2
        have hz2 := hb2.size
        go_wp2_with fail
        refine (copies_any _ hP P0 w2 w1.heap.size wr.heap.size (hS.out.p.below hb2 (Nat.le_refl _)) hz2 HPR hPl).mono ?_
        rintro e w3 ⟨r3, hs3, rfl, hS3, hb3⟩
        have hz3 := hb3.size
        have HA := Lib.hid (show SS w3 w.heap.size w3.heap.size r2 hs2 (mRowsOf xs) by rw [HM.out.1]; exact (HS2.out.below hb3 (Nat.le_refl _)).mono (by omega) hz3)
        have HB := Lib.hid (show SS w3 w.heap.size w3.heap.size r3 hs3 (mPlacesOfRows xs) by rw [HM.out.2]; exact hS3.mono (by omega) (Nat.le_refl _))
        have hB3 : Below w.heap.size w w3 := hb1.trans ((hbr.trans ((hb2.trans (hb3.mono hz2)).mono hzr)).mono hz1)
        clear hS3 hS2 hb2 hb3 HS2 hbr
        go_wp2
        go_ret3
        exact ⟨_, _, _, _, rfl, HA, HB, hB3⟩
  | false =>
    have HM := Lib.hid (show mRowsOf xs = [] ∧ mPlacesOfRows xs = [] from ⟨if_neg (by rw [hg]; exact Bool.false_ne_true), if_neg (by rw [hg]; exact Bool.false_ne_true)⟩)
    rw [hg] at cg
    clear hg
    go_enter Try.func31, Try.ntmps31
    go_wp2_with fail
    refine (cg).mono ?_
    rintro e w1 ⟨rfl, hb1⟩
    go_wp2
    go_ret3
    exact ⟨_, [], _, [], rfl, Lib.hid (by rw [HM.out.1]; exact SS.nil _ _ _), Lib.hid (by rw [HM.out.2]; exact SS.nil _ _ _), hb1⟩

end Go.Proofs.Ytfcbaegkppkfkaa
