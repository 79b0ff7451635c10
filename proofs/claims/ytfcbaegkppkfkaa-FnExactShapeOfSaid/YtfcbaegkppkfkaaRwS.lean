import Derived.Test.YtfcbaegkppkfkaaRwL
import Derived.Test.YtfcbaegkppkfkaaS1
import Derived.Test.YtfcbaegkppkfkaaS15
import Derived.BigQuiet
import Derived.Deep.AppendLies
namespace Go.Proofs.Ytfcbaegkppkfkaa
open Go Go.RowKit Go.Pan

set_option maxHeartbeats 8000000 in
set_option maxRecDepth 100000 in
theorem inRows_any (v : Value) (xs : List Int) (w : World) (hv : OwnI w v xs) (h9 : xs.length ≤ 9) :
    Calls Try.prog 30 #[v] w fun e w' => ∃ r hR p hP, e = .returned (.tuple #[r, p]) ∧ S2 w' w.heap.size 22 r hR (tabTo xs xs.length).1 p hP (tabTo xs xs.length).2 ∧ Below w.heap.size w w' := by
  obtain ⟨ad, cap, rfl, hc, _, _⟩ := hv.shape
  obtain ⟨i0, hi, hz0, hz1, hz2⟩ := info_parts Try.info22
  have HI := Lib.hid hi
  have HZ0 := Lib.hid hz0
  have HZ1 := Lib.hid hz1
  have HZ2 := Lib.hid hz2
  have HV := Lib.hid hv
  have HS0 := Lib.hid (show S2 w w.heap.size 22 (.slice none 0 0) [] (tabTo xs 0).1 (.slice none 0 0) [] (tabTo xs 0).2 from S2.nil w _ _)
  clear hi hz0 hz1 hz2 hv
  go_enter Try.func30, Try.ntmps30
  go_wp2
  go_loopw [4, 5, 6, 7, 8, 9, 10, 13] (fun ov pv _ _ _ _ _ i wr => ∃ (k : Nat) (hR hP : List Value), k ≤ xs.length ∧ i = .int .i64 k ∧ Hid (S2 wr w.heap.size 22 ov hR (tabTo xs k).1 pv hP (tabTo xs k).2) ∧ Below w.heap.size w wr) (fun _ _ _ _ _ _ _ i _ => xs.length - (intOf i).toNat)
  case atStart => exact ⟨0, [], [], Nat.zero_le _, rfl, HS0, Below.refl _ _⟩
  case round =>
    obtain ⟨n, hR, hP, hn, rfl, hS, hbr⟩ := hrel
    clear HS0
    by_cases hlt : n < xs.length
    · have hlt' : (n : Int) < (xs.length : Int) := by omega
      obtain ⟨gx, ox, rfl, hgx, hcx, _⟩ := Own.at HV.out (by omega)
      have hx := hcx n (by omega)
      rw [List.getElem?_map, List.getElem?_eq_getElem hlt] at hx
      have hxr := (hbr.cell (p := ⟨gx, ox + n, none⟩) hgx).trans hx
      have HPI := Lib.hid (tabTo_in xs n)
      obtain ⟨x, hxe⟩ : ∃ x, xs[n] = x := ⟨_, rfl⟩
      have hgd : xs.getD n 0 = x := by rw [List.getD_eq_getElem?_getD, List.getElem?_eq_getElem hlt, hxe]; rfl
      obtain ⟨R0, hR0⟩ : ∃ R0, (tabTo xs n).1 = R0 := ⟨_, rfl⟩
      obtain ⟨P0, hP0⟩ : ∃ P0, (tabTo xs n).2 = P0 := ⟨_, rfl⟩
      have HT := Lib.hid (show tabTo xs (n + 1) = ((insR R0 x).1, noteP P0 (insR R0 x).2 ((n : Int) + 1)) by simp only [tabTo]; rw [hR0, hP0, hgd])
      rw [hxe] at hxr
      rw [hR0, hP0] at hS HPI
      have HRP := Lib.hid (show R0.length = P0.length from HPI.out.2.2)
      have hR9 : R0.length ≤ 9 := by have := HPI.out.1.len; omega
      have HRR := Lib.hid (show ∀ r ∈ ([] ++ R0), 0 < r.length ∧ r.length ≤ 9 from fun r hr => ⟨HPI.out.1.1 r hr, by have := HPI.out.1.row hr; omega⟩)
      have HPR := Lib.hid (show ∀ r ∈ P0, 0 < r.length ∧ r.length ≤ 9 from fun r hr => ⟨HPI.out.2.1.1 r hr, by have := HPI.out.2.1.row hr; omega⟩)
      have HE0 := Lib.hid (show [] ++ (insR R0 x).1 = (insR R0 x).1 ∧ 0 + (insR R0 x).2 = (insR R0 x).2 ∧ 0 + R0.length = R0.length from ⟨rfl, by omega, by omega⟩)
      have HS1 := Lib.hid (show S2 wr w.heap.size 22 u4 hR ([] ++ R0) u5 hP P0 from hS.out)
      obtain ⟨x0, hx0⟩ : ∃ x0, x0 = x := ⟨_, rfl⟩
      have HX0 := Lib.hid hx0
      clear hcx hx hxe hgd hR0 hP0 hS hx0
      have hbz := hbr
      have HBZ := Lib.hid hbr
      obtain ⟨wz, rfl⟩ : ∃ z, z = wr := ⟨_, rfl⟩
      obtain ⟨M, hM⟩ : ∃ M, R0.length = M := ⟨_, rfl⟩
      have HM := Lib.hid hM
      have HMP := Lib.hid (show P0.length = M by rw [← HRP.out]; exact hM)
      rw [hM] at hR9
      clear hM
      go_wp2
      go_loopw [4, 5, 7, 8, 9, 10] (fun ov pv xv kv _ _ wi => ∃ (q : Nat) (hR hP : List Value) (D R' : List (List Int)) (x' : Int), q ≤ M ∧ kv = .int .i64 q ∧ xv = .int .i64 x' ∧ Hid (D.length = q) ∧ Hid (S2 wi w.heap.size 22 ov hR (D ++ R') pv hP P0) ∧ Hid (D ++ (insR R' x').1 = (insR R0 x).1 ∧ q + (insR R' x').2 = (insR R0 x).2 ∧ q + R'.length = M) ∧ Hid (∀ r ∈ D ++ R', 0 < r.length ∧ r.length ≤ 9) ∧ Below w.heap.size w wi) (fun _ _ _ kv _ _ _ => M - (intOf kv).toNat)
      case atStart => exact ⟨0, hR, hP, [], R0, x0, Nat.zero_le _, rfl, by rw [HX0.out], Lib.hid rfl, HS1, Lib.hid ⟨by rw [HX0.out]; rfl, by rw [HX0.out]; omega, by have := HM.out; omega⟩, HRR, hbr⟩
      case round =>
        clear HS1 HRR HE0 HX0
        obtain ⟨q, hR, hP, D, R', x', hq, rfl, rfl, hD, hS, HE, HRR, hbr⟩ := hrel
        have hDR : (D ++ R').length = M := by rw [List.length_append, hD.out]; exact HE.out.2.2
        have hro := hS.out.ro
        have hpo := hS.out.po
        rw [hDR] at hro
        rw [HMP.out] at hpo
        obtain ⟨oa, oc, rfl, hoc, hocm, _⟩ := (Own.of_row hro).1.shape
        obtain ⟨pa, pc, rfl, hpc, hpcm, _⟩ := (Own.of_row hpo).1.shape
        have HRO := Lib.hid hro
        have HPO := Lib.hid hpo
        have HDR := Lib.hid hDR
        clear hro hpo hDR
        obtain ⟨wk, rfl⟩ : ∃ z, z = wr := ⟨_, rfl⟩
        by_cases hqM : q < M
        · have hqne : ((q : Int) == (M : Int)) = false := by rw [beq_eq_false_iff_ne]; omega
          have hqM' : (q : Int) < (M : Int) := by omega
          obtain ⟨r, R'', rfl⟩ : ∃ r R'', R' = r :: R'' := by
            cases R' with
            | nil => have := HE.out.2.2; simp at this; omega
            | cons r R'' => exact ⟨r, R'', rfl⟩
          have hqr : (D ++ r :: R'')[q]? = some r := by rw [List.getElem?_append_right (by rw [hD.out]; omega), hD.out, Nat.sub_self]; rfl
          obtain ⟨g, hg0, cs, hcs⟩ := owns_zero HRO.out (by omega)
          subst hg0
          obtain ⟨gp, hgp0, cps, hcps⟩ := owns_zero HPO.out (by omega)
          subst hgp0
          obtain ⟨u, hu⟩ : ∃ u, hR[q]? = some u := ⟨_, List.getElem?_eq_getElem (by have := HRO.out.1; omega)⟩
          obtain ⟨pu, hpu⟩ : ∃ pu, hP[q]? = some pu := ⟨_, List.getElem?_eq_getElem (by have := HPO.out.1; omega)⟩
          have hcg : wk.cell? ⟨g, q, none⟩ = some u := by rw [owns_cell HRO.out hqM]; exact hu
          have hOu := (hS.out.r.row q u r hu hqr).1
          have hr0 := HRR.out r (by simp)
          obtain ⟨ua, uc, rfl, huc, hucm, _⟩ := hOu.shape
          obtain ⟨gu, ou, rfl, hgu, hcr, hfu⟩ := Own.at hOu (by omega)
          have HQR := Lib.hid hqr
          have HU := Lib.hid hu
          have HPU := Lib.hid hpu
          have HCS := Lib.hid hcs
          have HCPS := Lib.hid hcps
          have HOU := Lib.hid hOu
          have HCR := Lib.hid hcr
          have HK0 := Lib.hid (show ∀ i (hi : i < r.length), i < 0 → r[i] < x' from fun i _ h => by omega)
          clear hqr hu hpu hcs hcps hOu hcr
          go_wp2
          go_loopw [9] (fun jv wi => ∃ j : Nat, j ≤ r.length ∧ jv = .int .i64 j ∧ Hid (∀ i (hi : i < r.length), i < j → r[i] < x') ∧ wi = wk) (fun jv _ => r.length - (intOf jv).toNat)
          case atStart => exact ⟨0, Nat.zero_le _, rfl, HK0, rfl⟩
          case round =>
            obtain ⟨j, hj, rfl, HKJ, rfl⟩ := hrel
            clear HK0
            by_cases hjr : j < r.length
            · have hjr' : (j : Int) < (r.length : Int) := by omega
              have hcj := HCR.out j (by omega)
              rw [List.getElem?_map, List.getElem?_eq_getElem hjr] at hcj
              obtain ⟨y, hye⟩ : ∃ y, r[j] = y := ⟨_, rfl⟩
              rw [hye] at hcj
              have hcj' : wr.cell? ⟨gu, ou + j, none⟩ = some (.int .i64 y) := hcj
              have HY := Lib.hid hye
              clear hcj hye
              by_cases hyx : y < x'
              · have HK2 := Lib.hid (show ∀ i (hi : i < r.length), i < j + 1 → r[i] < x' from fun i hi h => by
                  by_cases e : i = j
                  · subst e; rw [HY.out]; exact hyx
                  · exact HKJ.out i hi (by omega))
                go_wp2
                go_roundw
                case rel => exact ⟨j + 1, by omega, by go_num, HK2, by trivial⟩
                case measure => simp [intOf] <;> omega
              · have hjne : ((j : Int) == (r.length : Int)) = false := by rw [beq_eq_false_iff_ne]; omega
                have HH := Lib.hid (show hitP r x' = j from hitP_eq (by omega) (fun i hi h => HKJ.out i hi h) (fun _ => by rw [HY.out]; exact hyx))
                have hle : x' ≤ y := by omega
                have HS2 := Lib.hid (S2.put hS.out HU.out HQR.out hjr x')
                have HB2 := Lib.hid (hbr.setCell (p := ⟨gu, ou + j, none⟩) (hS.out.r.ft (.inr ⟨q, _, HU.out, rfl⟩)).1 (iv x'))
                have hset : (D ++ r :: R'').set q (r.set j x') = (D ++ [r.set j x']) ++ R'' := by rw [List.set_append_right _ _ (by rw [hD.out]; omega), hD.out, Nat.sub_self, List.set_cons_zero, List.append_assoc]; rfl
                have hst := insR_step (D := D) (R := R'') (r := r) (x := x') (by rw [HH.out]; exact hjr)
                rw [HH.out, show r.getD j 0 = y by rw [List.getD_eq_getElem?_getD, List.getElem?_eq_getElem hjr, HY.out]; rfl, hD.out, Prod.mk.injEq, List.length_append, hD.out, List.length_singleton] at hst
                have HST := Lib.hid hst
                rw [hset] at HS2
                clear hset hst hyx
                go_wp2
                go_roundw
                case rel => exact ⟨q + 1, hR, hP, D ++ [r.set j x'], R'', y, by omega, by go_num, rfl, Lib.hid (by rw [List.length_append, hD.out]; rfl), HS2, Lib.hid ⟨by rw [← HST.out.1]; exact HE.out.1, by rw [← HST.out.2]; exact HE.out.2.1, by have := HE.out.2.2; simp at this; omega⟩, Lib.hid (fun t ht => by
                  rw [List.append_assoc] at ht
                  rcases List.mem_append.1 ht with ht | ht
                  · exact HRR.out t (List.mem_append_left _ ht)
                  · rcases List.mem_cons.1 ht with rfl | ht
                    · have := HRR.out r (by simp); simpa using this
                    · exact HRR.out t (by simp only [List.mem_append, List.mem_cons]; exact .inr (.inr ht))), HB2.out⟩
                case measure => simp [intOf] <;> omega
            · obtain rfl : j = r.length := by omega
              have hjj : ((r.length : Int) == (r.length : Int)) = true := by simp
              have hjge : ¬ ((r.length : Int) < (r.length : Int)) := by omega
              have HH := Lib.hid (show ¬ hitP r x' < r.length by rw [hitP_eq (Nat.le_refl _) (fun i hi h => HKJ.out i hi h) (fun hk => by omega)]; omega)
              have hqP : q < P0.length := by rw [HMP.out]; exact hqM
              obtain ⟨pr, hpr⟩ : ∃ pr, P0[q] = pr := ⟨_, rfl⟩
              have HPR0 := Lib.hid (show P0[q]? = some pr by rw [List.getElem?_eq_getElem hqP, hpr])
              have HPL := Lib.hid (HPR.out pr (by rw [← hpr]; exact List.getElem_mem hqP))
              have hOp := (hS.out.p.row q pu pr HPU.out HPR0.out).1
              obtain ⟨pua, puc, rfl, _, _, _⟩ := hOp.shape
              have HWU := Lib.hid (show OwnI wr (.slice (some ⟨gu, ou, none⟩) r.length uc) r from HOU.out)
              have hrl : r.length ≤ 1048576 := by have := hr0.2; omega
              have hBr : w.heap.size ≤ wr.heap.size := hbr.size
              have hSN := Lib.hid (fun (w2 : World) (u1 : Value) (hgr : (wr.alloc (.cells #[.int .i64 x'] 3)).grownBy w2 (Value.slice (some ⟨gu, ou, none⟩) r.length uc).ownBlock) (ho : OwnI w2 u1 (r ++ [x'])) (hat : ∀ b, u1.ownBlock = some b → (Value.slice (some ⟨gu, ou, none⟩) r.length uc).ownBlock = some b ∨ wr.heap.size + 1 ≤ b) => S2.push (hS.out.below (below_new wr (.cells #[.int .i64 x'] 3))) (by simp; omega) HDR.out (HCS.out.alloc _) HU.out hgr ho (by simpa using hat))
              clear hpr hOp hqP
              have hug : (Value.slice (some ⟨gu, ou, none⟩) r.length uc).ownBlock ≠ some g := (hS.out.r.row q _ r HU.out HQR.out).2.2 g rfl
              have hug4 : (Value.slice pua pr.length puc).ownBlock ≠ some gp := (hS.out.p.row q _ pr HPU.out HPR0.out).2.2 gp rfl
              have hl2 : (r ++ [x']).length = r.length + 1 := by simp
              have hpl : pr.length ≤ 1048576 := by have := HPL.out; omega
              go_wp2_with (first | (at_builtin; refine wpList_app1D Try.intSl rfl _ _ rfl (.slice (some ⟨gu, ou, none⟩) r.length uc) r rfl (HWU.out.alloc _) wr.heap.size x' rfl ?c1 hrl (wr.heap.size + 1) ?c2 ?_; rotate_right; intro v2 w2 ho2 hat2 hgr2; have hsn := hSN.out w2 v2 hgr2 ho2 hat2; obtain ⟨a2, c2, rfl, _, _, _⟩ := ho2.shape; rw [hl2] at hsn; have hbg2 : Blk w2 g 22 cs := (HCS.out.alloc _).grown hgr2 hug; have hcg2 := hcell_setP hbg2 (owns_len HRO.out HCS.out hqM); have hfg2 : ∀ j, w2.frozen? ⟨g, j, none⟩ = false := (fun j => frozen_of_row w2 g _ _ _ hbg2); have hcp2 := S2.cellP hsn HMP.out hqM HPU.out; have HSN2 := Lib.hid hsn; clear hsn) | (at_builtin; refine wpList_app1D Try.intSl rfl _ _ rfl (.slice pua pr.length puc) pr rfl ((HSN2.out.p.row q _ pr HPU.out HPR0.out).1.alloc _) _ ((n : Int) + 1) rfl ?c3 hpl (w2.heap.size + 1) ?c4 ?_; rotate_right; intro v4 w4 ho4 hat4 hgr4; obtain ⟨a4, c4, rfl, _, _, _⟩ := ho4.shape; obtain ⟨cps2, hcps2⟩ := blk_of_owns (S2.poN HSN2.out HMP.out); have hbg4 : Blk w4 gp 22 cps2 := (hcps2.alloc _).grown hgr4 hug4; have hcg4 := hcell_setP hbg4 (owns_len (S2.poN HSN2.out HMP.out) hcps2 hqM); have hfg4 : ∀ j, w4.frozen? ⟨gp, j, none⟩ = false := (fun j => frozen_of_row w4 gp _ _ _ hbg4)))
              have hl4 : (pr ++ [(n : Int) + 1]).length = pr.length + 1 := by simp
              have hB2 : w.heap.size ≤ w2.heap.size := by have := hgr2.size; simp at this; omega
              have hF := (S2.push (HSN2.out.swap.below (below_new _ (.cells #[.int .i64 ((n : Int) + 1)] 3))) (by simp; omega) HMP.out (hcps2.alloc _) HPU.out hgr4 ho4 (by simpa using hat4)).swap
              rw [hl4] at hF
              have hie := insR_end (R := R'') HH.out
              have hE1 := HE.out.1
              have hE2 := HE.out.2.1
              rw [hie] at hE1 hE2
              have hset : (D ++ r :: R'').set q (r ++ [x']) = D ++ ((r ++ [x']) :: R'') := by rw [List.set_append_right _ _ (by rw [hD.out]; omega), hD.out, Nat.sub_self, List.set_cons_zero]
              have hnt : noteP P0 (insR R0 x).2 ((n : Int) + 1) = P0.set q (pr ++ [(n : Int) + 1]) := by
                rw [← hE2, Nat.add_zero]
                unfold noteP
                rw [if_pos (by rw [HMP.out]; exact hqM), show P0.getD q [] = pr by rw [List.getD_eq_getElem?_getD, HPR0.out]; rfl]
              have hT1 : (tabTo xs (n + 1)).1 = (D ++ r :: R'').set q (r ++ [x']) := by rw [HT.out, hset]; exact hE1.symm
              have hT2 : (tabTo xs (n + 1)).2 = P0.set q (pr ++ [(n : Int) + 1]) := by rw [HT.out]; exact hnt
              rw [← hT1, ← hT2] at hF
              have hgu2 : w.heap.size ≤ gu := (hS.out.r.ft (.inr ⟨q, _, HU.out, rfl⟩)).1
              have hB9 := (((((hbr.alloc hBr (.cells #[.int .i64 x'] 3)).grown hgr2 (by simp; omega) (fun b hb => by cases hb; exact hgu2)).setCell (p := ⟨g, q, none⟩) (hS.out.r.inn g rfl).1 (.slice a2 (r.length + 1) c2)).alloc (by simp; omega) (.cells #[.int .i64 ((n : Int) + 1)] 3)).grown hgr4 (by simp; omega) (fun b hb => (hS.out.p.ft (.inr ⟨q, _, HPU.out, hb⟩)).1)).setCell (p := ⟨gp, q, none⟩) (hS.out.p.inn gp rfl).1 (.slice a4 (pr.length + 1) c4)
              exact ⟨⟨n + 1, _, _, by omega, by go_num, Lib.hid hF, hB9⟩, by simp [intOf] <;> omega⟩
        · obtain rfl : q = M := by omega
          have hqq : ((q : Int) == (q : Int)) = true := by simp
          obtain rfl : R' = [] := List.eq_nil_of_length_eq_zero (by have := HE.out.2.2; omega)
          have hSD := hS.out
          rw [List.append_nil] at hSD
          have HSD := Lib.hid hSD
          have HDM := Lib.hid (show D.length = q from hD.out)
          have hBr : w.heap.size ≤ wk.heap.size := hbr.size
          have HOR := Lib.hid (HRO.out.alloc (.cells #[.slice none 0 0] 22))
          clear hSD hS
          go_wp2_with (first | (at_builtin; refine wpList_append_lies _ rfl _ _ 23 rfl w.heap.size 22 i0 _ 1 24 Try.underlying23 HI.out HZ0.out HZ1.out HZ2.out rfl (by omega) (.slice oa q oc) q hR rfl HOR.out _ 1 1 [.slice none 0 0] rfl (by simp) (World.news_of_block (heap_alloc_new _ _)) (by simp [Value.oneCell']) (by omega) (by unfold maxLen; omega) (by omega) (by simp; omega) (wk.heap.size + 1) (by simp) ?_; intro g8 cap8 w8 hown8 hgr8 hat8 hlt8; have HS8 := Lib.hid (S2.appN HSD.out hBr HDM.out hown8 hgr8 hat8 hlt8); have hB8 := (hbr.alloc hBr (.cells #[.slice none 0 0] 22)).grown hgr8 (by simp; omega) (fun b hb => (HSD.out.r.inn b hb).1); have hz8 := hB8.size; have HOP := Lib.hid ((S2.poN HS8.out HMP.out).alloc (.cells #[.slice none 0 0] 22)); clear hown8 hgr8) | (at_builtin; refine wpList_append_lies _ rfl _ _ 23 rfl w.heap.size 22 i0 _ 1 24 Try.underlying23 HI.out HZ0.out HZ1.out HZ2.out rfl (by omega) (.slice pa q pc) q hP rfl HOP.out _ 1 1 [.slice none 0 0] rfl (by simp) (World.news_of_block (heap_alloc_new _ _)) (by simp [Value.oneCell']) (by omega) (by unfold maxLen; omega) (by omega) (by simp; omega) (w8.heap.size + 1) (by simp) ?_; intro g9 cap9 w9 hown9 hgr9 hat9 hlt9; have HS9 := Lib.hid (S2.appN HS8.out.swap hz8 HMP.out hown9 hgr9 hat9 hlt9).swap; have hB9 := (hB8.alloc hz8 (.cells #[.slice none 0 0] 22)).grown hgr9 (by simp; omega) (fun b hb => (HS8.out.p.inn b hb).1); clear hown9 hgr9))
          have hRl : hR.length = q := by have := HRO.out.1; omega
          have hPl : hP.length = q := by have := HPO.out.1; omega
          have HU := Lib.hid (show (hR ++ [Value.slice none 0 0])[q]? = some (.slice none 0 0) by rw [List.getElem?_append_right (by omega), hRl, Nat.sub_self]; rfl)
          have HPU := Lib.hid (show (hP ++ [Value.slice none 0 0])[q]? = some (.slice none 0 0) by rw [List.getElem?_append_right (by omega), hPl, Nat.sub_self]; rfl)
          have HN1 := Lib.hid (show (D ++ [([] : List Int)]).length = q + 1 by rw [List.length_append, HDM.out]; rfl)
          have HN2 := Lib.hid (show (P0 ++ [([] : List Int)]).length = q + 1 by rw [List.length_append, HMP.out]; rfl)
          have hcg := S2.cellP HS9.out.swap HN1.out (Nat.lt_succ_self q) HU.out
          obtain ⟨cs, hcs⟩ := blk_of_owns (S2.poN HS9.out.swap HN1.out)
          have HCS := Lib.hid hcs
          have hq1 : (q : Int) < ((q + 1 : Nat) : Int) := by omega
          have hz9 := hB9.size
          have hSN := Lib.hid (fun (w2 : World) (u1 : Value) (hgr : (w9.alloc (.cells #[.int .i64 x'] 3)).grownBy w2 (Value.slice none 0 0).ownBlock) (ho : OwnI w2 u1 ([] ++ [x'])) (hat : ∀ b, u1.ownBlock = some b → (Value.slice none 0 0).ownBlock = some b ∨ w9.heap.size + 1 ≤ b) => S2.push (HS9.out.below (below_new w9 (.cells #[.int .i64 x'] 3))) (by simp; omega) HN1.out (HCS.out.alloc _) HU.out hgr ho (by simpa using hat))
          have hHG := Lib.hid (S2.poN HS9.out.swap HN1.out)
          have HB9 := Lib.hid hB9
          have HHB := Lib.hid (show w.heap.size ≤ g8 ∧ w.heap.size ≤ g9 from ⟨(HS9.out.r.inn g8 rfl).1, (HS9.out.p.inn g9 rfl).1⟩)
          have hnb : ∀ g : Nat, (Value.slice none 0 0).ownBlock ≠ some g := fun g e => by cases e
          have HNB := Lib.hid hnb
          have hl0 : ([] : List Int).length ≤ 1048576 := by simp
          clear hcs hRl hPl hB8 hB9 hnb hat8 hat9
          go_wp2
          obtain ⟨wl, rfl⟩ : ∃ z, z = w9 := ⟨_, rfl⟩
          go_loopw [9] (fun jv wi => jv = .int .i64 0 ∧ wi = wl) (fun _ _ => 0)
          case atStart => exact ⟨rfl, rfl⟩
          case round =>
            obtain ⟨rfl, rfl⟩ := hrel
            have hl2 : (([] : List Int) ++ [x']).length = 1 := rfl
            go_wp2_with (first | (at_builtin; refine wpList_app1D Try.intSl rfl _ _ rfl (.slice none 0 0) [] rfl (OwnI.nil _) wr.heap.size x' rfl (Blk.cell (cs := [iv x']) (heap_alloc_new _ _) 0) hl0 (wr.heap.size + 1) (by simp) ?_; intro v2 w2 ho2 hat2 hgr2; have hsn := hSN.out w2 v2 hgr2 ho2 hat2; obtain ⟨a2, c2, rfl, _, _, _⟩ := ho2.shape; rw [hl2] at hsn; have hbg2 : Blk w2 g8 22 cs := (HCS.out.alloc _).grown hgr2 (HNB.out g8); have hcg2 := hcell_setP hbg2 (owns_len hHG.out HCS.out (Nat.lt_succ_self q)); have hfg2 : ∀ j, w2.frozen? ⟨g8, j, none⟩ = false := (fun j => frozen_of_row w2 g8 _ _ _ hbg2); have hcp2 := S2.cellP hsn HN2.out (Nat.lt_succ_self q) HPU.out; have HSN2 := Lib.hid hsn; clear hsn) | (at_builtin; refine wpList_app1D Try.intSl rfl _ _ rfl (.slice none 0 0) [] rfl (OwnI.nil _) _ ((n : Int) + 1) rfl (by first | exact Blk.cell (cs := [iv ((n : Int) + 1)]) (heap_alloc_new _ _) 0 | (rw [show w2.heap.size = (w2.setCell ⟨g8, q, none⟩ (.slice a2 1 c2)).heap.size by simp]; exact Blk.cell (cs := [iv ((n : Int) + 1)]) (heap_alloc_new _ _) 0)) hl0 (w2.heap.size + 1) (by simp) ?_; intro v4 w4 ho4 hat4 hgr4; obtain ⟨a4, c4, rfl, _, _, _⟩ := ho4.shape; obtain ⟨cps2, hcps2⟩ := blk_of_owns (S2.poN HSN2.out HN2.out); have hbg4 : Blk w4 g9 22 cps2 := (hcps2.alloc _).grown hgr4 (HNB.out g9); have hcg4 := hcell_setP hbg4 (owns_len (S2.poN HSN2.out HN2.out) hcps2 (Nat.lt_succ_self q)); have hfg4 : ∀ j, w4.frozen? ⟨g9, j, none⟩ = false := (fun j => frozen_of_row w4 g9 _ _ _ hbg4)))
            have hl4 : (([] : List Int) ++ [(n : Int) + 1]).length = 1 := rfl
            have hB2 : w.heap.size ≤ w2.heap.size := by have := hgr2.size; simp at this; omega
            have hF := (S2.push (HSN2.out.swap.below (below_new _ (.cells #[.int .i64 ((n : Int) + 1)] 3))) (by simp; omega) HN2.out (hcps2.alloc _) HPU.out hgr4 ho4 (by simpa using hat4)).swap
            rw [hl4] at hF
            have hE1 := HE.out.1
            have hE2 := HE.out.2.1
            have hs1 : (D ++ [([] : List Int)]).set q ([] ++ [x']) = D ++ [[x']] := by rw [List.set_append_right _ _ (by rw [HDM.out]; omega), HDM.out, Nat.sub_self]; rfl
            have hs2 : (P0 ++ [([] : List Int)]).set q ([] ++ [(n : Int) + 1]) = P0 ++ [[(n : Int) + 1]] := by rw [List.set_append_right _ _ (by rw [HMP.out]; omega), HMP.out, Nat.sub_self]; rfl
            have hT1 : (tabTo xs (n + 1)).1 = D ++ [[x']] := by rw [HT.out]; exact hE1.symm
            have hT2 : (tabTo xs (n + 1)).2 = P0 ++ [[(n : Int) + 1]] := by
              rw [HT.out]
              show noteP P0 (insR R0 x).2 _ = _
              rw [← hE2]
              unfold noteP
              rw [if_neg (by rw [HMP.out]; show ¬ q + 0 < q; omega)]
            rw [hs1, hs2, ← hT1, ← hT2] at hF
            have hB9 := (((((HB9.out.alloc hz9 (.cells #[.int .i64 x'] 3)).grown hgr2 (by simp; omega) (fun b hb => by cases hb)).setCell (p := ⟨g8, q, none⟩) HHB.out.1 (.slice a2 1 c2)).alloc (by simp; omega) (.cells #[.int .i64 ((n : Int) + 1)] 3)).grown hgr4 (by simp; omega) (fun b hb => by cases hb)).setCell (p := ⟨g9, q, none⟩) HHB.out.2 (.slice a4 1 c4)
            exact ⟨⟨n + 1, _, _, by omega, by go_num, Lib.hid hF, hB9⟩, by simp [intOf] <;> omega⟩
    · obtain rfl : n = xs.length := by omega
      have hge3 : ¬ ((xs.length : Int) < (xs.length : Int)) := by omega
      go_wp2
      go_ret2
      exact ⟨_, hR, _, rfl, ⟨hP, hS.out⟩, hbr⟩

end Go.Proofs.Ytfcbaegkppkfkaa
