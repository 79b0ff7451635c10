import Derived.Test.YtmlikchhkblohaaP1
import Derived.Test.YtmlikchhkblohaaLO
import Derived.Deep.RegionHeld3
import Derived.Deep.AppendLies
namespace Go.Proofs.Ytmlikchhkblohaa
open Go Go.RowKit Go.Pan

def mNext (q : List Int) : List Int := if lastB q = true then [] else nextL q

theorem low_ge {xs : List Int} {a : Int} {p : Nat} : ∀ k, p + 1 ≤ k → ¬ xs.getD p 0 < a → p + 1 ≤ lowL xs a k
  | 0, h, _ => by omega
  | k + 1, h, hp => by
    rw [lowL]
    split
    · rename_i hh
      by_cases e : p = k
      · subst e; exact absurd (of_decide_eq_true hh) hp
      · exact low_ge k (by omega) hp
    · omega

set_option maxHeartbeats 8000000 in
set_option maxRecDepth 100000 in
theorem gaNext_any (v : Value) (q : List Int) (w : World) (hv : OwnI w v q) (hG : Hid (Pan.Good q)) :
    Calls Try.prog 149 #[v] w fun e w' => ∃ r, e = .returned (.tuple #[r, .bool (!lastB q)]) ∧ OwnI w' r (mNext q) ∧ From w.heap.size r ∧ Below w.heap.size w w' := by
  obtain ⟨ad, cap, rfl, hcc, hcm, _⟩ := hv.shape
  have h1 := hG.out.1
  have h9 := hG.out.2.1
  obtain ⟨g, off, rfl, hgl, hcell, _⟩ := hv.at (by omega)
  have HC := Lib.hid (show ∀ j, j < q.length → w.cell? ⟨g, off + j, none⟩ = some (iv (q.getD j 0)) from fun j hj => by
    rw [hcell j (by omega), List.getElem?_map, List.getElem?_eq_getElem hj, getD_eq hj]; rfl)
  have HV := Lib.hid hv
  obtain ⟨n, hn⟩ : ∃ n, q.length = n + 1 := ⟨q.length - 1, by omega⟩
  have HN := Lib.hid hn
  have hn9 : n ≤ 8 := by omega
  have HVN := Lib.hid (show OwnI w (.slice (some ⟨g, off, none⟩) (n + 1) cap) q by rw [← hn]; exact hv)
  rw [hn]
  clear hcell hv hn h1 h9
  go_enter Try.func149, Try.ntmps149
  go_wp2
  go_loopw [4] (fun i wr => ∃ k : Nat, k ≤ n ∧ i = .int .i64 ((k : Int) - 1) ∧ Hid (pivL q n = pivL q k) ∧ Below w.heap.size w wr) (fun i _ => (intOf i + 1).toNat)
  case atStart => exact ⟨n, Nat.le_refl _, by go_num, Lib.hid rfl, Below.refl _ _⟩
  case round =>
    obtain ⟨k, hk, rfl, hp, hbr⟩ := hrel
    cases k with
    | zero =>
      have HL := Lib.hid (show lastB q = true by unfold lastB; rw [HN.out, Nat.add_sub_cancel, hp.out]; rfl)
      have HM := Lib.hid (show mNext q = [] from if_pos HL.out)
      clear hp
      rw [show (((0 : Nat) : Int) - 1) = -1 from rfl]
      go_wp2_with fail
      refine wp_region_held_drew (S := fun w' => Below w.heap.size w w') (by kernel_rfl) hbr.drew (fun hHeld => ?_)
      refine wpAnyH_take (i := 0) (v := ?_) rfl (by kernel_rfl) (by kernel_rfl) (by kernel_rfl) (fun _ _ _ h => h) (Or.inl ⟨by rfl, ?_⟩) (by assumption) ?_
      rotate_left
      · intro w _; go_simp; with_reducible rfl
      try simp only [List.getElem_toArray, List.getElem_cons_zero, Act.put, List.setIfInBounds_toArray, List.set_cons_zero, List.set_cons_succ]
      refine wpAnyH_take (i := 1) (v := .bool false) rfl (by kernel_rfl) (by kernel_rfl) (by kernel_rfl) (fun _ _ _ h => h) (Or.inl ⟨by rfl, ?_⟩) (by assumption) ?_
      · intro w' _; go_simp
      try simp only [List.getElem_toArray, List.getElem_cons_zero, List.getElem_cons_succ, Act.put, List.setIfInBounds_toArray, List.set_cons_zero, List.set_cons_succ]
      refine wpAnyH_take (i := 2) (v := ?_) rfl (by kernel_rfl) (by kernel_rfl) (by kernel_rfl) (fun _ _ _ h => h) (Or.inl ⟨by rfl, ?_⟩) (by assumption) ?_
      rotate_left
      · intro w _; go_simp; with_reducible rfl
      try simp only [List.getElem_toArray, List.getElem_cons_zero, List.getElem_cons_succ, Act.put, List.setIfInBounds_toArray, List.set_cons_zero, List.set_cons_succ]
      refine wpAnyH_take (i := 3) (v := undef) rfl (by kernel_rfl) (by kernel_rfl) (by kernel_rfl) (fun _ _ _ h => h) (Or.inr ⟨by rfl, rfl⟩) (by assumption) ?_
      try simp only [List.getElem_toArray, List.getElem_cons_zero, List.getElem_cons_succ, Act.put, List.setIfInBounds_toArray, List.set_cons_zero, List.set_cons_succ]
      refine wpAnyH_take (i := 4) (v := undef) rfl (by kernel_rfl) (by kernel_rfl) (by kernel_rfl) (fun _ _ _ h => h) (Or.inr ⟨by rfl, rfl⟩) (by assumption) ?_
      try simp only [List.getElem_toArray, List.getElem_cons_zero, List.getElem_cons_succ, Act.put, List.setIfInBounds_toArray, List.set_cons_zero, List.set_cons_succ]
      refine wpAnyH_take (i := 5) (v := undef) rfl (by kernel_rfl) (by kernel_rfl) (by kernel_rfl) (fun _ _ _ h => h) (Or.inr ⟨by rfl, rfl⟩) (by assumption) ?_
      try simp only [List.getElem_toArray, List.getElem_cons_zero, List.getElem_cons_succ, Act.put, List.setIfInBounds_toArray, List.set_cons_zero, List.set_cons_succ]
      refine wpAnyH_take (i := 6) (v := undef) rfl (by kernel_rfl) (by kernel_rfl) (by kernel_rfl) (fun _ _ _ h => h) (Or.inr ⟨by rfl, rfl⟩) (by assumption) ?_
      try simp only [List.getElem_toArray, List.getElem_cons_zero, List.getElem_cons_succ, Act.put, List.setIfInBounds_toArray, List.set_cons_zero, List.set_cons_succ]
      refine wpAnyH_take (i := 7) (v := undef) rfl (by kernel_rfl) (by kernel_rfl) (by kernel_rfl) (fun _ _ _ h => h) (Or.inr ⟨by rfl, rfl⟩) (by assumption) ?_
      try simp only [List.getElem_toArray, List.getElem_cons_zero, List.getElem_cons_succ, Act.put, List.setIfInBounds_toArray, List.set_cons_zero, List.set_cons_succ]
      refine wpAnyH_take (i := 8) (v := undef) rfl (by kernel_rfl) (by kernel_rfl) (by kernel_rfl) (fun _ _ _ h => h) (Or.inr ⟨by rfl, rfl⟩) (by assumption) ?_
      try simp only [List.getElem_toArray, List.getElem_cons_zero, List.getElem_cons_succ, Act.put, List.setIfInBounds_toArray, List.set_cons_zero, List.set_cons_succ]
      refine wpAnyH_take (i := 9) (v := undef) rfl (by kernel_rfl) (by kernel_rfl) (by kernel_rfl) (fun _ _ _ h => h) (Or.inr ⟨by rfl, rfl⟩) (by assumption) ?_
      try simp only [List.getElem_toArray, List.getElem_cons_zero, List.getElem_cons_succ, Act.put, List.setIfInBounds_toArray, List.set_cons_zero, List.set_cons_succ]
      refine wpAnyH_take (i := 10) (v := undef) rfl (by kernel_rfl) (by kernel_rfl) (by kernel_rfl) (fun _ _ _ h => h) (Or.inr ⟨by rfl, rfl⟩) (by assumption) ?_
      try simp only [List.getElem_toArray, List.getElem_cons_zero, List.getElem_cons_succ, Act.put, List.setIfInBounds_toArray, List.set_cons_zero, List.set_cons_succ]
      refine wpAnyH_take (i := 11) (v := undef) rfl (by kernel_rfl) (by kernel_rfl) (by kernel_rfl) (fun _ _ _ h => h) (Or.inr ⟨by rfl, rfl⟩) (by assumption) ?_
      try simp only [List.getElem_toArray, List.getElem_cons_zero, List.getElem_cons_succ, Act.put, List.setIfInBounds_toArray, List.set_cons_zero, List.set_cons_succ]
      refine wpAnyH_take (i := 12) (v := undef) rfl (by kernel_rfl) (by kernel_rfl) (by kernel_rfl) (fun _ _ _ h => h) (Or.inr ⟨by rfl, rfl⟩) (by assumption) ?_
      try simp only [List.getElem_toArray, List.getElem_cons_zero, List.getElem_cons_succ, Act.put, List.setIfInBounds_toArray, List.set_cons_zero, List.set_cons_succ]
      refine wpAnyH_take (i := 13) (v := ?_) rfl (by kernel_rfl) (by kernel_rfl) (by kernel_rfl) (fun _ _ _ h => h) (Or.inl ⟨by rfl, ?_⟩) (by assumption) ?_
      rotate_left
      · intro w _; go_simp; with_reducible rfl
      try simp only [List.getElem_toArray, List.getElem_cons_zero, List.getElem_cons_succ, Act.put, List.setIfInBounds_toArray, List.set_cons_zero, List.set_cons_succ]
      refine wpAnyH_done (by kernel_rfl) ?_ _
      go_wp2
      go_ret2
      exact ⟨_, by rw [HL.out]; rfl, by rw [HM.out]; exact OwnI.nil _, From.nil _ _ _, hbr.drew⟩
    | succ p =>
      have e1 : (((p + 1 : Nat) : Int) - 1) = (p : Int) := by omega
      rw [e1]
      have hp0 : (0 : Int) ≤ (p : Int) := by omega
      have hpl : p + 1 < q.length := by rw [HN.out]; omega
      have hc1 := (hbr.cell (p := ⟨g, off + p, none⟩) hgl).trans (HC.out p (by omega))
      have hc2 := (hbr.cell (p := ⟨g, off + (p + 1), none⟩) hgl).trans (HC.out (p + 1) hpl)
      obtain ⟨a, ha⟩ : ∃ a, q.getD p 0 = a := ⟨_, rfl⟩
      obtain ⟨b, hb⟩ : ∃ b, q.getD (p + 1) 0 = b := ⟨_, rfl⟩
      rw [ha] at hc1
      rw [hb] at hc2
      have HA := Lib.hid ha
      have HB := Lib.hid hb
      have hpi : (p : Int) < (n : Int) := by omega
      have hpi3 : (p : Int) + 1 < (n : Int) + 1 := by omega
      have hpi4 : (p : Int) + 1 ≤ (n : Int) := by omega
      have hwr : IntKind.i64.wrap ((p : Int) + 1) = (p : Int) + 1 := IntWalk.i64_in _ (by omega)
      have hpi2 : (p : Int) < (n : Int) + 1 := by omega
      have hp1 : (0 : Int) ≤ (p : Int) + 1 := by omega
      have hpt : ((p : Int) + 1).toNat = p + 1 := by omega
      clear ha hb hpl e1
      by_cases hba : b < a
      · have HP := Lib.hid (show pivL q n = pivL q p by
          rw [hp.out, pivL, if_pos (decide_eq_true (by rw [HA.out, HB.out]; exact hba))])
        go_wp2_with fail
        go_region_held3 (fun w' => Below w.heap.size w w' ∧ w'.cell? ⟨g, off + p, none⟩ = some (iv a) ∧ w'.cell? ⟨g, off + (p + 1), none⟩ = some (iv b)) (first | exact ⟨hbr, hc1, hc2⟩ | exact ⟨hbr.drewN _, hc1, hc2⟩ | assumption) (fail)
        go_wp2
        go_roundw
        case rel => exact ⟨p, by omega, rfl, HP, hbr.drew⟩
        case measure => simp [intOf] <;> omega
      · go_wp2_with fail
        go_region_held3 (fun w' => Below w.heap.size w w' ∧ w'.cell? ⟨g, off + p, none⟩ = some (iv a) ∧ w'.cell? ⟨g, off + (p + 1), none⟩ = some (iv b)) (first | exact ⟨hbr, hc1, hc2⟩ | exact ⟨hbr.drewN _, hc1, hc2⟩ | assumption) (fail)
        have HP := Lib.hid (show pivL q n = p + 1 by rw [hp.out]; exact piv_at (by rw [HA.out, HB.out]; omega))
        have HL := Lib.hid (show lastB q = false by unfold lastB; rw [HN.out, Nat.add_sub_cancel, HP.out]; simp)
        have HM := Lib.hid (show mNext q = nextL q from if_neg (by rw [HL.out]; exact Bool.false_ne_true))
        have HB1 := Lib.hid hbr.drew
        clear hc1 hc2 hp hbr
        go_wp2
        go_loopw [5] (fun j wr => ∃ m : Nat, m ≤ n ∧ j = .int .i64 (m : Int) ∧ Hid (lowL q a (n + 1) = lowL q a (m + 1)) ∧ Below w.heap.size w wr) (fun j _ => (intOf j).toNat)
        case atStart => exact ⟨n, Nat.le_refl _, by go_num, Lib.hid rfl, HB1.out⟩
        case round =>
          obtain ⟨m, hm, rfl, hlow, hbr⟩ := hrel
          have hc1 := (hbr.cell (p := ⟨g, off + p, none⟩) hgl).trans (HC.out p (by have := HN.out; omega))
          have hcm0 := (hbr.cell (p := ⟨g, off + m, none⟩) hgl).trans (HC.out m (by have := HN.out; omega))
          rw [HA.out] at hc1
          obtain ⟨c, hc⟩ : ∃ c, q.getD m 0 = c := ⟨_, rfl⟩
          rw [hc] at hcm0
          have HCC := Lib.hid hc
          have hmi : (m : Int) < (n : Int) + 1 := by omega
          clear hc
          by_cases hca : c < a
          · have hm1 : 1 ≤ m := by
              cases m with
              | zero =>
                exfalso
                have h1 := low_ge (xs := q) (a := a) (p := p) (n + 1) (by omega) (by rw [HA.out]; omega)
                rw [hlow.out, lowL, if_pos (decide_eq_true (by rw [HCC.out]; exact hca))] at h1
                simp [lowL] at h1
              | succ m => omega
            obtain ⟨m', rfl⟩ : ∃ m', m = m' + 1 := ⟨m - 1, by omega⟩
            have HLO := Lib.hid (show lowL q a (n + 1) = lowL q a (m' + 1) by
              rw [hlow.out]
              conv => lhs; rw [lowL, if_pos (decide_eq_true (by rw [HCC.out]; exact hca))])
            have e2 : ((m' + 1 : Nat) : Int) = (m' : Int) + 1 := by omega
            have hmt : ((m' : Int) + 1).toNat = m' + 1 := by omega
            have hm0 : (0 : Int) ≤ (m' : Int) + 1 := by omega
            have hmn : (m' : Int) < (n : Int) := by omega
            rw [e2] at hmi ⊢
            clear hlow e2
            go_wp2_with fail
            go_region_held3 (fun w' => Below w.heap.size w w' ∧ w'.cell? ⟨g, off + p, none⟩ = some (iv a) ∧ w'.cell? ⟨g, off + (m' + 1), none⟩ = some (iv c)) (first | exact ⟨hbr, hc1, hcm0⟩ | exact ⟨hbr.drewN _, hc1, hcm0⟩ | assumption) (fail)
            go_wp2
            go_roundw
            case rel => exact ⟨m', by omega, rfl, HLO, hbr.drew⟩
            case measure => simp [intOf] <;> omega
          · have HLO := Lib.hid (show lowL q a (n + 1) - 1 = m by
              rw [hlow.out, lowL, if_neg (by rw [decide_eq_false (by rw [HCC.out]; exact hca)]; exact Bool.false_ne_true)]; omega)
            have HNX := Lib.hid (show nextL q = goOn (exchL q p m) (p + 1) by
              unfold nextL
              rw [HN.out, Nat.add_sub_cancel, HP.out, Nat.add_sub_cancel, HA.out, HLO.out])
            clear hlow
            go_wp2_with fail
            go_region_held3 (fun w' => Below w.heap.size w w' ∧ w'.cell? ⟨g, off + p, none⟩ = some (iv a) ∧ w'.cell? ⟨g, off + m, none⟩ = some (iv c)) (first | exact ⟨hbr, hc1, hcm0⟩ | exact ⟨hbr.drewN _, hc1, hcm0⟩ | assumption) (fail)
            have hbr2 := hbr.drew
            have c9 := l1OwnRow_any ⟨g, off, none⟩ cap q wr.drew (HV.out.below hbr2 (Nat.le_refl _)) (by have := HN.out; omega)
            rw [HN.out] at c9
            clear hbr
            go_wp2_with fail
            refine c9.mono ?_
            rintro e w2 ⟨r2, rfl, ho2, hb2⟩
            clear c9
            have hB2 := hbr2.trans (hb2.mono hbr2.size)
            have hO2 := Own.of_row ho2
            obtain ⟨g2, cap2, cur, rfl, hge, hheap, hn2, hm2, _, _⟩ : ∃ g2 cap2 cur, r2 = .slice (some ⟨g2, 0, none⟩) (n + 1) cap2 ∧ wr.drew.heap.size ≤ g2 ∧ w2.heap[g2]? = some (.cells cur 3 (0, 0)) ∧ n + 1 ≤ cap2 ∧ cap2 ≤ maxLen ∧ cur.size = cap2 * 1 ∧ cur.toList.take ((n + 1) * 1) = q.map iv := by
              rcases ho2.2 with ⟨_, h⟩ | h
              · omega
              · exact h
            have hwg : w.heap.size ≤ g2 := Nat.le_trans hbr2.size hge
            have hgg : g ≠ g2 := by omega
            have hcx1 := (hb2.cell (p := ⟨g, off + p, none⟩) (Nat.lt_of_lt_of_le hgl hbr2.size)).trans hc1
            have hcx2 := (hb2.cell (p := ⟨g, off + m, none⟩) (Nat.lt_of_lt_of_le hgl hbr2.size)).trans hcm0
            obtain ⟨g', off', he, hg2l, hcell2, hfz2⟩ := hO2.1.at (by omega)
            simp only [Option.some.injEq, Addr.mk.injEq, and_true] at he
            obtain ⟨rfl, rfl⟩ := he
            have hcp2 := hcell2 p (by omega)
            rw [Nat.zero_add, List.getElem?_map, List.getElem?_eq_getElem (by have := HN.out; omega), Option.map_some, ← getD_eq (by have := HN.out; omega), HA.out] at hcp2
            have hfp2 := hfz2 p
            have hst1 := Own.stored hO2.1 p (by omega) (iv c)
            rw [Nat.zero_add] at hst1
            obtain ⟨g', off', he, hg3l, hcell3, hfz3⟩ := hst1.at (by omega)
            simp only [Option.some.injEq, Addr.mk.injEq, and_true] at he
            obtain ⟨rfl, rfl⟩ := he
            obtain ⟨x3, hx3⟩ : ∃ x3, ((q.map iv).set p (iv c))[m]? = some x3 := ⟨_, List.getElem?_eq_getElem (by rw [List.length_set, List.length_map]; have := HN.out; omega)⟩
            have hcm3 := hcell3 m (by omega)
            rw [Nat.zero_add, hx3] at hcm3
            have hfm3 := hfz3 m
            have hst2 := Own.stored hst1 m (by omega) (iv a)
            rw [Nat.zero_add] at hst2
            have hex : ((q.map iv).set p (iv c)).set m (iv a) = (exchL q p m).map iv := by
              unfold exchL
              rw [HCC.out, HA.out, ← List.map_set, ← List.map_set]
            rw [hex] at hst2
            have hB3 := hB2.setCell (p := ⟨g2, p, none⟩) hwg (iv c)
            have hB4 := hB3.setCell (p := ⟨g2, m, none⟩) hwg (iv a)
            have hc3 : (w2.setCell ⟨g2, p, none⟩ (iv c)).cell? ⟨g, off + p, none⟩ = some (iv a) := (cell_grownY (grownBy_setCell w2 g2 p (iv c)) (by omega) (by intro h; have := Option.some.inj h; omega)).trans hcx1
            have HST := Lib.hid hst2
            have HB4 := Lib.hid hB4
            clear hO2 ho2 hb2 hst1 hst2 hex hB2 hB3 hB4 hcell2 hcell3 hfz2 hfz3 hx3 hheap hc1 hcm0 hbr2
            obtain ⟨W4, hW4⟩ : ∃ W4, W4 = ((w2.setCell ⟨g2, p, none⟩ (iv c)).setCell ⟨g2, m, none⟩ (iv a)) := ⟨_, rfl⟩
            have HW4 := Lib.hid hW4
            have HST4 := Lib.hid (show OwnI W4 (.slice (some ⟨g2, 0, none⟩) (n + 1) cap2) (exchL q p m) by
              have hle : (exchL q p m).length = n + 1 := by unfold exchL; rw [List.length_set, List.length_set]; exact HN.out
              unfold OwnI
              rw [hle, hW4]
              exact HST.out)
            have HB5 := Lib.hid (show Below w.heap.size w W4 by rw [hW4]; exact HB4.out)
            obtain ⟨E, hE⟩ : ∃ E, exchL q p m = E := ⟨_, rfl⟩
            have HE := Lib.hid (show E.length = n + 1 by rw [← hE]; unfold exchL; rw [List.length_set, List.length_set]; exact HN.out)
            rw [hE] at HST4 HNX
            have hpE : p + 1 ≤ E.length := by rw [HE.out]; omega
            have hncap : p + 1 ≤ cap2 := by omega
            have hcast : ((p + 1 : Nat) : Int) = (p : Int) + 1 := by omega
            have hrt := fun W => run_toI (n + 1) cap2 (p + 1) (some ⟨g2, 0, none⟩) hncap W
            rw [hcast] at hrt
            obtain ⟨D, hD⟩ : ∃ D, E.drop (p + 1) = D := ⟨_, rfl⟩
            obtain ⟨T, hT⟩ : ∃ T, E.take (p + 1) = T := ⟨_, rfl⟩
            obtain ⟨R, hR⟩ : ∃ R, D.reverse = R := ⟨_, rfl⟩
            have HF := Lib.hid (from_some (ad := ⟨g2, 0, none⟩) (cap := cap2) (n := p + 1) (q := E) hpE)
            obtain ⟨a0, c0, hf1, hf2⟩ := HF.out
            rw [hD, hcast, HE.out] at hf1
            rw [hD, HE.out] at hf2
            have H1 := Lib.hid hf1
            have H3 := Lib.hid hf2
            have htn : T.length = p + 1 := by rw [← hT, List.length_take]; omega
            have hdn : D.length = n - p := by rw [← hD, List.length_drop, HE.out]; omega
            have hrn : R.length = D.length := by rw [← hR, List.length_reverse]
            have H2 := Lib.hid (show ∀ W : World, (Instr.sliceAt 22 (.slice (some ⟨g2, 0, none⟩) (n + 1) cap2) none (some (.int .i64 ((p : Int) + 1))) none).run Try.prog W = .ok (.slice (some ⟨g2, 0, none⟩) T.length cap2) W from fun W => by rw [htn]; exact hrt W)
            have HTN := Lib.hid htn
            have HRR := Lib.hid hR
            have HRN := Lib.hid hrn
            have HGO := Lib.hid (show T ++ R = nextL q by rw [HNX.out, ← hR, ← hD, ← hT]; rfl)
            have HT0 := Lib.hid (show ∀ w', OwnI w' (.slice (some ⟨g2, 0, none⟩) (n + 1) cap2) E → OwnI w' (.slice (some ⟨g2, 0, none⟩) T.length cap2) T from fun w' h => by
              rw [← hT]
              have := OwnI.take (k := p + 1) (by rw [← HE.out] at h; exact h) hpE
              rw [List.length_take, Nat.min_eq_left hpE]; exact this)
            have hdl : D.length ≤ 9 := by omega
            have hdp : 0 < D.length := by omega
            have htl : T.length ≤ 1048576 := by omega
            obtain ⟨i1, hj, hk0, hk1', hk2⟩ := info_parts Try.info3
            have HJ := Lib.hid hj
            have HK0 := Lib.hid hk0
            have HK1 := Lib.hid hk1'
            have HK2 := Lib.hid hk2
            have hwW := HB5.out.size
            clear hW4 HST HB4 hE hf1 hf2 HF hD hT hR htn hdn hrn hcast hrt hj hk0 hk1' hk2
            go_wp2_with fail
            rw [← HW4.out]
            refine wp_region_held_drew (S := fun w' => Below W4.heap.size W4 w') (by kernel_rfl) ((Below.refl _ _).drew) (fun hHeld => ?_)
            refine wpAnyH_take (i := 0) (v := ?_) rfl (by kernel_rfl) (by kernel_rfl) (by kernel_rfl) (fun _ _ _ h => h) (Or.inl ⟨by rfl, ?_⟩) (by assumption) ?_
            rotate_left
            · intro w _; go_simp; with_reducible rfl
            try simp only [List.getElem_toArray, List.getElem_cons_zero, Act.put, List.setIfInBounds_toArray, List.set_cons_zero, List.set_cons_succ]
            refine wpAnyH_take (i := 1) (v := ?_) rfl (by kernel_rfl) (by kernel_rfl) (by kernel_rfl) (fun _ _ _ h => h) (Or.inl ⟨by rfl, ?_⟩) (by assumption) ?_
            rotate_left
            · intro w _; go_simp; with_reducible rfl
            try simp only [List.getElem_toArray, List.getElem_cons_zero, List.getElem_cons_succ, Act.put, List.setIfInBounds_toArray, List.set_cons_zero, List.set_cons_succ]
            refine wpAnyH_take (i := 2) (v := .int .i64 ((p : Int) + 1)) rfl (by kernel_rfl) (by kernel_rfl) (by kernel_rfl) (fun _ _ _ h => h) (Or.inl ⟨by rfl, ?_⟩) (by assumption) ?_
            · intro w' _; go_simp
            try simp only [List.getElem_toArray, List.getElem_cons_zero, List.getElem_cons_succ, Act.put, List.setIfInBounds_toArray, List.set_cons_zero, List.set_cons_succ]
            refine wpAnyH_take (i := 3) (v := .slice (some ⟨g2, 0, none⟩) T.length cap2) rfl (by kernel_rfl) (by kernel_rfl) (by kernel_rfl) (fun _ _ _ h => h) (Or.inl ⟨by rfl, ?_⟩) (by assumption) ?_
            · intro w' _
              have h := H2.out w'
              simp [execOp, Act.eval, h]
            try simp only [List.getElem_toArray, List.getElem_cons_zero, List.getElem_cons_succ, Act.put, List.setIfInBounds_toArray, List.set_cons_zero, List.set_cons_succ]
            refine wpAnyH_take (i := 5) (v := ?_) rfl (by kernel_rfl) (by kernel_rfl) (by kernel_rfl) (fun _ _ _ h => h) (Or.inl ⟨by rfl, ?_⟩) (by assumption) ?_
            rotate_left
            · intro w _; go_simp; with_reducible rfl
            try simp only [List.getElem_toArray, List.getElem_cons_zero, List.getElem_cons_succ, Act.put, List.setIfInBounds_toArray, List.set_cons_zero, List.set_cons_succ]
            refine wpAnyH_take (i := 6) (v := ?_) rfl (by kernel_rfl) (by kernel_rfl) (by kernel_rfl) (fun _ _ _ h => h) (Or.inl ⟨by rfl, ?_⟩) (by assumption) ?_
            rotate_left
            · intro w _; go_simp; with_reducible rfl
            try simp only [List.getElem_toArray, List.getElem_cons_zero, List.getElem_cons_succ, Act.put, List.setIfInBounds_toArray, List.set_cons_zero, List.set_cons_succ]
            refine wpAnyH_take (i := 7) (v := .int .i64 ((p : Int) + 1)) rfl (by kernel_rfl) (by kernel_rfl) (by kernel_rfl) (fun _ _ _ h => h) (Or.inl ⟨by rfl, ?_⟩) (by assumption) ?_
            · intro w' _; go_simp
            try simp only [List.getElem_toArray, List.getElem_cons_zero, List.getElem_cons_succ, Act.put, List.setIfInBounds_toArray, List.set_cons_zero, List.set_cons_succ]
            refine wpAnyH_take (i := 8) (v := .slice (some a0) D.length c0) rfl (by kernel_rfl) (by kernel_rfl) (by kernel_rfl) (fun _ _ _ h => h) (Or.inl ⟨by rfl, ?_⟩) (by assumption) ?_
            · intro w' _
              have h := H1.out w'
              simp [execOp, Act.eval, h]
            try simp only [List.getElem_toArray, List.getElem_cons_zero, List.getElem_cons_succ, Act.put, List.setIfInBounds_toArray, List.set_cons_zero, List.set_cons_succ]
            refine wpAnyH_ready (rs := [4]) (by kernel_rfl) (by simp) ?_
            refine AllReadyH.cons rfl (fun K hK => ?_) AllReadyH.nil
            go_simp
            refine (l1OwnRow_any ⟨g2, 0, none⟩ cap2 T _ (HT0.out _ (HST4.out.below hHeld (Nat.le_refl _))) htl).mono ?_
            rintro e w5 ⟨r5, rfl, ho5, hb5⟩
            go_wp2_with fail
            refine hK.out _ _ (hHeld.trans (hb5.mono hHeld.size)) (fun hHeld => ?_)
            clear hK K
            have CR := stReverse_any (.slice (some a0) D.length c0) D w5 (H3.out _ (HST4.out.below hHeld (Nat.le_refl _))) (by omega)
            rw [HRR.out] at CR
            have CRH := Lib.hid CR
            clear CR
            try simp only [List.getElem_toArray, List.getElem_cons_zero, List.getElem_cons_succ, Act.put, List.setIfInBounds_toArray, List.set_cons_zero, List.set_cons_succ]
            refine wpAnyH_ready (rs := [9]) (by kernel_rfl) (by simp) ?_
            refine AllReadyH.cons rfl (fun K hK => ?_) AllReadyH.nil
            go_simp
            refine (CRH.out).mono ?_
            rintro e w6 ⟨r6, rfl, ho6, hf6, hb6⟩
            go_wp2_with fail
            refine hK.out _ _ (hHeld.trans (hb6.mono hHeld.size)) (fun hHeld => ?_)
            clear hK K
            obtain ⟨a6, c6, rfl, hc6, _, hn6⟩ := ho6.shape
            have hown6 := ho5.kept (grown_of_below hb6 none) (by cases h : Value.ownBlock r5 with | none => exact .inl rfl | some g => exact .inr (by simp))
            have hrp : 0 < R.length := by rw [HRN.out]; omega
            obtain ⟨g6, off6, rfl, _, _, _⟩ := ho6.at (by omega)
            have hnews : ∀ j u, (R.map iv)[j]? = some u → w6.cell? ((⟨g6, off6, none⟩ : Addr).add j) = some u := by
              rcases Own.src ho6 with ⟨h, _⟩ | ⟨ad, h, hc⟩
              · cases h
              · cases h; exact hc
            have hrl : R.length ≤ 9 := by rw [HRN.out]; omega
            have hr5f : ∀ b, r5.ownBlock = some b → W4.heap.size ≤ b := fun b hb => (Own.of_row ho5).2 b hb
            have hwr6 : W4.heap.size ≤ w6.heap.size := hHeld.size
            try simp only [List.getElem_toArray, List.getElem_cons_zero, List.getElem_cons_succ, Act.put, List.setIfInBounds_toArray, List.set_cons_zero, List.set_cons_succ]
            refine wpAnyH_ready (rs := [10]) (by kernel_rfl) (by simp) ?_
            refine AllReadyH.cons rfl (fun K hK => ?_) AllReadyH.nil
            refine step_append_lies _ rfl _ _ 22 rfl W4.heap.size 3 i1 _ 1 8 Try.underlying22 HJ.out HK0.out HK1.out HK2.out rfl (by omega) r5 T.length (T.map iv) rfl hown6 ⟨g6, off6, none⟩ R.length c6 (R.map iv) rfl (by simp) hnews (by simp [Value.oneCell']) hrp (by unfold maxLen; omega) (by omega) hwr6 w6.heap.size rfl ?_
            intro g8 cap8 w8 hown8 hgr8 hat8 hlt8
            have hb8 : Below W4.heap.size W4 w8 := hHeld.grown hgr8 hwr6 hr5f
            refine hK.out _ _ hb8 (fun hHeld => ?_)
            clear hK K
            try simp only [List.getElem_toArray, List.getElem_cons_zero, List.getElem_cons_succ, Act.put, List.setIfInBounds_toArray, List.set_cons_zero, List.set_cons_succ]
            refine wpAnyH_take (i := 11) (v := ?_) rfl (by kernel_rfl) (by kernel_rfl) (by kernel_rfl) (fun _ _ _ h => h) (Or.inl ⟨by rfl, ?_⟩) (by assumption) ?_
            rotate_left
            · intro w _; go_simp; with_reducible rfl
            try simp only [List.getElem_toArray, List.getElem_cons_zero, List.getElem_cons_succ, Act.put, List.setIfInBounds_toArray, List.set_cons_zero, List.set_cons_succ]
            refine wpAnyH_take (i := 12) (v := ?_) rfl (by kernel_rfl) (by kernel_rfl) (by kernel_rfl) (fun _ _ _ h => h) (Or.inl ⟨by rfl, ?_⟩) (by assumption) ?_
            rotate_left
            · intro w _; go_simp; with_reducible rfl
            try simp only [List.getElem_toArray, List.getElem_cons_zero, List.getElem_cons_succ, Act.put, List.setIfInBounds_toArray, List.set_cons_zero, List.set_cons_succ]
            refine wpAnyH_done (by kernel_rfl) ?_ _
            have ho8 : OwnI w8 (.slice (some ⟨g8, 0, none⟩) (T.length + R.length) cap8) (mNext q) := by
              rw [HM.out, ← HGO.out]
              unfold OwnI
              rw [List.length_append, List.map_append]
              exact (Own.of_row hown8).1
            have hf8 : From w.heap.size (.slice (some ⟨g8, 0, none⟩) (T.length + R.length) cap8) := (Own.of_row hown8).2.mono hwW
            have hB8 := HB5.out.trans (hb8.mono hwW)
            clear hown8 hgr8 hat8 hHeld hnews hr5f ho5 ho6 hown6
            go_wp2
            go_ret2
            exact ⟨_, by rw [HL.out]; rfl, ho8, hf8, hB8⟩

end Go.Proofs.Ytmlikchhkblohaa

