import Derived.Test.YtdkidfilnbglgaaWI
namespace Go.Pan
open Go Go.RowKit
def bestV : Option Nat → Int
  | none => -1
  | some j => j
theorem bestV_none : bestV none = -1 := rfl
theorem bestV_some (j : Nat) : bestV (some j) = (j : Int) := rfl
/-- one place more is looked at -/
theorem best_no {xs : List Int} {b : Int} {L f k : Nat} (h : elig xs b L (f + k) = false) : rbTo xs b L f (k + 1) = rbTo xs b L f k := by
  rw [rbTo, if_neg (by rw [h]; exact Bool.false_ne_true)]
theorem best_new {xs : List Int} {b : Int} {L f k : Nat} (h : elig xs b L (f + k) = true) (h0 : rbTo xs b L f k = none) : rbTo xs b L f (k + 1) = some (f + k) := by
  rw [rbTo, if_pos h, h0]
theorem best_old {xs : List Int} {b : Int} {L f k j : Nat} (h : elig xs b L (f + k) = true) (h0 : rbTo xs b L f k = some j) : rbTo xs b L f (k + 1) = if xs.getD (f + k) 0 < xs.getD j 0 then some (f + k) else some j := by
  rw [rbTo, if_pos h, h0]
theorem elig_len {xs : List Int} {b : Int} {L i : Nat} (hi : i < xs.length) (h : ((tls xs)[i]'(by rw [tls_length]; exact hi)).1 ≠ L) : elig xs b L i = false := by
  unfold elig
  rw [getD_at (by rw [tls_length]; exact hi), decide_eq_false h]
  rfl
theorem elig_lt {xs : List Int} {b : Int} {L i : Nat} (hi : i < xs.length) (h : xs[i] < b) : elig xs b L i = false := by
  unfold elig
  rw [getD_at (l := xs) hi, decide_eq_true h, Bool.and_comm]
  rfl
theorem elig_yes {xs : List Int} {b : Int} {L i : Nat} (hi : i < xs.length) (h : ((tls xs)[i]'(by rw [tls_length]; exact hi)).1 = L) (h2 : ¬ xs[i] < b) : elig xs b L i = true := by
  unfold elig
  rw [getD_at (by rw [tls_length]; exact hi), getD_at (l := xs) hi, decide_eq_true h, decide_eq_false h2]
  rfl
theorem lastI_snoc (q : List Int) (x : Int) : lastI (q ++ [x]) = x := by
  unfold lastI
  simp
theorem lastI_get {q : List Int} (h : 0 < q.length) : q[q.length - 1]? = some (lastI q) := by
  unfold lastI
  rw [List.getLast?_eq_getElem?, List.getElem?_eq_getElem (by omega)]
  rfl
theorem isMin_nil : IsMin [[]] [] := ⟨by simp, fun r hr => by simp at hr; exact .inl hr⟩
end Go.Pan
namespace Go.Proofs.Ytdkidfilnbglgaa
open Go Go.RowKit Go.Pan

set_option maxHeartbeats 8000000 in
set_option maxRecDepth 100000 in
theorem inRising_any (v : Value) (xs : List Int) (w : World) (hv : OwnI w v xs) (hg : Hid (Go.Pan.Good xs)) :
    Calls Try.prog 89 #[v] w fun e w' => ∃ r, e = .returned r ∧ OwnI w' r (riseL xs) ∧ From w.heap.size r ∧ Below w.heap.size w w' := by
  have c := inTails_any v xs w hv hg
  obtain ⟨ad, cap, rfl, hcc, _, _⟩ := hv.shape
  have h9 := hg.out.le9
  have h1 := hg.out.1
  have HN := Lib.hid hg.out.2.2.2
  have hd := deepG hg.out
  have HR0 := Lib.hid (rise_start hd fun x hx => by have := hg.out.2.2.1 x hx; omega)
  have HRM := Lib.hid (riseL_min hd)
  have HPOS := Lib.hid (fun (i : Nat) (h : i < xs.length) => show 1 ≤ xs[i] from (hg.out.2.2.1 _ (List.getElem_mem h)).1)
  have hDle := hd.le
  have HV := Lib.hid hv
  obtain ⟨n, hn⟩ : ∃ n, xs.length = n := ⟨_, rfl⟩
  have HNN := Lib.hid hn
  rw [hn] at h9 h1 hcc c hDle HV ⊢
  clear hv hn hd
  go_enter Try.func89, Try.ntmps89
  go_wp2_with fail
  refine c.mono ?_
  rintro e w1 ⟨r, cc, rfl, ho1, ho2, hb⟩
  have hv1 := HV.out.same hb
  have cl := inLongest_any _ xs w1 hv1 hg
  obtain ⟨a1, c1, rfl, hc1, _, _⟩ := ho1.shape
  obtain ⟨a2, c2, rfl, _, _, _⟩ := ho2.shape
  have hll : ((tls xs).map fun r => (r.1 : Int)).length = n := by rw [List.length_map, tls_length, HNN.out]
  have hl2 : ((tls xs).map fun r => (r.2 : Int)).length = n := by rw [List.length_map, tls_length, HNN.out]
  have HO := Lib.hid (OwnI.ofLen ho1 hll)
  rw [hll] at HO hc1 ⊢
  rw [hl2]
  obtain ⟨D, hD⟩ : ∃ D, mostL xs = D := ⟨_, rfl⟩
  rw [hD] at HR0 HRM hDle cl
  clear c ho1 ho2 hll hl2 hD hv1
  go_wp2_with fail
  refine cl.mono ?_
  rintro e w2 ⟨rfl, hb2⟩
  have hB2 := hb.trans (hb2.mono hb.size)
  have HO2 := Lib.hid (Own.same HO.out hb2)
  have HV2 := Lib.hid (OwnI.ofLen (HV.out.below hB2 (Nat.le_refl _)) HNN.out)
  obtain ⟨g1, o1, hae, hg1, hlc, _⟩ := Own.at HO2.out (by omega)
  cases hae
  obtain ⟨g0, o0, hae, hg0, hxc, _⟩ := Own.at HV2.out (by omega)
  cases hae
  have HLC := Lib.hid (fun (i : Nat) (h : i < n) => show w2.cell? ⟨g1, o1 + i, none⟩ = some (.int .i64 (((tls xs)[i]'(by rw [tls_length, HNN.out]; exact h)).1 : Nat)) by
    have := hlc i (by omega)
    rw [List.getElem?_map, List.getElem?_map, List.getElem?_eq_getElem (by rw [tls_length, HNN.out]; exact h)] at this
    exact this)
  have HXC := Lib.hid (fun (i : Nat) (h : i < n) => show w2.cell? ⟨g0, o0 + i, none⟩ = some (.int .i64 (xs[i]'(by rw [HNN.out]; exact h))) by
    have := hxc i (by omega)
    rw [List.getElem?_map, List.getElem?_eq_getElem (by rw [HNN.out]; exact h)] at this
    exact this)
  clear cl hb hb2 hlc hxc
  go_wp2
  go_loopw [5, 6, 7] (fun o fr lf wr => ∃ (L f : Nat) (b : Int) (q : List Int) (oa : Option Addr) (oc : Nat), L + q.length = D ∧ f ≤ n ∧ lf = .int .i64 (L : Nat) ∧ fr = .int .i64 (f : Nat) ∧ o = .slice oa q.length oc ∧ Hid (OwnI wr (.slice oa q.length oc) q) ∧ From w2.heap.size (.slice oa q.length oc) ∧ Hid (RiseSt xs f b L) ∧ Hid ((q = [] → b = 0) ∧ (q ≠ [] → lastI q = b)) ∧ Hid (∀ q', IsMin (chn (xs.drop f) b L) q' → IsMin (chn xs 0 D) (q ++ q')) ∧ Below w2.heap.size w2 wr) (fun _ _ lf _ => (intOf lf).toNat)
  case atStart => exact ⟨D, 0, 0, [], none, 0, by simp, by omega, rfl, rfl, rfl, Lib.hid (OwnI.nil _), From.nil _ _ _, HR0, Lib.hid ⟨fun _ => rfl, fun h => absurd rfl h⟩, Lib.hid (fun q' h => by simpa using h), Below.refl _ _⟩
  case round =>
    obtain ⟨L, f, b, q, oa, oc, hLq, hf, rfl, rfl, rfl, hO, hF, hR, hB, hQ, hbr⟩ := hrel
    clear HR0
    by_cases hL0 : L = 0
    · subst hL0
      have HE := Lib.hid (show q = riseL xs by
        have h2 := hQ.out [] (by rw [chn_zero]; exact isMin_nil)
        rw [List.append_nil] at h2
        exact h2.unique HRM.out)
      have hB9 := hB2.trans (hbr.mono hB2.size)
      clear hLq
      go_wp2
      go_ret
      exact ⟨_, rfl, by rw [← HE.out]; exact hO.out, hF.mono hB2.size, hB9⟩
    · obtain ⟨M, hLM⟩ : ∃ M, L = M + 1 := ⟨L - 1, by omega⟩
      have hS := rise_step (L := M) HN.out (by rw [← hLM]; exact hR.out) (by rw [HNN.out]; exact hf)
      rw [← hLM] at hS
      have HS := Lib.hid hS
      have hqD : q.length ≤ 9 := by omega
      have HLQ := Lib.hid hLq
      have hMp : decide (0 < L) = true := decide_eq_true (by omega)
      have hm9 : L ≤ 9 := by omega
      have HLM := Lib.hid hLM
      clear hS hLM
      obtain ⟨m, hm⟩ : ∃ m, q.length = m := ⟨_, rfl⟩
      have HM := Lib.hid hm
      rw [hm] at hO hF hqD ⊢
      have HOB := Lib.hid (fun (h : 0 < m) => show ∃ og oo, oa = some ⟨og, oo, none⟩ ∧ og < wr.heap.size ∧ wr.cell? ⟨og, oo + (m - 1), none⟩ = some (.int .i64 b) by
        obtain ⟨_, _, he, h3, _⟩ := hO.out.shape
        simp only [Value.slice.injEq] at he
        obtain ⟨rfl, _, rfl⟩ := he
        obtain ⟨og, oo, rfl, hog, hoc, _⟩ := (OwnI.ofLen hO.out HM.out).at (by rw [HM.out] at h3; omega)
        refine ⟨og, oo, rfl, hog, ?_⟩
        rw [hoc (m - 1) (by omega), List.getElem?_map, ← HM.out, lastI_get (by rw [HM.out]; exact h), hB.out.2 (fun e => by rw [e] at hm; simp at hm; omega)]
        rfl)
      have HB0 := Lib.hid (fun (h : m = 0) => hB.out.1 (List.eq_nil_of_length_eq_zero (by rw [HM.out]; exact h)))
      have hm0 : (0 : Int) ≤ (m : Int) := by omega
      obtain ⟨wo, hwo⟩ : ∃ x, wr = x := ⟨_, rfl⟩
      rw [hwo] at hO hbr HOB ⊢
      clear hLq hm hwo hL0
      go_wp2
      go_loopw [8, 9] (fun bs i wr => ∃ k : Nat, f + k ≤ n ∧ i = .int .i64 ((f : Int) + k) ∧ bs = .int .i64 (bestV (rbTo xs b (L) f k)) ∧ Below wo.heap.size wo wr) (fun _ i _ => n - (intOf i).toNat)
      case atStart => exact ⟨0, by omega, by go_num, rfl, Below.refl _ _⟩
      case round =>
        obtain ⟨k, hk, rfl, rfl, hbi⟩ := hrel
        by_cases hlt : f + k < n
        · obtain ⟨j, hj⟩ : ∃ j, j = f + k := ⟨_, rfl⟩
          have hji : (f : Int) + k = (j : Int) := by omega
          have hjn : (j : Int) < n := by omega
          have hjn' : j < n := by omega
          have hfj : f ≤ j := by omega
          have HJ := Lib.hid hj
          have HJI := Lib.hid hji
          have hBI := hbr.trans (hbi.mono hbr.size)
          have hlj := HLC.out j hjn'
          have hxj := HXC.out j hjn'
          have hEL := elig_len (b := b) (L := L) (show j < xs.length by rw [HNN.out]; exact hjn')
          have hEX := elig_lt (b := b) (L := L) (show j < xs.length by rw [HNN.out]; exact hjn')
          have hEY := elig_yes (b := b) (L := L) (show j < xs.length by rw [HNN.out]; exact hjn')
          have hPj := HPOS.out j (by rw [HNN.out]; exact hjn')
          have hgj : xs.getD j 0 = xs[j]'(by rw [HNN.out]; exact hjn') := getD_at (by rw [HNN.out]; exact hjn')
          have hr9 := (tls_le HN.out (by rw [HNN.out]; exact h9) _ (List.getElem_mem (show j < (tls xs).length by rw [tls_length, HNN.out]; exact hjn'))).1
          obtain ⟨x, hx⟩ : ∃ x, xs[j]'(by rw [HNN.out]; exact hjn') = x := ⟨_, rfl⟩
          obtain ⟨r, hr⟩ : ∃ r, ((tls xs)[j]'(by rw [tls_length, HNN.out]; exact hjn')).1 = r := ⟨_, rfl⟩
          rw [hx] at hxj hEX hEY hPj hgj
          rw [hr] at hlj hEL hEY hr9
          have cl := (hBI.cell (p := ⟨g1, o1 + j, none⟩) hg1).trans hlj
          have cx := (hBI.cell (p := ⟨g0, o0 + j, none⟩) hg0).trans hxj
          have HBI := Lib.hid hBI
          have HGJ := Lib.hid hgj
          have HEL := Lib.hid hEL
          have HEX := Lib.hid hEX
          have HEY := Lib.hid hEY
          rw [hji]
          clear hlj hxj hj hji hx hr hgj hEL hEX hEY hBI
          by_cases hrl : r = L
          · have hq1 : ((r : Int) != (L : Int)) = false := by simp; omega
            by_cases hok : m = 0 ∨ ¬ x < b
            · have HE := Lib.hid (show elig xs b (L) (f + k) = true by
                rw [← HJ.out]
                refine HEY.out hrl ?_
                rcases hok with h | h
                · rw [HB0.out h]; omega
                · exact h)
              by_cases hmz : m = 0
              · have hmd : decide (0 < m) = false := decide_eq_false (by omega)
                clear hok hrl hmz
                cases hbt : rbTo xs b L f k with
                | none =>
                  have HS2 := Lib.hid (show bestV (rbTo xs b L f (k + 1)) = (j : Int) by rw [best_new HE.out hbt, HJ.out]; rfl)
                  rw [bestV_none]
                  go_wp2
                  go_quiet (fail)
                  go_wp2
                  go_quiet (fail)
                  go_wp2
                  go_roundw
                  case rel => exact ⟨k + 1, by omega, by have := HJI.out; go_num, by rw [HS2.out], hbi.drewN _⟩
                  case measure => have := HJI.out; simp [intOf] <;> omega
                | some j0 =>
                  have hbi0 := (best_is xs b L f k).2 j0 hbt
                  have hj0n : j0 < n := by omega
                  have hj0i : (j0 : Int) < n := by omega
                  have hg0' : xs.getD j0 0 = xs[j0]'(by rw [HNN.out]; exact hj0n) := getD_at (by rw [HNN.out]; exact hj0n)
                  have hx0 := HXC.out j0 hj0n
                  have hO0 := best_old HE.out hbt
                  rw [← HJ.out, HGJ.out, hg0'] at hO0
                  obtain ⟨x0, hx0'⟩ : ∃ y, xs[j0]'(by rw [HNN.out]; exact hj0n) = y := ⟨_, rfl⟩
                  rw [hx0'] at hx0 hO0
                  have cx0 := (HBI.out.cell (p := ⟨g0, o0 + j0, none⟩) hg0).trans hx0
                  have HO0 := Lib.hid hO0
                  have hn0 : ¬ ((j0 : Int) < 0) := by omega
                  rw [bestV_some]
                  clear hbi0 hg0' hx0 hx0' hO0 hbt
                  by_cases hxx : x < x0
                  · have HS2 := Lib.hid (show bestV (rbTo xs b L f (k + 1)) = (j : Int) by rw [HO0.out, if_pos hxx]; rfl)
                    have hdx : decide (x < x0) = true := decide_eq_true hxx
                    go_wp2
                    go_quiet (fail)
                    go_wp2
                    go_quiet (fail)
                    go_wp2
                    go_roundw
                    case rel => exact ⟨k + 1, by omega, by have := HJI.out; go_num, by rw [HS2.out], hbi.drewN _⟩
                    case measure => have := HJI.out; simp [intOf] <;> omega
                  · have HS2 := Lib.hid (show bestV (rbTo xs b L f (k + 1)) = (j0 : Int) by rw [HO0.out, if_neg hxx]; rfl)
                    have hdx : decide (x < x0) = false := decide_eq_false hxx
                    clear hxx
                    go_wp2
                    go_quiet (fail)
                    go_wp2
                    go_quiet (fail)
                    go_wp2
                    go_roundw
                    case rel => exact ⟨k + 1, by omega, by have := HJI.out; go_num, by rw [HS2.out], hbi.drewN _⟩
                    case measure => have := HJI.out; simp [intOf] <;> omega
              · have hmd : decide (0 < m) = true := decide_eq_true (by omega)
                have hmp : 0 < m := by omega
                have hxb : decide (x < b) = false := decide_eq_false (by rcases hok with h | h; exact absurd h hmz; exact h)
                obtain ⟨og, oo, hoe, hog, hob⟩ := HOB.out hmp
                have hob2 := (hbi.cell (p := ⟨og, oo + (m - 1), none⟩) hog).trans hob
                have hm1 : ((m : Int) - 1).toNat = m - 1 := by omega
                have hm2 : (0 : Int) ≤ (m : Int) - 1 := by omega
                have HOE := Lib.hid hoe
                subst hoe
                clear hok hrl hmz hob
                cases hbt : rbTo xs b L f k with
                | none =>
                  have HS2 := Lib.hid (show bestV (rbTo xs b L f (k + 1)) = (j : Int) by rw [best_new HE.out hbt, HJ.out]; rfl)
                  rw [bestV_none]
                  go_wp2
                  go_quiet (fail)
                  go_wp2
                  go_quiet (fail)
                  go_wp2
                  go_roundw
                  case rel => exact ⟨k + 1, by omega, by have := HJI.out; go_num, by rw [HS2.out], hbi.drewN _⟩
                  case measure => have := HJI.out; simp [intOf] <;> omega
                | some j0 =>
                  have hbi0 := (best_is xs b L f k).2 j0 hbt
                  have hj0n : j0 < n := by omega
                  have hj0i : (j0 : Int) < n := by omega
                  have hg0' : xs.getD j0 0 = xs[j0]'(by rw [HNN.out]; exact hj0n) := getD_at (by rw [HNN.out]; exact hj0n)
                  have hx0 := HXC.out j0 hj0n
                  have hO0 := best_old HE.out hbt
                  rw [← HJ.out, HGJ.out, hg0'] at hO0
                  obtain ⟨x0, hx0'⟩ : ∃ y, xs[j0]'(by rw [HNN.out]; exact hj0n) = y := ⟨_, rfl⟩
                  rw [hx0'] at hx0 hO0
                  have cx0 := (HBI.out.cell (p := ⟨g0, o0 + j0, none⟩) hg0).trans hx0
                  have HO0 := Lib.hid hO0
                  have hn0 : ¬ ((j0 : Int) < 0) := by omega
                  rw [bestV_some]
                  clear hbi0 hg0' hx0 hx0' hO0 hbt
                  by_cases hxx : x < x0
                  · have HS2 := Lib.hid (show bestV (rbTo xs b L f (k + 1)) = (j : Int) by rw [HO0.out, if_pos hxx]; rfl)
                    have hdx : decide (x < x0) = true := decide_eq_true hxx
                    go_wp2
                    go_quiet (fail)
                    go_wp2
                    go_quiet (fail)
                    go_wp2
                    go_roundw
                    case rel => exact ⟨k + 1, by omega, by have := HJI.out; go_num, by rw [HS2.out], hbi.drewN _⟩
                    case measure => have := HJI.out; simp [intOf] <;> omega
                  · have HS2 := Lib.hid (show bestV (rbTo xs b L f (k + 1)) = (j0 : Int) by rw [HO0.out, if_neg hxx]; rfl)
                    have hdx : decide (x < x0) = false := decide_eq_false hxx
                    clear hxx
                    go_wp2
                    go_quiet (fail)
                    go_wp2
                    go_quiet (fail)
                    go_wp2
                    go_roundw
                    case rel => exact ⟨k + 1, by omega, by have := HJI.out; go_num, by rw [HS2.out], hbi.drewN _⟩
                    case measure => have := HJI.out; simp [intOf] <;> omega
            · have hm0' : ¬ m = 0 := fun h => hok (.inl h)
              have hxb' : x < b := Classical.byContradiction fun h => hok (.inr h)
              have HE := Lib.hid (show elig xs b L (f + k) = false by rw [← HJ.out]; exact HEX.out hxb')
              have hmd : decide (0 < m) = true := decide_eq_true (by omega)
              have hmp : 0 < m := by omega
              have hxb : decide (x < b) = true := decide_eq_true hxb'
              obtain ⟨og, oo, hoe, hog, hob⟩ := HOB.out hmp
              have hob2 := (hbi.cell (p := ⟨og, oo + (m - 1), none⟩) hog).trans hob
              have hm1 : ((m : Int) - 1).toNat = m - 1 := by omega
              have hm2 : (0 : Int) ≤ (m : Int) - 1 := by omega
              subst hoe
              have HS2 := Lib.hid (best_no HE.out)
              clear hok hrl hm0' hob hxb'
              go_wp2
              go_quiet (fail)
              go_wp2
              go_roundw
              case rel => exact ⟨k + 1, by omega, by have := HJI.out; go_num, by rw [HS2.out], hbi.drewN _⟩
              case measure => have := HJI.out; simp [intOf] <;> omega
          · have hq1 : ((r : Int) != (L : Int)) = true := by simp; omega
            have HS2 := Lib.hid (show rbTo xs b (L) f (k + 1) = rbTo xs b (L) f k from best_no (by rw [← HJ.out]; exact HEL.out hrl))
            clear hrl
            go_wp2
            go_quiet (fail)
            go_wp2
            go_roundw
            case rel => exact ⟨k + 1, by omega, by have := HJI.out; go_num, by rw [HS2.out], hbi.drewN _⟩
            case measure => have := HJI.out; simp [intOf] <;> omega
        · have hk2 : k = n - f := by omega
          have hge : ¬ ((f : Int) + k < n) := by omega
          obtain ⟨j, hbj, hfj, hjn, hR2, hQ2⟩ := HS.out
          rw [HNN.out] at hjn
          have hbk : rbTo xs b L f k = some j := by rw [hk2, ← HNN.out]; exact hbj
          have hgj : xs.getD j 0 = xs[j]'(by rw [HNN.out]; exact hjn) := getD_at (by rw [HNN.out]; exact hjn)
          have hxj := HXC.out j hjn
          rw [hgj] at hR2 hQ2
          obtain ⟨x, hx⟩ : ∃ x, xs[j]'(by rw [HNN.out]; exact hjn) = x := ⟨_, rfl⟩
          rw [hx] at hxj hR2 hQ2
          have hBI := hbr.trans (hbi.mono hbr.size)
          have cx := (hBI.cell (p := ⟨g0, o0 + j, none⟩) hg0).trans hxj
          have hOi := Lib.hid (hO.out.below hbi (Nat.le_refl _))
          have HR2 := Lib.hid hR2
          have HQ2 := Lib.hid (show ∀ q', IsMin (chn (xs.drop (j + 1)) x M) q' → IsMin (chn xs 0 D) ((q ++ [x]) ++ q') from fun q' h => by
            have h1 := hQ2 q' h
            have h2 := hQ.out _ h1
            rw [List.append_assoc]; exact h2)
          have HB2 := Lib.hid (show (q ++ [x] = [] → x = 0) ∧ (q ++ [x] ≠ [] → lastI (q ++ [x]) = x) from ⟨fun h => by simp at h, fun _ => lastI_snoc q x⟩)
          have hqm : q.length ≤ 1048576 := by rw [HM.out]; omega
          have hjI : (j : Int) < n := by omega
          have hsi := hBI.size
          have HLE := Lib.hid (show (L : Int) - 1 = (M : Nat) by have := HLM.out; omega)
          have HDE := Lib.hid (show M + (q ++ [x]).length = D by have h1 := HLM.out; have h2 := HLQ.out; rw [List.length_append]; simp; omega)
          have hL1 : (1 : Int) ≤ (L : Int) := by have := HLM.out; omega
          rw [hbk, bestV_some]
          clear hbj hbk hgj hxj hx hR2 hQ2 hO hk2 hR hB hQ hge hbr hbi
          have hge2 : (n : Int) ≤ (f : Int) + k := by omega
          go_wp2_with (at_builtin; refine wpList_app1 Try.intSl rfl _ _ rfl _ q rfl (hOi.out.alloc _) w2.heap.size hF wr.heap.size x rfl ?c1 w2 (hBI.alloc hsi _) ?c2 hqm ?_)
          case c1 => simp [go_sem]
          case c2 => simp; exact Nat.le_succ_of_le hsi
          intro v' w6 ho' hf' hb' _
          obtain ⟨a6, c6, hv6, _⟩ := Own.shape ho'
          subst hv6
          have HO6 := Lib.hid ho'
          clear hOi ho' hBI
          go_wp2
          go_roundw
          case rel => exact ⟨M, j + 1, x, q ++ [x], a6, c6, HDE.out, by omega, by have := HLE.out; go_num, by go_num, rfl, HO6, hf', HR2, HB2, HQ2, hb'⟩
          case measure => have := HLE.out; simp [intOf] <;> omega

theorem sLongestRising_any (v : Value) (xs : List Int) (w : World) (hv : OwnI w v xs) (hn : xs.length ≤ 1048576) :
    Calls Try.prog 36 #[v] w fun e w' => ∃ r, e = .returned (.tuple #[r, .bool (goodB xs)]) ∧ OwnI w' r (mLongestRising xs) ∧ From w.heap.size r ∧ Below w.heap.size w w' := by
  have cg := stGood_any _ _ _ hv hn
  cases hg : goodB xs with
  | true =>
    have HM := Lib.hid (show mLongestRising xs = riseL xs from if_pos hg)
    have HG := Lib.hid (goodB_iff.1 hg)
    rw [hg] at cg
    clear hg
    go_enter Try.func36, Try.ntmps36
    go_wp2_with fail
    refine (cg).mono ?_
    rintro e w1 ⟨rfl, hb⟩
    go_wp2_with fail
    refine (inRising_any _ xs _ (hv.same hb) HG).mono ?_
    rintro e w2 ⟨r, rfl, ho, hf, hb2⟩
    go_wp2
    go_ret2
    exact ⟨_, rfl, by rw [HM.out]; exact ho, hf.mono hb.size, hb.trans (hb2.mono hb.size)⟩
  | false =>
    have HM := Lib.hid (show mLongestRising xs = [] from if_neg (by rw [hg]; exact Bool.false_ne_true))
    rw [hg] at cg
    clear hg
    go_enter Try.func36, Try.ntmps36
    go_wp2_with fail
    refine (cg).mono ?_
    rintro e w1 ⟨rfl, hb⟩
    go_wp2
    go_ret2
    exact ⟨_, rfl, by rw [HM.out]; exact OwnI.nil _, From.nil _ _ _, hb⟩

theorem sRisingLength_any (v : Value) (xs : List Int) (w : World) (hv : OwnI w v xs) (hn : xs.length ≤ 1048576) :
    Calls Try.prog 38 #[v] w fun e w' => e = .returned (.tuple #[.int .i64 (mRisingLength xs), .bool (goodB xs)]) ∧ Below w.heap.size w w' := by
  have cg := stGood_any _ _ _ hv hn
  cases hg : goodB xs with
  | true =>
    have HM := Lib.hid (show mRisingLength xs = ((mostL xs : Nat) : Int) from if_pos hg)
    have HG := Lib.hid (goodB_iff.1 hg)
    rw [hg] at cg
    clear hg
    go_enter Try.func38, Try.ntmps38
    go_wp2_with fail
    refine (cg).mono ?_
    rintro e w1 ⟨rfl, hb⟩
    go_wp2_with fail
    refine (inLongest_any _ xs _ (hv.same hb) HG).mono ?_
    rintro e w2 ⟨rfl, hb2⟩
    go_wp2
    go_ret2
    exact ⟨by rw [HM.out]; rfl, hb.trans (hb2.mono hb.size)⟩
  | false =>
    have HM := Lib.hid (show mRisingLength xs = 0 from if_neg (by rw [hg]; exact Bool.false_ne_true))
    rw [hg] at cg
    clear hg
    go_enter Try.func38, Try.ntmps38
    go_wp2_with fail
    refine (cg).mono ?_
    rintro e w1 ⟨rfl, hb⟩
    go_wp2
    go_ret2
    exact ⟨by rw [HM.out]; rfl, hb⟩

theorem sLeastMoves_any (v : Value) (xs : List Int) (w : World) (hv : OwnI w v xs) (hn : xs.length ≤ 1048576) :
    Calls Try.prog 44 #[v] w fun e w' => e = .returned (.tuple #[.int .i64 (mLeastMoves xs), .bool (goodB xs)]) ∧ Below w.heap.size w w' := by
  have cg := stGood_any _ _ _ hv hn
  cases hg : goodB xs with
  | true =>
    have HM := Lib.hid (show mLeastMoves xs = (xs.length : Int) - ((mostL xs : Nat) : Int) from if_pos hg)
    have HG := Lib.hid (goodB_iff.1 hg)
    have hle := (deepG HG.out).le
    have cl := fun w1 (h : OwnI w1 v xs) => inLongest_any v xs w1 h HG
    obtain ⟨ad, cap, rfl, _, _, _⟩ := hv.shape
    obtain ⟨M, hM⟩ : ∃ M, mostL xs = M := ⟨_, rfl⟩
    rw [hM] at HM hle
    simp only [hM] at cl
    have CL := Lib.hid cl
    rw [hg] at cg
    clear hg hM cl
    go_enter Try.func44, Try.ntmps44
    go_wp2_with fail
    refine cg.mono ?_
    rintro e w1 ⟨rfl, hb⟩
    have hv1 := hv.same hb
    clear cg hv
    have hs : (0 : Int) ≤ (xs.length : Int) - (M : Int) := by omega
    go_wp2_with fail
    refine (CL.out _ hv1).mono ?_
    rintro e w2 ⟨rfl, hb2⟩
    go_wp2
    go_ret2
    exact ⟨by rw [HM.out]; rfl, hb.trans (hb2.mono hb.size)⟩
  | false =>
    have HM := Lib.hid (show mLeastMoves xs = 0 from if_neg (by rw [hg]; exact Bool.false_ne_true))
    rw [hg] at cg
    clear hg
    go_enter Try.func44, Try.ntmps44
    go_wp2_with fail
    refine (cg).mono ?_
    rintro e w1 ⟨rfl, hb⟩
    go_wp2
    go_ret2
    exact ⟨by rw [HM.out]; rfl, hb⟩
theorem mFall_eq {xs : List Int} (hg : goodB xs = true) : mFallingLength xs = ((mostL xs.reverse : Nat) : Int) := if_pos hg
theorem good_rev {xs : List Int} (hg : Go.Pan.Good xs) : Go.Pan.Good xs.reverse := hg.perm (List.reverse_perm xs).symm

theorem sFallingLength_any (v : Value) (xs : List Int) (w : World) (hv : OwnI w v xs) (hn : xs.length ≤ 1048576) :
    Calls Try.prog 40 #[v] w fun e w' => e = .returned (.tuple #[.int .i64 (mFallingLength xs), .bool (goodB xs)]) ∧ Below w.heap.size w w' := by
  have cg := stGood_any _ _ _ hv hn
  cases hg : goodB xs with
  | true =>
    have HM := Lib.hid (mFall_eq hg)
    have HG := Lib.hid (good_rev (goodB_iff.1 hg))
    rw [hg] at cg
    clear hg
    go_enter Try.func40, Try.ntmps40
    go_wp2_with fail
    refine (cg).mono ?_
    rintro e w1 ⟨rfl, hb⟩
    go_wp2_with fail
    refine (stReverse_any _ xs _ (hv.same hb) hn).mono ?_
    rintro e w2 ⟨r, rfl, ho, hf, hb2⟩
    go_wp2_with fail
    refine (inLongest_any _ xs.reverse _ ho HG).mono ?_
    rintro e w3 ⟨rfl, hb3⟩
    have hB2 := hb.trans (hb2.mono hb.size)
    go_wp2
    go_ret2
    exact ⟨by rw [HM.out]; rfl, hB2.trans (hb3.mono hB2.size)⟩
  | false =>
    have HM := Lib.hid (show mFallingLength xs = 0 from if_neg (by rw [hg]; exact Bool.false_ne_true))
    rw [hg] at cg
    clear hg
    go_enter Try.func40, Try.ntmps40
    go_wp2_with fail
    refine (cg).mono ?_
    rintro e w1 ⟨rfl, hb⟩
    go_wp2
    go_ret2
    exact ⟨by rw [HM.out]; rfl, hb⟩

theorem FallingLength_any (v : Value) (xs : List Int) (w : World) (hv : OwnI w v xs) (hn : xs.length ≤ 1048576) :
    Calls Try.prog 41 #[v] w fun e w' => e = .returned (.tuple #[.int .i64 (mFallingLength xs), .bool (goodB xs)]) ∧ Below w.heap.size w w' := by
  have c := BackStack_any v xs w hv hn
  obtain ⟨ad, cap, rfl, hcc, _, _⟩ := hv.shape
  cases hg : goodB xs with
  | true =>
    have hE : mRisingLength xs.reverse = mFallingLength xs := by
      rw [mFall_eq hg]
      exact if_pos (goodB_iff.2 (good_rev (goodB_iff.1 hg)))
    have hB : mBackStack xs = xs.reverse := if_pos hg
    have HGR := Lib.hid (show goodB xs.reverse = true from goodB_iff.2 (good_rev (goodB_iff.1 hg)))
    have HE := Lib.hid hE
    have hrl : xs.reverse.length ≤ 1048576 := by simpa using hn
    rw [hg, hB] at c
    obtain ⟨ys, hys⟩ : ∃ ys, xs.reverse = ys := ⟨_, rfl⟩
    rw [hys] at c HGR HE hrl
    clear hg hE hB hys
    go_enter Try.func41, Try.ntmps41
    go_wp2_with fail
    refine c.mono ?_
    rintro e w1 ⟨r, rfl, ho, hf, hb⟩
    have cr := RisingLength_any r ys w1 ho hrl
    rw [HGR.out, HE.out] at cr
    obtain ⟨a1, c1, rfl, _⟩ := ho.shape
    clear c ho hrl
    go_wp2_with fail
    refine cr.mono ?_
    rintro e w2 ⟨rfl, hb2⟩
    clear cr
    go_wp2
    go_ret2
    exact ⟨rfl, hb.trans (hb2.mono hb.size)⟩
  | false =>
    have HM := Lib.hid (show mFallingLength xs = 0 from if_neg (by rw [hg]; exact Bool.false_ne_true))
    have hB : mBackStack xs = [] := if_neg (by rw [hg]; exact Bool.false_ne_true)
    have hgn : goodB ([] : List Int) = false := decide_eq_false fun h => by have := h.1; simp at this
    have hrn : mRisingLength [] = 0 := if_neg (by rw [hgn]; exact Bool.false_ne_true)
    rw [hg, hB] at c
    clear hg hB
    go_enter Try.func41, Try.ntmps41
    go_wp2_with fail
    refine c.mono ?_
    rintro e w1 ⟨r, rfl, ho, hf, hb⟩
    have cr := RisingLength_any r [] w1 ho (by simp)
    rw [hgn, hrn] at cr
    clear hgn hrn
    obtain ⟨a1, c1, rfl, _⟩ := ho.shape
    clear c ho
    go_wp2_with fail
    refine cr.mono ?_
    rintro e w2 ⟨rfl, hb2⟩
    clear cr
    go_wp2
    go_ret2
    exact ⟨by rw [HM.out]; rfl, hb.trans (hb2.mono hb.size)⟩
end Go.Proofs.Ytdkidfilnbglgaa
