import Derived.Test.YtfcbaegkppkfkaaRxN
import Derived.Test.YtfcbaegkppkfkaaRwI
import Derived.Test.YtfcbaegkppkfkaaI3
import Derived.Test.YtfcbaegkppkfkaaMc
import Derived.Test.YtfcbaegkppkfkaaMe
import Derived.BigRegion
import Derived.IntWalk
namespace Go.Pan
open Go Go.RowKit Go.Proofs.Ytfcbaegkppkfkaa
theorem S2.other {w w' : World} {B : Nat} {ty : TypeId} {u v : Value} {hR hP : List Value} {R P : List (List Int)} (h : S2 w B ty u hR R v hP P) (hs : w.heap.size ≤ w'.heap.size) (hk : ∀ g, Ft u hR g ∨ Ft v hP g → w'.heap[g]? = w.heap[g]?) : S2 w' B ty u hR R v hP P :=
  ⟨(h.r.keptF fun g hg => hk g (.inl hg)).mono (Nat.le_refl _) hs, (h.p.keptF fun g hg => hk g (.inr hg)).mono (Nat.le_refl _) hs, ownsRow_keptF h.ro fun g hg => hk g (.inl (.inl hg)), ownsRow_keptF h.po fun g hg => hk g (.inr (.inl hg)), h.d⟩
/-- a slice of one's own is cut -/
theorem OwnI.cut {w : World} {gu ou m c k : Nat} {r : List Int} (h : OwnI w (.slice (some ⟨gu, ou, none⟩) m c) r) (hk : k ≤ m) : OwnI w (.slice (some ⟨gu, ou, none⟩) k c) (r.take k) := by
  obtain ⟨ad, cap, hv, h1, h2, h3, h4, h5⟩ := h
  simp only [Value.slice.injEq] at hv
  obtain ⟨rfl, hm, rfl⟩ := hv
  subst hm
  obtain ⟨hs0, cur, ty, hh, hroom, hc⟩ := h5 _ rfl
  refine ⟨_, c, by rw [List.length_take, Nat.min_eq_left hk], by simp, by rw [List.length_take]; omega, h3, by simp, fun a ha => ?_⟩
  cases ha
  refine ⟨rfl, cur, ty, hh, hroom, fun j hj => ?_⟩
  rw [List.length_take, Nat.min_eq_left hk, Nat.mul_one] at hj
  rw [hc j (by omega), List.map_take, List.getElem?_take, if_pos hj]

end Go.Pan

namespace Go.Proofs.Ytfcbaegkppkfkaa
open Go Go.RowKit Go.Pan

set_option maxHeartbeats 8000000 in
set_option maxRecDepth 100000 in
theorem outOf_any (g M cap : Nat) (hR : List Value) (T : List (List Int)) (k : Nat) (w : World) (B : Nat) (h : S2 w B 22 (.slice (some ⟨g, 0, none⟩) M cap) hR T (.slice none 0 0) [] []) (hB : B ≤ w.heap.size) (hM : T.length = M) (h9 : M ≤ 9)
    (hk0 : 0 < (T.getD k []).length) (hr9 : ∀ a, (T.getD a []).length ≤ 9) (hu : UpOk k (T.set k (T.getD k []).dropLast) (topP (T.getD k []))) :
    Calls Try.prog 46 #[.slice (some ⟨g, 0, none⟩) M cap, .int .i64 k] w fun e w' => ∃ hR', e = .returned (.int .i64 (outR T k).2) ∧ S2 w' B 22 (.slice (some ⟨g, 0, none⟩) M cap) hR' (outR T k).1 (.slice none 0 0) [] [] ∧ Below B w w' ∧ (∀ j, j < w.heap.size → ¬ Ft (.slice (some ⟨g, 0, none⟩) M cap) hR j → w'.heap[j]? = w.heap[j]?) ∧ (∀ j, Ft (.slice (some ⟨g, 0, none⟩) M cap) hR' j → Ft (.slice (some ⟨g, 0, none⟩) M cap) hR j) := by
  have hkM : k < M := by rw [← hM]; exact row_lt hk0
  have hro := h.ro
  rw [hM] at hro
  obtain ⟨g', hg0, cs, hcs⟩ := owns_zero hro (by omega)
  simp only [Option.some.injEq, Addr.mk.injEq, and_true] at hg0
  subst hg0
  obtain ⟨r, hr⟩ : ∃ r, T.getD k [] = r := ⟨_, rfl⟩
  have HOUT := Lib.hid (show outR T k = upR k (T.set k r.dropLast) (topP r) by unfold outR; rw [hr])
  have hrk := hr9 k
  rw [hr] at hk0 hu hrk
  obtain ⟨u, hu0⟩ : ∃ u, hR[k]? = some u := ⟨_, List.getElem?_eq_getElem (by have := hro.1; omega)⟩
  have hri : T[k]? = some r := by rw [List.getElem?_eq_getElem (by omega), ← getD_atL (by omega), hr]
  have hou := (h.r.row k u r hu0 hri).1
  obtain ⟨ua, uc, rfl, huc, hucm, _⟩ := hou.shape
  obtain ⟨gu, ou, rfl, hgu, hcr, _⟩ := Own.at hou (by omega)
  obtain ⟨c, hcl⟩ : ∃ c, r.length = c + 1 := ⟨r.length - 1, by omega⟩
  have hcg : w.cell? ⟨g, k, none⟩ = some (.slice (some ⟨gu, ou, none⟩) r.length uc) := by rw [owns_cell hro hkM]; exact hu0
  have hcx := hcr c (by omega)
  rw [List.getElem?_map, List.getElem?_eq_getElem (by omega)] at hcx
  have htop : topP r = r[c] := by rw [topP_at hk0]; simp only [hcl, Nat.add_sub_cancel]
  rw [← htop] at hcx
  have hcx' : w.cell? ⟨gu, ou + c, none⟩ = some (.int .i64 (topP r)) := hcx
  have hdl : r.dropLast = r.take c := by rw [List.dropLast_eq_take, hcl]; rfl
  have hcut := S2.push h hB hM hcs hu0 ⟨rfl, rfl, rfl, Nat.le_refl _, fun _ _ _ => rfl⟩ (u1 := .slice (some ⟨gu, ou, none⟩) c uc) (r1 := r.take c) (OwnI.cut hou (by omega)) (fun b hb => .inl hb)
  rw [← hdl] at hcut
  have HCUT := Lib.hid hcut
  have HB1 := Lib.hid ((Below.refl B w).setCell (p := ⟨g, k, none⟩) (h.r.inn g rfl).1 (.slice (some ⟨gu, ou, none⟩) c uc))
  have HFT := Lib.hid (show ∀ j, Ft (.slice (some ⟨g, 0, none⟩) M cap) (hR.set k (.slice (some ⟨gu, ou, none⟩) c uc)) j → Ft (.slice (some ⟨g, 0, none⟩) M cap) hR j from fun j hj => by
    rcases hj with hj | ⟨i, u, hi, hj⟩
    · exact .inl hj
    · by_cases e : k = i
      · subst e
        rw [List.getElem?_set_self (List.getElem?_eq_some_iff.1 hu0).1] at hi
        cases hi
        exact .inr ⟨k, _, hu0, hj⟩
      · rw [List.getElem?_set_ne e] at hi
        exact .inr ⟨i, u, hi, hj⟩)
  have HKP1 := Lib.hid (show ∀ j, j < w.heap.size → ¬ Ft (.slice (some ⟨g, 0, none⟩) M cap) hR j → (w.setCell ⟨g, k, none⟩ (.slice (some ⟨gu, ou, none⟩) c uc)).heap[j]? = w.heap[j]? from fun j _ hj => heap_setCell_other w ⟨g, k, none⟩ j _ (fun e => hj (.inl (by rw [e]; rfl))))
  have hfg : ∀ j, w.frozen? ⟨g, j, none⟩ = false := fun j => frozen_of_row w g _ _ _ hcs
  have HU := Lib.hid hu
  have HR9 := Lib.hid (show ∀ a, ((T.set k r.dropLast).getD a []).length ≤ 9 from fun a => by
    by_cases e : k = a
    · subst e; rw [getL_set_same (by omega), List.length_dropLast]; omega
    · rw [getL_set_ne e]; exact hr9 a)
  have HTL := Lib.hid (show (T.set k r.dropLast).length = M by rw [List.length_set]; exact hM)
  obtain ⟨x0, hx0⟩ : ∃ x0, topP r = x0 := ⟨_, rfl⟩
  obtain ⟨T0, hT0⟩ : ∃ T0, T.set k r.dropLast = T0 := ⟨_, rfl⟩
  obtain ⟨hR0, hR0e⟩ : ∃ hR0, hR.set k (.slice (some ⟨gu, ou, none⟩) c uc) = hR0 := ⟨_, rfl⟩
  rw [hx0] at hcx' HU HOUT
  rw [hT0] at HCUT HU HOUT HR9 HTL
  rw [hR0e] at HCUT HFT
  rw [hcl] at hcg huc
  rw [hcl] at hrk
  clear h hu hr hro hu0 hri hou hcr hcx htop hdl hcut hcs hx0 hT0 hR0e hr9 hk0 hM hcl
  go_enter Try.func46, Try.ntmps46
  go_wp2
  obtain ⟨w1, hw1⟩ : ∃ w1, w.setCell ⟨g, k, none⟩ (.slice (some ⟨gu, ou, none⟩) c uc) = w1 := ⟨_, rfl⟩
  rw [hw1] at HCUT HB1 HKP1 ⊢
  have hz1 : w1.heap.size = w.heap.size := by rw [← hw1]; simp
  clear hw1 hcg hcx' hfg
  go_loopw [6, 7, 8, 9] (fun xv iv_ _ _ wi => ∃ (m : Nat) (T' : List (List Int)) (x : Int), m ≤ k ∧ iv_ = .int .i64 ((m : Int) - 1) ∧ xv = .int .i64 x ∧ Hid (UpOk m T' x) ∧ Hid (upR m T' x = outR T k) ∧ Hid (T'.length = M ∧ ∀ a, (T'.getD a []).length ≤ 9) ∧ Hid (S2 wi B 22 (.slice (some ⟨g, 0, none⟩) M cap) hR0 T' (.slice none 0 0) [] []) ∧ Hid (∀ j, j < w.heap.size → ¬ Ft (.slice (some ⟨g, 0, none⟩) M cap) hR j → wi.heap[j]? = w.heap[j]?) ∧ Below B w wi) (fun _ iv_ _ _ _ => (intOf iv_ + 1).toNat)
  case atStart => exact ⟨k, T0, x0, Nat.le_refl _, rfl, rfl, HU, Lib.hid HOUT.out.symm, Lib.hid ⟨HTL.out, HR9.out⟩, HCUT, HKP1, HB1.out⟩
  case round =>
    obtain ⟨m, T', x, hmk, rfl, rfl, HUP, HUE, HTL', HS, HKP, hbr⟩ := hrel
    clear HU HCUT HB1 HOUT HTL HR9 HKP1
    cases m with
    | zero =>
      have hT : (outR T k).1 = T' ∧ (outR T k).2 = x := by rw [← HUE.out]; exact ⟨rfl, rfl⟩
      have HT := Lib.hid hT
      clear hT
      go_wp2
      go_ret
      exact ⟨hR0, by rw [HT.out.2]; rfl, by rw [HT.out.1]; exact HS.out, hbr, HKP.out, HFT.out⟩
    | succ i =>
      have hz : (((i + 1 : Nat) : Int) - 1) = (i : Int) := by omega
      rw [hz]
      have hiM : i < M := by omega
      have hhit := HUP.out.hit
      have hst := HUP.out.step
      have hrow9 := HTL'.out.2 i
      have hupi := HUP.out.up i
      obtain ⟨q, hq⟩ : ∃ q, T'.getD i [] = q := ⟨_, rfl⟩
      have hne : upR (i + 1) T' x = upR i (T'.set i (q.set (hitP q x - 1) x)) (q.getD (hitP q x - 1) 0) := by
        rw [show upR (i + 1) T' x = upR i (T'.set i ((T'.getD i []).set (hitP (T'.getD i []) x - 1) x)) ((T'.getD i []).getD (hitP (T'.getD i []) x - 1) 0) from rfl, hq]
      rw [hq] at hhit hst hrow9 hupi
      obtain ⟨kk, hkk⟩ : ∃ kk, hitP q x = kk + 1 := ⟨hitP q x - 1, by omega⟩
      have hkq : kk < q.length := by omega
      have hro2 := HS.out.ro
      rw [HTL'.out.1] at hro2
      obtain ⟨v, hv⟩ : ∃ v, hR0[i]? = some v := ⟨_, List.getElem?_eq_getElem (by have := hro2.1; omega)⟩
      have hTi : i < T'.length := by rw [HTL'.out.1]; exact hiM
      have hqi : T'[i]? = some q := by rw [List.getElem?_eq_getElem hTi, ← getD_atL hTi, hq]
      have hov := (HS.out.r.row i v q hv hqi).1
      have hcv : wr.cell? ⟨g, i, none⟩ = some v := by rw [owns_cell hro2 hiM]; exact hv
      obtain ⟨va, vc, rfl, _, _, _⟩ := hov.shape
      obtain ⟨gv, ov, rfl, hgv, hcrv, hfv⟩ := Own.at hov (by omega)
      have hcx := hcrv kk (by omega)
      rw [List.getElem?_map, List.getElem?_eq_getElem hkq] at hcx
      obtain ⟨y, hy⟩ : ∃ y, q[kk] = y := ⟨_, rfl⟩
      rw [hy] at hcx
      have hcx' : wr.cell? ⟨gv, ov + kk, none⟩ = some (.int .i64 y) := hcx
      have hgd : q.getD kk 0 = y := by rw [List.getD_eq_getElem?_getD, List.getElem?_eq_getElem hkq, hy]; rfl
      rw [hkk] at hne hst
      simp only [Nat.add_sub_cancel] at hne hst
      rw [hgd] at hne hst
      have HST := Lib.hid hst
      have HNE := Lib.hid (show upR i (T'.set i (q.set kk x)) y = outR T k by rw [← hne]; exact HUE.out)
      have HPUT := Lib.hid (S2.put HS.out hv hqi hkq x)
      have HBP := Lib.hid (hbr.setCell (p := ⟨gv, ov + kk, none⟩) (HS.out.r.ft (.inr ⟨i, _, hv, rfl⟩)).1 (iv x))
      have HKP2 := Lib.hid (show ∀ j, j < w.heap.size → ¬ Ft (.slice (some ⟨g, 0, none⟩) M cap) hR j → (wr.setCell ⟨gv, ov + kk, none⟩ (iv x)).heap[j]? = w.heap[j]? from fun j hj hf => (heap_setCell_other wr ⟨gv, ov + kk, none⟩ j _ (fun e => hf (HFT.out j (.inr ⟨i, _, hv, by rw [e]; rfl⟩)))).trans (HKP.out j hj hf))
      have HTL2 := Lib.hid (show (T'.set i (q.set kk x)).length = M ∧ ∀ a, ((T'.set i (q.set kk x)).getD a []).length ≤ 9 from ⟨by rw [List.length_set]; exact HTL'.out.1, fun a => by
        by_cases e : i = a
        · subst e; rw [getL_set_same hTi, List.length_set]; exact hrow9
        · rw [getL_set_ne e]; exact HTL'.out.2 a⟩)
      have cB := bsI_any gv ov vc q x wr hov (by omega) hrow9 hupi
      rw [hkk] at cB
      have CB := Lib.hid cB
      have hk1 : (kk : Int) + 1 - 1 = (kk : Int) := by omega
      have hkl : (kk : Int) < (q.length : Int) := by omega
      have hk0' : (0 : Int) ≤ (kk : Int) := by omega
      have hne2 : gv ≠ g := fun e => (HS.out.r.row i _ q hv hqi).2.2 g rfl (by rw [← e]; rfl)
      obtain ⟨D, hD⟩ : ∃ D, decide (q[kk + 1]? = some x) = D := ⟨_, rfl⟩
      rw [hD] at CB
      clear hhit hst hupi hne hro2 hv hqi hov hcrv hcx hy hgd hq HUP HUE HTL' HS cB hD
      go_wp2_with fail
      refine CB.out.mono ?_
      rintro e w2 ⟨rfl, rfl⟩
      go_wp2_with fail
      go_region
      have hs2 : S2 ((w2.setCell ⟨gv, ov + kk, none⟩ (iv x)).drewN 1) B 22 (.slice (some ⟨g, 0, none⟩) M cap) hR0 (T'.set i (q.set kk x)) (.slice none 0 0) [] [] := HPUT.out.below ((Below.refl _ _).drewN 1)
      have hb2 := HBP.out.drewN 1
      have HS2 := Lib.hid hs2
      clear hs2 CB
      go_wp2
      go_roundw
      case rel => exact ⟨i, _, y, by omega, rfl, rfl, HST, HNE, HTL2, HS2, HKP2, hb2⟩
      case measure => simp [intOf] <;> omega

end Go.Proofs.Ytfcbaegkppkfkaa

namespace Go.Proofs.Ytfcbaegkppkfkaa
open Go Go.RowKit Go.Pan

theorem slContainsQ_any (v : Value) (xs : List Int) (x : Int) (w : World) (hv : OwnI w v xs) (hn : xs.length ≤ 1048576) :
    Calls Try.prog 45 #[v, .int .i64 x] w fun e w' => e = .returned (.bool (decide (x ∈ xs))) ∧ Below w.heap.size w w' := by
  have hg : decide (1 ≤ placeL xs x) = decide (x ∈ xs) := by
    by_cases h : x ∈ xs
    · have := (placeL_bd h).1
      simp [h, this]
    · simp [h, placeL]
  have HG := Lib.hid hg
  clear hg
  go_enter Try.func45, Try.ntmps45
  go_wp2_with fail
  refine (Index_any v xs x _ hv hn).mono ?_
  rintro e w1 ⟨rfl, hb1⟩
  have hx1 : -1 ≤ placeL xs x - 1 := by simp [placeL]; split <;> omega
  go_wp2
  go_ret
  exact ⟨by show Ending.returned (.bool (decide (1 ≤ placeL xs x))) = _; rw [HG.out], hb1⟩

set_option maxHeartbeats 400000 in
theorem SlEqualQ_any (v u : Value) (xs ys : List Int) (w : World) (hv : OwnI w v xs) (hn : xs.length ≤ 1048576) (hu : OwnI w u ys) (_hm : ys.length ≤ 1048576) :
    Calls Try.prog 40 #[v, u] w fun e w' => e = .returned (.bool (decide (xs = ys))) ∧ Below w.heap.size w w' := by
  obtain ⟨ad, cap, rfl, hc, _, _⟩ := hv.shape
  obtain ⟨bd, cbp, rfl, hc', _, _⟩ := hu.shape
  by_cases hl : xs.length = ys.length
  · have hu2 : Own w 1 (.slice bd xs.length cbp) xs.length (ys.map iv) := by rw [hl]; exact hu
    rw [← hl]
    have HL := Lib.hid hl
    clear hl hu
    go_enter Try.func40, Try.ntmps40
    go_wp2
    go_loopw [13] (fun i wr => ∃ k : Nat, k ≤ xs.length ∧ i = .int .i64 k ∧ xs.take k = ys.take k ∧ Below w.heap.size w wr) (fun i _ => xs.length - (intOf i).toNat)
    case atStart => exact ⟨0, Nat.zero_le _, rfl, by simp, Below.refl _ _⟩
    case round =>
      obtain ⟨k, hk, rfl, he, hbr⟩ := hrel
      have HE := Lib.hid he
      clear he
      by_cases hlt : k < xs.length
      · have hlt2 : k < ys.length := by have := HL.out; omega
        obtain ⟨b, off, rfl, hbl, hcell, _⟩ := hv.at (by omega)
        obtain ⟨b', off', rfl, hbl', hcell', _⟩ := hu2.at (by omega)
        have hk1 := hcell k (by omega)
        have hk2 := hcell' k (by omega)
        rw [List.getElem?_map, List.getElem?_eq_getElem hlt] at hk1
        rw [List.getElem?_map, List.getElem?_eq_getElem hlt2] at hk2
        have hc1 := (hbr.cell (p := ⟨b, off + k, none⟩) hbl).trans hk1
        have hc2 := (hbr.cell (p := ⟨b', off' + k, none⟩) hbl').trans hk2
        clear hv hu2 hcell hcell' hk1 hk2
        by_cases hx : xs[k] = ys[k]
        · have hq : ((xs[k] : Int) != ys[k]) = false := by simp [hx]
          have HX := Lib.hid hx
          clear hx
          go_wp2
          go_quiet (fail)
          go_wp2
          go_roundw
          case rel => exact ⟨k + 1, by omega, by go_num, eq_take_succ xs ys k HL.out hlt HE.out HX.out, hbr.drewN _⟩
          case measure => simp [intOf] <;> omega
        · have hq : ((xs[k] : Int) != ys[k]) = true := by simp [hx]
          have HX := Lib.hid hx
          clear hx
          go_wp2
          go_quiet (fail)
          go_wp2
          go_ret
          exact ⟨by rw [show decide (xs = ys) = false from decide_eq_false fun e => HX.out (by simp [e])]; rfl, hbr.drewN _⟩
      · obtain rfl : k = xs.length := by omega
        clear hv hu2
        go_wp2
        go_ret
        have h := HE.out
        rw [List.take_length, HL.out, List.take_length] at h
        exact ⟨by rw [show decide (xs = ys) = true from decide_eq_true h]; rfl, hbr⟩
  · have hq : (((xs.length : Nat) : Int) != (ys.length : Int)) = true := by simp; omega
    have HL := Lib.hid hl
    clear hl
    go_enter Try.func40, Try.ntmps40
    go_wp2
    go_ret
    exact ⟨by rw [show decide (xs = ys) = false from decide_eq_false fun e => HL.out (by rw [e])]; rfl, Below.refl _ _⟩

/-- the closure that looks for a place in a row -/
theorem placeIn_any (b : Nat) (v : Value) (xs : List Int) (p : Int) (w : World) (hv : OwnI w v xs) (hn : xs.length ≤ 1048576) (hb : w.cell? ⟨b, 0, none⟩ = some (.int .i64 p)) (hp : 0 ≤ p ∧ p < 100) :
    Calls Try.prog 44 #[v, .pointer (some ⟨b, 0, none⟩)] w fun e w' => e = .returned (.bool (decide ((p + 1) ∈ xs))) ∧ Below w.heap.size w w' := by
  have c := slContainsQ_any v xs (p + 1) w hv hn
  obtain ⟨D, hD⟩ : ∃ D, decide ((p + 1) ∈ xs) = D := ⟨_, rfl⟩
  rw [hD] at c ⊢
  have h0 := hp.1
  have h1 := hp.2
  have hw : IntKind.i64.wrap (p + 1) = p + 1 := IntWalk.i64_in _ (by omega)
  clear hD hp
  go_enter Try.func44, Try.ntmps44
  go_wp2_with fail
  refine c.mono ?_
  rintro e w1 ⟨rfl, hb1⟩
  clear c
  go_wp2
  go_ret
  exact ⟨rfl, hb1⟩

set_option maxHeartbeats 1600000 in
set_option maxRecDepth 100000 in
/-- slices.IndexFunc over it: the row in which the place is -/
theorem idxRow_any (b : Nat) (v : Value) (hs : List Value) (P : List (List Int)) (p : Nat) (w : World) (B N : Nat) (hv : SS w B N v hs P) (hN : N ≤ w.heap.size) (hl : P.length ≤ 9) (hr : Hid (∀ r ∈ P, r.length ≤ 9)) (hb : w.cell? ⟨b, 0, none⟩ = some (.int .i64 (p : Int))) (hbw : b < w.heap.size) (hp : p < 100)
    (hin : rowP P ((p + 1 : Nat) : Int) < P.length) :
    Calls Try.prog 43 #[v, .func (Fn.func 44) #[] #[.pointer (some ⟨b, 0, none⟩)]] w fun e w' => e = .returned (.int .i64 (rowP P ((p + 1 : Nat) : Int) : Nat)) ∧ Below w.heap.size w w' := by
  obtain ⟨ad, cap, rfl, hcc, _, _⟩ := hv.own.shape
  have HV := Lib.hid hv
  obtain ⟨m, hm⟩ : ∃ m, P.length = m := ⟨_, rfl⟩
  have HM := Lib.hid hm
  have HL := Lib.hid (show hs.length = m by rw [hv.len]; exact hm)
  obtain ⟨k, hk⟩ : ∃ k, rowP P ((p + 1 : Nat) : Int) = k := ⟨_, rfl⟩
  have HK := Lib.hid hk
  rw [hm, hk] at hin
  rw [hm] at hl
  rw [HL.out] at hcc ⊢
  rw [HL.out] at HV
  rw [hk]
  have HIN := Lib.hid hin
  clear hv hm hk hin
  go_enter Try.func43, Try.ntmps43
  go_wp2
  go_loopw [5, 8] (fun _ jv wi => ∃ j : Nat, j ≤ k ∧ jv = .int .i64 j ∧ Below w.heap.size w wi) (fun _ jv _ => m - (intOf jv).toNat)
  case atStart => exact ⟨0, Nat.zero_le _, rfl, Below.refl _ _⟩
  case round =>
    obtain ⟨j, hj, rfl, hbr⟩ := hrel
    have hjm : j < m := by have := HIN.out; omega
    have hjm' : (j : Int) < (m : Int) := by omega
    have hjP : j < P.length := by rw [HM.out]; exact hjm
    have hVR := HV.out.below hbr hN
    obtain ⟨u, hu⟩ : ∃ u, hs[j]? = some u := ⟨_, List.getElem?_eq_getElem (by rw [HL.out]; exact hjm)⟩
    have hrow := (hVR.row j u _ hu (List.getElem?_eq_getElem hjP)).1
    have hown0 := hVR.own
    rw [HL.out] at hown0
    obtain ⟨g, off, hadd, hgl, hcc0, _⟩ := hown0.at (by omega)
    subst hadd
    have hck := (hcc0 j (by omega)).trans hu
    have hcb := (hbr.cell (p := ⟨b, 0, none⟩) hbw).trans hb
    have hr9 := hr.out _ (List.getElem_mem hjP)
    obtain ⟨q, hqe⟩ : ∃ q, P[j] = q := ⟨_, rfl⟩
    have HQ := Lib.hid hqe
    rw [hqe] at hrow hr9
    obtain ⟨ua, uc, rfl, _, _, _⟩ := hrow.shape
    have CP := Lib.hid (placeIn_any b _ q (p : Int) wr hrow (by omega) hcb ⟨by omega, by omega⟩)
    have hsz := hbr.size
    clear hu hrow hVR hown0 hcc0 hqe
    by_cases hjk : j < k
    · have hno : decide (((p : Int) + 1) ∈ q) = false := by
        have h1 : rowP P ((p + 1 : Nat) : Int) = k := HK.out
        have h2 := List.not_of_lt_findIdx (p := fun b : List Int => b.contains ((p + 1 : Nat) : Int)) (xs := P) (i := j) (by rw [show P.findIdx _ = k from h1]; exact hjk)
        rw [HQ.out] at h2
        rw [decide_eq_false_iff_not]
        intro hm
        have h3 : q.contains ((p + 1 : Nat) : Int) = true := by rw [List.contains_iff_mem]; exact_mod_cast hm
        rw [h2] at h3
        cases h3
      rw [hno] at CP
      clear hno
      go_wp2_with fail
      refine CP.out.mono ?_
      rintro e w2 ⟨rfl, hb2⟩
      have hB2 := hbr.trans (hb2.mono hsz)
      clear hb2 hbr CP
      go_wp2
      go_roundw
      case rel => exact ⟨j + 1, by omega, by go_num, hB2⟩
      case measure => simp [intOf] <;> omega
    · obtain rfl : j = k := by omega
      have hyes : decide (((p : Int) + 1) ∈ q) = true := by
        have h1 : rowP P ((p + 1 : Nat) : Int) = j := HK.out
        have h2 := List.findIdx_getElem (p := fun b : List Int => b.contains ((p + 1 : Nat) : Int)) (xs := P) (w := by rw [show P.findIdx _ = j from h1]; exact hjP)
        have h3 : P.findIdx (fun b : List Int => b.contains ((p + 1 : Nat) : Int)) = j := h1
        simp only [h3, HQ.out, List.contains_iff_mem] at h2
        rw [decide_eq_true_iff]
        simpa using h2
      rw [hyes] at CP
      clear hyes
      go_wp2_with fail
      refine CP.out.mono ?_
      rintro e w2 ⟨rfl, hb2⟩
      have hB2 := hbr.trans (hb2.mono hsz)
      clear hb2 hbr CP
      go_wp2
      go_ret
      exact ⟨rfl, hB2⟩

end Go.Proofs.Ytfcbaegkppkfkaa

namespace Go.Proofs.Ytfcbaegkppkfkaa
open Go Go.RowKit Go.Pan

theorem okSR_no1 {R P : List (List Int)} (h : mAreRows R = false) : okSR R P = false := by unfold okSR; rw [h]; rfl
theorem okSR_no2 {R P : List (List Int)} (h : mAreRows P = false) : okSR R P = false := by unfold okSR; rw [h, Bool.false_and, Bool.and_false]
theorem okSR_no3 {R P : List (List Int)} (h : decide (lensL R = lensL P) = false) : okSR R P = false := by unfold okSR; rw [h, Bool.and_false, Bool.and_false]
theorem okSR_yes {R P : List (List Int)} (h1 : mAreRows R = true) (h2 : mAreRows P = true) (h3 : decide (lensL R = lensL P) = true) : okSR R P = true := by unfold okSR; rw [h1, h2, h3]; rfl
theorem mSR_no {R P : List (List Int)} (h : okSR R P = false) : mStackOfRows R P = [] := by unfold mStackOfRows; rw [if_neg (by rw [h]; exact Bool.false_ne_true)]

set_option maxHeartbeats 8000000 in
set_option maxRecDepth 100000 in
theorem StackOfRows_any (v vp : Value) (hs hp : List Value) (R P : List (List Int)) (w : World) (B N B' N' : Nat) (hv : SS w B N v hs R) (hN : N ≤ w.heap.size) (hvp : SS w B' N' vp hp P) (hN' : N' ≤ w.heap.size)
    (ht : R.length + pre R R.length ≤ 1048576) (ht' : P.length + pre P P.length ≤ 1048576) :
    Calls Try.prog 26 #[v, vp] w fun e w' => ∃ r, e = .returned (.tuple #[r, .bool (okSR R P)]) ∧ OwnI w' r (mStackOfRows R P) ∧ From w.heap.size r ∧ Below w.heap.size w w' := by
  have c1 := AreRows_any v B N hs R w hv hN ht
  have HV := Lib.hid hv
  have HVP := Lib.hid hvp
  have HT' := Lib.hid ht'
  clear hv hvp
  cases ha : mAreRows R with
  | false =>
    have HNO := Lib.hid (okSR_no1 (P := P) ha)
    rw [ha] at c1
    clear ha
    go_enter Try.func26, Try.ntmps26
    go_wp2_with fail
    refine (c1).mono ?_
    rintro e w1 ⟨rfl, hb1⟩
    clear c1
    go_wp2
    go_ret2
    exact ⟨_, by rw [HNO.out]; rfl, by rw [mSR_no HNO.out]; exact OwnI.nil _, From.nil _ _ _, hb1⟩
  | true =>
    rw [ha] at c1
    cases hp1 : mAreRows P with
    | false =>
      have HNO := Lib.hid (okSR_no2 (R := R) hp1)
      have HP1 := Lib.hid hp1
      clear ha hp1
      go_enter Try.func26, Try.ntmps26
      go_wp2_with fail
      refine (c1).mono ?_
      rintro e w1 ⟨rfl, hb1⟩
      have c2 := AreRows_any vp B' N' hp P w1 (HVP.out.below hb1 hN') (Nat.le_trans hN' hb1.size) HT'.out
      rw [HP1.out] at c2
      clear c1
      go_wp2_with fail
      refine (c2).mono ?_
      rintro e w2 ⟨rfl, hb2⟩
      have hB2 := hb1.trans (hb2.mono hb1.size)
      clear c2
      go_wp2
      go_ret2
      exact ⟨_, by rw [HNO.out]; rfl, by rw [mSR_no HNO.out]; exact OwnI.nil _, From.nil _ _ _, hB2⟩
    | true =>
      have TR := Lib.hid (tab_of ha)
      have TP := Lib.hid (tab_of hp1)
      have HA := Lib.hid ha
      have HP1 := Lib.hid hp1
      have hnr : R.length ≤ 1048576 := by omega
      have hnp : P.length ≤ 1048576 := by omega
      clear ha hp1
      cases hl : decide (lensL R = lensL P) with
      | false =>
        have HNO := Lib.hid (okSR_no3 hl)
        have HL := Lib.hid hl
        clear hl
        go_enter Try.func26, Try.ntmps26
        go_wp2_with fail
        refine (c1).mono ?_
        rintro e w1 ⟨rfl, hb1⟩
        have c2 := AreRows_any vp B' N' hp P w1 (HVP.out.below hb1 hN') (Nat.le_trans hN' hb1.size) HT'.out
        rw [HP1.out] at c2
        clear c1
        go_wp2_with fail
        refine (c2).mono ?_
        rintro e w2 ⟨rfl, hb2⟩
        have hB2 := hb1.trans (hb2.mono hb1.size)
        have hz2 := hB2.size
        clear c2 hb1 hb2
        go_wp2_with fail
        refine (lengthsOf_any v B N hs R w2 (HV.out.below hB2 hN) (by omega) hnr).mono ?_
        rintro e w3 ⟨r3, rfl, ho3, hf3, hb3⟩
        have hB3 := hB2.trans (hb3.mono hz2)
        have hz3 := hB3.size
        go_wp2_with fail
        refine (lengthsOf_any vp B' N' hp P w3 (HVP.out.below hB3 hN') (by omega) hnp).mono ?_
        rintro e w4 ⟨r4, rfl, ho4, hf4, hb4⟩
        have hB4 := hB3.trans (hb4.mono hz3)
        have ho34 := ho3.same hb4
        have c5 := SlEqualQ_any r3 r4 (lensL R) (lensL P) w4 ho34 (by rw [lensL_length]; omega) ho4 (by rw [lensL_length]; omega)
        rw [HL.out] at c5
        clear ho3 hf3 hb3 ho4 hf4 hb4 ho34
        go_wp2_with fail
        refine (c5).mono ?_
        rintro e w5 ⟨rfl, hb5⟩
        have hB5 := hB4.trans (hb5.mono hB4.size)
        clear c5 hb5
        go_wp2
        go_ret2
        exact ⟨_, by rw [HNO.out]; rfl, by rw [mSR_no HNO.out]; exact OwnI.nil _, From.nil _ _ _, hB5⟩
      | true =>
        have HYES := Lib.hid (okSR_yes HA.out HP1.out hl)
        have HL := Lib.hid hl
        have HLL := Lib.hid (of_decide_eq_true hl)
        have hgR := TR.out.good
        have hgP := TP.out.good
        have hlen : R.flatten.length = P.flatten.length := by
          have e : ∀ X : List (List Int), (lensL X).sum = (X.flatten.length : Int) := fun X => by
            induction X with
            | nil => rfl
            | cons x X ih => simp only [lensL, List.map_cons, List.sum_cons, List.flatten_cons, List.length_append] at ih ⊢; rw [ih]; push_cast; rfl
          have := e R
          rw [HLL.out, e P] at this
          omega
        have HPL := Lib.hid (show pre R R.length = P.flatten.length by rw [← flat_len, hlen])
        obtain ⟨n, hn⟩ : ∃ n, P.flatten.length = n := ⟨_, rfl⟩
        have HN1 := Lib.hid hn
        have HNR := Lib.hid (hlen.trans hn)
        have hn9 : n ≤ 9 := by rw [← hn]; exact hgP.2.1
        have hn1 : 1 ≤ n := by rw [← hn]; exact hgP.1
        have HRows := Lib.hid (show ∀ q ∈ R, 1 ≤ q.length ∧ q.length ≤ 9 from fun q hq => ⟨TR.out.full q hq, by
          have h1 := hgR.2.1
          obtain ⟨i, hi, rfl⟩ := List.getElem_of_mem hq
          have h2 := row_le_all R i hi
          rw [flat_len] at h1
          omega⟩)
        have HPr := Lib.hid (show ∀ r ∈ P, r.length ≤ 9 from fun q hq => by
          have h1 := hgP.2.1
          obtain ⟨i, hi, rfl⟩ := List.getElem_of_mem hq
          have h2 := row_le_all P i hi
          rw [flat_len] at h1
          omega)
        have hp9 := TP.out.few.2
        have hR9 := TR.out.few.2
        have hpre9 : pre R R.length ≤ 1048576 := by omega
        have hmf : ∀ (fn : Fn) (first cap : Array Value) (w : World), (Instr.makeFunc fn first cap).run Try.prog w = .ok (.func fn first cap) w := fun _ _ _ _ => rfl
        obtain ⟨i0, hi, hz0, hz1, hz2⟩ := info_parts Try.info3
        have HI := Lib.hid hi
        have HZ0 := Lib.hid hz0
        have HZ1 := Lib.hid hz1
        have HZ2 := Lib.hid hz2
        clear hl hgR hgP hlen hn hi hz0 hz1 hz2
        go_enter Try.func26, Try.ntmps26
        go_wp2_with fail
        refine (c1).mono ?_
        rintro e w1 ⟨rfl, hb1⟩
        have c2 := AreRows_any vp B' N' hp P w1 (HVP.out.below hb1 hN') (Nat.le_trans hN' hb1.size) HT'.out
        rw [HP1.out] at c2
        clear c1
        go_wp2_with fail
        refine (c2).mono ?_
        rintro e w2 ⟨rfl, hb2⟩
        have hB2 := hb1.trans (hb2.mono hb1.size)
        have hz2 := hB2.size
        clear c2 hb1 hb2
        go_wp2_with fail
        refine (lengthsOf_any v B N hs R w2 (HV.out.below hB2 hN) (by omega) hnr).mono ?_
        rintro e w3 ⟨r3, rfl, ho3, hf3, hb3⟩
        have hB3 := hB2.trans (hb3.mono hz2)
        have hz3 := hB3.size
        go_wp2_with fail
        refine (lengthsOf_any vp B' N' hp P w3 (HVP.out.below hB3 hN') (by omega) hnp).mono ?_
        rintro e w4 ⟨r4, rfl, ho4, hf4, hb4⟩
        have hB4 := hB3.trans (hb4.mono hz3)
        have ho34 := ho3.same hb4
        have c5 := SlEqualQ_any r3 r4 (lensL R) (lensL P) w4 ho34 (by rw [lensL_length]; omega) ho4 (by rw [lensL_length]; omega)
        rw [HL.out] at c5
        clear ho3 hf3 hb3 ho4 hf4 hb4 ho34
        go_wp2_with fail
        refine (c5).mono ?_
        rintro e w5 ⟨rfl, hb5⟩
        have hB5 := hB4.trans (hb5.mono hB4.size)
        have hz5 := hB5.size
        clear c5 hb5
        go_wp2_with fail
        refine (copiesB_any v hs R w5 B N (HV.out.below hB5 hN) (by omega) HRows hnr).mono ?_
        rintro e w6 ⟨hs6, rfl, hS6, hK6, hb6⟩
        have hB6 := hB5.trans (hb6.mono hz5)
        have hz6 := hB6.size
        have hz56 := hb6.size
        have HS6 := Lib.hid (show S2 w6 w5.heap.size 22 (.slice (some ⟨w5.heap.size, 0, none⟩) R.length R.length) hs6 (backT R P n 0) (.slice none 0 0) [] [] from ⟨hS6, SS.nil _ _ _, ownsRow_ofBlkR (hs := hs6) hK6 (Nat.le_refl _) hS6.len (Nat.le_refl _) (by unfold maxLen; omega) hS6.len (by rw [List.take_of_length_le (by rw [hS6.len]; exact Nat.le_refl _)]), World.ownsRow_nil _ _ _ _, fun g _ h2 => by rcases h2 with h2 | ⟨i, u, hi, _⟩ <;> simp [Value.ownBlock] at *⟩)
        have hV6 := HV.out.below hB6 hN
        have HB6 := Lib.hid hB6
        clear hS6 hb6 hK6 hB2 hB3 hB4 hB5 hB6 hz2 hz3
        go_wp2_with fail
        refine (Concat_any v hs R w6 hV6.own (Lib.hid hV6.len) (Lib.hid (fun i u xs hu hx => (hV6.row i u xs hu hx).1)) (by omega) hpre9).mono ?_
        rintro e w7 ⟨r7, rfl, ho7, hf7, hb7⟩
        have hB7 := HB6.out.trans (hb7.mono hz6)
        have hz7 := hb7.size
        have HS7 := Lib.hid (HS6.out.below hb7)
        obtain ⟨a7, c7, rfl, _, _, _⟩ := ho7.shape
        rw [HNR.out]
        clear hV6 hb7 hf7 ho7 HS6 HB6
        go_wp2_with (at_make; refine wpList_make_full _ rfl _ _ 22 rfl w7.heap.size 3 i0 (.int .i64 0) 1 Try.underlying22 HI.out HZ0.out HZ1.out _ _ _ _ n rfl rfl rfl rfl ?b1 ?b2 ?b3 ?_)
        case b1 => rw [HZ2.out]; omega
        case b2 => unfold maxLen; omega
        case b3 => exact Nat.le_refl _
        intro w8 hown hgr
        have hb8 : Below w7.heap.size w7 w8 := (Below.refl _ _).grown hgr (Nat.le_refl _) (by intro k hk; cases hk)
        have h0 : w8.ownsRow w7.heap.size 3 1 (.slice (some ⟨w7.heap.size, 0, none⟩) n n) n ((partS R P n 0).map iv) := by rw [partS_zero]; simpa [toList_madeCells_one] using hown
        obtain ⟨hk8, hr8⟩ := Blk.of_row hown
        have hz8 := hk8.lt
        have HO8 := Lib.hid (show OwnI w8 (.slice (some ⟨w7.heap.size, 0, none⟩) n n) (partS R P n 0) by have := (Own.of_row h0).1; show Own w8 1 _ (partS R P n 0).length _; rw [partS_length]; exact this)
        have HS8 := Lib.hid (HS7.out.below hb8)
        have HF8 := Lib.hid (show ¬ Ft (.slice (some ⟨w5.heap.size, 0, none⟩) R.length R.length) hs6 w7.heap.size from fun h => by have := (HS7.out.r.ft h).2; omega)
        have hB8 := hB7.trans (hb8.mono hB7.size)
        have hnz : 0 ≤ (n : Int) - 1 := by omega
        have hz78 := hB7.size
        obtain ⟨gs, hgs⟩ : ∃ gs, w7.heap.size = gs := ⟨_, rfl⟩
        obtain ⟨gl, hgl⟩ : ∃ gl, w5.heap.size = gl := ⟨_, rfl⟩
        have HG1 := Lib.hid (show w.heap.size ≤ gs by omega)
        have HG1B := Lib.hid (show w.heap.size ≤ gl by omega)
        rw [hgs] at HO8 HF8 hz8 ⊢
        rw [hgl] at HS8 HF8 ⊢
        clear hb8 h0 hk8 hr8 hown hgr HS7 hB7 hz7 hgs hgl hz78
        go_wp2
        go_loopg [8, 9] n (fun gk pv _ wi => ∃ (q b : Nat) (hR' : List Value), q ≤ n ∧ n - q ≤ gk ∧ pv = .pointer (some ⟨b, 0, none⟩) ∧ Blk wi b 3 [iv ((n : Int) - 1 - q)] ∧ Hid (S2 wi gl 22 (.slice (some ⟨gl, 0, none⟩) R.length R.length) hR' (backT R P n q) (.slice none 0 0) [] []) ∧ Hid (OwnI wi (.slice (some ⟨gs, 0, none⟩) n n) (partS R P n q)) ∧ Hid (¬ Ft (.slice (some ⟨gl, 0, none⟩) R.length R.length) hR' gs ∧ ¬ Ft (.slice (some ⟨gl, 0, none⟩) R.length R.length) hR' b ∧ gs ≠ b ∧ w.heap.size ≤ b) ∧ Below w.heap.size w wi)
        case atStart => exact ⟨0, w8.heap.size, hs6, Nat.zero_le _, by omega, rfl, by simpa using Blk.new w8 3 [iv ((n : Int) - 1)] _ rfl, Lib.hid (HS8.out.below (below_new w8 _)), Lib.hid (HO8.out.alloc _), Lib.hid ⟨HF8.out, fun h => by have := (HS8.out.r.ft h).2; omega, by omega, hB8.size⟩, hB8.alloc hB8.size _⟩
        case round =>
          obtain ⟨q, b, hR', hqn, hgk, rfl, hbk, hS, hO, hF, hbr⟩ := hrel
          clear HS8 HO8 HF8 hB8
          by_cases hq : q < n
          · obtain ⟨i, hi⟩ : ∃ i : Nat, n - q = i + 1 := ⟨n - q - 1, by omega⟩
            have hie : (n : Int) - 1 - (q : Int) = (i : Int) := by omega
            rw [hie] at hbk
            have hcb : wr.cell? ⟨b, 0, none⟩ = some (.int .i64 (i : Int)) := hbk.cell 0
            have hbl := hbk.lt
            have hi0 : (0 : Int) ≤ (i : Int) := by omega
            have hin : (i : Int) < (n : Int) := by omega
            have hjb := backT_ok TR.out TP.out HLL.out q (by rw [HN1.out]; exact hqn)
            rw [HN1.out, hi] at hjb
            have hin1 : i + 1 ≤ P.flatten.length := by rw [HN1.out]; omega
            have hrp := (rowP_in TP.out.good (show 1 ≤ i + 1 by omega) hin1).1
            have hrk := hjb.row_k TP.out hin1
            have hup := hjb.up TP.out hin1
            obtain ⟨T, hT⟩ : ∃ T, backT R P n q = T := ⟨_, rfl⟩
            have HV1 := Lib.hid (show outV R P n q = (outR T (rowP P ((i + 1 : Nat) : Int))).2 by unfold outV; rw [hi, hT])
            have HT1 := Lib.hid (show backT R P n (q + 1) = (outR T (rowP P ((i + 1 : Nat) : Int))).1 by show (outR (backT R P n q) (rowP P ((n - q : Nat) : Int))).1 = _; rw [hi, hT])
            rw [hT] at hjb hrk hup hS
            have HR9 := Lib.hid (show ∀ a, (T.getD a []).length ≤ 9 from fun a => by
              rw [hjb.row a]
              refine Nat.le_trans (hitP_le _ _) ?_
              rcases Nat.lt_or_ge a P.length with ha | ha
              · rw [getD_atL ha]; exact HPr.out _ (List.getElem_mem ha)
              · rw [List.getD_eq_getElem?_getD, List.getElem?_eq_none ha]; simp)
            have HTL := Lib.hid hjb.len
            have HIX := Lib.hid (idxRow_any b vp hp P i wr B' N' (HVP.out.below hbr hN') (by have := hbr.size; omega) hp9 HPr hcb hbl (by omega) hrp)
            obtain ⟨k, hk⟩ : ∃ k, rowP P ((i + 1 : Nat) : Int) = k := ⟨_, rfl⟩
            rw [hk] at hrk hup HV1 HT1 HIX
            have HUP := Lib.hid hup
            have HRK := Lib.hid (show 0 < (T.getD k []).length by omega)
            have hbz := hbr.size
            clear hie hjb hrp hrk hup hT hk hin1
            go_wp2_with fail
            refine HIX.out.mono ?_
            rintro e w2 ⟨rfl, hb2⟩
            have hS2 := hS.out.below hb2
            have hO2 := hO.out.below hb2 (Nat.le_refl _)
            have hbk2 := hbk.below hb2 hbl
            have hcb2 : w2.cell? ⟨b, 0, none⟩ = some (.int .i64 (i : Int)) := hbk2.cell 0
            have hB2 := hbr.trans (hb2.mono hbz)
            have HS2 := Lib.hid (hS2.below ((Below.refl w2.heap.size w2).drew))
            have HO2 := Lib.hid hO2.drew
            have HBK2 := Lib.hid hbk2
            have HB2 := Lib.hid hB2.drew
            clear hS2 hO2 hbk2 hbk hbr hb2 HIX
            go_wp2_with fail
            refine wp_region_held_drew (S := (fun w' => w'.cell? ⟨b, 0, none⟩ = some (.int .i64 (i : Int)))) (by kernel_rfl) (hcb2) (fun hHeld => ?_)
            refine wpAnyH_take (i := 0) (v := ?_) rfl (by kernel_rfl) (by kernel_rfl) (by kernel_rfl) (fun _ _ _ h => h) (Or.inl ⟨by rfl, ?_⟩) (by assumption) ?_
            rotate_left
            · intro w _; go_simp; with_reducible rfl
            try simp only [List.getElem_toArray, List.getElem_cons_zero, Act.put, List.setIfInBounds_toArray, List.set_cons_zero, List.set_cons_succ]
            refine wpAnyH_take (i := 1) (v := ?_) rfl (by kernel_rfl) (by kernel_rfl) (by kernel_rfl) (fun _ _ _ h => h) (Or.inl ⟨by rfl, ?_⟩) (by assumption) ?_
            rotate_left
            · intro w hSw; (try dsimp only at hSw); (go_simp <;> with_reducible rfl)
            try simp only [List.getElem_toArray, List.getElem_cons_zero, List.getElem_cons_succ, Act.put, List.setIfInBounds_toArray, List.set_cons_zero, List.set_cons_succ]
            refine wpAnyH_take (i := 2) (v := ?_) rfl (by kernel_rfl) (by kernel_rfl) (by kernel_rfl) (fun _ _ _ h => h) (Or.inl ⟨by rfl, ?_⟩) (by assumption) ?_
            rotate_left
            · intro w _; go_simp; with_reducible rfl
            try simp only [List.getElem_toArray, List.getElem_cons_zero, List.getElem_cons_succ, Act.put, List.setIfInBounds_toArray, List.set_cons_zero, List.set_cons_succ]
            refine wpAnyH_take (i := 3) (v := ?_) rfl (by kernel_rfl) (by kernel_rfl) (by kernel_rfl) (fun _ _ _ h => h) (Or.inl ⟨by rfl, ?_⟩) (by assumption) ?_
            rotate_left
            · intro w _; go_simp; with_reducible rfl
            try simp only [List.getElem_toArray, List.getElem_cons_zero, List.getElem_cons_succ, Act.put, List.setIfInBounds_toArray, List.set_cons_zero, List.set_cons_succ]
            refine wpAnyH_ready (rs := [4]) (by kernel_rfl) (by simp) ?_
            refine AllReadyH.cons rfl (fun K hK => ?_) AllReadyH.nil
            go_simp
            refine (outOf_any gl R.length R.length hR' T k w2.drew gl HS2.out (Nat.le_of_lt (HS2.out.r.inn gl rfl).2) HTL.out hR9 HRK.out HR9.out HUP.out).mono ?_
            rintro e w5 ⟨hR2, rfl, hS5, hb5, hk5, hf5⟩
            go_wp2_with fail
            refine hK.out _ _ ((World.cell?_of_block (hk5 b (by have := HBK2.out.lt; exact this) hF.out.2.1)).trans hHeld) (fun hHeld => ?_)
            clear hK K
            try simp only [List.getElem_toArray, List.getElem_cons_zero, List.getElem_cons_succ, Act.put, List.setIfInBounds_toArray, List.set_cons_zero, List.set_cons_succ]
            have hbs : b < w2.drew.heap.size := HBK2.out.lt
            have hgsl : gs < w2.drew.heap.size := HO2.out.lt gs rfl
            have hbk5 : Blk w5 b 3 [iv (i : Int)] := by
              have := HBK2.out
              unfold Blk at this ⊢
              rw [hk5 b hbs hF.out.2.1]
              exact this
            have hO5 : OwnI w5 (.slice (some ⟨gs, 0, none⟩) n n) (partS R P n q) := HO2.out.kept fun g hg => by
              have e : gs = g := by simpa [Value.ownBlock] using hg
              subst e
              exact hk5 gs hgsl hF.out.1
            have h5 : Own w5 1 (.slice (some ⟨gs, 0, none⟩) n n) (partS R P n q).length ((partS R P n q).map iv) := hO5
            rw [partS_length] at h5
            obtain ⟨gg, oo, he, hgl5, hcs5, hfs5⟩ := Own.at h5 (by omega)
            simp only [Option.some.injEq, Addr.mk.injEq, and_true] at he
            obtain ⟨rfl, rfl⟩ := he
            have hd := hcs5 i (by omega)
            rw [List.getElem?_map, List.getElem?_eq_getElem (by rw [partS_length]; omega)] at hd
            have hbz5 := hb5.size
            have hpt := OwnI.put hO5 (j := i) (by rw [partS_length]; omega) (outR T k).2
            rw [Nat.zero_add] at hd hpt
            have hni : n - 1 - q = i := by omega
            have hps := partS_succ R P hq
            rw [hni, HV1.out] at hps
            rw [hps] at hpt
            have hs9 := S2.other (w' := w5.setCell ⟨gs, i, none⟩ (iv (outR T k).2)) hS5 (by simp) (fun g hg => heap_setCell_other w5 ⟨gs, i, none⟩ g _ (fun e => by
              rcases hg with hg | hg
              · rw [e] at hg; exact hF.out.1 (hf5 _ hg)
              · rcases hg with hg | ⟨j, u, hj, _⟩ <;> simp [Value.ownBlock] at *))
            rw [← HT1.out] at hs9
            have hbk9 := hbk5.other (a := ⟨gs, i, none⟩) (fun e => hF.out.2.2.1 e.symm) (iv (outR T k).2)
            have hB9 := ((HB2.out.trans (hb5.mono HG1B.out)).setCell (p := ⟨gs, i, none⟩) HG1.out (iv (outR T k).2))
            refine wpAnyH_take (i := 5) (v := ?_) rfl (by kernel_rfl) (by kernel_rfl) (by kernel_rfl) (fun _ _ _ h => h) (Or.inl ⟨by rfl, ?_⟩) (by assumption) ?_
            rotate_left
            · intro w _; go_simp; with_reducible rfl
            try simp only [List.getElem_toArray, List.getElem_cons_zero, List.getElem_cons_succ, Act.put, List.setIfInBounds_toArray, List.set_cons_zero, List.set_cons_succ]
            refine wpAnyH_ready (rs := [6]) (by kernel_rfl) (by simp) ?_
            refine AllReadyH.cons rfl (fun K hK => ?_) AllReadyH.nil
            go_simp
            refine hK.out _ _ (hbk9.cell 0) (fun _ => ?_)
            clear hK K
            try simp only [List.getElem_toArray, List.getElem_cons_zero, List.getElem_cons_succ, Act.put, List.setIfInBounds_toArray, List.set_cons_zero, List.set_cons_succ]
            refine wpAnyH_done (by kernel_rfl) ?_ _
            have HS9 := Lib.hid hs9
            have HO9 := Lib.hid hpt
            have HF9 := Lib.hid (show ¬ Ft (.slice (some ⟨gl, 0, none⟩) R.length R.length) hR2 gs from fun h => hF.out.1 (hf5 _ h))
            have hcb9 : (w5.setCell ⟨gs, i, none⟩ (iv (outR T k).2)).cell? ⟨b, 0, none⟩ = some (.int .i64 (i : Int)) := hbk9.cell 0
            obtain ⟨w9, hw9⟩ : ∃ w9, w5.setCell ⟨gs, i, none⟩ (iv (outR T k).2) = w9 := ⟨_, rfl⟩
            rw [hw9] at HS9 HO9 hcb9 hB9 ⊢
            have HB9 := Lib.hid hB9
            clear hHeld hbs hgsl hbk5 hO5 h5 hgl5 hcs5 hfs5 hd hbz5 hpt hni hps hs9 hbk9 hB9 hw9 hS5 hb5 hk5 hf5 hS hO HS2 HO2 HBK2 HB2 HUP HRK HR9 HTL HT1 HV1
            go_wp2
            go_roundg (gk - 1)
            case measure => omega
            case rel =>
              have hs10 := HS9.out.below (below_new w9 (.cells #[.int .i64 ((i : Int) - 1)] 3))
              exact ⟨q + 1, w9.heap.size, hR2, by omega, by omega, rfl, by
                have e : (n : Int) - 1 - ((q + 1 : Nat) : Int) = (i : Int) - 1 := by omega
                rw [e]
                exact Blk.new w9 3 [iv ((i : Int) - 1)] _ rfl, Lib.hid hs10, Lib.hid (HO9.out.alloc _), Lib.hid ⟨HF9.out, fun h => by have := (HS9.out.r.ft h).2; omega, fun e => by have := HO9.out.lt gs rfl; omega, HB9.out.size⟩, HB9.out.alloc HB9.out.size _⟩
          · obtain rfl : q = n := by omega
            have hie : (q : Int) - 1 - (q : Int) = -1 := by omega
            rw [hie] at hbk
            have hcb : wr.cell? ⟨b, 0, none⟩ = some (.int .i64 (-1)) := hbk.cell 0
            have HO := Lib.hid (show OwnI wr (.slice (some ⟨gs, 0, none⟩) q q) (mStackOfRows R P) by
              have e : mStackOfRows R P = partS R P q q := by unfold mStackOfRows; rw [if_pos HYES.out, HPL.out, HN1.out]
              rw [e]
              exact hO.out)
            clear hbk hie hS hO hF
            go_wp2
            go_ret2
            exact ⟨_, by rw [HYES.out]; rfl, HO.out, From.at _ _ _ _ _ HG1.out, hbr⟩

end Go.Proofs.Ytfcbaegkppkfkaa
