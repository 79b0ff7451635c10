import Derived.Test.YtfcbaegkppkfkaaPsA
import Derived.Test.YtfcbaegkppkfkaaS1
import Derived.Test.YtfcbaegkppkfkaaS15
import Derived.BigQuiet
import Derived.Deep.AppendLies
namespace Go.Proofs.Ytfcbaegkppkfkaa
open Go Go.RowKit Go.Pan

theorem grown_of_belowP {w w' : World} (h : Below w.heap.size w w') (row : Option Nat) : w.grownBy w' row := ⟨h.os, h.tape, h.output, h.size, fun k hk _ => h.block k hk⟩

/-- the block of a container, as a list of cells -/
theorem blk_of_owns {w : World} {B g n cap : Nat} {e : TypeId} {xs : List Value} (h : w.ownsRow B e 1 (.slice (some ⟨g, 0, none⟩) n cap) n xs) : ∃ cs, Blk w g e cs := by
  rcases h.2 with ⟨h0, _⟩ | ⟨g', cap', cur, he, _, hh, _⟩
  · cases h0
  · simp only [Value.slice.injEq, Option.some.injEq, Addr.mk.injEq, and_true] at he
    obtain ⟨rfl, _⟩ := he
    exact ⟨cur.toList, hh⟩

theorem owns_of_blkP {w : World} {B g n cap : Nat} {ty : TypeId} {cs hs : List Value} (h : Blk w g ty cs) (hB : B ≤ g) (hn : hs.length = n) (hnc : n ≤ cap) (hcm : cap ≤ maxLen) (hl : cs.length = cap) (ht : cs.take n = hs) : w.ownsRow B ty 1 (.slice (some ⟨g, 0, none⟩) n cap) n hs :=
  ⟨by omega, .inr ⟨g, cap, cs.toArray, rfl, hB, h, hnc, hcm, by simp [hl], by simpa using ht⟩⟩
theorem owns_set {w : World} {B g n cap q : Nat} {e : TypeId} {xs : List Value} (h : w.ownsRow B e 1 (.slice (some ⟨g, 0, none⟩) n cap) n xs) (hq : q < n) (u : Value) : (w.setCell ⟨g, q, none⟩ u).ownsRow B e 1 (.slice (some ⟨g, 0, none⟩) n cap) n (xs.set q u) := by
  obtain ⟨hl, h2⟩ := h
  rcases h2 with ⟨h0, _⟩ | ⟨g', cap', cur, he, hB, hh, hnc, hcm, hsz, ht⟩
  · cases h0
  · simp only [Value.slice.injEq, Option.some.injEq, Addr.mk.injEq, and_true, true_and] at he
    obtain ⟨rfl, rfl⟩ := he
    have hb : Blk w g e cur.toList := hh
    refine owns_of_blkP (hb.set q u) hB (by simp; omega) hnc hcm (by simp; omega) ?_
    rw [← ht, Nat.mul_one, List.take_set]
theorem owns_len {w : World} {B g n cap q : Nat} {e : TypeId} {xs cs : List Value} (h : w.ownsRow B e 1 (.slice (some ⟨g, 0, none⟩) n cap) n xs) (hb : Blk w g e cs) (hq : q < n) : q < cs.length := by
  obtain ⟨_, ⟨h0, _⟩ | ⟨g', cap', cur, he, _, hh, hnc, _, hsz, _⟩⟩ := h
  · cases h0
  · simp only [Value.slice.injEq, Option.some.injEq, Addr.mk.injEq, and_true, true_and] at he
    obtain ⟨rfl, rfl⟩ := he
    have : cs.toArray = cur := by
      have := (show w.heap[g]? = _ from hb).symm.trans hh
      simpa using this
    have h9 : cs.length = cur.size := by rw [← this]; simp
    omega
theorem blk_grownP {w w' : World} {g gu ou n uc nq : Nat} {o : Obj} {e : TypeId} {cs : List Value} (hg : g < w.heap.size) (hne : gu ≠ g) (h : Blk w g e cs) (hgr : ((w.drewN nq).alloc o).grownBy w' (Value.slice (some ⟨gu, ou, none⟩) n uc).ownBlock) : Blk w' g e cs := by
  have h1 := hgr.block g (by rw [show ((w.drewN nq).alloc o).heap.size = w.heap.size + 1 by simp [World.alloc, World.drewN]]; omega) (by simp [Value.ownBlock]; exact fun e => hne e.symm)
  unfold Blk at h ⊢
  rw [h1]
  have : ((w.drewN nq).alloc o).heap[g]? = w.heap[g]? := by
    simp only [World.alloc]
    rw [Array.getElem?_push, if_neg (by show g ≠ w.heap.size; omega)]
    rfl
  rw [this, h]
theorem blk_grownN {w w' : World} {g : Nat} {o : Obj} {e : TypeId} {cs : List Value} (hg : g < w.heap.size) (h : Blk w g e cs) (hgr : (w.alloc o).grownBy w' (Value.slice none 0 0).ownBlock) : Blk w' g e cs := by
  have h1 := hgr.block g (by rw [show (w.alloc o).heap.size = w.heap.size + 1 by simp]; omega) (by intro e; cases e)
  unfold Blk at h ⊢
  rw [h1]
  have : (w.alloc o).heap[g]? = w.heap[g]? := by
    simp only [World.alloc]
    rw [Array.getElem?_push, if_neg (by omega)]
  rw [this, h]
theorem hcell_setP {w : World} {g q : Nat} {e : TypeId} {cs : List Value} (h : Blk w g e cs) (hq : q < cs.length) : w.cell? ⟨g, q, none⟩ = some (cs[q]) := by
  rw [cell_of_row w g q _ _ (0, 0) h]
  simp [hq]
theorem owns_keepP {w w' : World} {B g n cap : Nat} {e : TypeId} {xs cs : List Value} (h : w.ownsRow B e 1 (.slice (some ⟨g, 0, none⟩) n cap) n xs) (hb : Blk w g e cs) (hb' : Blk w' g e cs) : w'.ownsRow B e 1 (.slice (some ⟨g, 0, none⟩) n cap) n xs := by
  obtain ⟨hl, ⟨h0, _⟩ | ⟨g', cap', cur, he, hB, hh, hnc, hcm, hsz, ht⟩⟩ := h
  · cases h0
  · simp only [Value.slice.injEq, Option.some.injEq, Addr.mk.injEq, and_true, true_and] at he
    obtain ⟨rfl, rfl⟩ := he
    have hcc : cs.toArray = cur := by
      have := (show w.heap[g]? = _ from hb).symm.trans hh
      simpa using this
    subst hcc
    exact ⟨hl, .inr ⟨g, cap, cs.toArray, rfl, hB, hb', hnc, hcm, hsz, ht⟩⟩
theorem owns_zero {w : World} {B n cap : Nat} {ad : Option Addr} {e : TypeId} {xs : List Value} (h : w.ownsRow B e 1 (.slice ad n cap) n xs) (hn : 0 < n) : ∃ g, ad = some ⟨g, 0, none⟩ ∧ ∃ cs, Blk w g e cs := by
  rcases h.2 with ⟨h0, _⟩ | ⟨g', cap', cur, he, _, hh, _⟩
  · simp only [Value.slice.injEq] at h0; omega
  · simp only [Value.slice.injEq] at he
    exact ⟨g', he.1, cur.toList, hh⟩
theorem owns_cell {w : World} {B g n cap q : Nat} {e : TypeId} {xs : List Value} (h : w.ownsRow B e 1 (.slice (some ⟨g, 0, none⟩) n cap) n xs) (hq : q < n) : w.cell? ⟨g, q, none⟩ = xs[q]? := by
  obtain ⟨g', o', he, _, hc, _⟩ := Own.at (Own.of_row h).1 (by obtain ⟨_, _, e, h1, _⟩ := (Own.of_row h).1.shape; cases e; omega)
  simp only [Option.some.injEq, Addr.mk.injEq, and_true] at he
  obtain ⟨rfl, rfl⟩ := he
  have := hc q (by omega)
  rwa [Nat.zero_add] at this

set_option maxHeartbeats 8000000 in
set_option maxRecDepth 100000 in
theorem sPilesOf_any (v : Value) (xs : List Int) (w : World) (hv : OwnI w v xs) (hn : xs.length ≤ 1048576) :
    Calls Try.prog 8 #[v] w fun e w' => ∃ r hs, e = .returned (.tuple #[r, .bool (goodB xs)]) ∧ SS w' w.heap.size w'.heap.size r hs (mPilesOf xs) ∧ Below w.heap.size w w' := by
  obtain ⟨ad, cap, rfl, hc, _, _⟩ := hv.shape
  have cg := stGood_any _ _ _ hv hn
  cases hg : goodB xs with
  | true =>
    have HM := Lib.hid (show mPilesOf xs = pilesTo xs xs.length from if_pos hg)
    have h9 := (goodB_iff.1 hg).le9
    rw [hg] at cg
    obtain ⟨i0, hi, hz0, hz1, hz2⟩ := info_parts Try.info22
    have HI := Lib.hid hi
    have HZ0 := Lib.hid hz0
    have HZ1 := Lib.hid hz1
    have HZ2 := Lib.hid hz2
    clear hg hi hz0 hz1 hz2
    go_enter Try.func8, Try.ntmps8
    go_wp2_with fail
    refine (cg).mono ?_
    rintro e w1 ⟨rfl, hb1⟩
    have HV := Lib.hid (hv.same hb1)
    have hz1 := hb1.size
    have HH0 := Lib.hid (show SS w1 w1.heap.size w1.heap.size (.slice none 0 0) [] (pilesTo xs 0) from SS.nil w1 w1.heap.size w1.heap.size)
    have HO0 := Lib.hid (show w1.ownsRow w1.heap.size 22 1 (.slice none 0 0) 0 [] from World.ownsRow_nil _ _ _ _)
    clear cg hv
    go_wp2
    go_loopw [4, 6, 7, 13] (fun ov _ _ i wr => ∃ (k : Nat) (hs : List Value), k ≤ xs.length ∧ i = .int .i64 k ∧ Hid (SS wr w1.heap.size wr.heap.size ov hs (pilesTo xs k)) ∧ Hid (wr.ownsRow w1.heap.size 22 1 ov hs.length hs) ∧ Below w1.heap.size w1 wr) (fun _ _ _ i _ => xs.length - (intOf i).toNat)
    case atStart => exact ⟨0, [], Nat.zero_le _, rfl, HH0, HO0, Below.refl _ _⟩
    case round =>
      obtain ⟨k, hs, hk, rfl, hS, hOw, hbr⟩ := hrel
      clear HH0 HO0
      by_cases hlt : k < xs.length
      · have hlt' : (k : Int) < (xs.length : Int) := by omega
        obtain ⟨gx, ox, rfl, hgx, hcx, _⟩ := Own.at HV.out (by omega)
        have hx := hcx k (by omega)
        rw [List.getElem?_map, List.getElem?_eq_getElem hlt] at hx
        have hxr := (hbr.cell (p := ⟨gx, ox + k, none⟩) hgx).trans hx
        have HPI := Lib.hid (pilesTo_in xs k hk)
        have HSU := Lib.hid (pilesTo_succ xs k hlt)
        obtain ⟨x, hxe⟩ : ∃ x, xs[k] = x := ⟨_, rfl⟩
        obtain ⟨L, hLe⟩ : ∃ L, pilesTo xs k = L := ⟨_, rfl⟩
        rw [hxe] at hxr HSU
        rw [hLe] at hS HPI HSU
        have HML := Lib.hid hS.out.len
        have hLk : L.length ≤ k := HPI.out.len
        obtain ⟨oa, oc, rfl, hoc, hocm, _⟩ := hS.out.own.shape
        obtain ⟨M, hMe⟩ : ∃ M, hs.length = M := ⟨_, rfl⟩
        have HMe := Lib.hid hMe
        have hM9 : M ≤ 9 := by have := hS.out.len; omega
        rw [hMe] at hoc hS hOw ⊢
        have HK0 := Lib.hid (show ∀ j' (hj' : j' < L.length), j' < 0 → topP (L[j']) < x from fun j' _ h => by omega)
        clear hcx hx hxe hLe hMe
        obtain ⟨wz, rfl⟩ : ∃ z, z = wr := ⟨_, rfl⟩
        have hbz := hbr
        go_wp2
        go_loopw [7] (fun kv wi => ∃ (q t : Nat), q ≤ M ∧ kv = .int .i64 q ∧ Hid (∀ j' (hj' : j' < L.length), j' < q → topP (L[j']) < x) ∧ wi = wz.drewN t) (fun kv _ => M - (intOf kv).toNat)
        case atStart => exact ⟨0, 0, Nat.zero_le _, rfl, HK0, rfl⟩
        case round =>
          obtain ⟨q, t, hq, rfl, HKQ, hwt⟩ := hrel
          have HWT := Lib.hid hwt
          clear HK0
          have hzr : wr.heap.size = wz.heap.size := by rw [hwt]; rfl
          have hSi : SS wr w1.heap.size wr.heap.size (.slice oa M oc) hs L := by rw [hzr, hwt]; exact hS.out.kept fun g _ _ => rfl
          have HSI := Lib.hid hSi
          have HOI := Lib.hid (show wr.ownsRow w1.heap.size 22 1 (.slice oa M oc) M hs by rw [hwt]; exact hOw.out.kept (row := none) ⟨rfl, rfl, rfl, Nat.le_refl _, fun _ _ _ => rfl⟩ (by cases h : Value.ownBlock (.slice oa M oc) with | none => exact .inl rfl | some g => exact .inr (by simp)))
          have HBI := Lib.hid (show Below w1.heap.size w1 wr by rw [hwt]; exact hbz.drewN _)
          have HZR := Lib.hid hzr
          by_cases hql : q < M
          · have hql' : (q : Int) < (M : Int) := by omega
            have hqL : q < L.length := by have := HML.out; have := HMe.out; omega
            obtain ⟨g, off, rfl, u, hu, hOu, _, _, hcu⟩ := hSi.at q hqL
            obtain ⟨ua, uc, rfl, huc, hucm, _⟩ := hOu.shape
            have hpos := HPI.out.1 _ (List.getElem_mem hqL)
            have hrow := HPI.out.row (List.getElem_mem hqL)
            obtain ⟨gu, ou, rfl, hgu, hcr, _⟩ := Own.at hOu (by omega)
            have hct := hcr (L[q].length - 1) (by omega)
            rw [List.getElem?_map, List.getElem?_eq_getElem (by omega)] at hct
            have HTP := Lib.hid (show topP (L[q]) = (L[q])[L[q].length - 1]'(by omega) by unfold topP; rw [List.getD_eq_getElem?_getD, List.getElem?_eq_getElem (by omega)]; rfl)
            obtain ⟨y, hye⟩ : ∃ y, (L[q])[L[q].length - 1]'(by omega) = y := ⟨_, rfl⟩
            rw [hye] at hct HTP
            have HHU := Lib.hid hu
            have HOU := Lib.hid hOu
            obtain ⟨lq, hlq⟩ : ∃ lq, (L[q]).length = lq := ⟨_, rfl⟩
            have HLQ := Lib.hid hlq
            rw [hlq] at hct hcu hpos hrow huc
            obtain ⟨l1, rfl⟩ : ∃ l1, lq = l1 + 1 := ⟨lq - 1, by omega⟩
            rw [Nat.add_sub_cancel] at hct
            have hs1 : IntKind.i64.wrap (((l1 + 1 : Nat) : Int) - 1) = (l1 : Int) := by push_cast; rw [Int.add_sub_cancel]; exact IntWalk.i64_in _ (by omega)
            have hs2 : IntKind.i64.wrap ((l1 : Int) + 1 - 1) = (l1 : Int) := by rw [Int.add_sub_cancel]; exact IntWalk.i64_in _ (by omega)
            have hl1 : (l1 : Int) < ((l1 + 1 : Nat) : Int) := by omega
            by_cases htop : y < x
            · have HK2 := Lib.hid (show ∀ j' (hj' : j' < L.length), j' < q + 1 → topP (L[j']) < x from fun j' hj' h => by
                by_cases e : j' = q
                · subst e; rw [HTP.out]; exact htop
                · exact HKQ.out j' hj' (by omega))
              clear hOu hu hwt hSi hlq hcr hye hzr
              go_wp2_with fail
              go_quiet (fail)
              go_wp2
              go_roundw
              case rel => exact ⟨q + 1, _, by omega, by go_num, HK2, by rw [HWT.out, World.drewN_drewN]⟩
              case measure => simp [intOf] <;> omega
            · have htop' : x ≤ y := by omega
              have HKP := Lib.hid (show kP L x = q from kP_eq (by omega) (fun j' hj' h => HKQ.out j' hj' h) (fun _ => by rw [HTP.out]; exact htop))
              clear hOu hu hwt hSi hlq hcr hye hzr
              go_wp2_with fail
              go_quiet (fail)
              have hqM : ((q : Int) == (M : Int)) = false := by rw [beq_eq_false_iff_ne]; omega
              obtain ⟨g0, hg0, cs, hcs⟩ := owns_zero HOI.out (by omega)
              simp only [Option.some.injEq, Addr.mk.injEq, and_true] at hg0
              obtain ⟨rfl, rfl⟩ := hg0
              have HHU2 := Lib.hid (show hs[q]? = some (.slice (some ⟨gu, ou, none⟩) (l1 + 1) uc) by have h := HHU.out; rw [HLQ.out] at h; exact h)
              have HOUL := Lib.hid (show ∀ z, OwnI (wr.drewN z) (.slice (some ⟨gu, ou, none⟩) (l1 + 1) uc) (L[q]) from fun z => by
                rw [← HLQ.out]
                exact Own.kept HOU.out fun _ _ => rfl)
              have HAP := Lib.hid (show gu ≠ g by
                have hr := HSI.out.row q _ (L[q]) HHU.out (List.getElem?_eq_getElem hqL)
                exact fun e => hr.2.2 g rfl (by rw [← e]; rfl))
              have HGL := Lib.hid (show g < wr.heap.size from (HSI.out.inn g rfl).2)
              have hwsz : (wr.drewN nq).heap.size = wr.heap.size := rfl
              have HW2 := Lib.hid (show ∀ z, SS ((wr.drewN z).alloc (.cells #[.int .i64 x] 3)) w1.heap.size wr.heap.size (.slice (some ⟨g, 0, none⟩) M oc) hs L from fun z => (HSI.out.kept (w' := wr.drewN z) fun _ _ _ => rfl).below (below_new (wr.drewN z) _) (Nat.le_refl _))
              have hlqb : (L[q]).length ≤ 1048576 := by have := HLQ.out; omega
              have hcu2 : wr.cell? ⟨g, q, none⟩ = some (.slice (some ⟨gu, ou, none⟩) (l1 + 1) uc) := by rw [owns_cell HOI.out hql]; exact HHU2.out
              have HCS := Lib.hid hcs
              clear hcs
              go_wp2_with (at_builtin; refine wpList_app1D Try.intSl rfl _ _ rfl (.slice (some ⟨gu, ou, none⟩) (l1 + 1) uc) (L[q]) rfl ((HOUL.out _).alloc _) wr.heap.size x rfl ?c1 hlqb (wr.heap.size + 1) ?c2 ?_; rotate_right; intro v2 w2 ho2 hat2 hgr2; obtain ⟨a2, c2, rfl, _, _, _⟩ := ho2.shape; have hbg2 : Blk w2 g 22 cs := blk_grownP HGL.out HAP.out HCS.out hgr2; have hcg2 := hcell_setP hbg2 (owns_len HOI.out HCS.out hql); have hfg2 : ∀ j, w2.frozen? ⟨g, j, none⟩ = false := fun j => frozen_of_row w2 g _ _ _ hbg2)
              case c1 => exact Blk.cell (cs := [iv x]) (heap_alloc_new _ _) 0
              case c2 => simp
              have hLQ : L.getD q [] = L[q] := by simp [hqL]
              have hPL : pilesTo xs (k + 1) = L.set q (L[q] ++ [x]) := by
                rw [HSU.out]
                unfold addP
                rw [HKP.out, if_pos hqL, hLQ]
              have hzz : wr.heap.size + 1 ≤ w2.heap.size := by have := hgr2.size; simpa using this
              have hbz9 : w1.heap.size ≤ wr.heap.size := HBI.out.size
              have HPS := Lib.hid (SS.push (HW2.out nq) (by simp) hbg2 HHU2.out hgr2 ho2 (by simpa using hat2) hbz9)
              have hOW9 := owns_set (owns_keepP HOI.out HCS.out hbg2) hql (.slice a2 (L[q].length + 1) c2)
              have hBW9 := (((HBI.out.drewN nq).alloc (by simpa using hbz9) (.cells #[.int .i64 x] 3)).grown hgr2 (by simp; omega) (fun b hb => ((HSI.out.row q _ (L[q]) HHU2.out (List.getElem?_eq_getElem hqL)).2.1 b hb).1)).setCell (p := ⟨g, q, none⟩) (HSI.out.inn g rfl).1 (.slice a2 (L[q].length + 1) c2)
              rw [← hPL] at HPS
              refine ⟨⟨k + 1, hs.set q (.slice a2 (L[q].length + 1) c2), by omega, by go_num, ?_, ?_, hBW9⟩, by simp [intOf] <;> omega⟩
              · exact Lib.hid (by
                  have h9 := HPS.out
                  rw [List.length_append] at h9
                  rw [World.size_setCell]
                  exact h9)
              · exact Lib.hid (by rw [List.length_set, HMe.out]; exact hOW9)
          · obtain rfl : q = M := by omega
            have hge2 : ¬ ((q : Int) < (q : Int)) := by omega
            have HKP := Lib.hid (show kP L x = q from kP_eq (by have := HML.out; have := HMe.out; omega) (fun j' hj' h => HKQ.out j' hj' h) (fun h => by have := HML.out; have := HMe.out; omega))
            clear hwt hSi hzr
            go_wp2_with fail
            go_quiet (fail)
            have hqq : ((q : Int) == (q : Int)) = true := by simp
            have hown9 : (wr.drewN nq).ownsRow w1.heap.size 22 1 (.slice oa q oc) q hs := HOI.out.kept (row := none) ⟨rfl, rfl, rfl, Nat.le_refl _, fun _ _ _ => rfl⟩ (by cases h : Value.ownBlock (.slice oa q oc) with | none => exact .inl rfl | some g => exact .inr (by simp))
            have HBn := Lib.hid (show Below w1.heap.size w1 (wr.drewN nq) from HBI.out.drewN nq)
            have HS9 := Lib.hid ((HSI.out.kept (w' := wr.drewN nq) fun _ _ _ => rfl).below (below_new (wr.drewN nq) (.cells #[.slice none 0 0] 22)) (Nat.le_refl _))
            have hbz9 : w1.heap.size ≤ wr.heap.size := HBI.out.size
            obtain ⟨wn, hwn⟩ : ∃ wn, wr.drewN nq = wn := ⟨_, rfl⟩
            have HWNZ := Lib.hid (show wn.heap.size = wr.heap.size by rw [← hwn]; rfl)
            rw [hwn] at hown9 HBn HS9 ⊢
            have hown9' := hown9.alloc (.cells #[.slice none 0 0] 22)
            go_wp2_with (at_builtin; refine wpList_append_lies _ rfl _ _ 23 rfl w1.heap.size 22 i0 _ 1 24 Try.underlying23 HI.out HZ0.out HZ1.out HZ2.out rfl (by omega) (.slice oa q oc) q hs rfl hown9' _ 1 1 [.slice none 0 0] rfl (by simp) (World.news_of_block (heap_alloc_new _ _)) (by simp [Value.oneCell']) (by omega) (by unfold maxLen; omega) (by omega) (by have := HWNZ.out; simp; omega) (wn.heap.size + 1) (by simp) ?_)
            intro g8 cap8 w8 hown8 hgr8 hat8 hlt8
            have hS8 := SS.app (cap := cap8) HS9.out (by have := HWNZ.out; simp; omega) (OwnI.nil _) (fun g hg => by simp [Value.ownBlock] at hg) (by rw [HMe.out]; exact hown8) hgr8 (by simpa using hat8) hlt8 hbz9
            rw [HMe.out] at hS8
            have hb8 := (HBn.out.alloc (by have := HWNZ.out; omega) (.cells #[.slice none 0 0] 22)).grown hgr8 (by have := HWNZ.out; simp; omega) (fun b hb => (HSI.out.inn b hb).1)
            have hsz8 : w1.heap.size ≤ w8.heap.size := hb8.size
            obtain ⟨g9, hg9, cs, hcs⟩ := owns_zero hown8 (by omega)
            simp only [Option.some.injEq, Addr.mk.injEq, and_true] at hg9
            obtain rfl := hg9
            have hhs8 : (hs ++ [Value.slice none 0 0])[q]? = some (.slice none 0 0) := by rw [List.getElem?_append_right (by have := HMe.out; omega), HMe.out]; simp
            have hcu2 : w8.cell? ⟨g8, q, none⟩ = some (.slice none 0 0) := by rw [owns_cell hown8 (by omega)]; exact hhs8
            have HCS := Lib.hid hcs
            have HHS8 := Lib.hid hhs8
            have HB8 := Lib.hid hb8
            have HO8 := Lib.hid hown8
            have HS8 := Lib.hid hS8
            have hq1 : (q : Int) < ((q + 1 : Nat) : Int) := by omega
            clear hcs hhs8 hb8 hS8 hown8 hgr8 hat8 hown9 hown9'
            go_wp2_with (at_builtin; refine wpList_app1D Try.intSl rfl _ _ rfl (.slice none 0 0) [] rfl (OwnI.nil _) w8.heap.size x rfl ?c1 (by simp) (w8.heap.size + 1) ?c2 ?_; rotate_right; intro v2 w2 ho2 hat2 hgr2; obtain ⟨a2, c2, rfl, _, _, _⟩ := ho2.shape; have hbg2 : Blk w2 g8 22 cs := blk_grownN hlt8 HCS.out hgr2; have hcg2 := hcell_setP hbg2 (owns_len HO8.out HCS.out (Nat.lt_succ_self q)); have hfg2 : ∀ j, w2.frozen? ⟨g8, j, none⟩ = false := fun j => frozen_of_row w2 g8 _ _ _ hbg2)
            case c1 => exact Blk.cell (cs := [iv x]) (heap_alloc_new _ _) 0
            case c2 => simp
            have hPL : pilesTo xs (k + 1) = (L ++ [[]]).set q ([] ++ [x]) := by
              have hqL : L.length = q := by rw [← HML.out, HMe.out]
              rw [HSU.out]
              unfold addP
              rw [HKP.out, if_neg (by omega), ← hqL]
              simp
            have HPS := Lib.hid (SS.push (HS8.out.below (below_new w8 (.cells #[.int .i64 x] 3)) (Nat.le_refl _)) (by simp) hbg2 HHS8.out hgr2 ho2 (by simpa using hat2) hsz8)
            have hOW9 := owns_set (owns_keepP HO8.out HCS.out hbg2) (Nat.lt_succ_self q) (.slice a2 ([] ++ [x]).length c2)
            have hBW9 := ((HB8.out.alloc hsz8 (.cells #[.int .i64 x] 3)).grown hgr2 (by simp; omega) (fun b hb => by cases hb)).setCell (p := ⟨g8, q, none⟩) (HS8.out.inn g8 rfl).1 (.slice a2 ([] ++ [x]).length c2)
            rw [← hPL] at HPS
            refine ⟨⟨k + 1, (hs ++ [Value.slice none 0 0]).set q (.slice a2 ([] ++ [x]).length c2), by omega, by go_num, ?_, ?_, hBW9⟩, by simp [intOf] <;> omega⟩
            · exact Lib.hid (by
                have h9 := HPS.out
                rw [World.size_setCell]
                exact h9)
            · exact Lib.hid (by rw [List.length_set, List.length_append, HMe.out]; exact hOW9)
      · obtain rfl : k = xs.length := by omega
        have hge3 : ¬ ((xs.length : Int) < (xs.length : Int)) := by omega
        have HF := Lib.hid (show SS wr w.heap.size wr.heap.size u4 hs (mPilesOf xs) by rw [HM.out]; exact hS.out.mono hz1 (Nat.le_refl _))
        have hB9 := hb1.trans (hbr.mono hz1)
        clear hS hOw
        go_wp2
        go_ret2
        exact ⟨_, rfl, ⟨_, HF.out⟩, hB9⟩
  | false =>
    have HM := Lib.hid (show mPilesOf xs = [] from if_neg (by rw [hg]; exact Bool.false_ne_true))
    rw [hg] at cg
    clear hg
    go_enter Try.func8, Try.ntmps8
    go_wp2_with fail
    refine (cg).mono ?_
    rintro e w1 ⟨rfl, hb1⟩
    go_wp2
    go_ret2
    exact ⟨_, [], rfl, by rw [HM.out]; exact SS.nil _ _ _, hb1⟩

end Go.Proofs.Ytfcbaegkppkfkaa

