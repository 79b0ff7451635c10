import Derived.Test.YtajdlioojibmdaaXB
import Derived.Test.YtajdlioojibmdaaXC
namespace Go.Proofs.Ytajdlioojibmdaa
open Go Go.RowKit Go.Pan

-- the first plan along a way, by turns that look at memory; exchanges by their numbers
set_option maxHeartbeats 4000000 in
set_option maxRecDepth 100000 in
theorem turnsIntoX_any (n : Gm) (pt : TypeId) (pv : Value) (FT FD : FuncId) (R : World → Prop) (b : Nat) (c : LC) (q : List Int) (w : World) (hn : Hid (GOk n)) (hP : Hid (GPR n pt pv FT FD R)) (hR : Hid (R w)) (hks : n.ks.length ≤ 1000) (hl : Ly n w b c) (hq : Hid (n.St q)) :
    Calls Try.prog 118 #[tw q, .map (some b), .iface pt pv] w fun e w' => ∃ r, e = .returned r ∧ OwnI w' r (gpickL n (fun k => decide (0 < c (n.mv q k)))) ∧ From w.heap.size r ∧ Below w.heap.size w w' := by
  obtain ⟨i0, hi, hz0, hz1, hz2⟩ := info_parts Try.info3
  have HI := Lib.hid hi
  have HZ0 := Lib.hid hz0
  have HZ1 := Lib.hid hz1
  have HZ2 := Lib.hid hz2
  have hl9 := hn.out.le9 hq.out
  obtain ⟨kz, hkz⟩ : ∃ kz, n.ks.map (fun (j : Nat) => (j : Int)) = kz := ⟨_, rfl⟩
  have hkl : kz.length = n.ks.length := by rw [← hkz]; simp
  have HKA := Lib.hid (show ∀ (i : Nat) (h : i < kz.length) (h2 : i < n.ks.length), kz[i] = ((n.ks[i] : Nat) : Int) by subst hkz; intro i h h2; simp)
  have HKL := Lib.hid hkl
  have hkz3 : kz.length ≤ 1000 := by omega
  have hmT := hP.out.mT
  have hcT := hP.out.cT
  have hmD := hP.out.mD
  have hcD := hP.out.cD
  have HKZ := Lib.hid hkz
  obtain ⟨P, hPd⟩ : ∃ P : Nat → Bool, P = fun k => decide (0 < c (n.mv q k)) := ⟨_, rfl⟩
  have HP := Lib.hid (show ∀ k, decide (0 < c (n.mv q k)) = P k by intro k; rw [hPd])
  rw [← hPd]
  clear hPd hkz hkl
  have hbx : Blk (w.alloc (.cells (twl q).toArray 95)) w.heap.size 95 (twl q) := Blk.new w _ (twl q) _ rfl
  have hb0 := below_new w (.cells (twl q).toArray 95)
  have HT := Lib.hid (twl_length q hl9)
  go_enter Try.func118, Try.ntmps118
  go_wp2_with (at_make; refine wpList_make_own _ rfl _ _ 22 rfl (w.heap.size + 1) 3 i0 (.int .i64 0) 1 Try.underlying22 hi hz0 hz1 _ _ _ 9 rfl rfl rfl ?b1 ?b2 ?b3 ?_)
  case b1 => rw [hz2]; omega
  case b2 => unfold maxLen; omega
  case b3 => simp
  intro w1 hown hgrow
  have hbx1 := hbx.grown hgrow (by simp)
  have hb1 := hb0.grown hgrow hb0.size (fun k hk => by simp at hk)
  have hlb1 := (Own.of_row hown).1.lt _ rfl
  clear hi hz0 hz1 hz2 hgrow hbx hb0
  go_wp2_with fail
  refine (hP.out.turns _ (hP.out.rb _ _ hR.out hb1)).mono ?_
  rintro e wt ⟨rt, rfl, hot, hft, hbt⟩
  rw [HKZ.out] at hot
  have hbxt := hbx1.below hbt hbx1.lt
  have hownt := hown.kept (grown_of_below hbt none) (.inr (by intro h; cases h))
  have hbt0 := hb1.trans (hbt.mono hb1.size)
  have HNE := Lib.hid (show ∀ g, rt.ownBlock = some g → w.heap.size + 2 ≤ g from fun g hg => by have := hft g hg; omega)
  obtain ⟨adt, capt, rfl, hct, _, _⟩ := hot.shape
  clear hbx1 hown hb1 hft hbt
  go_wp2
  have HAP0 := Lib.hid (show ∀ g, (Value.slice (some ⟨w.heap.size + 1, 0, none⟩) 0 9).ownBlock = some g → (Value.slice adt kz.length capt).ownBlock ≠ some g from fun g hg e => by
    have h1 := HNE.out g e
    simp [Value.ownBlock] at hg
    omega)
  go_loopw [7, 9, 14] (fun o _ iv' wr => ∃ i : Nat, i ≤ kz.length ∧ iv' = .int .i64 i ∧ wr.ownsRow (w.heap.size + 1) 3 1 o (gpick n P i).length ((gpick n P i).map iv) ∧ Hid (∀ g, o.ownBlock = some g → (Value.slice adt kz.length capt).ownBlock ≠ some g) ∧ OwnI wr (.slice adt kz.length capt) kz ∧ Blk wr w.heap.size 95 (twl q) ∧ Below w.heap.size w wr) (fun _ _ i _ => kz.length - (intOf i).toNat)
  case atStart => exact ⟨0, Nat.zero_le _, rfl, hownt, HAP0, hot, hbxt, hbt0⟩
  case round =>
    obtain ⟨i, hin, rfl, ho, hap, hot, hbl, hbr⟩ := hrel
    clear hownt hbxt hbt0 HAP0
    by_cases hil : i < kz.length
    · have hiK : i < n.ks.length := by rw [← HKL.out]; exact hil
      obtain ⟨K, hK⟩ : ∃ K, n.ks[i] = K := ⟨_, rfl⟩
      have hkk : K ∈ n.ks := by rw [← hK]; exact List.getElem_mem hiK
      have HKK := Lib.hid hkk
      have hqt := Lib.hid (hn.out.mvSt q K hq.out hkk)
      obtain ⟨gt, ot, rfl, hgt, hcellt, _⟩ := hot.at (by omega)
      have hckt := hcellt i (by omega)
      rw [List.getElem?_map, List.getElem?_eq_getElem hil, HKA.out i hil hiK, hK] at hckt
      have hgt2 := HNE.out gt rfl
      have hlenp := gpick_length n P i
      obtain ⟨L, hL⟩ : ∃ L, gpick n P i = L := ⟨_, rfl⟩
      have HLE := Lib.hid hL
      have HKE := Lib.hid hK
      rw [hL] at ho hlenp
      have hlw := hbl.lt
      clear hcellt hkk hL hK
      go_wp2_with (first | (refine wpList_load_tower rfl _ rfl w.heap.size q hl9 rfl hbl ?_))
      refine (hP.out.turned q K wr (hP.out.rb _ _ hR.out hbr) hq.out HKK.out).mono ?_
      rintro e w2 ⟨rfl, hb2⟩
      have ho2 := ho.kept (grown_of_below hb2 none) (by rcases Classical.em (Value.ownBlock u7 = none) with e | e; exact .inl e; first | exact .inr e | exact .inr (Ne.symm e))
      have hot2 := hot.same hb2
      have hbl2 := hbl.below hb2 hlw
      have hbr2 := hbr.trans (hb2.mono hbr.size)
      have hlw2 := Nat.lt_of_lt_of_le hlw hb2.size
      clear ho hot hbl hbr hb2
      have c2 := lhas_any n b c (n.mv q K) w2 hn (hl.below hbr2 (Nat.le_refl _)) hqt.out
      rw [HP.out] at c2
      cases hp : P K with
      | true =>
        rw [hp] at c2
        have HS := Lib.hid (show gpick n P (i + 1) = L ++ [(K : Int)] by rw [← HLE.out, gpick_yes hiK (by rw [HKE.out]; exact hp), HKE.out])
        clear hp
        go_wp2_with fail
        refine c2.mono ?_
        rintro e w3 ⟨rfl, hb3⟩
        have ho3 := ho2.kept (grown_of_below hb3 none) (by rcases Classical.em (Value.ownBlock u7 = none) with e | e; exact .inl e; first | exact .inr e | exact .inr (Ne.symm e))
        have hot3 := hot2.same hb3
        have hbl3 := hbl2.below hb3 hlw2
        have hbr3 := hbr2.trans (hb3.mono hbr2.size)
        have hsz := hbr3.size
        have hlw3 := Nat.lt_of_lt_of_le hlw2 hb3.size
        clear ho2 hot2 hbl2 hbr2 hb3 c2
        go_wp2_with (at_builtin; refine wpList_append_lies _ rfl _ _ 22 rfl (w.heap.size + 1) 3 i0 _ 1 8 Try.underlying22 HI.out HZ0.out HZ1.out HZ2.out rfl (by omega) u7 L.length (L.map iv) rfl (ho3.alloc _) _ 1 1 [iv (K : Int)] rfl (by simp) (World.news_of_block (heap_alloc_new _ _)) (by simp [Value.oneCell']) (by omega) (by unfold maxLen; omega) (by omega) (by simp; omega) (w3.heap.size + 1) (by simp) ?_)
        intro g9 cap9 w4 ho4 hg4 hat4 hlt4
        have HM := Lib.hid (show L.map iv ++ [iv (K : Int)] = (gpick n P (i + 1)).map iv by rw [HS.out, List.map_append]; rfl)
        have HLN := Lib.hid (show (gpick n P (i + 1)).length = L.length + 1 by rw [HS.out]; simp)
        have hlow := ho3.lt
        have hbl4 := (hbl3.alloc (.cells #[iv (K : Int)] 3)).grown hg4 (fun e => by have := (hlow _ e).1; omega)
        have hbr4 := (hbr3.alloc hsz (.cells #[iv (K : Int)] 3)).grown hg4 (by simp; omega) (by intro g hg; have := (hlow _ hg).1; omega)
        have hot4 := Own.grown (hot3.alloc (.cells #[iv (K : Int)] 3)) hg4 (by intro g hg e; exact hap.out g e hg)
        have HAP := Lib.hid (show ∀ g, (Value.slice (some ⟨g9, 0, none⟩) (L.length + 1) cap9).ownBlock = some g → (Value.slice (some ⟨gt, ot, none⟩) kz.length capt).ownBlock ≠ some g from fun g hg e => by
          have hgg : g9 = g := by simpa [Value.ownBlock] using hg
          subst hgg
          rcases hat4 with h1 | h1
          · exact hap.out g9 h1 e
          · have h2 := hot3.lt g9 e
            omega)
        rw [HM.out, ← HLN.out] at ho4
        rw [← HLN.out] at HAP
        clear ho3 hot3 hbr3 hbl3 hg4 hat4
        go_wp2
        go_roundw
        case rel => exact ⟨i + 1, by omega, by go_num, by have h := ho4; rw [HLN.out] at h; rw [HLN.out]; exact h, by have h := HAP; rw [HLN.out] at h; exact h, hot4, hbl4, hbr4⟩
        case measure => simp [intOf] <;> omega
      | false =>
        rw [hp] at c2
        have HS := Lib.hid (show gpick n P (i + 1) = L by rw [← HLE.out, gpick_no hiK (by rw [HKE.out]; exact hp)])
        clear hp
        go_wp2_with fail
        refine c2.mono ?_
        rintro e w3 ⟨rfl, hb3⟩
        have ho3 := ho2.kept (grown_of_below hb3 none) (by rcases Classical.em (Value.ownBlock u7 = none) with e | e; exact .inl e; first | exact .inr e | exact .inr (Ne.symm e))
        have hot3 := hot2.same hb3
        have hbl3 := hbl2.below hb3 hlw2
        have hbr3 := hbr2.trans (hb3.mono hbr2.size)
        clear ho2 hot2 hbl2 hbr2 hb3 c2
        go_wp2
        go_roundw
        case rel => exact ⟨i + 1, by omega, by go_num, by rw [HS.out]; exact ho3, hap, hot3, hbl3, hbr3⟩
        case measure => simp [intOf] <;> omega
    · have HE := Lib.hid (show gpick n P i = gpickL n P by rw [show i = n.ks.length by have := HKL.out; omega]; exact gpick_all n P)
      have hge : kz.length ≤ i := by omega
      have hoo := (Own.of_row ho).1
      have hof := (Own.of_row ho).2
      clear ho
      go_wp2_with fail
      refine (Clip_any _ _ _ hoo).mono ?_
      rintro e w2 ⟨r, rfl, hor, hob, rfl⟩
      have hfr : From w.heap.size r := fun g hg => by have := hof g (by rw [← hob]; exact hg); omega
      clear hob
      go_wp2
      go_ret
      exact ⟨_, rfl, by rw [← HE.out]; exact hor, hfr, hbr⟩

set_option maxHeartbeats 4000000 in
set_option maxRecDepth 100000 in
theorem firstPlanX_any (n : Gm) (pt : TypeId) (pv : Value) (FT FD : FuncId) (R : World → Prop) (d B g cap : Nat) (ms : List Nat) (s t : List Int) (w : World) (hn : Hid (GOk n)) (hP : Hid (GPR n pt pv FT FD R)) (hR : Hid (R w)) (hks : n.ks.length ≤ 1000) (hs : Hid (n.St s)) (ht : Hid (n.St t)) (hd : Hid (gfar n s t = d)) (hd2 : d + 1 ≤ 1048576)
    (h : Wv n w B (.slice (some ⟨g, 0, none⟩) (d + 1) cap) ms (wayP n s t d d)) :
    Calls Try.prog 89 #[tw s, .slice (some ⟨g, 0, none⟩) (d + 1) cap, .iface pt pv] w fun e w' => ∃ r, e = .returned r ∧ OwnI w' r (ggoL n t d s) ∧ From w.heap.size r ∧ Below w.heap.size w w' := by
  have hml : ms.length = d + 1 := by rw [h.len, wayP_length]
  have HML := Lib.hid hml
  have h9 := hn.out.le9 hs.out
  have hown0 : Own w 1 (.slice (some ⟨g, 0, none⟩) (d + 1) cap) (d + 1) (ms.map mv) := (Own.of_row (show w.ownsRow B 72 1 (.slice (some ⟨g, 0, none⟩) (d + 1) cap) (d + 1) (ms.map mv) by have := h.own; rw [hml] at this; exact this)).1
  have HW := Lib.hid h
  obtain ⟨iL, hI, hI0, hI1, hI2⟩ := info_parts Try.infoLy
  have HI := Lib.hid hI
  have HI1 := Lib.hid hI1
  obtain ⟨i0, hi, hz0, hz1, hz2⟩ := info_parts Try.info3
  have hbx : Blk (w.alloc (.cells (twl s).toArray 95)) w.heap.size 95 (twl s) := Blk.new w _ (twl s) _ rfl
  have hb0 := below_new w (.cells (twl s).toArray 95)
  have c0 := wturns_any (some ⟨g, 0, none⟩) (d + 1) cap (w.alloc (.cells (twl s).toArray 95)) hd2
  rw [Nat.add_sub_cancel] at c0
  clear hI hI0 hI1 hI2 h hml
  have hmD := hP.out.mD
  have hcD := hP.out.cD
  go_enter Try.func89, Try.ntmps89
  go_wp2_with fail
  refine c0.mono ?_
  rintro e w0 ⟨rfl, rfl⟩
  clear c0
  have hl1 : (1 : Int) ≤ ((d + 1 : Nat) : Int) := by omega
  go_wp2_with (first
    | (at_make; refine wpList_make_own _ rfl _ _ 22 rfl (w.heap.size + 1) 3 i0 (.int .i64 0) 1 Try.underlying22 hi hz0 hz1 _ _ _ d rfl rfl rfl ?b1 ?b2 ?b3 ?_))
  case b1 => rw [hz2]; omega
  case b2 => unfold maxLen; omega
  case b3 => simp
  intro w1 hown hgrow
  have ho0 := (Own.of_row hown).1
  have hf0 := (Own.of_row hown).2
  have hbx1 := hbx.grown hgrow (by simp)
  have hb1 := hb0.grown hgrow hb0.size (fun k hk => by simp at hk)
  have hown1 := hown0.same hb1
  clear hi hz0 hz1 hz2 hgrow hown hbx hb0
  go_wp2_with (refine wpList_fromOwnM rfl _ _ 74 72 rfl iL Try.underlying74 HI.out HI1.out _ (d + 1) cap 1 _ rfl rfl rfl (by omega) _ hown1 d rfl ?_; intro sp c hsub hsb)
  rw [← List.map_drop] at hsub
  have HSUB := Lib.hid hsub
  have HSB := Lib.hid hsb
  have hp0 := Lib.hid (GPath.start hn.out hs.out hd.out)
  have hsz1 := hb1.size
  have hwb := hb1
  clear hsub hsb hown0 hown1
  go_loopw [7, 9, 10, 17] (fun o _ _ iv' wr => ∃ (i : Nat) (q out : List Int), i ≤ d ∧ iv' = .int .i64 i ∧ OwnI wr o out ∧ From (w.heap.size + 1) o ∧ Blk wr w.heap.size 95 (twl q) ∧ Hid (GPath n s t d i q out) ∧ Below w.heap.size w wr) (fun _ _ _ i _ => d - (intOf i).toNat)
  case atStart => exact ⟨0, s, [], Nat.zero_le _, rfl, by simpa [OwnI] using ho0, hf0, hbx1, hp0, hb1⟩
  case round =>
    obtain ⟨i, q, out, hid', rfl, ho, hf, hbl, hp, hbr⟩ := hrel
    clear ho0 hf0 hbx1 hb1 hp0
    by_cases hlt : i < d
    · have hlt' : (i : Int) < d := by omega
      have h9q := hn.out.le9 hp.out.st
      have HQ := Lib.hid hp.out.st
      obtain ⟨gs, os, rfl, hgs, hcs, _⟩ := Own.at HSUB.out (by obtain ⟨_, _, he, h1, _⟩ := HSUB.out.shape; simp only [Value.slice.injEq] at he; obtain ⟨_, _, he⟩ := he; omega)
      have hgg : gs = g := by have := HSB.out; simpa [Value.ownBlock] using this
      obtain ⟨bj, hbj⟩ : ∃ x, (ms.drop 1)[i]? = some x := ⟨_, List.getElem?_eq_getElem (by rw [List.length_drop, HML.out]; omega)⟩
      have hbj2 : ms[i + 1]? = some bj := by rw [← hbj, List.getElem?_drop, Nat.add_comm]
      have hly := (HW.out.lay (i + 1) bj _ hbj2 (wayP_get n s t d d (i + 1) (by omega))).1
      subst hgg
      have hgw : gs < w.heap.size := (HW.out.low (.inl rfl)).1
      have hcell := hcs i (by omega)
      rw [List.getElem?_map, hbj] at hcell
      have hcellr : wr.cell? ⟨gs, os + i, none⟩ = some (mv bj) := (hbr.cell (p := ⟨gs, os + i, none⟩) hgw).trans ((hwb.cell (p := ⟨gs, os + i, none⟩) hgw).symm.trans hcell)
      obtain ⟨rest, hinto⟩ := hp.out.into hn.out hs.out ht.out hd.out hlt
      have hlyr := hly.below hbr (Nat.le_refl _)
      have hlw := hbl.lt
      have c1 := turnsIntoX_any n pt pv FT FD R bj _ q wr hn hP (Lib.hid (hP.out.rb _ _ hR.out hbr)) hks hlyr HQ
      rw [hinto] at c1
      have hf12 := (gfirK_spec hn.out hp.out.st ht.out (hp.out.more hlt)).1
      have HPN := Lib.hid (hp.out.next hn.out hs.out ht.out hd.out hlt)
      have hlen : out.length ≤ 1048576 := by have := hp.out.len; omega
      obtain ⟨f, hfe⟩ : ∃ f, gfirK n t q = f := ⟨_, rfl⟩
      rw [hfe] at c1 hf12 HPN
      obtain ⟨L, hL⟩ : ∃ L, (f : Int) :: rest = L := ⟨_, rfl⟩
      have hL0 : L[0]? = some (f : Int) := by rw [← hL]; rfl
      have hLl : 0 < L.length := by rw [← hL]; simp
      have hLli : (0 : Int) < L.length := by omega
      rw [hL] at c1
      have HF := Lib.hid hf12
      have h9t : (n.mv q f).length ≤ 9 := hn.out.le9 (hn.out.mvSt q f HQ.out hf12)
      clear hcs hbj hbj2 hly hcell hinto hfe hL hlyr hp hf12
      go_wp2_with (first | (refine wpList_load_tower rfl _ rfl w.heap.size q h9q rfl hbl ?_))
      refine c1.mono ?_
      rintro e w2 ⟨r, rfl, hor, _, hb2⟩
      obtain ⟨ad3, cap3, rfl, hc30, _, _⟩ := hor.shape
      obtain ⟨g3, o3, rfl, _, hc3, _⟩ := hor.at (by omega)
      have h30 := hc3 0 (by omega)
      rw [List.getElem?_map, hL0, Nat.add_zero] at h30
      have ho2 := ho.same hb2
      have hbl2 := hbl.below hb2 hlw
      have hbr2 := hbr.trans (hb2.mono hbr.size)
      have hlw2 := Nat.lt_of_lt_of_le hlw hb2.size
      have hsz := hbr2.size
      clear ho hbl hbr hb2 c1 hor hc3 hL0 hcellr
      go_wp2_with (at_builtin; refine wpList_app1 Try.intSl rfl _ _ rfl _ out rfl (ho2.alloc _) (w.heap.size + 1) hf w2.heap.size (f : Int) rfl ?c1 _ (Below.refl _ _) ?c2 hlen ?_)
      case c1 => simp [go_sem]
      case c2 => simp; omega
      intro v' w4 ho4 hf4 hb4 _
      have hbl4 := (hbl2.alloc (.cells #[.int .i64 (f : Int)] 3)).below hb4 (by omega)
      have hbr4 := (hbr2.alloc hsz (.cells #[.int .i64 (f : Int)] 3)).trans (hb4.mono (by omega))
      have hlw4 := hbl4.lt
      clear ho2 hbl2 hbr2 hb4 h30
      have c7 := hP.out.turned q f w4 (hP.out.rb _ _ hR.out hbr4) HQ.out HF.out
      go_wp2_with (first | (refine wpList_load_tower rfl _ rfl w.heap.size q h9q rfl hbl4 ?_))
      refine c7.mono ?_
      rintro e w5 ⟨rfl, hb5⟩
      have ho5 := ho4.same hb5
      have hbl5 := hbl4.below hb5 hlw4
      have hbr5 := hbr4.trans (hb5.mono hbr4.size)
      clear ho4 hbl4 hbr4 hb5 c7
      go_wp2_with (first | (refine wpList_store_tower rfl _ _ rfl w.heap.size q (n.mv q f) h9q h9t rfl rfl hbl5 ?_; intro w6 hbl6 hgr6))
      have ho6 := ho5.grown hgr6 (fun g hg e => by simp at e; have := hf4 g hg; omega)
      have hB6 := hbr5.grown hgr6 hbr5.size (fun k hk => by simp at hk; omega)
      clear ho5 hbr5 hgr6 hbl5
      go_wp2
      go_roundw
      case rel => exact ⟨i + 1, n.mv q f, out ++ [(f : Int)], by omega, by go_num, ho6, hf4, hbl6, HPN, hB6⟩
      case measure => simp [intOf] <;> omega
    · obtain rfl : i = d := by omega
      have hge : (i : Int) ≤ i := Int.le_refl _
      have HG := Lib.hid hp.out.last
      clear hp
      go_wp2
      go_ret
      exact ⟨_, rfl, by rw [← HG.out]; exact ho, hf.mono (Nat.le_succ _), hbr⟩

set_option maxRecDepth 100000 in
set_option maxHeartbeats 1600000 in
theorem withNumbersX_any (v u : Value) (L l : List (Int × Int × Int × Int)) (P : List Int) (w : World) (hv : OwnC c4 w v L) (hu : OwnI w u P) (hL : L.length ≤ 1000) (hP : P.length ≤ 1000) (hll : l.length = P.length)
    (hget : Hid (∀ (k : Nat) (h : k < P.length) (h' : k < l.length), ∃ (j : Nat) (hj : j < L.length), P[k] = (j : Int) + 1 ∧ l[k] = L[j])) :
    Calls Try.prog 88 #[v, u] w fun e w' => ∃ r, e = .returned r ∧ OwnC c4 w' r l ∧ From w.heap.size r ∧ Below w.heap.size w w' := by
  obtain ⟨a1, c1, rfl, _, _, _⟩ := hv.shape
  obtain ⟨a2, cap2, rfl, hc2, _, _⟩ := hu.shape
  obtain ⟨i0, hi, hz0, hz1, hz2⟩ := info_parts infoExchange3
  have HI := Lib.hid hi
  have HZ0 := Lib.hid hz0
  have HZ1 := Lib.hid hz1
  have HZ2 := Lib.hid hz2
  clear hi hz0 hz1 hz2
  go_enter Try.func88, Try.ntmps88
  go_wp2_with (at_make; refine wpList_make_full _ rfl _ _ 37 rfl w.heap.size 58 i0 _ 4 Try.underlying37 HI.out HZ0.out HZ1.out _ _ _ _ P.length rfl rfl rfl rfl ?b1 ?b2 ?b3 ?_)
  case b1 => rw [HZ2.out]; omega
  case b2 => unfold maxLen; omega
  case b3 => exact Nat.le_refl _
  intro w3 hown hgr
  have hb3 := (Blk.of_rowN hown).1
  have hB3 : Below w.heap.size w w3 := (Below.refl _ _).grown hgr (Nat.le_refl _) (by intro k hk; cases hk)
  have HV := Lib.hid hv
  have HU := Lib.hid hu
  have hz3 : Blk w3 w.heap.size 58 (fl c4.c (l.take 0) ++ List.replicate ((l.length - 0) * 4) (iv 0)) := by
    have e := madeCells_zero 4 (P.length * 4) (by omega)
    rw [List.take_zero, hll, Nat.sub_zero]
    rw [show (#[Value.int .i64 0, Value.int .i64 0, Value.int .i64 0, Value.int .i64 0] : Array Value) = (List.replicate 4 (iv 0)).toArray from rfl, e] at hb3
    exact hb3
  have HLL := Lib.hid hll
  clear hll hb3 hown hgr hv hu
  go_wp2
  go_loopw [6, 7, 13] (fun _ _ i wr => ∃ k : Nat, k ≤ P.length ∧ i = .int .i64 k ∧ Blk wr w.heap.size 58 (fl c4.c (l.take k) ++ List.replicate ((l.length - k) * 4) (iv 0)) ∧ Below w.heap.size w wr) (fun _ _ i _ => P.length - (intOf i).toNat)
  case atStart => exact ⟨0, by omega, by go_num, hz3, hB3⟩
  case round =>
    obtain ⟨k, hk, rfl, hbl, hbr⟩ := hrel
    clear hz3 hB3
    by_cases hlt : k < P.length
    · obtain ⟨g, off, rfl, hgl, hcell, _⟩ := (HU.out.below hbr (Nat.le_refl _)).at (by omega)
      have hck := hcell k (by omega)
      rw [List.getElem?_map, List.getElem?_eq_getElem hlt] at hck
      have hkl : k < l.length := by have := HLL.out; omega
      obtain ⟨j, hj, hPk, hlk⟩ := hget.out k hlt hkl
      obtain ⟨b, boff, rfl, hbl0, hra⟩ := OwnC.rowAt (HV.out.below hbr (Nat.le_refl _)) hj
      obtain ⟨p, hp⟩ : ∃ p, L[j] = p := ⟨_, rfl⟩
      rw [hp] at hra hlk
      rw [hPk] at hck
      have hck' : wr.cell? ⟨g, off + k, none⟩ = some (.int .i64 ((j : Int) + 1)) := hck
      have hra' : wr.rangeAt b (boff + j * 4) [.int .i64 p.1, .int .i64 p.2.1, .int .i64 p.2.2.1, .int .i64 p.2.2.2] := hra
      have hs1 : IntKind.i64.wrap (j : Int) = (j : Int) := IntWalk.i64_in _ (by omega)
      have hji : (j : Int) < (L.length : Int) := by omega
      have HSTEP := Lib.hid (fl_step c4 l k hkl)
      have hsz2 : (Try.prog.info? 58).map (·.size) = some ([.int .i64 p.1, .int .i64 p.2.1, .int .i64 p.2.2.1, .int .i64 p.2.2.2] : List Value).length := infoExchange
      have HFIT := Lib.hid (show k * 4 + ([.int .i64 p.1, .int .i64 p.2.1, .int .i64 p.2.2.1, .int .i64 p.2.2.2] : List Value).length ≤ (fl c4.c (l.take k) ++ List.replicate ((l.length - k) * 4) (iv 0)).length by
        have := HLL.out
        rw [List.length_append, fl_length c4, List.length_take, List.length_replicate]
        simp only [List.length_cons, List.length_nil]
        omega)
      have HGE := Lib.hid (show c4.c l[k] = [.int .i64 p.1, .int .i64 p.2.1, .int .i64 p.2.2.1, .int .i64 p.2.2.2] by rw [hlk]; rfl)
      clear hcell hck hra hp hPk hlk
      go_wp2_with (first | (refine wpList_load_mid rfl 58 _ rfl b (boff + j * 4) rfl [.int .i64 p.1, .int .i64 p.2.1, .int .i64 p.2.2.1, .int .i64 p.2.2.2] _ hra' Try.underlying58 rfl hsz2 ?_) | (refine wpList_store_blk rfl _ _ _ rfl w.heap.size (k * 4) [.int .i64 p.1, .int .i64 p.2.1, .int .i64 p.2.2.1, .int .i64 p.2.2.2] (by first | rfl | simp) rfl _ _ hbl HFIT.out hsz2 (by intro v hv; simp at hv; rcases hv with rfl | rfl | rfl | rfl <;> rfl) ?_; intro w5 hbl5 hgr5))
      have hb5 : Blk w5 w.heap.size 58 (fl c4.c (l.take (k + 1)) ++ List.replicate ((l.length - (k + 1)) * 4) (iv 0)) := by
        rw [← HSTEP.out, HGE.out]; exact hbl5
      have hB5 := hbr.grown hgr5 hbr.size (by intro j hj; cases hj; exact Nat.le_refl _)
      clear hbl5 hgr5 hbl hbr
      go_roundw
      case rel => exact ⟨k + 1, by omega, by go_num, hb5, hB5⟩
      case measure => simp [intOf] <;> omega
    · obtain rfl : k = P.length := by omega
      have hge : ¬ ((P.length : Int) < (P.length : Int)) := by omega
      have HO := Lib.hid (show OwnC c4 wr (.slice (some ⟨w.heap.size, 0, none⟩) P.length P.length) l by
        have e := HLL.out
        have h := hbl
        rw [← e, List.take_length, Nat.sub_self, Nat.zero_mul, List.replicate_zero, List.append_nil] at h
        exact OwnC.of_blk h e.symm (by unfold maxLen; omega))
      clear hbl
      go_wp2
      go_ret
      exact ⟨_, rfl, HO.out, From.at _ _ _ _ _ (by omega), hbr⟩

end Go.Proofs.Ytajdlioojibmdaa

namespace Go.Pan
theorem pickN_at {L : List (Int × Int × Int × Int)} {m : Nat} (hG : GOk (xG L m)) {t : List Int} (ht : (xG L m).St t) {d : Nat} {q : List Int} (hq : (xG L m).St q) (hd : gfar (xG L m) q t = d) :
    ∀ (k : Nat) (h : k < (ggoL (xG L m) t d q).length) (h' : k < ((ggoL (xG L m) t d q).map fun k => xAt L k.toNat).length), ∃ (j : Nat) (hj : j < L.length), (ggoL (xG L m) t d q)[k] = (j : Int) + 1 ∧ ((ggoL (xG L m) t d q).map fun k => xAt L k.toNat)[k] = L[j] := by
  intro k h h'
  obtain ⟨x, hx, he⟩ := ggoX_ks hG ht d q hq hd _ (List.getElem_mem h)
  have hk1 := mem_xks.1 hx
  obtain ⟨i, rfl⟩ : ∃ i, x = i + 1 := ⟨x - 1, by omega⟩
  refine ⟨i, by omega, by rw [he]; omega, ?_⟩
  rw [List.getElem_map, he, Int.toNat_natCast]
  exact xAt_get (by omega)

end Go.Pan

namespace Go.Proofs.Ytajdlioojibmdaa
open Go Go.RowKit Go.Pan

set_option maxHeartbeats 4000000 in
set_option maxRecDepth 100000 in
theorem leastList_any (F : FuncId) (Lf : Nat → List (Int × Int × Int × Int)) (v : Value) (xs : List Int) (w : World) (hv : OwnI w v xs) (hn : xs.length ≤ 1048576) (hC : ∀ (args : Array Value) (u : World), (callFunc F args).run Try.prog u = .ok (.enter F args) u)
    (hF : Hid (Kind F Lf)) (hL : Hid (∀ m, 1 ≤ m → m ≤ 6 → XOk (Lf m) m)) :
    Calls Try.prog 54 #[v, .func (Fn.func F) #[] #[]] w fun e w' => ∃ r, e = .returned (.tuple #[r, .bool (sfewB xs)]) ∧ OwnC c4 w' r (mLeastX Lf xs) ∧ From w.heap.size r ∧ Below w.heap.size w w' := by
  obtain ⟨ad, cap, rfl, _, _, _⟩ := hv.shape
  have c := IsStack_any _ xs w hv hn
  cases hg : goodB xs with
  | true =>
    rw [hg] at c
    have h9 : xs.length ≤ 9 := (goodB_iff.1 hg).le9
    have hf0 := areFewBlocks_any (xs.length : Int)
    cases hf : okFew (xs.length : Int) with
    | true =>
      have hsf : sfewB xs = true := by unfold sfewB; rw [hg, Bool.true_and]; exact hf
      obtain ⟨hst, h1, h6⟩ := sfewB_iff.1 hsf
      obtain ⟨m, hm⟩ : ∃ m, xs.length = m := ⟨_, rfl⟩
      have HM := Lib.hid (show mLeastX Lf xs = (ggoL (xG (Lf m) m) (ramp 1 m) (xfar Lf xs) xs).map fun k => xAt (Lf m) k.toNat by rw [← hm]; exact if_pos hsf)
      have HSF := Lib.hid hsf
      rw [hm] at hst h1 h6 hf0 hf h9 ⊢
      rw [hf] at hf0
      have HX := Lib.hid (hL.out m h1 h6)
      have HGM := Lib.hid (xG_ok HX.out h1 h6)
      have HT := Lib.hid (show (xG (Lf m) m).St (ramp 1 m) from St.ramp m h1 (by omega))
      have HS := Lib.hid (show (xG (Lf m) m).St xs from hst)
      have hd5 := xfar_le hL.out hsf
      obtain ⟨d, hd⟩ : ∃ d, xfar Lf xs = d := ⟨_, rfl⟩
      have HD := Lib.hid (show gfar (xG (Lf m) m) xs (ramp 1 m) = d by rw [← hd, ← hm]; rfl)
      rw [hd] at HM hd5
      have HGET := Lib.hid (pickN_at HGM.out HT.out HS.out HD.out)
      have hpl := ggoL_length (xG (Lf m) m) (ramp 1 m) d xs
      have hsl : ((ggoL (xG (Lf m) m) (ramp 1 m) d xs).map fun k => xAt (Lf m) k.toNat).length = (ggoL (xG (Lf m) m) (ramp 1 m) d xs).length := List.length_map ..
      have hL1 := HX.out.le
      have hks : (xG (Lf m) m).ks.length ≤ 1000 := by rw [xks_length]; exact hL1
      have cK := hF.out m
      have h9x : xs.length ≤ 9 := by omega
      have HTX := Lib.hid (twl_length xs h9x)
      have HV := Lib.hid (show OwnI w (.slice ad m cap) xs by rw [← hm]; exact hv)
      rw [hm] at c
      have HXL := Lib.hid hm
      clear hg hf hsf hst hd hv hm
      go_enter Try.func54, Try.ntmps54
      go_wp2_with fail
      refine (c).mono ?_
      rintro e w1 ⟨rfl, hb1⟩
      clear c
      go_wp2_with fail
      refine (hf0 _).mono ?_
      rintro e w1' ⟨rfl, rfl⟩
      clear hf0
      go_wp2_with fail
      refine (cK _ h1 h6).mono ?_
      rintro e w3 ⟨r3, rfl, ho3, hf3, hb3⟩
      clear cK
      obtain ⟨a3, c3, rfl, _, _, _⟩ := ho3.shape
      have hB3 := hb1.trans (hb3.mono hb1.size)
      have cT := towerOf_any (.slice ad m cap) xs w3 (HV.out.same hB3) h9x
      clear hb1 hb3
      go_wp2_with fail
      refine cT.mono ?_
      rintro e4 w4 ⟨rfl, hb4⟩
      clear cT
      have hz : Blk (w4.alloc (.cells (twl []).toArray 95)) w4.heap.size 95 (twl []) := Blk.new w4 _ (twl []) _ rfl
      have ho4 : OwnC c4 (w4.alloc (.cells (twl []).toArray 95)) (.slice a3 (Lf m).length c3) (Lf m) := Own.alloc (Own.same ho3 hb4) _
      have hB3s := hB3.size
      have hB4 := (hB3.trans (hb4.mono hB3s)).alloc (by have := hb4.size; omega) (.cells (twl []).toArray 95)
      have hlt4 := (Own.same ho3 hb4).lt
      have hb4s : w.heap.size ≤ w4.heap.size := Nat.le_trans hB3s hb4.size
      clear ho3 hB3 hb4 hf3
      go_upto_region 5 with (first | (refine wpList_store_tower rfl _ _ rfl w4.heap.size [] xs (by simp) h9x rfl rfl hz ?_; intro w5 hbl5 hgr5))
      have ho5 : OwnC c4 w5 (.slice a3 (Lf m).length c3) (Lf m) := Own.grown ho4 hgr5 (fun g hg e => by have := hlt4 g hg; cases e; omega)
      have hB5 := hB4.grown hgr5 (by simp; omega) (by intro k hk; cases hk; exact hb4s)
      obtain ⟨b, hbe⟩ : ∃ b, w4.heap.size = b := ⟨_, rfl⟩
      rw [hbe] at hbl5 ⊢
      have hut := Try.underlying95
      have hsz : (Try.prog.info? 95).map (·.size) = some (twl xs).length := by rw [Try.infoT, twl_length _ h9x]
      clear hz ho4 hB4 hgr5 hbe hlt4
      have hbl5' := hbl5.lt
      have HGP : Hid (GPR (xG (Lf m) m) 93 (.slice a3 (Lf m).length c3) 182 181 (fun u => OwnC c4 u (.slice a3 (Lf m).length c3) (Lf m))) := Lib.hid (exch_GP HX h1 h6 a3 c3)
      have cw := fun u (hR : Hid ((fun u => OwnC c4 u (.slice a3 (Lf m).length c3) (Lf m)) u)) => wayR_any (xG (Lf m) m) 93 (.slice a3 (Lf m).length c3) 182 181 (fun u => OwnC c4 u (.slice a3 (Lf m).length c3) (Lf m)) xs (ramp 1 m) u HGM HGP hR hks HS HT
      rw [HD.out] at cw
      refine wp_region_held_drew (S := (fun w' => w'.rangeAt b 0 (twl xs) ∧ OwnC c4 w' (.slice a3 (Lf m).length c3) (Lf m) ∧ Below w.heap.size w w' ∧ b < w'.heap.size)) (by kernel_rfl) (⟨hbl5.range, Own.drew ho5, hB5.drew, hbl5'⟩) (fun hHeld => ?_)
      refine wpAnyH_take (i := 0) rfl (by kernel_rfl) (by kernel_rfl) (by kernel_rfl) (fun _ _ _ h => h) (yieldsIf_load_mid (by rfl) _ _ rfl _ _ rfl _ _ (fun w hw => hw.1) hut rfl hsz) (by assumption) ?_
      try simp only [List.getElem_toArray, List.getElem_cons_zero, Act.put, List.setIfInBounds_toArray, List.set_cons_zero, List.set_cons_succ]
      refine wpAnyH_take (i := 1) (v := ?_) rfl (by kernel_rfl) (by kernel_rfl) (by kernel_rfl) (fun _ _ _ h => h) (Or.inl ⟨by rfl, ?_⟩) (by assumption) ?_
      rotate_left
      · intro w _; go_simp; with_reducible rfl
      try simp only [List.getElem_toArray, List.getElem_cons_zero, List.getElem_cons_succ, Act.put, List.setIfInBounds_toArray, List.set_cons_zero, List.set_cons_succ]
      refine wpAnyH_take (i := 2) (v := ?_) rfl (by kernel_rfl) (by kernel_rfl) (by kernel_rfl) (fun _ _ _ h => h) (Or.inl ⟨by rfl, ?_⟩) (by assumption) ?_
      rotate_left
      · intro w _; go_simp; with_reducible rfl
      try simp only [List.getElem_toArray, List.getElem_cons_zero, List.getElem_cons_succ, Act.put, List.setIfInBounds_toArray, List.set_cons_zero, List.set_cons_succ]
      refine wpAnyH_take (i := 4) (v := ?_) rfl (by kernel_rfl) (by kernel_rfl) (by kernel_rfl) (fun _ _ _ h => h) (Or.inl ⟨by rfl, ?_⟩) (by assumption) ?_
      rotate_left
      · intro w _; go_simp; with_reducible rfl
      try simp only [List.getElem_toArray, List.getElem_cons_zero, List.getElem_cons_succ, Act.put, List.setIfInBounds_toArray, List.set_cons_zero, List.set_cons_succ]
      refine wpAnyH_take (i := 5) (v := ?_) rfl (by kernel_rfl) (by kernel_rfl) (by kernel_rfl) (fun _ _ _ h => h) (Or.inl ⟨by rfl, ?_⟩) (by assumption) ?_
      rotate_left
      · intro w _; go_simp; with_reducible rfl
      try simp only [List.getElem_toArray, List.getElem_cons_zero, List.getElem_cons_succ, Act.put, List.setIfInBounds_toArray, List.set_cons_zero, List.set_cons_succ]
      refine wpAnyH_ready (rs := [3]) (by kernel_rfl) (by simp) ?_
      refine AllReadyH.cons rfl (fun K hK => ?_) AllReadyH.nil
      go_simp
      refine (sortedTower_any m _ (by omega)).mono ?_
      rintro e w6 ⟨rfl, hb6⟩
      go_wp2_with fail
      refine hK.out _ _ (⟨range_below hHeld.1 hb6 hHeld.2.2.2, Own.same hHeld.2.1 hb6, hHeld.2.2.1.trans (hb6.mono hHeld.2.2.1.size), Nat.lt_of_lt_of_le hHeld.2.2.2 hb6.size⟩) (fun hHeld => ?_)
      clear hK K
      try simp only [List.getElem_toArray, List.getElem_cons_zero, List.getElem_cons_succ, Act.put, List.setIfInBounds_toArray, List.set_cons_zero, List.set_cons_succ]
      refine wpAnyH_ready (rs := [6]) (by kernel_rfl) (by simp) ?_
      refine AllReadyH.cons rfl (fun K hK => ?_) AllReadyH.nil
      go_simp
      refine (cw _ (Lib.hid hHeld.2.1)).mono ?_
      rintro e w7 ⟨g, cp, ms, rfl, hW, hb7⟩
      go_wp2_with fail
      refine hK.out _ _ (⟨range_below hHeld.1 hb7 hHeld.2.2.2, Own.same hHeld.2.1 hb7, hHeld.2.2.1.trans (hb7.mono hHeld.2.2.1.size), Nat.lt_of_lt_of_le hHeld.2.2.2 hb7.size⟩) (fun hHeld => ?_)
      clear hK K
      try simp only [List.getElem_toArray, List.getElem_cons_zero, List.getElem_cons_succ, Act.put, List.setIfInBounds_toArray, List.set_cons_zero, List.set_cons_succ]
      refine wpAnyH_take (i := 7) (v := ?_) rfl (by kernel_rfl) (by kernel_rfl) (by kernel_rfl) (fun _ _ _ h => h) (Or.inl ⟨by rfl, ?_⟩) (by assumption) ?_
      rotate_left
      · intro w _; go_simp; with_reducible rfl
      try simp only [List.getElem_toArray, List.getElem_cons_zero, List.getElem_cons_succ, Act.put, List.setIfInBounds_toArray, List.set_cons_zero, List.set_cons_succ]
      refine wpAnyH_done (by kernel_rfl) ?_ _
      have hra := hHeld.1
      have hO7 := hHeld.2.1
      have hB7 := hHeld.2.2.1
      clear hHeld
      have cf := firstPlanX_any (xG (Lf m) m) 93 (.slice a3 (Lf m).length c3) 182 181 (fun u => OwnC c4 u (.slice a3 (Lf m).length c3) (Lf m)) d _ g cp ms xs (ramp 1 m) w7 HGM HGP (Lib.hid hO7) hks HS HT HD (by omega) hW
      clear hW hb7 cw
      go_wp2_with (first | (refine wpList_load_mid rfl 95 _ rfl b 0 rfl (twl xs) _ hra hut rfl hsz ?_))
      refine cf.mono ?_
      rintro e8 w8 ⟨r8, rfl, ho8, hf8, hb8⟩
      clear cf
      have hO8 := Own.same hO7 hb8
      have hB8 := hB7.trans (hb8.mono hB7.size)
      clear hO7 hB7 hb8 hra
      go_wp2_with fail
      refine (withNumbersX_any (.slice a3 (Lf m).length c3) r8 (Lf m) _ _ w8 hO8 ho8 hL1 (by omega) hsl HGET).mono ?_
      rintro e9 w9 ⟨r9, rfl, ho9, hf9, hb9⟩
      have HO9 := Lib.hid (show OwnC c4 w9 r9 (mLeastX Lf xs) by rw [HM.out]; exact ho9)
      clear ho9
      go_wp2
      go_ret2
      exact ⟨r9, by rw [HSF.out]; rfl, HO9.out, hf9.mono hB8.size, hB8.trans (hb9.mono hB8.size)⟩
    | false =>
      have hsf : sfewB xs = false := by unfold sfewB; rw [hg, Bool.true_and]; exact hf
      have HM := Lib.hid (show mLeastX Lf xs = [] from if_neg (by rw [hsf]; exact Bool.false_ne_true))
      have HSF := Lib.hid hsf
      rw [hf] at hf0
      clear hg hf hsf
      go_enter Try.func54, Try.ntmps54
      go_wp2_with fail
      refine (c).mono ?_
      rintro e w1 ⟨rfl, hb1⟩
      clear c
      go_wp2_with fail
      refine (hf0 _).mono ?_
      rintro e w1' ⟨rfl, rfl⟩
      clear hf0
      go_wp2
      go_ret2
      exact ⟨_, by rw [HSF.out]; rfl, by rw [HM.out]; exact OwnC.nil _, From.nil _ _ _, hb1⟩
  | false =>
    rw [hg] at c
    have hsf : sfewB xs = false := by unfold sfewB; rw [hg, Bool.false_and]
    have HM := Lib.hid (show mLeastX Lf xs = [] from if_neg (by rw [hsf]; exact Bool.false_ne_true))
    have HSF := Lib.hid hsf
    clear hg hsf
    go_enter Try.func54, Try.ntmps54
    go_wp2_with fail
    refine (c).mono ?_
    rintro e w1 ⟨rfl, hb1⟩
    clear c
    go_wp2
    go_ret2
    exact ⟨_, by rw [HSF.out]; rfl, by rw [HM.out]; exact OwnC.nil _, From.nil _ _ _, hb1⟩

theorem LeastExchanges_any (v : Value) (xs : List Int) (w : World) (hv : OwnI w v xs) (hn : xs.length ≤ 1048576) :
    Calls Try.prog 28 #[v] w fun e w' => ∃ r, e = .returned (.tuple #[r, .bool (sfewB xs)]) ∧ OwnC c4 w' r (mLeastExchanges xs) ∧ From w.heap.size r ∧ Below w.heap.size w w' := by
  have c := leastList_any 62 exAll v xs w hv hn (fun args u => by go_simp) (Lib.hid exKind) (Lib.hid fun m h1 h6 => exAll_ok h1 h6)
  have HM := Lib.hid (show mLeastX exAll xs = mLeastExchanges xs from rfl)
  rw [HM.out] at c
  obtain ⟨ad, cap, rfl, _, _, _⟩ := hv.shape
  go_enter Try.func28, Try.ntmps28
  go_wp2_with fail
  refine (c).mono ?_
  rintro e w1 ⟨r, rfl, ho, hf, hb⟩
  go_wp2
  go_ret2
  exact ⟨_, rfl, ho, hf, hb⟩

end Go.Proofs.Ytajdlioojibmdaa
