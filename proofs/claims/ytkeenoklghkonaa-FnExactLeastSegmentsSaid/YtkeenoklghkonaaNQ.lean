import Derived.Test.YtkeenoklghkonaaNY
import Derived.Test.YtkeenoklghkonaaV24
import Derived.Test.YtkeenoklghkonaaLib4
import Derived.BigRegion
namespace Go.Proofs.Ytkeenoklghkonaa
open Go Go.RowKit Go.Pan

set_option maxHeartbeats 4000000 in
set_option maxRecDepth 100000 in
theorem turnsIntoR_any (n : Gm) (pt : TypeId) (pv : Value) (FT FD : FuncId) (R : World → Prop) (b : Nat) (c : LC) (q : List Int) (w : World) (hn : Hid (GOk n)) (hP : Hid (GPR n pt pv FT FD R)) (hR : Hid (R w)) (hks : n.ks.length ≤ 1000) (hl : Ly n w b c) (hq : Hid (n.St q)) :
    Calls Try.prog 143 #[tw q, .map (some b), .iface pt pv] w fun e w' => ∃ r, e = .returned r ∧ OwnI w' r (gpickL n (fun k => decide (0 < c (n.mv q k)))) ∧ From w.heap.size r ∧ Below w.heap.size w w' := by
  obtain ⟨i0, hi, hz0, hz1, hz2⟩ := info_parts Try.info3
  have HI := Lib.hid hi
  have HZ0 := Lib.hid hz0
  have HZ1 := Lib.hid hz1
  have HZ2 := Lib.hid hz2
  have hl9 := hn.out.le9 hq.out
  obtain ⟨kz, hkz⟩ : ∃ kz, n.ks.map (fun (j : Nat) => (j : Int)) = kz := ⟨_, rfl⟩
  have hkl : kz.length = n.ks.length := by rw [← hkz]; simp
  have HKA := Lib.hid (show ∀ (i : Nat) (h : i < kz.length) (h2 : i < n.ks.length), kz[i] = ((n.ks[i] : Nat) : Int) by subst hkz; intro i h h2; simp)
  have HKL := Lib.hid hkl
  have hkz3 : kz.length ≤ 1000 := by omega
  have hmT := hP.out.mT
  have hcT := hP.out.cT
  have hmD := hP.out.mD
  have hcD := hP.out.cD
  have HKZ := Lib.hid hkz
  obtain ⟨P, hPd⟩ : ∃ P : Nat → Bool, P = fun k => decide (0 < c (n.mv q k)) := ⟨_, rfl⟩
  have HP := Lib.hid (show ∀ k, decide (0 < c (n.mv q k)) = P k by intro k; rw [hPd])
  rw [← hPd]
  clear hPd hkz hkl
  have hbx : Blk (w.alloc (.cells (twl q).toArray 94)) w.heap.size 94 (twl q) := Blk.new w _ (twl q) _ rfl
  have hb0 := below_new w (.cells (twl q).toArray 94)
  have HT := Lib.hid (twl_length q hl9)
  go_enter Try.func143, Try.ntmps143
  go_wp2_with (at_make; refine wpList_make_own _ rfl _ _ 22 rfl (w.heap.size + 1) 3 i0 (.int .i64 0) 1 Try.underlying22 hi hz0 hz1 _ _ _ 9 rfl rfl rfl ?b1 ?b2 ?b3 ?_)
  case b1 => rw [hz2]; omega
  case b2 => unfold maxLen; omega
  case b3 => simp
  intro w1 hown hgrow
  have hbx1 := hbx.grown hgrow (by simp)
  have hb1 := hb0.grown hgrow hb0.size (fun k hk => by simp at hk)
  have hlb1 := (Own.of_row hown).1.lt _ rfl
  clear hi hz0 hz1 hz2 hgrow hbx hb0
  go_wp2_with fail
  refine (hP.out.turns _ (hP.out.rb _ _ hR.out hb1)).mono ?_
  rintro e wt ⟨rt, rfl, hot, hft, hbt⟩
  rw [HKZ.out] at hot
  have hbxt := hbx1.below hbt hbx1.lt
  have hownt := hown.kept (grown_of_below hbt none) (.inr (by intro h; cases h))
  have hbt0 := hb1.trans (hbt.mono hb1.size)
  have HNE := Lib.hid (show ∀ g, rt.ownBlock = some g → w.heap.size + 2 ≤ g from fun g hg => by have := hft g hg; omega)
  obtain ⟨adt, capt, rfl, hct, _, _⟩ := hot.shape
  clear hbx1 hown hb1 hft hbt
  go_wp2
  have HAP0 := Lib.hid (show ∀ g, (Value.slice (some ⟨w.heap.size + 1, 0, none⟩) 0 9).ownBlock = some g → (Value.slice adt kz.length capt).ownBlock ≠ some g from fun g hg e => by
    have h1 := HNE.out g e
    simp [Value.ownBlock] at hg
    omega)
  go_loopw [7, 9, 14] (fun o _ iv' wr => ∃ i : Nat, i ≤ kz.length ∧ iv' = .int .i64 i ∧ wr.ownsRow (w.heap.size + 1) 3 1 o (gpick n P i).length ((gpick n P i).map iv) ∧ Hid (∀ g, o.ownBlock = some g → (Value.slice adt kz.length capt).ownBlock ≠ some g) ∧ OwnI wr (.slice adt kz.length capt) kz ∧ Blk wr w.heap.size 94 (twl q) ∧ Below w.heap.size w wr) (fun _ _ i _ => kz.length - (intOf i).toNat)
  case atStart => exact ⟨0, Nat.zero_le _, rfl, hownt, HAP0, hot, hbxt, hbt0⟩
  case round =>
    obtain ⟨i, hin, rfl, ho, hap, hot, hbl, hbr⟩ := hrel
    clear hownt hbxt hbt0 HAP0
    by_cases hil : i < kz.length
    · have hiK : i < n.ks.length := by rw [← HKL.out]; exact hil
      obtain ⟨K, hK⟩ : ∃ K, n.ks[i] = K := ⟨_, rfl⟩
      have hkk : K ∈ n.ks := by rw [← hK]; exact List.getElem_mem hiK
      have HKK := Lib.hid hkk
      have hqt := Lib.hid (hn.out.mvSt q K hq.out hkk)
      obtain ⟨gt, ot, rfl, hgt, hcellt, _⟩ := hot.at (by omega)
      have hckt := hcellt i (by omega)
      rw [List.getElem?_map, List.getElem?_eq_getElem hil, HKA.out i hil hiK, hK] at hckt
      have hgt2 := HNE.out gt rfl
      have hlenp := gpick_length n P i
      obtain ⟨L, hL⟩ : ∃ L, gpick n P i = L := ⟨_, rfl⟩
      have HLE := Lib.hid hL
      have HKE := Lib.hid hK
      rw [hL] at ho hlenp
      have hlw := hbl.lt
      clear hcellt hkk hL hK
      go_wp2_with (first | (refine wpList_load_tower rfl _ rfl w.heap.size q hl9 rfl hbl ?_))
      refine (hP.out.turned q K wr (hP.out.rb _ _ hR.out hbr) hq.out HKK.out).mono ?_
      rintro e w2 ⟨rfl, hb2⟩
      have ho2 := ho.kept (grown_of_below hb2 none) (by rcases Classical.em (Value.ownBlock u7 = none) with e | e; exact .inl e; first | exact .inr e | exact .inr (Ne.symm e))
      have hot2 := hot.same hb2
      have hbl2 := hbl.below hb2 hlw
      have hbr2 := hbr.trans (hb2.mono hbr.size)
      have hlw2 := Nat.lt_of_lt_of_le hlw hb2.size
      clear ho hot hbl hbr hb2
      have c2 := lhas_any n b c (n.mv q K) w2 hn (hl.below hbr2 (Nat.le_refl _)) hqt.out
      rw [HP.out] at c2
      cases hp : P K with
      | true =>
        rw [hp] at c2
        have HS := Lib.hid (show gpick n P (i + 1) = L ++ [(K : Int)] by rw [← HLE.out, gpick_yes hiK (by rw [HKE.out]; exact hp), HKE.out])
        clear hp
        go_wp2_with fail
        refine c2.mono ?_
        rintro e w3 ⟨rfl, hb3⟩
        have ho3 := ho2.kept (grown_of_below hb3 none) (by rcases Classical.em (Value.ownBlock u7 = none) with e | e; exact .inl e; first | exact .inr e | exact .inr (Ne.symm e))
        have hot3 := hot2.same hb3
        have hbl3 := hbl2.below hb3 hlw2
        have hbr3 := hbr2.trans (hb3.mono hbr2.size)
        have hsz := hbr3.size
        have hlw3 := Nat.lt_of_lt_of_le hlw2 hb3.size
        clear ho2 hot2 hbl2 hbr2 hb3 c2
        go_wp2_with (at_builtin; refine wpList_append_lies _ rfl _ _ 22 rfl (w.heap.size + 1) 3 i0 _ 1 8 Try.underlying22 HI.out HZ0.out HZ1.out HZ2.out rfl (by omega) u7 L.length (L.map iv) rfl (ho3.alloc _) _ 1 1 [iv (K : Int)] rfl (by simp) (World.news_of_block (heap_alloc_new _ _)) (by simp [Value.oneCell']) (by omega) (by unfold maxLen; omega) (by omega) (by simp; omega) (w3.heap.size + 1) (by simp) ?_)
        intro g9 cap9 w4 ho4 hg4 hat4 hlt4
        have HM := Lib.hid (show L.map iv ++ [iv (K : Int)] = (gpick n P (i + 1)).map iv by rw [HS.out, List.map_append]; rfl)
        have HLN := Lib.hid (show (gpick n P (i + 1)).length = L.length + 1 by rw [HS.out]; simp)
        have hlow := ho3.lt
        have hbl4 := (hbl3.alloc (.cells #[iv (K : Int)] 3)).grown hg4 (fun e => by have := (hlow _ e).1; omega)
        have hbr4 := (hbr3.alloc hsz (.cells #[iv (K : Int)] 3)).grown hg4 (by simp; omega) (by intro g hg; have := (hlow _ hg).1; omega)
        have hot4 := Own.grown (hot3.alloc (.cells #[iv (K : Int)] 3)) hg4 (by intro g hg e; exact hap.out g e hg)
        have HAP := Lib.hid (show ∀ g, (Value.slice (some ⟨g9, 0, none⟩) (L.length + 1) cap9).ownBlock = some g → (Value.slice (some ⟨gt, ot, none⟩) kz.length capt).ownBlock ≠ some g from fun g hg e => by
          have hgg : g9 = g := by simpa [Value.ownBlock] using hg
          subst hgg
          rcases hat4 with h1 | h1
          · exact hap.out g9 h1 e
          · have h2 := hot3.lt g9 e
            omega)
        rw [HM.out, ← HLN.out] at ho4
        rw [← HLN.out] at HAP
        clear ho3 hot3 hbr3 hbl3 hg4 hat4
        go_wp2
        go_roundw
        case rel => exact ⟨i + 1, by omega, by go_num, by have h := ho4; rw [HLN.out] at h; rw [HLN.out]; exact h, by have h := HAP; rw [HLN.out] at h; exact h, hot4, hbl4, hbr4⟩
        case measure => simp [intOf] <;> omega
      | false =>
        rw [hp] at c2
        have HS := Lib.hid (show gpick n P (i + 1) = L by rw [← HLE.out, gpick_no hiK (by rw [HKE.out]; exact hp)])
        clear hp
        go_wp2_with fail
        refine c2.mono ?_
        rintro e w3 ⟨rfl, hb3⟩
        have ho3 := ho2.kept (grown_of_below hb3 none) (by rcases Classical.em (Value.ownBlock u7 = none) with e | e; exact .inl e; first | exact .inr e | exact .inr (Ne.symm e))
        have hot3 := hot2.same hb3
        have hbl3 := hbl2.below hb3 hlw2
        have hbr3 := hbr2.trans (hb3.mono hbr2.size)
        clear ho2 hot2 hbl2 hbr2 hb3 c2
        go_wp2
        go_roundw
        case rel => exact ⟨i + 1, by omega, by go_num, by rw [HS.out]; exact ho3, hap, hot3, hbl3, hbr3⟩
        case measure => simp [intOf] <;> omega
    · have HE := Lib.hid (show gpick n P i = gpickL n P by rw [show i = n.ks.length by have := HKL.out; omega]; exact gpick_all n P)
      have hge : kz.length ≤ i := by omega
      have hoo := (Own.of_row ho).1
      have hof := (Own.of_row ho).2
      clear ho
      go_wp2_with fail
      refine (Clip_any _ _ _ hoo).mono ?_
      rintro e w2 ⟨r, rfl, hor, hob, rfl⟩
      have hfr : From w.heap.size r := fun g hg => by have := hof g (by rw [← hob]; exact hg); omega
      clear hob
      go_wp2
      go_ret
      exact ⟨_, rfl, by rw [← HE.out]; exact hor, hfr, hbr⟩

end Go.Proofs.Ytkeenoklghkonaa

namespace Go.Proofs.Ytkeenoklghkonaa
open Go Go.RowKit Go.Pan

/-- the layers about t, the farthest first -/
def revP (n : Gm) (t : List Int) (d : Nat) : List LC := (List.range (d + 1)).map fun i => gnearC n t (d - i)
theorem revP_length (n : Gm) (t : List Int) (d : Nat) : (revP n t d).length = d + 1 := by simp [revP]
theorem revP_get (n : Gm) (t : List Int) (d i : Nat) (h : i ≤ d) : (revP n t d)[i]? = some (gnearC n t (d - i)) := by
  simp [revP, List.getElem?_map, List.getElem?_range (show i < d + 1 by omega)]
theorem into_rev {n : Gm} (hn : GOk n) {s t q out : List Int} {d i : Nat} (hs : n.St s) (ht : n.St t) (hd : gfar n s t = d) (h : GPath n s t d i q out) (hi : i < d) :
    ∃ r, gpickL n (fun k => decide (0 < gnearC n t (d - (i + 1)) (n.mv q k))) = (gfirK n t q : Int) :: r := by
  obtain ⟨r, hr⟩ := h.into hn hs ht hd hi
  refine ⟨r, ?_⟩
  rw [← hr]
  refine gpickL_congr fun k hk => ?_
  have hm := hn.mvSt _ _ h.st hk
  rw [decide_eq_decide, gnearC_pos hn ht hm, gwayC_pos hn hs hm, gfar_symm hn ht hm]
  constructor
  · intro h1
    have h2 := gfar_tri hn hs hm ht
    have h3 := (gfar_mv hn hk hs h.st).1
    have h4 := h.fr
    exact ⟨by omega, h1⟩
  · exact fun h1 => h1.2

set_option maxHeartbeats 4000000 in
set_option maxRecDepth 100000 in
theorem firstPlanR_any (n : Gm) (pt : TypeId) (pv : Value) (FT FD : FuncId) (R : World → Prop) (d B g cap : Nat) (ms : List Nat) (s t : List Int) (w : World) (hn : Hid (GOk n)) (hP : Hid (GPR n pt pv FT FD R)) (hR : Hid (R w)) (hks : n.ks.length ≤ 1000) (hs : Hid (n.St s)) (ht : Hid (n.St t)) (hd : Hid (gfar n s t = d)) (hd2 : d + 1 ≤ 1048576)
    (h : Wv n w B (.slice (some ⟨g, 0, none⟩) (d + 1) cap) ms (revP n t d)) :
    Calls Try.prog 96 #[tw s, .slice (some ⟨g, 0, none⟩) (d + 1) cap, .iface pt pv] w fun e w' => ∃ r, e = .returned r ∧ OwnI w' r (ggoL n t d s) ∧ From w.heap.size r ∧ Below w.heap.size w w' := by
  have hml : ms.length = d + 1 := by rw [h.len, revP_length]
  have HML := Lib.hid hml
  have h9 := hn.out.le9 hs.out
  have hown0 : Own w 1 (.slice (some ⟨g, 0, none⟩) (d + 1) cap) (d + 1) (ms.map mv) := (Own.of_row (show w.ownsRow B 91 1 (.slice (some ⟨g, 0, none⟩) (d + 1) cap) (d + 1) (ms.map mv) by have := h.own; rw [hml] at this; exact this)).1
  have HW := Lib.hid h
  obtain ⟨iL, hI, hI0, hI1, hI2⟩ := info_parts Try.infoLy
  have HI := Lib.hid hI
  have HI1 := Lib.hid hI1
  obtain ⟨i0, hi, hz0, hz1, hz2⟩ := info_parts Try.info3
  have hbx : Blk (w.alloc (.cells (twl s).toArray 94)) w.heap.size 94 (twl s) := Blk.new w _ (twl s) _ rfl
  have hb0 := below_new w (.cells (twl s).toArray 94)
  have c0 := wturns_any (some ⟨g, 0, none⟩) (d + 1) cap (w.alloc (.cells (twl s).toArray 94)) hd2
  rw [Nat.add_sub_cancel] at c0
  clear hI hI0 hI1 hI2 h hml
  have hmD := hP.out.mD
  have hcD := hP.out.cD
  go_enter Try.func96, Try.ntmps96
  go_wp2_with fail
  refine c0.mono ?_
  rintro e w0 ⟨rfl, rfl⟩
  clear c0
  have hl1 : (1 : Int) ≤ ((d + 1 : Nat) : Int) := by omega
  go_wp2_with (first
    | (at_make; refine wpList_make_own _ rfl _ _ 22 rfl (w.heap.size + 1) 3 i0 (.int .i64 0) 1 Try.underlying22 hi hz0 hz1 _ _ _ d rfl rfl rfl ?b1 ?b2 ?b3 ?_))
  case b1 => rw [hz2]; omega
  case b2 => unfold maxLen; omega
  case b3 => simp
  intro w1 hown hgrow
  have ho0 := (Own.of_row hown).1
  have hf0 := (Own.of_row hown).2
  have hbx1 := hbx.grown hgrow (by simp)
  have hb1 := hb0.grown hgrow hb0.size (fun k hk => by simp at hk)
  have hown1 := hown0.same hb1
  clear hi hz0 hz1 hz2 hgrow hown hbx hb0
  go_wp2_with (refine wpList_fromOwnM rfl _ _ 79 91 rfl iL Try.underlying79 HI.out HI1.out _ (d + 1) cap 1 _ rfl rfl rfl (by omega) _ hown1 d rfl ?_; intro sp c hsub hsb)
  rw [← List.map_drop] at hsub
  have HSUB := Lib.hid hsub
  have HSB := Lib.hid hsb
  have hp0 := Lib.hid (GPath.start hn.out hs.out hd.out)
  have hsz1 := hb1.size
  have hwb := hb1
  clear hsub hsb hown0 hown1
  go_loopw [7, 9, 10, 17] (fun o _ _ iv' wr => ∃ (i : Nat) (q out : List Int), i ≤ d ∧ iv' = .int .i64 i ∧ OwnI wr o out ∧ From (w.heap.size + 1) o ∧ Blk wr w.heap.size 94 (twl q) ∧ Hid (GPath n s t d i q out) ∧ Below w.heap.size w wr) (fun _ _ _ i _ => d - (intOf i).toNat)
  case atStart => exact ⟨0, s, [], Nat.zero_le _, rfl, by simpa [OwnI] using ho0, hf0, hbx1, hp0, hb1⟩
  case round =>
    obtain ⟨i, q, out, hid', rfl, ho, hf, hbl, hp, hbr⟩ := hrel
    clear ho0 hf0 hbx1 hb1 hp0
    by_cases hlt : i < d
    · have hlt' : (i : Int) < d := by omega
      have h9q := hn.out.le9 hp.out.st
      have HQ := Lib.hid hp.out.st
      obtain ⟨gs, os, rfl, hgs, hcs, _⟩ := Own.at HSUB.out (by obtain ⟨_, _, he, h1, _⟩ := HSUB.out.shape; simp only [Value.slice.injEq] at he; obtain ⟨_, _, he⟩ := he; omega)
      have hgg : gs = g := by have := HSB.out; simpa [Value.ownBlock] using this
      obtain ⟨bj, hbj⟩ : ∃ x, (ms.drop 1)[i]? = some x := ⟨_, List.getElem?_eq_getElem (by rw [List.length_drop, HML.out]; omega)⟩
      have hbj2 : ms[i + 1]? = some bj := by rw [← hbj, List.getElem?_drop, Nat.add_comm]
      have hly := (HW.out.lay (i + 1) bj _ hbj2 (revP_get n t d (i + 1) (by omega))).1
      subst hgg
      have hgw : gs < w.heap.size := (HW.out.low (.inl rfl)).1
      have hcell := hcs i (by omega)
      rw [List.getElem?_map, hbj] at hcell
      have hcellr : wr.cell? ⟨gs, os + i, none⟩ = some (mv bj) := (hbr.cell (p := ⟨gs, os + i, none⟩) hgw).trans ((hwb.cell (p := ⟨gs, os + i, none⟩) hgw).symm.trans hcell)
      obtain ⟨rest, hinto⟩ := into_rev hn.out hs.out ht.out hd.out hp.out hlt
      have hlyr := hly.below hbr (Nat.le_refl _)
      have hlw := hbl.lt
      have c1 := turnsIntoR_any n pt pv FT FD R bj _ q wr hn hP (Lib.hid (hP.out.rb _ _ hR.out hbr)) hks hlyr HQ
      rw [hinto] at c1
      have hf12 := (gfirK_spec hn.out hp.out.st ht.out (hp.out.more hlt)).1
      have HPN := Lib.hid (hp.out.next hn.out hs.out ht.out hd.out hlt)
      have hlen : out.length ≤ 1048576 := by have := hp.out.len; omega
      obtain ⟨f, hfe⟩ : ∃ f, gfirK n t q = f := ⟨_, rfl⟩
      rw [hfe] at c1 hf12 HPN
      obtain ⟨L, hL⟩ : ∃ L, (f : Int) :: rest = L := ⟨_, rfl⟩
      have hL0 : L[0]? = some (f : Int) := by rw [← hL]; rfl
      have hLl : 0 < L.length := by rw [← hL]; simp
      have hLli : (0 : Int) < L.length := by omega
      rw [hL] at c1
      have HF := Lib.hid hf12
      have h9t : (n.mv q f).length ≤ 9 := hn.out.le9 (hn.out.mvSt q f HQ.out hf12)
      clear hcs hbj hbj2 hly hcell hinto hfe hL hlyr hp hf12
      go_wp2_with (first | (refine wpList_load_tower rfl _ rfl w.heap.size q h9q rfl hbl ?_))
      refine c1.mono ?_
      rintro e w2 ⟨r, rfl, hor, _, hb2⟩
      obtain ⟨ad3, cap3, rfl, hc30, _, _⟩ := hor.shape
      obtain ⟨g3, o3, rfl, _, hc3, _⟩ := hor.at (by omega)
      have h30 := hc3 0 (by omega)
      rw [List.getElem?_map, hL0, Nat.add_zero] at h30
      have ho2 := ho.same hb2
      have hbl2 := hbl.below hb2 hlw
      have hbr2 := hbr.trans (hb2.mono hbr.size)
      have hlw2 := Nat.lt_of_lt_of_le hlw hb2.size
      have hsz := hbr2.size
      clear ho hbl hbr hb2 c1 hor hc3 hL0 hcellr
      go_wp2_with (at_builtin; refine wpList_app1 Try.intSl rfl _ _ rfl _ out rfl (ho2.alloc _) (w.heap.size + 1) hf w2.heap.size (f : Int) rfl ?c1 _ (Below.refl _ _) ?c2 hlen ?_)
      case c1 => simp [go_sem]
      case c2 => simp; omega
      intro v' w4 ho4 hf4 hb4 _
      have hbl4 := (hbl2.alloc (.cells #[.int .i64 (f : Int)] 3)).below hb4 (by omega)
      have hbr4 := (hbr2.alloc hsz (.cells #[.int .i64 (f : Int)] 3)).trans (hb4.mono (by omega))
      have hlw4 := hbl4.lt
      clear ho2 hbl2 hbr2 hb4 h30
      have c7 := hP.out.turned q f w4 (hP.out.rb _ _ hR.out hbr4) HQ.out HF.out
      go_wp2_with (first | (refine wpList_load_tower rfl _ rfl w.heap.size q h9q rfl hbl4 ?_))
      refine c7.mono ?_
      rintro e w5 ⟨rfl, hb5⟩
      have ho5 := ho4.same hb5
      have hbl5 := hbl4.below hb5 hlw4
      have hbr5 := hbr4.trans (hb5.mono hbr4.size)
      clear ho4 hbl4 hbr4 hb5 c7
      go_wp2_with (first | (refine wpList_store_tower rfl _ _ rfl w.heap.size q (n.mv q f) h9q h9t rfl rfl hbl5 ?_; intro w6 hbl6 hgr6))
      have ho6 := ho5.grown hgr6 (fun g hg e => by simp at e; have := hf4 g hg; omega)
      have hB6 := hbr5.grown hgr6 hbr5.size (fun k hk => by simp at hk; omega)
      clear ho5 hbr5 hgr6 hbl5
      go_wp2
      go_roundw
      case rel => exact ⟨i + 1, n.mv q f, out ++ [(f : Int)], by omega, by go_num, ho6, hf4, hbl6, HPN, hB6⟩
      case measure => simp [intOf] <;> omega
    · obtain rfl : i = d := by omega
      have hge : (i : Int) ≤ i := Int.le_refl _
      have HG := Lib.hid hp.out.last
      clear hp
      go_wp2
      go_ret
      exact ⟨_, rfl, by rw [← HG.out]; exact ho, hf.mono (Nat.le_succ _), hbr⟩

end Go.Proofs.Ytkeenoklghkonaa

namespace Go.Proofs.Ytkeenoklghkonaa
open Go Go.RowKit Go.Pan

abbrev mi (x : Int) : Value := .map (some x.toNat)
set_option maxHeartbeats 1600000 in
set_option maxRecDepth 100000 in
theorem ReverseW_blk (g off n cap : Nat) (ty : TypeId) (pre post : List Value) (xs : List Int) (w : World) (hb : Blk w g ty (pre ++ xs.map mi ++ post)) (hoff : pre.length = off) (hn : xs.length = n) (hx : n ≤ 1048576) :
    Calls Try.prog 93 #[.slice (some ⟨g, off, none⟩) n cap] w fun e w' => e = .returned (.tuple #[]) ∧ Blk w' g ty (pre ++ xs.reverse.map mi ++ post) ∧ w.grownBy w' (some g) := by
  subst hoff
  subst hn
  go_enter Try.func93, Try.ntmps93
  go_wp2
  go_loopw [2, 3] (fun i j wr => ∃ k : Nat, 2 * k ≤ xs.length ∧ i = .int .i64 k ∧ j = .int .i64 ((xs.length : Int) - 1 - k) ∧ Blk wr g ty (pre ++ (swapped xs k).map mi ++ post) ∧ w.grownBy wr (some g)) (fun i _ _ => xs.length - (intOf i).toNat)
  case atStart => exact ⟨0, by omega, rfl, by go_num, by rw [swapped_zero]; exact hb, World.grownBy.refl _ _⟩
  case round =>
    obtain ⟨k, hk, rfl, rfl, hbl, hgr⟩ := hrel
    by_cases hlt : 2 * k + 1 < xs.length
    · obtain ⟨m, hm⟩ : ∃ m : Nat, m = xs.length - 1 - k := ⟨_, rfl⟩
      have hmi : (xs.length : Int) - 1 - k = (m : Int) := by omega
      have hkm : (k : Int) < (m : Int) := by omega
      have hmx : m < xs.length := by omega
      have hkx : k < xs.length := by omega
      have hcm := hbl.cell (pre.length + m)
      have hck := hbl.cell (pre.length + k)
      have hl : ((swapped xs k).map mi).length = xs.length := by rw [List.length_map, swapped_length]
      rw [mid_get _ _ _ _ (by rw [hl]; exact hmx)] at hcm
      rw [mid_get _ _ _ _ (by rw [hl]; exact hkx)] at hck
      have em : ((swapped xs k).map mi)[m]'(by rw [hl]; exact hmx) = mi (xs.getD m 0) := by
        simp only [swapped, List.getElem_map, List.getElem_range]; rw [if_neg (by omega)]
      have ek : ((swapped xs k).map mi)[k]'(by rw [hl]; exact hkx) = mi (xs.getD k 0) := by
        simp only [swapped, List.getElem_map, List.getElem_range]; rw [if_neg (by omega)]
      rw [em] at hcm
      rw [ek] at hck
      have hfm := hbl.frozen (pre.length + m)
      have hfk := hbl.frozen (pre.length + k)
      have hst := (hbl.set (pre.length + k) (mi (xs.getD m 0))).set (pre.length + m) (mi (xs.getD k 0))
      have hmm := Lib.hid hm
      have HMI := Lib.hid hmi
      have hgr2 := grown_set (off := 0) (n := 0) (cap := 0) (grown_set (off := 0) (n := 0) (cap := 0) hgr (pre.length + k) (mi (xs.getD m 0))) (pre.length + m) (mi (xs.getD k 0))
      rw [mid_set _ _ _ _ _ (by rw [hl]; exact hkx), mid_set _ _ _ _ _ (by rw [List.length_set, hl]; exact hmx), ← List.map_set, ← List.map_set, hm, swapped_step xs k hlt, ← hm] at hst
      obtain ⟨v', hy'⟩ := cell?_setCell_some (w := wr) (p := ⟨g, pre.length + k, none⟩) (x := mi (xs.getD m 0)) (q := ⟨g, pre.length + m, none⟩) (v := mi (xs.getD m 0)) hcm
      obtain ⟨a, ha⟩ : ∃ a, xs.getD k 0 = a := ⟨_, rfl⟩
      obtain ⟨b, hb'⟩ : ∃ b, xs.getD m 0 = b := ⟨_, rfl⟩
      rw [ha, hb'] at hst hgr2
      rw [ha] at hck
      rw [hb'] at hcm hy'
      rw [hmi]
      clear hbl hgr hl em ek hm hmi ha hb'
      go_wp2
      go_region
      go_wp2
      go_roundw
      case rel => exact ⟨k + 1, by omega, by go_num, by have := HMI.out; go_num, hst.drew, hgr2.drew1⟩
      case measure => simp [intOf] <;> omega
    · have hge : ((xs.length : Int) - 1 - k) ≤ (k : Int) := by omega
      rw [swapped_all xs k (by omega)] at hbl
      go_wp2
      go_end0
      exact ⟨rfl, hbl, hgr⟩


theorem map_mi (ms : List Nat) : (ms.map fun (b : Nat) => (b : Int)).map mi = ms.map mv := by
  rw [List.map_map]
  exact List.map_congr_left (fun b _ => by simp [mi])

theorem reverseW_any (n : Gm) (B : Nat) (v : Value) (ms : List Nat) (cs : List LC) (w : World) (h : Wv n w B v ms cs) (h0 : ms ≠ []) (hl : ms.length ≤ 1048576) :
    Calls Try.prog 93 #[v] w fun e w' => e = .returned (.tuple #[]) ∧ Wv n w' B v ms.reverse cs.reverse ∧ w.grownBy w' v.ownBlock := by
  obtain ⟨hlen, hrow⟩ := h.own
  rcases hrow with ⟨_, hm⟩ | ⟨g, cap, cur, rfl, hg, hh, hc, hm, hs, ht⟩
  · simp at hm; exact absurd hm h0
  · rw [Nat.mul_one] at ht hs
    have hcl : ms.length ≤ cur.toList.length := by simp; omega
    have hb : Blk w g 91 ([] ++ (ms.map fun (b : Nat) => (b : Int)).map mi ++ cur.toList.drop ms.length) := by
      unfold Blk
      rw [List.nil_append, map_mi, ← ht, List.take_append_drop]
      simpa using hh
    refine (ReverseW_blk g 0 ms.length cap 91 [] (cur.toList.drop ms.length) (ms.map fun (b : Nat) => (b : Int)) w hb rfl (by simp) hl).mono ?_
    rintro e w' ⟨rfl, hb', hgr⟩
    rw [List.nil_append, ← List.map_reverse, map_mi] at hb'
    refine ⟨rfl, ⟨by rw [List.length_reverse, List.length_reverse]; exact h.len, ?_, fun i b c hi hci => ?_, List.pairwise_reverse.2 (List.Pairwise.imp (fun e => Ne.symm e) h.nodup)⟩, by simpa [Value.ownBlock] using hgr⟩
    · refine ⟨by simp, .inr ⟨g, cap, (ms.reverse.map mv ++ cur.toList.drop ms.length).toArray, by rw [List.length_reverse], hg, hb', by rw [List.length_reverse]; exact hc, hm, by simp; omega, ?_⟩⟩
      rw [Nat.mul_one]
      simp
    · have hi' : i < ms.length := by have := (List.getElem?_eq_some_iff.1 hi).1; simpa using this
      rw [List.getElem?_reverse hi'] at hi
      rw [List.getElem?_reverse (by rw [← h.len]; exact hi'), ← h.len] at hci
      obtain ⟨h1, h2, h3⟩ := h.lay _ b c hi hci
      exact ⟨h1.grown hgr (by simpa [Value.ownBlock] using h3), h2, h3⟩

end Go.Proofs.Ytkeenoklghkonaa

namespace Go.Proofs.Ytkeenoklghkonaa
open Go Go.RowKit Go.Pan

set_option maxRecDepth 100000 in
set_option maxHeartbeats 1600000 in
theorem withNumbers_any (v u : Value) (L l : List (Int × Int)) (P : List Int) (w : World) (hv : OwnC c2 w v L) (hu : OwnI w u P) (hL : L.length ≤ 1000) (hP : P.length ≤ 1000) (hll : l.length = P.length)
    (hget : Hid (∀ (k : Nat) (h : k < P.length) (h' : k < l.length), ∃ (j : Nat) (hj : j < L.length), P[k] = (j : Int) + 1 ∧ l[k] = L[j])) :
    Calls Try.prog 94 #[v, u] w fun e w' => ∃ r, e = .returned r ∧ OwnC c2 w' r l ∧ From w.heap.size r ∧ Below w.heap.size w w' := by
  obtain ⟨a1, c1, rfl, _, _, _⟩ := hv.shape
  obtain ⟨a2, cap2, rfl, hc2, _, _⟩ := hu.shape
  obtain ⟨i0, hi, hz0, hz1, hz2⟩ := info_parts infoSegment3
  have HI := Lib.hid hi
  have HZ0 := Lib.hid hz0
  have HZ1 := Lib.hid hz1
  have HZ2 := Lib.hid hz2
  clear hi hz0 hz1 hz2
  go_enter Try.func94, Try.ntmps94
  go_wp2_with (at_make; refine wpList_make_full _ rfl _ _ 28 rfl w.heap.size 85 i0 _ 2 Try.underlying28 HI.out HZ0.out HZ1.out _ _ _ _ P.length rfl rfl rfl rfl ?b1 ?b2 ?b3 ?_)
  case b1 => rw [HZ2.out]; omega
  case b2 => unfold maxLen; omega
  case b3 => exact Nat.le_refl _
  intro w3 hown hgr
  have hb3 := (Blk.of_rowN hown).1
  have hB3 : Below w.heap.size w w3 := (Below.refl _ _).grown hgr (Nat.le_refl _) (by intro k hk; cases hk)
  have HV := Lib.hid hv
  have HU := Lib.hid hu
  have hz3 : Blk w3 w.heap.size 85 (fl c2.c (l.take 0) ++ List.replicate ((l.length - 0) * 2) (iv 0)) := by
    have e := madeCells_zero 2 (P.length * 2) (by omega)
    rw [List.take_zero, hll, Nat.sub_zero]
    rw [show (#[Value.int .i64 0, Value.int .i64 0] : Array Value) = (List.replicate 2 (iv 0)).toArray from rfl, e] at hb3
    exact hb3
  have HLL := Lib.hid hll
  clear hll hb3 hown hgr hv hu
  go_wp2
  go_loopw [6, 7, 13] (fun _ _ i wr => ∃ k : Nat, k ≤ P.length ∧ i = .int .i64 k ∧ Blk wr w.heap.size 85 (fl c2.c (l.take k) ++ List.replicate ((l.length - k) * 2) (iv 0)) ∧ Below w.heap.size w wr) (fun _ _ i _ => P.length - (intOf i).toNat)
  case atStart => exact ⟨0, by omega, by go_num, hz3, hB3⟩
  case round =>
    obtain ⟨k, hk, rfl, hbl, hbr⟩ := hrel
    clear hz3 hB3
    by_cases hlt : k < P.length
    · obtain ⟨g, off, rfl, hgl, hcell, _⟩ := (HU.out.below hbr (Nat.le_refl _)).at (by omega)
      have hck := hcell k (by omega)
      rw [List.getElem?_map, List.getElem?_eq_getElem hlt] at hck
      have hkl : k < l.length := by have := HLL.out; omega
      obtain ⟨j, hj, hPk, hlk⟩ := hget.out k hlt hkl
      obtain ⟨b, boff, rfl, hbl0, hra⟩ := OwnC.rowAt (HV.out.below hbr (Nat.le_refl _)) hj
      obtain ⟨p, hp⟩ : ∃ p, L[j] = p := ⟨_, rfl⟩
      rw [hp] at hra hlk
      rw [hPk] at hck
      have hck' : wr.cell? ⟨g, off + k, none⟩ = some (.int .i64 ((j : Int) + 1)) := hck
      have hra' : wr.rangeAt b (boff + j * 2) [.int .i64 p.1, .int .i64 p.2] := hra
      have hs1 : IntKind.i64.wrap (j : Int) = (j : Int) := IntWalk.i64_in _ (by omega)
      have hji : (j : Int) < (L.length : Int) := by omega
      have HSTEP := Lib.hid (fl_step c2 l k hkl)
      have hsz2 : (Try.prog.info? 85).map (·.size) = some ([.int .i64 p.1, .int .i64 p.2] : List Value).length := infoSegment
      have HFIT := Lib.hid (show k * 2 + ([.int .i64 p.1, .int .i64 p.2] : List Value).length ≤ (fl c2.c (l.take k) ++ List.replicate ((l.length - k) * 2) (iv 0)).length by
        have := HLL.out
        rw [List.length_append, fl_length c2, List.length_take, List.length_replicate]
        simp only [List.length_cons, List.length_nil]
        omega)
      have HGE := Lib.hid (show c2.c l[k] = [.int .i64 p.1, .int .i64 p.2] by rw [hlk]; rfl)
      clear hcell hck hra hp hPk hlk
      go_wp2_with (first | (refine wpList_load_mid rfl 85 _ rfl b (boff + j * 2) rfl [.int .i64 p.1, .int .i64 p.2] _ hra' Try.underlying85 rfl hsz2 ?_) | (refine wpList_store_blk rfl _ _ _ rfl w.heap.size (k * 2) [.int .i64 p.1, .int .i64 p.2] (by first | rfl | simp) rfl _ _ hbl HFIT.out hsz2 (by intro v hv; simp at hv; rcases hv with rfl | rfl <;> rfl) ?_; intro w5 hbl5 hgr5))
      have hb5 : Blk w5 w.heap.size 85 (fl c2.c (l.take (k + 1)) ++ List.replicate ((l.length - (k + 1)) * 2) (iv 0)) := by
        rw [← HSTEP.out, HGE.out]; exact hbl5
      have hB5 := hbr.grown hgr5 hbr.size (by intro j hj; cases hj; exact Nat.le_refl _)
      clear hbl5 hgr5 hbl hbr
      go_roundw
      case rel => exact ⟨k + 1, by omega, by go_num, hb5, hB5⟩
      case measure => simp [intOf] <;> omega
    · obtain rfl : k = P.length := by omega
      have hge : ¬ ((P.length : Int) < (P.length : Int)) := by omega
      have HO := Lib.hid (show OwnC c2 wr (.slice (some ⟨w.heap.size, 0, none⟩) P.length P.length) l by
        have e := HLL.out
        have h := hbl
        rw [← e, List.take_length, Nat.sub_self, Nat.zero_mul, List.replicate_zero, List.append_nil] at h
        exact OwnC.of_blk h e.symm (by unfold maxLen; omega))
      clear hbl
      go_wp2
      go_ret
      exact ⟨_, rfl, HO.out, From.at _ _ _ _ _ (by omega), hbr⟩

end Go.Proofs.Ytkeenoklghkonaa

namespace Go.Proofs.Ytkeenoklghkonaa
open Go Go.RowKit Go.Pan

theorem ns_none (oa : Option Addr) (i oc : Nat) : (Value.slice oa i oc).ownBlock = none ∨ (Value.slice oa i oc).ownBlock ≠ none := by
  cases oa with
  | none => exact .inl rfl
  | some a => exact .inr (by intro h; cases h)

set_option maxHeartbeats 8000000 in
set_option maxRecDepth 100000 in
theorem sLeastSegments_any (v : Value) (xs : List Int) (w : World) (hv : OwnI w v xs) (hn : xs.length ≤ 1048576) :
    Calls Try.prog 28 #[v] w fun e w' => ∃ r, e = .returned (.tuple #[r, .bool (sfewB xs)]) ∧ OwnC c2 w' r (mLeastSegments xs) ∧ From w.heap.size r ∧ Below w.heap.size w w' := by
  obtain ⟨a0, c0, rfl, _, _, _⟩ := hv.shape
  have cs := sgSmall_any _ xs w hv hn
  cases hf : sfewB xs with
  | true =>
    rw [hf] at cs
    obtain ⟨hst, h1, h6⟩ := sfewB_iff.1 hf
    have HST := Lib.hid hst
    obtain ⟨m, hm⟩ : ∃ m, xs.length = m := ⟨_, rfl⟩
    have hs5 := sfar_le hf
    have HM := Lib.hid (show mLeastSegments xs = (ggoL (sG m) (ramp 1 m) (sfar xs) xs).map fun k => sgAt m k.toNat by rw [← hm]; exact if_pos hf)
    have hdd : sfar xs = gfar (sG m) xs (ramp 1 m) := by unfold sfar; rw [hm]
    rw [hm] at hst h1 h6 HST cs hv ⊢
    obtain ⟨d, hd⟩ : ∃ d, gfar (sG m) xs (ramp 1 m) = d := ⟨_, rfl⟩
    have HD := Lib.hid hd
    rw [hdd, hd] at HM hs5
    have HOK := Lib.hid (sG_ok h1 h6)
    have HT := Lib.hid (show (sG m).St (ramp 1 m) from St.ramp m h1 (by omega))
    have HXS := Lib.hid (show (sG m).St xs from hst)
    have HP0 := Lib.hid (GPath.start (t := ramp 1 m) (d := d) HOK.out HXS.out hd)
    have hsn := sgN_le h6
    have hsn2 : (segsAll m).length ≤ 15 := hsn
    obtain ⟨i0, hi, hz0, hz1, hz2⟩ := info_parts infoSegment3
    have HI := Lib.hid hi
    have HZ0 := Lib.hid hz0
    have HZ1 := Lib.hid hz1
    have HZ2 := Lib.hid hz2
    clear hf hst hdd hd hi hz0 hz1 hz2
    go_enter Try.func28, Try.ntmps28
    go_wp2_with fail
    refine (cs).mono ?_
    rintro e w1 ⟨rfl, hb1⟩
    have hv1 := hv.same hb1
    clear cs hv
    go_wp2_with fail
    refine (sgFind_any m _ h1 h6).mono ?_
    rintro e w2 ⟨bl, a, f, t, o, Q, S, ord, tv, rfl, hQ, hSQ, hb2⟩
    have HSQ := Lib.hid hSQ
    have hv2 := hv1.same hb2
    have hB2 := hb1.trans (hb2.mono hb1.size)
    clear hSQ hv1 hb1 hb2
    go_wp2_with fail
    refine (sgDistance_any m _ bl a f t o Q S ord tv _ xs _ h1 h6 hQ HSQ hv2 HST).mono ?_
    rintro e w3 ⟨rfl, hb3⟩
    rw [HD.out]
    have hB3 := hB2.trans (hb3.mono hB2.size)
    have hv3 := hv2.same hb3
    have hs23 := hb3.size
    have HQ := Lib.hid hQ
    clear hQ hv2 hB2
    go_wp2
    go_loopw [0, 6, 7, 9, 10, 30, 31, 32] (fun v0 v6 v7 _ _ _ _ _ wr => ∃ (i e : Nat) (q out : List Int) (qa oa : Option Addr) (qc oc : Nat), v0 = .slice qa m qc ∧ v6 = .slice oa i oc ∧ v7 = .int .i64 e ∧ i + e = d ∧ OwnI wr v0 q ∧ wr.ownsRow w3.heap.size 85 2 v6 i (fl c2.c (out.map fun k => sgAt m k.toNat)) ∧ Hid (GPath (sG m) xs (ramp 1 m) d i q out) ∧ Below w3.heap.size w3 wr) (fun _ _ v7 _ _ _ _ _ _ => (intOf v7).toNat)
    case atStart => exact ⟨0, d, xs, [], a0, none, c0, 0, rfl, rfl, rfl, by omega, hv3, World.ownsRow_nil _ _ _ _, HP0, Below.refl _ _⟩
    case round =>
      obtain ⟨i, e, q, out, qa, oa, qc, oc, rfl, rfl, rfl, hie, hq, ho, hp, hbr⟩ := hrel
      clear HP0 hv3
      obtain ⟨wo, hwo⟩ : ∃ x, wr = x := ⟨_, rfl⟩
      rw [hwo] at hq ho hbr ⊢
      clear hwo
      by_cases he : 0 < e
      · have he' : (0 : Int) < e := by omega
        have hie' : i < d := by omega
        have HSQq := Lib.hid hp.out.st
        have HF := Lib.hid (gfirK_spec HOK.out hp.out.st HT.out (hp.out.more hie'))
        have HL := Lib.hid (fun j hj hl => gfirK_least (j := j) HOK.out hp.out.st HT.out (hp.out.more hie') hj hl)
        have HE := Lib.hid (show gfar (sG m) q (ramp 1 m) = e by have := hp.out.ah; omega)
        have HPN := Lib.hid (hp.out.next HOK.out HXS.out HT.out HD.out hie')
        have HOL := Lib.hid hp.out.len
        obtain ⟨g, hge⟩ : ∃ g, gfirK (sG m) (ramp 1 m) q = g := ⟨_, rfl⟩
        rw [hge] at HF HL HPN
        have hg1 : 1 ≤ g := (mem_sks.1 HF.out.1).1
        have hgn : g ≤ (segsAll m).length := (mem_sks.1 HF.out.1).2
        have hqn : q.length = m := (show St m q from HSQq.out).2
        have HQN := Lib.hid (show (q.length : Int) = (m : Int) by omega)
        have hqm : q.length ≤ 1048576 := by omega
        have hq' : OwnI wo (.slice qa m qc) q := hq
        clear hge hqn hp
        go_wp2_with fail
        refine (sgAll_any m _ h1 (by omega)).mono ?_
        rintro e w4 ⟨tv4, rfl, hts, hft, hb4⟩
        obtain ⟨ta, tc, rfl, htc, _, _⟩ := hts.shape
        have hB4 := hbr.trans (hb4.mono hbr.size)
        have HQ4 := Lib.hid (hq.same hb4)
        have HO4 := Lib.hid (ho.kept (grown_of_below hb4 none) (ns_none oa i oc))
        have HTS := Lib.hid hts
        have hz4 := hB4.size
        clear hq hq' ho hbr hb4 hts hft
        go_wp2
        obtain ⟨wi, hwi⟩ : ∃ x, w4 = x := ⟨_, rfl⟩
        rw [hwi] at HQ4 HO4 HTS hB4 hz4 ⊢
        clear hwi
        go_loopw [0, 6, 9, 10, 32] (fun v0 v6 _ _ v32 wr => ∃ j : Nat, v0 = .slice qa m qc ∧ v6 = .slice oa i oc ∧ v32 = .int .i64 j ∧ j + 1 ≤ g ∧ Below wi.heap.size wi wr) (fun _ _ _ _ v32 _ => (segsAll m).length - (intOf v32).toNat)
        case atStart => exact ⟨0, rfl, rfl, rfl, hg1, Below.refl _ _⟩
        case round =>
          obtain ⟨j, rfl, rfl, rfl, hjg, hbi⟩ := hrel
          have hjl : j < (segsAll m).length := by omega
          have hji : (j : Int) < ((segsAll m).length : Int) := by omega
          obtain ⟨tb, toff, hta, htl, hra⟩ := OwnC.rowAt (Own.same HTS.out hbi) hjl
          subst hta
          obtain ⟨q2, hq2⟩ : ∃ q, (segsAll m)[j] = q := ⟨_, rfl⟩
          have hB2' : segB m q2 = true := by rw [← hq2]; exact (segsAll_B h1 (by omega)).1 (List.getElem_mem hjl)
          have HB2 := Lib.hid hB2'
          have hat : sgAt m (j + 1) = q2 := by
            unfold sgAt
            rw [Nat.add_sub_cancel, List.getD_eq_getElem?_getD, List.getElem?_eq_getElem hjl]
            exact hq2
          rw [hq2] at hra
          have hra' : wr.rangeAt tb (toff + j * 2) [.int .i64 q2.1, .int .i64 q2.2] := hra
          have hszs : (Try.prog.info? 85).map (·.size) = some ([.int .i64 q2.1, .int .i64 q2.2] : List Value).length := infoSegment
          have hkk : j + 1 ∈ (sG m).ks := mem_sks.2 ⟨by omega, hjl⟩
          have hmv : (sG m).mv q (j + 1) = segT q q2 := by show segT q (sgAt m (j + 1)) = _; rw [hat]
          have HRS := Lib.hid (show St m (segT q q2) from (show St m q from HSQq.out).seg hB2')
          have HMV := Lib.hid hmv
          have HAT := Lib.hid hat
          have hwA := (Own.same HQ4.out hbi).alloc (.cells #[.int .i64 q2.1, .int .i64 q2.2] 85)
          have hzA : Blk (wr.alloc (.cells #[.int .i64 q2.1, .int .i64 q2.2] 85)) wr.heap.size 85 [.int .i64 q2.1, .int .i64 q2.2] := Blk.new wr _ _ _ rfl
          have hrz := hzA.range
          have hbA := hbi.alloc hbi.size (.cells #[.int .i64 q2.1, .int .i64 q2.2] 85)
          have hAs : (wr.alloc (.cells #[.int .i64 q2.1, .int .i64 q2.2] 85)).heap.size = wr.heap.size + 1 := by simp
          have hws := hbi.size
          obtain ⟨WA, hWA⟩ : ∃ x, wr.alloc (.cells #[.int .i64 q2.1, .int .i64 q2.2] 85) = x := ⟨_, rfl⟩
          have HWA := Lib.hid hWA
          rw [hWA] at hwA hzA hrz hbA hAs
          clear hWA hq2 hat hra hmv hbi hkk
          go_wp2_with (first | (refine wpList_load_mid rfl 85 _ rfl tb (toff + j * 2) rfl [.int .i64 q2.1, .int .i64 q2.2] _ hra' Try.underlying85 rfl hszs ?_))
          rw [HWA.out]
          go_wp2_with (first | (refine wpList_load_mid rfl 85 _ rfl wr.heap.size 0 rfl [.int .i64 q2.1, .int .i64 q2.2] _ hrz Try.underlying85 rfl hszs ?_))
          refine (sgTurn_any _ q m q2 _ hwA hqm HB2 HQN).mono ?_
          rintro e w5 ⟨r5, rfl, ho5, hf5, hb5⟩
          have hbA5 := hbA.trans (hb5.mono hbA.size)
          have hz5 := hb5.size
          obtain ⟨a5, c5, rfl, _, _, _⟩ := ho5.shape
          have hzA5 := hzA.below hb5 hzA.lt
          have HS4 := Lib.hid (HQ.out.same ((hb3.trans (hB4.mono hs23)).trans (hbA5.mono (Nat.le_trans hs23 hz4))))
          clear hwA hzA hrz hbA hb5
          go_wp2_with fail
          refine (sgDistance_any m _ bl a f t o Q S ord tv _ (segT q q2) _ h1 h6 HS4.out HSQ ho5 HRS).mono ?_
          rintro e w6 ⟨rfl, hb6⟩
          have ho6 := ho5.same hb6
          have hzA6 := hzA5.below hb6 hzA5.lt
          have hrz6 := hzA6.range
          have hbA6 := hbA5.trans (hb6.mono hbA5.size)
          have hz6 := hb6.size
          have hw1 : IntKind.i64.wrap ((e : Int) - 1) = (e : Int) - 1 := IntWalk.i64_in _ (by omega)
          by_cases hjE : j + 1 = g
          · have hfar : gfar (sG m) (segT q q2) (ramp 1 m) = e - 1 := by
              have := HF.out.2
              rw [← hjE, HMV.out] at this
              omega
            have HPN2 := Lib.hid (show GPath (sG m) xs (ramp 1 m) d (i + 1) (segT q q2) (out ++ [((j + 1 : Nat) : Int)]) from by
              have := HPN.out
              rwa [← hjE, HMV.out] at this)
            have HFL := Lib.hid (show fl c2.c ((out ++ [((j + 1 : Nat) : Int)]).map fun k => sgAt m k.toNat) = fl c2.c (out.map fun k => sgAt m k.toNat) ++ [iv q2.1, iv q2.2] by
              rw [List.map_append, List.map_singleton, Int.toNat_natCast, HAT.out, fl_append, fl_one]; rfl)
            rw [hfar]
            have hcast : (((e - 1 : Nat)) : Int) = (e : Int) - 1 := by omega
            rw [hcast]
            have hoa := (HO4.out.kept (grown_of_below hbA6 none) (ns_none oa i oc)).alloc (.cells #[.int .i64 q2.1, .int .i64 q2.2] 85)
            have hlen : (segT q q2).length = m := HRS.out.2
            have HR5 := Lib.hid (show OwnI w6 (.slice a5 m c5) (segT q q2) by rw [← hlen]; exact ho6)
            rw [hlen]
            have hi5 : i ≤ 5 := by omega
            have hlow := HO4.out.lt
            have hNb : wi.heap.size ≤ w6.heap.size := hbA6.size
            clear ho6 ho5 hfar hcast hzA5 hzA6 HS4
            go_wp2_with (first
              | (refine wpList_load_mid rfl 85 _ rfl wr.heap.size 0 rfl [.int .i64 q2.1, .int .i64 q2.2] _ hrz6 Try.underlying85 rfl hszs ?_)
              | (refine wpList_build_pair Try.underlying28 HI.out HZ0.out HZ1.out rfl _ rfl (.int .i64 q2.1) (.int .i64 q2.2) rfl ?_)
              | (at_builtin
                 refine wpList_append_lies _ rfl _ _ 28 rfl w3.heap.size 85 i0 _ 2 16 Try.underlying28 HI.out HZ0.out HZ1.out HZ2.out rfl (by omega) (.slice oa i oc) i (fl c2.c (out.map fun k => sgAt m k.toNat)) rfl hoa _ 1 1 [iv q2.1, iv q2.2] rfl (by simp) (World.news_of_block (heap_alloc_new _ _)) (by simp [Value.oneCell']) (by omega) (by unfold maxLen; omega) (by omega) (by simp; omega) (w6.heap.size + 1) (by simp) ?_
                 intro g9 cap9 w9 hown9 hgr9 hat9 hlt9))
            rw [← HFL.out] at hown9
            have hB6 := hB4.trans (hbA6.mono hz4)
            have hB9 := (hB6.alloc hB6.size (.cells #[.int .i64 q2.1, .int .i64 q2.2] 85)).grown hgr9 (by simp; omega) (by intro b hb; exact (hlow b hb).1)
            have HR9 := Lib.hid (Own.grown (HR5.out.alloc (.cells #[.int .i64 q2.1, .int .i64 q2.2] 85)) hgr9 (fun b hb e => by
              have h1 := (hlow b e).2
              have h2 := hf5 b (by have : (Value.slice a5 (segT q q2).length c5).ownBlock = (Value.slice a5 m c5).ownBlock := by cases a5 <;> rfl
                                   rw [this]; exact hb)
              omega))
            have HO9 := Lib.hid hown9
            clear hgr9 hat9 hoa hown9 hB6
            go_wp2
            go_roundw
            case rel => exact ⟨i + 1, e - 1, segT q q2, _, a5, _, c5, cap9, rfl, rfl, by go_num, by omega, HR9.out, HO9.out, HPN2, hB9⟩
            case measure => simp [intOf] <;> omega
          · have hfar : gfar (sG m) (segT q q2) (ramp 1 m) ≠ e - 1 := by
              have h3 := HL.out (j + 1) (mem_sks.2 ⟨by omega, hjl⟩) (by omega)
              unfold gclo at h3
              rw [HMV.out, HE.out] at h3
              have := of_decide_eq_false h3
              omega
            obtain ⟨z, hzz⟩ : ∃ z, gfar (sG m) (segT q q2) (ramp 1 m) = z := ⟨_, rfl⟩
            rw [hzz] at hfar ⊢
            have hq3 : ((z : Int) == (e : Int) - 1) = false := by rw [beq_eq_false_iff_ne]; omega
            clear hzz
            go_wp2
            go_roundw
            case rel => exact ⟨j + 1, rfl, rfl, by go_num, by omega, hbA6⟩
            case measure => simp [intOf] <;> omega
      · obtain rfl : e = 0 := by omega
        obtain rfl : i = d := by omega
        have HW := Lib.hid (show OwnC c2 wo (.slice oa i oc) (mLeastSegments xs) by
          have h2 := (Own.of_row ho).1
          have h3 := hp.out.len
          have h4 : (out.map fun k => sgAt m k.toNat) = mLeastSegments xs := by rw [HM.out, hp.out.last]
          rw [h4] at h2
          have h5 : (mLeastSegments xs).length = i := by rw [← h4, List.length_map]; exact h3
          show Own wo 2 _ (mLeastSegments xs).length _
          rw [h5]; exact h2)
        have hff := (Own.of_row ho).2
        have hsB : w.heap.size ≤ w3.heap.size := hB3.size
        clear ho hp
        go_wp2
        go_ret2
        exact ⟨_, rfl, HW.out, hff.mono hsB, hB3.trans (hbr.mono hsB)⟩
  | false =>
    rw [hf] at cs
    have HM := Lib.hid (show mLeastSegments xs = [] from if_neg (by rw [hf]; exact Bool.false_ne_true))
    clear hf
    go_enter Try.func28, Try.ntmps28
    go_wp2_with fail
    refine (cs).mono ?_
    rintro e w1 ⟨rfl, hb1⟩
    go_wp2
    go_ret2
    exact ⟨_, rfl, by rw [HM.out]; exact OwnC.nil _, From.nil _ _ _, hb1⟩

end Go.Proofs.Ytkeenoklghkonaa

namespace Go.Proofs.Ytkeenoklghkonaa
open Go Go.RowKit Go.Pan

theorem rev_near (n : Gm) (t : List Int) (d : Nat) : (gnearL n t d).reverse = revP n t d := by
  apply List.ext_getElem?
  intro i
  by_cases hi : i ≤ d
  · rw [revP_get n t d i hi, List.getElem?_reverse (by rw [gnearL_length]; omega), gnearL_length, gnearL_get n t d _ (by omega)]
    first | (congr 2; omega) | (congr 2)
  · rw [List.getElem?_eq_none (by rw [List.length_reverse, gnearL_length]; omega), List.getElem?_eq_none (by rw [revP_length]; omega)]

theorem ggoL_ks {n : Gm} (hn : GOk n) {t : List Int} (ht : n.St t) : ∀ (e : Nat) (q : List Int), n.St q → gfar n q t = e → ∀ x ∈ ggoL n t e q, ∃ k : Nat, k ∈ n.ks ∧ x = (k : Int)
  | 0, q, _, _, x, hx => by simp [ggoL] at hx
  | e + 1, q, hq, he, x, hx => by
    have hs := gfirK_spec hn hq ht he
    rw [ggoL, List.mem_cons] at hx
    rcases hx with rfl | hx
    · exact ⟨_, hs.1, rfl⟩
    · exact ggoL_ks hn ht e _ (hn.mvSt _ _ hq hs.1) hs.2 x hx

set_option maxRecDepth 100000 in
set_option maxHeartbeats 4000000 in
theorem LeastSegments_any (v : Value) (xs : List Int) (w : World) (hv : OwnI w v xs) (hn : xs.length ≤ 1048576) :
    Calls Try.prog 29 #[v] w fun e w' => ∃ r, e = .returned (.tuple #[r, .bool (sfewB xs)]) ∧ OwnC c2 w' r (mLeastSegments xs) ∧ From w.heap.size r ∧ Below w.heap.size w w' := by
  obtain ⟨ad, cap, rfl, hc, _, _⟩ := hv.shape
  obtain ⟨i0, hi, hz0, hz1, hz2⟩ := info_parts infoSegment3
  have HI := Lib.hid hi
  have HZ0 := Lib.hid hz0
  have HZ1 := Lib.hid hz1
  have HZ2 := Lib.hid hz2
  clear hi hz0 hz1 hz2
  have cs := segmentWaveTo_any _ xs w hv hn
  go_enter Try.func29, Try.ntmps29
  go_wp2_with fail
  refine cs.mono ?_
  rintro e w1 h
  rcases h with ⟨hf, g, cap1, ms, rfl, hW, hb⟩ | ⟨hf, rfl, hb⟩
  · obtain ⟨hst, h1, h6⟩ := sfewB_iff.1 hf
    have hl9 : xs.length ≤ 9 := by omega
    have hv1 := hv.same hb
    have HF := Lib.hid hf
    have hs5 := sfar_le hf
    have hml : ms.length = sfar xs + 1 := by rw [hW.len, gnearL_length]
    have HM := Lib.hid (show mLeastSegments xs = (ggoL (sG xs.length) (ramp 1 xs.length) (sfar xs) xs).map fun k => sgAt xs.length k.toNat from if_pos hf)
    have HOK := Lib.hid (sG_ok h1 h6)
    have HST := Lib.hid hst
    have HSR := Lib.hid (show (sG xs.length).St (ramp 1 xs.length) from St.ramp xs.length h1 (by omega))
    obtain ⟨d, hd⟩ : ∃ d, sfar xs = d := ⟨_, rfl⟩
    have HD := Lib.hid (show gfar (sG xs.length) xs (ramp 1 xs.length) = d from hd)
    rw [hd] at hW hml hs5 HM ⊢
    have hlow := hW.low (.inl rfl)
    clear hf hd cs
    go_wp2_with fail
    refine (segmentsFor_any xs.length _ h1 hl9).mono ?_
    rintro e w2 ⟨r2, rfl, ho2, hf2, hb2⟩
    obtain ⟨a2, c2', rfl, hc2, _, _⟩ := ho2.shape
    rw [show (segsAll xs.length).length = sgN xs.length from rfl] at ho2 hc2 ⊢
    have hW2 := hW.below hb2 (Nat.le_refl _)
    have hB2 := hb.trans (hb2.mono hb.size)
    have hv2 := hv1.same hb2
    have HO2 := Lib.hid ho2
    have cr := reverseW_any (sG xs.length) w.heap.size _ ms _ w2 hW2 (by rintro rfl; simp at hml) (by omega)
    rw [rev_near] at cr
    clear hW hW2 hb2 hb hv1
    go_wp2_with fail
    refine cr.mono ?_
    rintro e w3 ⟨rfl, hW3, hg3⟩
    have hga : ∀ b, (Value.slice (some ⟨g, 0, none⟩) (d + 1) cap1).ownBlock = some b → b = g := fun b h => by simpa [Value.ownBlock, eq_comm] using h
    have hg3' : w2.grownBy w3 (some g) := hg3
    have hlw := hB2.size
    have hB3 := hB2.grown hg3' hlw (by intro k hk; cases hk; exact hlow.2)
    have ho3 : OwnC c2 w3 (.slice a2 (sgN xs.length) c2') (segsAll xs.length) := Own.grown ho2 hg3' (fun b hb e => by cases e; have := hf2 _ hb; omega)
    have hlv := Own.lt hv
    have hv3 : OwnI w3 (.slice ad xs.length cap) xs := Own.grown hv2 hg3' (fun b hb e => by cases e; have := hlv _ hb; omega)
    have hs3 := hB3.size
    clear cr hg3 hg3' hv2 ho2 hB2 hv HO2 hf2
    go_wp2_with fail
    refine (towerOf_any _ _ _ hv3 hl9).mono ?_
    rintro e w5 ⟨rfl, hb5⟩
    have hW5 := hW3.below hb5 (Nat.le_refl _)
    have ho5 := Own.same ho3 hb5
    have hB5 := hB3.trans (hb5.mono hs3)
    have HGP : Hid (GPR (sG xs.length) 87 (.slice a2 (sgN xs.length) c2') 218 217 (fun u => OwnC c2 u (.slice a2 (sgN xs.length) c2') (segsAll xs.length))) := Lib.hid (seg_GP h1 h6 a2 c2')
    have HRR : Hid ((fun u => OwnC c2 u (.slice a2 (sgN xs.length) c2') (segsAll xs.length)) w5) := Lib.hid ho5
    have h15 := sgN_le h6
    have hks : (sG xs.length).ks.length ≤ 1000 := by rw [sks_length]; omega
    have cf := firstPlanR_any (sG xs.length) 87 (.slice a2 (sgN xs.length) c2') 218 217 (fun u => OwnC c2 u (.slice a2 (sgN xs.length) c2') (segsAll xs.length)) d w.heap.size g cap1 ms.reverse xs (ramp 1 xs.length) w5 HOK HGP HRR hks HST HSR HD (by omega) hW5
    clear hb5 hW5 hv3 HGP HRR hks
    go_wp2_with fail
    refine cf.mono ?_
    rintro e w6 ⟨r6, rfl, ho6, hf6, hb6⟩
    have hos6 := Own.same ho5 hb6
    have hB6 := hB5.trans (hb6.mono hB5.size)
    have HKS := Lib.hid (ggoL_ks HOK.out HSR.out d xs HST.out HD.out)
    have hpl := ggoL_length (sG xs.length) (ramp 1 xs.length) d xs
    obtain ⟨P, hP⟩ : ∃ P, ggoL (sG xs.length) (ramp 1 xs.length) d xs = P := ⟨_, rfl⟩
    rw [hP] at HKS hpl HM ho6
    obtain ⟨SL, hSL⟩ : ∃ SL, (P.map fun k => sgAt xs.length k.toNat) = SL := ⟨_, rfl⟩
    rw [hSL] at HM
    have hsll : SL.length = P.length := by rw [← hSL, List.length_map]
    have HGET := Lib.hid (show ∀ (k : Nat) (h : k < P.length) (h' : k < SL.length), ∃ (j : Nat) (hj : j < (segsAll xs.length).length), P[k] = (j : Int) + 1 ∧ SL[k] = (segsAll xs.length)[j] from fun k h h' => by
      obtain ⟨kk, hkk, hx⟩ := HKS.out _ (List.getElem_mem h)
      have hk1 := mem_sks.1 hkk
      obtain ⟨j, rfl⟩ : ∃ j, kk = j + 1 := ⟨kk - 1, by omega⟩
      have hjl : j < (segsAll xs.length).length := by show j < sgN xs.length; omega
      refine ⟨j, hjl, by rw [hx]; omega, ?_⟩
      have e : SL[k]? = some ((segsAll xs.length)[j]) := by
        rw [← hSL, List.getElem?_map, List.getElem?_eq_getElem h, hx, Option.map_some, Int.toNat_natCast]
        unfold sgAt
        rw [Nat.add_sub_cancel, List.getD_eq_getElem?_getD, List.getElem?_eq_getElem hjl]
        rfl
      rw [List.getElem?_eq_getElem h'] at e
      exact Option.some.inj e)
    have hP1 : P.length ≤ 1000 := by omega
    have hL1 : (segsAll xs.length).length ≤ 1000 := by show sgN xs.length ≤ 1000; omega
    clear hP hSL cf hb6 ho5 hB5 HKS
    go_wp2_with fail
    refine (withNumbers_any _ _ (segsAll xs.length) SL P _ hos6 ho6 hL1 hP1 hsll HGET).mono ?_
    rintro e w7 ⟨r7, rfl, ho7, hf7, hb7⟩
    have HO7 := Lib.hid (show OwnC c2 w7 r7 (mLeastSegments xs) by rw [HM.out]; exact ho7)
    clear ho7
    go_wp2
    go_ret2
    exact ⟨r7, by rw [HF.out]; rfl, HO7.out, hf7.mono hB6.size, hB6.trans (hb7.mono hB6.size)⟩
  · have HM := Lib.hid (show mLeastSegments xs = [] from if_neg (by rw [hf]; exact Bool.false_ne_true))
    have HF := Lib.hid hf
    clear hf cs
    go_wp2
    go_ret2
    exact ⟨_, by rw [HF.out]; rfl, by rw [HM.out]; exact OwnC.nil _, From.nil _ _ _, hb⟩
end Go.Proofs.Ytkeenoklghkonaa
