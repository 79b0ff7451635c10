import Derived.Test.YtdlnniciccpchaaN5
import Derived.Test.YtdlnniciccpchaaGA
namespace Go.Proofs.Ytdlnniciccpchaa
open Go Go.RowKit Go.Pan

set_option maxHeartbeats 1600000 in
set_option maxRecDepth 100000 in
theorem turnsInto_any (n : Gm) (pt : TypeId) (pv : Value) (FT FD : FuncId) (b : Nat) (c : LC) (q : List Int) (w : World) (hn : Hid (GOk n)) (hP : Hid (GP n pt pv FT FD)) (hks : n.ks.length ≤ 9) (hl : Ly n w b c) (hq : Hid (n.St q)) :
    Calls Try.prog 66 #[tw q, .map (some b), .iface pt pv] w fun e w' => ∃ r, e = .returned r ∧ OwnI w' r (gpickL n (fun k => decide (0 < c (n.mv q k)))) ∧ From w.heap.size r ∧ Below w.heap.size w w' := by
  obtain ⟨i0, hi, hz0, hz1, hz2⟩ := info_parts Try.info3
  have HI := Lib.hid hi
  have HZ1 := Lib.hid hz1
  have hl9 := hn.out.le9 hq.out
  obtain ⟨kz, hkz⟩ : ∃ kz, n.ks.map (fun (j : Nat) => (j : Int)) = kz := ⟨_, rfl⟩
  have hkl : kz.length = n.ks.length := by rw [← hkz]; simp
  have HKA := Lib.hid (show ∀ (i : Nat) (h : i < kz.length) (h2 : i < n.ks.length), kz[i] = ((n.ks[i] : Nat) : Int) by subst hkz; intro i h h2; simp)
  have HKL := Lib.hid hkl
  have hkz3 : kz.length ≤ 9 := by omega
  have hmT := hP.out.mT
  have hcT := hP.out.cT
  have hmD := hP.out.mD
  have hcD := hP.out.cD
  have HKZ := Lib.hid hkz
  obtain ⟨P, hPd⟩ : ∃ P : Nat → Bool, P = fun k => decide (0 < c (n.mv q k)) := ⟨_, rfl⟩
  have HP := Lib.hid (show ∀ k, decide (0 < c (n.mv q k)) = P k by intro k; rw [hPd])
  rw [← hPd]
  clear hPd hkz hkl
  have hbx : Blk (w.alloc (.cells (twl q).toArray 52)) w.heap.size 52 (twl q) := Blk.new w _ (twl q) _ rfl
  have hb0 := below_new w (.cells (twl q).toArray 52)
  have HT := Lib.hid (twl_length q hl9)
  go_enter Try.func66, Try.ntmps66
  go_wp2_with (at_make; refine wpList_make_own _ rfl _ _ 24 rfl (w.heap.size + 1) 3 i0 (.int .i64 0) 1 Try.underlying24 hi hz0 hz1 _ _ _ 9 rfl rfl rfl ?b1 ?b2 ?b3 ?_)
  case b1 => rw [hz2]; omega
  case b2 => unfold maxLen; omega
  case b3 => simp
  intro w1 hown hgrow
  have hbx1 := hbx.grown hgrow (by simp)
  have hb1 := hb0.grown hgrow hb0.size (fun k hk => by simp at hk)
  have hlb1 := (Own.of_row hown).1.lt _ rfl
  clear hi hz0 hz1 hz2 hgrow hbx hb0
  go_wp2_with fail
  refine (hP.out.turns _ trivial).mono ?_
  rintro e wt ⟨rt, rfl, hot, hft, hbt⟩
  rw [HKZ.out] at hot
  have hbxt := hbx1.below hbt hbx1.lt
  have hownt := hown.kept (grown_of_below hbt none) (.inr (by intro h; cases h))
  have hbt0 := hb1.trans (hbt.mono hb1.size)
  have HNE := Lib.hid (show ∀ g, rt.ownBlock = some g → w.heap.size + 2 ≤ g from fun g hg => by have := hft g hg; omega)
  obtain ⟨adt, capt, rfl, hct, _, _⟩ := hot.shape
  clear hbx1 hown hb1 hft hbt
  go_wp2
  go_loopw [7, 9, 14] (fun o _ iv' wr => ∃ i : Nat, i ≤ kz.length ∧ iv' = .int .i64 i ∧ o = .slice (some ⟨w.heap.size + 1, 0, none⟩) (gpick n P i).length 9 ∧ wr.ownsRow (w.heap.size + 1) 3 1 (.slice (some ⟨w.heap.size + 1, 0, none⟩) (gpick n P i).length 9) (gpick n P i).length ((gpick n P i).map iv) ∧ OwnI wr (.slice adt kz.length capt) kz ∧ Blk wr w.heap.size 52 (twl q) ∧ Below w.heap.size w wr) (fun _ _ i _ => kz.length - (intOf i).toNat)
  case atStart => exact ⟨0, Nat.zero_le _, rfl, rfl, hownt, hot, hbxt, hbt0⟩
  case round =>
    obtain ⟨i, hin, rfl, rfl, ho, hot, hbl, hbr⟩ := hrel
    clear hownt hbxt hbt0
    by_cases hil : i < kz.length
    · have hiK : i < n.ks.length := by rw [← HKL.out]; exact hil
      obtain ⟨K, hK⟩ : ∃ K, n.ks[i] = K := ⟨_, rfl⟩
      have hkk : K ∈ n.ks := by rw [← hK]; exact List.getElem_mem hiK
      have HKK := Lib.hid hkk
      have hqt := Lib.hid (hn.out.mvSt q K hq.out hkk)
      obtain ⟨gt, ot, rfl, hgt, hcellt, _⟩ := hot.at (by omega)
      have hckt := hcellt i (by omega)
      rw [List.getElem?_map, List.getElem?_eq_getElem hil, HKA.out i hil hiK, hK] at hckt
      have hgt2 := HNE.out gt rfl
      have hlenp := gpick_length n P i
      obtain ⟨L, hL⟩ : ∃ L, gpick n P i = L := ⟨_, rfl⟩
      have HLE := Lib.hid hL
      have HKE := Lib.hid hK
      rw [hL] at ho hlenp ⊢
      have hlw := hbl.lt
      clear hcellt hkk hL hK
      go_wp2_with (first | (refine wpList_load_tower rfl _ rfl w.heap.size q hl9 rfl hbl ?_))
      refine (hP.out.turned q K wr trivial hq.out HKK.out).mono ?_
      rintro e w2 ⟨rfl, hb2⟩
      have ho2 := ho.kept (grown_of_below hb2 none) (.inr (by intro h; cases h))
      have hot2 := hot.same hb2
      have hbl2 := hbl.below hb2 hlw
      have hbr2 := hbr.trans (hb2.mono hbr.size)
      have hlw2 := Nat.lt_of_lt_of_le hlw hb2.size
      clear ho hot hbl hbr hb2
      have c2 := lhas_any n b c (n.mv q K) w2 hn (hl.below hbr2 (Nat.le_refl _)) hqt.out
      rw [HP.out] at c2
      cases hp : P K with
      | true =>
        rw [hp] at c2
        have HS := Lib.hid (show gpick n P (i + 1) = L ++ [(K : Int)] by rw [← HLE.out, gpick_yes hiK (by rw [HKE.out]; exact hp), HKE.out])
        clear hp
        go_wp2_with fail
        refine c2.mono ?_
        rintro e w3 ⟨rfl, hb3⟩
        have ho3 := ho2.kept (grown_of_below hb3 none) (.inr (by intro h; cases h))
        have hot3 := hot2.same hb3
        have hbl3 := hbl2.below hb3 hlw2
        have hbr3 := hbr2.trans (hb3.mono hbr2.size)
        have hsz := hbr3.size
        have hlw3 := Nat.lt_of_lt_of_le hlw2 hb3.size
        clear ho2 hot2 hbl2 hbr2 hb3 c2
        go_wp2_with (at_builtin; refine wpList_append_fits _ rfl _ _ 24 rfl (w.heap.size + 1) 3 i0 1 Try.underlying24 HI.out HZ1.out (w.heap.size + 1) L.length 9 _ rfl (ho3.alloc _) _ 1 1 [iv (K : Int)] rfl (by simp) (World.news_of_block (heap_alloc_new _ _)) (by simp [Value.oneCell']) (by omega) ?_)
        intro w4 ho4 hg4
        have hbl4 := (hbl3.alloc (.cells #[iv (K : Int)] 3)).grown hg4 (by simp [Value.ownBlock])
        have hbr4 := (hbr3.alloc hsz (.cells #[iv (K : Int)] 3)).grown hg4 (by simp; omega) (by intro g hg; simp [Value.ownBlock] at hg; omega)
        have hot4 := Own.grown (hot3.alloc (.cells #[iv (K : Int)] 3)) hg4 (by intro g hg e; simp [Value.ownBlock] at hg e; omega)
        have HM := Lib.hid (show L.map iv ++ [iv (K : Int)] = (gpick n P (i + 1)).map iv by rw [HS.out, List.map_append]; rfl)
        have HLN := Lib.hid (show (gpick n P (i + 1)).length = L.length + 1 by rw [HS.out]; simp)
        rw [HM.out, ← HLN.out] at ho4
        clear ho3 hot3 hbr3 hbl3 hg4
        go_wp2
        go_roundw
        case rel => exact ⟨i + 1, by omega, by go_num, by rw [HLN.out], ho4, hot4, hbl4, hbr4⟩
        case measure => simp [intOf] <;> omega
      | false =>
        rw [hp] at c2
        have HS := Lib.hid (show gpick n P (i + 1) = L by rw [← HLE.out, gpick_no hiK (by rw [HKE.out]; exact hp)])
        clear hp
        go_wp2_with fail
        refine c2.mono ?_
        rintro e w3 ⟨rfl, hb3⟩
        have ho3 := ho2.kept (grown_of_below hb3 none) (.inr (by intro h; cases h))
        have hot3 := hot2.same hb3
        have hbl3 := hbl2.below hb3 hlw2
        have hbr3 := hbr2.trans (hb3.mono hbr2.size)
        clear ho2 hot2 hbl2 hbr2 hb3 c2
        go_wp2
        go_roundw
        case rel => exact ⟨i + 1, by omega, by go_num, by rw [HS.out], by rw [HS.out]; exact ho3, hot3, hbl3, hbr3⟩
        case measure => simp [intOf] <;> omega
    · have HE := Lib.hid (show gpick n P i = gpickL n P by rw [show i = n.ks.length by have := HKL.out; omega]; exact gpick_all n P)
      have hge : kz.length ≤ i := by omega
      have hoo := (Own.of_row ho).1
      have hof := (Own.of_row ho).2
      clear ho
      go_wp2_with fail
      refine (Clip_any _ _ _ hoo).mono ?_
      rintro e w2 ⟨r, rfl, hor, hob, rfl⟩
      have hfr : From w.heap.size r := fun g hg => by have := hof g (by rw [← hob]; exact hg); omega
      clear hob
      go_wp2
      go_ret
      exact ⟨_, rfl, by rw [← HE.out]; exact hor, hfr, hbr⟩

theorem wpList_fromOwnM {P : Program} {w : World} {ops : Array Oper} {rest : List Oper} {o : Oper} {a : Act} {Q : Exit → Act → World → Prop}
    (hg : o.guard = none) (x lo : Operand) (t e : TypeId) (hop : o.op = .slice t x (some lo) none none) (i : TypeInfo) (hu : P.underlying t = some (.slice e)) (hi : P.info? e = some i) (hs1 : i.size = 1)
    (ad : Option Addr) (n cap k : Nat) (K : Int) (hx : a.eval x = .slice ad n cap) (hl : a.eval lo = .int .i64 K) (hKk : K = (k : Int)) (hk : k ≤ n) (cs : List Value) (hown : Own w 1 (.slice ad n cap) n cs) (m : Nat) (hm : n - k = m)
    (hK : ∀ sp c, Own w 1 (.slice sp m c) m (cs.drop k) → (Value.slice sp m c).ownBlock = (Value.slice ad n cap).ownBlock → wpList P ops Q rest (a.put o.dst (.slice sp m c)) w) :
    wpList P ops Q (o :: rest) a w := by
  subst hm
  exact wpList_fromOwn hg x lo t e hop i hu hi hs1 ad n cap k K hx hl hKk hk cs hown hK

set_option maxHeartbeats 4000000 in
set_option maxRecDepth 100000 in
theorem firstPlan_any (n : Gm) (pt : TypeId) (pv : Value) (FT FD : FuncId) (d B g cap : Nat) (ms : List Nat) (s t : List Int) (w : World) (hn : Hid (GOk n)) (hP : Hid (GP n pt pv FT FD)) (hks : n.ks.length ≤ 9) (hs : Hid (n.St s)) (ht : Hid (n.St t)) (hd : Hid (gfar n s t = d)) (hd2 : d + 1 ≤ 1048576)
    (h : Wv n w B (.slice (some ⟨g, 0, none⟩) (d + 1) cap) ms (wayP n s t d d)) :
    Calls Try.prog 34 #[tw s, .slice (some ⟨g, 0, none⟩) (d + 1) cap, .iface pt pv] w fun e w' => ∃ r, e = .returned r ∧ OwnI w' r (ggoL n t d s) ∧ From w.heap.size r ∧ Below w.heap.size w w' := by
  have hml : ms.length = d + 1 := by rw [h.len, wayP_length]
  have HML := Lib.hid hml
  have h9 := hn.out.le9 hs.out
  have hown0 : Own w 1 (.slice (some ⟨g, 0, none⟩) (d + 1) cap) (d + 1) (ms.map mv) := (Own.of_row (show w.ownsRow B 60 1 (.slice (some ⟨g, 0, none⟩) (d + 1) cap) (d + 1) (ms.map mv) by have := h.own; rw [hml] at this; exact this)).1
  have HW := Lib.hid h
  obtain ⟨iL, hI, hI0, hI1, hI2⟩ := info_parts Try.infoLy
  have HI := Lib.hid hI
  have HI1 := Lib.hid hI1
  obtain ⟨i0, hi, hz0, hz1, hz2⟩ := info_parts Try.info3
  have hbx : Blk (w.alloc (.cells (twl s).toArray 52)) w.heap.size 52 (twl s) := Blk.new w _ (twl s) _ rfl
  have hb0 := below_new w (.cells (twl s).toArray 52)
  have c0 := wturns_any (some ⟨g, 0, none⟩) (d + 1) cap (w.alloc (.cells (twl s).toArray 52)) hd2
  rw [Nat.add_sub_cancel] at c0
  clear hI hI0 hI1 hI2 h hml
  have hmD := hP.out.mD
  have hcD := hP.out.cD
  go_enter Try.func34, Try.ntmps34
  go_wp2_with fail
  refine c0.mono ?_
  rintro e w0 ⟨rfl, rfl⟩
  clear c0
  have hl1 : (1 : Int) ≤ ((d + 1 : Nat) : Int) := by omega
  go_wp2_with (first
    | (at_make; refine wpList_make_own _ rfl _ _ 24 rfl (w.heap.size + 1) 3 i0 (.int .i64 0) 1 Try.underlying24 hi hz0 hz1 _ _ _ d rfl rfl rfl ?b1 ?b2 ?b3 ?_))
  case b1 => rw [hz2]; omega
  case b2 => unfold maxLen; omega
  case b3 => simp
  intro w1 hown hgrow
  have ho0 := (Own.of_row hown).1
  have hf0 := (Own.of_row hown).2
  have hbx1 := hbx.grown hgrow (by simp)
  have hb1 := hb0.grown hgrow hb0.size (fun k hk => by simp at hk)
  have hown1 := hown0.same hb1
  clear hi hz0 hz1 hz2 hgrow hown hbx hb0
  go_wp2_with (refine wpList_fromOwnM rfl _ _ 48 60 rfl iL Try.underlying48 HI.out HI1.out _ (d + 1) cap 1 _ rfl rfl rfl (by omega) _ hown1 d rfl ?_; intro sp c hsub hsb)
  rw [← List.map_drop] at hsub
  have HSUB := Lib.hid hsub
  have HSB := Lib.hid hsb
  have hp0 := Lib.hid (GPath.start hn.out hs.out hd.out)
  have hsz1 := hb1.size
  have hwb := hb1
  clear hsub hsb hown0 hown1
  go_loopw [7, 9, 10, 17] (fun o _ _ iv' wr => ∃ (i : Nat) (q out : List Int), i ≤ d ∧ iv' = .int .i64 i ∧ OwnI wr o out ∧ From (w.heap.size + 1) o ∧ Blk wr w.heap.size 52 (twl q) ∧ Hid (GPath n s t d i q out) ∧ Below w.heap.size w wr) (fun _ _ _ i _ => d - (intOf i).toNat)
  case atStart => exact ⟨0, s, [], Nat.zero_le _, rfl, by simpa [OwnI] using ho0, hf0, hbx1, hp0, hb1⟩
  case round =>
    obtain ⟨i, q, out, hid', rfl, ho, hf, hbl, hp, hbr⟩ := hrel
    clear ho0 hf0 hbx1 hb1 hp0
    by_cases hlt : i < d
    · have hlt' : (i : Int) < d := by omega
      have h9q := hn.out.le9 hp.out.st
      have HQ := Lib.hid hp.out.st
      obtain ⟨gs, os, rfl, hgs, hcs, _⟩ := Own.at HSUB.out (by obtain ⟨_, _, he, h1, _⟩ := HSUB.out.shape; simp only [Value.slice.injEq] at he; obtain ⟨_, _, he⟩ := he; omega)
      have hgg : gs = g := by have := HSB.out; simpa [Value.ownBlock] using this
      obtain ⟨bj, hbj⟩ : ∃ x, (ms.drop 1)[i]? = some x := ⟨_, List.getElem?_eq_getElem (by rw [List.length_drop, HML.out]; omega)⟩
      have hbj2 : ms[i + 1]? = some bj := by rw [← hbj, List.getElem?_drop, Nat.add_comm]
      have hly := (HW.out.lay (i + 1) bj _ hbj2 (wayP_get n s t d d (i + 1) (by omega))).1
      subst hgg
      have hgw : gs < w.heap.size := (HW.out.low (.inl rfl)).1
      have hcell := hcs i (by omega)
      rw [List.getElem?_map, hbj] at hcell
      have hcellr : wr.cell? ⟨gs, os + i, none⟩ = some (mv bj) := (hbr.cell (p := ⟨gs, os + i, none⟩) hgw).trans ((hwb.cell (p := ⟨gs, os + i, none⟩) hgw).symm.trans hcell)
      obtain ⟨rest, hinto⟩ := hp.out.into hn.out hs.out ht.out hd.out hlt
      have hlyr := hly.below hbr (Nat.le_refl _)
      have hlw := hbl.lt
      have c1 := turnsInto_any n pt pv FT FD bj _ q wr hn hP hks hlyr HQ
      rw [hinto] at c1
      have hf12 := (gfirK_spec hn.out hp.out.st ht.out (hp.out.more hlt)).1
      have HPN := Lib.hid (hp.out.next hn.out hs.out ht.out hd.out hlt)
      have hlen : out.length ≤ 1048576 := by have := hp.out.len; omega
      obtain ⟨f, hfe⟩ : ∃ f, gfirK n t q = f := ⟨_, rfl⟩
      rw [hfe] at c1 hf12 HPN
      obtain ⟨L, hL⟩ : ∃ L, (f : Int) :: rest = L := ⟨_, rfl⟩
      have hL0 : L[0]? = some (f : Int) := by rw [← hL]; rfl
      have hLl : 0 < L.length := by rw [← hL]; simp
      have hLli : (0 : Int) < L.length := by omega
      rw [hL] at c1
      have HF := Lib.hid hf12
      have h9t : (n.mv q f).length ≤ 9 := hn.out.le9 (hn.out.mvSt q f HQ.out hf12)
      clear hcs hbj hbj2 hly hcell hinto hfe hL hlyr hp hf12
      go_wp2_with (first | (refine wpList_load_tower rfl _ rfl w.heap.size q h9q rfl hbl ?_))
      refine c1.mono ?_
      rintro e w2 ⟨r, rfl, hor, _, hb2⟩
      obtain ⟨ad3, cap3, rfl, hc30, _, _⟩ := hor.shape
      obtain ⟨g3, o3, rfl, _, hc3, _⟩ := hor.at (by omega)
      have h30 := hc3 0 (by omega)
      rw [List.getElem?_map, hL0, Nat.add_zero] at h30
      have ho2 := ho.same hb2
      have hbl2 := hbl.below hb2 hlw
      have hbr2 := hbr.trans (hb2.mono hbr.size)
      have hlw2 := Nat.lt_of_lt_of_le hlw hb2.size
      have hsz := hbr2.size
      clear ho hbl hbr hb2 c1 hor hc3 hL0 hcellr
      go_wp2_with (at_builtin; refine wpList_app1 Try.intSl rfl _ _ rfl _ out rfl (ho2.alloc _) (w.heap.size + 1) hf w2.heap.size (f : Int) rfl ?c1 _ (Below.refl _ _) ?c2 hlen ?_)
      case c1 => simp [go_sem]
      case c2 => simp; omega
      intro v' w4 ho4 hf4 hb4 _
      have hbl4 := (hbl2.alloc (.cells #[.int .i64 (f : Int)] 3)).below hb4 (by omega)
      have hbr4 := (hbr2.alloc hsz (.cells #[.int .i64 (f : Int)] 3)).trans (hb4.mono (by omega))
      have hlw4 := hbl4.lt
      clear ho2 hbl2 hbr2 hb4 h30
      have c7 := hP.out.turned q f w4 trivial HQ.out HF.out
      go_wp2_with (first | (refine wpList_load_tower rfl _ rfl w.heap.size q h9q rfl hbl4 ?_))
      refine c7.mono ?_
      rintro e w5 ⟨rfl, hb5⟩
      have ho5 := ho4.same hb5
      have hbl5 := hbl4.below hb5 hlw4
      have hbr5 := hbr4.trans (hb5.mono hbr4.size)
      clear ho4 hbl4 hbr4 hb5 c7
      go_wp2_with (first | (refine wpList_store_tower rfl _ _ rfl w.heap.size q (n.mv q f) h9q h9t rfl rfl hbl5 ?_; intro w6 hbl6 hgr6))
      have ho6 := ho5.grown hgr6 (fun g hg e => by simp at e; have := hf4 g hg; omega)
      have hB6 := hbr5.grown hgr6 hbr5.size (fun k hk => by simp at hk; omega)
      clear ho5 hbr5 hgr6 hbl5
      go_wp2
      go_roundw
      case rel => exact ⟨i + 1, n.mv q f, out ++ [(f : Int)], by omega, by go_num, ho6, hf4, hbl6, HPN, hB6⟩
      case measure => simp [intOf] <;> omega
    · obtain rfl : i = d := by omega
      have hge : (i : Int) ≤ i := Int.le_refl _
      have HG := Lib.hid hp.out.last
      clear hp
      go_wp2
      go_ret
      exact ⟨_, rfl, by rw [← HG.out]; exact ho, hf.mono (Nat.le_succ _), hbr⟩

/-- 's[:h]' of whatever -/
theorem wpList_upto {P : Program} {w : World} {ops : Array Oper} {rest : List Oper} {o : Oper} {a : Act} {Q : Exit → Act → World → Prop}
    (hg : o.guard = none) (x hi : Operand) (t e : TypeId) (hop : o.op = .slice t x none (some hi) none) (i : TypeInfo) (hu : P.underlying t = some (.slice e)) (hi' : P.info? e = some i) (hs1 : i.size = 1)
    (g n cap h : Nat) (hx : a.eval x = .slice (some ⟨g, 0, none⟩) n cap) (H : Int) (hh : a.eval hi = .int .i64 H) (hH : H = (h : Int)) (hle : h ≤ cap) (h0 : 0 < cap)
    (hK : wpList P ops Q rest (a.put o.dst (.slice (some ⟨g, 0, none⟩) h cap)) w) :
    wpList P ops Q (o :: rest) a w := by
  subst hH
  have he : P.elem t = e := by simp [Program.elem, hu]
  have hc : ¬ cap = 0 := by omega
  have hrun : (Instr.sliceAt t (.slice (some ⟨g, 0, none⟩) n cap) none (some (.int .i64 h)) none).run P w = .ok (.slice (some ⟨g, 0, none⟩) h cap) w := by
    rw [run_sliceAt_slice w t _ _ _ _ (by rw [he]; exact hu), run_slice_h w t (some ⟨g, 0, none⟩) n cap (by rw [he]; exact hu) .i64 h (by omega) (by omega)]
    simp [sizeOf, typeInfo, he, hi', hs1, sliced, Result.andThen, hc, Addr.add]
  refine wpList_plain hg fun K' hK' => ?_
  unfold Oper.wp
  simp [execOp, hop, hx, hh, hrun, Result.andThen]
  exact hK' _ _ hK

set_option maxHeartbeats 4000000 in
set_option maxRecDepth 100000 in
theorem wholeWaveR_any (n : Gm) (pt : TypeId) (pv : Value) (FT FD : FuncId) (R : World → Prop) (s : List Int) (w : World) (hn : Hid (GOk n)) (hP : Hid (GPR n pt pv FT FD R)) (hR : Hid (R w)) (hks : n.ks.length ≤ 1000) (hs : Hid (n.St s)) :
    Calls Try.prog 77 #[tw s, .iface pt pv] w fun e w' => ∃ g cap ms, e = .returned (.slice (some ⟨g, 0, none⟩) (gecc n s + 1) cap) ∧ Wv n w' w.heap.size (.slice (some ⟨g, 0, none⟩) (gecc n s + 1 + 1) cap) ms (gnearL n s (gecc n s + 1)) ∧ Below w.heap.size w w' := by
  have h9 := hn.out.le9 hs.out
  have heb := gecc_le hn.out hs.out
  have hdm := hn.out.dm30
  obtain ⟨E, hE⟩ : ∃ E, gecc n s = E := ⟨_, rfl⟩
  have HP := Lib.hid (show ∀ e, 0 < gbyN n s e ↔ e ≤ E from fun e => by rw [← hE]; exact gbyN_pos hn.out hs.out e)
  rw [hE] at heb ⊢
  have hfl := hn.out.total
  obtain ⟨iL, hI, hI0, hI1, hI2⟩ := info_parts Try.infoLy
  have HI := Lib.hid hI
  have HI1 := Lib.hid hI1
  clear hE hI hI0 hI1 hI2
  have hbx0 : Blk (w.alloc (.cells (twl s).toArray 52)) w.heap.size 52 (twl s) := Blk.new w _ (twl s) _ rfl
  have hb00 := below_new w (.cells (twl s).toArray 52)
  have HT := Lib.hid (twl_length s h9)
  go_enter Try.func77, Try.ntmps77
  go_wp2_with (first | (refine wpList_load_tower rfl _ rfl w.heap.size s h9 rfl hbx0 ?_))
  refine (waveFrom_any n s _ hn hs.out).mono ?_
  rintro e w2 ⟨v, b, rfl, hv, hb2⟩
  have hB2 := hb00.trans (hb2.mono hb00.size)
  have hW2 := (oneL hn.out hs.out hv).mono hb00.size
  clear hb2 hv hbx0 hb00
  go_wp2
  go_loopw [5] (fun v3 wr => ∃ (a : Nat) (ms : List Nat), a ≤ E + 1 ∧ Wv n wr w.heap.size v3 ms (gnearL n s a) ∧ Below w.heap.size w wr) (fun v3 _ => n.dm + 5 - wlen v3)
  case atStart => exact ⟨0, [b], Nat.zero_le _, hW2, hB2⟩
  case round =>
    obtain ⟨a, ms, ha, hW, hB⟩ := hrel
    clear hW2 hB2
    have hml : ms.length = a + 1 := by rw [hW.len, gnearL_length]
    have hne : ms ≠ [] := by rintro rfl; simp at hml
    obtain ⟨g, cap, rfl, hg, hgl, hcap, _⟩ := hW.shape hne
    obtain ⟨ba, hba⟩ : ∃ x, ms[a]? = some x := ⟨_, List.getElem?_eq_getElem (by omega)⟩
    have HLAST := Lib.hid (show ms.getLast? = some ba by rw [List.getLast?_eq_getElem?, hml]; exact hba)
    obtain ⟨D, hown, hL⟩ := (hW.lay a ba _ hba (gnearL_get n s a a (Nat.le_refl _))).1
    have HSZ := Lib.hid (show Maps.size D = gbyN n s a from hL.size hn.out (hown.canon keyd))
    have hzb := gbyN_le n s a
    have hzp := HP.out a
    obtain ⟨z, hz⟩ : ∃ z, gbyN n s a = z := ⟨_, rfl⟩
    rw [hz] at hzb hzp HSZ
    have HZP := Lib.hid hzp
    obtain ⟨len, hlen⟩ : ∃ l, ms.length = l := ⟨_, rfl⟩
    have hla1 : len ≤ a + 1 := by omega
    have hla2 : a + 1 ≤ len := by omega
    have HLEN := Lib.hid hlen
    have hl2 : ms.length ≤ 1048576 := by omega
    rw [hlen] at hW hcap ⊢
    clear hml hba hL hz hzp hlen
    have c1 := wlast_any n _ _ ms _ ba wr hW HLAST.out hl2
    go_wp2_with fail
    refine c1.mono ?_
    rintro e w3 ⟨rfl, rfl⟩
    clear c1
    by_cases hle : a ≤ E
    · have hz0 : (0 : Int) < (z : Int) := by have := HZP.out.2 hle; omega
      have c2 := wgrownR_any n pt pv FT FD R w.heap.size (.slice (some ⟨g, 0, none⟩) len cap) ms s a wr hn hP (Lib.hid (hP.out.rb _ _ hR.out hB)) hks hs hW (by omega) hB.size
      rw [HLEN.out] at c2
      go_wp2_with (at_len; refine wpList_len_own _ rfl _ 60 rfl 52 3 Try.underlying60 _ ba n.all.length D rfl hown ?_; rw [HSZ.out])
      refine c2.mono ?_
      rintro e w4 ⟨g4, cap4, b4, rfl, hW4, hg4, _, _⟩
      clear c2
      have hB4 := hB.grown hg4 hB.size (by intro k hk; exact (hW.low (.inl hk)).2)
      go_wp2
      go_roundw
      case rel => exact ⟨a + 1, ms ++ [b4], by omega, hW4, hB4⟩
      case measure => simp [wlen] <;> omega
    · have hz0 : (z : Int) ≤ 0 := by
        have h1 := HZP.out
        have h2 : ¬ 0 < z := fun h => hle (h1.1 h)
        omega
      have hlE : (len : Int) - 1 = ((E + 1 : Nat) : Int) := by omega
      have HLE := Lib.hid hlE
      have hlE2 : len = E + 1 + 1 := by omega
      have haE : a = E + 1 := by omega
      have HAE := Lib.hid haE
      have HLE2 := Lib.hid hlE2
      have hcE : E + 1 ≤ cap := by omega
      have hc0 : 0 < cap := by omega
      clear hlE hlE2 haE
      go_upto_region 4 with (at_len; refine wpList_len_own _ rfl _ 60 rfl 52 3 Try.underlying60 _ ba n.all.length D rfl hown ?_; rw [HSZ.out])
      go_wp2_with (first | (refine wpList_upto rfl _ _ 48 60 rfl iL Try.underlying48 HI.out HI1.out g len cap (E + 1) rfl _ rfl HLE.out hcE hc0 ?_))
      go_ret
      exact ⟨g, cap, ms, rfl, by rw [← HLE2.out, ← HAE.out]; exact hW, hB⟩
theorem wholeWave_any (n : Gm) (pt : TypeId) (pv : Value) (FT FD : FuncId) (s : List Int) (w : World) (hn : Hid (GOk n)) (hP : Hid (GP n pt pv FT FD)) (hks : n.ks.length ≤ 1000) (hs : Hid (n.St s)) :
    Calls Try.prog 77 #[tw s, .iface pt pv] w fun e w' => ∃ g cap ms, e = .returned (.slice (some ⟨g, 0, none⟩) (gecc n s + 1) cap) ∧ Wv n w' w.heap.size (.slice (some ⟨g, 0, none⟩) (gecc n s + 1 + 1) cap) ms (gnearL n s (gecc n s + 1)) ∧ Below w.heap.size w w' :=
  wholeWaveR_any n pt pv FT FD _ s w hn hP (Lib.hid trivial) hks hs


set_option maxHeartbeats 4000000 in
set_option maxRecDepth 100000 in
theorem counts_any (n : Gm) (B g cap L : Nat) (ms : List Nat) (s : List Int) (w1 : World) (hn : Hid (GOk n)) (hs : Hid (n.St s)) (hL : Hid (gecc n s + 1 = L)) (hLb : L ≤ 1001)
    (hW : Wv n w1 B (.slice (some ⟨g, 0, none⟩) (L + 1) cap) ms (gnearL n s L)) :
    Calls Try.prog 56 #[.slice (some ⟨g, 0, none⟩) L cap] w1 fun e w' => ∃ r, e = .returned r ∧ OwnI w' r (gbyL n s) ∧ From w1.heap.size r ∧ Below w1.heap.size w1 w' := by
  obtain ⟨i0, hi, hz0, hz1, hz2⟩ := info_parts Try.info3
  have HI0 := Lib.hid hi
  have HZ0 := Lib.hid hz0
  have HZ1 := Lib.hid hz1
  have HZ2 := Lib.hid hz2
  have hfl := hn.out.total
  have hml : ms.length = L + 1 := by rw [hW.len, gnearL_length]
  have hne : ms ≠ [] := by rintro rfl; simp at hml
  obtain ⟨gg, cc, hsh, _, hgl, hcap, hcl⟩ := hW.shape hne
  simp only [Value.slice.injEq, Option.some.injEq, Addr.mk.injEq, and_true] at hsh
  obtain ⟨rfl, hlx, rfl⟩ := hsh
  have HML := Lib.hid hml
  have HCL := Lib.hid hcl
  have HW := Lib.hid hW
  clear hlx hml hne hcl hW hi hz0 hz1 hz2 hcap
  go_enter Try.func56, Try.ntmps56
  go_wp2_with (at_make; refine wpList_make_full _ rfl _ _ 24 rfl w1.heap.size 3 i0 (.int .i64 0) 1 Try.underlying24 HI0.out HZ0.out HZ1.out _ _ _ _ L rfl rfl rfl rfl ?b1 ?b2 ?b3 ?_)
  case b1 => rw [HZ2.out]; omega
  case b2 => unfold maxLen; omega
  case b3 => exact Nat.le_refl _
  intro w2 hown hgrow
  have ho0 : Hid (OwnI w2 (.slice (some ⟨w1.heap.size, 0, none⟩) L L) (gbyTo n s 0)) := Lib.hid (by
    rw [gbyTo_zero, hL.out]
    exact OwnI.of_made hown)
  have hb12 : Below w1.heap.size w1 w2 := (Below.refl _ _).grown hgrow (Nat.le_refl _) (by intro k hk; cases hk)
  clear hown hgrow
  go_wp2
  go_loopw [4, 5, 11] (fun _ _ iv' wr => ∃ i : Nat, i ≤ L ∧ iv' = .int .i64 i ∧ Hid (OwnI wr (.slice (some ⟨w1.heap.size, 0, none⟩) L L) (gbyTo n s i)) ∧ Below w1.heap.size w1 wr) (fun _ _ i _ => L - (intOf i).toNat)
  case atStart => exact ⟨0, Nat.zero_le _, rfl, ho0, hb12⟩
  case round =>
    obtain ⟨i, hi, rfl, ho, hbr⟩ := hrel
    clear ho0 hb12
    by_cases hlt : i < L
    · have hlt' : (i : Int) < L := by omega
      obtain ⟨bi, hbi⟩ : ∃ x, ms[i]? = some x := ⟨_, List.getElem?_eq_getElem (by rw [HML.out]; omega)⟩
      have hly := (HW.out.lay i bi _ hbi (gnearL_get n s L i (by omega))).1
      have hcell : wr.cell? ⟨g, i, none⟩ = some (mv bi) := (hbr.cell (p := ⟨g, i, none⟩) hgl).trans (HCL.out i bi hbi)
      obtain ⟨D, hown, hL'⟩ := hly.below hbr (Nat.le_refl _)
      have HSZ := Lib.hid (show Maps.size D = gbyN n s i from hL'.size hn.out (hown.canon keyd))
      obtain ⟨hd, hfd, hst⟩ := OwnI.cellAt ho.out i (by rw [gbyTo_length, hL.out]; exact hlt)
      have hst := hst (gbyN n s i : Int)
      rw [gbyTo_set (by have := hL.out; omega)] at hst
      have HST := Lib.hid hst
      have hb2 := hbr.setCell (p := ⟨w1.heap.size, i, none⟩) (Nat.le_refl _) (iv (gbyN n s i : Int))
      have hil : i < L := hlt
      clear hbi hly hL' ho hbr hst
      go_wp2_with (at_len; refine wpList_len_own _ rfl _ 60 rfl 52 3 Try.underlying60 _ bi n.all.length D rfl hown ?_; rw [HSZ.out])
      go_roundw
      case rel => exact ⟨i + 1, by omega, by go_num, HST, hb2⟩
      case measure => simp [intOf] <;> omega
    · obtain rfl : i = L := by omega
      have HE := Lib.hid (show gbyTo n s i = gbyL n s by rw [← hL.out]; exact gbyTo_all n s)
      have hge : (i : Int) ≤ i := Int.le_refl _
      go_wp2
      go_ret
      exact ⟨_, rfl, by rw [← HE.out]; exact ho.out, From.at _ _ _ _ _ (Nat.le_refl _), hbr⟩

end Go.Proofs.Ytdlnniciccpchaa

