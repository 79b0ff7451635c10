import Derived.Test.YticpdlgnaphnkaaKA
import Derived.Test.YticpdlgnaphnkaaG9
namespace Go.Proofs.Yticpdlgnaphnkaa
open Go Go.RowKit Go.Pan

set_option maxHeartbeats 1600000 in
set_option maxRecDepth 100000 in
theorem turnsInto_any (n b : Nat) (c : LC) (q : List Int) (w : World) (hn : Hid (Cnt n)) (hl : Ly n w b c) (hq : Hid (St n q)) :
    Calls Try.prog 83 #[tw q, .map (some b), .int .i64 n] w fun e w' => ∃ r, e = .returned r ∧ OwnI w' r (pickL (fun k => decide (0 < c (turnL q k))) n) ∧ From w.heap.size r ∧ Below w.heap.size w w' := by
  obtain ⟨i0, hi, hz0, hz1, hz2⟩ := info_parts Try.info3
  have h1 := hn.out.pos
  have hl9 := hq.out.1.le9
  have hn9 : n ≤ 9 := by have := hq.out.2; omega
  have HQL := Lib.hid hq.out.2
  obtain ⟨P, hP⟩ : ∃ P : Nat → Bool, P = fun k => decide (0 < c (turnL q k)) := ⟨_, rfl⟩
  have HP := Lib.hid (show ∀ k, decide (0 < c (turnL q k)) = P k by intro k; rw [hP])
  rw [← hP]
  clear hP
  have hbx : Blk (w.alloc (.cells (twl q).toArray 54)) w.heap.size 54 (twl q) := Blk.new w _ (twl q) _ rfl
  have hb0 := below_new w (.cells (twl q).toArray 54)
  have HT := Lib.hid (twl_length q hl9)
  go_enter Try.func83, Try.ntmps83
  go_wp2_with (at_make; refine wpList_make_own _ rfl _ _ 25 rfl (w.heap.size + 1) 3 i0 (.int .i64 0) 1 Try.underlying25 hi hz0 hz1 _ _ _ n rfl rfl rfl ?b1 ?b2 ?b3 ?_)
  case b1 => rw [hz2]; omega
  case b2 => unfold maxLen; omega
  case b3 => simp
  intro w1 hown hgrow
  have ho0 := (Own.of_row hown).1
  have hf0 := (Own.of_row hown).2
  have hbx1 := hbx.grown hgrow (by simp)
  have hb1 := hb0.grown hgrow hb0.size (fun k hk => by simp at hk)
  clear hi hz0 hz1 hz2 hgrow hown hbx hb0
  go_wp2
  go_loopw [7, 8] (fun o i wr => ∃ k : Nat, 1 ≤ k ∧ k ≤ n ∧ i = .int .i64 ((k : Int) + 1) ∧ OwnI wr o (pickL P k) ∧ From (w.heap.size + 1) o ∧ Blk wr w.heap.size 54 (twl q) ∧ Below w.heap.size w wr) (fun _ i _ => n + 1 - (intOf i).toNat)
  case atStart => exact ⟨1, Nat.le_refl _, h1, by go_num, by simpa [pickL_one, OwnI] using ho0, hf0, hbx1, hb1⟩
  case round =>
    obtain ⟨k, hk1, hk, rfl, ho, hf, hbl, hbr⟩ := hrel
    by_cases hlt : k < n
    · have hle : (k : Int) + 1 ≤ n := by omega
      have hlen : (pickL P k).length ≤ 1048576 := by have := pickL_length P k; omega
      have c1 := turned_any q (k + 1) wr hl9 (by have := HQL.out; omega)
      rw [Int.natCast_add, Int.natCast_one] at c1
      have hlw := hbl.lt
      clear ho0 hf0 hbx1 hb1
      go_wp2_with (first | (refine wpList_load_tower rfl _ rfl w.heap.size q hl9 rfl hbl ?_))
      refine c1.mono ?_
      rintro e w2 ⟨rfl, hb2⟩
      have ho2 := ho.same hb2
      have hbl2 := hbl.below hb2 hlw
      have hbr2 := hbr.trans (hb2.mono hbr.size)
      have hlw2 := Nat.lt_of_lt_of_le hlw hb2.size
      clear ho hbl hbr hb2 c1
      have c2 := lhas_any n b c (turnL q (k + 1)) w2 (hl.below hbr2 (Nat.le_refl _)) (hq.out.turn (k + 1))
      rw [HP.out] at c2
      cases hp : P (k + 1) with
      | true =>
        rw [hp] at c2
        have HS := Lib.hid (pickL_yes hk1 hp)
        clear hp
        go_wp2_with fail
        refine c2.mono ?_
        rintro e w3 ⟨rfl, hb3⟩
        have ho3 := ho2.same hb3
        have hbl3 := hbl2.below hb3 hlw2
        have hbr3 := hbr2.trans (hb3.mono hbr2.size)
        have hsz := hbr3.size
        have hlw3 := Nat.lt_of_lt_of_le hlw2 hb3.size
        clear ho2 hbl2 hbr2 hb3 c2
        go_wp2_with (at_builtin; refine wpList_app1 Try.intSl rfl _ _ rfl _ (pickL P k) rfl (ho3.alloc _) (w.heap.size + 1) hf w3.heap.size ((k : Int) + 1) rfl ?c1 _ (Below.refl _ _) ?c2 hlen ?_)
        case c1 => simp [go_sem]
        case c2 => simp; omega
        intro v' w4 ho' hf' hb' _
        have hbl' := (hbl3.alloc (.cells #[.int .i64 ((k : Int) + 1)] 3)).below hb' (by omega)
        have hbr' := (hbr3.alloc hsz (.cells #[.int .i64 ((k : Int) + 1)] 3)).trans (hb'.mono (by omega))
        rw [← HS.out] at ho'
        clear HS ho3 hf hbr3 hbl3
        go_wp2
        go_roundw
        case rel => exact ⟨k + 1, by omega, by omega, by go_num, ho', hf', hbl', hbr'⟩
        case measure => simp [intOf] <;> omega
      | false =>
        rw [hp] at c2
        have HS := Lib.hid (pickL_no hk1 hp)
        clear hp
        go_wp2_with fail
        refine c2.mono ?_
        rintro e w3 ⟨rfl, hb3⟩
        have ho3 := ho2.same hb3
        have hbl3 := hbl2.below hb3 hlw2
        have hbr3 := hbr2.trans (hb3.mono hbr2.size)
        clear ho2 hbl2 hbr2 hb3 c2
        go_wp2
        go_roundw
        case rel => exact ⟨k + 1, by omega, by omega, by go_num, by rw [HS.out]; exact ho3, hf, hbl3, hbr3⟩
        case measure => simp [intOf] <;> omega
    · obtain rfl : k = n := by omega
      have hle : (k : Int) < k + 1 := by omega
      clear ho0 hf0 hbx1 hb1
      go_wp2_with fail
      refine (Clip_any _ _ _ ho).mono ?_
      rintro e w2 ⟨r, rfl, hor, hob, rfl⟩
      have hfr : From w.heap.size r := fun g hg => Nat.le_of_succ_le (hf g (by rw [← hob]; exact hg))
      clear hob
      go_wp2
      go_ret
      exact ⟨_, rfl, hor, hfr, hbr⟩

theorem wpList_fromOwnM {P : Program} {w : World} {ops : Array Oper} {rest : List Oper} {o : Oper} {a : Act} {Q : Exit → Act → World → Prop}
    (hg : o.guard = none) (x lo : Operand) (t e : TypeId) (hop : o.op = .slice t x (some lo) none none) (i : TypeInfo) (hu : P.underlying t = some (.slice e)) (hi : P.info? e = some i) (hs1 : i.size = 1)
    (ad : Option Addr) (n cap k : Nat) (K : Int) (hx : a.eval x = .slice ad n cap) (hl : a.eval lo = .int .i64 K) (hKk : K = (k : Int)) (hk : k ≤ n) (cs : List Value) (hown : Own w 1 (.slice ad n cap) n cs) (m : Nat) (hm : n - k = m)
    (hK : ∀ sp c, Own w 1 (.slice sp m c) m (cs.drop k) → (Value.slice sp m c).ownBlock = (Value.slice ad n cap).ownBlock → wpList P ops Q rest (a.put o.dst (.slice sp m c)) w) :
    wpList P ops Q (o :: rest) a w := by
  subst hm
  exact wpList_fromOwn hg x lo t e hop i hu hi hs1 ad n cap k K hx hl hKk hk cs hown hK

set_option maxHeartbeats 4000000 in
set_option maxRecDepth 100000 in
theorem firstPlan_any (n d B g cap : Nat) (ms : List Nat) (s t : List Int) (w : World) (hn : Hid (Cnt n)) (hs : Hid (St n s)) (ht : Hid (St n t)) (hd : Hid (far n s t = d)) (hd2 : d + 1 ≤ 1048576)
    (h : Wv n w B (.slice (some ⟨g, 0, none⟩) (d + 1) cap) ms (wayP n s t d d)) :
    Calls Try.prog 79 #[tw s, .slice (some ⟨g, 0, none⟩) (d + 1) cap, .int .i64 n] w fun e w' => ∃ r, e = .returned r ∧ OwnI w' r (goL n t d s) ∧ From w.heap.size r ∧ Below w.heap.size w w' := by
  have hml : ms.length = d + 1 := by rw [h.len, wayP_length]
  have HML := Lib.hid hml
  have h9 := hs.out.1.le9
  have hown0 : Own w 1 (.slice (some ⟨g, 0, none⟩) (d + 1) cap) (d + 1) (ms.map mv) := (Own.of_row (show w.ownsRow B 68 1 (.slice (some ⟨g, 0, none⟩) (d + 1) cap) (d + 1) (ms.map mv) by have := h.own; rw [hml] at this; exact this)).1
  have HW := Lib.hid h
  obtain ⟨iL, hI, hI0, hI1, hI2⟩ := info_parts Try.infoLy
  have HI := Lib.hid hI
  have HI1 := Lib.hid hI1
  obtain ⟨i0, hi, hz0, hz1, hz2⟩ := info_parts Try.info3
  have hbx : Blk (w.alloc (.cells (twl s).toArray 54)) w.heap.size 54 (twl s) := Blk.new w _ (twl s) _ rfl
  have hb0 := below_new w (.cells (twl s).toArray 54)
  have c0 := wturns_any (some ⟨g, 0, none⟩) (d + 1) cap (w.alloc (.cells (twl s).toArray 54)) hd2
  rw [Nat.add_sub_cancel] at c0
  clear hI hI0 hI1 hI2 h hml
  go_enter Try.func79, Try.ntmps79
  go_wp2_with fail
  refine c0.mono ?_
  rintro e w0 ⟨rfl, rfl⟩
  clear c0
  have hl1 : (1 : Int) ≤ ((d + 1 : Nat) : Int) := by omega
  go_wp2_with (first
    | (at_make; refine wpList_make_own _ rfl _ _ 25 rfl (w.heap.size + 1) 3 i0 (.int .i64 0) 1 Try.underlying25 hi hz0 hz1 _ _ _ d rfl rfl rfl ?b1 ?b2 ?b3 ?_))
  case b1 => rw [hz2]; omega
  case b2 => unfold maxLen; omega
  case b3 => simp
  intro w1 hown hgrow
  have ho0 := (Own.of_row hown).1
  have hf0 := (Own.of_row hown).2
  have hbx1 := hbx.grown hgrow (by simp)
  have hb1 := hb0.grown hgrow hb0.size (fun k hk => by simp at hk)
  have hown1 := hown0.same hb1
  clear hi hz0 hz1 hz2 hgrow hown hbx hb0
  go_wp2_with (refine wpList_fromOwnM rfl _ _ 61 68 rfl iL Try.underlying61 HI.out HI1.out _ (d + 1) cap 1 _ rfl rfl rfl (by omega) _ hown1 d rfl ?_; intro sp c hsub hsb)
  rw [← List.map_drop] at hsub
  have HSUB := Lib.hid hsub
  have HSB := Lib.hid hsb
  have hp0 := Lib.hid (PathAt.start hs.out hd.out)
  have hsz1 := hb1.size
  have hwb := hb1
  clear hsub hsb hown0 hown1
  go_loopw [7, 9, 10, 17] (fun o _ _ iv' wr => ∃ (i : Nat) (q out : List Int), i ≤ d ∧ iv' = .int .i64 i ∧ OwnI wr o out ∧ From (w.heap.size + 1) o ∧ Blk wr w.heap.size 54 (twl q) ∧ Hid (PathAt n s t d i q out) ∧ Below w.heap.size w wr) (fun _ _ _ i _ => d - (intOf i).toNat)
  case atStart => exact ⟨0, s, [], Nat.zero_le _, rfl, by simpa [OwnI] using ho0, hf0, hbx1, hp0, hb1⟩
  case round =>
    obtain ⟨i, q, out, hid', rfl, ho, hf, hbl, hp, hbr⟩ := hrel
    clear ho0 hf0 hbx1 hb1 hp0
    by_cases hlt : i < d
    · have hlt' : (i : Int) < d := by omega
      have h9q := hp.out.st.1.le9
      have HQ := Lib.hid hp.out.st
      obtain ⟨gs, os, rfl, hgs, hcs, _⟩ := Own.at HSUB.out (by obtain ⟨_, _, he, h1, _⟩ := HSUB.out.shape; simp only [Value.slice.injEq] at he; obtain ⟨_, _, he⟩ := he; omega)
      have hgg : gs = g := by have := HSB.out; simpa [Value.ownBlock] using this
      obtain ⟨bj, hbj⟩ : ∃ x, (ms.drop 1)[i]? = some x := ⟨_, List.getElem?_eq_getElem (by rw [List.length_drop, HML.out]; omega)⟩
      have hbj2 : ms[i + 1]? = some bj := by rw [← hbj, List.getElem?_drop, Nat.add_comm]
      have hly := (HW.out.lay (i + 1) bj _ hbj2 (wayP_get n s t d d (i + 1) (by omega))).1
      subst hgg
      have hgw : gs < w.heap.size := (HW.out.low (.inl rfl)).1
      have hcell := hcs i (by omega)
      rw [List.getElem?_map, hbj] at hcell
      have hcellr : wr.cell? ⟨gs, os + i, none⟩ = some (mv bj) := (hbr.cell (p := ⟨gs, os + i, none⟩) hgw).trans ((hwb.cell (p := ⟨gs, os + i, none⟩) hgw).symm.trans hcell)
      obtain ⟨rest, hinto⟩ := hp.out.into hs.out ht.out hd.out hlt
      have hlyr := hly.below hbr (Nat.le_refl _)
      have hlw := hbl.lt
      have c1 := turnsInto_any n bj _ q wr hn hlyr HQ
      rw [hinto] at c1
      have hf12 := (firK_spec hp.out.st ht.out (hp.out.more hlt)).1
      have HPN := Lib.hid (hp.out.next hs.out ht.out hd.out hlt)
      have hlen : out.length ≤ 1048576 := by have := hp.out.len; omega
      obtain ⟨f, hfe⟩ : ∃ f, firK n t q = f := ⟨_, rfl⟩
      rw [hfe] at c1 hf12 HPN
      obtain ⟨L, hL⟩ : ∃ L, (f : Int) :: rest = L := ⟨_, rfl⟩
      have hL0 : L[0]? = some (f : Int) := by rw [← hL]; rfl
      have hLl : 0 < L.length := by rw [← hL]; simp
      have hLli : (0 : Int) < L.length := by omega
      rw [hL] at c1
      have hfq : f ≤ q.length := by have := HQ.out.2; omega
      have h9t : (turnL q f).length ≤ 9 := (HQ.out.turn f).1.le9
      clear hcs hbj hbj2 hly hcell hinto hfe hL hlyr hp
      go_wp2_with (first | (refine wpList_load_tower rfl _ rfl w.heap.size q h9q rfl hbl ?_))
      refine c1.mono ?_
      rintro e w2 ⟨r, rfl, hor, _, hb2⟩
      obtain ⟨ad3, cap3, rfl, hc30, _, _⟩ := hor.shape
      obtain ⟨g3, o3, rfl, _, hc3, _⟩ := hor.at (by omega)
      have h30 := hc3 0 (by omega)
      rw [List.getElem?_map, hL0, Nat.add_zero] at h30
      have ho2 := ho.same hb2
      have hbl2 := hbl.below hb2 hlw
      have hbr2 := hbr.trans (hb2.mono hbr.size)
      have hlw2 := Nat.lt_of_lt_of_le hlw hb2.size
      have hsz := hbr2.size
      clear ho hbl hbr hb2 c1 hor hc3 hL0 hcellr
      go_wp2_with (at_builtin; refine wpList_app1 Try.intSl rfl _ _ rfl _ out rfl (ho2.alloc _) (w.heap.size + 1) hf w2.heap.size (f : Int) rfl ?c1 _ (Below.refl _ _) ?c2 hlen ?_)
      case c1 => simp [go_sem]
      case c2 => simp; omega
      intro v' w4 ho4 hf4 hb4 _
      have hbl4 := (hbl2.alloc (.cells #[.int .i64 (f : Int)] 3)).below hb4 (by omega)
      have hbr4 := (hbr2.alloc hsz (.cells #[.int .i64 (f : Int)] 3)).trans (hb4.mono (by omega))
      have hlw4 := hbl4.lt
      clear ho2 hbl2 hbr2 hb4 h30
      have c7 := turned_any q f w4 h9q hfq
      go_wp2_with (first | (refine wpList_load_tower rfl _ rfl w.heap.size q h9q rfl hbl4 ?_))
      refine c7.mono ?_
      rintro e w5 ⟨rfl, hb5⟩
      have ho5 := ho4.same hb5
      have hbl5 := hbl4.below hb5 hlw4
      have hbr5 := hbr4.trans (hb5.mono hbr4.size)
      clear ho4 hbl4 hbr4 hb5 c7
      go_wp2_with (first | (refine wpList_store_tower rfl _ _ rfl w.heap.size q (turnL q f) h9q h9t rfl rfl hbl5 ?_; intro w6 hbl6 hgr6))
      have ho6 := ho5.grown hgr6 (fun g hg e => by simp at e; have := hf4 g hg; omega)
      have hB6 := hbr5.grown hgr6 hbr5.size (fun k hk => by simp at hk; omega)
      clear ho5 hbr5 hgr6 hbl5
      go_wp2
      go_roundw
      case rel => exact ⟨i + 1, turnL q f, out ++ [(f : Int)], by omega, by go_num, ho6, hf4, hbl6, HPN, hB6⟩
      case measure => simp [intOf] <;> omega
    · obtain rfl : i = d := by omega
      have hge : (i : Int) ≤ i := Int.le_refl _
      have HG := Lib.hid hp.out.last
      clear hp
      go_wp2
      go_ret
      exact ⟨_, rfl, by rw [← HG.out]; exact ho, hf.mono (Nat.le_succ _), hbr⟩

set_option maxHeartbeats 1600000 in
set_option maxRecDepth 100000 in
theorem LeastPlan_any (v : Value) (xs : List Int) (w : World) (hv : OwnI w v xs) (hn : xs.length ≤ 1048576) :
    Calls Try.prog 33 #[v] w fun e w' => ∃ r, e = .returned (.tuple #[r, .bool (farB xs)]) ∧ OwnI w' r (mLeastPlan xs) ∧ From w.heap.size r ∧ Below w.heap.size w w' := by
  cases hg : farB xs with
  | true =>
    have HM := Lib.hid (show mLeastPlan xs = goL xs.length (ramp 1 xs.length) (farS xs) xs from if_pos hg)
    have hG := (farB_iff.1 hg).1
    have hle := farS_le hG
    have h9 := hG.le9
    have c := wayHome_yes _ xs w hv hn hg
    have HC := Lib.hid hG.cnt
    have HS := Lib.hid hG.st
    have HH := Lib.hid hG.home
    have HD := Lib.hid (show far xs.length xs (ramp 1 xs.length) = farS xs from rfl)
    obtain ⟨ad, cap, rfl, _, _, _⟩ := hv.shape
    obtain ⟨d, hd⟩ : ∃ d, farS xs = d := ⟨_, rfl⟩
    rw [hd] at c HM hle HD
    have hd2 : d + 1 ≤ 1048576 := by omega
    clear hG hg hd
    go_enter Try.func33, Try.ntmps33
    go_wp2_with fail
    refine c.mono ?_
    rintro e w1 ⟨g, cap2, ms, rfl, hW, hb1⟩
    clear c
    go_wp2_with fail
    refine (towerOf_any _ xs w1 (hv.same hb1) h9).mono ?_
    rintro e w2 ⟨rfl, hb2⟩
    have hW2 := hW.below hb2 (Nat.le_refl _)
    have hB2 := hb1.trans (hb2.mono hb1.size)
    have c3 := firstPlan_any xs.length d _ g cap2 ms xs (ramp 1 xs.length) w2 HC HS HH HD hd2 hW2
    clear hW hW2
    go_wp2_with fail
    refine c3.mono ?_
    rintro e w3 ⟨r, rfl, ho, hf, hb3⟩
    go_wp2
    go_ret2
    exact ⟨_, rfl, by rw [HM.out]; exact ho, hf.mono hB2.size, hB2.trans (hb3.mono hB2.size)⟩
  | false =>
    have HM := Lib.hid (show mLeastPlan xs = [] from if_neg (by rw [hg]; exact Bool.false_ne_true))
    have c := wayHome_no _ xs w hv hn hg
    obtain ⟨ad, cap, rfl, _, _, _⟩ := hv.shape
    clear hg
    go_enter Try.func33, Try.ntmps33
    go_wp2_with fail
    refine c.mono ?_
    rintro e w1 ⟨rfl, hb1⟩
    clear c
    go_wp2
    go_ret2
    exact ⟨_, rfl, by rw [HM.out]; exact OwnI.nil _, From.nil _ _ _, hb1⟩

set_option maxHeartbeats 1600000 in
set_option maxRecDepth 100000 in
theorem PlanBetween_any (v : Value) (xs : List Int) (u : Value) (ys : List Int) (w : World) (hv : OwnI w v xs) (hn : xs.length ≤ 1048576) (hu : OwnI w u ys) (hm : ys.length ≤ 1048576) :
    Calls Try.prog 50 #[v, u] w fun e w' => ∃ r, e = .returned (.tuple #[r, .bool (twoB xs ys)]) ∧ OwnI w' r (mPlanBetween xs ys) ∧ From w.heap.size r ∧ Below w.heap.size w w' := by
  cases hg : twoB xs ys with
  | true =>
    have HM := Lib.hid (show mPlanBetween xs ys = goL xs.length ys (far2 xs ys) xs from if_pos hg)
    obtain ⟨hG, h7, hH, hl⟩ := twoB_iff.1 hg
    have hle : far2 xs ys ≤ 2 * xs.length := (far_spec hG.st ⟨hH, hl.symm⟩).2.1
    have h9 := hG.le9
    have c := wayBetween_yes _ _ xs ys w hv hn hu hm hg
    have HC := Lib.hid hG.cnt
    have HS := Lib.hid hG.st
    have HH := Lib.hid (show St xs.length ys from ⟨hH, hl.symm⟩)
    have HD := Lib.hid (show far xs.length xs ys = far2 xs ys from rfl)
    obtain ⟨ad, cap, rfl, _, _, _⟩ := hv.shape
    obtain ⟨ad2, cap2, rfl, _, _, _⟩ := hu.shape
    obtain ⟨d, hd⟩ : ∃ d, far2 xs ys = d := ⟨_, rfl⟩
    rw [hd] at c HM hle HD
    have hd2 : d + 1 ≤ 1048576 := by omega
    clear hG hg hd hH hl
    go_enter Try.func50, Try.ntmps50
    go_wp2_with fail
    refine c.mono ?_
    rintro e w1 ⟨g, cap3, ms, rfl, hW, hb1⟩
    clear c
    go_wp2_with fail
    refine (towerOf_any _ xs w1 (hv.same hb1) h9).mono ?_
    rintro e w2 ⟨rfl, hb2⟩
    have hW2 := hW.below hb2 (Nat.le_refl _)
    have hB2 := hb1.trans (hb2.mono hb1.size)
    have c3 := firstPlan_any xs.length d _ g cap3 ms xs ys w2 HC HS HH HD hd2 hW2
    clear hW hW2
    go_wp2_with fail
    refine c3.mono ?_
    rintro e w3 ⟨r, rfl, ho, hf, hb3⟩
    go_wp2
    go_ret2
    exact ⟨_, rfl, by rw [HM.out]; exact ho, hf.mono hB2.size, hB2.trans (hb3.mono hB2.size)⟩
  | false =>
    have HM := Lib.hid (show mPlanBetween xs ys = [] from if_neg (by rw [hg]; exact Bool.false_ne_true))
    have c := wayBetween_no _ _ xs ys w hv hn hu hm hg
    obtain ⟨ad, cap, rfl, _, _, _⟩ := hv.shape
    obtain ⟨ad2, cap2, rfl, _, _, _⟩ := hu.shape
    clear hg
    go_enter Try.func50, Try.ntmps50
    go_wp2_with fail
    refine c.mono ?_
    rintro e w1 ⟨rfl, hb1⟩
    clear c
    go_wp2
    go_ret2
    exact ⟨_, rfl, by rw [HM.out]; exact OwnI.nil _, From.nil _ _ _, hb1⟩

set_option maxHeartbeats 1600000 in
set_option maxRecDepth 100000 in
theorem CloserTurns_any (v : Value) (xs : List Int) (w : World) (hv : OwnI w v xs) (hn : xs.length ≤ 1048576) :
    Calls Try.prog 37 #[v] w fun e w' => ∃ r, e = .returned (.tuple #[r, .bool (farB xs)]) ∧ OwnI w' r (mCloserTurns xs) ∧ From w.heap.size r ∧ Below w.heap.size w w' := by
  cases hg : farB xs with
  | true =>
    have HM := Lib.hid (show mCloserTurns xs = pickL (clo xs.length (ramp 1 xs.length) xs) xs.length from if_pos hg)
    have hG := (farB_iff.1 hg).1
    have hle := farS_le hG
    have h9 := hG.le9
    have c := wayHome_yes _ xs w hv hn hg
    have HC := Lib.hid hG.cnt
    have HS := Lib.hid hG.st
    have HH := Lib.hid hG.home
    have HD := Lib.hid (show far xs.length xs (ramp 1 xs.length) = farS xs from rfl)
    obtain ⟨ad, cap, rfl, _, _, _⟩ := hv.shape
    obtain ⟨d, hd⟩ : ∃ d, farS xs = d := ⟨_, rfl⟩
    rw [hd] at c hle HD
    have hd2 : d + 1 ≤ 1048576 := by omega
    clear hG hg hd
    cases d with
    | zero =>
      have HN := Lib.hid (show mCloserTurns xs = [] by
        rw [HM.out]
        have h : ∀ k ∈ ks xs.length, clo xs.length (ramp 1 xs.length) xs k = (fun _ => false) k := fun k _ => by
          unfold clo
          rw [HD.out]
          simp
        rw [pickL_congr h]
        simp [pickL])
      go_enter Try.func37, Try.ntmps37
      go_wp2_with fail
      refine c.mono ?_
      rintro e w1 ⟨g, cap2, ms, rfl, hW, hb1⟩
      clear c
      go_wp2_with fail
      refine (wturns_any _ (0 + 1) _ w1 hd2).mono ?_
      rintro e w2 ⟨rfl, rfl⟩
      go_wp2
      go_ret2
      exact ⟨_, rfl, by rw [HN.out]; exact OwnI.nil _, From.nil _ _ _, hb1⟩
    | succ d =>
      have HP := Lib.hid (show pickL (fun k => decide (0 < wayC xs.length xs (ramp 1 xs.length) 1 (d + 1 - 1) (turnL xs k))) xs.length = mCloserTurns xs by
        rw [HM.out]
        exact pickL_congr (fun k hk => layer_clo (i := 0) (d := d) HS.out HH.out HS.out ((far_zero HS.out HS.out).2 rfl) (by rw [HD.out]) (by rw [HD.out]; omega) hk))
      have hd1 : ((d + 1 : Nat) : Int) ≠ 0 := by omega
      obtain ⟨m, hm⟩ : ∃ m, d + 1 + 1 = m := ⟨_, rfl⟩
      have HMD := Lib.hid hm
      rw [hm] at c hd2
      have hl2 : (1 : Int) < (m : Int) := by omega
      have hl2n : 1 < m := by omega
      clear hm
      go_enter Try.func37, Try.ntmps37
      go_wp2_with fail
      refine c.mono ?_
      rintro e w1 ⟨g, cap2, ms, rfl, hW, hb1⟩
      clear c
      have c2 := wturns_any (some ⟨g, 0, none⟩) m cap2 w1 hd2
      rw [show m - 1 = d + 1 by have := HMD.out; omega] at c2
      go_wp2_with fail
      refine c2.mono ?_
      rintro e w2 ⟨rfl, rfl⟩
      clear c2
      have hml : ms.length = d + 1 + 1 := by rw [hW.len, wayP_length]
      obtain ⟨b1, hb⟩ : ∃ x, ms[1]? = some x := ⟨_, List.getElem?_eq_getElem (by omega)⟩
      have hly := (hW.lay 1 b1 _ hb (wayP_get _ _ _ (d + 1) (d + 1) 1 (by omega))).1
      have hne : ms ≠ [] := by rintro rfl; simp at hml
      obtain ⟨gg, cc, hsh, _, hgl, _, hcl⟩ := hW.shape hne
      simp only [Value.slice.injEq, Option.some.injEq, Addr.mk.injEq, and_true] at hsh
      obtain ⟨rfl, hlx, rfl⟩ := hsh
      have hc1 := hcl 1 b1 hb
      clear hlx
      have hv1 : OwnI w1 (.slice ad xs.length cap) xs := (show OwnI w (.slice ad xs.length cap) xs from hv).same hb1
      clear hW hcl hml hb hne
      go_wp2_with fail
      go_region_held3 (fun w' => w'.cell? ⟨g, 1, none⟩ = some (mv b1)) (first | exact hc1 | exact k1)
        (first
          | (go_at_call 78; refine (towerOf_any _ xs _ (hv1.same (Below.refl _ _).drew) h9).mono ?_; rintro e w3 ⟨rfl, hb3⟩; have k1 := (hb3.cell (p := ⟨g, 1, none⟩) hgl).trans hc1)
          | (go_at_call 83; refine (turnsInto_any xs.length b1 _ xs w3 HC (hly.below ((Below.refl _ _).drew.trans hb3) (Nat.le_refl _)) HS).mono ?_; rintro e w4 ⟨r, rfl, ho, hf, hb4⟩; have k1 := (hb4.cell (p := ⟨g, 1, none⟩) (Nat.lt_of_lt_of_le hgl hb3.size)).trans k1))
      have hz3 := (Below.refl w1.heap.size w1).drew.trans hb3
      have hB3 := hb1.trans (hz3.mono hb1.size)
      go_wp2
      go_ret2
      exact ⟨_, rfl, by rw [← HP.out]; exact ho, hf.mono hB3.size, hB3.trans (hb4.mono hB3.size)⟩
  | false =>
    have HM := Lib.hid (show mCloserTurns xs = [] from if_neg (by rw [hg]; exact Bool.false_ne_true))
    have c := wayHome_no _ xs w hv hn hg
    obtain ⟨ad, cap, rfl, _, _, _⟩ := hv.shape
    clear hg
    go_enter Try.func37, Try.ntmps37
    go_wp2_with fail
    refine c.mono ?_
    rintro e w1 ⟨rfl, hb1⟩
    clear c
    go_wp2_with fail
    refine (wturns_any _ 0 _ w1 (Nat.zero_le _)).mono ?_
    rintro e w2 ⟨rfl, rfl⟩
    go_wp2
    go_ret2
    exact ⟨_, rfl, by rw [HM.out]; exact OwnI.nil _, From.nil _ _ _, hb1⟩
end Go.Proofs.Yticpdlgnaphnkaa
