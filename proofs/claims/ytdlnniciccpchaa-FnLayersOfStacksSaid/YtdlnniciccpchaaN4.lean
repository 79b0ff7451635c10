import Derived.Test.YtdlnniciccpchaaN1
namespace Go.Proofs.Ytdlnniciccpchaa
open Go Go.RowKit Go.Pan

theorem step_lookup_int {P : Program} {ops : Array Oper} {o : Oper} {a : Act} {w : World} {K : Act → World → Prop} {Q : Exit → Act → World → Prop} {E : Prop} (hg : o.guard = none) (m x : Operand) (t : TypeId) (hop : o.op = Op.lookup t m x false)
    (b : Nat) (key : Value) (v : Value) (hm : a.eval m = .map (some b)) (hx : a.eval x = key) (hrun : (Instr.lookup t (.map (some b)) key false).run P w = .ok v w) (h : K (a.put o.dst v) w) :
    if Region.wanted o (yielded ops a.tmps) = true then Oper.wp P o a w K Q else E := by
  have hw : Region.wanted o (yielded ops a.tmps) = true := by simp [Region.wanted, hg]
  rw [if_pos hw]
  unfold Oper.wp
  simp [execOp, hop, hm, hx, hrun, Result.andThen]
  exact h
theorem step_mapEntry {P : Program} {ops : Array Oper} {o : Oper} {a : Act} {w w1 : World} {K : Act → World → Prop} {Q : Exit → Act → World → Prop} {E : Prop} (hg : o.guard = none) (m x : Operand) (t : TypeId) (hop : o.op = Op.mapEntry t m x)
    (b : Nat) (key : Value) (v : Value) (hm : a.eval m = .map (some b)) (hx : a.eval x = key) (hrun : (Instr.mapEntry t (.map (some b)) key).run P w = .ok v w1) (h : K (a.put o.dst v) w1) :
    if Region.wanted o (yielded ops a.tmps) = true then Oper.wp P o a w K Q else E := by
  have hw : Region.wanted o (yielded ops a.tmps) = true := by simp [Region.wanted, hg]
  rw [if_pos hw]
  unfold Oper.wp
  simp [execOp, hop, hm, hx, hrun, Result.andThen]
  exact h
theorem step_entryStore {P : Program} {ops : Array Oper} {o : Oper} {a : Act} {w w1 : World} {K : Act → World → Prop} {Q : Exit → Act → World → Prop} {E : Prop} (hg : o.guard = none) (m s x : Operand) (t : TypeId) (hop : o.op = Op.entryStore t m s x)
    (b : Nat) (st v : Value) (hm : a.eval m = .map (some b)) (hs : a.eval s = st) (hx : a.eval x = v) (hrun : (Instr.entryStore t (.map (some b)) st v).run P w = .ok () w1) (h : K (a.put o.dst undef) w1) :
    if Region.wanted o (yielded ops a.tmps) = true then Oper.wp P o a w K Q else E := by
  have hw : Region.wanted o (yielded ops a.tmps) = true := by simp [Region.wanted, hg]
  rw [if_pos hw]
  unfold Oper.wp
  simp [execOp, hop, hm, hs, hx, hrun, Result.andThen]
  exact h

/-- done, as what is still to come tells it -/
def dn (left : Lit → Bool) (y : List Int) : Bool := !left (kl y)

/-- what the search asks of its pancakes: their turns, and how they turn -/
structure GPR (n : Gm) (pt : TypeId) (pv : Value) (FT FD : FuncId) (R : World → Prop) : Prop where
  rb : ∀ u u' : World, R u → Below u.heap.size u u' → R u'
  mT : ∀ u : World, Sem.run Try.prog (method 248 pt pv "loop.example/g01221/impl.turns") u = .ok (FT, pv) u
  mD : ∀ u : World, Sem.run Try.prog (method 248 pt pv "loop.example/g01221/impl.turned") u = .ok (FD, pv) u
  cT : ∀ (args : Array Value) (u : World), (callFunc FT args).run Try.prog u = .ok (.enter FT args) u
  cD : ∀ (args : Array Value) (u : World), (callFunc FD args).run Try.prog u = .ok (.enter FD args) u
  turns : ∀ u : World, R u → Calls Try.prog FT #[pv] u fun e w' => ∃ r, e = .returned r ∧ OwnI w' r (n.ks.map fun (j : Nat) => (j : Int)) ∧ From u.heap.size r ∧ Below u.heap.size u w'
  turned : ∀ (q : List Int) (k : Nat) (u : World), R u → n.St q → k ∈ n.ks → Calls Try.prog FD #[pv, tw q, .int .i64 k] u fun e w' => e = .returned (tw (n.mv q k)) ∧ Below u.heap.size u w'
/-- .. pancakes that look at no memory -/
abbrev GP (n : Gm) (pt : TypeId) (pv : Value) (FT FD : FuncId) : Prop := GPR n pt pv FT FD (fun _ => True)

set_option maxHeartbeats 4000000 in
set_option maxRecDepth 100000 in
theorem lbehindR_any (n : Gm) (pt : TypeId) (pv : Value) (FT FD : FuncId) (R : World → Prop) (b : Nat) (c : LC) (M : Nat) (w : World) (hn : Hid (GOk n)) (hP : Hid (GPR n pt pv FT FD R)) (hR : Hid (R w)) (hl : Ly n w b c) (hM : Hid (∀ q, n.St q → c q ≤ M)) (hM2 : M ≤ 1000000000000) (hks : n.ks.length ≤ 1000) :
    Calls Try.prog 76 #[.map (some b), .iface pt pv] w fun e w' => ∃ b', e = .returned (.map (some b')) ∧ Ly n w' b' (gbehC n c) ∧ w.heap.size ≤ b' ∧ Below w.heap.size w w' := by
  obtain ⟨D, hown, hL⟩ := hl
  have hmm := @run_makeMap Try.prog
  have hmk : (w.alloc (.map #[] 0)).ownsMap Try.prog 52 (plainElem (H := Unit) Try.prog 3) w.heap.size 0 (.map []) := World.ownsMap_made _ _ _ _
  have hown1 := hown.alloc (.map #[] 0)
  have hbl := hown.lt
  have HL := Lib.hid hL
  obtain ⟨kz, hkz⟩ : ∃ kz, n.ks.map (fun (j : Nat) => (j : Int)) = kz := ⟨_, rfl⟩
  have hkl : kz.length = n.ks.length := by rw [← hkz]; simp
  have HKA := Lib.hid (show ∀ (i : Nat) (h : i < kz.length) (h2 : i < n.ks.length), kz[i] = ((n.ks[i] : Nat) : Int) by subst hkz; intro i h h2; simp)
  have HKL := Lib.hid hkl
  have hkz3 : kz.length ≤ 1000 := by omega
  have hmT := hP.out.mT
  have hcT := hP.out.cT
  have hmD := hP.out.mD
  have hcD := hP.out.cD
  have hBa : Below w.heap.size w (w.alloc (.map #[] 0)) := (Below.refl w.heap.size w).alloc (Nat.le_refl _) (.map #[] 0)
  have HKZ := Lib.hid hkz
  have hsa : w.heap.size + 1 ≤ (w.alloc (.map #[] 0)).heap.size := by simp
  clear hown hL hkz hkl
  go_enter Try.func76, Try.ntmps76
  go_wp2_with fail
  refine (hP.out.turns _ (hP.out.rb _ _ hR.out hBa)).mono ?_
  rintro e wt ⟨rt, rfl, hot, hft, hbt⟩
  rw [HKZ.out] at hot
  have hmk1 := hmk.kept (grown_of_below hbt none) (by simp)
  have hown2 := hown1.kept (grown_of_below hbt none) (by simp)
  have hBt := hBa.trans (hbt.mono (by simp))
  have hszt := Nat.le_trans hsa hbt.size
  have hft2 : ∀ g, rt.ownBlock = some g → w.heap.size + 1 ≤ g := fun g hg => Nat.le_trans hsa (hft g hg)
  clear hmk hown1 hbt hBa hft hsa
  go_wp2_with (at_range; refine wpList_range_own _ rfl _ 60 rfl 52 3 keyd Try.underlying60 _ b n.all.length D rfl hown2 ?_; intro w0 hrg0 hg0 hs0)
  go_frame
  obtain ⟨r, hr⟩ : ∃ r, wt.heap.size = r := ⟨_, rfl⟩
  have hrb1 : w.heap.size + 1 ≤ r := by rw [← hr]; exact hszt
  rw [hr] at hrg0 ⊢
  have hB0 : Below w.heap.size w w0 := hBt.grown hg0 hBt.size (by intro k hk; cases hk)
  have hmk0 := (hmk1.kept hg0 (by simp)).mono (Nat.zero_le n.all.length)
  have hot0 : OwnI w0 rt kz := Own.grown hot hg0 (by intro g hg e; cases e)
  have HFT := Lib.hid (show ∀ g, rt.ownBlock = some g → w.heap.size + 1 ≤ g ∧ g < r from fun g hg => ⟨hft2 g hg, by rw [← hr]; exact hot.lt g hg⟩)
  have hrb : r ≠ w.heap.size := by omega
  have HLE0 := Lib.hid (show ∀ k, Maps.has D k = true → Maps.has D k = true from fun _ h => h)
  have HM0 := Lib.hid (show Lay n (.map []) (gbehM n c (dn (Maps.has D))) from (Lay.empty n).congr (gbehM_none hn.out (fun y hy hd => by
    unfold dn at hd
    rw [HL.out.has y hy] at hd
    simpa using hd)).symm)
  have HRV := Lib.hid hr
  obtain ⟨adt, capt, rfl, hct, _, _⟩ := hot0.shape
  clear hr hs0 hg0 hmk1 hown2 hot hft2 hszt hBt
  go_loopw [7, 8, 10, 21, 22, 23] (fun _ _ _ _ _ _ wr => ∃ left cnt D', Rg wr n b r D left cnt ∧ wr.ownsMap Try.prog 52 (plainElem Try.prog 3) w.heap.size n.all.length D' ∧ OwnI wr (.slice adt kz.length capt) kz ∧ Hid (Lay n D' (gbehM n c (dn left))) ∧ Hid (∀ k, left k = true → Maps.has D k = true) ∧ Below w.heap.size w wr) (fun _ _ _ _ _ _ wr => wr.rangeLeft b r)
  case atStart => exact ⟨_, _, _, hrg0, hmk0, hot0, HM0, HLE0, hB0⟩
  case round =>
    obtain ⟨left, cnt, D', hrg, hout, hot, hLY, hle, hB⟩ := hrel
    clear hrg0 hmk0 HM0 HLE0 hB0 hot0
    go_wp2_with (at_next; refine wpList_next_ranges _ rfl _ rfl 52 keyd _ (fun x : Value => x) (Value.int .i64) (fun key _ _ => ⟨key, rfl⟩) invVal b r n.all.length D left cnt rfl hrg ?_ ?_)
    · intro _ hl0
      have HE := Lib.hid (show Ly n wr w.heap.size (gbehC n c) from ⟨D', hout, hLY.out.congr (gbehM_all hn.out (fun y _ => by unfold dn; rw [hl0]; rfl))⟩)
      clear hl0
      go_wp2
      go_ret
      exact ⟨_, rfl, HE.out, Nat.le_refl _, hB⟩
    · intro x v k yd yp w1 cnt1 hkey hlk hv hat hrg1 hlt1 hg1 hs1 hen
      obtain ⟨q, hq, rfl, hcq⟩ := left_st HL.out (hle.out _ hlk)
      obtain rfl := key_is hn.out hq hkey
      have hvv : v = (c q : Int) := by
        obtain ⟨v', e1, e2, _⟩ := plainElem_int_inv Try.underlying3 hv
        simp only [Value.int.injEq, true_and] at e1
        subst e1
        have h1 := hat (.lit (.int .i64 0))
        rw [HL.out.val q hq hcq] at h1
        have h2 := congrArg Prod.fst e2
        simp only at h2
        rw [h2] at h1
        simp only [DataW.lit.injEq, Lit.int.injEq, true_and] at h1
        exact h1.symm
      subst hvv
      have hcM := hM.out q hq
      have h9 := hn.out.le9 hq
      have hsr := hB.size
      have hB1 := hB.grown hg1 hsr (by intro k hk; cases hk; omega)
      have hout1 := hout.kept hg1 (by simpa using hrb.symm)
      have hot1 : OwnI w1 (.slice adt kz.length capt) kz := Own.grown hot hg1 (by intro g hg e; cases e; have := HFT.out r hg; omega)
      have HFIRST := Lib.hid (show Lay n D' (gbehN n c (dn (fun z => left z && !z.sameKey (kl q))) q 0) from hLY.out.congr (gbehN_first hn.out (fun y hy hne => by show (!(left (kl y) && !(kl y).sameKey (kl q))) = !left (kl y); rw [strike_other hn.out hq hy hne left]) (by unfold dn; rw [hlk]; rfl)))
      have HLAST := Lib.hid (show dn (fun z => left z && !z.sameKey (kl q)) q = true by show (!(left (kl q) && !(kl q).sameKey (kl q))) = true; rw [strike_self]; rfl)
      have HLE := Lib.hid (show ∀ k, (left k && !k.sameKey (kl q)) = true → Maps.has D k = true from fun k hk => hle.out k (by rw [Bool.and_eq_true] at hk; exact hk.1))
      obtain ⟨left', hleft'⟩ : ∃ l, (fun z => left z && !z.sameKey (kl q)) = l := ⟨_, rfl⟩
      simp only [hleft'] at HFIRST HLAST
      rw [hleft'] at hrg1
      have HLE' := Lib.hid (show ∀ k, left' k = true → Maps.has D k = true from fun k hk => HLE.out k (by rw [← hleft'] at hk; exact hk))
      have hzero : Blk (w1.alloc (.cells (twl []).toArray 52)) w1.heap.size 52 (twl []) := Blk.new _ _ (twl []) _ rfl
      have hs1' : w.heap.size ≤ w1.heap.size := hB1.size
      have hob1 := hout1.lt
      have hbl1 := hrg1.owns.lt
      have hrl1 := hrg1.lt
      have htl1 := hot1.lt
      have HCQ := Lib.hid hcq
      have HQ := Lib.hid hq
      clear hs1 hB hg1 hat hv hleft' HLE hout hot hlk hcq
      go_wp2_with (first | (refine wpList_store_tower rfl _ _ rfl w1.heap.size [] q (by simp) h9 rfl rfl hzero ?_; intro w3 hbT3 hgr3; have hz3 := hbT3.lt))
      have hB3 := (hB1.alloc hs1' (.cells (twl []).toArray 52)).grown hgr3 (by simp; omega) (by intro k hk; cases hk; exact hs1')
      have hout3 := ((hout1.alloc (.cells (twl []).toArray 52)).kept hgr3 (by simp; omega))
      have hrg3 := ((hrg1.alloc (.cells (twl []).toArray 52)).kept hgr3 (by simp; omega) (by simp; omega))
      have hot3 : OwnI w3 (.slice adt kz.length capt) kz := Own.grown (hot1.alloc (.cells (twl []).toArray 52)) hgr3 (by intro g hg e; cases e; have := htl1 _ hg; omega)
      obtain ⟨bx, hbx⟩ : ∃ x, w1.heap.size = x := ⟨_, rfl⟩
      rw [hbx] at hbT3 hob1 hbl1 hrl1 ⊢
      have HTB := Lib.hid (show ∀ g, (Value.slice adt kz.length capt).ownBlock = some g → g ≠ bx ∧ g ≠ w.heap.size from fun g hg => by have h1 := htl1 g hg; have h2 := HFT.out g hg; omega)
      have HBX := Lib.hid hbx
      clear hB1 hzero hgr3 hrg1 hout1 hbx hz3 hot1 htl1
      go_loopw [10, 23] (fun _ kv wr => ∃ (i : Nat) (D2 : DD), kv = .int .i64 i ∧ i ≤ kz.length ∧ Rg wr n b r D left' cnt1 ∧ wr.ownsMap Try.prog 52 (plainElem Try.prog 3) w.heap.size n.all.length D2 ∧ OwnI wr (.slice adt kz.length capt) kz ∧ Hid (Lay n D2 (gbehN n c (dn left') q i)) ∧ Blk wr bx 52 (twl q) ∧ Below w.heap.size w wr) (fun _ kv _ => kz.length - (intOf kv).toNat)
      case atStart => exact ⟨0, D', rfl, by omega, hrg3, hout3, hot3, HFIRST, hbT3, hB3⟩
      case round =>
        obtain ⟨i, D2, rfl, hin, hrgi, houti, hoti, hLi, hbTi, hBi⟩ := hrel
        clear hrg3 hout3 HFIRST hbT3 hB3 hot3
        by_cases hil : i < kz.length
        · have hiK : i < n.ks.length := by rw [← HKL.out]; exact hil
          obtain ⟨K, hK⟩ : ∃ K, n.ks[i] = K := ⟨_, rfl⟩
          have hkk : K ∈ n.ks := by rw [← hK]; exact List.getElem_mem hiK
          have hqt := hn.out.mvSt q K HQ.out hkk
          obtain ⟨gt, ot, rfl, hgt, hcellt, _⟩ := hoti.at (by omega)
          have hckt := hcellt i (by omega)
          rw [List.getElem?_map, List.getElem?_eq_getElem hil, HKA.out i hil hiK, hK] at hckt
          have hra := hbTi.range
          have hlW := hbTi.lt
          have hut := Try.underlying52
          have hs9 : (twl q).length = 9 := twl_length _ h9
          have hsz : (Try.prog.info? 52).map (·.size) = some (twl q).length := by rw [Try.infoT, hs9]
          have hobl := houti.lt
          have hbxo : w.heap.size ≠ bx := by omega
          obtain ⟨q0, hq0⟩ : ∃ q0, n.mv q K = q0 := ⟨_, rfl⟩
          rw [hq0] at hqt
          have hkeyT := key_tw hn.out hqt
          obtain ⟨v0, hv0⟩ : ∃ v, gbehN n c (dn left') q i q0 = v := ⟨_, rfl⟩
          have hv0M : v0 ≤ n.ks.length * M := by rw [← hv0]; exact gbehN_le hn.out hM.out q0 hqt
          have hv0B : v0 ≤ 1000 * 1000000000000 := Nat.le_trans hv0M (Nat.mul_le_mul hks hM2)
          have hat0 := hLi.out.at0 hqt
          rw [hv0] at hat0
          have hfit : n.all.length + 1 < maxLen := by have := hn.out.total; unfold maxLen; omega
          have hwf2 : (Lit.int .i64 ((v0 : Int) + (c q : Nat))).wf = true := WalkArith.wf_i64 (by omega)
          have HNEW := Lib.hid (show Lay n (D2.put (kl q0) (.lit (.int .i64 ((v0 : Int) + (c q : Nat))))) (gbehN n c (dn left') q (i + 1)) from by
            have h1 := hLi.out.put hn.out houti.isMap hqt (v0 + c q) (by have := HCQ.out; omega)
            rw [show (((v0 + c q : Nat) : Nat) : Int) = (v0 : Int) + (c q : Nat) by simp] at h1
            refine h1.congr (fun p hp => ?_)
            rw [gbehN_succ hn.out hiK HQ.out p hp]
            simp only [hK, hq0, hv0])
          have HUT := Lib.hid hs9
          have HQ0 := Lib.hid hq0
          have HKK := Lib.hid hkk
          clear hs9 hq0 hv0 hv0M hK hkk hcellt
          go_wp2_with fail
          have HGT := Lib.hid (HTB.out gt rfl)
          refine wp_region_held_drew (S := (fun w' => w'.rangeAt bx 0 (twl q))) (by kernel_rfl) (hra) (fun hHeld => ?_)
          refine wpAnyH_take (i := 0) (v := ?_) rfl (by kernel_rfl) (by kernel_rfl) (by kernel_rfl) (fun _ _ _ h => h) (Or.inl ⟨by rfl, ?_⟩) (by assumption) ?_
          rotate_left
          · intro w _; go_simp; with_reducible rfl
          try simp only [List.getElem_toArray, List.getElem_cons_zero, Act.put, List.setIfInBounds_toArray, List.set_cons_zero, List.set_cons_succ]
          refine wpAnyH_take (i := 1) (v := ?_) rfl (by kernel_rfl) (by kernel_rfl) (by kernel_rfl) (fun _ _ _ h => h) (Or.inl ⟨by rfl, ?_⟩) (by assumption) ?_
          rotate_left
          · intro w _; go_simp; with_reducible rfl
          try simp only [List.getElem_toArray, List.getElem_cons_zero, List.getElem_cons_succ, Act.put, List.setIfInBounds_toArray, List.set_cons_zero, List.set_cons_succ]
          refine wpAnyH_take (i := 2) rfl (by kernel_rfl) (by kernel_rfl) (by kernel_rfl) (fun _ _ _ h => h) (yieldsIf_load_mid (by rfl) _ _ rfl _ _ rfl _ _ (fun w hw => hw) hut rfl hsz) (by assumption) ?_
          try simp only [List.getElem_toArray, List.getElem_cons_zero, List.getElem_cons_succ, Act.put, List.setIfInBounds_toArray, List.set_cons_zero, List.set_cons_succ]
          refine wpAnyH_take (i := 3) (v := ?_) rfl (by kernel_rfl) (by kernel_rfl) (by kernel_rfl) (fun _ _ _ h => h) (Or.inl ⟨by rfl, ?_⟩) (by assumption) ?_
          rotate_left
          · intro w _; go_simp; with_reducible rfl
          try simp only [List.getElem_toArray, List.getElem_cons_zero, List.getElem_cons_succ, Act.put, List.setIfInBounds_toArray, List.set_cons_zero, List.set_cons_succ]
          refine wpAnyH_take (i := 6) (v := ?_) rfl (by kernel_rfl) (by kernel_rfl) (by kernel_rfl) (fun _ _ _ h => h) (Or.inl ⟨by rfl, ?_⟩) (by assumption) ?_
          rotate_left
          · intro w _; go_simp; with_reducible rfl
          try simp only [List.getElem_toArray, List.getElem_cons_zero, List.getElem_cons_succ, Act.put, List.setIfInBounds_toArray, List.set_cons_zero, List.set_cons_succ]
          refine wpAnyH_ready (rs := [4]) (by kernel_rfl) (by simp) ?_
          refine AllReadyH.cons rfl (fun Kc hK => ?_) AllReadyH.nil
          go_simp
          refine (hP.out.turned q K _ (hP.out.rb _ _ hR.out hBi.drew) HQ.out HKK.out).mono ?_
          rintro e w4 ⟨rfl, hb4⟩
          go_wp2_with fail
          refine hK.out _ _ (range_below hHeld hb4 hlW) (fun hHeld => ?_)
          clear hK Kc
          try simp only [List.getElem_toArray, List.getElem_cons_zero, List.getElem_cons_succ, Act.put, List.setIfInBounds_toArray, List.set_cons_zero, List.set_cons_succ]
          rw [HQ0.out]
          have hout4 := houti.kept (w' := w4) (row := none) ⟨hb4.os, hb4.tape, hb4.output, hb4.size, fun k hk _ => hb4.block k hk⟩ (by simp)
          have hrg4 := hrgi.kept (w' := w4) (row := none) ⟨hb4.os, hb4.tape, hb4.output, hb4.size, fun k hk _ => hb4.block k hk⟩ (by simp) (by simp)
          have hbT4 := hbTi.drew.below hb4 hlW
          have hot4 : OwnI w4 (.slice (some ⟨gt, ot, none⟩) kz.length capt) kz := Own.same hoti.drew hb4
          have hB4 := hBi.drew.trans (hb4.mono hBi.size)
          obtain ⟨c1, st, w5, hme, hat5, hwc5, hout5, hg5, hsz5, hst5⟩ := owns_entry hout4 klaw Try.underlying60 Try.underlying3 zeroI hfit hkeyT
          rw [hat0] at hat5
          simp only [DataW.lit.injEq, Lit.int.injEq, true_and] at hat5
          subst hat5
          obtain ⟨c2, hlk4, hat6, _⟩ := hout4.lookup_int keyd Try.underlying60 Try.underlying3 (zeroI _) hkeyT
          rw [hat0] at hat6
          simp only [DataW.lit.injEq, Lit.int.injEq, true_and] at hat6
          subst hat6
          obtain ⟨c3, hlk5, hat7, _⟩ := hout5.lookup_int keyd Try.underlying60 Try.underlying3 (zeroI _) hkeyT
          rw [Maps.atKey_put_same houti.isMap (kl_key _)] at hat7
          simp only [DataW.lit.injEq, Lit.int.injEq, true_and] at hat7
          subst hat7
          obtain ⟨w6, hst6, hout6, hg6, hsz6⟩ := hst5 w5 ((v0 : Int) + (c q : Nat)) rfl hwf2
          have hsum := IntWalk.i64_in ((v0 : Int) + (c q : Nat)) (by omega)
          have hbT5 := hbT4.grown hg5 (by simpa using hbxo)
          have hbT6 := hbT5.grown hg6 (by simpa using hbxo)
          have hot6 : OwnI w6 (.slice (some ⟨gt, ot, none⟩) kz.length capt) kz := Own.grown (Own.grown hot4 hg5 (by intro g hg e; simp [Value.ownBlock] at hg e; exact HGT.out.2 (by omega))) hg6 (by intro g hg e; simp [Value.ownBlock] at hg e; exact HGT.out.2 (by omega))
          have hHeld5 : w5.rangeAt bx 0 (twl q) := hbT5.range
          have hHeld6 : w6.rangeAt bx 0 (twl q) := hbT6.range
          have hrnb : r ≠ w.heap.size := hrb
          have hrg6 := (hrg4.kept hg5 (by simp; omega) (by simp; omega)).kept hg6 (by simp; omega) (by simp; omega)
          have hout7 := (tight hout6).mono (HNEW.out.size_le hn.out (hout6.canon keyd))
          have hB6 := (hB4.grown hg5 hB4.size (by intro k hk; cases hk; exact Nat.le_refl _)).grown hg6 (by have := hB4.size; omega) (by intro k hk; cases hk; exact Nat.le_refl _)
          have HST6 := Lib.hid hst6
          have HSZ5 := Lib.hid hsz5
          have HSZ6 := Lib.hid hsz6
          clear hst5 hsz5 hsz6 hat0 hbT4 hbT5 hg5 hg6 hB4 hrg4 hout6 hout4 hout5 hbTi hBi hrgi houti hot4 hoti
          refine wpAnyH_ready (rs := [5, 8]) (by kernel_rfl) (by simp) ?_
          refine AllReadyH.cons rfl (fun Kc hK => ?_) (AllReadyH.cons rfl (fun Kc hK => ?_) AllReadyH.nil)
          · refine step_lookup_int rfl _ _ 60 rfl w.heap.size _ _ rfl rfl hlk4 ?_
            refine hK.out _ _ hHeld (fun hHeld => ?_)
            clear hK Kc
            try simp only [List.getElem_toArray, List.getElem_cons_zero, List.getElem_cons_succ, Act.put, List.setIfInBounds_toArray, List.set_cons_zero, List.set_cons_succ]
            refine wpAnyH_take (i := 7) (v := ?_) rfl (by kernel_rfl) (by kernel_rfl) (by kernel_rfl) (fun _ _ _ h => h) (Or.inl ⟨by rfl, ?_⟩) (by assumption) ?_
            rotate_left
            · intro w _; go_simp; with_reducible rfl
            try simp only [List.getElem_toArray, List.getElem_cons_zero, List.getElem_cons_succ, Act.put, List.setIfInBounds_toArray, List.set_cons_zero, List.set_cons_succ]
            refine wpAnyH_ready (rs := [8]) (by kernel_rfl) (by simp) ?_
            refine AllReadyH.cons rfl (fun Kc hK => ?_) AllReadyH.nil
            refine step_mapEntry rfl _ _ 60 rfl w.heap.size _ _ rfl rfl hme ?_
            refine hK.out _ _ hHeld5 (fun hHeld => ?_)
            clear hK Kc
            try simp only [List.getElem_toArray, List.getElem_cons_zero, List.getElem_cons_succ, Act.put, List.setIfInBounds_toArray, List.set_cons_zero, List.set_cons_succ]
            refine wpAnyH_take (i := 9) (v := ?_) rfl (by kernel_rfl) (by kernel_rfl) (by kernel_rfl) (fun _ _ _ h => h) (Or.inl ⟨by rfl, ?_⟩) (by assumption) ?_
            rotate_left
            · intro w _; go_simp; with_reducible rfl
            try simp only [List.getElem_toArray, List.getElem_cons_zero, List.getElem_cons_succ, Act.put, List.setIfInBounds_toArray, List.set_cons_zero, List.set_cons_succ]
            refine wpAnyH_ready (rs := [10]) (by kernel_rfl) (by simp) ?_
            refine AllReadyH.cons rfl (fun Kc hK => ?_) AllReadyH.nil
            refine step_entryStore rfl _ _ _ 60 rfl w.heap.size _ _ rfl rfl rfl HST6.out ?_
            refine hK.out _ _ hHeld6 (fun hHeld => ?_)
            clear hK Kc
            try simp only [List.getElem_toArray, List.getElem_cons_zero, List.getElem_cons_succ, Act.put, List.setIfInBounds_toArray, List.set_cons_zero, List.set_cons_succ]
            refine wpAnyH_done (by kernel_rfl) ?_ _
            go_wp2
            go_roundw
            case rel => exact ⟨i + 1, _, by go_num, by omega, hrg6, hout7, hot6, HNEW, hbT6, hB6⟩
            case measure => simp [intOf] <;> omega
          · refine step_mapEntry rfl _ _ 60 rfl w.heap.size _ _ rfl rfl hme ?_
            refine hK.out _ _ hHeld5 (fun hHeld => ?_)
            clear hK Kc
            try simp only [List.getElem_toArray, List.getElem_cons_zero, List.getElem_cons_succ, Act.put, List.setIfInBounds_toArray, List.set_cons_zero, List.set_cons_succ]
            refine wpAnyH_take (i := 9) (v := ?_) rfl (by kernel_rfl) (by kernel_rfl) (by kernel_rfl) (fun _ _ _ h => h) (Or.inl ⟨by rfl, ?_⟩) (by assumption) ?_
            rotate_left
            · intro w _; go_simp; with_reducible rfl
            try simp only [List.getElem_toArray, List.getElem_cons_zero, List.getElem_cons_succ, Act.put, List.setIfInBounds_toArray, List.set_cons_zero, List.set_cons_succ]
            refine wpAnyH_ready (rs := [5]) (by kernel_rfl) (by simp) ?_
            refine AllReadyH.cons rfl (fun Kc hK => ?_) AllReadyH.nil
            refine step_lookup_int rfl _ _ 60 rfl w.heap.size _ _ rfl rfl hlk5 ?_
            refine hK.out _ _ hHeld5 (fun hHeld => ?_)
            clear hK Kc
            try simp only [List.getElem_toArray, List.getElem_cons_zero, List.getElem_cons_succ, Act.put, List.setIfInBounds_toArray, List.set_cons_zero, List.set_cons_succ]
            refine wpAnyH_take (i := 7) (v := ?_) rfl (by kernel_rfl) (by kernel_rfl) (by kernel_rfl) (fun _ _ _ h => h) (Or.inl ⟨by rfl, ?_⟩) (by assumption) ?_
            rotate_left
            · intro w _; go_simp; with_reducible rfl
            try simp only [List.getElem_toArray, List.getElem_cons_zero, List.getElem_cons_succ, Act.put, List.setIfInBounds_toArray, List.set_cons_zero, List.set_cons_succ]
            refine wpAnyH_ready (rs := [10]) (by kernel_rfl) (by simp) ?_
            refine AllReadyH.cons rfl (fun Kc hK => ?_) AllReadyH.nil
            refine step_entryStore rfl _ _ _ 60 rfl w.heap.size _ _ rfl rfl rfl HST6.out ?_
            refine hK.out _ _ hHeld6 (fun hHeld => ?_)
            clear hK Kc
            try simp only [List.getElem_toArray, List.getElem_cons_zero, List.getElem_cons_succ, Act.put, List.setIfInBounds_toArray, List.set_cons_zero, List.set_cons_succ]
            refine wpAnyH_done (by kernel_rfl) ?_ _
            go_wp2
            go_roundw
            case rel => exact ⟨i + 1, _, by go_num, by omega, hrg6, hout7, hot6, HNEW, hbT6, hB6⟩
            case measure => simp [intOf] <;> omega
        · have hEND : kz.length ≤ i := by omega
          have HEND := Lib.hid (show Lay n D2 (gbehM n c (dn left')) from hLi.out.congr (by
            have e : i = n.ks.length := by have := HKL.out; omega
            rw [e]
            exact gbehN_last hn.out HLAST.out))
          go_wp2
          go_roundw
          case rel => exact ⟨_, _, _, hrgi, houti, hoti, HEND, HLE', hBi⟩
          case measure => rw [hrgi.left_eq, hrg.left_eq]; omega
theorem lbehind_any (n : Gm) (pt : TypeId) (pv : Value) (FT FD : FuncId) (b : Nat) (c : LC) (M : Nat) (w : World) (hn : Hid (GOk n)) (hP : Hid (GP n pt pv FT FD)) (hl : Ly n w b c) (hM : Hid (∀ q, n.St q → c q ≤ M)) (hM2 : M ≤ 1000000000000) (hks : n.ks.length ≤ 1000) :
    Calls Try.prog 76 #[.map (some b), .iface pt pv] w fun e w' => ∃ b', e = .returned (.map (some b')) ∧ Ly n w' b' (gbehC n c) ∧ w.heap.size ≤ b' ∧ Below w.heap.size w w' :=
  lbehindR_any n pt pv FT FD _ b c M w hn hP (Lib.hid trivial) hl hM hM2 hks

end Go.Proofs.Ytdlnniciccpchaa

