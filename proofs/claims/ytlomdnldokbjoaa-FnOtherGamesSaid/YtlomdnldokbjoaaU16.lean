import Derived.Test.YtlomdnldokbjoaaU13
import Derived.Test.YtlomdnldokbjoaaU15
namespace Go.Proofs.Ytlomdnldokbjoaa
open Go Go.RowKit Go.Pan

-- CountGame, both sides
theorem step_append_ownX {P : Program} {w : World} {ops : Array Oper} {o : Oper} {a : Act} {K : Act → World → Prop} {Q : Exit → Act → World → Prop} {E : Prop} (hgd : o.guard = none) (s x : Operand) (t : TypeId)
    (ho : o.op = .call { callee := .builtin .append, args := #[s, x], argTypes := #[t, t] })
    (base : Nat) (e : TypeId) (i : TypeInfo) (z : Value) (size bytes : Nat) (ht : P.underlying t = some (.slice e)) (hi : P.info? e = some i) (hz : i.zero = some z)
    (hsize : i.size = size) (hby : i.bytes = bytes) (hzs : z.cells.size = size) (hsz : 0 < size)
    (v : Value) (n : Nat) (xs : List Value) (hs : a.eval s = v) (hown : w.ownsRow base e size v n xs)
    (ad : Addr) (m c : Nat) (news : List Value) (hx : a.eval x = .slice (some ad) m c) (hl : news.length = m * size) (hnews : ∀ j u, news[j]? = some u → w.cell? (ad.add j) = some u) (h1 : ∀ u ∈ news, u.oneCell' = true)
    (h63 : n + m ≤ maxLen) (hbytes : (n + m) * bytes ≤ 140737488355328) (hbase : base ≤ w.heap.size)
    (h : ∀ v' w', w'.ownsRow base e size v' (n + m) (xs ++ news) → w.grownBy w' v.ownBlock → K (a.put o.dst v') w') :
    if Region.wanted o (yielded ops a.tmps) = true then Oper.wp P o a w K Q else E := by
  have hw : Region.wanted o (yielded ops a.tmps) = true := by simp [Region.wanted, hgd]
  rw [if_pos hw]
  exact wp_append_own w s x t ho base e i z size bytes ht hi hz hsize hby hzs hsz v n xs hs hown ad m c news hx hl hnews h1 h63 hbytes hbase fun v' w' h2 h3 _ => h v' w' h2 h3

theorem rot_head {l : List Int} {k : Nat} (h : k < l.length) : l.drop k ++ l.take k = l.getD k 0 :: (l.drop (k + 1) ++ l.take k) := by
  rw [List.drop_eq_getElem_cons h, getD_eq h]; rfl
theorem cnt_step {n : Nat} {l : List Int} (h : 0 < l.length) : cntF n l.length l = l.getD (n % l.length) 0 :: cntF n (l.drop (n % l.length + 1) ++ l.take (n % l.length)).length (l.drop (n % l.length + 1) ++ l.take (n % l.length)) := by
  obtain ⟨f, hf⟩ : ∃ f, l.length = f + 1 := ⟨l.length - 1, by omega⟩
  rw [cnt_next_length h]
  conv => lhs; rw [hf, cntF, if_neg (by omega)]
  rw [show l.length - 1 = f by omega]

set_option maxHeartbeats 4000000 in
set_option maxRecDepth 100000 in
theorem sCountGame_any (v : Value) (xs : List Int) (k : Int) (w : World) (hv : OwnI w v xs) (hn : xs.length ≤ 1048576) :
    Calls Try.prog 99 #[v, .int .i64 k] w fun e w' => ∃ r, e = .returned (.tuple #[r, .bool (okCount xs k)]) ∧ OwnI w' r (mCountGame xs k) ∧ From w.heap.size r ∧ Below w.heap.size w w' := by
  have c := stGood_any _ _ _ hv hn
  obtain ⟨adv, capv, rfl, _, _, _⟩ := hv.shape
  cases hg : goodB xs with
  | true =>
    cases hi : inB k 0 9 with
    | true =>
      have hkb := inB_iff.1 hi
      obtain ⟨n, rfl⟩ : ∃ n : Nat, k = n := ⟨k.toNat, by omega⟩
      have hO : okCount xs n = true := by unfold okCount; rw [hg, hi]; rfl
      have HO := Lib.hid hO
      have HM := Lib.hid (show mCountGame xs (n : Int) = cntF n xs.length xs by unfold mCountGame; rw [if_pos hO]; simp)
      have hx9 := (goodB_iff.1 hg).le9
      have hn9 : (n : Int) ≤ 9 := hkb.2
      obtain ⟨i1, hj, hk0, hk1', hk2⟩ := info_parts Try.info3
      have HJ := Lib.hid hj
      have HK0 := Lib.hid hk0
      have HK1 := Lib.hid hk1'
      have HK2 := Lib.hid hk2
      have ci := l1In_any (n : Int) 0 9
      rw [hi] at ci
      rw [hg] at c
      clear hg hi hkb hO hj hk0 hk1' hk2
      go_enter Try.func99, Try.ntmps99
      go_wp2_with fail
      refine c.mono ?_
      rintro e w1 ⟨rfl, hb1⟩
      have hv1 := hv.same hb1
      clear c hv
      go_wp2_with fail
      refine (ci w1).mono ?_
      rintro e w1' ⟨rfl, rfl⟩
      clear ci
      go_wp2_with fail
      refine (l1Own_any _ _ _ hv1 hn).mono ?_
      rintro e w2 ⟨r2, rfl, ho2, hf2, hb2⟩
      have hB2 := hb1.trans (hb2.mono hb1.size)
      have HL2 := Lib.hid ho2
      have HO2 := Lib.hid (OwnI.nil w2)
      clear hb1 hb2 ho2 hf2 hv1
      go_wp2
      go_loopg [6, 7] 9 (fun gk lv o wr => ∃ (l ol : List Int), l.length ≤ gk ∧ l.length ≤ 9 ∧ ol.length ≤ 9 - l.length ∧ Hid (ol ++ cntF n l.length l = cntF n xs.length xs) ∧ Hid (OwnI wr lv l) ∧ Hid (OwnI wr o ol) ∧ From w.heap.size o ∧ Below w.heap.size w wr)
      case atStart => exact ⟨xs, [], hx9, hx9, by simp, Lib.hid rfl, HL2, HO2, From.nil _ _ _, hB2⟩
      case round =>
        obtain ⟨l, ol, hlg, hl9, hol, hrel, hL, hOl, hf, hbr⟩ := hrel
        clear HL2 HO2 hB2
        obtain ⟨ad, cap, rfl, hcc, hcm, _⟩ := hL.out.shape
        have hwz := hbr.size
        by_cases h0 : l.length = 0
        · have HR := Lib.hid (show OwnI wr u7 (mCountGame xs (n : Int)) by
            have := hrel.out
            rw [h0, cntF, List.append_nil] at this
            rw [HM.out, ← this]; exact hOl.out)
          rw [h0]
          clear hL hOl hrel h0
          go_wp2
          go_ret2
          exact ⟨_, by rw [HO.out]; rfl, HR.out, hf, hbr⟩
        · have HCS := Lib.hid (cnt_step (n := n) (l := l) (by omega))
          have hlt := Nat.mod_lt n (show 0 < l.length by omega)
          have HNL := Lib.hid (cnt_next_length (k := n) (l := l) (by omega))
          obtain ⟨g, off, rfl, hgl, _, _⟩ := hL.out.at (by omega)
          have hpos : (0 : Int) < (l.length : Int) := by omega
          have hne : ¬ ((l.length : Int) = 0) := by omega
          obtain ⟨t, ht⟩ : ∃ t, n % l.length = t := ⟨_, rfl⟩
          have hrem : Int.tmod (n : Int) (l.length : Int) = (t : Int) := by rw [← ht]; rfl
          rw [ht] at hlt HCS HNL
          have hncap : t ≤ cap := by omega
          have HH := Lib.hid (rot_head hlt)
          have H2 := Lib.hid (fun W => run_toI l.length cap t (some ⟨g, off, none⟩) hncap W)
          have HSV := Lib.hid hL.out
          obtain ⟨D, hD⟩ : ∃ D, l.drop t = D := ⟨_, rfl⟩
          obtain ⟨T, hT⟩ : ∃ T, l.take t = T := ⟨_, rfl⟩
          obtain ⟨M, hM⟩ : ∃ M, l.drop (t + 1) ++ l.take t = M := ⟨_, rfl⟩
          obtain ⟨y, hy⟩ : ∃ y, l.getD t 0 = y := ⟨_, rfl⟩
          have HF := Lib.hid (from_some (ad := ⟨g, off, none⟩) (cap := cap) (n := t) (q := l) (by omega))
          obtain ⟨a0, c0, hf1, hf2⟩ := HF.out
          have hdn : D.length = l.length - t := by rw [← hD, List.length_drop]
          have htn : T.length = t := by rw [← hT, List.length_take]; omega
          have HTN := Lib.hid htn
          have hdl : D.length ≤ 1048576 := by omega
          have hdp : 0 < D.length := by omega
          have hmn : M.length = l.length - 1 := by rw [← hM]; exact HNL.out
          have HMN := Lib.hid hmn
          rw [hM, hy] at HCS
          rw [hD, hT] at HH
          rw [← hT, hM, hy] at HH
          rw [hD] at hf1 hf2
          have H1 := Lib.hid hf1
          have H3 := Lib.hid hf2
          have HT0 := Lib.hid (show ∀ w', Below wr.heap.size wr w' → OwnI w' (.slice (some ⟨g, off, none⟩) t cap) T from fun w' hb => by rw [← hT]; exact OwnI.take (HSV.out.below hb (Nat.le_refl _)) (by omega))
          rw [hT] at HH
          have hdt9 : D.length + T.length ≤ 9 := by omega
          clear ht hD hT hM hy HF hf1 hf2 hdn htn hmn hL h0
          go_wp2_with fail
          refine wp_region_held_drew (S := fun w' => Below wr.heap.size wr w') (by kernel_rfl) ((Below.refl _ _).drew) (fun hHeld => ?_)
          refine wpAnyH_take (i := 0) (v := ?_) rfl (by kernel_rfl) (by kernel_rfl) (by kernel_rfl) (fun _ _ _ h => h) (Or.inl ⟨by rfl, ?_⟩) (by assumption) ?_
          rotate_left
          · intro w _; go_simp; with_reducible rfl
          try simp only [List.getElem_toArray, List.getElem_cons_zero, Act.put, List.setIfInBounds_toArray, List.set_cons_zero, List.set_cons_succ]
          refine wpAnyH_take (i := 1) (v := ?_) rfl (by kernel_rfl) (by kernel_rfl) (by kernel_rfl) (fun _ _ _ h => h) (Or.inl ⟨by rfl, ?_⟩) (by assumption) ?_
          rotate_left
          · intro w _; go_simp; with_reducible rfl
          try simp only [List.getElem_toArray, List.getElem_cons_zero, List.getElem_cons_succ, Act.put, List.setIfInBounds_toArray, List.set_cons_zero, List.set_cons_succ]
          refine wpAnyH_take (i := 2) (v := .slice (some a0) D.length c0) rfl (by kernel_rfl) (by kernel_rfl) (by kernel_rfl) (fun _ _ _ h => h) (Or.inl ⟨by rfl, ?_⟩) (by assumption) ?_
          · intro w' _
            have h := H1.out w'
            simp [execOp, Act.eval, h]
          try simp only [List.getElem_toArray, List.getElem_cons_zero, List.getElem_cons_succ, Act.put, List.setIfInBounds_toArray, List.set_cons_zero, List.set_cons_succ]
          refine wpAnyH_take (i := 4) (v := ?_) rfl (by kernel_rfl) (by kernel_rfl) (by kernel_rfl) (fun _ _ _ h => h) (Or.inl ⟨by rfl, ?_⟩) (by assumption) ?_
          rotate_left
          · intro w _; go_simp; with_reducible rfl
          try simp only [List.getElem_toArray, List.getElem_cons_zero, List.getElem_cons_succ, Act.put, List.setIfInBounds_toArray, List.set_cons_zero, List.set_cons_succ]
          refine wpAnyH_take (i := 5) (v := ?_) rfl (by kernel_rfl) (by kernel_rfl) (by kernel_rfl) (fun _ _ _ h => h) (Or.inl ⟨by rfl, ?_⟩) (by assumption) ?_
          rotate_left
          · intro w _; go_simp; with_reducible rfl
          try simp only [List.getElem_toArray, List.getElem_cons_zero, List.getElem_cons_succ, Act.put, List.setIfInBounds_toArray, List.set_cons_zero, List.set_cons_succ]
          refine wpAnyH_take (i := 6) (v := .slice (some ⟨g, off, none⟩) t cap) rfl (by kernel_rfl) (by kernel_rfl) (by kernel_rfl) (fun _ _ _ h => h) (Or.inl ⟨by rfl, ?_⟩) (by assumption) ?_
          · intro w' _
            have h := H2.out w'
            simp [execOp, Act.eval, h]
          try simp only [List.getElem_toArray, List.getElem_cons_zero, List.getElem_cons_succ, Act.put, List.setIfInBounds_toArray, List.set_cons_zero, List.set_cons_succ]
          refine wpAnyH_ready (rs := [3]) (by kernel_rfl) (by simp) ?_
          refine AllReadyH.cons rfl (fun K hK => ?_) AllReadyH.nil
          go_simp
          refine (l1OwnRow_any a0 c0 D _ (H3.out _ (HSV.out.below hHeld (Nat.le_refl _))) hdl).mono ?_
          rintro e w5 ⟨r5, rfl, ho5, hb5⟩
          go_wp2_with fail
          refine hK.out _ _ (hHeld.trans (hb5.mono hHeld.size)) (fun hHeld => ?_)
          clear hK K
          have hsT := HT0.out _ hHeld
          have hnews : ∀ j u, (T.map iv)[j]? = some u → w5.cell? ((⟨g, off, none⟩ : Addr).add j) = some u := by
            rcases Own.src (by rw [← HTN.out] at hsT; exact hsT) with ⟨h, _⟩ | ⟨ad, h, hc⟩
            · cases h
            · cases h; exact hc
          have hr5f : ∀ b, r5.ownBlock = some b → wr.heap.size ≤ b := fun b hb => (Own.of_row ho5).2 b hb
          have hwr6 : wr.heap.size ≤ w5.heap.size := hHeld.size
          have hT2 := HTN.out
          try simp only [List.getElem_toArray, List.getElem_cons_zero, List.getElem_cons_succ, Act.put, List.setIfInBounds_toArray, List.set_cons_zero, List.set_cons_succ]
          refine wpAnyH_ready (rs := [7]) (by kernel_rfl) (by simp) ?_
          refine AllReadyH.cons rfl (fun K hK => ?_) AllReadyH.nil
          refine step_append_ownX rfl _ _ 24 rfl wr.heap.size 3 i1 _ 1 8 Try.underlying24 HJ.out HK0.out HK1.out HK2.out rfl (by omega) r5 D.length (D.map iv) rfl ho5 ⟨g, off, none⟩ t cap (T.map iv) rfl (by simp [hT2]) hnews (by simp [Value.oneCell']) (by unfold maxLen; omega) (by omega) hwr6 ?_
          intro v8 w8 hown8 hgr8
          have hb8 : Below wr.heap.size wr w8 := hHeld.grown hgr8 hwr6 hr5f
          refine hK.out _ _ hb8 (fun hHeld => ?_)
          clear hK K
          try simp only [List.getElem_toArray, List.getElem_cons_zero, List.getElem_cons_succ, Act.put, List.setIfInBounds_toArray, List.set_cons_zero, List.set_cons_succ]
          refine wpAnyH_take (i := 8) (v := ?_) rfl (by kernel_rfl) (by kernel_rfl) (by kernel_rfl) (fun _ _ _ h => h) (Or.inl ⟨by rfl, ?_⟩) (by assumption) ?_
          rotate_left
          · intro w _; go_simp; with_reducible rfl
          try simp only [List.getElem_toArray, List.getElem_cons_zero, List.getElem_cons_succ, Act.put, List.setIfInBounds_toArray, List.set_cons_zero, List.set_cons_succ]
          refine wpAnyH_done (by kernel_rfl) ?_ _
          have ho8 : OwnI w8 v8 (y :: M) := by
            rw [← HH.out]
            unfold OwnI
            rw [List.length_append, List.map_append, hT2]
            exact (Own.of_row hown8).1
          have hb9 := hbr.trans (hb8.mono hwz)
          have hf8 : From wr.heap.size v8 := (Own.of_row hown8).2
          have hlo := hOl.out.lt
          have HNE := Lib.hid (show ∀ b, v8.ownBlock = some b → Value.ownBlock u7 ≠ some b from fun b hb e => by have := hf8 b hb; have := hlo b e; omega)
          obtain ⟨ad8, cap8, rfl, hc8, _, _⟩ := ho8.shape
          obtain ⟨g8, off8, rfl, hgl8, hcell8, _⟩ := ho8.at (by simp only [List.length_cons] at hc8; omega)
          have hc0 := hcell8 0 (by simp)
          have hcy : w8.cell? ⟨g8, off8, none⟩ = some (iv y) := by rw [Nat.add_zero] at hc0; rw [hc0]; rfl
          have hOl8 := Lib.hid (hOl.out.below hb8 (Nat.le_refl _))
          have HV8 := Lib.hid ho8
          obtain ⟨m8, hm8⟩ : ∃ m8, (y :: M).length = m8 := ⟨_, rfl⟩
          have HM8 := Lib.hid hm8
          rw [hm8] at hc8 HV8 ⊢
          have hm9 : m8 = M.length + 1 := by rw [← hm8]; rfl
          have hm1 : 1 ≤ m8 := by omega
          have hol2 : ol.length ≤ 1048576 := by omega
          clear hown8 hgr8 hHeld hnews hr5f ho5 hb5 hsT hc0 hcell8 hm8 hm9 ho8 hOl hbr hf8 hlo
          go_wp2_with (first | (at_builtin; refine wpList_app1 Try.intSl rfl _ _ rfl u7 ol rfl (hOl8.out.alloc _) w.heap.size hf w8.heap.size y rfl (by rw [(Blk.new w8 3 [iv y] _ rfl).cell 0]; rfl) w (hb9.alloc hb9.size _) (by simp; have := hb9.size; omega) hol2 ?_; intro v9 w9 ho9 hf9 hb10 hgr9) | (refine wpList_from Try.intSl rfl _ _ rfl (some ⟨g8, off8, none⟩) m8 cap8 1 rfl rfl hm1 (y :: M) HM8.out.symm (Own.grown (Own.alloc HV8.out _) hgr9 HNE.out) ?_; intro sp mm cc hmm hod _ _))
          have hod2 := Lib.hid (show OwnI w9 (.slice sp mm cc) M from hod)
          have HO9 := Lib.hid ho9
          have hrel2 := Lib.hid (show (ol ++ [y]) ++ cntF n M.length M = cntF n xs.length xs by rw [List.append_assoc, ← hrel.out, HCS.out]; rfl)
          have hM1 := HMN.out
          go_roundg (gk - 1)
          case measure => omega
          case rel => exact ⟨M, ol ++ [y], by omega, by omega, by simp; omega, hrel2, hod2, HO9, hf9, hb10⟩
    | false =>
      have HO := Lib.hid (show okCount xs k = false by unfold okCount; rw [hg, hi]; rfl)
      have HM := Lib.hid (show mCountGame xs k = [] from if_neg (by rw [HO.out]; exact Bool.false_ne_true))
      have ci := l1In_any k 0 9
      rw [hi] at ci
      rw [hg] at c
      clear hg hi
      go_enter Try.func99, Try.ntmps99
      go_wp2_with fail
      refine c.mono ?_
      rintro e w1 ⟨rfl, hb1⟩
      clear c hv
      go_wp2_with fail
      refine (ci w1).mono ?_
      rintro e w1' ⟨rfl, rfl⟩
      clear ci
      go_wp2
      go_ret2
      exact ⟨_, by rw [HO.out]; rfl, by rw [HM.out]; exact OwnI.nil _, From.nil _ _ _, hb1⟩
  | false =>
    have HO := Lib.hid (show okCount xs k = false by unfold okCount; rw [hg]; rfl)
    have HM := Lib.hid (show mCountGame xs k = [] from if_neg (by rw [HO.out]; exact Bool.false_ne_true))
    rw [hg] at c
    clear hg
    go_enter Try.func99, Try.ntmps99
    go_wp2_with fail
    refine c.mono ?_
    rintro e w1 ⟨rfl, hb1⟩
    clear c hv
    go_wp2
    go_ret2
    exact ⟨_, by rw [HO.out]; rfl, by rw [HM.out]; exact OwnI.nil _, From.nil _ _ _, hb1⟩

theorem Try.info22X : (Try.prog.info? 24).map (fun i => (i.zero, i.size, i.bytes)) = some (some (.slice none 0 0), 1, 24) := by kernel_rfl
theorem fill2 : ∀ (B : Array Value) (_ : B.size = 2) (c0 c1 : Value), (B.setIfInBounds 0 c0).setIfInBounds 1 c1 = #[c0, c1]
  | ⟨[b0, b1]⟩, _, _, _ => by simp
theorem step_build2 {ops : Array Oper} {o : Oper} {a : Act} {w : World} {K : Act → World → Prop} {Q : Exit → Act → World → Prop} {E : Prop}
    (hg : o.guard = none) (x y : Operand) (hop : o.op = Op.buildSlice 27 2 #[(0, x), (1, y)]) (a0 a1 : Option Addr) (n0 c0 n1 c1 : Nat) (hx : a.eval x = .slice a0 n0 c0) (hy : a.eval y = .slice a1 n1 c1)
    (h : K (a.put o.dst (.slice (some ⟨w.heap.size, 0, none⟩) 2 2)) (w.alloc (.cells #[.slice a0 n0 c0, .slice a1 n1 c1] 24))) :
    if Region.wanted o (yielded ops a.tmps) = true then Oper.wp Try.prog o a w K Q else E := by
  have hw : Region.wanted o (yielded ops a.tmps) = true := by simp [Region.wanted, hg]
  rw [if_pos hw]
  obtain ⟨i0, hi, hz0, hz1, hz2⟩ := info_parts Try.info22X
  have hrun : (Instr.buildSlice 27 2 #[(0, .slice a0 n0 c0), (1, .slice a1 n1 c1)]).run Try.prog w = .ok (.slice (some ⟨w.heap.size, 0, none⟩) 2 2) (w.alloc (.cells #[.slice a0 n0 c0, .slice a1 n1 c1] 24)) := by
    simp [Instr.buildSlice, run_underlying Try.underlying27, Go.sizeOf, typeInfo, hi, hz0, hz1, zeroValue, Instr.fill, newRow, Value.cells, List.zipIdx, Array.range]
    rw [fill2 _ (by simp [hz1])]
  unfold Oper.wp
  simp [execOp, hop, hx, hy, hrun, Result.andThen]
  exact h

set_option maxHeartbeats 4000000 in
set_option maxRecDepth 100000 in
theorem CountGame_any (v : Value) (xs : List Int) (k : Int) (w : World) (hv : OwnI w v xs) (hn : xs.length ≤ 1048576) :
    Calls Try.prog 98 #[v, .int .i64 k] w fun e w' => ∃ r, e = .returned (.tuple #[r, .bool (okCount xs k)]) ∧ OwnI w' r (mCountGame xs k) ∧ From w.heap.size r ∧ Below w.heap.size w w' := by
  have c := IsStack_any _ _ _ hv hn
  obtain ⟨adv, capv, rfl, _, _, _⟩ := hv.shape
  cases hg : goodB xs with
  | true =>
    cases hi : inB k 0 9 with
    | true =>
      have hkb := inB_iff.1 hi
      obtain ⟨n, rfl⟩ : ∃ n : Nat, k = n := ⟨k.toNat, by omega⟩
      have hO : okCount xs n = true := by unfold okCount; rw [hg, hi]; rfl
      have HO := Lib.hid hO
      have HM := Lib.hid (show mCountGame xs (n : Int) = cntF n xs.length xs by unfold mCountGame; rw [if_pos hO]; simp)
      have hx9 := (goodB_iff.1 hg).le9
      have hn9 : (n : Int) ≤ 9 := hkb.2
      have hn0 : ¬ ((n : Int) < 0) := by omega
      obtain ⟨i1, hj, hk0, hk1', hk2⟩ := info_parts Try.info3
      have HJ := Lib.hid hj
      have HK0 := Lib.hid hk0
      have HK1 := Lib.hid hk1'
      have HK2 := Lib.hid hk2
      rw [hg] at c
      clear hg hi hkb hO hj hk0 hk1' hk2
      go_enter Try.func98, Try.ntmps98
      go_wp2_with fail
      refine c.mono ?_
      rintro e w1 ⟨rfl, hb1⟩
      have hv1 := hv.same hb1
      have hs1 := hb1.size
      have hvlt := hv.lt
      clear c hv
      go_wp2_with (at_make; refine wpList_make_own _ rfl _ _ 24 rfl w1.heap.size 3 i1 (.int .i64 0) 1 Try.underlying24 HJ.out HK0.out HK1.out _ _ _ xs.length rfl rfl (by first | rfl | simp | omega) (by rw [HK2.out]; omega) (by unfold maxLen; omega) (by exact Nat.le_refl _) ?_)
      intro w2 hown2 hgr2
      have hB2 : Below w.heap.size w w2 := hb1.grown hgr2 hs1 (by intro k hk; cases hk)
      have hO2 := Own.of_row hown2
      have HO2 := Lib.hid (show OwnI w2 (.slice (some ⟨w1.heap.size, 0, none⟩) 0 xs.length) [] from hO2.1)
      have HL2 := Lib.hid (show OwnI w2 (.slice adv xs.length capv) xs from hv1.grown hgr2 (by intro g hg h; cases h))
      have hf2 : From w.heap.size (.slice (some ⟨w1.heap.size, 0, none⟩) 0 xs.length) := hO2.2.mono hs1
      have HA2 := Lib.hid (show ∀ b, (Value.slice adv xs.length capv).ownBlock = some b → (Value.slice (some ⟨w1.heap.size, 0, none⟩) 0 xs.length).ownBlock ≠ some b from fun b hb e => by
        have := hvlt b hb
        simp [Value.ownBlock] at e
        omega)
      clear hb1 hv1 hown2 hgr2 hO2 hvlt
      go_wp2
      go_loopg [6, 7] 9 (fun gk o lv wr => ∃ (l ol : List Int), l.length ≤ gk ∧ l.length ≤ 9 ∧ ol.length ≤ 9 - l.length ∧ Hid (ol ++ cntF n l.length l = cntF n xs.length xs) ∧ Hid (OwnI wr lv l) ∧ Hid (OwnI wr o ol) ∧ Hid (∀ b, lv.ownBlock = some b → o.ownBlock ≠ some b) ∧ From w.heap.size o ∧ Below w.heap.size w wr)
      case atStart => exact ⟨xs, [], hx9, hx9, by simp, Lib.hid rfl, HL2, HO2, HA2, hf2, hB2⟩
      case round =>
        obtain ⟨l, ol, hlg, hl9, hol, hrel, hL, hOl, hap, hf, hbr⟩ := hrel
        clear HL2 HO2 HA2 hf2 hB2
        obtain ⟨ad, cap, rfl, hcc, hcm, _⟩ := hL.out.shape
        have hwz := hbr.size
        by_cases h0 : l.length = 0
        · have HR := Lib.hid (show OwnI wr u6 (mCountGame xs (n : Int)) by
            have := hrel.out
            rw [h0, cntF, List.append_nil] at this
            rw [HM.out, ← this]; exact hOl.out)
          rw [h0]
          clear hL hOl hrel h0 hap
          go_wp2
          go_ret2
          exact ⟨_, by rw [HO.out]; rfl, HR.out, hf, hbr⟩
        · have HCS := Lib.hid (cnt_step (n := n) (l := l) (by omega))
          have hlt := Nat.mod_lt n (show 0 < l.length by omega)
          have HNL := Lib.hid (cnt_next_length (k := n) (l := l) (by omega))
          obtain ⟨g, off, rfl, hgl, hcell, _⟩ := hL.out.at (by omega)
          have hpos : (0 : Int) < (l.length : Int) := by omega
          have hne : ¬ ((l.length : Int) = 0) := by omega
          obtain ⟨t, ht⟩ : ∃ t, n % l.length = t := ⟨_, rfl⟩
          have hrem : Int.tmod (n : Int) (l.length : Int) = (t : Int) := by rw [← ht]; rfl
          rw [ht] at hlt HCS HNL
          have hlti : (t : Int) < (l.length : Int) := by omega
          have hncap : t ≤ cap := by omega
          have H2 := Lib.hid (fun W => run_toI l.length cap t (some ⟨g, off, none⟩) hncap W)
          have HSV := Lib.hid hL.out
          obtain ⟨D, hD⟩ : ∃ D, l.drop (t + 1) = D := ⟨_, rfl⟩
          obtain ⟨T, hT⟩ : ∃ T, l.take t = T := ⟨_, rfl⟩
          obtain ⟨M, hM⟩ : ∃ M, D ++ T = M := ⟨_, rfl⟩
          obtain ⟨y, hy⟩ : ∃ y, l.getD t 0 = y := ⟨_, rfl⟩
          have hcy : wr.cell? ⟨g, off + t, none⟩ = some (iv y) := by
            rw [hcell t (by omega), List.getElem?_map, List.getElem?_eq_getElem hlt, ← hy, getD_eq hlt]; rfl
          have HF := Lib.hid (from_some (ad := ⟨g, off, none⟩) (cap := cap) (n := t + 1) (q := l) (by omega))
          obtain ⟨a0, c0, hf1, hf2⟩ := HF.out
          have hdn : D.length = l.length - (t + 1) := by rw [← hD, List.length_drop]
          have htn : T.length = t := by rw [← hT, List.length_take]; omega
          have HTN := Lib.hid htn
          have hmn : M.length = l.length - 1 := by rw [← hM, List.length_append]; omega
          have HMN := Lib.hid hmn
          rw [hD, hT, hM, hy] at HCS
          rw [hD, show ((t + 1 : Nat) : Int) = (t : Int) + 1 by omega] at hf1
          rw [hD] at hf2
          have H1 := Lib.hid hf1
          have H3 := Lib.hid hf2
          have HT0 := Lib.hid (show ∀ w', OwnI w' (.slice (some ⟨g, off, none⟩) l.length cap) l → OwnI w' (.slice (some ⟨g, off, none⟩) t cap) T from fun w' h => by rw [← hT]; exact OwnI.take h (by omega))
          have HMM := Lib.hid hM
          have hdt9 : D.length + T.length ≤ 9 := by omega
          have hol2 : ol.length ≤ 1048576 := by omega
          have HH0 := Lib.hid (show 0 < l.length by omega)
          clear ht hD hT hM hy HF hf1 hf2 hdn htn hmn hL h0 hcell
          go_wp2_with (at_builtin; refine wpList_app1 Try.intSl rfl _ _ rfl u6 ol rfl (Own.alloc hOl.out _) w.heap.size hf wr.heap.size y rfl (by rw [(Blk.new wr 3 [iv y] _ rfl).cell 0]; rfl) w (hbr.alloc hwz _) (by simp; omega) hol2 ?_)
          intro v9 w9 ho9 hf9 hb9 hgr9
          have hL9 : OwnI w9 (.slice (some ⟨g, off, none⟩) l.length cap) l := Own.grown (Own.alloc HSV.out _) hgr9 hap.out
          have HL9 := Lib.hid hL9
          have HO9 := Lib.hid ho9
          have hwz9 := hb9.size
          have hlo9 := ho9.lt
          clear hL9 ho9 hgr9 hbr hcy hOl hap HSV
          go_wp2_with fail
          refine wp_region_held_drew (S := fun w' => Below w9.heap.size w9 w') (by kernel_rfl) ((Below.refl _ _).drew) (fun hHeld => ?_)
          refine wpAnyH_take (i := 0) (v := ?_) rfl (by kernel_rfl) (by kernel_rfl) (by kernel_rfl) (fun _ _ _ h => h) (Or.inl ⟨by rfl, ?_⟩) (by assumption) ?_
          rotate_left
          · intro w _; go_simp; with_reducible rfl
          try simp only [List.getElem_toArray, List.getElem_cons_zero, Act.put, List.setIfInBounds_toArray, List.set_cons_zero, List.set_cons_succ]
          refine wpAnyH_take (i := 1) (v := ?_) rfl (by kernel_rfl) (by kernel_rfl) (by kernel_rfl) (fun _ _ _ h => h) (Or.inl ⟨by rfl, ?_⟩) (by assumption) ?_
          rotate_left
          · intro w _; go_simp; with_reducible rfl
          try simp only [List.getElem_toArray, List.getElem_cons_zero, List.getElem_cons_succ, Act.put, List.setIfInBounds_toArray, List.set_cons_zero, List.set_cons_succ]
          refine wpAnyH_take (i := 2) (v := .int .i64 ((t : Int) + 1)) rfl (by kernel_rfl) (by kernel_rfl) (by kernel_rfl) (fun _ _ _ h => h) (Or.inl ⟨by rfl, ?_⟩) (by assumption) ?_
          · intro w' _; go_simp; exact IntWalk.i64_in _ (by omega)
          try simp only [List.getElem_toArray, List.getElem_cons_zero, List.getElem_cons_succ, Act.put, List.setIfInBounds_toArray, List.set_cons_zero, List.set_cons_succ]
          refine wpAnyH_take (i := 3) (v := .slice (some a0) D.length c0) rfl (by kernel_rfl) (by kernel_rfl) (by kernel_rfl) (fun _ _ _ h => h) (Or.inl ⟨by rfl, ?_⟩) (by assumption) ?_
          · intro w' _
            have h := H1.out w'
            simp [execOp, Act.eval, h]
          try simp only [List.getElem_toArray, List.getElem_cons_zero, List.getElem_cons_succ, Act.put, List.setIfInBounds_toArray, List.set_cons_zero, List.set_cons_succ]
          refine wpAnyH_take (i := 4) (v := ?_) rfl (by kernel_rfl) (by kernel_rfl) (by kernel_rfl) (fun _ _ _ h => h) (Or.inl ⟨by rfl, ?_⟩) (by assumption) ?_
          rotate_left
          · intro w _; go_simp; with_reducible rfl
          try simp only [List.getElem_toArray, List.getElem_cons_zero, List.getElem_cons_succ, Act.put, List.setIfInBounds_toArray, List.set_cons_zero, List.set_cons_succ]
          refine wpAnyH_take (i := 5) (v := ?_) rfl (by kernel_rfl) (by kernel_rfl) (by kernel_rfl) (fun _ _ _ h => h) (Or.inl ⟨by rfl, ?_⟩) (by assumption) ?_
          rotate_left
          · intro w _; go_simp; with_reducible rfl
          try simp only [List.getElem_toArray, List.getElem_cons_zero, List.getElem_cons_succ, Act.put, List.setIfInBounds_toArray, List.set_cons_zero, List.set_cons_succ]
          refine wpAnyH_take (i := 6) (v := .slice (some ⟨g, off, none⟩) t cap) rfl (by kernel_rfl) (by kernel_rfl) (by kernel_rfl) (fun _ _ _ h => h) (Or.inl ⟨by rfl, ?_⟩) (by assumption) ?_
          · intro w' _
            have h := H2.out w'
            simp [execOp, Act.eval, h]
          try simp only [List.getElem_toArray, List.getElem_cons_zero, List.getElem_cons_succ, Act.put, List.setIfInBounds_toArray, List.set_cons_zero, List.set_cons_succ]
          refine wpAnyH_ready (rs := [7]) (by kernel_rfl) (by simp) ?_
          refine AllReadyH.cons rfl (fun K hK => ?_) AllReadyH.nil
          refine step_build2 rfl _ _ rfl (some a0) (some ⟨g, off, none⟩) D.length c0 t cap rfl rfl ?_
          have hbB := hHeld.alloc hHeld.size (.cells #[.slice (some a0) D.length c0, .slice (some ⟨g, off, none⟩) t cap] 24)
          refine hK.out _ _ hbB (fun hHeld => ?_)
          clear hK K
          try simp only [List.getElem_toArray, List.getElem_cons_zero, List.getElem_cons_succ, Act.put, List.setIfInBounds_toArray, List.set_cons_zero, List.set_cons_succ]
          have hLb := HL9.out.below hbB (Nat.le_refl _)
          have hcc8 := Concat_any (.slice (some ⟨w9.drew.heap.size, 0, none⟩) 2 2) [.slice (some a0) D.length c0, .slice (some ⟨g, off, none⟩) t cap] [D, T] (w9.drew.alloc (.cells #[.slice (some a0) D.length c0, .slice (some ⟨g, off, none⟩) t cap] 24))
            ⟨_, 2, rfl, rfl, Nat.le_refl _, by simp [maxLen], by simp, fun a ha => by cases ha; exact ⟨rfl, _, 24, heap_alloc_new _ _, by simp, fun j hj => by simp⟩⟩ (Lib.hid rfl)
            (Lib.hid fun i u x hu hx => by
              match i with
              | 0 => simp at hu hx; subst hu hx; exact H3.out _ hLb
              | 1 => simp at hu hx; subst hu hx; exact HT0.out _ hLb
              | i + 2 => simp at hu) (by simp) (by simp [pre]; omega)
          have CC := Lib.hid hcc8
          clear hcc8
          refine wpAnyH_ready (rs := [8]) (by kernel_rfl) (by simp) ?_
          refine AllReadyH.cons rfl (fun K hK => ?_) AllReadyH.nil
          go_simp
          refine (CC.out).mono ?_
          rintro e w10 ⟨r10, rfl, ho10, hf10, hb10⟩
          go_wp2_with fail
          refine hK.out _ _ (hHeld.trans (hb10.mono hHeld.size)) (fun hHeld => ?_)
          clear hK K
          have HL10 := Lib.hid (show OwnI w10 r10 M by rw [← HMM.out]; simpa using ho10)
          have HO10 := Lib.hid (HO9.out.below hHeld (Nat.le_refl _))
          have hB10 := hb9.trans (hHeld.mono hwz9)
          have HAP := Lib.hid (show ∀ b, r10.ownBlock = some b → v9.ownBlock ≠ some b from fun b hb e => by
            have h1 := hf10 b hb
            have h2 := hlo9 b e
            have h3 := hbB.size
            omega)
          clear ho10 hb10 hf10 hLb hbB
          try simp only [List.getElem_toArray, List.getElem_cons_zero, List.getElem_cons_succ, Act.put, List.setIfInBounds_toArray, List.set_cons_zero, List.set_cons_succ]
          refine wpAnyH_take (i := 9) (v := ?_) rfl (by kernel_rfl) (by kernel_rfl) (by kernel_rfl) (fun _ _ _ h => h) (Or.inl ⟨by rfl, ?_⟩) (by assumption) ?_
          rotate_left
          · intro w _; go_simp; with_reducible rfl
          try simp only [List.getElem_toArray, List.getElem_cons_zero, List.getElem_cons_succ, Act.put, List.setIfInBounds_toArray, List.set_cons_zero, List.set_cons_succ]
          refine wpAnyH_done (by kernel_rfl) ?_ _
          have hrel2 := Lib.hid (show (ol ++ [y]) ++ cntF n M.length M = cntF n xs.length xs by rw [List.append_assoc, ← hrel.out, HCS.out]; rfl)
          have hM1 := HMN.out
          have hH0 := HH0.out
          clear hHeld
          go_wp2
          go_roundg (gk - 1)
          case measure => omega
          case rel => exact ⟨M, ol ++ [y], by omega, by omega, by simp; omega, hrel2, HL10, HO10, HAP, hf9, hB10⟩
    | false =>
      have HO := Lib.hid (show okCount xs k = false by unfold okCount; rw [hg, hi]; rfl)
      have HM := Lib.hid (show mCountGame xs k = [] from if_neg (by rw [HO.out]; exact Bool.false_ne_true))
      have hkb : ¬ (0 ≤ k ∧ k ≤ 9) := fun h => by rw [inB_true h] at hi; cases hi
      rw [hg] at c
      clear hg hi
      by_cases hk0 : k < 0
      · go_enter Try.func98, Try.ntmps98
        go_wp2_with fail
        refine c.mono ?_
        rintro e w1 ⟨rfl, hb1⟩
        clear c hv
        go_wp2
        go_ret2
        exact ⟨_, by rw [HO.out]; rfl, by rw [HM.out]; exact OwnI.nil _, From.nil _ _ _, hb1⟩
      · have hk9 : 9 < k := by omega
        go_enter Try.func98, Try.ntmps98
        go_wp2_with fail
        refine c.mono ?_
        rintro e w1 ⟨rfl, hb1⟩
        clear c hv
        go_wp2
        go_ret2
        exact ⟨_, by rw [HO.out]; rfl, by rw [HM.out]; exact OwnI.nil _, From.nil _ _ _, hb1⟩
  | false =>
    have HO := Lib.hid (show okCount xs k = false by unfold okCount; rw [hg]; rfl)
    have HM := Lib.hid (show mCountGame xs k = [] from if_neg (by rw [HO.out]; exact Bool.false_ne_true))
    rw [hg] at c
    clear hg
    go_enter Try.func98, Try.ntmps98
    go_wp2_with fail
    refine c.mono ?_
    rintro e w1 ⟨rfl, hb1⟩
    clear c hv
    go_wp2
    go_ret2
    exact ⟨_, by rw [HO.out]; rfl, by rw [HM.out]; exact OwnI.nil _, From.nil _ _ _, hb1⟩

end Go.Proofs.Ytlomdnldokbjoaa

