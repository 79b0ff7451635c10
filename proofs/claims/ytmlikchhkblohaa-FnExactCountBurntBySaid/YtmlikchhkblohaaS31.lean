import Derived.Test.YtmlikchhkblohaaS30
namespace Go.Proofs.Ytmlikchhkblohaa
open Go Go.RowKit Go.Pan

theorem sFar_at {g : Bd} {r : Nat} (h : r < g.N) : (sFar g)[r]'(by rw [sFar_length]; exact h) = (g.d r : Int) := by simp [sFar]
/-- what is read of the layers at a number -/
theorem BAR.at {g : Bd} {u : Nat → List Int} {w : World} {a N : Nat} {v2 : Value} {S : List Value} (h : BAR g u w (.slice (some ⟨a, 0, none⟩) N N) v2 S) {r : Nat} (hr : r < g.N) :
    w.cell? ⟨a, r, none⟩ = some (iv (g.d r : Nat)) ∧ a < w.heap.size := by
  have h1 := (OwnI.cellAt h.far r (by rw [sFar_length]; exact hr)).1
  rw [sFar_at hr] at h1
  exact ⟨h1, World.block_lt_of_cell? w _ h1⟩
theorem run_bl0 (v0 v1 : Value) (w : World) : (Instr.field 106 (.agg #[v0, v1]) 0).run Try.prog w = .ok v0 w := by kernel_rfl

set_option maxHeartbeats 1600000 in
set_option maxRecDepth 100000 in
theorem sBurntDistance_any (v : Value) (xs : List Int) (w : World) (hv : OwnI w v xs) (hn : xs.length ≤ 1048576) :
    Calls Try.prog 69 #[v] w fun e w' => e = .returned (.tuple #[.int .i64 (mBurntDistance xs), .bool (bfewB xs)]) ∧ Below w.heap.size w w' := by
  have c := buFew_any _ xs w hv hn
  cases hg : bfewB xs with
  | true =>
    obtain ⟨hS, h1, h5⟩ := bfewB_iff.1 hg
    have HM := Lib.hid (show mBurntDistance xs = (((bBd xs.length).d (brank xs) : Nat) : Int) by rw [bBd_d h1 h5 hS]; exact if_pos hg)
    have hrl : brank xs < (bBd xs.length).N := brank_lt hS
    have HSM := Lib.hid (Burnt.small hS.1)
    obtain ⟨ad, cap, rfl, _, _, _⟩ := hv.shape
    rw [hg] at c
    obtain ⟨n, hnn⟩ : ∃ n, xs.length = n := ⟨_, rfl⟩
    have HN := Lib.hid hnn
    rw [hnn] at HM hrl h1 h5 c ⊢
    rw [hnn] at hv
    obtain ⟨N, hNe⟩ : ∃ N, (bBd n).N = N := ⟨_, rfl⟩
    have HNE := Lib.hid hNe
    have hrN : brank xs < N := by rw [← hNe]; exact hrl
    have hu57 := run_bl0
    clear hS hg hnn hNe
    go_enter Try.func69, Try.ntmps69
    go_wp2_with fail
    refine c.mono ?_
    rintro e w1 ⟨rfl, hb1⟩
    clear c
    go_wp2_with fail
    refine (buAll_any n N w1 h1 h5 HNE).mono ?_
    rintro e w2 ⟨a, s, S, rfl, HR, hb2⟩
    have hv1 : OwnI w2 (.slice ad n cap) xs := by
      have := ((show OwnI w (.slice ad n cap) xs from hv).same hb1).same hb2
      exact this
    go_wp2_with fail
    refine (buRank_any _ xs w2 hv1 (by rw [HN.out]; omega) HSM).mono ?_
    rintro e w3 ⟨rfl, hb3⟩
    obtain ⟨h1c, hal⟩ := HR.at hrl
    have h3c := (hb3.cell (p := ⟨a, brank xs, none⟩) hal).trans h1c
    have hi : (brank xs : Int) < N := by omega
    have hb12 := hb1.trans (hb2.mono hb1.size)
    have hb13 := hb12.trans (hb3.mono hb12.size)
    clear h1c
    go_wp2
    go_ret2
    exact ⟨by rw [HM.out]; rfl, hb13⟩
  | false =>
    have HM := Lib.hid (show mBurntDistance xs = 0 from if_neg (by rw [hg]; exact Bool.false_ne_true))
    rw [hg] at c
    clear hg
    go_enter Try.func69, Try.ntmps69
    go_wp2_with fail
    refine c.mono ?_
    rintro e w1 ⟨rfl, hb1⟩
    go_wp2
    go_ret2
    exact ⟨by rw [HM.out]; rfl, hb1⟩

theorem wpList_store2o {P : Program} {ops : Array Oper} {rest : List Oper} {o : Oper} {a : Act} {w : World} {Q : Exit → Act → World → Prop}
    (hgd : o.guard = none) (ty : TypeId) (x y : Operand) (ho : o.op = .store ty x y) (g : Nat) (c0 c1 : Value) (hx : a.eval x = .pointer (some ⟨g, 0, none⟩)) (hy : a.eval y = .agg #[c0, c1])
    (t : TypeId) (old : List Value) (hg : Blk w g t old) (hi : (P.info? ty).map (·.size) = some 2) (hold : old.length = 2) (h1 : c0.oneCell' = true ∧ c1.oneCell' = true)
    (h : ∀ w', Blk w' g t [c0, c1] → w.grownBy w' (some g) → wpList P ops Q rest (a.put o.dst undef) w') : wpList P ops Q (o :: rest) a w := by
  refine wpList_store2 hgd ty x y ho g c0 c1 hx hy t old hg hi hold h1 ?_
  exact h _ (hg.setRow [c0, c1]) ⟨rfl, rfl, rfl, by simp [World.setRow], fun k _ hk => setRow_other w g k _ (fun e => hk (by rw [e]))⟩

set_option maxHeartbeats 4000000 in
set_option maxRecDepth 100000 in
theorem sLeastBurnt_any (v : Value) (xs : List Int) (w : World) (hv : OwnI w v xs) (hn : xs.length ≤ 1048576) :
    Calls Try.prog 71 #[v] w fun e w' => ∃ r, e = .returned (.tuple #[r, .bool (bfewB xs)]) ∧ OwnI w' r (mLeastBurnt xs) ∧ From w.heap.size r ∧ Below w.heap.size w w' := by
  have c := buFew_any _ xs w hv hn
  cases hg : bfewB xs with
  | true =>
    obtain ⟨hS, h1, h5⟩ := bfewB_iff.1 hg
    have HM := Lib.hid (show mLeastBurnt xs = ggoL (bG xs.length) (ramp 1 xs.length) (bfar xs) xs from if_pos hg)
    have hle := bfar_le hg
    have hd0 := bBd_d h1 h5 hS
    have hs := Lib.hid hS
    have HD0 := Lib.hid (show gfar (bG xs.length) xs (ramp 1 xs.length) = bfar xs from rfl)
    rw [HD0.out] at hd0
    obtain ⟨ad, cap, rfl, _, _, _⟩ := hv.shape
    rw [hg] at c
    obtain ⟨d, hd⟩ : ∃ d, bfar xs = d := ⟨_, rfl⟩
    rw [hd] at HM HD0 hd0 hle
    obtain ⟨n, hnn⟩ : ∃ n, xs.length = n := ⟨_, rfl⟩
    rw [hnn] at HM h1 h5 c hs HD0 hd0 ⊢
    rw [hnn] at hv
    have HO := Lib.hid (bG_ok h1 h5)
    have HT := Lib.hid (show (bG n).St (ramp 1 n) from BSt.ramp h1 (by omega))
    have hS' : (bG n).St xs := hs.out
    have hd : gfar (bG n) xs (ramp 1 n) = d := HD0.out
    have HD := Lib.hid hd
    have hrl : brank xs < (bBd n).N := brank_lt hs.out
    have HSM := Lib.hid (Burnt.small hs.out.1)
    have hl9 : xs.length ≤ 9 := by omega
    obtain ⟨N, hNe⟩ : ∃ N, (bBd n).N = N := ⟨_, rfl⟩
    have HNE := Lib.hid hNe
    have hrN : brank xs < N := by rw [← hNe]; exact hrl
    have hrN' : (brank xs : Int) < N := by omega
    have HP0 := Lib.hid (GPath.start HO.out hS' hd)
    have HXS := Lib.hid hS'
    clear hS hg hNe hS' hd
    go_enter Try.func71, Try.ntmps71
    go_wp2_with fail
    refine c.mono ?_
    rintro e w0 ⟨rfl, hb0⟩
    clear c
    have c1 := buAll_any n N w0 h1 h5 HNE
    go_wp2_with fail
    refine c1.mono ?_
    rintro e w1 ⟨a, s, S, rfl, HR, hb1⟩
    clear c1
    have hb01 := hb0.trans (hb1.mono hb0.size)
    have hz : Blk (w1.alloc (.cells #[.slice none 0 0, .slice none 0 0] 106)) w1.heap.size 106 [.slice none 0 0, .slice none 0 0] := Blk.new _ _ [.slice none 0 0, .slice none 0 0] _ rfl
    go_upto_region 5 with (refine wpList_store2o rfl 106 _ _ rfl w1.heap.size _ _ rfl rfl 106 _ hz (by kernel_rfl) rfl ⟨rfl, rfl⟩ ?_; intro w3 hbl hg3)
    have hb13 : Below w1.heap.size w1 w3 := (below_new w1 _).grown hg3 (by simp) (by intro k hk; cases hk; exact Nat.le_refl _)
    have HR3 := HR.below hb13 (Nat.le_refl _)
    have hB3 := hb01.trans (hb13.mono hb01.size)
    have hl0 : w3.cell? ⟨w1.heap.size, 0, none⟩ = some (.slice (some ⟨a, 0, none⟩) N N) := by rw [hbl.cell 0]; rfl
    have hbl1 := hbl.lt
    obtain ⟨bl, hbe⟩ : ∃ b, w1.heap.size = b := ⟨_, rfl⟩
    rw [hbe] at hl0 hbl1 ⊢
    have hz3 : w.heap.size ≤ w3.heap.size := hB3.size
    have hv3 : OwnI w3 (.slice ad n cap) xs := (show OwnI w (.slice ad n cap) xs from hv).same hB3
    obtain ⟨h1c, hal⟩ := HR3.at hrl
    rw [hd0] at h1c
    have HR4 := Lib.hid HR3
    clear hb1 HR hz hg3 hb13 HR3 hbl hbe hb0 hb01 hd0
    refine wp_region_held_drew (S := (fun w' => w'.cell? ⟨bl, 0, none⟩ = some (.slice (some ⟨a, 0, none⟩) N N) ∧ w'.cell? ⟨a, brank xs, none⟩ = some (iv (d : Int)))) (by kernel_rfl) (⟨hl0, h1c⟩) (fun hHeld => ?_)
    refine wpAnyH_take (i := 0) (v := ?_) rfl (by kernel_rfl) (by kernel_rfl) (by kernel_rfl) (fun _ _ _ h => h) (Or.inl ⟨by rfl, ?_⟩) (by assumption) ?_
    rotate_left
    · intro w _; go_simp; with_reducible rfl
    try simp only [List.getElem_toArray, List.getElem_cons_zero, Act.put, List.setIfInBounds_toArray, List.set_cons_zero, List.set_cons_succ]
    refine wpAnyH_take (i := 1) (v := ?_) rfl (by kernel_rfl) (by kernel_rfl) (by kernel_rfl) (fun _ _ _ h => h) (Or.inl ⟨by rfl, ?_⟩) (by assumption) ?_
    rotate_left
    · intro w hSw; (try dsimp only at hSw); (go_simp <;> with_reducible rfl)
    try simp only [List.getElem_toArray, List.getElem_cons_zero, List.getElem_cons_succ, Act.put, List.setIfInBounds_toArray, List.set_cons_zero, List.set_cons_succ]
    refine wpAnyH_take (i := 2) (v := ?_) rfl (by kernel_rfl) (by kernel_rfl) (by kernel_rfl) (fun _ _ _ h => h) (Or.inl ⟨by rfl, ?_⟩) (by assumption) ?_
    rotate_left
    · intro w _; go_simp; with_reducible rfl
    try simp only [List.getElem_toArray, List.getElem_cons_zero, List.getElem_cons_succ, Act.put, List.setIfInBounds_toArray, List.set_cons_zero, List.set_cons_succ]
    refine wpAnyH_ready (rs := [3]) (by kernel_rfl) (by simp) ?_
    refine AllReadyH.cons rfl (fun Kc hK => ?_) AllReadyH.nil
    go_simp
    refine (buRank_any (.slice ad n cap) xs w3.drew (hv3.kept (fun _ _ => rfl)) hl9 HSM).mono ?_
    rintro e w4 ⟨rfl, hb4⟩
    go_wp2_with fail
    refine hK.out _ _ (⟨(hb4.cell (p := ⟨bl, 0, none⟩) hbl1).trans hHeld.1, (hb4.cell (p := ⟨a, brank xs, none⟩) hal).trans hHeld.2⟩) (fun hHeld => ?_)
    clear hK Kc
    try simp only [List.getElem_toArray, List.getElem_cons_zero, List.getElem_cons_succ, Act.put, List.setIfInBounds_toArray, List.set_cons_zero, List.set_cons_succ]
    refine wpAnyH_take (i := 4) (v := ?_) rfl (by kernel_rfl) (by kernel_rfl) (by kernel_rfl) (fun _ _ _ h => h) (Or.inl ⟨by rfl, ?_⟩) (by assumption) ?_
    rotate_left
    · intro w _; go_simp; with_reducible rfl
    try simp only [List.getElem_toArray, List.getElem_cons_zero, List.getElem_cons_succ, Act.put, List.setIfInBounds_toArray, List.set_cons_zero, List.set_cons_succ]
    refine wpAnyH_take (i := 5) (v := ?_) rfl (by kernel_rfl) (by kernel_rfl) (by kernel_rfl) (fun _ _ _ h => h) (Or.inl ⟨by rfl, ?_⟩) (by assumption) ?_
    rotate_left
    · intro w hSw; (try dsimp only at hSw); (go_simp <;> with_reducible rfl)
    try simp only [List.getElem_toArray, List.getElem_cons_zero, List.getElem_cons_succ, Act.put, List.setIfInBounds_toArray, List.set_cons_zero, List.set_cons_succ]
    refine wpAnyH_take (i := 6) (v := ?_) rfl (by kernel_rfl) (by kernel_rfl) (by kernel_rfl) (fun _ _ _ h => h) (Or.inl ⟨by rfl, ?_⟩) (by assumption) ?_
    rotate_left
    · intro w _; go_simp; with_reducible rfl
    try simp only [List.getElem_toArray, List.getElem_cons_zero, List.getElem_cons_succ, Act.put, List.setIfInBounds_toArray, List.set_cons_zero, List.set_cons_succ]
    refine wpAnyH_done (by kernel_rfl) ?_ _
    have hb34 : Below w3.heap.size w3 w4 := (Below.refl w3.heap.size w3).drew.trans hb4
    have hl4 : w4.cell? ⟨bl, 0, none⟩ = some (.slice (some ⟨a, 0, none⟩) N N) := hHeld.1
    have hv4 := hv3.same hb34
    have HR4' := Lib.hid (HR4.out.below hb34 (Nat.le_refl _))
    have hB4 := hB3.trans (hb34.mono hz3)
    have hbl4 : bl < w4.heap.size := Nat.lt_of_lt_of_le hbl1 hb34.size
    have hz4 : w.heap.size ≤ w4.heap.size := hB4.size
    clear h1c hrN' hHeld hb4 hb34 hv3 hl0 HR4 hB3 hal
    go_wp2
    go_loopw [0, 5, 6, 7, 8] (fun sv ov fv _ _ wr => ∃ (i e : Nat) (q out : List Int) (qa : Option Addr) (qc : Nat), sv = .slice qa n qc ∧ fv = .int .i64 e ∧ i + e = d ∧ OwnI wr (.slice qa n qc) q ∧ OwnI wr ov out ∧ From w4.heap.size ov ∧ Hid (GPath (bG n) xs (ramp 1 n) d i q out) ∧ Below w4.heap.size w4 wr) (fun _ _ fv _ _ _ => (intOf fv).toNat)
    case atStart => exact ⟨0, d, xs, [], ad, cap, rfl, rfl, by omega, hv4, OwnI.nil _, From.nil _ _ _, HP0, Below.refl _ _⟩
    case round =>
      obtain ⟨i, e, q, out, qa, qc, rfl, rfl, hie, hq, ho, hf, hp, hbr⟩ := hrel
      clear HP0 hv hv4
      obtain ⟨wo, hwo⟩ : ∃ wo, wo = wr := ⟨_, rfl⟩
      subst hwo
      by_cases he : 0 < e
      · have he' : (0 : Int) < e := by omega
        have hie' : i < d := by omega
        have HQ := Lib.hid hp.out.st
        have HF := Lib.hid (gfirK_spec HO.out hp.out.st HT.out (hp.out.more hie'))
        have HL := Lib.hid (fun j hj hl => gfirK_least (j := j) HO.out hp.out.st HT.out (hp.out.more hie') hj hl)
        have HE := Lib.hid (show gfar (bG n) q (ramp 1 n) = e by have := hp.out.ah; omega)
        have heb : e ≤ 15 := by omega
        have HPN := Lib.hid (hp.out.next HO.out HXS.out HT.out HD.out hie')
        obtain ⟨f, hfe⟩ : ∃ f, gfirK (bG n) (ramp 1 n) q = f := ⟨_, rfl⟩
        rw [hfe] at HF HL HPN
        have hf1 : 1 ≤ f := (mem_bks.1 HF.out.1).1
        have hfn : f ≤ n := (mem_bks.1 HF.out.1).2
        have hl0r : wo.cell? ⟨bl, 0, none⟩ = some (.slice (some ⟨a, 0, none⟩) N N) := (hbr.cell (p := ⟨bl, 0, none⟩) hbl4).trans hl4
        have hqn : q.length = n := HQ.out.2
        have HQN := Lib.hid hqn
        have hqm : q.length ≤ 1048576 := by omega
        clear hfe hqn
        go_wp2
        go_loopw [0, 5, 7, 8] (fun sv ow kv _ w5 => ∃ K : Nat, sv = .slice qa n qc ∧ ow = u5 ∧ kv = .int .i64 K ∧ 1 ≤ K ∧ K ≤ f ∧ Below wo.heap.size wo w5) (fun _ _ kv _ _ => n + 1 - (intOf kv).toNat)
        case atStart => exact ⟨1, rfl, rfl, rfl, Nat.le_refl _, hf1, Below.refl _ _⟩
        case round =>
          obtain ⟨K, rfl, rfl, rfl, hK1, hKf, hb5⟩ := hrel
          have hKn : (K : Int) ≤ n := by omega
          have hkk : K ∈ (bG n).ks := mem_bks.2 ⟨hK1, Nat.le_trans hKf hfn⟩
          have hst : BSt n (bturnL q K) := BSt.turn HQ.out K
          have HST := Lib.hid hst
          have hrk : brank (bturnL q K) < (bBd n).N := brank_lt hst
          have hb35 := hbr.trans (hb5.mono hbr.size)
          have hq5 := hq.same hb5
          have hl5 : wr.cell? ⟨bl, 0, none⟩ = some (.slice (some ⟨a, 0, none⟩) N N) := (hb5.cell (p := ⟨bl, 0, none⟩) (Nat.lt_of_lt_of_le hbl4 hbr.size)).trans hl0r
          have HR5 := Lib.hid (HR4'.out.below hb35 (Nat.le_refl _))
          have hKq : K ≤ q.length := by have := HQN.out; omega
          have HQS := Lib.hid (Burnt.small HQ.out.1)
          have HTS := Lib.hid (Burnt.small hst.1)
          have c4 := buTurn_any (.slice qa n qc) q K wr hq5 hqm hKq HQS
          have ht9 : (bturnL q K).length ≤ 9 := by rw [hst.2]; omega
          clear hst
          go_wp2_with fail
          refine c4.mono ?_
          rintro e w6 ⟨r, rfl, hor, hfr, hb6⟩
          clear c4
          have HR6 := HR5.out.below hb6 (Nat.le_refl _)
          have hbl6 : bl < w6.heap.size := Nat.lt_of_lt_of_le hbl4 (Nat.le_trans hb35.size hb6.size)
          have hl6 : w6.cell? ⟨bl, 0, none⟩ = some (.slice (some ⟨a, 0, none⟩) N N) := (hb6.cell (p := ⟨bl, 0, none⟩) (Nat.lt_of_lt_of_le hbl4 hb35.size)).trans hl5
          obtain ⟨h1c, hal6⟩ := HR6.at hrk
          rw [bBd_d h1 h5 HST.out] at h1c
          have hrkN : brank (bturnL q K) < N := by rw [← HNE.out]; exact hrk
          have hrk' : (brank (bturnL q K) : Int) < N := by omega
          obtain ⟨x, hx⟩ : ∃ x, gfar (bG n) (bturnL q K) (ramp 1 n) = x := ⟨_, rfl⟩
          have HX := Lib.hid hx
          rw [hx] at h1c
          have hs1 := IntWalk.i64_in ((e : Int) - 1) (by omega)
          have hq6 := hq5.same hb6
          have ho6 := (ho.same hb5).same hb6
          have hb36 := hb35.trans (hb6.mono hb35.size)
          have hb56 := hb5.trans (hb6.mono hb5.size)
          have hrn : ∃ ra rc, r = .slice ra n rc := by
            obtain ⟨ra, rc, rfl, _, _, _⟩ := hor.shape
            exact ⟨ra, rc, by rw [HST.out.2]⟩
          obtain ⟨ra, rc, rfl⟩ := hrn
          have hzz := hb5.size
          clear hx hl5 hq5 hb5 hb6 hb35 HR6
          go_upto_region 12 with fail
          refine wp_region_held_drew (S := (fun w' => w'.cell? ⟨bl, 0, none⟩ = some (.slice (some ⟨a, 0, none⟩) N N) ∧ w'.cell? ⟨a, brank (bturnL q K), none⟩ = some (iv (x : Int)))) (by kernel_rfl) (⟨hl6, h1c⟩) (fun hHeld => ?_)
          refine wpAnyH_take (i := 0) (v := ?_) rfl (by kernel_rfl) (by kernel_rfl) (by kernel_rfl) (fun _ _ _ h => h) (Or.inl ⟨by rfl, ?_⟩) (by assumption) ?_
          rotate_left
          · intro w _; go_simp; with_reducible rfl
          try simp only [List.getElem_toArray, List.getElem_cons_zero, Act.put, List.setIfInBounds_toArray, List.set_cons_zero, List.set_cons_succ]
          refine wpAnyH_take (i := 1) (v := ?_) rfl (by kernel_rfl) (by kernel_rfl) (by kernel_rfl) (fun _ _ _ h => h) (Or.inl ⟨by rfl, ?_⟩) (by assumption) ?_
          rotate_left
          · intro w hSw; (try dsimp only at hSw); (go_simp <;> with_reducible rfl)
          try simp only [List.getElem_toArray, List.getElem_cons_zero, List.getElem_cons_succ, Act.put, List.setIfInBounds_toArray, List.set_cons_zero, List.set_cons_succ]
          refine wpAnyH_take (i := 2) (v := ?_) rfl (by kernel_rfl) (by kernel_rfl) (by kernel_rfl) (fun _ _ _ h => h) (Or.inl ⟨by rfl, ?_⟩) (by assumption) ?_
          rotate_left
          · intro w _; go_simp; with_reducible rfl
          try simp only [List.getElem_toArray, List.getElem_cons_zero, List.getElem_cons_succ, Act.put, List.setIfInBounds_toArray, List.set_cons_zero, List.set_cons_succ]
          refine wpAnyH_take (i := 6) (v := ?_) rfl (by kernel_rfl) (by kernel_rfl) (by kernel_rfl) (fun _ _ _ h => h) (Or.inl ⟨by rfl, ?_⟩) (by assumption) ?_
          rotate_left
          · intro w _; go_simp; with_reducible rfl
          try simp only [List.getElem_toArray, List.getElem_cons_zero, List.getElem_cons_succ, Act.put, List.setIfInBounds_toArray, List.set_cons_zero, List.set_cons_succ]
          refine wpAnyH_take (i := 7) (v := ?_) rfl (by kernel_rfl) (by kernel_rfl) (by kernel_rfl) (fun _ _ _ h => h) (Or.inl ⟨by rfl, ?_⟩) (by assumption) ?_
          rotate_left
          · intro w _; go_simp; with_reducible rfl
          try simp only [List.getElem_toArray, List.getElem_cons_zero, List.getElem_cons_succ, Act.put, List.setIfInBounds_toArray, List.set_cons_zero, List.set_cons_succ]
          refine wpAnyH_ready (rs := [3]) (by kernel_rfl) (by simp) ?_
          refine AllReadyH.cons rfl (fun Kc hK => ?_) AllReadyH.nil
          go_simp
          refine (buRank_any (.slice ra n rc) (bturnL q K) w6.drew (hor.kept (fun _ _ => rfl)) ht9 HTS).mono ?_
          rintro e w8 ⟨rfl, hb8⟩
          go_wp2_with fail
          refine hK.out _ _ (⟨(hb8.cell (p := ⟨bl, 0, none⟩) hbl6).trans hHeld.1, (hb8.cell (p := ⟨a, brank (bturnL q K), none⟩) hal6).trans hHeld.2⟩) (fun hHeld => ?_)
          clear hK Kc
          try simp only [List.getElem_toArray, List.getElem_cons_zero, List.getElem_cons_succ, Act.put, List.setIfInBounds_toArray, List.set_cons_zero, List.set_cons_succ]
          refine wpAnyH_take (i := 4) (v := ?_) rfl (by kernel_rfl) (by kernel_rfl) (by kernel_rfl) (fun _ _ _ h => h) (Or.inl ⟨by rfl, ?_⟩) (by assumption) ?_
          rotate_left
          · intro w _; go_simp; with_reducible rfl
          try simp only [List.getElem_toArray, List.getElem_cons_zero, List.getElem_cons_succ, Act.put, List.setIfInBounds_toArray, List.set_cons_zero, List.set_cons_succ]
          refine wpAnyH_take (i := 5) (v := ?_) rfl (by kernel_rfl) (by kernel_rfl) (by kernel_rfl) (fun _ _ _ h => h) (Or.inl ⟨by rfl, ?_⟩) (by assumption) ?_
          rotate_left
          · intro w hSw; (try dsimp only at hSw); (go_simp <;> with_reducible rfl)
          try simp only [List.getElem_toArray, List.getElem_cons_zero, List.getElem_cons_succ, Act.put, List.setIfInBounds_toArray, List.set_cons_zero, List.set_cons_succ]
          refine wpAnyH_take (i := 8) (v := ?_) rfl (by kernel_rfl) (by kernel_rfl) (by kernel_rfl) (fun _ _ _ h => h) (Or.inl ⟨by rfl, ?_⟩) (by assumption) ?_
          rotate_left
          · intro w _; go_simp; with_reducible rfl
          try simp only [List.getElem_toArray, List.getElem_cons_zero, List.getElem_cons_succ, Act.put, List.setIfInBounds_toArray, List.set_cons_zero, List.set_cons_succ]
          refine wpAnyH_done (by kernel_rfl) ?_ _
          have hb68 : Below w6.heap.size w6 w8 := (Below.refl w6.heap.size w6).drew.trans hb8
          have ho8 : OwnI w8 u5 out := ho6.same hb68
          have hr8 : OwnI w8 (.slice ra n rc) (bturnL q K) := hor.same hb68
          have hb38 : Below w4.heap.size w4 w8 := hb36.trans (hb68.mono hb36.size)
          have hb58 : Below wo.heap.size wo w8 := hb56.trans (hb68.mono hb56.size)
          have hz8 : w4.heap.size ≤ w8.heap.size := hb38.size
          have hol := ho.lt
          clear ho6 hq6 hor hb36 hb56 hl6 h1c hb8 hb68 hHeld
          by_cases hxe : (x : Int) = (e : Int) - 1
          · have hKe : K = f := by
              rcases Nat.lt_or_ge K f with h | h
              · have h2 := HL.out K hkk h
                unfold gclo at h2
                rw [show (bG n).mv q K = bturnL q K from rfl, HX.out, HE.out] at h2
                have h3 := of_decide_eq_false h2
                omega
              · omega
            subst hKe
            have hlen : out.length ≤ 1048576 := by have := hp.out.len; omega
            go_wp2_with (at_builtin; refine wpList_app1 Try.intSl rfl _ _ rfl _ out rfl (ho8.alloc _) w4.heap.size hf w8.heap.size (K : Int) rfl ?c1 w4 (hb38.alloc hz8 _) ?c2 hlen ?_)
            case c1 => simp [go_sem]
            case c2 => simp; omega
            intro v' w9 ho9 hf9 hb9 hg9
            have hr9 : OwnI w9 (.slice ra n rc) (bturnL q K) := (hr8.alloc (.cells #[.int .i64 (K : Int)] 3)).grown hg9 (fun g hg e => by have := hol g e; have h2 := hfr g hg; omega)
            clear ho8 hr8 hb38 hg9
            go_wp2
            go_roundw
            case rel => exact ⟨i + 1, e - 1, bturnL q K, out ++ [(K : Int)], ra, rc, rfl, by go_num, by omega, hr9, ho9, hf9, HPN, hb9⟩
            case measure => simp [intOf] <;> omega
          · have hKe : K < f := by
              rcases Nat.lt_or_ge K f with h | h
              · exact h
              · have h2 : K = f := by omega
                have h3 := HF.out.2
                rw [← h2, show (bG n).mv q K = bturnL q K from rfl, HX.out] at h3
                omega
            go_wp2
            go_roundw
            case rel => exact ⟨K + 1, rfl, rfl, by go_num, by omega, by omega, hb58⟩
            case measure => simp [intOf] <;> omega
      · have he0 : e = 0 := by omega
        subst he0
        obtain rfl : i = d := by omega
        have HG := Lib.hid hp.out.last
        clear hp
        go_wp2
        go_ret2
        exact ⟨_, rfl, by rw [HM.out, ← HG.out]; exact ho, hf.mono hz4, hB4.trans (hbr.mono hz4)⟩
  | false =>
    have HM := Lib.hid (show mLeastBurnt xs = [] from if_neg (by rw [hg]; exact Bool.false_ne_true))
    rw [hg] at c
    clear hg
    go_enter Try.func71, Try.ntmps71
    go_wp2_with fail
    refine c.mono ?_
    rintro e w1 ⟨rfl, hb1⟩
    go_wp2
    go_ret2
    exact ⟨_, rfl, by rw [HM.out]; exact OwnI.nil _, From.nil _ _ _, hb1⟩

theorem _root_.Go.Pan.OwnI.atO {w : World} {v : Value} {xs : List Int} (h : OwnI w v xs) (j : Nat) (hj : j < xs.length) :
    ∃ g off cap, v = .slice (some ⟨g, off, none⟩) xs.length cap ∧ w.cell? ⟨g, off + j, none⟩ = some (iv xs[j]) ∧ w.frozen? ⟨g, off + j, none⟩ = false ∧ ∀ u : Int, OwnI (w.setCell ⟨g, off + j, none⟩ (iv u)) (.slice (some ⟨g, off, none⟩) xs.length cap) (xs.set j u) := by
  obtain ⟨ad, cap, rfl, h1, h2, h3⟩ := h.shape
  obtain ⟨g, off, rfl, hg, hc, hf⟩ := Own.at h (by omega)
  have hcj := hc j (by omega)
  rw [List.getElem?_map, List.getElem?_eq_getElem hj] at hcj
  refine ⟨g, off, cap, rfl, hcj, hf (off + j), fun u => ?_⟩
  have hs := Own.stored h j (by omega) (iv u)
  unfold OwnI
  rw [List.length_set, List.map_set]
  exact hs

def wlenB : Value → Nat
  | .slice _ n _ => n
  | _ => 0

set_option maxHeartbeats 4000000 in
set_option maxRecDepth 100000 in
theorem sCountBurntBy_any (n : Int) (w : World) :
    Calls Try.prog 73 #[.int .i64 n] w fun e w' => ∃ r, e = .returned (.tuple #[r, .bool (inB n 1 5)]) ∧ OwnI w' r (mCountBurntBy n) ∧ From w.heap.size r ∧ Below w.heap.size w w' := by
  cases hg : inB n 1 5 with
  | true =>
    have HM := Lib.hid (show mCountBurntBy n = bbyL n.toNat from if_pos hg)
    have HGI := Lib.hid hg
    obtain ⟨m, rfl, h1, h5⟩ := inB_five hg
    rw [Int.toNat_natCast] at HM
    obtain ⟨N, hNe⟩ : ∃ N, (bBd m).N = N := ⟨_, rfl⟩
    have HNE := Lib.hid hNe
    have hfl : N ≤ 3840 := by rw [← hNe]; exact bBd_few h5
    have c1 := buAll_any m N w h1 h5 HNE
    have HB := Lib.hid (fun i (hi : i ≤ N) => dLen_le (d := (bBd m).d) (i := i) (M := 15) (fun r hr => bBd_le h1 h5 (by rw [hNe]; omega)))
    have HA := Lib.hid (show dOut (bBd m).d N (dLen (bBd m).d N) = bbyL m by rw [← hNe, bLen_all m]; exact bOut_all h1 h5)
    have hu57 := run_bl0
    clear hg hNe
    go_enter Try.func73, Try.ntmps73
    go_wp2_with fail
    refine (l1In_any _ _ _ _).mono ?_
    rintro e w1 ⟨rfl, rfl⟩
    rw [HGI.out]
    go_wp2_with fail
    refine c1.mono ?_
    rintro e w1 ⟨a, s, S, rfl, HR, hb1⟩
    clear c1
    have hz1 := hb1.size
    go_wp2
    go_loopw [4, 6, 14] (fun ov _ iv' wr => ∃ (i : Nat) (oa : Option Addr) (oc : Nat), i ≤ N ∧ iv' = .int .i64 i ∧ ov = .slice oa (dLen (bBd m).d i) oc ∧ OwnI wr (.slice oa (dLen (bBd m).d i) oc) (dOut (bBd m).d i (dLen (bBd m).d i)) ∧ From w1.heap.size (.slice oa (dLen (bBd m).d i) oc) ∧ Below w1.heap.size w1 wr) (fun _ _ i _ => N - (intOf i).toNat)
    case atStart => exact ⟨0, none, 0, Nat.zero_le _, rfl, rfl, OwnI.nil _, From.nil _ _ _, Below.refl _ _⟩
    case round =>
      obtain ⟨i, oa, oc, hi, rfl, rfl, ho, hf, hbr⟩ := hrel
      obtain ⟨wo, hwo⟩ : ∃ wo, wo = wr := ⟨_, rfl⟩
      subst hwo
      by_cases hlt : i < N
      · have hlt' : (i : Int) < N := by omega
        obtain ⟨h1c, hal⟩ := HR.at (r := i) (by rw [HNE.out]; exact hlt)
        have h1r := (hbr.cell (p := ⟨a, i, none⟩) hal).trans h1c
        obtain ⟨x, hx⟩ : ∃ x, (bBd m).d i = x := ⟨_, rfl⟩
        have HX := Lib.hid hx
        have HLS := Lib.hid (show dLen (bBd m).d (i + 1) = max (dLen (bBd m).d i) (x + 1) by rw [dLen_succ, hx])
        have hlb := HB.out (i + 1) (by omega)
        have hlb0 := HB.out i (by omega)
        have HGW := Lib.hid (fun K (hK : dLen (bBd m).d i ≤ K) => dOut_grow (d := (bBd m).d) (i := i) hK)
        have hxb : x ≤ 15 := by
          rw [HLS.out] at hlb
          omega
        rw [hx] at h1r
        obtain ⟨l0, hl0⟩ : ∃ l, dLen (bBd m).d i = l := ⟨_, rfl⟩
        rw [hl0] at ho hf HLS HGW hlb0 ⊢
        clear h1c hx hlb hl0
        go_wp2
        go_loopw [4] (fun ov w5 => ∃ (K : Nat) (oa : Option Addr) (oc : Nat), l0 ≤ K ∧ K ≤ max l0 (x + 1) ∧ ov = .slice oa K oc ∧ OwnI w5 (.slice oa K oc) (dOut (bBd m).d i K) ∧ From w1.heap.size (.slice oa K oc) ∧ Below w1.heap.size w1 w5) (fun ov _ => x + 1 - wlenB ov)
        case atStart => exact ⟨l0, oa, oc, Nat.le_refl _, Nat.le_max_left _ _, rfl, ho, hf, hbr⟩
        case round =>
          obtain ⟨K, oa2, oc2, hK1, hK2, rfl, ho2, hf2, hb2⟩ := hrel
          clear ho hf h1r
          have hz2 := hb2.size
          by_cases hle : K ≤ x
          · have hle' : (K : Int) ≤ x := by omega
            have hlen : (dOut (bBd m).d i K).length ≤ 1048576 := by rw [dOut_length]; omega
            have HGK := Lib.hid (HGW.out K hK1)
            go_wp2_with (at_builtin; refine wpList_app1 Try.intSl rfl _ _ rfl _ (dOut (bBd m).d i K) rfl (ho2.alloc _) w1.heap.size hf2 wr.heap.size 0 rfl ?c1 w1 (hb2.alloc hz2 _) ?c2 hlen ?_)
            case c1 => simp [go_sem]
            case c2 => simp; omega
            intro v' w9 ho9 hf9 hb9 _
            rw [← HGK.out] at ho9
            obtain ⟨oa9, oc9, rfl, _, _, _⟩ := ho9.shape
            rw [dOut_length] at ho9 hf9 ⊢
            go_wp2
            go_roundw
            case rel => exact ⟨K + 1, oa9, oc9, by omega, by omega, rfl, ho9, hf9, hb9⟩
            case measure => simp [wlenB] <;> omega
          · have hlt2 : (x : Int) < K := by omega
            have hxK : x < K := by omega
            have hKe : dLen (bBd m).d (i + 1) = K := by rw [HLS.out]; omega
            have HKE := Lib.hid hKe
            obtain ⟨g, off, cap, he, hd, hfd, hst⟩ := OwnI.atO ho2 x (by rw [dOut_length]; exact hxK)
            rw [dOut_length] at he hst
            simp only [Value.slice.injEq] at he
            obtain ⟨rfl, _, rfl⟩ := he
            rw [dOut_get hxK] at hd
            have hst2 := hst ((dCnt (bBd m).d i x : Int) + 1)
            rw [dOut_set HX.out] at hst2
            have hcb := dCnt_le (bBd m).d i x
            obtain ⟨k, hk⟩ : ∃ k, dCnt (bBd m).d i x = k := ⟨_, rfl⟩
            rw [hk] at hd hst2 hcb
            have hgB : w1.heap.size ≤ g := hf2 g rfl
            have hb3 := hb2.setCell (p := ⟨g, off + x, none⟩) hgB (iv ((k : Int) + 1))
            have hs1 := IntWalk.i64_in ((k : Int) + 1) (by omega)
            clear hKe hst hk ho2 hb2
            go_wp2
            go_roundw
            case rel => exact ⟨i + 1, _, oc2, by omega, by go_num, by rw [HKE.out], by rw [HKE.out]; exact hst2, by rw [HKE.out]; exact hf2, hb3⟩
            case measure => simp [intOf] <;> omega
      · obtain hie : i = N := by omega
        have HE := Lib.hid (show dOut (bBd m).d i (dLen (bBd m).d i) = bbyL m by rw [hie]; exact HA.out)
        have hge : (N : Int) ≤ i := by omega
        clear hie
        go_wp2
        go_ret2
        exact ⟨_, rfl, by rw [HM.out, ← HE.out]; exact ho, hf.mono hz1, hb1.trans (hbr.mono hz1)⟩
  | false =>
    have HM := Lib.hid (show mCountBurntBy n = [] from if_neg (by rw [hg]; exact Bool.false_ne_true))
    have HGI := Lib.hid hg
    clear hg
    go_enter Try.func73, Try.ntmps73
    go_wp2_with fail
    refine (l1In_any _ _ _ _).mono ?_
    rintro e w1 ⟨rfl, rfl⟩
    rw [HGI.out]
    go_wp2
    go_ret2
    exact ⟨_, rfl, by rw [HM.out]; exact OwnI.nil _, From.nil _ _ _, Below.refl _ _⟩

end Go.Proofs.Ytmlikchhkblohaa

