import Derived.Test.YtkfpcnbpdlcnaaaS24
import Derived.Test.YtkfpcnbpdlcnaaaG9
namespace Go.Proofs.Ytkfpcnbpdlcnaaa
open Go Go.RowKit Go.Pan

theorem wpList_store3o {P : Program} {ops : Array Oper} {rest : List Oper} {o : Oper} {a : Act} {w : World} {Q : Exit → Act → World → Prop}
    (hgd : o.guard = none) (ty : TypeId) (x y : Operand) (ho : o.op = .store ty x y) (g : Nat) (c0 c1 c2 : Value) (hx : a.eval x = .pointer (some ⟨g, 0, none⟩)) (hy : a.eval y = .agg #[c0, c1, c2])
    (t : TypeId) (old : List Value) (hg : Blk w g t old) (hi : (P.info? ty).map (·.size) = some 3) (hold : old.length = 3) (h1 : c0.oneCell' = true ∧ c1.oneCell' = true ∧ c2.oneCell' = true)
    (h : ∀ w', Blk w' g t [c0, c1, c2] → w.grownBy w' (some g) → wpList P ops Q rest (a.put o.dst undef) w') : wpList P ops Q (o :: rest) a w := by
  refine wpList_store3 hgd ty x y ho g c0 c1 c2 hx hy t old hg hi hold h1 ?_
  exact h _ (hg.setRow [c0, c1, c2]) ⟨rfl, rfl, rfl, by simp [World.setRow], fun k _ hk => setRow_other w g k _ (fun e => hk (by rw [e]))⟩

theorem quiet_left2 {f : FuncId} {args : Array Value} {w : World} {n : Nat} {v : Value} (h : Calls Try.prog f args (w.drewN n) fun e w' => e = .returned v ∧ w.drewN n = w') : Calls Try.prog f args (w.drewN n) fun e w' => e = .returned v ∧ ∃ m, w' = w.drewN m :=
  h.mono fun _ _ ⟨he, hw⟩ => ⟨he, n, hw.symm⟩
theorem faRank_quiet (v : Value) (xs : List Int) (w : World) (hv : OwnI w v xs) (h9 : xs.length ≤ 9) (k : Nat) :
    Calls Try.prog 41 #[v] (w.drewN k) fun e w' => e = .returned (.int .i64 (rankL xs : Nat)) ∧ w.drewN k = w' := faRank_any v xs (w.drewN k) (Own.kept hv fun _ _ => rfl) h9

set_option maxHeartbeats 4000000 in
set_option maxRecDepth 100000 in
theorem faPlan_any (n d : Nat) (v : Value) (xs : List Int) (w : World) (hv : OwnI w v xs) (hn : Hid (Cnt n)) (h7 : n ≤ 7) (hs : Hid (St n xs)) (hd : Hid (far n xs (ramp 1 n) = d)) :
    Calls Try.prog 36 #[v] w fun e w' => ∃ r, e = .returned r ∧ OwnI w' r (goL n (ramp 1 n) d xs) ∧ From w.heap.size r ∧ Below w.heap.size w w' := by
  obtain ⟨ad, cap, rfl, _, _, _⟩ := hv.shape
  have hl := hs.out.2
  have HT := Lib.hid (show St n (ramp 1 n) from hn.out.home)
  have hl9 : xs.length ≤ 9 := by omega
  have hdb : d ≤ 2 * n := by rw [← hd.out]; exact (far_spec hs.out HT.out).2.1
  rw [hl] at hv
  rw [hl]
  clear hl
  have c1 := faAll_any n w hn h7
  go_enter Try.func36, Try.ntmps36
  go_wp2_with fail
  refine c1.mono ?_
  rintro e w1 ⟨a, c, s, S, rfl, HR, hb1⟩
  clear c1
  have hz : Blk (w1.alloc (.cells #[.slice none 0 0, .slice none 0 0, .slice none 0 0] 62)) w1.heap.size 62 [.slice none 0 0, .slice none 0 0, .slice none 0 0] := Blk.new _ _ [.slice none 0 0, .slice none 0 0, .slice none 0 0] _ rfl
  go_upto_region 3 with (refine wpList_store3o rfl 62 _ _ rfl w1.heap.size _ _ _ rfl rfl 62 _ hz (by kernel_rfl) rfl ⟨rfl, rfl, rfl⟩ ?_; intro w3 hbl hg3)
  have hb13 : Below w1.heap.size w1 w3 := (below_new w1 _).grown hg3 (by simp) (by intro k hk; cases hk; exact Nat.le_refl _)
  have HR3 := HR.below hb13 (Nat.le_refl _)
  have hB3 := hb1.trans (hb13.mono hb1.size)
  have hl0 : w3.cell? ⟨w1.heap.size, 0, none⟩ = some (.slice (some ⟨a, 0, none⟩) (fact n) (fact n)) := by rw [hbl.cell 0]; rfl
  have hbl1 := hbl.lt
  obtain ⟨bl, hbe⟩ : ∃ b, w1.heap.size = b := ⟨_, rfl⟩
  rw [hbe] at hl0 hbl1 ⊢
  have hz3 : w.heap.size ≤ w3.heap.size := hB3.size
  have hv3 : OwnI w3 (.slice ad n cap) xs := (show OwnI w (.slice ad n cap) xs from hv).same hB3
  have hrl := rank_lt hs.out
  obtain ⟨h1, _, hal, _⟩ := HR3.at hrl
  rw [dS_rank hn.out hs.out, hd.out] at h1
  have hrl' : (rankL xs : Int) < fact n := by omega
  have HR4 := Lib.hid HR3
  clear hb1 HR hz hg3 hb13 HR3 hbl hbe
  go_quiet ((go_at_call 41; exact quiet_left2 (faRank_quiet _ xs w3 hv3 hl9 _)))
  have hp0 := Lib.hid (PathAt.start hs.out hd.out)
  clear h1 hrl'
  go_wp2
  go_loopw [0, 4, 5, 6, 7] (fun sv ov fv _ _ wr => ∃ (i e : Nat) (q out : List Int) (qa : Option Addr) (qc : Nat), sv = .slice qa n qc ∧ fv = .int .i64 e ∧ i + e = d ∧ OwnI wr (.slice qa n qc) q ∧ OwnI wr ov out ∧ From w3.heap.size ov ∧ Hid (PathAt n xs (ramp 1 n) d i q out) ∧ Below w3.heap.size w3 wr) (fun _ _ fv _ _ _ => (intOf fv).toNat)
  case atStart => exact ⟨0, d, xs, [], ad, cap, rfl, rfl, by omega, hv3.kept (fun _ _ => rfl), OwnI.nil _, From.nil _ _ _, hp0, (Below.refl w3.heap.size w3).drewN _⟩
  case round =>
    obtain ⟨i, e, q, out, qa, qc, rfl, rfl, hie, hq, ho, hf, hp, hbr⟩ := hrel
    clear hp0 hv hv3
    obtain ⟨wo, hwo⟩ : ∃ wo, wo = wr := ⟨_, rfl⟩
    subst hwo
    by_cases he : 0 < e
    · have he' : (0 : Int) < e := by omega
      have hie' : i < d := by omega
      have HQ := Lib.hid hp.out.st
      have HF := Lib.hid (firK_spec hp.out.st HT.out (hp.out.more hie'))
      have HL := Lib.hid (fun j hj hl => firK_least (j := j) hp.out.st HT.out (hp.out.more hie') hj hl)
      have HE := Lib.hid (show far n q (ramp 1 n) = e by have := hp.out.ah; omega)
      have heb : e ≤ 2 * n := by rw [← HE.out]; exact (far_spec HQ.out HT.out).2.1
      have HPN := Lib.hid (hp.out.next hs.out HT.out hd.out hie')
      obtain ⟨f, hfe⟩ : ∃ f, firK n (ramp 1 n) q = f := ⟨_, rfl⟩
      rw [hfe] at HF HL HPN
      have hf2 : 2 ≤ f := HF.out.1.1
      have hfn : f ≤ n := HF.out.1.2
      have hl0r : wo.cell? ⟨bl, 0, none⟩ = some (.slice (some ⟨a, 0, none⟩) (fact n) (fact n)) := (hbr.cell (p := ⟨bl, 0, none⟩) hbl1).trans hl0
      have hqn : q.length = n := HQ.out.2
      have HQN := Lib.hid hqn
      have hqm : q.length ≤ 1048576 := by omega
      clear hfe hqn
      go_wp2
      go_loopw [0, 4, 6, 7] (fun sv ow kv _ w5 => ∃ K : Nat, sv = .slice qa n qc ∧ ow = u4 ∧ kv = .int .i64 K ∧ 2 ≤ K ∧ K ≤ f ∧ Below wo.heap.size wo w5) (fun _ _ kv _ _ => n + 1 - (intOf kv).toNat)
      case atStart => exact ⟨2, rfl, rfl, rfl, Nat.le_refl _, hf2, Below.refl _ _⟩
      case round =>
        obtain ⟨K, rfl, rfl, rfl, hK2, hKf, hb5⟩ := hrel
        have hKn : (K : Int) ≤ n := by omega
        have hkk := mem_ks.2 ⟨hK2, Nat.le_trans hKf hfn⟩
        have hst := HQ.out.turn K
        have HST := Lib.hid hst
        have hrk := rank_lt hst
        have hb35 := hbr.trans (hb5.mono hbr.size)
        have hq5 := hq.same hb5
        have hl5 : wr.cell? ⟨bl, 0, none⟩ = some (.slice (some ⟨a, 0, none⟩) (fact n) (fact n)) := (hb5.cell (p := ⟨bl, 0, none⟩) (Nat.lt_of_lt_of_le hbl1 hbr.size)).trans hl0r
        have HR5 := Lib.hid (HR4.out.below hb35 (Nat.le_refl _))
        have hKq : K ≤ q.length := by have := HQN.out; omega
        have c4 := stTurn_any (.slice qa n qc) q K wr hq5 hqm hKq
        have ht9 : (turnL q K).length ≤ 9 := hst.1.le9
        clear hst
        go_wp2_with fail
        refine c4.mono ?_
        rintro e w6 ⟨r, rfl, hor, hfr, hb6⟩
        clear c4
        have HR6 := HR5.out.below hb6 (Nat.le_refl _)
        have hl6 : w6.cell? ⟨bl, 0, none⟩ = some (.slice (some ⟨a, 0, none⟩) (fact n) (fact n)) := (hb6.cell (p := ⟨bl, 0, none⟩) (Nat.lt_of_lt_of_le hbl1 hb35.size)).trans hl5
        obtain ⟨h1, _, _, _⟩ := HR6.at hrk
        rw [dS_rank hn.out HST.out] at h1
        have hrk' : (rankL (turnL q K) : Int) < fact n := by omega
        obtain ⟨x, hx⟩ : ∃ x, far n (turnL q K) (ramp 1 n) = x := ⟨_, rfl⟩
        have HX := Lib.hid hx
        rw [hx] at h1
        have hs1 := IntWalk.i64_in ((e : Int) - 1) (by omega)
        have hq6 := hq5.same hb6
        have ho6 := (ho.same hb5).same hb6
        have hb36 := hb35.trans (hb6.mono hb35.size)
        have hb56 := hb5.trans (hb6.mono hb5.size)
        have hrn : ∃ ra rc, r = .slice ra n rc := by
          obtain ⟨ra, rc, rfl, _, _, _⟩ := hor.shape
          exact ⟨ra, rc, by rw [HST.out.2]⟩
        obtain ⟨ra, rc, rfl⟩ := hrn
        have hzz := hb5.size
        clear hx hl5 hq5 hb5 hb6 hb35 HR6
        go_wp2_with fail
        go_quiet ((go_at_call 41; exact quiet_left2 (faRank_quiet _ (turnL q K) w6 hor ht9 _)))
        obtain ⟨w8, hw8⟩ : ∃ w8, w8 = w6.drewN nq := ⟨_, rfl⟩
        rw [← hw8]
        have ho8 : OwnI w8 u4 out := ho6.kept (fun _ _ => by rw [hw8]; rfl)
        have hq8 : OwnI w8 (.slice qa n qc) q := hq6.kept (fun _ _ => by rw [hw8]; rfl)
        have hr8 : OwnI w8 (.slice ra n rc) (turnL q K) := hor.kept (fun _ _ => by rw [hw8]; rfl)
        have hb38 : Below w3.heap.size w3 w8 := by rw [hw8]; exact hb36.drewN _
        have hb58 : Below wo.heap.size wo w8 := by rw [hw8]; exact hb56.drewN _
        have hz8 : w3.heap.size ≤ w8.heap.size := hb38.size
        have hol := ho.lt
        clear ho6 hq6 hor hb36 hb56 hw8 hl6 h1
        by_cases hxe : (x : Int) = (e : Int) - 1
        · have hKe : K = f := by
            rcases Nat.lt_or_ge K f with h | h
            · have h2 := HL.out K hkk h
              unfold clo at h2
              rw [HX.out, HE.out] at h2
              have h3 := of_decide_eq_false h2
              omega
            · omega
          subst hKe
          have hlen : out.length ≤ 1048576 := by have := hp.out.len; omega
          go_wp2_with (at_builtin; refine wpList_app1 Try.intSl rfl _ _ rfl _ out rfl (ho8.alloc _) w3.heap.size hf w8.heap.size (K : Int) rfl ?c1 w3 (hb38.alloc hz8 _) ?c2 hlen ?_)
          case c1 => simp [go_sem]
          case c2 => simp; omega
          intro v' w9 ho9 hf9 hb9 hg9
          have hr9 : OwnI w9 (.slice ra n rc) (turnL q K) := (hr8.alloc (.cells #[.int .i64 (K : Int)] 3)).grown hg9 (fun g hg e => by have := hol g e; have h2 := hfr g hg; omega)
          clear ho8 hr8 hq8 hb38 hg9
          go_wp2
          go_roundw
          case rel => exact ⟨i + 1, e - 1, turnL q K, out ++ [(K : Int)], ra, rc, rfl, by go_num, by omega, hr9, ho9, hf9, HPN, hb9⟩
          case measure => simp [intOf] <;> omega
        · have hKe : K < f := by
            rcases Nat.lt_or_ge K f with h | h
            · exact h
            · have h2 : K = f := by omega
              have h3 := HF.out.2
              rw [← h2, HX.out] at h3
              omega
          go_wp2
          go_roundw
          case rel => exact ⟨K + 1, rfl, rfl, by go_num, by omega, by omega, hb58⟩
          case measure => simp [intOf] <;> omega
    · have he0 : e = 0 := by omega
      subst he0
      obtain rfl : i = d := by omega
      have HG := Lib.hid hp.out.last
      clear hp
      go_wp2
      go_ret
      exact ⟨_, rfl, by rw [← HG.out]; exact ho, hf.mono hz3, hB3.trans (hbr.mono hz3)⟩

set_option maxHeartbeats 1600000 in
set_option maxRecDepth 100000 in
theorem sPlanBetween_any (v : Value) (xs : List Int) (u : Value) (ys : List Int) (w : World) (hv : OwnI w v xs) (hn : xs.length ≤ 1048576) (hu : OwnI w u ys) (hm : ys.length ≤ 1048576) :
    Calls Try.prog 8 #[v, u] w fun e w' => ∃ r, e = .returned (.tuple #[r, .bool (twoB xs ys)]) ∧ OwnI w' r (mPlanBetween xs ys) ∧ From w.heap.size r ∧ Below w.heap.size w w' := by
  have c := faTwo_any _ _ xs ys w hv hn hu hm
  cases hg : twoB xs ys with
  | true =>
    have HG := Lib.hid hg
    obtain ⟨hG, h7, hH, hl⟩ := twoB_iff.1 hg
    have hsl : (seenL xs ys).length = xs.length := by simp [seenL]
    have hS := seenL_good hG hH hl
    have HC := Lib.hid hG.cnt
    have HS := Lib.hid (show St xs.length (seenL xs ys) from ⟨hS, hsl⟩)
    have HD := Lib.hid (show far xs.length (seenL xs ys) (ramp 1 xs.length) = far2 xs ys from far_seen hG hH hl xs.length hl.symm)
    have HM := Lib.hid (show mPlanBetween xs ys = goL xs.length (ramp 1 xs.length) (far2 xs ys) (seenL xs ys) by
      rw [goL_seen ⟨hH, hl.symm⟩ _ xs hG.st]
      exact if_pos hg)
    obtain ⟨ad, cap, rfl, _, _, _⟩ := hv.shape
    obtain ⟨ad2, cap2, rfl, _, _, _⟩ := hu.shape
    rw [hg] at c
    clear hg hG hH hl hsl hS
    go_enter Try.func8, Try.ntmps8
    go_wp2_with fail
    refine c.mono ?_
    rintro e w1 ⟨rfl, hb1⟩
    clear c
    go_wp2_with fail
    refine (faSeen_any _ _ xs ys _ (hv.same hb1) (hu.same hb1) HG).mono ?_
    rintro e w2 ⟨r, rfl, ho, hf, hb2⟩
    have hB2 := hb1.trans (hb2.mono hb1.size)
    have c2 := faPlan_any xs.length (far2 xs ys) _ (seenL xs ys) w2 ho HC h7 HS HD
    go_wp2_with fail
    refine c2.mono ?_
    rintro e w3 ⟨r3, rfl, ho3, hf3, hb3⟩
    go_wp2
    go_ret2
    exact ⟨_, rfl, by rw [HM.out]; exact ho3, hf3.mono hB2.size, hB2.trans (hb3.mono hB2.size)⟩
  | false =>
    have HM := Lib.hid (show mPlanBetween xs ys = [] from if_neg (by rw [hg]; exact Bool.false_ne_true))
    rw [hg] at c
    obtain ⟨ad, cap, rfl, _, _, _⟩ := hv.shape
    obtain ⟨ad2, cap2, rfl, _, _, _⟩ := hu.shape
    clear hg
    go_enter Try.func8, Try.ntmps8
    go_wp2_with fail
    refine c.mono ?_
    rintro e w1 ⟨rfl, hb1⟩
    go_wp2
    go_ret2
    exact ⟨_, rfl, by rw [HM.out]; exact OwnI.nil _, From.nil _ _ _, hb1⟩

theorem turnL_one (q : List Int) : turnL q 1 = q := by cases q <;> simp [turnL]
theorem clo_one (n : Nat) (t q : List Int) : clo n t q 1 = false := by unfold clo; rw [turnL_one]; simp
theorem clo_lt {n : Nat} {t q : List Int} (hq : St n q) (ht : St n t) {k : Nat} (h1 : 1 ≤ k) (hn : k ≤ n) : decide (far n (turnL q k) t < far n q t) = clo n t q k := by
  by_cases e : k = 1
  · subst e
    rw [clo_one, turnL_one]
    simp
  · have h := far_one (mem_ks.2 ⟨by omega, hn⟩) ht hq
    rw [far_symm ht hq, far_symm ht (hq.turn k)] at h
    unfold clo
    rw [Bool.eq_iff_iff]
    simp
    omega

end Go.Proofs.Ytkfpcnbpdlcnaaa

