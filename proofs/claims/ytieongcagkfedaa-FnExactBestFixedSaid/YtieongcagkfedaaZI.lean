import Derived.Test.YtieongcagkfedaaZH
import Derived.Test.YtieongcagkfedaaI4
namespace Go.Proofs.Ytieongcagkfedaa
open Go Go.RowKit Go.Pan

/-- what is asked of the comparison: it tells by ts, as long as its block stands -/
def CmpOk (ts : Int → Int) (L : List Int) (b0 : Nat) (tyT : TypeId) (cells : List Value) : Prop :=
  ∀ (x y : Int) (W : World), x ∈ L → y ∈ L → Blk W b0 tyT cells → Calls Try.prog 88 #[.int .i64 x, .int .i64 y, .pointer (some ⟨b0, 0, none⟩)] W fun e w' => e = .returned (.int .i64 (cmpZ (ts y) (ts x))) ∧ ∃ m, w' = W.drewN m

set_option maxHeartbeats 3200000 in
set_option maxRecDepth 100000 in
theorem insSort_any (ts : Int → Int) (L : List Int) (g off n cap : Nat) (ty : TypeId) (pre post : List Value) (b0 : Nat) (tyT : TypeId) (cells : List Value) (w : World)
    (hb : Blk w g ty (pre ++ L.map iv ++ post)) (hoff : pre.length = off) (hn : Hid (L.length = n)) (h1 : 1 ≤ n) (hn9 : n ≤ 9) (hF : Hid (CmpOk ts L b0 tyT cells)) (hT : Hid (Blk w b0 tyT cells)) (hne : Hid (b0 ≠ g)) :
    Calls Try.prog 139 #[.slice (some ⟨g, off, none⟩) n cap, .int .i64 0, .int .i64 n, .func (Fn.func 88) #[] #[.pointer (some ⟨b0, 0, none⟩)]] w fun e w' => e = .returned (.tuple #[]) ∧ Blk w' g ty (pre ++ (bestL ts L).map iv ++ post) ∧ w.grownBy w' (some g) := by
  subst hoff
  have HB0 := Lib.hid (show Blk w g ty (pre ++ (bestL ts (L.take 1) ++ L.drop 1).map iv ++ post) by rw [bestL_one ts L (by have := hn.out; omega)]; exact hb)
  clear hb
  go_enter Try.func139, Try.ntmps139
  go_wp2
  go_loopw [8, 9] (fun i _ wr => ∃ k : Nat, 1 ≤ k ∧ k ≤ n ∧ i = .int .i64 k ∧ Hid (Blk wr g ty (pre ++ (bestL ts (L.take k) ++ L.drop k).map iv ++ post)) ∧ w.grownBy wr (some g)) (fun i _ _ => n - (intOf i).toNat)
  case atStart => exact ⟨1, Nat.le_refl _, h1, by go_num, HB0, World.grownBy.refl _ _⟩
  case round =>
    obtain ⟨k, hk1, hk, rfl, hbl, hgr⟩ := hrel
    obtain ⟨wk, rfl⟩ : ∃ z, z = wr := ⟨_, rfl⟩
    clear HB0
    by_cases hlt : k < n
    · have hkL : k < L.length := by rw [hn.out]; exact hlt
      obtain ⟨b, hb⟩ : ∃ b, L[k] = b := ⟨_, rfl⟩
      have HBM := Lib.hid (show b ∈ L by rw [← hb]; exact List.getElem_mem hkL)
      obtain ⟨O, hO⟩ : ∃ O, bestL ts (L.take k) = O := ⟨_, rfl⟩
      have HOL := Lib.hid (show O.length = k by rw [← hO, bestL_length, List.length_take]; omega)
      have HOM := Lib.hid (show ∀ y ∈ O, y ∈ L from fun y hy => by rw [← hO] at hy; exact List.mem_of_mem_take (bestL_mem _ _ _ hy))
      obtain ⟨R, hR⟩ : ∃ R, L.drop (k + 1) = R := ⟨_, rfl⟩
      have HRL := Lib.hid (show R.length = n - (k + 1) by rw [← hR, List.length_drop, hn.out])
      have HS := Lib.hid (show bestL ts (L.take (k + 1)) ++ L.drop (k + 1) = insB ts O b ++ R by rw [bestL_step ts L k hkL, hO, hb, hR])
      have HB1 := Lib.hid (show Blk wk g ty (pre ++ (stL O b k R).map iv ++ post) by
        have h := hbl.out
        rw [hO, List.drop_eq_getElem_cons hkL, hb, hR] at h
        rw [show stL O b k R = O ++ b :: R by have := stL_all O b R; rw [HOL.out] at this; exact this]
        exact h)
      have hkn : (k : Int) < (n : Int) := by omega
      clear hb hO hR hbl
      go_wp2
      go_loopw [9] (fun jv wi => ∃ j : Nat, j ≤ k ∧ jv = .int .i64 j ∧ Hid (downK ts O b j = downK ts O b k) ∧ Hid (Blk wi g ty (pre ++ (stL O b j R).map iv ++ post)) ∧ w.grownBy wi (some g)) (fun jv _ => (intOf jv).toNat)
      case atStart => exact ⟨k, Nat.le_refl _, rfl, Lib.hid rfl, HB1, hgr⟩
      case round =>
        obtain ⟨j, hj, rfl, hD, hbj, hgi⟩ := hrel
        obtain ⟨wi, rfl⟩ : ∃ z, z = wr := ⟨_, rfl⟩
        clear HB1 hgr
        by_cases h0 : j = 0
        · have HB2 := Lib.hid (fun N => show Blk (wi.drewN N) g ty (pre ++ (bestL ts (L.take (k + 1)) ++ L.drop (k + 1)).map iv ++ post) by
            rw [HS.out, ← stL_ins, HOL.out, ← hD.out, h0]
            have h := hbj.out
            rw [h0] at h
            exact h)
          have hd : decide ((0 : Int) < (j : Int)) = false := by subst h0; decide
          have hd2 : decide (0 < j) = false := by subst h0; rfl
          clear h0 hD hbj
          go_wp2_with fail
          go_quiet (fail)
          go_wp2
          go_roundw
          case rel => exact ⟨k + 1, by omega, by omega, by go_num, HB2.out _, hgi.drewN _⟩
          case measure => simp [intOf] <;> omega
        · obtain ⟨m, hmj⟩ : ∃ m, j = m + 1 := ⟨j - 1, by omega⟩
          have hmO : m < O.length := by rw [HOL.out]; omega
          have hjO : j ≤ O.length := by rw [HOL.out]; exact hj
          have hln : (stL O b j R).length = n := by rw [stL_length O b j R hjO, HOL.out, HRL.out]; omega
          have hl : ((stL O b j R).map iv).length = n := by rw [List.length_map, hln]
          have hcj := hbj.out.cell (pre.length + j)
          have hcm := hbj.out.cell (pre.length + m)
          rw [mid_get _ _ _ _ (by rw [hl]; omega), List.getElem_map, stL_b O b j R hjO (by rw [hln]; omega)] at hcj
          rw [mid_get _ _ _ _ (by rw [hl]; omega), List.getElem_map, stL_m O b j m R hjO (by omega) (by rw [hln]; omega)] at hcm
          obtain ⟨y, hy⟩ : ∃ y, O[m] = y := ⟨_, rfl⟩
          have HYY := Lib.hid hy
          rw [hy] at hcm
          have hyL : y ∈ L := HOM.out y (by rw [← hy]; exact List.getElem_mem hmO)
          have hfj := hbj.out.frozen (pre.length + j)
          have hfm := hbj.out.frozen (pre.length + m)
          have hTi : Blk wi b0 tyT cells := hT.out.grown hgi (fun e => hne.out (Option.some.inj e).symm)
          have HC := Lib.hid (fun N : Nat => hF.out b y (wi.drewN N) HBM.out hyL hTi)
          have HD := Lib.hid (show downK ts O b j = if ts y < ts b then downK ts O b m else j by
            subst hmj
            rw [downK, getD_eq hmO, hy])
          obtain ⟨z, hz⟩ : ∃ z, cmpZ (ts y) (ts b) = z := ⟨_, rfl⟩
          have hzl : z < 0 ↔ ts y < ts b := by rw [← hz]; exact cmpZ_lt _ _
          rw [hz] at HC
          have hjp : (0 : Int) < (j : Int) := by omega
          have hjn : 0 < j := by omega
          have hw1 : IntKind.i64.wrap ((j : Int) - 1) = (m : Int) := by rw [show (j : Int) - 1 = (m : Int) by omega]; exact IntWalk.i64_in _ (by omega)
          have hw2 : (0 : Int) ≤ (m : Int) := by omega
          have hw3 : (m : Int) < (n : Int) := by omega
          have hw4 : (j : Int) < (n : Int) := by omega
          have HMJ := Lib.hid hmj
          by_cases hcmp : z < 0
          · have H := Lib.hid (show downK ts O b m = downK ts O b k by rw [← hD.out, HD.out, if_pos (hzl.1 hcmp)])
            have hq1 : decide (z < 0) = true := decide_eq_true hcmp
            have HE := Lib.hid (show ((stL O b j R).set j y).set m b = stL O b m R by
              have h := stL_swap O b m R hmO
              rw [hy] at h
              rw [HMJ.out]
              exact h)
            have HBJ := Lib.hid hbj.out
            have HGI := Lib.hid hgi
            have HFK := Lib.hid (show (j : Int) - 1 = (m : Int) by omega)
            clear HD hD hcmp hzl hz hln hbj hTi hyL hgi hmj h0 hy
            go_wp2_with fail
            go_quiet ((go_at_call 88; with_reducible exact Calls.quiet_of (HC.out _)))
            obtain ⟨wd, hwd⟩ : ∃ z, wi.drewN nq = z := ⟨_, rfl⟩
            have hbd : Blk wd g ty (pre ++ (stL O b j R).map iv ++ post) := by rw [← hwd]; exact HBJ.out.drewN _
            have hgd : w.grownBy wd (some g) := by rw [← hwd]; exact HGI.out.drewN _
            rw [hwd]
            clear hwd hcj hcm hfj hfm
            have hcj := hbd.cell (pre.length + j)
            have hcm := hbd.cell (pre.length + m)
            rw [mid_get _ _ _ _ (by rw [hl]; omega), List.getElem_map, stL_b O b j R hjO (by rw [List.length_map] at hl; omega)] at hcj
            rw [mid_get _ _ _ _ (by rw [hl]; omega), List.getElem_map, stL_m O b j m R hjO (by have := HMJ.out; omega) (by rw [List.length_map] at hl; omega), HYY.out] at hcm
            have hfj := hbd.frozen (pre.length + j)
            have hfm := hbd.frozen (pre.length + m)
            have hst := (hbd.set (pre.length + j) (iv y)).set (pre.length + m) (iv b)
            have hgr2 := grown_set (off := 0) (n := 0) (cap := 0) (grown_set (off := 0) (n := 0) (cap := 0) hgd (pre.length + j) (iv y)) (pre.length + m) (iv b)
            rw [mid_set _ _ _ _ _ (by rw [hl]; omega), mid_set _ _ _ _ _ (by rw [List.length_set, hl]; omega), ← List.map_set, ← List.map_set, HE.out] at hst
            obtain ⟨v', hy'⟩ := cell?_setCell_some (w := wd) (p := ⟨g, pre.length + j, none⟩) (x := iv y) (q := ⟨g, pre.length + m, none⟩) (v := iv y) hcm
            clear hbd hgd hl
            go_wp2
            go_region
            go_wp2
            go_roundw
            case rel => exact ⟨m, by have := HMJ.out; omega, by first | rfl | (have := HFK.out; go_num), H, Lib.hid hst.drew, hgr2.drew1⟩
            case measure => have := HMJ.out; simp [intOf] <;> omega
          · have hq1 : decide (z < 0) = false := decide_eq_false hcmp
            have HB2 := Lib.hid (fun N => show Blk (wi.drewN N) g ty (pre ++ (bestL ts (L.take (k + 1)) ++ L.drop (k + 1)).map iv ++ post) by
              rw [HS.out, ← stL_ins, HOL.out, ← hD.out, HD.out, if_neg (fun h => hcmp (hzl.2 h))]
              exact hbj.out)
            clear HD hD hcmp hzl hz hl hln hbj hTi hyL hmj h0 hy
            go_wp2_with fail
            go_quiet ((go_at_call 88; with_reducible exact Calls.quiet_of (HC.out _)))
            go_wp2
            go_roundw
            case rel => exact ⟨k + 1, by omega, by omega, by go_num, HB2.out _, hgi.drewN _⟩
            case measure => simp [intOf] <;> omega
    · obtain rfl : k = n := by omega
      have HX := Lib.hid (show Blk wk g ty (pre ++ (bestL ts L).map iv ++ post) by
        have h := hbl.out
        rw [← hn.out, List.take_length, List.drop_length, List.append_nil] at h
        exact h)
      clear hbl
      go_wp2
      go_end0
      exact ⟨rfl, HX.out, hgr⟩

set_option maxHeartbeats 1600000 in
set_option maxRecDepth 100000 in
theorem stableSort_any (ts : Int → Int) (L : List Int) (g off n cap : Nat) (ty : TypeId) (pre post : List Value) (b0 : Nat) (tyT : TypeId) (cells : List Value) (w : World)
    (hb : Blk w g ty (pre ++ L.map iv ++ post)) (hoff : pre.length = off) (hn : Hid (L.length = n)) (h1 : 1 ≤ n) (hn9 : n ≤ 9) (hF : Hid (CmpOk ts L b0 tyT cells)) (hT : Hid (Blk w b0 tyT cells)) (hne : Hid (b0 ≠ g)) :
    Calls Try.prog 129 #[.slice (some ⟨g, off, none⟩) n cap, .int .i64 n, .func (Fn.func 88) #[] #[.pointer (some ⟨b0, 0, none⟩)]] w fun e w' => e = .returned (.tuple #[]) ∧ Blk w' g ty (pre ++ (bestL ts L).map iv ++ post) ∧ w.grownBy w' (some g) := by
  have c := insSort_any ts L g off n cap ty pre post b0 tyT cells w hb hoff hn h1 hn9 hF hT hne
  have h20 : (n : Int) < 20 := by omega
  have h20' : ¬ ((20 : Int) < (n : Int)) := by omega
  clear hb
  go_enter Try.func129, Try.ntmps129
  go_wp2
  refine wp_loop_rounds 1 ?_
  rw [rounds_succ]
  go_wp2_with fail
  refine c.mono ?_
  rintro e w1 ⟨rfl, hb1, hg1⟩
  clear c
  go_wp2
  refine wp_loop_rounds 1 ?_
  rw [rounds_succ]
  go_wp2
  go_end0
  exact ⟨rfl, hb1, hg1⟩

theorem sortStable_any (ts : Int → Int) (L : List Int) (g off n cap : Nat) (ty : TypeId) (pre post : List Value) (b0 : Nat) (tyT : TypeId) (cells : List Value) (w : World)
    (hb : Blk w g ty (pre ++ L.map iv ++ post)) (hoff : pre.length = off) (hn : Hid (L.length = n)) (h1 : 1 ≤ n) (hn9 : n ≤ 9) (hF : Hid (CmpOk ts L b0 tyT cells)) (hT : Hid (Blk w b0 tyT cells)) (hne : Hid (b0 ≠ g)) :
    Calls Try.prog 87 #[.slice (some ⟨g, off, none⟩) n cap, .func (Fn.func 88) #[] #[.pointer (some ⟨b0, 0, none⟩)]] w fun e w' => e = .returned (.tuple #[]) ∧ Blk w' g ty (pre ++ (bestL ts L).map iv ++ post) ∧ w.grownBy w' (some g) := by
  have c := stableSort_any ts L g off n cap ty pre post b0 tyT cells w hb hoff hn h1 hn9 hF hT hne
  clear hb
  go_enter Try.func87, Try.ntmps87
  go_wp2_with fail
  refine c.mono ?_
  rintro e w1 ⟨rfl, hb1, hg1⟩
  clear c
  go_wp2
  go_end0
  exact ⟨rfl, hb1, hg1⟩

set_option maxHeartbeats 3200000 in
set_option maxRecDepth 100000 in
theorem BestFixed_any (v : Value) (xs : List Int) (u : Value) (ys : List Int) (w : World) (hv : OwnI w v xs) (hn : xs.length ≤ 1048576) (hu : OwnI w u ys) (hm : ys.length ≤ 1048576) :
    Calls Try.prog 38 #[v, u] w fun e w' => ∃ r, e = .returned (.tuple #[r, .bool (askB xs ys)]) ∧ OwnI w' r (mBestFixed xs ys) ∧ From w.heap.size r ∧ Below w.heap.size w w' := by
  have cA := AreAsked_any v xs u ys w hv hn hu hm
  unfold mAreAsked at cA
  obtain ⟨ad, cap, rfl, hc, _, _⟩ := hv.shape
  obtain ⟨bd, cbp, rfl, hc', _, _⟩ := hu.shape
  cases hg : askB xs ys with
  | true =>
    rw [hg] at cA
    have HM := Lib.hid (show mBestFixed xs ys = bestL (cntA ys) xs from if_pos hg)
    obtain ⟨hgx, h60, hall⟩ := askB_iff.1 hg
    have HG := Lib.hid hgx
    have HA := Lib.hid hall
    have h1 := hgx.1
    have h9 := hgx.2.1
    clear hgx hall hg
    go_enter Try.func38, Try.ntmps38
    go_wp2_with fail
    refine cA.mono ?_
    rintro e w1 ⟨rfl, hb1⟩
    have HV1 := Lib.hid (hv.same hb1)
    have HU1 := Lib.hid (hu.same hb1)
    have hz : Blk (w1.alloc (.cells (twl []).toArray 65)) w1.heap.size 65 ((timesT ys 0).map iv) := by rw [timesT_zero]; exact Blk.new w1 _ _ _ rfl
    have hbz := hb1.alloc hb1.size (.cells (twl []).toArray 65)
    have HB1 := Lib.hid hb1
    clear cA hb1 hv hu hbz
    go_wp2
    go_loopw [10, 22] (fun _ i wr => ∃ k : Nat, k ≤ ys.length ∧ i = .int .i64 k ∧ Hid (Blk wr w1.heap.size 65 ((timesT ys k).map iv)) ∧ Below w1.heap.size w1 wr) (fun _ i _ => ys.length - (intOf i).toNat)
    case atStart => exact ⟨0, Nat.zero_le _, rfl, Lib.hid hz, below_new w1 _⟩
    case round =>
      obtain ⟨k, hk, rfl, hT, hbr⟩ := hrel
      clear hz
      by_cases hlt : k < ys.length
      · have hur := HU1.out.below hbr (Nat.le_refl _)
        obtain ⟨g, off, rfl, hgl, hcell, hf⟩ := hur.at (by omega)
        have hck := hcell k (by omega)
        rw [List.getElem?_map, List.getElem?_eq_getElem hlt] at hck
        have hb := HA.out _ (List.getElem_mem hlt)
        obtain ⟨j, hj⟩ : ∃ j : Nat, ys[k] = (j : Int) + 1 := ⟨(ys[k] - 1).toNat, by omega⟩
        rw [hj] at hck
        have hj9 : j < 9 := by omega
        have hd := hT.out.cell j
        have hfd := hT.out.frozen j
        rw [List.getElem?_map, List.getElem?_eq_getElem (by rw [timesT_length]; exact hj9), timesT_get] at hd
        have hcb := cntA_le ys k ((j : Int) + 1)
        obtain ⟨z, hz⟩ : ∃ z, cntA (ys.take k) ((j : Int) + 1) = z := ⟨_, rfl⟩
        rw [hz] at hd hcb
        have hst := hT.out.set j (iv (z + 1))
        rw [← List.map_set, ← hz, timesT_step ys k j hlt hj, hz] at hst
        have hb2 := hbr.setCell (p := ⟨w1.heap.size, j, none⟩) (Nat.le_refl _) (iv (z + 1))
        have hz0 := hcb.1
        have hz1 := hcb.2
        have hj9' : (j : Int) < 9 := by omega
        have HST := Lib.hid hst
        clear hcell hf hur hb hT hbr hj hz hcb hst
        go_wp2
        go_roundw
        case rel => exact ⟨k + 1, by omega, by go_num, HST, hb2⟩
        case measure => simp [intOf] <;> omega
      · obtain rfl : k = ys.length := by omega
        have HT := Lib.hid (show Blk wr w1.heap.size 65 ((timesT ys ys.length).map iv) from hT.out)
        have HBr := Lib.hid (HB1.out.trans (hbr.mono HB1.out.size))
        have hvr := HV1.out.below hbr (Nat.le_refl _)
        have hzr := HT.out.lt
        have hz1 := HB1.out.size
        clear hT hbr
        go_wp2_with fail
        refine (towerOf_any _ xs _ hvr h9).mono ?_
        rintro e w3 ⟨rfl, hb3⟩
        go_wp2_with fail
        refine (list_any xs xs.length _ rfl h9).mono ?_
        rintro e w4 ⟨r, rfl, ho, hf, hb4⟩
        have HT4 := Lib.hid ((HT.out.below hb3 hzr).below hb4 (Nat.lt_of_lt_of_le hzr hb3.size))
        have HB4 := Lib.hid ((HBr.out.trans (hb3.mono HBr.out.size)).trans (hb4.mono (Nat.le_trans HBr.out.size hb3.size)))
        have hf4 : ∀ q, r.ownBlock = some q → wr.heap.size ≤ q := fun q hq => Nat.le_trans hb3.size (hf q hq)
        have hsr := HBr.out.size
        obtain ⟨a4, c4, hr4, hc4, hm4, _⟩ := ho.shape
        subst hr4
        obtain ⟨g, off, ty, pre, post, hae, hbk, hp, hl⟩ := Own.blk ho (show 0 < c4 by omega)
        subst hae
        have hgw := hf4 g rfl
        have cS := sortStable_any (cntA ys) xs g off xs.length c4 ty pre post w1.heap.size 65 ((timesT ys ys.length).map iv) w4 hbk hp (Lib.hid rfl) h1 h9
          (Lib.hid fun x y W hx hy hB => by
            have bx := HG.out.2.2.1 x hx
            have by' := HG.out.2.2.1 y hy
            have e1 : x = ((x - 1).toNat : Int) + 1 := by omega
            have e2 : y = ((y - 1).toNat : Int) + 1 := by omega
            refine cmpBest_any x y (x - 1).toNat (y - 1).toNat (cntA ys x) (cntA ys y) w1.heap.size W e1 e2 (by omega) (by omega) ?_ ?_
            · rw [hB.cell, List.getElem?_map, List.getElem?_eq_getElem (by rw [timesT_length]; omega), timesT_get, List.take_length, ← e1]; rfl
            · rw [hB.cell, List.getElem?_map, List.getElem?_eq_getElem (by rw [timesT_length]; omega), timesT_get, List.take_length, ← e2]; rfl)
          HT4 (Lib.hid (by omega))
        have HL := Lib.hid hl
        clear ho hf hb3 hb4 hvr hbk hl
        go_wp2_with fail
        refine cS.mono ?_
        rintro e w5 ⟨rfl, hb5, hg5⟩
        have HO5 := Lib.hid (show OwnI w5 (.slice (some ⟨g, off, none⟩) xs.length c4) (mBestFixed xs ys) by
          rw [HM.out]
          unfold OwnI
          rw [bestL_length]
          exact Own.of_blk hb5 hp (bestL_length _ _) hc4 hm4 (by have := HL.out; simp only [List.length_append, List.length_map, bestL_length] at this ⊢; exact this))
        have hB5 : Below w.heap.size w w5 := HB4.out.grown hg5 HB4.out.size (fun q hq => by cases hq; show w.heap.size ≤ g; omega)
        have hf5 : From w.heap.size (.slice (some ⟨g, off, none⟩) xs.length c4) := From.at _ _ _ _ _ (by omega)
        clear cS hb5 hg5
        go_wp2
        go_ret2
        exact ⟨_, rfl, HO5.out, hf5, hB5⟩
  | false =>
    rw [hg] at cA
    have HM := Lib.hid (show mBestFixed xs ys = [] from if_neg (by rw [hg]; exact Bool.false_ne_true))
    clear hg
    go_enter Try.func38, Try.ntmps38
    go_wp2_with fail
    refine cA.mono ?_
    rintro e w1 ⟨rfl, hb1⟩
    clear cA hv hu
    go_wp2
    go_ret2
    exact ⟨_, rfl, by rw [HM.out]; exact OwnI.nil _, From.nil _ _ _, hb1⟩

end Go.Proofs.Ytieongcagkfedaa
