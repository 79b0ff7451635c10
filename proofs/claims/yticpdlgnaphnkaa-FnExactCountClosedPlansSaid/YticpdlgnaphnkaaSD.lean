import Derived.Test.YticpdlgnaphnkaaKB
import Derived.Test.YticpdlgnaphnkaaSC
namespace Go.Pan
/-- a layer's numbers, by the ranks -/
def rowL (n : Nat) (f : LC) : List Int := (List.range (fact n)).map fun r => (f (unrank n r) : Int)
theorem rowL_length (n : Nat) (f : LC) : (rowL n f).length = fact n := by simp [rowL]
theorem rowL_get {n r : Nat} (f : LC) (h : r < fact n) : (rowL n f)[r]'(by rw [rowL_length]; exact h) = (f (unrank n r) : Int) := by simp [rowL]
def doneI (i : Nat) : List Int → Bool := fun q => decide (rankL q < i)
theorem rowL_none (n : Nat) : rowL n (fun _ => 0) = List.replicate (fact n) 0 := by
  unfold rowL
  rw [show (fun r : Nat => (((fun _ => 0 : LC) (unrank n r) : Nat) : Int)) = fun _ => (0 : Int) from rfl, List.map_const', List.length_range]
section
variable {n : Nat} (hn : Cnt n)
include hn
theorem rowL_congr {c o : LC} (h : EqC n c o) : rowL n c = rowL n o := by
  unfold rowL
  refine List.map_congr_left fun r hr => ?_
  rw [h _ (unrank_st hn.pos hn.le (List.mem_range.1 hr))]
theorem rowL_set {c : LC} {q : List Int} (hq : St n q) (v : Nat) : (rowL n c).set (rankL q) (v : Int) = rowL n (fun p => if p = q then v else c p) := by
  apply List.ext_getElem (by simp [rowL])
  intro j h1 h2
  have hj : j < fact n := by simpa [rowL] using h2
  rw [List.getElem_set, rowL_get _ hj, rowL_get _ hj]
  by_cases e : rankL q = j
  · rw [if_pos e, if_pos (by rw [← e, unrank_rank hn.pos hn.le hq])]
  · rw [if_neg e, if_neg (fun h => e (by rw [← h, rank_unrank hj]))]
theorem rowL_one : (List.replicate (fact n) (0 : Int)).set 0 1 = rowL n (allC n (ramp 1 n) 0) := by
  have h := rowL_set hn (c := fun _ => 0) hn.home 1
  rw [rankL_ramp, rowL_none n] at h
  rw [show (1 : Int) = ((1 : Nat) : Int) from rfl, h]
  exact rowL_congr hn (fun q hq => allC_zero n (ramp 1 n) q hq)
theorem rowL_step {c : LC} {done : List Int → Bool} {x : List Int} (hx : St n x) {K : Nat} (hK : K ∈ ks n) : (rowL n (behN n c done x K)).set (rankL (turnL x K)) ((behN n c done x K (turnL x K) + c x : Nat) : Int) = rowL n (behN n c done x (K + 1)) := by
  rw [rowL_set hn (hx.turn K)]
  exact rowL_congr hn (fun q hq => (behN_succ hK q hq).symm)
theorem row_first (c : LC) {i : Nat} (hi : i < fact n) : rowL n (behM n c (doneI i)) = rowL n (behN n c (doneI (i + 1)) (unrank n i) 2) := by
  refine rowL_congr hn (behN_first (fun y hy hne => ?_) ?_)
  · have h : rankL y ≠ i := fun e => hne (by rw [← e, unrank_rank hn.pos hn.le hy])
    unfold doneI
    rw [Bool.eq_iff_iff, decide_eq_true_iff, decide_eq_true_iff]
    omega
  · unfold doneI
    rw [rank_unrank hi]
    simp
theorem row_last (c : LC) {i : Nat} (hi : i < fact n) : rowL n (behN n c (doneI (i + 1)) (unrank n i) (n + 1)) = rowL n (behM n c (doneI (i + 1))) :=
  rowL_congr hn (behN_last (by unfold doneI; rw [rank_unrank hi]; simp))
theorem row_skip (c : LC) {i : Nat} (h0 : c (unrank n i) = 0) : rowL n (behM n c (doneI i)) = rowL n (behM n c (doneI (i + 1))) := by
  refine rowL_congr hn (fun q hq => sum_congr fun k _ => ?_)
  by_cases e : rankL (turnL q k) = i
  · have h : c (turnL q k) = 0 := by rw [← h0, ← e, unrank_rank hn.pos hn.le (hq.turn k)]
    rw [h]
    simp
  · have : doneI i (turnL q k) = doneI (i + 1) (turnL q k) := by
      unfold doneI
      rw [Bool.eq_iff_iff, decide_eq_true_iff, decide_eq_true_iff]
      omega
    rw [this]
theorem row_none (c : LC) : rowL n (behM n c (doneI 0)) = List.replicate (fact n) 0 := by
  rw [← rowL_none n]
  exact rowL_congr hn (behM_none (fun y _ h => by simp [doneI] at h))
theorem row_all (s : List Int) (i : Nat) : rowL n (behM n (allC n s i) (doneI (fact n))) = rowL n (allC n s (i + 1)) := by
  rw [← allC_succ]
  exact rowL_congr hn (behM_all (fun y hy => decide_eq_true (rank_lt hy)))
end
end Go.Pan
namespace Go.Pan
def closedB (n k : Int) : Bool := inB n 1 7 && inB k 0 8
def mCountClosedPlans (n k : Int) : Int := if closedB n k = true then (Pan.ways n.toNat k.toNat (ramp 1 n.toNat) (ramp 1 n.toNat) : Int) else 0
theorem inB_k {k : Int} (h : inB k 0 8 = true) : ∃ j : Nat, k = (j : Int) ∧ j ≤ 8 := by
  simp [inB] at h
  exact ⟨k.toNat, by omega, by omega⟩
theorem inB_nat7 {n : Int} (h : inB n 1 7 = true) : ∃ m : Nat, n = (m : Int) ∧ Cnt m ∧ m ≤ 7 := by
  simp [inB] at h
  exact ⟨n.toNat, by omega, ⟨by omega, by omega⟩, by omega⟩
end Go.Pan
namespace Go.Proofs.Yticpdlgnaphnkaa
open Go Go.RowKit Go.Pan

def litZ : DD → Int
  | .lit (.int _ c) => c
  | _ => 0
set_option maxHeartbeats 4000000 in
set_option maxRecDepth 100000 in
theorem CountClosedPlans_any (n k : Int) (w : World) :
    Calls Try.prog 58 #[.int .i64 n, .int .i64 k] w fun e w' => e = .returned (.tuple #[.int .i64 (mCountClosedPlans n k), .bool (closedB n k)]) ∧ Below w.heap.size w w' := by
  have c := isSearchedCount_any n w
  cases hg : inB n 1 7 with
  | true =>
    rw [hg] at c
    cases hk : inB k 0 8 with
    | true =>
      have hB : closedB n k = true := by unfold closedB; rw [hg, hk]; rfl
      have HM0 := Lib.hid (show mCountClosedPlans n k = (Pan.ways n.toNat k.toNat (ramp 1 n.toNat) (ramp 1 n.toNat) : Int) from if_pos hB)
      have HB := Lib.hid hB
      obtain ⟨m, rfl, hm, h7⟩ := inB_nat7 hg
      obtain ⟨j, rfl, hj8⟩ := inB_k hk
      have HM := Lib.hid (show mCountClosedPlans m j = (Pan.ways m j (ramp 1 m) (ramp 1 m) : Int) by rw [HM0.out]; simp)
      have HC := Lib.hid hm
      have HS := Lib.hid hm.home
      have hs := hm.home
      have h9 : m ≤ 9 := by omega
      have hr9 : (ramp 1 m).length ≤ 9 := by rw [ramp_length]; exact h9
      have hmm := @run_makeMap Try.prog
      have hkey := key_tw hs
      have HL := Lib.hid (show Lay m ((DataW.map [] : DD).put (kl (ramp 1 m)) (.lit (.int .i64 1))) (allC m (ramp 1 m) 0) from by
        have h1 := (Lay.empty m).put Maps.isMap_empty hs 1 (by omega)
        refine h1.congr (fun q _ => ?_)
        show (if q = ramp 1 m then 1 else 0) = Pan.ways m 0 (ramp 1 m) q
        rw [ways_zero]
        by_cases e : q = ramp 1 m
        · rw [if_pos e, if_pos e.symm]
        · rw [if_neg e, if_neg (fun h => e h.symm)])
      have hj0 : ¬ (j : Int) < 0 := by omega
      have hj1 : ¬ (8 : Int) < (j : Int) := by omega
      clear hg hk hB hm hs HM0
      go_enter Try.func58, Try.ntmps58
      go_wp2_with fail
      refine c.mono ?_
      rintro e w0 ⟨rfl, rfl⟩
      clear c
      go_wp2_with fail
      refine (sortedTower_any m w h9).mono ?_
      rintro e w1 ⟨rfl, hb1⟩
      have hz : Blk (w1.alloc (.cells (twl []).toArray 54)) w1.heap.size 54 (twl []) := Blk.new _ _ (twl []) _ rfl
      go_upto_region 4 with (refine wpList_store_tower rfl _ _ rfl w1.heap.size [] (ramp 1 m) (by simp) hr9 rfl rfl hz ?_; intro w2 hbl2 hg2)
      have hb12 : Below w1.heap.size w1 w2 := (below_new w1 _).grown hg2 (by simp) (by intro k hk; cases hk; exact Nat.le_refl _)
      have hB2 := hb1.trans (hb12.mono hb1.size)
      have hlt2 := hbl2.lt
      have hbx : Blk (w2.alloc (.map #[] 0)) w1.heap.size 54 (twl (ramp 1 m)) := hbl2.alloc _
      have hmk : (w2.alloc (.map #[] 0)).ownsMap Try.prog 54 (plainElem (H := Unit) Try.prog 3) w2.heap.size 0 (.map []) := by
        have := World.ownsMap_made w2 Try.prog 54 (plainElem (H := Unit) Try.prog 3)
        simpa using this
      have hB3 := hB2.alloc hB2.size (.map #[] 0)
      have hz2 := hB2.size
      clear hz hg2 hbl2 hb12
      try simp only [List.getElem_toArray, List.getElem_cons_zero, List.getElem_cons_succ, Act.put, List.setIfInBounds_toArray, List.set_cons_zero, List.set_cons_succ]
      go_wp2_with (first | (refine wpList_load_tower rfl _ rfl w1.heap.size (ramp 1 m) hr9 rfl hbx ?_) | (refine wpList_insert_own _ rfl _ _ _ 68 rfl 54 3 keyd Try.underlying68 _ w2.heap.size 0 (.map []) rfl hmk (by unfold maxLen; omega) _ _ (kl (ramp 1 m)) rfl rfl hkey (.lit (.int .i64 1)) [] (plainElem_int Try.underlying3 rfl) ?_; intro w3 hown3 hgr3))
      have hB4 := hB3.grown hgr3 hB3.size (by intro k hk; cases hk; exact hz2)
      have hbx3 := hbx.grown hgr3 (by simp; omega)
      have hly := Ly.of HC.out hown3 HL.out
      have hlt3 := hbx3.lt
      clear hB2 hB3 hmk hbx hown3 hgr3
      go_wp2
      go_loopw [7, 25] (fun rv iv' wr => ∃ (i b : Nat), i ≤ j ∧ iv' = .int .i64 i ∧ rv = .map (some b) ∧ Ly m wr b (allC m (ramp 1 m) i) ∧ Blk wr w1.heap.size 54 (twl (ramp 1 m)) ∧ Below w.heap.size w wr) (fun _ i _ => j - (intOf i).toNat)
      case atStart => exact ⟨0, w2.heap.size, Nat.zero_le _, rfl, rfl, hly, hbx3, hB4⟩
      case round =>
        obtain ⟨i, b, hi, rfl, rfl, hl, hbr, hB⟩ := hrel
        clear hly hbx3 hB4 hlt3
        by_cases hlt : i < j
        · have hlt' : (i : Int) < j := by omega
          have hMX := Lib.hid (show ∀ q, St m q → allC m (ramp 1 m) i q ≤ 470184984576 from fun q _ => Nat.le_trans (ways_le _ _ _ _) (pow_bound h7 (by omega)))
          have c2 := lbehind_any m b _ 470184984576 wr HC hl hMX (Nat.le_refl _)
          rw [allC_succ] at c2
          have hlw := hbr.lt
          go_wp2_with fail
          refine c2.mono ?_
          rintro e w5 ⟨b', rfl, hly5, _, hb5⟩
          have hbr5 := hbr.below hb5 hlw
          have hB5 := hB.trans (hb5.mono hB.size)
          clear c2 hl hbr hB
          go_wp2
          go_roundw
          case rel => exact ⟨i + 1, b', by omega, by go_num, rfl, hly5, hbr5, hB5⟩
          case measure => simp [intOf] <;> omega
        · obtain rfl : i = j := by omega
          have hge : (i : Int) ≤ i := Int.le_refl _
          obtain ⟨D, hown, hL2⟩ := hl
          have hat := hL2.at0 HS.out
          have HAT := Lib.hid hat
          clear hL2 hat
          go_wp2_with (first | (refine wpList_load_tower rfl _ rfl w1.heap.size (ramp 1 m) hr9 rfl hbr ?_) | (at_lookup; refine wpList_lookup_own_int _ rfl _ _ 68 rfl 54 3 .i64 keyd Try.underlying68 Try.underlying3 (zeroI _) b (fact m) D rfl hown _ (kl (ramp 1 m)) rfl hkey ?_; intro c0 hc0 _))
          go_ret2
          have he : c0 = (allC m (ramp 1 m) i (ramp 1 m) : Int) := (congrArg litZ (HAT.out.symm.trans hc0)).symm
          exact ⟨by rw [HM.out, HB.out, he]; rfl, hB⟩
    | false =>
      have HB := Lib.hid (show closedB n k = false by unfold closedB; rw [hg, hk]; rfl)
      have HM := Lib.hid (show mCountClosedPlans n k = 0 from if_neg (by unfold closedB; rw [hg, hk]; exact Bool.false_ne_true))
      by_cases hk0 : k < 0
      · clear hg hk
        go_enter Try.func58, Try.ntmps58
        go_wp2_with fail
        refine c.mono ?_
        rintro e w0 ⟨rfl, rfl⟩
        go_wp2
        go_ret2
        exact ⟨by rw [HM.out, HB.out]; rfl, Below.refl _ _⟩
      · have hk8 : 8 < k := by simp [inB] at hk; omega
        clear hg hk
        go_enter Try.func58, Try.ntmps58
        go_wp2_with fail
        refine c.mono ?_
        rintro e w0 ⟨rfl, rfl⟩
        go_wp2
        go_ret2
        exact ⟨by rw [HM.out, HB.out]; rfl, Below.refl _ _⟩
  | false =>
    have HB := Lib.hid (show closedB n k = false by unfold closedB; rw [hg]; rfl)
    have HM := Lib.hid (show mCountClosedPlans n k = 0 from if_neg (by unfold closedB; rw [hg]; exact Bool.false_ne_true))
    rw [hg] at c
    clear hg
    go_enter Try.func58, Try.ntmps58
    go_wp2_with fail
    refine c.mono ?_
    rintro e w0 ⟨rfl, rfl⟩
    go_wp2
    go_ret2
    exact ⟨by rw [HM.out, HB.out]; rfl, Below.refl _ _⟩

set_option maxHeartbeats 4000000 in
set_option maxRecDepth 100000 in
theorem sCountClosedPlans_any (n k : Int) (w : World) :
    Calls Try.prog 57 #[.int .i64 n, .int .i64 k] w fun e w' => e = .returned (.tuple #[.int .i64 (mCountClosedPlans n k), .bool (closedB n k)]) ∧ Below w.heap.size w w' := by
  have c := faNumber_any n w
  cases hg : inB n 1 7 with
  | true =>
    rw [hg] at c
    have cl := l1In_any k 0 8 w
    cases hk : inB k 0 8 with
    | true =>
      rw [hk] at cl
      have hB : closedB n k = true := by unfold closedB; rw [hg, hk]; rfl
      have HM0 := Lib.hid (show mCountClosedPlans n k = (Pan.ways n.toNat k.toNat (ramp 1 n.toNat) (ramp 1 n.toNat) : Int) from if_pos hB)
      have HB := Lib.hid hB
      obtain ⟨m, rfl, hm, h7⟩ := inB_nat7 hg
      obtain ⟨j, rfl, hj8⟩ := inB_k hk
      have HM := Lib.hid (show mCountClosedPlans m j = (Pan.ways m j (ramp 1 m) (ramp 1 m) : Int) by rw [HM0.out]; simp)
      have HC := Lib.hid hm
      have hfl := fact_le (n := m) (by omega)
      have hf0 := fact_pos m
      obtain ⟨i0, hi, hz0, hz1, hz2⟩ := info_parts Try.info3
      have HI := Lib.hid hi
      have HZ0 := Lib.hid hz0
      have HZ1 := Lib.hid hz1
      have HZ2 := Lib.hid hz2
      have c1 := faAll_any m w HC h7
      clear hg hk hB hm HM0 hi hz0 hz1 hz2
      go_enter Try.func57, Try.ntmps57
      go_wp2_with fail
      refine c.mono ?_
      rintro e w0 ⟨rfl, rfl⟩
      clear c
      go_wp2_with fail
      refine cl.mono ?_
      rintro e w0 ⟨rfl, rfl⟩
      clear cl
      go_wp2_with fail
      refine c1.mono ?_
      rintro e w1 ⟨a, c, s, S, rfl, HR, hb1⟩
      clear c1
      have hz : Blk (w1.alloc (.cells #[.slice none 0 0, .slice none 0 0, .slice none 0 0] 57)) w1.heap.size 57 [.slice none 0 0, .slice none 0 0, .slice none 0 0] := Blk.new _ _ [.slice none 0 0, .slice none 0 0, .slice none 0 0] _ rfl
      go_upto_region 4 with (refine wpList_store3o rfl 57 _ _ rfl w1.heap.size _ _ _ rfl rfl 57 _ hz (by kernel_rfl) rfl ⟨rfl, rfl, rfl⟩ ?_; intro w3 hbl hg3)
      have hb13 : Below w1.heap.size w1 w3 := (below_new w1 _).grown hg3 (by simp) (by intro k hk; cases hk; exact Nat.le_refl _)
      have HR3 := HR.below hb13 (Nat.le_refl _)
      have hB3 := hb1.trans (hb13.mono hb1.size)
      have hl0 : w3.cell? ⟨w1.heap.size, 0, none⟩ = some (.slice (some ⟨a, 0, none⟩) (fact m) (fact m)) := by rw [hbl.cell 0]; rfl
      have hl2 : w3.cell? ⟨w1.heap.size, 2, none⟩ = some (.slice (some ⟨s, 0, none⟩) (fact m) (fact m)) := by rw [hbl.cell 2]; rfl
      have hbl1 := hbl.lt
      obtain ⟨bl, hbe⟩ : ∃ b, w1.heap.size = b := ⟨_, rfl⟩
      rw [hbe] at hl0 hl2 hbl1 ⊢
      have hz3 : w.heap.size ≤ w3.heap.size := hB3.size
      have HR4 := Lib.hid HR3
      clear hb1 HR hz hg3 hb13 HR3 hbl hbe
      try simp only [List.getElem_toArray, List.getElem_cons_zero, List.getElem_cons_succ, Act.put, List.setIfInBounds_toArray, List.set_cons_zero, List.set_cons_succ]
      go_upto_region 5 with (at_make; refine wpList_make_full _ rfl _ _ 25 rfl w3.heap.size 3 i0 (.int .i64 0) 1 Try.underlying25 HI.out HZ0.out HZ1.out _ _ _ _ (fact m) rfl rfl rfl rfl ?b1 ?b2 ?b3 ?_)
      case b1 => rw [HZ2.out]; omega
      case b2 => unfold maxLen; omega
      case b3 => exact Nat.le_refl _
      intro w4 hown hgrow
      have ho0 : OwnI w4 (.slice (some ⟨w3.heap.size, 0, none⟩) (fact m) (fact m)) (List.replicate (fact m) 0) := OwnI.of_made hown
      have hb34 : Below w3.heap.size w3 w4 := (Below.refl _ _).grown hgrow (Nat.le_refl _) (by intro k hk; cases hk)
      obtain ⟨hd, hfd, hst⟩ := OwnI.cellAt ho0 0 (by rw [List.length_replicate]; exact hf0)
      have hst := hst 1
      rw [rowL_one HC.out] at hst
      have hf0' : (0 : Int) < fact m := by omega
      have hb35 := hb34.setCell (p := ⟨w3.heap.size, 0, none⟩) (Nat.le_refl _) (iv 1)
      clear hown hgrow ho0
      go_wp2
      go_loopw [1, 7, 8, 9, 10, 11] (fun kv nv _ _ _ _ wr => ∃ (i e g : Nat), i + e = j ∧ kv = .int .i64 e ∧ nv = .slice (some ⟨g, 0, none⟩) (fact m) (fact m) ∧ OwnI wr (.slice (some ⟨g, 0, none⟩) (fact m) (fact m)) (rowL m (allC m (ramp 1 m) i)) ∧ Below w3.heap.size w3 wr) (fun kv _ _ _ _ _ _ => (intOf kv).toNat)
      case atStart => exact ⟨0, j, w3.heap.size, by omega, rfl, rfl, hst, hb35⟩
      case round =>
        obtain ⟨i, e, g, hie, rfl, rfl, ho, hbr⟩ := hrel
        clear hst hb35 hb34 hd hfd
        obtain ⟨wo, hwo⟩ : ∃ wo, wo = wr := ⟨_, rfl⟩
        subst hwo
        by_cases he : 0 < e
        · have he' : (0 : Int) < e := by omega
          obtain ⟨C, hC⟩ : ∃ C, allC m (ramp 1 m) i = C := ⟨_, rfl⟩
          have HCE := Lib.hid hC
          have HCM := Lib.hid (show ∀ q, St m q → C q ≤ 470184984576 from fun q _ => by rw [← hC]; exact Nat.le_trans (ways_le _ _ _ _) (pow_bound h7 (by omega)))
          rw [hC] at ho
          clear hC
          go_wp2_with (at_make; refine wpList_make_full _ rfl _ _ 25 rfl wo.heap.size 3 i0 (.int .i64 0) 1 Try.underlying25 HI.out HZ0.out HZ1.out _ _ _ _ (fact m) rfl rfl rfl rfl ?b1 ?b2 ?b3 ?_)
          case b1 => rw [HZ2.out]; omega
          case b2 => unfold maxLen; omega
          case b3 => exact Nat.le_refl _
          intro w5 hown hgrow
          have hx0 : OwnI w5 (.slice (some ⟨wo.heap.size, 0, none⟩) (fact m) (fact m)) (rowL m (behM m C (doneI 0))) := by rw [row_none HC.out]; exact OwnI.of_made hown
          have hb5 : Below wo.heap.size wo w5 := (Below.refl _ _).grown hgrow (Nat.le_refl _) (by intro k hk; cases hk)
          clear hown hgrow
          go_wp2
          go_loopw [9, 10, 11, 37] (fun _ _ _ iv' w6 => ∃ r : Nat, r ≤ fact m ∧ iv' = .int .i64 r ∧ OwnI w6 (.slice (some ⟨wo.heap.size, 0, none⟩) (fact m) (fact m)) (rowL m (behM m C (doneI r))) ∧ Below wo.heap.size wo w6) (fun _ _ _ iv' _ => fact m - (intOf iv').toNat)
          case atStart => exact ⟨0, Nat.zero_le _, rfl, hx0, hb5⟩
          case round =>
            obtain ⟨r, hr, rfl, hx, hb6⟩ := hrel
            clear hx0 hb5
            obtain ⟨wp, hwp⟩ : ∃ wp, wp = wr := ⟨_, rfl⟩
            subst hwp
            by_cases hlt : r < fact m
            · have hlt' : (r : Int) < fact m := by omega
              have ho6 := ho.same hb6
              obtain ⟨hcn, _, _⟩ := OwnI.cellAt ho6 r (by rw [rowL_length]; exact hlt)
              rw [rowL_get C hlt] at hcn
              have hb36 := hbr.trans (hb6.mono hbr.size)
              have hqs := unrank_st HC.out.pos HC.out.le hlt
              obtain ⟨x, hxe⟩ : ∃ x, unrank m r = x := ⟨_, rfl⟩
              have HXE := Lib.hid hxe
              rw [hxe] at hcn hqs
              have HQ := Lib.hid hqs
              have hcb := HCM.out x hqs
              obtain ⟨z, hz⟩ : ∃ z, C x = z := ⟨_, rfl⟩
              have HZ := Lib.hid hz
              rw [hz] at hcn hcb
              replace hcn : wp.cell? ⟨g, r, none⟩ = some (.int .i64 (z : Int)) := hcn
              clear hxe hqs hz ho6
              by_cases hz0 : z = 0
              · have hzi : (z : Int) = 0 := by omega
                have HSK := Lib.hid (row_skip HC.out C (i := r) (by rw [HXE.out, HZ.out]; exact hz0))
                clear hz0
                go_wp2
                go_roundw
                case rel => exact ⟨r + 1, by omega, by go_num, by rw [← HSK.out]; exact hx, hb6⟩
                case measure => simp [intOf] <;> omega
              · have hzi : ((z : Int) == 0) = false := by rw [beq_eq_false_iff_ne]; omega
                have hx2 : OwnI wp (.slice (some ⟨wo.heap.size, 0, none⟩) (fact m) (fact m)) (rowL m (behN m C (doneI (r + 1)) x 2)) := by
                  rw [← HXE.out, ← row_first HC.out C hlt]
                  exact hx
                have hl26 : wp.cell? ⟨bl, 2, none⟩ = some (.slice (some ⟨s, 0, none⟩) (fact m) (fact m)) := (hb36.cell (p := ⟨bl, 2, none⟩) hbl1).trans hl2
                have hm1 := HC.out.pos
                clear hx hz0
                go_wp2
                go_loopw [11] (fun tv w7 => ∃ K : Nat, 2 ≤ K ∧ K ≤ m + 1 ∧ tv = .int .i64 K ∧ OwnI w7 (.slice (some ⟨wo.heap.size, 0, none⟩) (fact m) (fact m)) (rowL m (behN m C (doneI (r + 1)) x K)) ∧ Below wo.heap.size wo w7) (fun tv _ => m + 1 - (intOf tv).toNat)
                case atStart => exact ⟨2, Nat.le_refl _, by omega, rfl, hx2, hb6⟩
                case round =>
                  obtain ⟨K, hK2, hKm, rfl, hx7, hb7⟩ := hrel
                  clear hx2 hl26 hb36
                  by_cases hKl : K ≤ m
                  · have hKl' : (K : Int) ≤ m := by omega
                    have hkk := mem_ks.2 ⟨hK2, hKl⟩
                    have hb37 := hbr.trans (hb7.mono hbr.size)
                    have hl27 : wr.cell? ⟨bl, 2, none⟩ = some (.slice (some ⟨s, 0, none⟩) (fact m) (fact m)) := (hb37.cell (p := ⟨bl, 2, none⟩) hbl1).trans hl2
                    obtain ⟨va, vc, hcs, hq7⟩ := (HR4.out.below hb37 (Nat.le_refl _)).stAt HC.out hlt
                    rw [HXE.out] at hq7
                    have hxm : x.length ≤ 1048576 := by have := HQ.out.2; omega
                    have hKx : K ≤ x.length := by have := HQ.out.2; omega
                    have hst := HQ.out.turn K
                    have ht9 : (turnL x K).length ≤ 9 := hst.1.le9
                    have hrk := rank_lt hst
                    have HRS := Lib.hid (rowL_step HC.out HQ.out (c := C) (done := doneI (r + 1)) hkk)
                    have hbb := behN_le (n := m) (done := doneI (r + 1)) (x := x) (K := K) HCM.out (turnL x K) hst
                    have hbb2 : (m - 1) * 470184984576 ≤ 6 * 470184984576 := Nat.mul_le_mul_right _ (by omega)
                    have hunr := unrank_rank HC.out.pos HC.out.le hst
                    have c4 := stTurn_any _ x K wr hq7 hxm hKx
                    obtain ⟨t, ht⟩ : ∃ t, rankL (turnL x K) = t := ⟨_, rfl⟩
                    have HTT := Lib.hid ht
                    rw [ht] at hrk hunr HRS
                    have hrk' : (t : Int) < fact m := by omega
                    obtain ⟨y, hy⟩ : ∃ y, behN m C (doneI (r + 1)) x K (turnL x K) = y := ⟨_, rfl⟩
                    have HYY := Lib.hid (show behN m C (doneI (r + 1)) x K (unrank m t) = y by rw [hunr]; exact hy)
                    rw [hy, HZ.out] at HRS
                    rw [hy] at hbb
                    have HRS2 := Lib.hid (show (rowL m (behN m C (doneI (r + 1)) x K)).set t ((y : Int) + z) = rowL m (behN m C (doneI (r + 1)) x (K + 1)) by rw [← HRS.out]; simp)
                    clear hst hunr ht hy HRS
                    go_wp2_with fail
                    refine c4.mono ?_
                    rintro e w8 ⟨v8, rfl, hor, _, hb8⟩
                    clear c4
                    have hx8 := hx7.same hb8
                    have hb78 := hb7.trans (hb8.mono hb7.size)
                    obtain ⟨hct, hft, hset⟩ := OwnI.cellAt hx8 t (by rw [rowL_length]; exact hrk)
                    rw [rowL_get _ hrk, HYY.out] at hct
                    have hset := hset ((y : Int) + z)
                    rw [HRS2.out] at hset
                    have hb9 := hb78.setCell (p := ⟨wo.heap.size, t, none⟩) (Nat.le_refl _) (iv ((y : Int) + z))
                    have hs1 := IntWalk.i64_in ((y : Int) + z) (by omega)
                    have c5 := faRank_any v8 (turnL x K) w8 hor ht9
                    rw [HTT.out] at c5
                    obtain ⟨ra, rc, rfl, _, _, _⟩ := hor.shape
                    clear hx7 hb7 hb8 hx8 hb78 hq7 hl27 hcs
                    go_wp2_with fail
                    refine c5.mono ?_
                    rintro e w9 ⟨rfl, rfl⟩
                    clear c5
                    go_wp2
                    go_roundw
                    case rel => exact ⟨K + 1, by omega, by omega, by go_num, hset, hb9⟩
                    case measure => simp [intOf] <;> omega
                  · obtain hKe : K = m + 1 := by omega
                    have hge : (m : Int) < K := by omega
                    have HLA := Lib.hid (row_last HC.out C hlt)
                    have hxl : OwnI wr (.slice (some ⟨wo.heap.size, 0, none⟩) (fact m) (fact m)) (rowL m (behM m C (doneI (r + 1)))) := by
                      rw [← HLA.out, HXE.out, ← hKe]
                      exact hx7
                    clear hKe hx7
                    go_wp2
                    go_roundw
                    case rel => exact ⟨r + 1, by omega, by go_num, hxl, hb7⟩
                    case measure => simp [intOf] <;> omega
            · obtain hre : r = fact m := by omega
              have hge : (fact m : Int) ≤ r := by omega
              have hxe : OwnI wp (.slice (some ⟨wo.heap.size, 0, none⟩) (fact m) (fact m)) (rowL m (allC m (ramp 1 m) (i + 1))) := by
                rw [hre] at hx
                rw [← row_all HC.out, HCE.out]
                exact hx
              have hb36 := hbr.trans (hb6.mono hbr.size)
              clear hre hx
              go_wp2
              go_roundw
              case rel => exact ⟨i + 1, e - 1, wo.heap.size, by omega, by go_num, rfl, hxe, hb36⟩
              case measure => simp [intOf] <;> omega
        · have he0 : e = 0 := by omega
          subst he0
          obtain rfl : i = j := by omega
          obtain ⟨hcn, _, _⟩ := OwnI.cellAt ho 0 (by rw [rowL_length]; exact hf0)
          rw [rowL_get _ hf0] at hcn
          have HU := Lib.hid (show unrank m 0 = ramp 1 m by rw [← rankL_ramp m 1, unrank_rank HC.out.pos HC.out.le HC.out.home])
          rw [HU.out] at hcn
          go_wp2
          go_ret2
          exact ⟨by rw [HM.out, HB.out]; rfl, hB3.trans (hbr.mono hz3)⟩
    | false =>
      rw [hk] at cl
      have HB := Lib.hid (show closedB n k = false by unfold closedB; rw [hg, hk]; rfl)
      have HM := Lib.hid (show mCountClosedPlans n k = 0 from if_neg (by unfold closedB; rw [hg, hk]; exact Bool.false_ne_true))
      clear hg hk
      go_enter Try.func57, Try.ntmps57
      go_wp2_with fail
      refine c.mono ?_
      rintro e w0 ⟨rfl, rfl⟩
      go_wp2_with fail
      refine cl.mono ?_
      rintro e w0 ⟨rfl, rfl⟩
      go_wp2
      go_ret2
      exact ⟨by rw [HM.out, HB.out]; rfl, Below.refl _ _⟩
  | false =>
    have HB := Lib.hid (show closedB n k = false by unfold closedB; rw [hg]; rfl)
    have HM := Lib.hid (show mCountClosedPlans n k = 0 from if_neg (by unfold closedB; rw [hg]; exact Bool.false_ne_true))
    rw [hg] at c
    clear hg
    go_enter Try.func57, Try.ntmps57
    go_wp2_with fail
    refine c.mono ?_
    rintro e w0 ⟨rfl, rfl⟩
    go_wp2
    go_ret2
    exact ⟨by rw [HM.out, HB.out]; rfl, Below.refl _ _⟩
end Go.Proofs.Yticpdlgnaphnkaa
