import Derived.Test.YtmlikchhkblohaaU17
import Derived.Test.YtmlikchhkblohaaP2
namespace Go.Pan
open Go Go.RowKit

/-- numbers of stacks by steps, with zeros up to d -/
def growC (c : List Int) (d : Nat) : List Int := c ++ List.replicate (d + 1 - c.length) 0
def bumpC (c : List Int) (d : Nat) : List Int := c.set d (c.getD d 0 + 1)
def stepCB (s : List Int × List Int) (q : List Int) : List Int × List Int := (bumpC (growC s.1 (stepsN q)) (stepsN q), if s.1.length ≤ stepsN q then q else s.2)
def allC (L : List (List Int)) : List Int × List Int := L.foldl stepCB ([], [])
theorem allC_snoc (L : List (List Int)) (q : List Int) : allC (L ++ [q]) = stepCB (allC L) q := by simp [allC]
theorem growC_length (c : List Int) (d : Nat) : (growC c d).length = max c.length (d + 1) := by simp [growC]; omega
theorem bumpC_length (c : List Int) (d : Nat) : (bumpC c d).length = c.length := by simp [bumpC]
theorem growC_bd {c : List Int} {d : Nat} {B : Int} (h0 : 0 ≤ B) (h : ∀ x ∈ c, 0 ≤ x ∧ x ≤ B) : ∀ x ∈ growC c d, 0 ≤ x ∧ x ≤ B := fun x hx => by
  unfold growC at hx
  rcases List.mem_append.1 hx with hx | hx
  · exact h x hx
  · rw [List.mem_replicate] at hx; omega
theorem bumpC_bd {c : List Int} {d : Nat} {B : Int} (h : ∀ x ∈ c, 0 ≤ x ∧ x ≤ B) (h0 : 0 ≤ B) : ∀ x ∈ bumpC c d, 0 ≤ x ∧ x ≤ B + 1 := fun x hx => by
  unfold bumpC at hx
  have hget : 0 ≤ c.getD d 0 ∧ c.getD d 0 ≤ B := by
    by_cases hd : d < c.length
    · rw [getD_eq hd]; exact h _ (List.getElem_mem hd)
    · rw [List.getD_eq_getElem?_getD, List.getElem?_eq_none (by omega)]; simp; exact h0
  rcases List.mem_or_eq_of_mem_set hx with hx | hx
  · have := h x hx; omega
  · omega
theorem allC_bd : ∀ (L : List (List Int)), ((∀ q ∈ L, Good q) → (allC L).1.length ≤ 55) ∧ ∀ x ∈ (allC L).1, 0 ≤ x ∧ x ≤ (L.length : Int) := by
  intro L
  obtain ⟨M, hM⟩ : ∃ M, L.reverse = M := ⟨_, rfl⟩
  induction M generalizing L with
  | nil =>
    obtain rfl : L = [] := by simpa using hM
    simp [allC]
  | cons q M ih =>
    obtain ⟨K, rfl⟩ : ∃ K, L = K ++ [q] := ⟨M.reverse, by have := congrArg List.reverse hM; simpa using this⟩
    have hK := ih K (by simpa using hM)
    rw [allC_snoc]
    refine ⟨fun hg => ?_, fun x hx => ?_⟩
    · have h1 := hK.1 (fun r hr => hg r (List.mem_append_left _ hr))
      have h2 := (stepsN_ok (hg q (by simp))).2.2
      show (bumpC _ _).length ≤ 55
      rw [bumpC_length, growC_length]; omega
    · have := bumpC_bd (growC_bd (d := stepsN q) (B := (K.length : Int)) (by omega) hK.2) (by omega) (d := stepsN q) x hx
      simp only [List.length_append, List.length_cons, List.length_nil]
      omega

end Go.Pan

namespace Go.Proofs.Ytmlikchhkblohaa
open Go Go.RowKit Go.Pan

theorem ownsRow_set {w : World} {B g n cap j : Nat} {ty : TypeId} {cs : List Value} (h : w.ownsRow B ty 1 (.slice (some ⟨g, 0, none⟩) n cap) n cs) (_hj : j < n) (u : Value) :
    (w.setCell ⟨g, j, none⟩ u).ownsRow B ty 1 (.slice (some ⟨g, 0, none⟩) n cap) n (cs.set j u) := by
  obtain ⟨hl, h⟩ := h
  rcases h with ⟨h, _⟩ | ⟨g', cap', cur, hv, hB, hh, hn, hm, hs, ht⟩
  · cases h
  · simp only [Value.slice.injEq, Option.some.injEq, Addr.mk.injEq, and_true, true_and] at hv
    obtain ⟨rfl, rfl⟩ := hv
    refine ⟨by simpa using hl, .inr ⟨g, cap, cur.setIfInBounds j u, rfl, hB, heap_setCell_same w g j cur ty u hh, hn, hm, by simpa using hs, ?_⟩⟩
    rw [Array.toList_setIfInBounds, ← ht, List.take_set]
/-- the best stack behind j zeros -/
def bestJ (j : Nat) (b q : List Int) : List Int := if j = 0 then b else q
theorem bestJ_succ (j : Nat) (b q : List Int) : bestJ (j + 1) b q = q := if_neg (by omega)

set_option maxHeartbeats 8000000 in
set_option maxRecDepth 100000 in
theorem toAll_any (n : Nat) (w : World) (h1 : 1 ≤ n) (h8 : n ≤ 8) :
    Calls Try.prog 94 #[.int .i64 n] w fun e w' => ∃ r1 r2, e = .returned (.tuple #[r1, r2]) ∧ OwnI w' r1 (allC (allL n)).1 ∧ OwnI w' r2 (allC (allL n)).2 ∧ From w.heap.size r1 ∧ From w.heap.size r2 ∧ Below w.heap.size w w' := by
  obtain ⟨i1, hj, hk0, hk1', hk2⟩ := info_parts Try.info3
  have HJ := Lib.hid hj
  have HK0 := Lib.hid hk0
  have HK1 := Lib.hid hk1'
  have HK2 := Lib.hid hk2
  have HG := Lib.hid (show ∀ q ∈ allL n, Pan.Good q ∧ q.length = n from fun q hq => allL_good h1 (by omega) hq)
  have hlen : (allL n).length ≤ 387420489 := Nat.le_trans (growL_length anyMay n (by omega) n []) (pow9_le n (by omega))
  have HLEN := Lib.hid hlen
  have hn8 : n ≤ 1048575 := by omega
  obtain ⟨t0, ht0⟩ := allL_head n
  have HT0 := Lib.hid ht0
  have HR1 := Lib.hid h1
  clear hj hk0 hk1' hk2 hlen ht0 h1
  go_enter Try.func94, Try.ntmps94
  go_wp2_with fail
  refine (stFirst_any n w hn8).mono ?_
  rintro e w1 ⟨r1, rfl, ho1, hf1, hb1⟩
  have hs1 := hb1.size
  have HS1 := Lib.hid ho1
  have HC0 := Lib.hid (show w1.ownsRow w.heap.size 3 1 (.slice none 0 0) 0 [] from World.ownsRow_nil _ _ _ _)
  have HB0 := Lib.hid (OwnI.nil w1)
  clear ho1
  go_wp2
  go_loopg [4, 5, 6, 7] 400000000 (fun gk cv bv sv ok wr => ∃ (pre rest : List (List Int)), pre.length + gk = 400000000 ∧ Hid (allL n = pre ++ rest) ∧ ok = .bool (!rest.isEmpty) ∧ Hid (OwnI wr sv (rest.headD [])) ∧
    Hid (wr.ownsRow w.heap.size 3 1 cv (allC pre).1.length ((allC pre).1.map iv)) ∧ Hid (OwnI wr bv (allC pre).2) ∧ From w.heap.size bv ∧ From w.heap.size sv ∧ Hid (Apart cv bv ∧ Apart cv sv) ∧ Below w.heap.size w wr)
  case atStart => exact ⟨[], allL n, by simp, Lib.hid rfl, by rw [HT0.out]; rfl, Lib.hid (by rw [HT0.out]; exact HS1.out), Lib.hid (by simpa [allC] using HC0.out), Lib.hid (by simpa [allC] using HB0.out), From.nil _ _ _, hf1, Lib.hid ⟨fun g hg => by simp [Value.ownBlock] at hg, fun g hg => by simp [Value.ownBlock] at hg⟩, hb1⟩
  case round =>
    obtain ⟨pre, rest, hpg, hL, rfl, hsv, hcv, hbv, hfb, hfs, hap, hbr⟩ := hrel
    clear HS1 HC0 HB0
    have HPG := Lib.hid hpg
    clear hpg
    cases rest with
    | nil =>
      have HE := Lib.hid (show allL n = pre by have := hL.out; simpa using this)
      have HC := Lib.hid (show OwnI wr u4 (allC (allL n)).1 by
        rw [HE.out]
        have := (Own.of_row hcv.out).1
        exact this)
      have HCF := Lib.hid ((Own.of_row hcv.out).2)
      have HB := Lib.hid (show OwnI wr u5 (allC (allL n)).2 by rw [HE.out]; exact hbv.out)
      clear hsv hcv hbv hL hap
      go_wp2
      go_ret2
      exact ⟨_, _, rfl, HC.out, HB.out, HCF.out, hfb, hbr⟩
    | cons q t =>
      have hqm : q ∈ allL n := by rw [hL.out]; simp
      have hqg := HG.out q hqm
      have HGQ := Lib.hid hqg.1
      have hst := stepsN_ok hqg.1
      obtain ⟨d, hd⟩ : ∃ d, stepsN q = d := ⟨_, rfl⟩
      have HD := Lib.hid hd
      have hd54 : d ≤ 54 := by rw [← hd]; exact hst.2.2
      have HSV := Lib.hid (show OwnI wr u6 q from hsv.out)
      have hpre : ∀ r ∈ pre, Pan.Good r := fun r hr => (HG.out r (by rw [hL.out]; exact List.mem_append_left _ hr)).1
      have hpl : pre.length ≤ 387420489 := by have h1 := HLEN.out; have h2 := congrArg List.length hL.out; rw [List.length_append] at h2; omega
      have hcb := allC_bd pre
      have hc55 := hcb.1 hpre
      obtain ⟨C, hC⟩ : ∃ C, (allC pre).1 = C := ⟨_, rfl⟩
      obtain ⟨B, hB⟩ : ∃ B, (allC pre).2 = B := ⟨_, rfl⟩
      have hcbd := hcb.2
      rw [hC] at hc55 hcv hcbd
      rw [hB] at hbv
      have HCB := Lib.hid hcbd
      have HNX := Lib.hid (show allC (pre ++ [q]) = (bumpC (growC C d) d, if C.length ≤ d then q else B) by rw [allC_snoc]; unfold stepCB; rw [hC, hB, hd])
      have HGL := Lib.hid (show (gameL q).length = d + 1 by unfold gameL; rw [gameN_length, hd])
      have HLL := Lib.hid (show lastB q = t.isEmpty ∧ mNext q = t.headD [] by
        cases t with
        | nil =>
          have h1 := perms_last (n := n) (pre := pre) (q := q) hL.out
          exact ⟨h1, if_pos h1⟩
        | cons r t' =>
          have h1 := perms_next (n := n) (pre := pre) (q := q) (r := r) (t := t') hL.out
          exact ⟨h1.1, (if_neg (by rw [h1.1]; exact Bool.false_ne_true)).trans h1.2⟩)
      have HL2 := Lib.hid (show allL n = (pre ++ [q]) ++ t by rw [hL.out]; simp)
      have hwz := hbr.size
      have hslt := HSV.out.lt
      clear hqm hqg hst hd hpre hcb hC hB hsv hL hcbd
      go_wp2_with fail
      refine (toGame_any u6 q wr HSV.out HGQ).mono ?_
      rintro e w2 ⟨r2, hs2, rfl, hS2, hb2⟩
      obtain ⟨a2, c2, rfl, hc2, _, _⟩ := hS2.own.shape
      have hh2 : hs2.length = d + 1 := by rw [hS2.len]; exact HGL.out
      rw [hh2]
      have hz2 := hb2.size
      have HSV2 := Lib.hid (HSV.out.below hb2 (Nat.le_refl _))
      have HCV2 := Lib.hid (hcv.out.kept (grown_of_below hb2 none) (by cases h : Value.ownBlock u4 with | none => exact .inl rfl | some g => exact .inr (by simp)))
      have HBV2 := Lib.hid (show OwnI w2 u5 (bestJ 0 B q) from hbv.out.below hb2 (Nat.le_refl _))
      have hB2 := hbr.trans (hb2.mono hwz)
      clear hS2 hh2 hb2 hcv hbv hbr hc2
      go_wp2
      go_loopg [4, 5] 120 (fun gk2 cv bv wr2 => ∃ j : Nat, j + gk2 = 120 ∧ (j = 0 ∨ C.length + j ≤ d + 1) ∧ Hid (wr2.ownsRow w.heap.size 3 1 cv (C.length + j) (C.map iv ++ List.replicate j (iv 0))) ∧ Hid (OwnI wr2 bv (bestJ j B q)) ∧ From w.heap.size bv ∧ Hid (Apart cv bv ∧ Apart cv u6) ∧ Hid (OwnI wr2 u6 q) ∧ Below w.heap.size w wr2)
      case atStart => exact ⟨0, by omega, .inl rfl, Lib.hid (by simpa using HCV2.out), HBV2, hfb, hap, HSV2, hB2⟩
      case round =>
        obtain ⟨j, hjg, hj0, hcv, hbv, hfb2, hap2, hsv, hbr2⟩ := hrel
        clear HCV2 HBV2 HSV2 hB2 hap hfb
        have HJG := Lib.hid hjg
        clear hjg
        obtain ⟨cad, ccap, hcve, hccc, _, _⟩ := (Own.of_row hcv.out).1.shape
        subst hcve
        have hwz2 := hbr2.size
        by_cases hlt : C.length + j ≤ d
        · have hlti : (C.length : Int) + (j : Int) ≤ (d : Int) := by omega
          have hapB : Apart (.slice cad (C.length + j) ccap) u6 := hap2.out.2
          have hso := hsv.out.lt
          have HSVA := Lib.hid (show OwnI (wr.alloc (.cells #[iv 0] 3 (0, 0))) u6 q from hsv.out.alloc _)
          have hbA := hbr2.alloc hwz2 (.cells #[iv 0] 3 (0, 0))
          have hfr := Lib.hid ((Own.of_row hcv.out).2)
          go_wp2_with (at_builtin; refine wpList_append_lies _ rfl _ _ 22 rfl w.heap.size 3 i1 _ 1 8 Try.underlying22 HJ.out HK0.out HK1.out HK2.out rfl (by omega) (.slice cad (C.length + j) ccap) (C.length + j) (C.map iv ++ List.replicate j (iv 0)) rfl (hcv.out.alloc _) _ 1 1 [iv 0] rfl (by simp) (World.news_of_block (heap_alloc_new _ _)) (by simp [Value.oneCell']) (by omega) (by unfold maxLen; omega) (by omega) (by simp; omega) (wr.heap.size + 1) (by simp) ?_)
          intro g8 cap8 w8 hown8 hgr8 hat8 hlt8
          have HCV8 := Lib.hid (show w8.ownsRow w.heap.size 3 1 (.slice (some ⟨g8, 0, none⟩) (C.length + j + 1) cap8) (C.length + (j + 1)) (C.map iv ++ List.replicate (j + 1) (iv 0)) by
            rw [show List.replicate (j + 1) (iv 0) = List.replicate j (iv 0) ++ [iv 0] from List.replicate_succ']
            exact hown8)
          have hap8 : Apart (.slice (some ⟨g8, 0, none⟩) (C.length + j + 1) cap8) u6 := fun b hb e => by
            simp [Value.ownBlock] at hb
            subst hb
            rcases hat8 with h | h
            · exact hapB g8 h e
            · have := hso g8 e; omega
          have HSV8 := Lib.hid (Own.grown HSVA.out hgr8 hapB.symm)
          have HBV8 := Lib.hid (show OwnI w8 u6 (bestJ (j + 1) B q) by rw [bestJ_succ]; exact HSV8.out)
          have hB8 := hbA.grown hgr8 (by simp; omega) hfr.out
          have HAP8 := Lib.hid (show Apart (.slice (some ⟨g8, 0, none⟩) (C.length + j + 1) cap8) u6 ∧ Apart (.slice (some ⟨g8, 0, none⟩) (C.length + j + 1) cap8) u6 from ⟨hap8, hap8⟩)
          clear hown8 hgr8 hat8 hap8 hapB hcv hbv hap2 hsv hbr2 hbA hso
          go_wp2
          go_roundg (gk - 1)
          case measure => have := HJG.out; omega
          case rel => exact ⟨j + 1, by have := HJG.out; omega, .inr (by omega), HCV8, HBV8, hfs, HAP8, HSV8, hB8⟩
        · have hgt : ¬ ((C.length : Int) + (j : Int) ≤ (d : Int)) := by omega
          have hje : j = d + 1 - C.length := by omega
          have HGC := Lib.hid (show C.map iv ++ List.replicate j (iv 0) = (growC C d).map iv by unfold growC; rw [List.map_append, List.map_replicate, hje])
          have hgl : (growC C d).length = C.length + j := by rw [growC_length]; omega
          have hdl : d < (growC C d).length := by omega
          have HBB := Lib.hid (show bestJ j B q = if C.length ≤ d then q else B by
            unfold bestJ
            by_cases h : C.length ≤ d
            · rw [if_pos h, if_neg (by omega)]
            · rw [if_neg h, if_pos (by omega)])
          obtain ⟨m, hm⟩ : ∃ m, C.length + j = m := ⟨_, rfl⟩
          have hmi : (m : Int) = (C.length : Int) + (j : Int) := by omega
          have hdm : d < m := by omega
          have hdmi : (d : Int) < (m : Int) := by omega
          rw [hm] at hcv hap2 hccc ⊢
          rw [HGC.out] at hcv
          obtain ⟨g, ccap', cur, hve, hgw, hgh, _, _, _, _⟩ : ∃ g cap' cur, (Value.slice cad m ccap) = .slice (some ⟨g, 0, none⟩) m cap' ∧ w.heap.size ≤ g ∧ wr.heap[g]? = some (.cells cur 3 (0, 0)) ∧ m ≤ cap' ∧ cap' ≤ maxLen ∧ cur.size = cap' * 1 ∧ cur.toList.take (m * 1) = (growC C d).map iv := by
            rcases hcv.out.2 with ⟨_, h⟩ | h
            · omega
            · exact h
          simp only [Value.slice.injEq, true_and] at hve
          obtain ⟨rfl, rfl⟩ := hve
          obtain ⟨g', off', he, hgl2, hcell, hfz⟩ := (Own.of_row hcv.out).1.at (by omega)
          simp only [Option.some.injEq, Addr.mk.injEq, and_true] at he
          obtain ⟨rfl, rfl⟩ := he
          obtain ⟨x, hx⟩ : ∃ x, (growC C d).getD d 0 = x := ⟨_, rfl⟩
          have hcx := hcell d (by omega)
          rw [Nat.zero_add, List.getElem?_map, List.getElem?_eq_getElem hdl, Option.map_some, ← getD_eq hdl, hx] at hcx
          have hfx := hfz d
          have hxb := growC_bd (d := d) (B := (pre.length : Int)) (by omega) HCB.out x (by rw [← hx, getD_eq hdl]; exact List.getElem_mem hdl)
          have hx0 : 0 ≤ x := hxb.1
          have hx1 : x ≤ 387420489 := by have := hxb.2; omega
          have HBU := Lib.hid (show ((growC C d).map iv).set d (iv (x + 1)) = (bumpC (growC C d) d).map iv by unfold bumpC; rw [hx, List.map_set])
          have hset := ownsRow_set hcv.out (j := d) hdm (iv (x + 1))
          rw [HBU.out] at hset
          have hgs := grownBy_setCell wr g d (iv (x + 1))
          have hapb := hap2.out.1
          have HAPB := Lib.hid hapb
          have haps := hap2.out.2
          have HBV3 := Lib.hid (show OwnI (wr.setCell ⟨g, d, none⟩ (iv (x + 1))) u5 (if C.length ≤ d then q else B) by rw [← HBB.out]; exact hbv.out.grown hgs hapb.symm)
          have HSV3 := Lib.hid (show OwnI (wr.setCell ⟨g, d, none⟩ (iv (x + 1))) u6 q from hsv.out.grown hgs haps.symm)
          have HBL := Lib.hid (show (bumpC (growC C d) d).length = m by rw [bumpC_length, hgl, hm])
          have HCV3 := Lib.hid (show (wr.setCell ⟨g, d, none⟩ (iv (x + 1))).ownsRow w.heap.size 3 1 (.slice (some ⟨g, 0, none⟩) m ccap) (bumpC (growC C d) d).length ((bumpC (growC C d) d).map iv) by rw [HBL.out]; exact hset)
          have hB3 := hbr2.setCell (p := ⟨g, d, none⟩) hgw (iv (x + 1))
          have hz3 : (wr.setCell ⟨g, d, none⟩ (iv (x + 1))).heap.size = wr.heap.size := by simp [World.setCell]
          have cN := gaNext_any u6 q (wr.setCell ⟨g, d, none⟩ (iv (x + 1))) HSV3.out HGQ
          rw [HLL.out.1, HLL.out.2] at cN
          have hwz3 := hB3.size
          clear hcv hbv hap2 hsv hbr2 hcell hfz hset hgs hapb haps hgl hdl hxb hx hje hm hmi HSV hgh
          go_wp2_with fail
          refine cN.mono ?_
          rintro e w5 ⟨r5, rfl, ho5, hf5, hb5⟩
          have HR5 := Lib.hid ho5
          have hapr : Apart (.slice (some ⟨g, 0, none⟩) m ccap) r5 := fun b hb e => by
            simp [Value.ownBlock] at hb
            have := hf5 b e
            omega
          have hlt5 := HBV3.out.lt
          have HAP := Lib.hid (show Apart (.slice (some ⟨g, 0, none⟩) m ccap) u5 ∧ Apart (.slice (some ⟨g, 0, none⟩) m ccap) r5 from ⟨HAPB.out, hapr⟩)
          have HCV5 := Lib.hid (show w5.ownsRow w.heap.size 3 1 (.slice (some ⟨g, 0, none⟩) m ccap) (allC (pre ++ [q])).1.length ((allC (pre ++ [q])).1.map iv) by
            rw [HNX.out]
            exact HCV3.out.kept (grown_of_below hb5 none) (.inr (by intro h; cases h)))
          have HBV5 := Lib.hid (show OwnI w5 u5 (allC (pre ++ [q])).2 by rw [HNX.out]; exact HBV3.out.below hb5 (Nat.le_refl _))
          have hB5 := hB3.trans (hb5.mono hwz3)
          have hf5' := hf5.mono hwz3
          clear ho5 hf5 hb5 hB3 cN hapr
          go_wp2
          go_roundg (400000000 - (pre.length + 1))
          case measure => have := HPG.out; omega
          case rel => exact ⟨pre ++ [q], t, by have := HPG.out; simp; omega, HL2, rfl, HR5, HCV5, HBV5, hfb2, hf5', HAP, hB5⟩

end Go.Proofs.Ytmlikchhkblohaa

