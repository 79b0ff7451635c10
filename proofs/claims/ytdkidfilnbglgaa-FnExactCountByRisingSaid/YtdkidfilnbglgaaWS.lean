import Derived.Test.YtdkidfilnbglgaaP2
import Derived.Test.YtdkidfilnbglgaaWJ
import Derived.Deep.LoopGhost
namespace Go.Pan
open Go Go.RowKit
def tick (c : List Int) (i : Nat) : List Int := c.set i (c.getD i 0 + 1)
def risC (n : Nat) (L : List (List Int)) : List Int := L.foldl (fun c q => tick c (mostL q - 1)) (List.replicate n 0)
theorem risC_snoc (n : Nat) (L : List (List Int)) (q : List Int) : risC n (L ++ [q]) = tick (risC n L) (mostL q - 1) := by simp [risC]
theorem tick_length (c : List Int) (i : Nat) : (tick c i).length = c.length := by simp [tick]
theorem risC_fold (K : Nat) : ∀ (L : List (List Int)) (c : List Int) (m : Int), (∀ x ∈ c, 0 ≤ x ∧ x ≤ m) → 0 ≤ m → (L.foldl (fun c q => tick c (mostL q - 1)) c).length = c.length ∧ ∀ x ∈ L.foldl (fun c q => tick c (mostL q - 1)) c, 0 ≤ x ∧ x ≤ m + L.length
  | [], c, m, h, hm => ⟨rfl, fun x hx => by have := h x hx; simp; omega⟩
  | q :: L, c, m, h, hm => by
    have h1 : ∀ x ∈ tick c (mostL q - 1), 0 ≤ x ∧ x ≤ m + 1 := fun x hx => by
      unfold tick at hx
      rcases List.mem_or_eq_of_mem_set hx with hx | hx
      · have := h x hx; omega
      · rw [hx, List.getD_eq_getElem?_getD]
        cases hc : c[mostL q - 1]? with
        | none => simp; omega
        | some y =>
          have := h y (List.mem_of_getElem? hc)
          simp; omega
    have ih := risC_fold K L (tick c (mostL q - 1)) (m + 1) h1 (by omega)
    rw [List.foldl_cons]
    refine ⟨by rw [ih.1, tick_length], fun x hx => ?_⟩
    have := ih.2 x hx
    rw [List.length_cons]
    omega
theorem risC_length (n : Nat) (L : List (List Int)) : (risC n L).length = n := by
  have := (risC_fold 0 L (List.replicate n 0) 0 (fun x hx => by have := List.eq_of_mem_replicate hx; omega) (by omega)).1
  unfold risC
  rw [this, List.length_replicate]
theorem risC_le (n : Nat) (L : List (List Int)) : ∀ x ∈ risC n L, 0 ≤ x ∧ x ≤ L.length := fun x hx => by
  have := (risC_fold 0 L (List.replicate n 0) 0 (fun x hx => by have := List.eq_of_mem_replicate hx; omega) (by omega)).2 x hx
  omega
def mCountByRising (n : Int) : List Int := if inB n 1 7 = true then risC n.toNat (allL n.toNat) else []
theorem len_mCountByRising (n : Int) : (mCountByRising n).length ≤ 1048576 := by
  unfold mCountByRising
  split
  · rename_i h; rw [risC_length]; have := inB_iff.1 h; omega
  · simp
end Go.Pan
namespace Go.Proofs.Ytdkidfilnbglgaa
open Go Go.RowKit Go.Pan

set_option maxHeartbeats 4000000 in
set_option maxRecDepth 100000 in
theorem sCountByRising_any (n : Int) (w : World) :
    Calls Try.prog 66 #[.int .i64 n] w fun e w' => ∃ r, e = .returned (.tuple #[r, .bool (inB n 1 7)]) ∧ OwnI w' r (mCountByRising n) ∧ From w.heap.size r ∧ Below w.heap.size w w' := by
  have c := l1In_any n 1 7 w
  cases hi : inB n 1 7 with
  | true =>
    obtain ⟨m, hm⟩ : ∃ m : Nat, n = (m : Int) := ⟨n.toNat, by have := inB_iff.1 hi; omega⟩
    subst hm
    have hb := inB_iff.1 hi
    have HM := Lib.hid (show mCountByRising (m : Int) = risC m (allL m) from if_pos hi)
    have HG := Lib.hid (show ∀ q ∈ allL m, Pan.Good q ∧ q.length = m from fun q hq => allL_good (by omega) (by omega) hq)
    have HLEN := Lib.hid (show (allL m).length ≤ 387420489 from Nat.le_trans (growL_length anyMay m (by omega) m []) (pow9_le m (by omega)))
    obtain ⟨t0, ht0⟩ := allL_head m
    have HT0 := Lib.hid ht0
    have hm8 : m ≤ 1048575 := by omega
    have hm7 : m ≤ 7 := by omega
    have hm1 : 1 ≤ m := by omega
    obtain ⟨i0, hi0, hz0, hz1, hz2⟩ := info_parts Try.info3
    have HI := Lib.hid hi0
    have HZ0 := Lib.hid hz0
    have HZ1 := Lib.hid hz1
    have HZ2 := Lib.hid hz2
    rw [hi] at c
    clear hi hb ht0 hi0 hz0 hz1 hz2
    go_enter Try.func66, Try.ntmps66
    go_wp2_with fail
    refine c.mono ?_
    rintro e w1 ⟨rfl, rfl⟩
    clear c
    go_wp2_with (at_make; refine wpList_make_full _ rfl _ _ 22 rfl w.heap.size 3 i0 (.int .i64 0) 1 Try.underlying22 HI.out HZ0.out HZ1.out _ _ _ _ m rfl rfl rfl rfl ?b1 ?b2 ?b3 ?_)
    case b1 => rw [HZ2.out]; omega
    case b2 => unfold maxLen; omega
    case b3 => exact Nat.le_refl _
    intro w1 hown hgr
    have hb1 : Below w.heap.size w w1 := (Below.refl _ _).grown hgr (Nat.le_refl _) (by intro k hk; cases hk)
    have hC0 : Blk w1 w.heap.size 3 ((risC m []).map iv) := by
      have h := (Blk.of_row hown).1
      rw [toList_madeCells_one] at h
      simpa [risC] using h
    clear hown hgr
    go_wp2_with fail
    refine (stFirst_any m _ hm8).mono ?_
    rintro e w2 ⟨r2, rfl, ho2, hf2, hb2⟩
    have HS2 := Lib.hid ho2
    have hC2 := hC0.below hb2 hC0.lt
    have hB2 := hb1.trans (hb2.mono hb1.size)
    have hlt2 : w.heap.size < w2.heap.size := hC2.lt
    have hf2' : From (w.heap.size + 1) r2 := hf2.mono hC0.lt
    clear ho2 hC0 hb1 hb2 hf2
    go_wp2
    go_loopg [5, 6] 400000000 (fun gk sv ok wr => ∃ (pre rest : List (List Int)), pre.length + gk = 400000000 ∧ Hid (allL m = pre ++ rest) ∧ ok = .bool (!rest.isEmpty) ∧ Hid (OwnI wr sv (rest.headD [])) ∧
      Blk wr w.heap.size 3 ((risC m pre).map iv) ∧ From (w.heap.size + 1) sv ∧ Below w.heap.size w wr)
    case atStart => exact ⟨[], allL m, by simp, Lib.hid rfl, by rw [HT0.out]; rfl, Lib.hid (by rw [HT0.out]; exact HS2.out), hC2, hf2', hB2⟩
    case round =>
      obtain ⟨pre, rest, hpg, hL, rfl, hsv, hC, hfs, hbr⟩ := hrel
      clear HS2 hC2 hB2 hf2'
      have HPG := Lib.hid hpg
      clear hpg
      cases rest with
      | nil =>
        have HE := Lib.hid (show allL m = pre by have := hL.out; simpa using this)
        have HB := Lib.hid (show OwnI wr (.slice (some ⟨w.heap.size, 0, none⟩) m m) (mCountByRising m) by rw [HM.out, HE.out]; exact OwnI.of_blk0 hC (risC_length m pre).symm (by omega))
        clear hsv hL hC
        go_wp2
        go_ret2
        exact ⟨_, rfl, HB.out, From.at _ _ _ _ _ (Nat.le_refl _), hbr⟩
      | cons q t =>
        have hqm : q ∈ allL m := by rw [hL.out]; simp
        have hqg := HG.out q hqm
        have HGQ := Lib.hid hqg.1
        have hd := deepG hqg.1
        have hdp := hd.pos
        have hdl := hd.le
        rw [hqg.2] at hdl
        have hpl : pre.length ≤ 387420489 := by have h1 := HLEN.out; have h2 := congrArg List.length hL.out; rw [List.length_append] at h2; omega
        have HSV := Lib.hid (show OwnI wr u5 q from hsv.out)
        have HN := Lib.hid (risC_snoc m pre q)
        have hrl := risC_length m pre
        have hrb := risC_le m pre
        have cl := inLongest_any u5 q wr HSV.out HGQ
        obtain ⟨D, hD⟩ : ∃ D, mostL q = D := ⟨_, rfl⟩
        rw [hD] at hdp hdl HN cl
        obtain ⟨d, rfl⟩ : ∃ d, D = d + 1 := ⟨D - 1, by omega⟩
        rw [Nat.add_sub_cancel] at HN
        have hdm : d < m := by omega
        obtain ⟨C, hCC⟩ : ∃ C, risC m pre = C := ⟨_, rfl⟩
        rw [hCC] at hC HN hrl hrb
        have hcd := hC.cell d
        rw [List.getElem?_map, List.getElem?_eq_getElem (by omega)] at hcd
        have hxb := hrb _ (List.getElem_mem (show d < C.length by omega))
        have hfd := hC.frozen d
        have hst : tick C d = C.set d (C[d]'(by omega) + 1) := by unfold tick; rw [getD_eq (by omega)]
        obtain ⟨x, hx⟩ : ∃ x, C[d]'(by omega) = x := ⟨_, rfl⟩
        rw [hx] at hcd hxb hst
        rw [hst] at HN
        have hcd' : wr.cell? ⟨w.heap.size, d, none⟩ = some (.int .i64 x) := hcd
        have HLL := Lib.hid (show lastB q = t.isEmpty ∧ mNext q = t.headD [] by
          cases t with
          | nil =>
            have h1 := perms_last (n := m) (pre := pre) (q := q) hL.out
            exact ⟨h1, if_pos h1⟩
          | cons r t' =>
            have h1 := perms_next (n := m) (pre := pre) (q := q) (r := r) (t := t') hL.out
            exact ⟨h1.1, (if_neg (by rw [h1.1]; exact Bool.false_ne_true)).trans h1.2⟩)
        have HL2 := Lib.hid (show allL m = (pre ++ [q]) ++ t by rw [hL.out]; simp)
        have hwz := hbr.size
        have hx0 := hxb.1
        have hx9 : x ≤ 387420489 := by omega
        clear hqm hqg hd hsv hL hrl hrb hCC hx hcd hxb hst hD
        go_wp2_with fail
        refine cl.mono ?_
        rintro e w3 ⟨rfl, hb3⟩
        have hC3 := hC.below hb3 hC.lt
        have hc3 : w3.cell? ⟨w.heap.size, d, none⟩ = some (.int .i64 x) := (hb3.cell (p := ⟨w.heap.size, d, none⟩) hC.lt).trans hcd'
        have hf3 := hC3.frozen d
        have HSV3 := Lib.hid (HSV.out.below hb3 (Nat.le_refl _))
        have hB3 := hbr.trans (hb3.mono hwz)
        have hC4 := hC3.set d (.int .i64 (x + 1))
        rw [← List.map_set, ← HN.out] at hC4
        have hB4 := hB3.setCell (p := ⟨w.heap.size, d, none⟩) (Nat.le_refl _) (.int .i64 (x + 1))
        have HSV4 := Lib.hid (show OwnI (w3.setCell ⟨w.heap.size, d, none⟩ (.int .i64 (x + 1))) u5 q from Own.grown HSV3.out (grownBy_setCell w3 w.heap.size d _) (fun g hg e => by have := hfs g hg; cases e; omega))
        obtain ⟨w4, hw4⟩ : ∃ y, w3.setCell ⟨w.heap.size, d, none⟩ (.int .i64 (x + 1)) = y := ⟨_, rfl⟩
        rw [hw4] at hC4 hB4 HSV4
        have HW4 := Lib.hid hw4
        have cN := gaNext_any u5 q w4 HSV4.out HGQ
        rw [HLL.out.1, HLL.out.2] at cN
        have CN := Lib.hid cN
        have hd1 : ((d + 1 : Nat) : Int) - 1 = (d : Int) := by omega
        have hdI : (d : Int) < (m : Int) := by omega
        have hd0 : (0 : Int) ≤ (d : Int) := by omega
        clear cl hC hcd' hfd hC3 hb3 hbr hB3 hw4 cN
        go_wp2_with fail
        rw [HW4.out]
        refine CN.out.mono ?_
        rintro e w5 ⟨r5, rfl, ho5, hf5, hb5⟩
        have HR5 := Lib.hid ho5
        have hC5 := hC4.below hb5 hC4.lt
        have hB5 := hB4.trans (hb5.mono hB4.size)
        have hf5' : From (w.heap.size + 1) r5 := hf5.mono hC4.lt
        clear ho5 hf5 hb5 hB4 hC4 hc3 hf3
        go_wp2
        go_roundg (gk - 1)
        case measure => have := HPG.out; omega
        case rel => exact ⟨pre ++ [q], t, by have := HPG.out; simp; omega, HL2, rfl, HR5, hC5, hf5', hB5⟩
  | false =>
    have HM := Lib.hid (show mCountByRising n = [] from if_neg (by rw [hi]; exact Bool.false_ne_true))
    rw [hi] at c
    clear hi
    go_enter Try.func66, Try.ntmps66
    go_wp2_with fail
    refine c.mono ?_
    rintro e w1 ⟨rfl, rfl⟩
    clear c
    go_wp2
    go_ret2
    exact ⟨_, rfl, by rw [HM.out]; exact OwnI.nil _, From.nil _ _ _, Below.refl _ _⟩
end Go.Proofs.Ytdkidfilnbglgaa
