import Derived.Test.YtlhagdldmpnbfaaI16
import Derived.Test.YtlhagdldmpnbfaaS14
namespace Go.Proofs.Ytlhagdldmpnbfaa
open Go Go.RowKit Go.Pan

theorem twT_length (xs p : List Int) (h9 : xs.length ≤ 9) : ∀ m, (twN turnL xs p m).length = m * 9
  | 0 => rfl
  | m + 1 => by rw [twN_succ, StTo_turn, List.length_append, twT_length xs p h9 m, twl_length _ (by rw [PlayTo_length]; exact h9)]; omega
theorem twT_get (xs p : List Int) (h9 : xs.length ≤ 9) (k j : Nat) (hj : j < 9) : ∀ m, k < m → (twN turnL xs p m)[k * 9 + j]? = (twl (PlayTo xs p k))[j]?
  | 0, h => by omega
  | m + 1, h => by
    rw [twN_succ, StTo_turn]
    by_cases hk : k < m
    · rw [List.getElem?_append_left (by rw [twT_length xs p h9]; omega), twT_get xs p h9 k j hj m hk]
    · obtain rfl : k = m := by omega
      rw [List.getElem?_append_right (by rw [twT_length xs p h9]; omega), twT_length xs p h9, Nat.add_sub_cancel_left]

set_option maxRecDepth 100000 in
set_option maxHeartbeats 1600000 in
theorem GapsAlong_any (v : Value) (xs : List Int) (u : Value) (p : List Int) (w : World) (hv : OwnI w v xs) (hn : xs.length ≤ 1048576) (hu : OwnI w u p) (hm : p.length ≤ 1048576) :
    Calls Try.prog 40 #[v, u] w fun e w' => ∃ r, e = .returned (.tuple #[r, .bool (okPlay xs p)]) ∧ OwnI w' r (mGapsAlong xs p) ∧ From w.heap.size r ∧ Below w.heap.size w w' := by
  obtain ⟨ad, cap, rfl, hc, _, _⟩ := hu.shape
  obtain ⟨adv, capv, rfl, hcv, _, _⟩ := hv.shape
  have c := isPlanFor_any _ _ xs p w hv hn hu hm
  cases hg : okPlay xs p with
  | true =>
    have hok := okPlay_iff.1 hg
    have HP := Lib.hid hok.2.2.2
    have HG := Lib.hid hok.1
    have h40 := hok.2.2.1
    have hl9 := hok.1.le9
    have HO := Lib.hid hg
    have HM := Lib.hid (show mGapsAlong xs p = gapN xs p (p.length + 1) from if_pos hg)
    have hmi : (p.length : Int) ≤ 40 := by omega
    rw [hg] at c
    clear hok hg
    obtain ⟨i0, hi, hz0, hz1, hz2⟩ := info_parts Try.info3
    have HI := Lib.hid hi
    have HZ1 := Lib.hid hz1
    go_enter Try.func40, Try.ntmps40
    go_wp2_with fail
    refine c.mono ?_
    rintro e w1 ⟨rfl, hb1⟩
    have hs1 := hb1.size
    clear c
    go_wp2_with (at_make; refine wpList_make_own _ rfl _ _ 22 rfl w.heap.size 3 i0 (.int .i64 0) 1 Try.underlying22 hi hz0 hz1 _ _ _ (p.length + 1) rfl rfl (by first | rfl | simp | omega) ?b1 ?b2 ?b3 ?_)
    case b1 => rw [hz2]; omega
    case b2 => unfold maxLen; omega
    case b3 => exact hs1
    intro w2 hown2 hgr2
    have hl2 := (Own.of_row hown2).1.lt _ rfl
    have hb2 : Below w.heap.size w w2 := hb1.grown hgr2 hs1 (by intro k hk; cases hk)
    have hv2 := hv.below hb2 (Nat.le_refl _)
    have hu2 := hu.below hb2 (Nat.le_refl _)
    clear hi hz0 hz1 hz2 hgr2 hb1 hv hu
    go_wp2_with fail
    refine (towerOf_any _ _ _ hv2 hl9).mono ?_
    rintro e w3 ⟨rfl, hb3⟩
    have hu3 := hu2.same hb3
    have hown3 := hown2.kept (grown_of_below hb3 none) (.inr (by intro h; cases h))
    have hB3 := hb2.trans (hb3.mono hb2.size)
    have hz3 := hb3.size
    clear hown2 hv2 hu2 hb3 hb2
    go_wp2_with fail
    refine (along_any xs p _ w3 HG hu3 HP h40).mono ?_
    rintro e w4 ⟨r, rfl, hoR, hfR, hb4⟩
    have hown4 := hown3.kept (grown_of_below hb4 none) (.inr (by intro h; cases h))
    have hB4 := hB3.trans (hb4.mono hB3.size)
    obtain ⟨adR, capR, rfl, hnR, _, _⟩ := hoR.shape
    obtain ⟨g, off, rfl, hgR, _, _⟩ := hoR.at (by omega)
    have hgw := hfR g rfl
    have hne : w1.heap.size ≠ g := by omega
    clear hown3 hu3 hb4 hB3 hfR
    go_wp2
    go_loopw [6, 8, 22] (fun o _ i wr => ∃ k : Nat, k ≤ p.length + 1 ∧ i = .int .i64 k ∧ o = .slice (some ⟨w1.heap.size, 0, none⟩) k (p.length + 1) ∧ wr.ownsRow w.heap.size 3 1 (.slice (some ⟨w1.heap.size, 0, none⟩) k (p.length + 1)) k ((gapN xs p k).map iv) ∧ Own wr 9 (.slice (some ⟨g, off, none⟩) (p.length + 1) capR) (p.length + 1) (twN turnL xs p (p.length + 1)) ∧ Below w.heap.size w wr) (fun _ _ i _ => p.length + 1 - (intOf i).toNat)
    case atStart => exact ⟨0, Nat.zero_le _, rfl, rfl, hown4, hoR, hB4⟩
    case round =>
      obtain ⟨k, hk, rfl, rfl, hown, hoT, hbr⟩ := hrel
      clear hown4 hoR hB4
      by_cases hlt : k < p.length + 1
      · obtain ⟨g', off', he, hgl, hcell, _⟩ := hoT.at (by omega)
        simp only [Option.some.injEq, Addr.mk.injEq, and_true] at he
        obtain ⟨rfl, rfl⟩ := he
        have h9a : (PlayTo xs p k).length ≤ 9 := by rw [PlayTo_length]; exact hl9
        have h9t := twl_length _ h9a
        have hra : wr.rangeAt g (off + k * 9) (twl (PlayTo xs p k)) := fun j x hx => by
          have hj : j < 9 := by rw [← h9t]; exact (List.getElem?_eq_some_iff.1 hx).1
          rw [Nat.add_assoc, hcell (k * 9 + j) (by omega), twT_get xs p hl9 k j hj _ hlt]
          exact hx
        have hsz : (Try.prog.info? 43).map (·.size) = some (twl (PlayTo xs p k)).length := by rw [Try.infoT, h9t]
        have hzero : Blk (wr.alloc (.cells (twl []).toArray 43)) wr.heap.size 43 (twl []) := Blk.new _ _ (twl []) _ rfl
        have HGk := Lib.hid (show Pan.Good (PlayTo xs p k) from playL_good HG.out _)
        have cg := countGaps_any (PlayTo xs p k)
        rw [PlayTo_length] at cg
        have CG := Lib.hid cg
        have HN := Lib.hid (show (gapN xs p k).map iv ++ [iv ((gapsL (PlayTo xs p k)).length : Int)] = (gapN xs p (k + 1)).map iv by rw [gapN_succ, List.map_append]; rfl)
        have hlo := (Own.of_row hown).1.lt _ rfl
        have hsr := hbr.size
        have hki : (k : Int) < (p.length : Int) + 1 := by omega
        clear hcell cg h9t
        go_wp2_with (first | (refine wpList_load_mid rfl 43 _ rfl g (off + k * 9) rfl (twl (PlayTo xs p k)) _ hra Try.underlying43 rfl hsz ?_) | (refine wpList_store_tower rfl _ _ rfl wr.heap.size [] (PlayTo xs p k) (by simp) h9a rfl rfl hzero ?_; intro w5 hbT5 hgr5; have hz5 := hbT5.lt) | (refine wpList_load_tower rfl _ rfl wr.heap.size (PlayTo xs p k) h9a rfl (by assumption) ?_))
        refine (CG.out _ HGk).mono ?_
        rintro e w6 ⟨rfl, hb6⟩
        have hown6 := ((hown.alloc (.cells (twl []).toArray 43)).kept hgr5 (.inr (by intro h; simp [Value.ownBlock] at h; omega))).kept (grown_of_below hb6 none) (.inr (by intro h; cases h))
        have hoT6 : Own w6 9 (.slice (some ⟨g, off, none⟩) (p.length + 1) capR) (p.length + 1) (twN turnL xs p (p.length + 1)) := Own.same (Own.grown (hoT.alloc (.cells (twl []).toArray 43)) hgr5 (by intro b hb e; simp [Value.ownBlock] at hb; cases e; omega)) hb6
        have hB5 := (hbr.alloc hsr (.cells (twl []).toArray 43)).grown hgr5 (by simp; omega) (by intro b hb; cases hb; exact hsr)
        have hB6 := hB5.trans (hb6.mono hB5.size)
        have hs6 := hB6.size
        clear hown hoT hgr5 hbT5 hb6 hB5 hbr hra hzero
        go_wp2_with (at_builtin; refine wpList_append_fits _ rfl _ _ 22 rfl w.heap.size 3 i0 1 Try.underlying22 HI.out HZ1.out w1.heap.size k (p.length + 1) _ rfl (hown6.alloc _) _ 1 1 [iv ((gapsL (PlayTo xs p k)).length : Int)] rfl (by simp) (World.news_of_block (heap_alloc_new _ _)) (by simp [Value.oneCell']) (by omega) ?_)
        intro w7 hown7 hgr7
        rw [HN.out] at hown7
        have hoT7 : Own w7 9 (.slice (some ⟨g, off, none⟩) (p.length + 1) capR) (p.length + 1) (twN turnL xs p (p.length + 1)) := Own.grown (hoT6.alloc _) hgr7 (by intro b hb e; simp [Value.ownBlock] at hb; cases e; omega)
        have hB7 := (hB6.alloc hs6 _).grown hgr7 (by simp; omega) (by intro b hb; cases hb; exact hs1)
        clear hown6 hoT6 hgr7 hB6
        go_wp2
        go_roundw
        case rel => exact ⟨k + 1, by omega, by go_num, rfl, hown7, hoT7, hB7⟩
        case measure => simp [intOf] <;> omega
      · obtain rfl : k = p.length + 1 := by omega
        have hoo := (Own.of_row hown).1
        have hof := (Own.of_row hown).2
        have HR := Lib.hid (show OwnI wr (.slice (some ⟨w1.heap.size, 0, none⟩) (p.length + 1) (p.length + 1)) (gapN xs p (p.length + 1)) by unfold OwnI; rw [gapN_length]; exact hoo)
        clear hown hoT hoo
        go_wp2
        go_ret2
        exact ⟨_, rfl, by rw [HM.out]; exact HR.out, hof, hbr⟩
  | false =>
    have HM := Lib.hid (show mGapsAlong xs p = [] from if_neg (by rw [hg]; exact Bool.false_ne_true))
    rw [hg] at c
    have HO := Lib.hid hg
    clear hg
    go_enter Try.func40, Try.ntmps40
    go_wp2_with fail
    refine c.mono ?_
    rintro e w1 ⟨rfl, hb1⟩
    clear c hv hu
    go_wp2
    go_ret2
    exact ⟨_, by first | rfl | (rw [HO.out]; rfl), by rw [HM.out]; exact OwnI.nil _, From.nil _ _ _, hb1⟩

end Go.Proofs.Ytlhagdldmpnbfaa

