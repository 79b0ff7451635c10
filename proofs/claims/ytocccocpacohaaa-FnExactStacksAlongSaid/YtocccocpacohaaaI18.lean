import Derived.Test.YtocccocpacohaaaI4
import Derived.Test.YtocccocpacohaaaTw
import Derived.Test.YtocccocpacohaaaS16
namespace Go.Pan
open Go Go.RowKit
theorem SS.made {w : World} {B : Nat} {ty : TypeId} {v : Value} (h : w.ownsRow B ty 1 v 0 []) : SS w B w.heap.size v [] [] :=
  ⟨rfl, (Own.of_row h).1, fun g hg => h.lt g hg, fun i u xs hu => by simp at hu, fun i j u u' _ hu => by simp at hu⟩
end Go.Pan
namespace Go.Proofs.Ytocccocpacohaaa
open Go Go.RowKit Go.Pan

set_option maxHeartbeats 3200000 in
theorem StacksAlong_any (v : Value) (xs : List Int) (u : Value) (p : List Int) (w : World) (hv : OwnI w v xs) (hn : xs.length ≤ 1048576) (hu : OwnI w u p) (hm : p.length ≤ 1048576) :
    Calls Try.prog 38 #[v, u] w fun e w' => ∃ r hs, e = .returned (.tuple #[r, .bool (okPlay xs p)]) ∧ SS w' w.heap.size w'.heap.size r hs (mStacksAlong xs p) ∧ Below w.heap.size w w' := by
  obtain ⟨ad, cap, rfl, hc, _, _⟩ := hu.shape
  obtain ⟨adv, capv, rfl, hcv, _, _⟩ := hv.shape
  have c := isPlanFor_any _ _ xs p w hv hn hu hm
  cases hg : okPlay xs p with
  | true =>
    have hok := okPlay_iff.1 hg
    have HP := Lib.hid hok.2.2.2
    have h40 := hok.2.2.1
    have hl9 := hok.1.le9
    have HO := Lib.hid hg
    have HM := Lib.hid (show mStacksAlong xs p = stkN xs p (p.length + 1) from if_pos hg)
    have hmi : (p.length : Int) ≤ 40 := by omega
    obtain ⟨i0, hi, hz0, hz1, hz2⟩ := info_parts Try.info22
    have HI := Lib.hid hi
    have HZ0 := Lib.hid hz0
    have HZ1 := Lib.hid hz1
    have HZ2 := Lib.hid hz2
    rw [hg] at c
    clear hok hg hi hz0 hz1 hz2
    go_enter Try.func38, Try.ntmps38
    go_wp2_with fail
    refine c.mono ?_
    rintro e w1 ⟨rfl, hb1⟩
    have hv1 := hv.same hb1
    clear c hv
    go_wp2_with fail
    refine (towerOf_any _ _ _ hv1 hl9).mono ?_
    rintro e w2 ⟨rfl, hb2⟩
    have hB2 := hb1.trans (hb2.mono hb1.size)
    have hs2 := hB2.size
    have hzero : Blk (w2.alloc (.cells (twl []).toArray 54)) w2.heap.size 54 (twl []) := Blk.new _ _ (twl []) _ rfl
    clear hb1 hb2 hv1
    go_wp2_with (first | (refine wpList_store_tower rfl _ _ rfl w2.heap.size [] xs (by simp) hl9 rfl rfl hzero ?_; intro w3 hbT3 hgr3; have hz3 := hbT3.lt) | (at_make; refine wpList_make_own _ rfl _ _ 34 rfl (w2.heap.size + 1) 22 i0 _ 1 Try.underlying34 HI.out HZ0.out HZ1.out _ _ _ (p.length + 1) rfl rfl (by first | rfl | simp | omega) (by rw [HZ2.out]; omega) (by unfold maxLen; omega) (by exact hz3) ?_))
    intro w4 hown4 hgr4
    have hbT4 := hbT3.grown hgr4 (by intro h; cases h)
    have hB3 := (hB2.alloc hs2 (.cells (twl []).toArray 54)).grown hgr3 (by simp; omega) (by intro b hb; cases hb; exact hs2)
    have hB4 := hB3.grown hgr4 hB3.size (by intro b hb; cases hb)
    have hz34 := hgr4.size
    have HS4 := Lib.hid (SS.made hown4)
    clear hbT3 hgr3 hgr4 hB3 hB2 hzero
    go_wp2_with (first | (refine wpList_load_tower rfl _ rfl w2.heap.size xs hl9 rfl hbT4 ?_))
    refine (list_any xs xs.length _ rfl hl9).mono ?_
    rintro e w5 ⟨r5, rfl, ho5, hf5, hb5⟩
    obtain ⟨a5, c5, rfl, _, _, _⟩ := ho5.shape
    have hz5 := hb5.size
    have hs4 := hB4.size
    have hown5 := hown4.kept (grown_of_below hb5 none) (.inr (by intro h; cases h))
    have hbT5 := hbT4.below hb5 hbT4.lt
    have hB5 := hB4.trans (hb5.mono hs4)
    have HI5 := Lib.hid (show In w4.heap.size (w5.heap.size + 1) (.slice a5 xs.length c5) from fun g hg => ⟨hf5 g hg, Nat.lt_succ_of_lt (ho5.lt g hg)⟩)
    have HS5 := Lib.hid ((HS4.out.below hb5 (Nat.le_refl _)).below (below_new w5 (.cells #[.slice a5 xs.length c5] 22)) hz5)
    have HO5 := Lib.hid (ho5.alloc (.cells #[.slice a5 xs.length c5] 22))
    clear hown4 hbT4 hb5 ho5 hf5 hB4
    go_wp2_with (at_builtin; refine wpList_append_lies _ rfl _ _ 34 rfl (w2.heap.size + 1) 22 i0 _ 1 24 Try.underlying34 HI.out HZ0.out HZ1.out HZ2.out rfl (by omega) (.slice (some ⟨w3.heap.size, 0, none⟩) 0 (p.length + 1)) 0 [] rfl (hown5.alloc _) _ 1 1 [.slice a5 xs.length c5] rfl (by simp) (World.news_of_block (heap_alloc_new _ _)) (by simp [Value.oneCell']) (by omega) (by unfold maxLen; omega) (by omega) (by simp; omega) (w5.heap.size + 1) (by simp) ?_)
    intro g6 cap6 w6 hown6 hgr6 hat6 hlt6
    have hS6 := SS.app (cap := cap6) HS5.out (by simp; omega) HO5.out (by simpa using HI5.out) hown6 hgr6 (by simpa using hat6) hlt6 (by omega)
    have hB6 := (hB5.alloc (Nat.le_trans hs4 hz5) (.cells #[.slice a5 xs.length c5] 22)).grown hgr6 (by simp; omega) (fun b hb => Nat.le_trans hs2 (Nat.le_of_succ_le (HS5.out.inn b hb).1))
    have hbT6 : Blk w6 w2.heap.size 54 (twl (PlayTo xs p 0)) := (hbT5.alloc (.cells #[.slice a5 xs.length c5] 22)).grown hgr6 (fun h => by have := (HS5.out.inn _ h).1; omega)
    have HS6 := Lib.hid hS6
    clear hS6 hown5 hbT5 hB5 hgr6 hat6
    go_wp2
    go_loopw [7, 9, 29] (fun o _ i wr => ∃ (k g cp : Nat) (hs : List Value), k ≤ p.length ∧ i = .int .i64 k ∧ o = .slice (some ⟨g, 0, none⟩) (k + 1) cp ∧ hs.length = k + 1 ∧ SS wr (w2.heap.size + 1) wr.heap.size o hs (stkN xs p (k + 1)) ∧ wr.ownsRow (w2.heap.size + 1) 22 1 o (k + 1) hs ∧ Blk wr w2.heap.size 54 (twl (PlayTo xs p k)) ∧ Below w.heap.size w wr) (fun _ _ i _ => p.length - (intOf i).toNat)
    case atStart => exact ⟨0, g6, cap6, _, Nat.zero_le _, rfl, rfl, rfl, HS6.out, hown6, hbT6, hB6⟩
    case round =>
      obtain ⟨k, go, cp, hs, hk, rfl, rfl, hhl, hS, hown, hbT, hbr⟩ := hrel
      clear hown6 hbT6 hB6
      by_cases hlt : k < p.length
      · obtain ⟨g, off, rfl, hgl, hcell, hfz⟩ := hu.at (by omega)
        have hck := hcell k (by omega)
        rw [List.getElem?_map, List.getElem?_eq_getElem hlt] at hck
        have hc1 := (hbr.cell (p := ⟨g, off + k, none⟩) hgl).trans hck
        have hin := HP.out _ (List.getElem_mem hlt)
        obtain ⟨j, hj⟩ : ∃ j : Nat, p[k] = (j : Int) := ⟨p[k].toNat, by omega⟩
        have hjl : j ≤ (PlayTo xs p k).length := by rw [PlayTo_length]; omega
        have HS := Lib.hid (PlayTo_step xs p k hlt j hj)
        have h9a : (PlayTo xs p k).length ≤ 9 := by rw [PlayTo_length]; exact hl9
        have h9b : (PlayTo xs p (k + 1)).length ≤ 9 := by rw [PlayTo_length]; exact hl9
        have hc2 : wr.cell? ⟨g, off + k, none⟩ = some (iv (j : Int)) := by rw [hc1, ← hj]; rfl
        have HN := Lib.hid (stkN_succ xs p (k + 1)).symm
        have HHL := Lib.hid hhl
        have hsr := hbr.size
        have htr := hbT.lt
        have HS0 := Lib.hid hS
        have cl := list_any (PlayTo xs p (k + 1)) xs.length
        have CL := Lib.hid (fun w => cl w (PlayTo_length _ _ _) hl9)
        clear hcell hfz hck hc1 hj hin hu hhl hS cl
        go_wp2_with (first | (refine wpList_load_tower rfl _ rfl w2.heap.size (PlayTo xs p k) h9a rfl hbT ?_))
        refine (turned_any _ _ _ h9a hjl).mono ?_
        rintro e w3' ⟨rfl, hb3⟩
        rw [HS.out]
        have hbT3 := hbT.below hb3 htr
        have hown3 := hown.kept (grown_of_below hb3 none) (.inr (by intro h; cases h))
        have hB3 := hbr.trans (hb3.mono hsr)
        have hz3' := hb3.size
        have HS3 := Lib.hid (HS0.out.below hb3 (Nat.le_refl _))
        clear hbT hown hbr hb3 hc2
        go_wp2_with (first | (refine wpList_store_tower rfl _ _ rfl w2.heap.size (PlayTo xs p k) (PlayTo xs p (k + 1)) h9a h9b rfl rfl hbT3 ?_; intro w4' hbT4 hgr4; have hz4 := hbT4.lt) | (refine wpList_load_tower rfl _ rfl w2.heap.size (PlayTo xs p (k + 1)) h9b rfl (by assumption) ?_))
        refine (CL.out w4').mono ?_
        rintro e w7 ⟨r7, rfl, ho7, hf7, hb7⟩
        obtain ⟨a7, c7, rfl, _, _, _⟩ := ho7.shape
        have hz4' := hgr4.size
        have hz7 := hb7.size
        have hown7 := (hown3.kept hgr4 (.inr (fun h => by have := (HS3.out.inn _ h).1; omega))).kept (grown_of_below hb7 none) (.inr (by intro h; cases h))
        have hbT7 := hbT4.below hb7 hz4
        have hB4' := hB3.grown hgr4 hB3.size (by intro b hb; cases hb; exact hs2)
        have hB7 := hB4'.trans (hb7.mono hB4'.size)
        have HI7 := Lib.hid (show In wr.heap.size (w7.heap.size + 1) (.slice a7 (PlayTo xs p (k + 1)).length c7) from fun g hg => ⟨by have := hf7 g hg; omega, Nat.lt_succ_of_lt (ho7.lt g hg)⟩)
        have HS7 := Lib.hid ((((HS3.out.grown hgr4 hz3' (fun g hg => by cases hg; left; omega)).below hb7 (by omega)).below (below_new w7 (.cells #[.slice a7 (PlayTo xs p (k + 1)).length c7] 22)) (by omega)))
        have HO7 := Lib.hid (ho7.alloc (.cells #[.slice a7 (PlayTo xs p (k + 1)).length c7] 22))
        have hs7 := hB7.size
        clear hown3 hbT3 hbT4 hB3 hB4' hb7 ho7 hf7 hgr4
        go_wp2_with (at_builtin; refine wpList_append_lies _ rfl _ _ 34 rfl (w2.heap.size + 1) 22 i0 _ 1 24 Try.underlying34 HI.out HZ0.out HZ1.out HZ2.out rfl (by omega) (.slice (some ⟨go, 0, none⟩) (k + 1) cp) (k + 1) hs rfl (hown7.alloc _) _ 1 1 [.slice a7 (PlayTo xs p (k + 1)).length c7] rfl (by simp) (World.news_of_block (heap_alloc_new _ _)) (by simp [Value.oneCell']) (by omega) (by unfold maxLen; omega) (by omega) (by simp; omega) (w7.heap.size + 1) (by simp) ?_)
        intro g8 cap8 w8 hown8 hgr8 hat8 hlt8
        have hS8 := SS.app (cap := cap8) HS7.out (by simp; omega) HO7.out (by simpa using HI7.out) (by rw [HHL.out]; exact hown8) hgr8 (by simpa using hat8) hlt8 (by omega)
        rw [HN.out, HHL.out] at hS8
        have hB8 := (hB7.alloc hs7 (.cells #[.slice a7 (PlayTo xs p (k + 1)).length c7] 22)).grown hgr8 (by simp; omega) (fun b hb => Nat.le_trans hs2 (Nat.le_of_succ_le (HS7.out.inn b hb).1))
        have hbT8 := (hbT7.alloc (.cells #[.slice a7 (PlayTo xs p (k + 1)).length c7] 22)).grown hgr8 (fun h => by have := (HS7.out.inn _ h).1; omega)
        have HL8 := Lib.hid (show (hs ++ [Value.slice a7 (PlayTo xs p (k + 1)).length c7]).length = k + 1 + 1 by rw [List.length_append, HHL.out]; rfl)
        have HS8 := Lib.hid hS8
        clear hS8 hgr8 hat8 hB7 hown7 hbT7
        go_wp2
        go_roundw
        case rel => exact ⟨k + 1, g8, cap8, _, by omega, by go_num, rfl, HL8.out, HS8.out, hown8, hbT8, hB8⟩
        case measure => simp [intOf] <;> omega
      · obtain rfl : k = p.length := by omega
        have HS0 := Lib.hid hS
        clear hu hS
        go_wp2
        go_ret2
        exact ⟨_, _, rfl, by rw [HM.out]; exact HS0.out.mono (by omega) (Nat.le_refl _), hbr⟩
  | false =>
    have HM := Lib.hid (show mStacksAlong xs p = [] from if_neg (by rw [hg]; exact Bool.false_ne_true))
    rw [hg] at c
    have HO := Lib.hid hg
    clear hg
    go_enter Try.func38, Try.ntmps38
    go_wp2_with fail
    refine c.mono ?_
    rintro e w1 ⟨rfl, hb1⟩
    clear c hv hu
    go_wp2
    go_ret2
    exact ⟨_, [], by first | rfl | (rw [HO.out]; rfl), by rw [HM.out]; exact SS.nil _ _ _, hb1⟩

end Go.Proofs.Ytocccocpacohaaa
