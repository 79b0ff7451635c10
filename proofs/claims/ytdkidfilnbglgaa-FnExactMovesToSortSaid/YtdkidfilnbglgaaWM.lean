import Derived.Test.YtdkidfilnbglgaaWK
import Derived.Test.YtdkidfilnbglgaaWG
import Derived.Test.YtdkidfilnbglgaaWJ
namespace Go.Pan
open Go Go.RowKit
theorem not_mem_take_nodup {l : List Int} (hn : l.Nodup) {k : Nat} (h : k < l.length) : l[k] ∉ l.take k := fun hm => by
  obtain ⟨j, hj, e⟩ := List.getElem_of_mem hm
  rw [List.length_take] at hj
  rw [List.getElem_take] at e
  have := nodup_at hn (by omega) h e
  omega
theorem delL_sub (xs : List Int) (a : Nat) : (delL xs a).Sublist xs := by
  unfold delL
  have h := (List.Sublist.refl (xs.take a)).append (List.drop_sublist_drop_left xs (Nat.le_succ a))
  rw [List.take_append_drop] at h
  exact h
theorem delL_get {xs : List Int} {a i : Nat} (hi : i < xs.length) (hne : i ≠ a) (ha : a < xs.length) : (delL xs a)[if i < a then i else i - 1]'(by rw [delL_length ha]; split <;> omega) = xs[i] := by
  unfold delL
  by_cases h : i < a
  · simp only [if_pos h]
    rw [List.getElem_append_left (by rw [List.length_take]; omega), List.getElem_take]
  · simp only [if_neg h]
    rw [List.getElem_append_right (by rw [List.length_take]; omega), List.getElem_drop]
    congr 1
    rw [List.length_take]
    omega
/-- the insertion that puts a size in below the next less one -/
def mvOf (s : List Int) (x : Int) : Int × Int := (placeL s x, placeL (delL s (s.idxOf x)) (x - 1) + 1)
theorem mvOf_B {s : List Int} (hg : Good s) {x : Int} (h1 : 1 ≤ x) (h2 : x ≤ s.length) : insB s.length (mvOf s x) = true := by
  have hm := mem_of_good hg h1 h2
  have hb := placeL_bd hm
  have ha := List.idxOf_lt_length_of_mem hm
  have hl := delL_length ha
  rw [insB_iff]
  unfold mvOf
  refine ⟨hb.1, hb.2, ?_⟩
  simp only
  by_cases h : x - 1 ∈ delL s (s.idxOf x)
  · have := placeL_bd h
    omega
  · unfold placeL
    rw [if_neg h]
    have := hg.1
    omega
theorem mvOf_one {s : List Int} (hg : Good s) : (mvOf s 1).2 = 1 := by
  unfold mvOf
  simp only
  unfold placeL
  rw [if_neg]
  · rfl
  · intro h
    have := (hg.2.2.1 _ ((delL_sub s _).subset h)).1
    omega
theorem mvOf_more {s : List Int} (hg : Good s) {x : Int} (h1 : 1 < x) (h2 : x ≤ s.length) :
    (mvOf s x).2 = if placeL s x < placeL s (x - 1) + 1 then placeL s (x - 1) + 1 - 1 else placeL s (x - 1) + 1 := by
  have hn := hg.2.2.2
  have hm := mem_of_good hg (show 1 ≤ x by omega) h2
  have hy := mem_of_good hg (show 1 ≤ x - 1 by omega) (by omega)
  have ha := List.idxOf_lt_length_of_mem hm
  have hi := List.idxOf_lt_length_of_mem hy
  have ga := List.getElem_idxOf ha
  have gi := List.getElem_idxOf hi
  rw [placeL_of_mem hm, placeL_of_mem hy]
  unfold mvOf
  simp only
  obtain ⟨a, ea⟩ : ∃ a, s.idxOf x = a := ⟨_, rfl⟩
  obtain ⟨i, ei⟩ : ∃ i, s.idxOf (x - 1) = i := ⟨_, rfl⟩
  simp only [ea] at ha ga ⊢
  simp only [ei] at hi gi ⊢
  have hne : i ≠ a := fun e => by subst e; rw [ga] at gi; omega
  have hd := delL_get hi hne ha
  have hdn : (delL s a).Nodup := (delL_sub s a).nodup hn
  have hk : (if i < a then i else i - 1) < (delL s a).length := by rw [delL_length ha]; split <;> omega
  have hnm := not_mem_take_nodup hdn hk
  rw [hd, gi] at hnm
  rw [Go.Proofs.Ytdkidfilnbglgaa.placeL_at hk hnm (hd.trans gi)]
  by_cases h : i < a
  · rw [if_pos h, if_neg (by omega)]
  · rw [if_neg h, if_pos (by omega)]
    omega
def mvStep (ri : List Int) (a : List Int × List (Int × Int)) (x : Int) : List Int × List (Int × Int) := if x ∈ ri then a else (insT a.1 (mvOf a.1 x), a.2 ++ [mvOf a.1 x])
def mvTo (xs : List Int) : Nat → List Int × List (Int × Int)
  | 0 => (xs, [])
  | k + 1 => mvStep (riseL xs) (mvTo xs k) ((k : Int) + 1)
theorem mvTo_yes {xs : List Int} {k : Nat} (h : (k : Int) + 1 ∈ riseL xs) : mvTo xs (k + 1) = mvTo xs k := by
  rw [mvTo, mvStep, if_pos h]
theorem mvTo_no {xs : List Int} {k : Nat} (h : ¬ (k : Int) + 1 ∈ riseL xs) : mvTo xs (k + 1) = (insT (mvTo xs k).1 (mvOf (mvTo xs k).1 ((k : Int) + 1)), (mvTo xs k).2 ++ [mvOf (mvTo xs k).1 ((k : Int) + 1)]) := by
  rw [mvTo, mvStep, if_neg h]
theorem mvTo_perm {xs : List Int} (hg : Good xs) : ∀ k, k ≤ xs.length → (mvTo xs k).1.Perm xs ∧ (mvTo xs k).2.length ≤ k
  | 0, _ => ⟨List.Perm.refl _, Nat.le_refl _⟩
  | k + 1, h => by
    have ih := mvTo_perm hg k (by omega)
    by_cases hr : (k : Int) + 1 ∈ riseL xs
    · rw [mvTo_yes hr]; exact ⟨ih.1, by omega⟩
    · rw [mvTo_no hr]
      have hgs : Good (mvTo xs k).1 := hg.perm ih.1.symm
      have hb := mvOf_B hgs (x := (k : Int) + 1) (by omega) (by rw [ih.1.length_eq]; omega)
      exact ⟨(insT_perm hb).trans ih.1, by simp; omega⟩
def mMovesToSort (xs : List Int) : List (Int × Int) := if goodB xs = true then (mvTo xs xs.length).2 else []
theorem len_mMovesToSort (xs : List Int) : (mMovesToSort xs).length ≤ 1048576 := by
  unfold mMovesToSort
  split
  · rename_i h
    have hg := goodB_iff.1 h
    have := (mvTo_perm hg xs.length (Nat.le_refl _)).2
    have := hg.le9
    omega
  · simp
end Go.Pan
namespace Go.Proofs.Ytdkidfilnbglgaa
open Go Go.RowKit Go.Pan

theorem slContainsM_any (v : Value) (xs : List Int) (x : Int) (w : World) (hv : OwnI w v xs) (hn : xs.length ≤ 1048576) :
    Calls Try.prog 101 #[v, .int .i64 x] w fun e w' => e = .returned (.bool (decide (x ∈ xs))) ∧ Below w.heap.size w w' := by
  have hg : decide (1 ≤ placeL xs x) = decide (x ∈ xs) := by
    by_cases h : x ∈ xs
    · have := (placeL_bd h).1
      simp [h, this]
    · simp [h, placeL]
  have HG := Lib.hid hg
  clear hg
  go_enter Try.func101, Try.ntmps101
  go_wp2_with fail
  refine (Index_any v xs x _ hv hn).mono ?_
  rintro e w1 ⟨rfl, hb1⟩
  have hx1 : -1 ≤ placeL xs x - 1 := by simp [placeL]; split <;> omega
  go_wp2
  go_ret
  exact ⟨by show Ending.returned (.bool (decide (1 ≤ placeL xs x))) = _; rw [HG.out], hb1⟩

theorem delI_any (ad : Option Addr) (cap a : Nat) (xs : List Int) (w : World) (hv : OwnI w (.slice ad xs.length cap) xs) (ha : a < xs.length) (hn : xs.length ≤ 1048576) :
    Calls Try.prog 150 #[.slice ad xs.length cap, .int .i64 a, .int .i64 ((a : Int) + 1)] w fun e w' => e = .returned (.slice ad (xs.length - 1) cap) ∧ OwnI w' (.slice ad (xs.length - 1) cap) (delL xs a) ∧ w.grownBy w' (Value.slice ad xs.length cap).ownBlock := by
  obtain ⟨ad', cap', hv', hc, hm, hnil⟩ := hv.shape
  simp only [Value.slice.injEq, true_and] at hv'
  obtain ⟨rfl, rfl⟩ := hv'
  obtain ⟨g, off, ty, pre, post, rfl, hB, hp, hl⟩ := Own.blk hv (by omega)
  have hcell : ∀ j, j < xs.length → w.cell? ⟨g, off + j, none⟩ = some (.int .i64 (xs.getD j 0)) := fun j hj => by
    rw [hB.cell, ← hp, mid_get _ _ _ _ (by rw [List.length_map]; exact hj), List.getElem_map, getD_eq hj]
  have h := Any.slices_Delete_int_cells Ytdkidfilnbglgaa.delLay g off xs.length cap a (a + 1) xs w (Nat.le_refl _) hc (by unfold maxLen at hm; omega) (by omega) (by omega) hcell (fun j _ => hB.frozen _)
  rw [Int.natCast_add, Int.natCast_one] at h
  change Calls Try.prog 150 _ _ _ at h
  refine h.mono ?_
  rintro e w' ⟨rfl, q, rfl⟩
  rw [show a + 1 - a = 1 by omega, List.take_length]
  have hdl := delL_length ha
  have hzl : (((xs.take a ++ xs.drop (a + 1) ++ List.replicate 1 0)).map (Value.int .i64)).length = xs.length := by simp; omega
  have hd : Blk (w.drewN q) g ty (pre ++ xs.map iv ++ post) := hB
  have h2 := hd.setCells ((xs.take a ++ xs.drop (a + 1) ++ List.replicate 1 0).map (Value.int .i64)) off (by rw [hzl, ← hp]; simp <;> omega)
  rw [hzl] at h2
  have e1 : (pre ++ xs.map iv ++ post).take off = pre := by rw [← hp, List.append_assoc, List.take_left]
  have e2 : (pre ++ xs.map iv ++ post).drop (off + xs.length) = post := by
    rw [← hp, List.append_assoc, ← List.drop_drop, List.drop_left, List.drop_left' (by simp)]
  rw [e1, e2] at h2
  have e3 : pre ++ (xs.take a ++ xs.drop (a + 1) ++ List.replicate 1 0).map (Value.int .i64) ++ post = pre ++ (delL xs a).map iv ++ ([iv 0] ++ post) := by
    unfold delL
    simp [List.append_assoc]
  rw [e3] at h2
  refine ⟨rfl, ?_, grownBy_setCells _ _ ⟨rfl, rfl, rfl, Nat.le_refl _, fun _ _ _ => rfl⟩⟩
  unfold OwnI
  rw [hdl]
  refine Own.of_blk h2 hp hdl (by omega) hm ?_
  have hl2 : (pre ++ xs.map iv ++ post).length = pre.length + xs.length + post.length := by simp; omega
  rw [hl2] at hl
  simp
  omega

set_option maxHeartbeats 1600000 in
set_option maxRecDepth 100000 in
theorem belowLess_any (s : List Int) (x : Int) (n : Nat) (w : World) (hg : Hid (Go.Pan.Good s)) (hx : Hid (1 ≤ x ∧ x ≤ s.length)) (hn : Hid (s.length = n)) (h9 : n ≤ 9) :
    Calls Try.prog 102 #[tw s, .int .i64 x, .int .i64 n] w fun e w' => e = .returned (.agg #[.int .i64 (mvOf s x).1, .int .i64 (mvOf s x).2]) ∧ Below w.heap.size w w' := by
  have hm := mem_of_good hg.out hx.out.1 hx.out.2
  have hP := placeL_of_mem hm
  have ha := List.idxOf_lt_length_of_mem hm
  have hb9 : s.length ≤ 9 := by rw [hn.out]; exact h9
  have hE1 : (mvOf s x).1 = (s.idxOf x : Int) + 1 := hP
  have hE2 : (mvOf s x).2 = placeL (delL s (s.idxOf x)) (x - 1) + 1 := rfl
  have cI := fun w (v : Value) (hv : OwnI w v s) => Index_any v s x w hv (by omega)
  rw [hP] at cI
  obtain ⟨a, hA⟩ : ∃ a, s.idxOf x = a := ⟨_, rfl⟩
  rw [hA] at ha hE1 hE2 cI
  have hdl := delL_length ha
  have hpl : 0 ≤ placeL (delL s a) (x - 1) ∧ placeL (delL s a) (x - 1) ≤ 9 := by
    by_cases h : x - 1 ∈ delL s a
    · have := placeL_bd h; omega
    · unfold placeL; rw [if_neg h]; omega
  obtain ⟨P, hPP⟩ : ∃ P, placeL (delL s a) (x - 1) = P := ⟨_, rfl⟩
  rw [hPP] at hE2 hpl
  have HPP := Lib.hid hPP
  have HE1 := Lib.hid hE1
  have HE2 := Lib.hid hE2
  have CI := Lib.hid cI
  have HAL := Lib.hid ha
  have hx9 : 1 ≤ x ∧ x ≤ 9 := by have := hx.out; omega
  have hx1 := hx9.1
  have hx2 := hx9.2
  have hp0 := hpl.1
  have hp9 := hpl.2
  have ha9 : (a : Int) ≤ 9 := by omega
  obtain ⟨W, hW⟩ : ∃ W, W = ((w.alloc (.cells (twl s).toArray 69)).alloc (.cells #[.int .i64 0, .int .i64 0] 28)) := ⟨_, rfl⟩
  have hbx : Blk W w.heap.size 69 (twl s) := by rw [hW]; exact (Blk.new w _ (twl s) _ rfl).alloc _
  have hz : Blk W (w.heap.size + 1) 28 [.int .i64 0, .int .i64 0] := by rw [hW]; exact Blk.new _ _ [.int .i64 0, .int .i64 0] _ (by simp)
  have hb0 : Below w.heap.size w W := by rw [hW]; exact ((Below.refl _ _).alloc (Nat.le_refl _) _).alloc (by simp) _
  have hWs : W.heap.size = w.heap.size + 2 := by rw [hW]; simp
  have HW := Lib.hid hW
  have HWS := Lib.hid hWs
  have HSN := Lib.hid hn.out
  clear hm hP ha hE1 hE2 hA hdl hpl hPP cI hx9 hW hWs
  go_enter Try.func102, Try.ntmps102
  go_upto_region 1 with fail
  rw [← HW.out]
  go_wp2_with (first | (refine wpList_load_tower rfl _ rfl w.heap.size s hb9 rfl hbx ?_))
  refine (list_any s n W HSN.out h9).mono ?_
  rintro e w1 ⟨r1, rfl, ho1, hf1, hb1⟩
  have hz1 := hz.below hb1 hz.lt
  have hB1 := hb0.trans (hb1.mono hb0.size)
  obtain ⟨a1, c1, rfl, _, _, _⟩ := ho1.shape
  clear hbx hz hb0 
  go_wp2_with fail
  refine (CI.out w1 _ ho1).mono ?_
  rintro e w2 ⟨rfl, hb2⟩
  have ho2 := ho1.same hb2
  have hz2 := hz1.below hb2 hz1.lt
  have hB2 := hB1.trans (hb2.mono hB1.size)
  have HF := Lib.hid (hf1.mono (show w.heap.size + 2 ≤ W.heap.size by rw [HWS.out]; exact Nat.le_refl _))
  have hz2s : w.heap.size + 2 ≤ w2.heap.size := by have h1 := HWS.out; have h2 := hb1.size; have h3 := hb2.size; omega
  clear ho1 hb1 hb2 hB1 hz1 hf1
  have hl9' : s.length ≤ 1048576 := by omega
  have cD := delI_any a1 c1 a s w2 ho2 HAL.out hl9'
  go_wp2_with fail
  refine cD.mono ?_
  rintro e w3 ⟨rfl, ho3, hg3⟩
  have hne : (Value.slice a1 s.length c1).ownBlock ≠ some (w.heap.size + 1) := fun h => by have := HF.out _ h; omega
  have hz3 := hz2.grown hg3 hne
  have hB3 := hB2.grown hg3 (by omega) (fun k hk => by have := HF.out k hk; omega)
  have hdl : (delL s a).length = s.length - 1 := delL_length HAL.out
  have cI2 := Index_any _ (delL s a) (x - 1) w3 (by unfold OwnI; rw [hdl]; unfold OwnI at ho3; rw [hdl] at ho3; exact ho3) (by omega)
  rw [HPP.out] at cI2
  clear cD ho2 hz2 hB2 hg3 ho3 hne hdl
  go_wp2_with fail
  refine cI2.mono ?_
  rintro e w4 ⟨rfl, hb4⟩
  have hz4 := hz3.below hb4 hz3.lt
  have hB4 := hB3.trans (hb4.mono hB3.size)
  clear cI2 hz3 hb4 hB3
  go_wp2_with (first | (refine wpList_storeS2 rfl 28 _ _ rfl (w.heap.size + 1) (.int .i64 ((a : Int) + 1)) (.int .i64 (P - 1 + 2)) rfl rfl 28 _ hz4 infoInsertion rfl ⟨rfl, rfl⟩ ?_; intro w5 hz5 hg5))
  have hB5 := hB4.grown hg5 hB4.size (fun k hk => by cases hk; omega)
  exact bodyPost_ret (results_cell_row rfl _ _ (w.heap.size + 1) 28 _ _ _ rfl hz5 Try.underlying28 rfl infoInsertion) rfl ⟨by rw [HE1.out, HE2.out, show P - 1 + 2 = P + 1 by omega], hB5⟩
end Go.Proofs.Ytdkidfilnbglgaa
