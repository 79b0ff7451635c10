import Derived.Test.YtmlikchhkblohaaQ6
import Derived.Test.YtmlikchhkblohaaU4
import Derived.Test.YtmlikchhkblohaaI8
namespace Go.Pan
-- breaks
theorem extD_bdX {xs : List Int} (hg : Good xs) (i : Nat) : 0 ≤ extD xs i ∧ extD xs i ≤ 10 := by
  have h9 := hg.le9
  unfold extD
  split
  · omega
  · unfold below
    split
    · rename_i h; have := hg.bd h; omega
    · omega
def stpB (xs : List Int) (i : Nat) : Bool := extD xs (i + 1) != extD xs i + 1
def stpTo (xs : List Int) : Nat → List Int
  | 0 => []
  | k + 1 => if stpB xs k = true then stpTo xs k ++ [(k : Int)] else stpTo xs k
def stpL (xs : List Int) : List Int := stpTo xs (xs.length + 1)
theorem stpTo_yes {xs : List Int} {k : Nat} (h : stpB xs k = true) : stpTo xs (k + 1) = stpTo xs k ++ [(k : Int)] := if_pos h
theorem stpTo_no {xs : List Int} {k : Nat} (h : stpB xs k = false) : stpTo xs (k + 1) = stpTo xs k := if_neg (by rw [h]; exact Bool.false_ne_true)
theorem stpTo_length (xs : List Int) (k : Nat) : (stpTo xs k).length ≤ k := by
  induction k with
  | zero => simp [stpTo]
  | succ k ih =>
    unfold stpTo
    split
    · rw [List.length_append, List.length_singleton]; omega
    · omega
theorem stpL_length (xs : List Int) : (stpL xs).length ≤ xs.length + 1 := stpTo_length xs _
theorem stpB_succ {xs : List Int} {k : Nat} (h : k < xs.length) : stpB xs (k + 1) = qgapB noStepB xs k := by
  have e1 : extD xs (k + 1) = xs.getD k 0 := by unfold extD below; rw [if_neg (by omega), Nat.add_sub_cancel, if_pos h]
  have e2 : extD xs (k + 1 + 1) = below xs (k + 1) := by unfold extD; rw [if_neg (by omega), Nat.add_sub_cancel]
  unfold stpB qgapB noStepB
  rw [e1, e2]
  rw [Bool.eq_iff_iff]
  simp only [bne_iff_ne, ne_eq]
  omega
theorem stpTo_gaps (xs : List Int) (k : Nat) (h : k ≤ xs.length) : stpTo xs (k + 1) = (if stpB xs 0 = true then [0] else []) ++ qgapsTo noStepB xs k := by
  induction k with
  | zero =>
    unfold stpTo
    split
    · rfl
    · rfl
  | succ k ih =>
    have ih := ih (by omega)
    rw [stpTo, stpB_succ (by omega)]
    rw [qgapsTo]
    split
    · rw [ih]; simp
    · exact ih
theorem stpB_zero {xs : List Int} (h : 1 ≤ xs.length) : stpB xs 0 = !homeB xs := by
  have e0 : extD xs 0 = 0 := rfl
  have e1 : extD xs (0 + 1) = xs.getD 0 0 := by unfold extD below; rw [if_neg (by omega), Nat.zero_add, Nat.sub_self, if_pos (by omega)]
  unfold stpB homeB
  rw [e0, e1, Bool.eq_iff_iff]
  simp
/-- the breaks of a tower, by whatever is apart -/
def brkQ (q : Int → Int → Bool) (xs : List Int) : List Int := (if homeB xs = true then [] else [0]) ++ qgapsL q xs
theorem stpL_gaps {xs : List Int} (h : 1 ≤ xs.length) : stpL xs = brkQ noStepB xs := by
  unfold stpL brkQ qgapsL
  rw [stpTo_gaps xs xs.length (Nat.le_refl _), stpB_zero h]
  cases homeB xs <;> simp
theorem brkQ_length (q : Int → Int → Bool) (xs : List Int) : (brkQ q xs).length ≤ xs.length + 1 := by
  have := qgapsTo_length q xs xs.length
  unfold brkQ qgapsL
  split <;> simp <;> omega
def mBlockBreaks (xs : List Int) : List Int := if goodB xs = true then stpL xs else []
def mBlockBound (xs : List Int) : Int := if goodB xs = true then (((stpL xs).length + 2) / 3 : Nat) else 0
theorem len_mBlockBreaks (xs : List Int) : (mBlockBreaks xs).length ≤ 1048576 := by
  unfold mBlockBreaks
  split
  · rename_i h; have := (goodB_iff.1 h).le9; have := stpL_length xs; omega
  · simp

end Go.Pan

namespace Go.Proofs.Ytmlikchhkblohaa
open Go Go.RowKit Go.Pan

set_option maxRecDepth 100000 in
set_option maxHeartbeats 1600000 in
theorem breaks_any (F : FuncId) (q : Int → Int → Bool) (xs : List Int) (w : World) (hg : Hid (Go.Pan.Good xs))
    (hC : ∀ (args : Array Value) (u : World), (callFunc F args).run Try.prog u = .ok (.enter F args) u) (hF : Hid (∀ (a b : Int) (u : World), -1048576 ≤ a → a ≤ 1048576 → -1048576 ≤ b → b ≤ 1048576 → Calls Try.prog F #[.int .i64 a, .int .i64 b] u fun e w' => e = .returned (.bool (q a b)) ∧ u = w')) :
    Calls Try.prog 160 #[tw xs, .int .i64 xs.length, .func (Fn.func F) #[] #[]] w fun e w' => ∃ r, e = .returned r ∧ OwnI w' r (brkQ q xs) ∧ From w.heap.size r ∧ Below w.heap.size w w' := by
  obtain ⟨i0, hi, hz0, hz1, hz2⟩ := info_parts Try.info3
  have hl9 := hg.out.le9
  have hl1 := hg.out.1
  have HN := Lib.hid (show ∀ x ∈ xs, -9 ≤ x ∧ x ≤ 9 from fun x hx => by have := hg.out.2.2.1 x hx; omega)
  have hbx : Blk (w.alloc (.cells (twl xs).toArray 86)) w.heap.size 86 (twl xs) := Blk.new w _ (twl xs) _ rfl
  have hb0 := below_new w (.cells (twl xs).toArray 86)
  have HT := Lib.hid (twl_length xs hl9)
  have hgl := qgapsTo_length q xs xs.length
  have hgl2 : (qgapsL q xs).length ≤ xs.length := hgl
  have ch := isHome_any xs
  cases hh : homeB xs with
  | true =>
    have HB := Lib.hid (show brkQ q xs = [] ++ qgapsL q xs by unfold brkQ; rw [if_pos hh])
    rw [hh] at ch
    clear hh
    go_enter Try.func160, Try.ntmps160
    go_wp2_with (at_make; refine wpList_make_own _ rfl _ _ 22 rfl (w.heap.size + 1) 3 i0 (.int .i64 0) 1 Try.underlying22 hi hz0 hz1 _ _ _ (xs.length + 1) rfl rfl rfl ?b1 ?b2 ?b3 ?_)
    case b1 => rw [hz2]; omega
    case b2 => unfold maxLen; omega
    case b3 => simp
    intro w1 hown hgr
    have ho0 : OwnI w1 _ [] := (Own.of_row hown).1
    have hf0 := (Own.of_row hown).2
    have hbx1 := hbx.grown hgr (by simp)
    have hb1 := hb0.grown hgr hb0.size (fun k hk => by simp at hk)
    clear hi hz0 hz1 hz2 hgr hown hbx hb0
    go_wp2_with (first | (refine wpList_load_tower rfl _ rfl w.heap.size xs hl9 rfl hbx1 ?_))
    refine (ch _ hl9).mono ?_
    rintro e w2 ⟨rfl, hb2⟩
    have hbx2 := hbx1.below hb2 hbx1.lt
    have ho2 := ho0.same hb2
    have hB2 := hb1.trans (hb2.mono hb1.size)
    clear hbx1 ho0 hb1 hb2
    go_wp2_with (first | (refine wpList_load_tower rfl _ rfl w.heap.size xs hl9 rfl hbx2 ?_))
    refine (gapsQ_any F q xs _ hl1 hl9 HN hC hF).mono ?_
    rintro e w3 ⟨r3, rfl, ho3, hf3, hb3⟩
    obtain ⟨a3, c3', rfl, _, _, _⟩ := ho3.shape
    have hsrc := Own.src ho3
    have ho4 := ho2.same hb3
    have hB3 := hB2.trans (hb3.mono hB2.size)
    have hl3 : (qgapsL q xs).length ≤ 1048576 := by omega
    have hs3 : w.heap.size + 1 ≤ w3.heap.size := Nat.le_trans (show w.heap.size + 1 ≤ w2.heap.size from hbx2.lt) hb3.size
    clear ho2 hB2 hb3 hbx2
    go_wp2_with (first | (at_builtin; refine wpList_appI Try.intSl rfl _ _ rfl _ [] rfl ho4 (w.heap.size + 1) hf0 a3 (qgapsL q xs).length c3' (qgapsL q xs) rfl rfl hsrc w3 (Below.refl _ _) hs3 (by simp) hl3 ?_; intro v5 w5 ho5 hf5 hb5 hg5))
    have HO5 := Lib.hid (show OwnI w5 v5 (brkQ q xs) by rw [HB.out]; exact ho5)
    have hB5 := hB3.trans (hb5.mono (by omega))
    clear ho5 hsrc ho4 hg5
    refine (Clip_any _ _ _ HO5.out).mono ?_
    rintro e w6 ⟨r, rfl, hor, hob, rfl⟩
    have hfr : From w.heap.size r := fun g hg => Nat.le_of_succ_le (hf5 g (by rw [← hob]; exact hg))
    clear hob
    go_wp2
    go_ret
    exact ⟨_, rfl, hor, hfr, hB5⟩
  | false =>
    have HB := Lib.hid (show brkQ q xs = [0] ++ qgapsL q xs by unfold brkQ; rw [if_neg (by rw [hh]; exact Bool.false_ne_true)])
    rw [hh] at ch
    clear hh
    go_enter Try.func160, Try.ntmps160
    go_wp2_with (at_make; refine wpList_make_own _ rfl _ _ 22 rfl (w.heap.size + 1) 3 i0 (.int .i64 0) 1 Try.underlying22 hi hz0 hz1 _ _ _ (xs.length + 1) rfl rfl rfl ?b4 ?b5 ?b6 ?_)
    case b4 => rw [hz2]; omega
    case b5 => unfold maxLen; omega
    case b6 => simp
    intro w1 hown hgr
    have ho0 : OwnI w1 _ [] := (Own.of_row hown).1
    have hf0 := (Own.of_row hown).2
    have hbx1 := hbx.grown hgr (by simp)
    have hb1 := hb0.grown hgr hb0.size (fun k hk => by simp at hk)
    clear hi hz0 hz1 hz2 hgr hown hbx hb0
    go_wp2_with (first | (refine wpList_load_tower rfl _ rfl w.heap.size xs hl9 rfl hbx1 ?_))
    refine (ch _ hl9).mono ?_
    rintro e w2 ⟨rfl, hb2⟩
    have hbx2 := hbx1.below hb2 hbx1.lt
    have ho2 := ho0.same hb2
    have hB2 := hb1.trans (hb2.mono hb1.size)
    have hs2 : w.heap.size + 1 ≤ w2.heap.size := hbx2.lt
    clear hbx1 ho0 hb1 hb2
    go_wp2_with (at_builtin; refine wpList_app1 Try.intSl rfl _ _ rfl _ [] rfl (ho2.alloc _) (w.heap.size + 1) hf0 w2.heap.size 0 rfl ?c1 _ (Below.refl _ _) ?c2 (by simp) ?_)
    case c1 => simp [go_sem]
    case c2 => simp; omega
    intro v3 w3 ho3 hf3 hb3 _
    have hbx3 := (hbx2.alloc (.cells #[.int .i64 0] 3)).below hb3 (by omega)
    have hB3 := (hB2.alloc hB2.size (.cells #[.int .i64 0] 3)).trans (hb3.mono (by omega))
    have hs3 : w.heap.size + 1 ≤ w3.heap.size := hbx3.lt
    clear ho2 hB2 hb3 hbx2
    go_wp2_with (first | (refine wpList_load_tower rfl _ rfl w.heap.size xs hl9 rfl hbx3 ?_))
    refine (gapsQ_any F q xs _ hl1 hl9 HN hC hF).mono ?_
    rintro e w4 ⟨r4, rfl, ho4, hf4, hb4⟩
    obtain ⟨a4, c4', rfl, _, _, _⟩ := ho4.shape
    have hsrc := Own.src ho4
    have ho5 : OwnI w4 v3 [0] := ho3.same hb4
    have hB4 := hB3.trans (hb4.mono hB3.size)
    have hl3 : (qgapsL q xs).length ≤ 1048576 := by omega
    have hs4 : w.heap.size + 1 ≤ w4.heap.size := Nat.le_trans hs3 hb4.size
    clear ho3 hB3 hb4 hbx3
    go_wp2_with (first | (at_builtin; refine wpList_appI Try.intSl rfl _ _ rfl v3 [0] rfl ho5 (w.heap.size + 1) hf3 a4 (qgapsL q xs).length c4' (qgapsL q xs) rfl rfl hsrc w4 (Below.refl _ _) hs4 (by simp) hl3 ?_; intro v6 w6 ho6 hf6 hb6 hg6))
    have HO6 := Lib.hid (show OwnI w6 v6 (brkQ q xs) by rw [HB.out]; exact ho6)
    have hB6 := hB4.trans (hb6.mono (by omega))
    clear ho6 hsrc ho5 hg6
    refine (Clip_any _ _ _ HO6.out).mono ?_
    rintro e w7 ⟨r, rfl, hor, hob, rfl⟩
    have hfr : From w.heap.size r := fun g hg => Nat.le_of_succ_le (hf6 g (by rw [← hob]; exact hg))
    clear hob
    go_wp2
    go_ret
    exact ⟨_, rfl, hor, hfr, hB6⟩

theorem mBlockBound_eq (xs : List Int) : mBlockBound xs = ((((mBlockBreaks xs).length + 2) / 3 : Nat) : Int) := by
  unfold mBlockBound mBlockBreaks
  split <;> rfl

end Go.Proofs.Ytmlikchhkblohaa

