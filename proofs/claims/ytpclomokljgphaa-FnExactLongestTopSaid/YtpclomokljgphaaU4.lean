import Derived.Test.YtpclomokljgphaaU3
import Derived.Test.YtpclomokljgphaaI4
import Derived.Test.YtpclomokljgphaaTw
import Derived.Test.YtpclomokljgphaaS4
namespace Go.Proofs.Ytpclomokljgphaa
open Go Go.RowKit Go.Pan

-- IsHome, TopStep: both sides
theorem OwnI.head {w : World} {v : Value} {xs : List Int} (h : OwnI w v xs) (h1 : 1 ≤ xs.length) : ∃ g off cap, v = .slice (some ⟨g, off, none⟩) xs.length cap ∧ w.cell? ⟨g, off, none⟩ = some (iv (xs.getD 0 0)) ∧ g < w.heap.size := by
  obtain ⟨ad, cap, rfl, hc, hm, hn⟩ := h.shape
  obtain ⟨g, off, rfl, hg, hcell, _⟩ := h.at (by omega)
  refine ⟨g, off, cap, rfl, ?_, hg⟩
  have := hcell 0 (by omega)
  rw [Nat.add_zero] at this
  rw [this, List.getElem?_map, List.getElem?_eq_getElem (by omega)]
  rw [getD_eq (by omega)]
  rfl

theorem sIsHome_any (v : Value) (xs : List Int) (w : World) (hv : OwnI w v xs) (hn : xs.length ≤ 1048576) :
    Calls Try.prog 45 #[v] w fun e w' => e = .returned (.tuple #[.bool (mIsHome xs), .bool (goodB xs)]) ∧ Below w.heap.size w w' := by
  cases hg : goodB xs with
  | true =>
    obtain ⟨g, off, cap, rfl, hc, hlt⟩ := OwnI.head hv (goodB_iff.1 hg).1
    have HM := Lib.hid (show mIsHome xs = homeB xs by unfold mIsHome; rw [hg]; rfl)
    have h1 := (goodB_iff.1 hg).1
    have c := stGood_any _ _ _ hv hn
    rw [hg] at c
    obtain ⟨t, ht⟩ : ∃ t, xs.getD 0 0 = t := ⟨_, rfl⟩
    have HH := Lib.hid (show homeB xs = decide (t = 1) by unfold homeB; rw [ht])
    rw [ht] at hc
    clear ht hg
    go_enter Try.func45, Try.ntmps45
    go_wp2_with fail
    refine (c).mono ?_
    rintro e w1 ⟨rfl, hb⟩
    have hc1 := (hb.cell (p := ⟨g, off, none⟩) hlt).trans hc
    clear hc hv c
    go_wp2
    go_ret2
    exact ⟨by rw [HM.out, HH.out]; rfl, hb⟩
  | false =>
    have HM := Lib.hid (show mIsHome xs = false by unfold mIsHome; rw [hg]; rfl)
    go_enter Try.func45, Try.ntmps45
    go_wp2_with fail
    refine (stGood_any _ _ _ hv hn).mono ?_
    rintro e w1 ⟨rfl, hb⟩
    go_wp2
    go_ret2
    exact ⟨by rw [HM.out]; rfl, hb⟩

theorem sTopStep_any (v : Value) (xs : List Int) (w : World) (hv : OwnI w v xs) (hn : xs.length ≤ 1048576) :
    Calls Try.prog 22 #[v] w fun e w' => ∃ r, e = .returned (.tuple #[r, .bool (okTopStep xs)]) ∧ OwnI w' r (mTopStep xs) ∧ From w.heap.size r ∧ Below w.heap.size w w' := by
  cases hg : goodB xs with
  | true =>
    have hG := goodB_iff.1 hg
    have c := stGood_any _ _ _ hv hn
    rw [hg] at c
    obtain ⟨t, ht⟩ : ∃ t : Nat, xs.getD 0 0 = (t : Int) := ⟨(xs.getD 0 0).toNat, by have := hG.at (i := 0) hG.1; omega⟩
    have htl : t ≤ xs.length := by have := hG.at (i := 0) hG.1; omega
    have hT : topT xs = turnL xs t := by unfold topT; rw [ht, Int.toNat_natCast]
    obtain ⟨g, off, cap, rfl, hc, hlt⟩ := OwnI.head hv hG.1
    have h1 := hG.1
    cases hh : homeB xs with
    | true =>
      have h1t : (t : Int) = 1 := by unfold homeB at hh; rw [ht] at hh; exact of_decide_eq_true hh
      have HO := Lib.hid (show okTopStep xs = false by unfold okTopStep; rw [hg, hh]; rfl)
      have HM := Lib.hid (show mTopStep xs = [] from if_neg (by rw [HO.out]; exact Bool.false_ne_true))
      rw [ht, h1t] at hc
      clear ht hg hh hT h1t htl
      go_enter Try.func22, Try.ntmps22
      go_wp2_with fail
      refine (c).mono ?_
      rintro e w1 ⟨rfl, hb⟩
      have hc1 := (hb.cell (p := ⟨g, off, none⟩) hlt).trans hc
      clear hc hv c
      go_wp2
      go_ret2
      exact ⟨_, by rw [HO.out]; rfl, by rw [HM.out]; exact OwnI.nil _, From.nil _ _ _, hb⟩
    | false =>
      have h1t : ¬ (t : Int) = 1 := by unfold homeB at hh; rw [ht] at hh; exact of_decide_eq_false hh
      have H1 := Lib.hid (show decide ((t : Int) = 1) = false from decide_eq_false h1t)
      have HO := Lib.hid (show okTopStep xs = true by unfold okTopStep; rw [hg, hh]; rfl)
      have HM := Lib.hid (show mTopStep xs = turnL xs t by unfold mTopStep; rw [if_pos HO.out, hT])
      rw [ht] at hc
      clear ht hg hh hT
      go_enter Try.func22, Try.ntmps22
      go_wp2_with fail
      refine (c).mono ?_
      rintro e w1 ⟨rfl, hb⟩
      have hc1 := (hb.cell (p := ⟨g, off, none⟩) hlt).trans hc
      have hv1 := hv.same hb
      clear hc hv c
      go_wp2_with fail
      refine (stTurn_any _ _ _ _ hv1 hn htl).mono ?_
      rintro e w2 ⟨r, rfl, ho, hf, hb2⟩
      go_wp2
      go_ret2
      exact ⟨_, by rw [HO.out]; rfl, by rw [HM.out]; exact ho, hf.mono hb.size, hb.trans (hb2.mono hb.size)⟩
  | false =>
    have HO := Lib.hid (show okTopStep xs = false by unfold okTopStep; rw [hg]; rfl)
    have HM := Lib.hid (show mTopStep xs = [] from if_neg (by rw [HO.out]; exact Bool.false_ne_true))
    go_enter Try.func22, Try.ntmps22
    go_wp2_with fail
    refine (stGood_any _ _ _ hv hn).mono ?_
    rintro e w1 ⟨rfl, hb⟩
    go_wp2
    go_ret2
    exact ⟨_, by rw [HO.out]; rfl, by rw [HM.out]; exact OwnI.nil _, From.nil _ _ _, hb⟩

theorem twl_at {xs : List Int} {i : Nat} (hi : i < 9) : (twl xs)[i]? = some (iv (xs.getD i 0)) ∨ 9 < xs.length := by
  by_cases h9 : 9 < xs.length
  · exact .inr h9
  left
  unfold twl
  rw [List.getElem?_map]
  by_cases h : i < xs.length
  · rw [List.getElem?_append_left h, List.getElem?_eq_getElem h, getD_eq h]; rfl
  · rw [List.getElem?_append_right (by omega), List.getElem?_replicate, if_pos (by omega), List.getD_eq_getElem?_getD, List.getElem?_eq_none (by omega)]; rfl

theorem isHome_any (xs : List Int) (w : World) (h9 : xs.length ≤ 9) :
    Calls Try.prog 85 #[tw xs] w fun e w' => e = .returned (.bool (homeB xs)) ∧ Below w.heap.size w w' := by
  have hbx : Blk (w.alloc (.cells (twl xs).toArray 51)) w.heap.size 51 (twl xs) := Blk.new w _ (twl xs) _ rfl
  have hb0 := below_new w (.cells (twl xs).toArray 51)
  have hc := (hbx.cell 0).trans ((twl_at (xs := xs) (i := 0) (by omega)).resolve_right (by omega))
  obtain ⟨t, ht⟩ : ∃ t, xs.getD 0 0 = t := ⟨_, rfl⟩
  have HH := Lib.hid (show homeB xs = decide (t = 1) by unfold homeB; rw [ht])
  rw [ht] at hc
  clear ht hbx
  go_enter Try.func85, Try.ntmps85
  go_wp2
  go_ret
  exact ⟨by rw [HH.out]; rfl, hb0⟩

theorem cell_grownX {w w' : World} {g o : Nat} {row : Option Nat} (hg : w.grownBy w' row) (hl : g < w.heap.size) (hne : row ≠ some g) : w'.cell? ⟨g, o, none⟩ = w.cell? ⟨g, o, none⟩ := by
  have e : w'.heap[g]? = w.heap[g]? := hg.block g hl (fun e => hne e.symm)
  simp [World.cell?, e]
theorem range_grownX {w w' : World} {g o : Nat} {cs : List Value} {row : Option Nat} (h : w.rangeAt g o cs) (hg : w.grownBy w' row) (hl : g < w.heap.size) (hne : row ≠ some g) : w'.rangeAt g o cs := fun j v hv => by
  rw [cell_grownX hg hl hne]; exact h j v hv

theorem step_store_tower {ops : Array Oper} {o : Oper} {a : Act} {w : World} {K : Act → World → Prop} {Q : Exit → Act → World → Prop} {E : Prop}
    (hg : o.guard = none) (x y : Operand) (hop : o.op = Op.store 51 x y) (g : Nat) (xs ys : List Int) (hx9 : xs.length ≤ 9) (hy9 : ys.length ≤ 9) (hx : a.eval x = .pointer (some ⟨g, 0, none⟩)) (hy : a.eval y = tw ys) (hb : Blk w g 51 (twl xs))
    (h : ∀ w', Blk w' g 51 (twl ys) → w.grownBy w' (some g) → K (a.put o.dst undef) w') :
    if Region.wanted o (yielded ops a.tmps) = true then Oper.wp Try.prog o a w K Q else E := by
  have hw : Region.wanted o (yielded ops a.tmps) = true := by simp [Region.wanted, hg]
  rw [if_pos hw]
  have h1 := twl_length xs hx9
  have h2 := twl_length ys hy9
  refine wp_store_row 51 x y hop g (twl ys).toArray hx hy 51 _ hb (by rw [Try.infoT]; simp [h2]) (by simp [h1, h2]) (by simp [twl, Value.oneCell']) ?_
  exact h _ (hb.setRow (twl ys)) ⟨rfl, rfl, rfl, by simp [World.setRow], fun k _ hk => setRow_other w g k _ (fun e => hk (by rw [e]))⟩

theorem topTurned_any (xs : List Int) (w : World) (hg : Hid (Pan.Good xs)) :
    Calls Try.prog 70 #[tw xs] w fun e w' => e = .returned (tw (topT xs)) ∧ Below w.heap.size w w' := by
  have h9 := hg.out.le9
  obtain ⟨t, ht⟩ : ∃ t : Nat, xs.getD 0 0 = (t : Int) := ⟨(xs.getD 0 0).toNat, by have := hg.out.at (i := 0) hg.out.1; omega⟩
  have htl : t ≤ xs.length := by have := hg.out.at (i := 0) hg.out.1; omega
  have HT := Lib.hid (show turnL xs t = topT xs by unfold topT; rw [ht, Int.toNat_natCast])
  have hbx : Blk ((w.alloc (.cells (twl xs).toArray 51)).alloc (.cells (twl []).toArray 51)) w.heap.size 51 (twl xs) := (Blk.new w _ (twl xs) _ rfl).alloc _
  have hz : Blk ((w.alloc (.cells (twl xs).toArray 51)).alloc (.cells (twl []).toArray 51)) (w.heap.size + 1) 51 (twl []) := Blk.new _ _ (twl []) _ (by simp)
  have hb0 : Below w.heap.size w ((w.alloc (.cells (twl xs).toArray 51)).alloc (.cells (twl []).toArray 51)) := ((Below.refl _ _).alloc (Nat.le_refl _) _).alloc (by simp) _
  have hc := (hbx.cell 0).trans ((twl_at (xs := xs) (i := 0) (by omega)).resolve_right (by omega))
  rw [ht] at hc
  have HC := Lib.hid (show ((w.alloc (.cells (twl xs).toArray 51)).alloc (.cells #[.int .i64 0, .int .i64 0, .int .i64 0, .int .i64 0, .int .i64 0, .int .i64 0, .int .i64 0, .int .i64 0, .int .i64 0] 51)).cell? ⟨w.heap.size, 0, none⟩ = some (.int .i64 (t : Int)) from hc)
  have h9T : (topT xs).length ≤ 9 := by rw [topT_length]; exact h9
  clear ht hc
  go_enter Try.func70, Try.ntmps70
  go_wp2_with (first | (refine wpList_load_tower rfl _ rfl w.heap.size xs h9 rfl hbx ?_; have hc := HC.out))
  refine (turned_any _ _ _ h9 htl).mono ?_
  rintro e w2 ⟨rfl, hb2⟩
  rw [HT.out]
  have hz2 := hz.below hb2 hz.lt
  have hB2 := hb0.trans (hb2.mono hb0.size)
  clear hbx hz hb2 hb0
  go_wp2_with (first | (refine wpList_store_tower rfl _ _ rfl (w.heap.size + 1) [] (topT xs) (by simp) h9T rfl rfl hz2 ?_; intro w5 hbT5 hgr5))
  have hB5 := hB2.grown hgr5 hB2.size (by intro k hk; cases hk; omega)
  exact bodyPost_ret (results_tower rfl _ _ (w.heap.size + 1) (topT xs) h9T rfl hbT5) rfl ⟨rfl, hB5⟩

theorem IsHome_any (v : Value) (xs : List Int) (w : World) (hv : OwnI w v xs) (hn : xs.length ≤ 1048576) :
    Calls Try.prog 46 #[v] w fun e w' => e = .returned (.tuple #[.bool (mIsHome xs), .bool (goodB xs)]) ∧ Below w.heap.size w w' := by
  cases hg : goodB xs with
  | true =>
    have h9 := (goodB_iff.1 hg).le9
    have HM := Lib.hid (show mIsHome xs = homeB xs by unfold mIsHome; rw [hg]; rfl)
    go_enter Try.func46, Try.ntmps46
    go_wp2_with fail
    refine (IsStack_any _ _ _ hv hn).mono ?_
    rintro e w1 ⟨rfl, hb⟩
    go_wp2_with fail
    refine (towerOf_any _ _ _ (hv.same hb) h9).mono ?_
    rintro e w2 ⟨rfl, hb2⟩
    go_wp2_with fail
    refine (isHome_any _ _ h9).mono ?_
    rintro e w3 ⟨rfl, hb3⟩
    go_wp2
    go_ret2
    have hb12 := hb.trans (hb2.mono hb.size)
    exact ⟨by rw [HM.out]; rfl, hb12.trans (hb3.mono hb12.size)⟩
  | false =>
    have HM := Lib.hid (show mIsHome xs = false by unfold mIsHome; rw [hg]; rfl)
    go_enter Try.func46, Try.ntmps46
    go_wp2_with fail
    refine (IsStack_any _ _ _ hv hn).mono ?_
    rintro e w1 ⟨rfl, hb⟩
    go_wp2
    go_ret2
    exact ⟨by rw [HM.out]; rfl, hb⟩

theorem TopStep_any (v : Value) (xs : List Int) (w : World) (hv : OwnI w v xs) (hn : xs.length ≤ 1048576) :
    Calls Try.prog 24 #[v] w fun e w' => ∃ r, e = .returned (.tuple #[r, .bool (okTopStep xs)]) ∧ OwnI w' r (mTopStep xs) ∧ From w.heap.size r ∧ Below w.heap.size w w' := by
  obtain ⟨ad, cap, rfl, hcc, _, _⟩ := hv.shape
  cases hg : goodB xs with
  | true =>
    have hG := goodB_iff.1 hg
    have h9 := hG.le9
    cases hh : homeB xs with
    | true =>
      have HO := Lib.hid (show okTopStep xs = false by unfold okTopStep; rw [hg, hh]; rfl)
      have HM := Lib.hid (show mTopStep xs = [] from if_neg (by rw [HO.out]; exact Bool.false_ne_true))
      have HI := Lib.hid (show mIsHome xs = true by unfold mIsHome; rw [hg, hh]; rfl)
      have c := IsHome_any _ _ w hv hn
      rw [HI.out, hg] at c
      go_enter Try.func24, Try.ntmps24
      go_wp2_with fail
      refine (c).mono ?_
      rintro e w1 ⟨rfl, hb⟩
      go_wp2
      go_ret2
      exact ⟨_, by rw [HO.out]; rfl, by rw [HM.out]; exact OwnI.nil _, From.nil _ _ _, hb⟩
    | false =>
      have HO := Lib.hid (show okTopStep xs = true by unfold okTopStep; rw [hg, hh]; rfl)
      have HM := Lib.hid (show mTopStep xs = topT xs from if_pos HO.out)
      have HI := Lib.hid (show mIsHome xs = false by unfold mIsHome; rw [hg, hh]; rfl)
      have c := IsHome_any _ _ w hv hn
      rw [HI.out, hg] at c
      have HG := Lib.hid hG
      clear hG hg hh
      go_enter Try.func24, Try.ntmps24
      go_wp2_with fail
      refine (c).mono ?_
      rintro e w1 ⟨rfl, hb⟩
      go_wp2_with fail
      refine (towerOf_any _ _ _ (hv.same hb) h9).mono ?_
      rintro e w2 ⟨rfl, hb2⟩
      go_wp2_with fail
      refine (topTurned_any _ _ HG).mono ?_
      rintro e w3 ⟨rfl, hb3⟩
      go_wp2_with fail
      refine (list_any _ _ _ (topT_length _) h9).mono ?_
      rintro e w4 ⟨r, rfl, ho, hf, hb4⟩
      go_wp2
      go_ret2
      have hb12 := hb.trans (hb2.mono hb.size)
      have hb13 := hb12.trans (hb3.mono hb12.size)
      exact ⟨_, by rw [HO.out]; rfl, by rw [HM.out]; exact ho, hf.mono hb13.size, hb13.trans (hb4.mono hb13.size)⟩
  | false =>
    have HO := Lib.hid (show okTopStep xs = false by unfold okTopStep; rw [hg]; rfl)
    have HM := Lib.hid (show mTopStep xs = [] from if_neg (by rw [HO.out]; exact Bool.false_ne_true))
    have HI := Lib.hid (show mIsHome xs = false by unfold mIsHome; rw [hg]; rfl)
    have c := IsHome_any _ _ w hv hn
    rw [HI.out, hg] at c
    go_enter Try.func24, Try.ntmps24
    go_wp2_with fail
    refine (c).mono ?_
    rintro e w1 ⟨rfl, hb⟩
    go_wp2
    go_ret2
    exact ⟨_, by rw [HO.out]; rfl, by rw [HM.out]; exact OwnI.nil _, From.nil _ _ _, hb⟩
end Go.Proofs.Ytpclomokljgphaa
