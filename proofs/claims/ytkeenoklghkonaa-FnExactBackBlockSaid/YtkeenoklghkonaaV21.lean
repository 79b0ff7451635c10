import Derived.Test.YtkeenoklghkonaaV20
import Derived.Test.YtkeenoklghkonaaV17
import Derived.Test.YtkeenoklghkonaaLib4
namespace Go.Proofs.Ytkeenoklghkonaa
open Go Go.RowKit Go.Pan

theorem load_block {w : World} {g : Nat} {x y z : Int} (h : Blk w g 45 [.int .i64 x, .int .i64 y, .int .i64 z]) : (loadVar 45 ⟨g, 0, none⟩).run Try.prog w = .ok (.agg #[.int .i64 x, .int .i64 y, .int .i64 z]) w :=
  run_loadVar_row w g 45 _ _ _ _ h Try.underlying45 rfl (by rw [infoBlock]; rfl)

set_option maxRecDepth 100000 in
set_option maxHeartbeats 1600000 in
theorem sBackBlock_any (p : Int × Int × Int) (w : World) :
    Calls Try.prog 49 #[.agg #[.int .i64 p.1, .int .i64 p.2.1, .int .i64 p.2.2]] w fun e w' => e = .returned (.tuple #[.agg #[.int .i64 (mBackBlock p).1, .int .i64 (mBackBlock p).2.1, .int .i64 (mBackBlock p).2.2], .bool (bkB 9 p)]) ∧ Below w.heap.size w w' := by
  obtain ⟨W, hW⟩ : ∃ W, W = (w.alloc (.cells #[.int .i64 p.1, .int .i64 p.2.1, .int .i64 p.2.2] 45)).alloc (.cells #[.int .i64 0, .int .i64 0, .int .i64 0] 45) := ⟨_, rfl⟩
  have hz : Blk W w.heap.size 45 [.int .i64 p.1, .int .i64 p.2.1, .int .i64 p.2.2] := by rw [hW]; exact (Blk.new w _ _ _ rfl).alloc _
  have hr : Blk W (w.heap.size + 1) 45 [.int .i64 0, .int .i64 0, .int .i64 0] := by rw [hW]; exact Blk.new _ _ _ _ (by simp)
  have hb0 : Below w.heap.size w W := by rw [hW]; exact ((Below.refl _ _).alloc (Nat.le_refl _) _).alloc (by simp) _
  have k0 : W.cell? ⟨w.heap.size, 0, none⟩ = some (.int .i64 p.1) := hz.cell 0
  have k1 : W.cell? ⟨w.heap.size, 1, none⟩ = some (.int .i64 p.2.1) := hz.cell 1
  have k2 : W.cell? ⟨w.heap.size, 2, none⟩ = some (.int .i64 p.2.2) := hz.cell 2
  have HW := Lib.hid hW
  have cb := bkGood_any 9 p
  clear hW
  cases hB : bkB 9 p with
  | true =>
    have h := bkB_iff.1 hB
    have HM := Lib.hid (show mBackBlock p = (p.1, p.1 + p.2.2 - p.2.1 - 1, p.2.2) from if_pos hB)
    have HB := Lib.hid hB
    have i1 : IntKind.i64.wrap (p.1 + p.2.2) = p.1 + p.2.2 := IntWalk.i64_in _ (by omega)
    have i2 : IntKind.i64.wrap (p.1 + p.2.2 - p.2.1) = p.1 + p.2.2 - p.2.1 := IntWalk.i64_in _ (by omega)
    have i3 : IntKind.i64.wrap (p.1 + p.2.2 - p.2.1 - 1) = p.1 + p.2.2 - p.2.1 - 1 := IntWalk.i64_in _ (by omega)
    rw [hB] at cb
    clear hB h
    go_enter Try.func49, Try.ntmps49
    go_wp2_with fail
    rw [← HW.out]
    refine (cb _).mono ?_
    rintro e w1 ⟨rfl, hb1⟩
    have hz1 := hz.below hb1 hz.lt
    have hr1 := hr.below hb1 hr.lt
    have hB1 := hb0.trans (hb1.mono hb0.size)
    have l0 : w1.cell? ⟨w.heap.size, 0, none⟩ = some (.int .i64 p.1) := hz1.cell 0
    have l1 : w1.cell? ⟨w.heap.size, 1, none⟩ = some (.int .i64 p.2.1) := hz1.cell 1
    have l2 : w1.cell? ⟨w.heap.size, 2, none⟩ = some (.int .i64 p.2.2) := hz1.cell 2
    have hs : (Try.prog.info? 45).map (·.size) = some (#[Value.int .i64 p.1, Value.int .i64 (p.1 + p.2.2 - p.2.1 - 1), Value.int .i64 p.2.2] : Array Value).size := infoBlock
    have hr2 := hr1.setRow [.int .i64 p.1, .int .i64 (p.1 + p.2.2 - p.2.1 - 1), .int .i64 p.2.2]
    have hB2 := below_setRow hB1 (by omega : w.heap.size ≤ w.heap.size + 1) #[Value.int .i64 p.1, Value.int .i64 (p.1 + p.2.2 - p.2.1 - 1), Value.int .i64 p.2.2]
    clear k0 k1 k2 hz hr hb1
    go_wp2_with (first | (refine wpList_store3 rfl 45 _ _ rfl (w.heap.size + 1) _ _ _ rfl rfl 45 _ hr1 infoBlock rfl ⟨rfl, rfl, rfl⟩ ?_))
    exact bodyPost_ret (results_cell_tmp rfl _ _ _ _ rfl (load_block hr2)) rfl ⟨by rw [HM.out]; rfl, hB2⟩
  | false =>
    have HM := Lib.hid (show mBackBlock p = (0, 0, 0) from if_neg (by rw [hB]; exact Bool.false_ne_true))
    have HB := Lib.hid hB
    rw [hB] at cb
    clear hB
    go_enter Try.func49, Try.ntmps49
    go_wp2_with fail
    rw [← HW.out]
    refine (cb _).mono ?_
    rintro e w1 ⟨rfl, hb1⟩
    have hr1 := hr.below hb1 hr.lt
    have hB1 := hb0.trans (hb1.mono hb0.size)
    have hs : (Try.prog.info? 45).map (·.size) = some (#[Value.int .i64 0, Value.int .i64 0, Value.int .i64 0] : Array Value).size := infoBlock
    have hr2 := hr1.setRow [.int .i64 0, .int .i64 0, .int .i64 0]
    have hB2 := below_setRow hB1 (by omega : w.heap.size ≤ w.heap.size + 1) #[Value.int .i64 0, Value.int .i64 0, Value.int .i64 0]
    clear k0 k1 k2 hz hr hb1
    go_wp2_with (first | (refine wpList_store3 rfl 45 _ _ rfl (w.heap.size + 1) _ _ _ rfl rfl 45 _ hr1 infoBlock rfl ⟨rfl, rfl, rfl⟩ ?_))
    exact bodyPost_ret (results_cell_tmp rfl _ _ _ _ rfl (load_block hr2)) rfl ⟨by rw [HM.out]; rfl, hB2⟩

set_option maxRecDepth 100000 in
set_option maxHeartbeats 1600000 in
theorem BackBlock_any (p : Int × Int × Int) (w : World) :
    Calls Try.prog 50 #[.agg #[.int .i64 p.1, .int .i64 p.2.1, .int .i64 p.2.2]] w fun e w' => e = .returned (.tuple #[.agg #[.int .i64 (mBackBlock p).1, .int .i64 (mBackBlock p).2.1, .int .i64 (mBackBlock p).2.2], .bool (bkB 9 p)]) ∧ Below w.heap.size w w' := by
  obtain ⟨W, hW⟩ : ∃ W, W = (w.alloc (.cells #[.int .i64 p.1, .int .i64 p.2.1, .int .i64 p.2.2] 45)).alloc (.cells #[.int .i64 0, .int .i64 0, .int .i64 0] 45) := ⟨_, rfl⟩
  have hz : Blk W w.heap.size 45 [.int .i64 p.1, .int .i64 p.2.1, .int .i64 p.2.2] := by rw [hW]; exact (Blk.new w _ _ _ rfl).alloc _
  have hr : Blk W (w.heap.size + 1) 45 [.int .i64 0, .int .i64 0, .int .i64 0] := by rw [hW]; exact Blk.new _ _ _ _ (by simp)
  have hb0 : Below w.heap.size w W := by rw [hW]; exact ((Below.refl _ _).alloc (Nat.le_refl _) _).alloc (by simp) _
  have k0 : W.cell? ⟨w.heap.size, 0, none⟩ = some (.int .i64 p.1) := hz.cell 0
  have k1 : W.cell? ⟨w.heap.size, 1, none⟩ = some (.int .i64 p.2.1) := hz.cell 1
  have k2 : W.cell? ⟨w.heap.size, 2, none⟩ = some (.int .i64 p.2.2) := hz.cell 2
  have HW := Lib.hid hW
  have cb := IsBlock_any 9 p
  clear hW
  cases hB : bkB 9 p with
  | true =>
    have h := bkB_iff.1 hB
    have HM := Lib.hid (show mBackBlock p = (p.1, p.1 + (p.2.2 - p.2.1) - 1, p.2.2) from (if_pos hB).trans (by rw [show p.1 + (p.2.2 - p.2.1) - 1 = p.1 + p.2.2 - p.2.1 - 1 by omega]))
    have HB := Lib.hid hB
    have i1 : IntKind.i64.wrap (p.2.2 - p.2.1) = p.2.2 - p.2.1 := IntWalk.i64_in _ (by omega)
    have i2 : IntKind.i64.wrap (p.1 + (p.2.2 - p.2.1)) = p.1 + (p.2.2 - p.2.1) := IntWalk.i64_in _ (by omega)
    have i3 : IntKind.i64.wrap (p.1 + (p.2.2 - p.2.1) - 1) = p.1 + (p.2.2 - p.2.1) - 1 := IntWalk.i64_in _ (by omega)
    rw [hB] at cb
    clear hB h
    go_enter Try.func50, Try.ntmps50
    go_wp2_with fail
    rw [← HW.out]
    refine (cb _).mono ?_
    rintro e w1 ⟨rfl, hb1⟩
    have hz1 := hz.below hb1 hz.lt
    have hr1 := hr.below hb1 hr.lt
    have hB1 := hb0.trans (hb1.mono hb0.size)
    have l0 : w1.cell? ⟨w.heap.size, 0, none⟩ = some (.int .i64 p.1) := hz1.cell 0
    have l1 : w1.cell? ⟨w.heap.size, 1, none⟩ = some (.int .i64 p.2.1) := hz1.cell 1
    have l2 : w1.cell? ⟨w.heap.size, 2, none⟩ = some (.int .i64 p.2.2) := hz1.cell 2
    have hs : (Try.prog.info? 45).map (·.size) = some (#[Value.int .i64 p.1, Value.int .i64 (p.1 + (p.2.2 - p.2.1) - 1), Value.int .i64 p.2.2] : Array Value).size := infoBlock
    have hr2 := hr1.setRow [.int .i64 p.1, .int .i64 (p.1 + (p.2.2 - p.2.1) - 1), .int .i64 p.2.2]
    have hB2 := below_setRow hB1 (by omega : w.heap.size ≤ w.heap.size + 1) #[Value.int .i64 p.1, Value.int .i64 (p.1 + (p.2.2 - p.2.1) - 1), Value.int .i64 p.2.2]
    clear k0 k1 k2 hz hr hb1
    go_wp2_with (first | (refine wpList_store3 rfl 45 _ _ rfl (w.heap.size + 1) _ _ _ rfl rfl 45 _ hr1 infoBlock rfl ⟨rfl, rfl, rfl⟩ ?_))
    exact bodyPost_ret (results_cell_tmp rfl _ _ _ _ rfl (load_block hr2)) rfl ⟨by rw [HM.out]; rfl, hB2⟩
  | false =>
    have HM := Lib.hid (show mBackBlock p = (0, 0, 0) from if_neg (by rw [hB]; exact Bool.false_ne_true))
    have HB := Lib.hid hB
    rw [hB] at cb
    clear hB
    go_enter Try.func50, Try.ntmps50
    go_wp2_with fail
    rw [← HW.out]
    refine (cb _).mono ?_
    rintro e w1 ⟨rfl, hb1⟩
    have hr1 := hr.below hb1 hr.lt
    have hB1 := hb0.trans (hb1.mono hb0.size)
    have hs : (Try.prog.info? 45).map (·.size) = some (#[Value.int .i64 0, Value.int .i64 0, Value.int .i64 0] : Array Value).size := infoBlock
    have hr2 := hr1.setRow [.int .i64 0, .int .i64 0, .int .i64 0]
    have hB2 := below_setRow hB1 (by omega : w.heap.size ≤ w.heap.size + 1) #[Value.int .i64 0, Value.int .i64 0, Value.int .i64 0]
    clear k0 k1 k2 hz hr hb1
    go_wp2_with (first | (refine wpList_store3 rfl 45 _ _ rfl (w.heap.size + 1) _ _ _ rfl rfl 45 _ hr1 infoBlock rfl ⟨rfl, rfl, rfl⟩ ?_))
    exact bodyPost_ret (results_cell_tmp rfl _ _ _ _ rfl (load_block hr2)) rfl ⟨by rw [HM.out]; rfl, hB2⟩

set_option maxRecDepth 100000 in
set_option maxHeartbeats 1600000 in
theorem bkBreaks_any (v : Value) (xs : List Int) (w : World) (hv : OwnI w v xs) (hg : Hid (Go.Pan.Good xs)) :
    Calls Try.prog 112 #[v] w fun e w' => ∃ r, e = .returned r ∧ OwnI w' r (stpL xs) ∧ From w.heap.size r ∧ Below w.heap.size w w' := by
  obtain ⟨ad, cap, rfl, hc, _, _⟩ := hv.shape
  have hl9 := hg.out.le9
  have hl1 := hg.out.1
  have HV := Lib.hid hv
  clear hv
  go_enter Try.func112, Try.ntmps112
  go_wp2
  go_loopw [3, 4, 5, 6] (fun o l i _ wr => ∃ k : Nat, k ≤ xs.length + 1 ∧ i = .int .i64 (k : Int) ∧ l = .int .i64 (extD xs k) ∧ OwnI wr o (stpTo xs k) ∧ From w.heap.size o ∧ Below w.heap.size w wr) (fun _ _ i _ _ => xs.length + 1 - (intOf i).toNat)
  case atStart => exact ⟨0, Nat.zero_le _, rfl, rfl, by simpa [stpTo] using OwnI.nil w, From.nil _ _ _, Below.refl _ _⟩
  case round =>
    obtain ⟨k, hk, rfl, rfl, ho, hf, hbr⟩ := hrel
    by_cases hlt : k < xs.length + 1
    · have hle : (k : Int) ≤ xs.length := by omega
      have hlen : (stpTo xs k).length ≤ 1048576 := by have := stpTo_length xs k; omega
      have hsr := hbr.size
      have hd0 : 0 ≤ extD xs k ∧ extD xs k ≤ 10 := extD_bdX hg.out k
      obtain ⟨x, hx⟩ : ∃ x, extD xs k = x := ⟨_, rfl⟩
      obtain ⟨y, hy⟩ : ∃ y, extD xs (k + 1) = y := ⟨_, rfl⟩
      have hB : stpB xs k = (y != x + 1) := by unfold stpB; rw [hx, hy]
      have HY := Lib.hid hy
      rw [hx] at hd0 ⊢
      have hw1 : IntKind.i64.wrap (x + 1) = x + 1 := IntWalk.i64_in _ (by omega)
      by_cases hkl : k < xs.length
      · obtain ⟨g, off, e1, hgl, hcell, _⟩ := (HV.out.below hbr (Nat.le_refl _)).at (by omega)
        subst e1
        have hck := hcell k (by omega)
        have e2 : extD xs (k + 1) = xs[k] := by unfold extD below; rw [if_neg (by omega), Nat.add_sub_cancel, if_pos hkl, getD_eq hkl]
        rw [List.getElem?_map, List.getElem?_eq_getElem hkl, ← e2, hy] at hck
        have hck' : wr.cell? ⟨g, off + k, none⟩ = some (.int .i64 y) := hck
        have hkl' : (k : Int) < xs.length := by omega
        clear hcell hck e2 hx hy
        cases hb : stpB xs k with
        | true =>
          have HS := Lib.hid (stpTo_yes hb)
          have hq : (y != x + 1) = true := by rw [← hB]; exact hb
          clear hb hB
          go_wp2_with (at_builtin; refine wpList_app1 Try.intSl rfl _ _ rfl _ (stpTo xs k) rfl (ho.alloc _) w.heap.size hf wr.heap.size (k : Int) rfl ?c1 w (hbr.alloc hsr _) ?d1 hlen ?_)
          case c1 => simp [go_sem]
          case d1 => simp; omega
          intro v' w6 ho' hf' hb' _
          rw [← HS.out] at ho'
          clear ho hbr
          go_wp2
          go_roundw
          case rel => exact ⟨k + 1, by omega, by go_num, by rw [HY.out], ho', hf', hb'⟩
          case measure => simp [intOf] <;> omega
        | false =>
          have HS := Lib.hid (stpTo_no hb)
          have hq : (y != x + 1) = false := by rw [← hB]; exact hb
          clear hb hB
          go_wp2
          go_roundw
          case rel => exact ⟨k + 1, by omega, by go_num, by rw [HY.out], by rw [HS.out]; exact ho, hf, hbr⟩
          case measure => simp [intOf] <;> omega
      · obtain rfl : k = xs.length := by omega
        have e2 : extD xs (xs.length + 1) = (xs.length : Int) + 1 := by unfold extD below; rw [if_neg (by omega), Nat.add_sub_cancel, if_neg (by omega)]
        have hyy : y = (xs.length : Int) + 1 := by rw [← hy, e2]
        subst hyy
        have hkl' : ¬ ((xs.length : Nat) : Int) < xs.length := by omega
        clear e2 hx hy
        cases hb : stpB xs xs.length with
        | true =>
          have HS := Lib.hid (stpTo_yes hb)
          have hq : ((xs.length : Int) + 1 != x + 1) = true := by rw [← hB]; exact hb
          clear hb hB
          go_wp2_with (at_builtin; refine wpList_app1 Try.intSl rfl _ _ rfl _ (stpTo xs xs.length) rfl (ho.alloc _) w.heap.size hf wr.heap.size (xs.length : Int) rfl ?c2 w (hbr.alloc hsr _) ?d2 hlen ?_)
          case d2 => first | omega | (simp; omega)
          intro v' w6 ho' hf' hb' _
          rw [← HS.out] at ho'
          clear ho hbr
          go_wp2
          go_roundw
          case rel => exact ⟨xs.length + 1, by omega, by go_num, by rw [HY.out], ho', hf', hb'⟩
          case measure => simp [intOf] <;> omega
        | false =>
          have HS := Lib.hid (stpTo_no hb)
          have hq : ((xs.length : Int) + 1 != x + 1) = false := by rw [← hB]; exact hb
          clear hb hB
          go_wp2
          go_roundw
          case rel => exact ⟨xs.length + 1, by omega, by go_num, by rw [HY.out], by rw [HS.out]; exact ho, hf, hbr⟩
          case measure => simp [intOf] <;> omega
    · obtain rfl : k = xs.length + 1 := by omega
      have hgt : (xs.length : Int) < ((xs.length + 1 : Nat) : Int) := by omega
      have HO := Lib.hid (show OwnI wr u3 (stpL xs) from ho)
      clear ho
      go_wp2
      go_ret
      exact ⟨_, rfl, HO.out, hf, hbr⟩

theorem sBlockBreaks_any (v : Value) (xs : List Int) (w : World) (hv : OwnI w v xs) (hn : xs.length ≤ 1048576) :
    Calls Try.prog 52 #[v] w fun e w' => ∃ r, e = .returned (.tuple #[r, .bool (goodB xs)]) ∧ OwnI w' r (mBlockBreaks xs) ∧ From w.heap.size r ∧ Below w.heap.size w w' := by
  have cg := stGood_any _ _ _ hv hn
  cases hg : goodB xs with
  | true =>
    have HM := Lib.hid (show mBlockBreaks xs = stpL xs from if_pos hg)
    have HG := Lib.hid (goodB_iff.1 hg)
    rw [hg] at cg
    clear hg
    go_enter Try.func52, Try.ntmps52
    go_wp2_with fail
    refine (cg).mono ?_
    rintro e w1 ⟨rfl, hb⟩
    go_wp2_with fail
    refine (bkBreaks_any _ xs _ (hv.same hb) HG).mono ?_
    rintro e w2 ⟨r, rfl, ho, hf, hb2⟩
    go_wp2
    go_ret2
    exact ⟨_, rfl, by rw [HM.out]; exact ho, hf.mono hb.size, hb.trans (hb2.mono hb.size)⟩
  | false =>
    have HM := Lib.hid (show mBlockBreaks xs = [] from if_neg (by rw [hg]; exact Bool.false_ne_true))
    rw [hg] at cg
    clear hg
    go_enter Try.func52, Try.ntmps52
    go_wp2_with fail
    refine (cg).mono ?_
    rintro e w1 ⟨rfl, hb⟩
    go_wp2
    go_ret2
    exact ⟨_, rfl, by rw [HM.out]; exact OwnI.nil _, From.nil _ _ _, hb⟩

theorem sBlockBound_any (v : Value) (xs : List Int) (w : World) (hv : OwnI w v xs) (hn : xs.length ≤ 1048576) :
    Calls Try.prog 54 #[v] w fun e w' => e = .returned (.tuple #[.int .i64 (mBlockBound xs), .bool (goodB xs)]) ∧ Below w.heap.size w w' := by
  have cg := stGood_any _ _ _ hv hn
  cases hg : goodB xs with
  | true =>
    have HM := Lib.hid (show mBlockBound xs = (((stpL xs).length + 2) / 3 : Nat) from if_pos hg)
    have HG := Lib.hid (goodB_iff.1 hg)
    have hbl := stpL_length xs
    have h9 := HG.out.le9
    rw [hg] at cg
    clear hg
    go_enter Try.func54, Try.ntmps54
    go_wp2_with fail
    refine (cg).mono ?_
    rintro e w1 ⟨rfl, hb⟩
    go_wp2_with fail
    refine (bkBreaks_any _ xs _ (hv.same hb) HG).mono ?_
    rintro e w2 ⟨r, rfl, ho, hf, hb2⟩
    obtain ⟨a2, c2', rfl, _, _, _⟩ := ho.shape
    go_wp2
    go_ret2
    exact ⟨by rw [HM.out]; simp, hb.trans (hb2.mono hb.size)⟩
  | false =>
    have HM := Lib.hid (show mBlockBound xs = 0 from if_neg (by rw [hg]; exact Bool.false_ne_true))
    rw [hg] at cg
    clear hg
    go_enter Try.func54, Try.ntmps54
    go_wp2_with fail
    refine (cg).mono ?_
    rintro e w1 ⟨rfl, hb⟩
    go_wp2
    go_ret2
    exact ⟨by rw [HM.out]; rfl, hb⟩
end Go.Proofs.Ytkeenoklghkonaa
