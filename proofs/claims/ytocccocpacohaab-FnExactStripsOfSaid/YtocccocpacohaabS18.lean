import Derived.Test.YtocccocpacohaabS17
namespace Go.Pan
open Go Go.RowKit
theorem Own.takeN {w : World} {ad : Option Addr} {n cap h : Nat} {cs : List Value} (hO : Own w 1 (.slice ad n cap) n cs) (hk : h ≤ n) : Own w 1 (.slice ad h cap) h (cs.take h) := by
  obtain ⟨ad', cap', hv, h1, h2, h3, h4, hh⟩ := hO
  simp only [Value.slice.injEq, true_and] at hv
  obtain ⟨rfl, rfl⟩ := hv
  refine ⟨_, _, rfl, by simp; omega, by omega, h3, h4, fun a ha => ?_⟩
  obtain ⟨hs, cur, ty, hb, r, hc⟩ := hh a ha
  exact ⟨hs, cur, ty, hb, r, fun j hj => by rw [List.getElem?_take_of_lt (by omega)]; exact hc j (by omega)⟩

/-- 's[l:h]' -/
theorem wpList_sub {P : Program} {w : World} {ops : Array Oper} {rest : List Oper} {o : Oper} {a : Act} {Q : Exit → Act → World → Prop}
    {t e : TypeId} (hT : IntSl P t e) (hg : o.guard = none) (x lo hi : Operand) (hop : o.op = .slice t x (some lo) (some hi) none)
    (ad : Option Addr) (n cap l h : Nat) (hx : a.eval x = .slice ad n cap) (hl : a.eval lo = .int .i64 l) (H : Int) (hh : a.eval hi = .int .i64 H) (hH : H = (h : Int)) (h1 : l ≤ h) (h2 : h ≤ n) (hnc : n ≤ cap) (xs : List Int) (hn : n = xs.length) (hown : OwnI w (.slice ad n cap) xs)
    (hK : ∀ sp c, OwnI w (.slice sp ((xs.take h).drop l).length c) ((xs.take h).drop l) → wpList P ops Q rest (a.put o.dst (.slice sp ((xs.take h).drop l).length c)) w) :
    wpList P ops Q (o :: rest) a w := by
  subst hn
  subst hH
  obtain ⟨i, hi', hz, hs1, hb8⟩ := hT.i
  have he : P.elem t = e := by simp [Program.elem, hT.u]
  have hrun : (Instr.sliceAt t (.slice ad xs.length cap) (some (.int .i64 l)) (some (.int .i64 h)) none).run P w = .ok (.slice (if cap = l then ad else ad.map (·.add (l * 1))) (h - l) (cap - l)) w := by
    rw [run_sliceAt_slice w t _ _ _ _ (by rw [he]; exact hT.u), run_slice_lh w t ad xs.length cap (by rw [he]; exact hT.u) .i64 .i64 l h (by omega) (by omega) (by omega)]
    simp [sizeOf, typeInfo, he, hi', hs1, sliced, Result.andThen]
  have hd := Own.drop (Own.takeN hown h2) h1
  have hlen : ((xs.take h).drop l).length = h - l := by rw [List.length_drop, List.length_take, Nat.min_eq_left h2]
  refine wpList_plain hg fun K hK' => ?_
  unfold Oper.wp
  simp [execOp, hop, hx, hl, hh, hrun, Result.andThen]
  have hk := hK (if cap = l then ad else ad.map (·.add (l * 1))) (cap - l) (by
    unfold OwnI
    rw [hlen, List.map_drop, List.map_take]
    exact hd)
  rw [hlen] at hk
  simp only [Nat.mul_one] at hk
  exact hK' _ _ hk
end Go.Pan
namespace Go.Proofs.Ytocccocpacohaab
open Go Go.RowKit Go.Pan

set_option maxHeartbeats 3200000 in
theorem sStripsOf_any (v : Value) (xs : List Int) (w : World) (hv : OwnI w v xs) (hn : xs.length ≤ 1048576) :
    Calls Try.prog 28 #[v] w fun e w' => ∃ r hs, e = .returned (.tuple #[r, .bool (goodB xs)]) ∧ SS w' w.heap.size w'.heap.size r hs (mStripsOf xs) ∧ Below w.heap.size w w' := by
  obtain ⟨ad, cap, rfl, hcap, _, _⟩ := hv.shape
  have c := stGood_any _ xs w hv hn
  cases hg : goodB xs with
  | true =>
    have hG := goodB_iff.1 hg
    have HG := Lib.hid hG
    have hl9 := hG.le9
    have hl1 := hG.1
    have HO := Lib.hid hg
    have HM := Lib.hid (show mStripsOf xs = stripTo xs xs.length from if_pos hg)
    obtain ⟨i0, hi, hz0, hz1, hz2⟩ := info_parts Try.info22
    have HI := Lib.hid hi
    have HZ0 := Lib.hid hz0
    have HZ1 := Lib.hid hz1
    have HZ2 := Lib.hid hz2
    rw [hg] at c
    clear hG hg hi hz0 hz1 hz2
    go_enter Try.func28, Try.ntmps28
    go_wp2_with fail
    refine c.mono ?_
    rintro e w1 ⟨rfl, hb1⟩
    clear c
    go_wp2
    go_loopw [4, 5, 6] (fun o s i wr => ∃ (k : Nat) (oa : Option Addr) (cp : Nat) (hs : List Value), k ≤ xs.length ∧ i = .int .i64 ((k : Int) + 1) ∧ s = .int .i64 (stripEnd xs k : Nat) ∧ o = .slice oa (stripTo xs k).length cp ∧ hs.length = (stripTo xs k).length ∧ SS wr w.heap.size wr.heap.size o hs (stripTo xs k) ∧ wr.ownsRow w.heap.size 22 1 o (stripTo xs k).length hs ∧ Below w.heap.size w wr) (fun _ _ i _ => xs.length + 1 - (intOf i).toNat)
    case atStart => exact ⟨0, none, 0, [], Nat.zero_le _, by go_num, rfl, rfl, rfl, SS.nil _ _ _, World.ownsRow_nil _ _ _ _, hb1⟩
    case round =>
      obtain ⟨k, oa, cp, hs, hk, rfl, rfl, rfl, hhl, hS, hown, hbr⟩ := hrel
      clear hb1
      have HHL := Lib.hid hhl
      have HS0 := Lib.hid hS
      have hsr := hbr.size
      by_cases hlt : k < xs.length
      · have hle : (k : Int) + 1 ≤ xs.length := by omega
        have hvr := hv.below hbr (Nat.le_refl _)
        obtain ⟨hse, _, hsn, _⟩ := strip_inv xs k (by omega)
        have hsek : stripEnd xs k ≤ k + 1 := by omega
        clear hv hhl hS hse
        by_cases hlast : k + 1 = xs.length
        · have hq : (((k : Int) + 1) == (xs.length : Int)) = true := by simp; omega
          have HC := Lib.hid (strip_yes (show cutB xs (k + 1) = true by unfold cutB; rw [hlast]; simp))
          have HLA := Lib.hid hlast
          clear hlast
          go_wp2_with (first | (refine wpList_sub Try.intSl rfl _ _ _ rfl ad xs.length cap (stripEnd xs k) (k + 1) rfl rfl _ rfl (by omega) hsek (by omega) hcap xs rfl hvr ?_))
          intro sp c hsub
          have hsl : ((xs.take (k + 1)).drop (stripEnd xs k)).length ≤ 1048576 := by rw [List.length_drop, List.length_take]; omega
          go_wp2_with fail
          refine (l1Own_any _ _ _ hsub hsl).mono ?_
          rintro e w4 ⟨r4, rfl, ho4, hf4, hb4⟩
          obtain ⟨z, hz⟩ : ∃ z, (xs.take (k + 1)).drop (stripEnd xs k) = z := ⟨_, rfl⟩
          have HZ := Lib.hid hz
          rw [hz] at ho4
          obtain ⟨a4, c4, rfl, _, _, _⟩ := ho4.shape
          clear hz hsl hsub
          have hown4 := hown.kept (grown_of_below hb4 none) (by cases oa with | none => exact .inl rfl | some a => exact .inr (by intro h; cases h))
          have hB4 := hbr.trans (hb4.mono hsr)
          have hz4 := hb4.size
          have HI4 := Lib.hid (show In wr.heap.size (w4.heap.size + 1) (.slice a4 z.length c4) from fun g hg => ⟨hf4 g hg, Nat.lt_succ_of_lt (ho4.lt g hg)⟩)
          have HS4 := Lib.hid ((HS0.out.below hb4 (Nat.le_refl _)).below (below_new w4 (.cells #[.slice a4 z.length c4] 22)) hz4)
          have HO4 := Lib.hid (ho4.alloc (.cells #[.slice a4 z.length c4] 22))
          clear hown hbr hb4 ho4 hf4 hvr
          go_wp2_with (at_builtin; refine wpList_append_lies _ rfl _ _ 31 rfl w.heap.size 22 i0 _ 1 24 Try.underlying31 HI.out HZ0.out HZ1.out HZ2.out rfl (by omega) (.slice oa (stripTo xs k).length cp) (stripTo xs k).length hs rfl (hown4.alloc _) _ 1 1 [.slice a4 z.length c4] rfl (by simp) (World.news_of_block (heap_alloc_new _ _)) (by simp [Value.oneCell']) (by omega) (by unfold maxLen; omega) (by omega) (by simp; omega) (w4.heap.size + 1) (by simp) ?_)
          intro g6 cap6 w6 hown6 hgr6 hat6 hlt6
          have hS6 := SS.app (cap := cap6) HS4.out (by simp; omega) HO4.out (by simpa using HI4.out) (by rw [HHL.out]; exact hown6) hgr6 (by simpa using hat6) hlt6 hsr
          have hC2 : stripTo xs (k + 1) = stripTo xs k ++ [z] := by rw [HC.out.2, HZ.out]
          have hCl : (stripTo xs (k + 1)).length = (stripTo xs k).length + 1 := by rw [hC2]; simp
          rw [← hC2, HHL.out, ← hCl] at hS6
          rw [← hCl] at hown6
          have hB6 := (hB4.alloc (Nat.le_trans hsr hz4) (.cells #[.slice a4 z.length c4] 22)).grown hgr6 (by simp; omega) (fun b hb => (HS4.out.inn b hb).1)
          have HS6 := Lib.hid hS6
          have HL6 := Lib.hid (show (hs ++ [Value.slice a4 z.length c4]).length = (stripTo xs (k + 1)).length by rw [List.length_append, HHL.out, hCl]; rfl)
          have HCl := Lib.hid hCl
          clear hS6 hgr6 hat6 hB4 hown4 hC2 hCl
          go_wp2
          go_roundw
          case rel => exact ⟨k + 1, some ⟨g6, 0, none⟩, cap6, _, by omega, by go_num, by rw [HC.out.1]; go_num, by rw [HCl.out], HL6.out, by rw [← HCl.out]; exact HS6.out, by rw [← HCl.out]; exact hown6, hB6⟩
          case measure => simp [intOf] <;> omega
        · have hq : (((k : Int) + 1) == (xs.length : Int)) = false := by simp; omega
          have cg := gaIs_any _ xs (k + 1) wr hvr HG (by omega) (by omega)
          rw [Int.natCast_add, Int.natCast_one] at cg
          cases hb : gapB xs (k + 1) with
          | true =>
            rw [hb] at cg
            have HC := Lib.hid (strip_yes (show cutB xs (k + 1) = true by unfold cutB; rw [hb]; simp))
            clear hb hlast
            go_wp2_with fail
            refine cg.mono ?_
            rintro e w3 ⟨rfl, hb3⟩
            have hown3 := hown.kept (grown_of_below hb3 none) (by cases oa with | none => exact .inl rfl | some a => exact .inr (by intro h; cases h))
            have hB3 := hbr.trans (hb3.mono hsr)
            have HS3 := Lib.hid ((HS0.out.below hb3 (Nat.le_refl _)).mono (Nat.le_refl _) hb3.size)
            have hvr3 := hvr.same hb3
            have hsr3 := hB3.size
            clear hown hbr hb3 cg hvr
            go_wp2_with (first | (refine wpList_sub Try.intSl rfl _ _ _ rfl ad xs.length cap (stripEnd xs k) (k + 1) rfl rfl _ rfl (by omega) hsek (by omega) hcap xs rfl hvr3 ?_))
            intro sp c hsub
            have hsl : ((xs.take (k + 1)).drop (stripEnd xs k)).length ≤ 1048576 := by rw [List.length_drop, List.length_take]; omega
            go_wp2_with fail
            refine (l1Own_any _ _ _ hsub hsl).mono ?_
            rintro e w4 ⟨r4, rfl, ho4, hf4, hb4⟩
            obtain ⟨z, hz⟩ : ∃ z, (xs.take (k + 1)).drop (stripEnd xs k) = z := ⟨_, rfl⟩
            have HZ := Lib.hid hz
            rw [hz] at ho4
            obtain ⟨a4, c4, rfl, _, _, _⟩ := ho4.shape
            clear hz hsl hsub
            have hown4 := hown3.kept (grown_of_below hb4 none) (by cases oa with | none => exact .inl rfl | some a => exact .inr (by intro h; cases h))
            have hB4 := hB3.trans (hb4.mono hsr3)
            have hz4 := hb4.size
            have HI4 := Lib.hid (show In w3.heap.size (w4.heap.size + 1) (.slice a4 z.length c4) from fun g hg => ⟨hf4 g hg, Nat.lt_succ_of_lt (ho4.lt g hg)⟩)
            have HS4 := Lib.hid ((HS3.out.below hb4 (Nat.le_refl _)).below (below_new w4 (.cells #[.slice a4 z.length c4] 22)) hz4)
            have HO4 := Lib.hid (ho4.alloc (.cells #[.slice a4 z.length c4] 22))
            clear hown3 hB3 hb4 ho4 hf4 hvr3
            go_wp2_with (at_builtin; refine wpList_append_lies _ rfl _ _ 31 rfl w.heap.size 22 i0 _ 1 24 Try.underlying31 HI.out HZ0.out HZ1.out HZ2.out rfl (by omega) (.slice oa (stripTo xs k).length cp) (stripTo xs k).length hs rfl (hown4.alloc _) _ 1 1 [.slice a4 z.length c4] rfl (by simp) (World.news_of_block (heap_alloc_new _ _)) (by simp [Value.oneCell']) (by omega) (by unfold maxLen; omega) (by omega) (by simp; omega) (w4.heap.size + 1) (by simp) ?_)
            intro g6 cap6 w6 hown6 hgr6 hat6 hlt6
            have hS6 := SS.app (cap := cap6) HS4.out (by simp; omega) HO4.out (by simpa using HI4.out) (by rw [HHL.out]; exact hown6) hgr6 (by simpa using hat6) hlt6 hsr3
            have hC2 : stripTo xs (k + 1) = stripTo xs k ++ [z] := by rw [HC.out.2, HZ.out]
            have hCl : (stripTo xs (k + 1)).length = (stripTo xs k).length + 1 := by rw [hC2]; simp
            rw [← hC2, HHL.out, ← hCl] at hS6
            rw [← hCl] at hown6
            have hB6 := (hB4.alloc (Nat.le_trans hsr3 hz4) (.cells #[.slice a4 z.length c4] 22)).grown hgr6 (by simp; omega) (fun b hb => (HS4.out.inn b hb).1)
            have HS6 := Lib.hid hS6
            have HL6 := Lib.hid (show (hs ++ [Value.slice a4 z.length c4]).length = (stripTo xs (k + 1)).length by rw [List.length_append, HHL.out, hCl]; rfl)
            have HCl := Lib.hid hCl
            clear hS6 hgr6 hat6 hB4 hown4 hC2 hCl
            go_wp2
            go_roundw
            case rel => exact ⟨k + 1, some ⟨g6, 0, none⟩, cap6, _, by omega, by go_num, by rw [HC.out.1]; go_num, by rw [HCl.out], HL6.out, by rw [← HCl.out]; exact HS6.out, by rw [← HCl.out]; exact hown6, hB6⟩
            case measure => simp [intOf] <;> omega
          | false =>
            rw [hb] at cg
            have HC := Lib.hid (strip_no (show cutB xs (k + 1) = false by unfold cutB; rw [hb]; simp [hlast]))
            clear hb hlast
            go_wp2_with fail
            refine cg.mono ?_
            rintro e w3 ⟨rfl, hb3⟩
            have hown3 := hown.kept (grown_of_below hb3 none) (by cases oa with | none => exact .inl rfl | some a => exact .inr (by intro h; cases h))
            have hB3 := hbr.trans (hb3.mono hsr)
            have HS3 := Lib.hid ((HS0.out.below hb3 (Nat.le_refl _)).mono (Nat.le_refl _) hb3.size)
            clear hown hbr hb3 cg hvr
            go_wp2
            go_roundw
            case rel => exact ⟨k + 1, oa, cp, hs, by omega, by go_num, by rw [HC.out.1], by rw [HC.out.2], by rw [HC.out.2]; exact HHL.out, by rw [HC.out.2]; exact HS3.out, by rw [HC.out.2]; exact hown3, hB3⟩
            case measure => simp [intOf] <;> omega
      · obtain rfl : k = xs.length := by omega
        have hle : (xs.length : Int) < xs.length + 1 := by omega
        clear hv hS hhl
        go_wp2
        go_ret2
        exact ⟨_, hs, rfl, by rw [HM.out]; exact HS0.out, hbr⟩
  | false =>
    have HM := Lib.hid (show mStripsOf xs = [] from if_neg (by rw [hg]; exact Bool.false_ne_true))
    rw [hg] at c
    have HO := Lib.hid hg
    clear hg
    go_enter Try.func28, Try.ntmps28
    go_wp2_with fail
    refine c.mono ?_
    rintro e w1 ⟨rfl, hb1⟩
    clear c hv
    go_wp2
    go_ret2
    exact ⟨_, [], by first | rfl | (rw [HO.out]; rfl), by rw [HM.out]; exact SS.nil _ _ _, hb1⟩

end Go.Proofs.Ytocccocpacohaab
