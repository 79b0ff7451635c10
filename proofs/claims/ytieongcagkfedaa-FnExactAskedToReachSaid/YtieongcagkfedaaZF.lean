import Derived.Test.YtieongcagkfedaaZC
import Derived.Test.YtieongcagkfedaaI4
namespace Go.Proofs.Ytieongcagkfedaa
open Go Go.RowKit Go.Pan

set_option maxHeartbeats 1600000 in
set_option maxRecDepth 100000 in
theorem AskedToReach_any (v : Value) (xs : List Int) (u : Value) (ys : List Int) (w : World) (hv : OwnI w v xs) (hn : xs.length ≤ 1048576) (hu : OwnI w u ys) (hm : ys.length ≤ 1048576) :
    Calls Try.prog 50 #[v, u] w fun e w' => ∃ r, e = .returned (.tuple #[r, .bool (okReach xs ys)]) ∧ OwnI w' r (mAskedToReach xs ys) ∧ From w.heap.size r ∧ Below w.heap.size w w' := by
  obtain ⟨ad, cap, rfl, hc, _, _⟩ := hv.shape
  obtain ⟨bd, cbp, rfl, hc', _, _⟩ := hu.shape
  cases hg : goodB xs with
  | false =>
    have HO := Lib.hid (show okReach xs ys = false by unfold okReach; rw [hg]; rfl)
    have HM := Lib.hid (show mAskedToReach xs ys = [] from if_neg (by rw [HO.out]; exact Bool.false_ne_true))
    go_enter Try.func50, Try.ntmps50
    go_wp2_with fail
    refine (IsStack_any _ xs _ hv hn).mono ?_
    rintro e w1 ⟨rfl, hb1⟩
    go_wp2
    go_ret2
    exact ⟨_, by rw [HO.out]; rfl, by rw [HM.out]; exact OwnI.nil _, From.nil _ _ _, hb1⟩
  | true =>
    cases hg2 : goodB ys with
    | false =>
      have HO := Lib.hid (show okReach xs ys = false by unfold okReach; rw [hg, hg2]; rfl)
      have HM := Lib.hid (show mAskedToReach xs ys = [] from if_neg (by rw [HO.out]; exact Bool.false_ne_true))
      go_enter Try.func50, Try.ntmps50
      go_wp2_with fail
      refine (IsStack_any _ xs _ hv hn).mono ?_
      rintro e w1 ⟨rfl, hb1⟩
      go_wp2_with fail
      refine (IsStack_any _ ys _ (hu.same hb1) hm).mono ?_
      rintro e w2 ⟨rfl, hb2⟩
      go_wp2
      go_ret2
      exact ⟨_, by rw [HO.out]; rfl, by rw [HM.out]; exact OwnI.nil _, From.nil _ _ _, hb1.trans (hb2.mono hb1.size)⟩
    | true =>
      by_cases hl : xs.length = ys.length
      · have HO := Lib.hid (show okReach xs ys = true from okReach_iff.2 ⟨goodB_iff.1 hg, goodB_iff.1 hg2, hl⟩)
        have HM := Lib.hid (show mAskedToReach xs ys = reachL xs ys from if_pos HO.out)
        have hG := goodB_iff.1 hg2
        have h1 := hG.1
        have h9 := hG.2.1
        have hl' : ((xs.length : Int) == (ys.length : Int)) = true := by rw [beq_iff_eq]; omega
        have HL := Lib.hid hl
        obtain ⟨m, hmm⟩ : ∃ m, ys.length = m + 1 := ⟨ys.length - 1, by omega⟩
        have HMM := Lib.hid hmm
        clear hG hl hmm
        go_enter Try.func50, Try.ntmps50
        go_wp2_with fail
        refine (IsStack_any _ xs _ hv hn).mono ?_
        rintro e w1 ⟨rfl, hb1⟩
        go_wp2_with fail
        refine (IsStack_any _ ys _ (hu.same hb1) hm).mono ?_
        rintro e w2 ⟨rfl, hb2⟩
        have hB2 := hb1.trans (hb2.mono hb1.size)
        clear hb1 hb2
        have hs2 := hB2.size
        have hu2 := hu.same hB2
        have hv2 := hv.same hB2
        obtain ⟨i0, hi, hz0, hz1, hz2⟩ := info_parts Try.info3
        have HI := Lib.hid hi
        have HZ0 := Lib.hid hz0
        have HZ1 := Lib.hid hz1
        have HZ2 := Lib.hid hz2
        clear hi hz0 hz1 hz2
        have HU := Lib.hid hu2
        have HV := Lib.hid hv2
        have hm9 : m + 1 ≤ 9 := by have := HMM.out; omega
        clear hv hu hv2 hu2
        go_wp2
        go_loopw [6] (fun i wr => ∃ f : Nat, f ≤ m ∧ i = .int .i64 f ∧ Hid (frL xs ys f = frL xs ys m) ∧ Below w2.heap.size w2 wr) (fun i _ => (intOf i).toNat)
        case atStart => exact ⟨m, Nat.le_refl _, by have := HMM.out; go_num, Lib.hid rfl, Below.refl _ _⟩
        case round =>
          obtain ⟨f, hf, rfl, HF, hbr⟩ := hrel
          have hur := HU.out.below hbr (Nat.le_refl _)
          have hvr := HV.out.below hbr (Nat.le_refl _)
          have HY := Lib.hid hur
          have hfl : f ≤ ys.length := by have := HMM.out; omega
          obtain ⟨T, hT⟩ : ∃ T, ys.take f = T := ⟨_, rfl⟩
          have HTT := Lib.hid hT
          have HTL := Lib.hid (show T.length = f by rw [← hT, List.length_take]; omega)
          clear hT
          by_cases h0 : f = 0
          · have HR := Lib.hid (show mAskedToReach xs ys = T.reverse by rw [HM.out, ← HTT.out]; unfold reachL; rw [HMM.out, Nat.add_sub_cancel, ← HF.out, h0]; simp [frL])
            have hd : decide ((0 : Int) < (f : Int)) = false := by subst h0; decide
            have hd2 : decide (0 < f) = false := by subst h0; rfl
            clear hur hvr h0 HF
            go_wp2_with fail
            go_quiet (fail)
            obtain ⟨wd, hwd⟩ : ∃ wd, wr.drewN nq = wd := ⟨_, rfl⟩
            have hbD : Below w.heap.size w wd := by rw [← hwd]; exact hB2.trans ((hbr.drewN nq).mono hs2)
            have huD : OwnI wd (.slice bd ys.length cbp) ys := by rw [← hwd]; exact HY.out.kept fun _ _ => rfl
            rw [hwd]
            clear hwd
            have hsD := hbD.size
            go_wp2_with (at_make; refine wpList_make_full _ rfl _ _ 22 rfl wd.heap.size 3 i0 (.int .i64 0) 1 Try.underlying22 HI.out HZ0.out HZ1.out _ _ _ _ f rfl rfl rfl rfl ?b1 ?b2 ?b3 ?_)
            case b1 => rw [HZ2.out]; omega
            case b2 => unfold maxLen; omega
            case b3 => exact Nat.le_refl _
            intro w3 hown hgrow
            have hrow := Blk.of_row hown
            have hro : Blk w3 wd.heap.size 3 (List.replicate f (iv 0)) := by simpa [toList_madeCells_one] using hrow.1
            have hb3 := hbD.grown hgrow hbD.size (fun k hk => by simp at hk)
            have hsrc := Own.src (huD.grown hgrow (by simp))
            have hmin : (T.map iv).length = Nat.min ys.length f := by rw [List.length_map, HTL.out]; exact (Nat.min_eq_right hfl).symm
            have hon : ∀ v ∈ T.map iv, v.oneCell' = true := by simp [Value.oneCell']
            have hfit : 0 + (T.map iv).length ≤ (List.replicate f (iv 0)).length := by simp [HTL.out]
            have hpos : 0 < (T.map iv).length → (some (⟨wd.heap.size, 0, none⟩ : Addr)) = some ⟨wd.heap.size, 0, none⟩ ∧ ∃ a, bd = some a ∧ ∀ j v, (T.map iv)[j]? = some v → w3.cell? (a.add j) = some v := by
              intro h0
              rcases hsrc with ⟨_, h, _⟩ | ⟨a, ha, h⟩
              · rw [List.length_map, HTL.out] at h0; omega
              · refine ⟨rfl, a, ha, fun j v hj => h j v ?_⟩
                rw [← HTT.out, List.map_take, List.getElem?_take] at hj
                split at hj
                · exact hj
                · cases hj
            have HS := Lib.hid (splice_made T)
            have H1 := Lib.hid hmin
            have H2 := Lib.hid hon
            have H3 := Lib.hid hpos
            have H4 := Lib.hid hfit
            clear hmin hon hpos hfit hrow hown hgrow hsrc huD
            go_wp2_with (refine wpList_copy_splice rfl _ _ _ _ rfl 3 Try.underlying22 Try.infoI _ _ _ _ _ _ rfl rfl wd.heap.size 0 (List.replicate f (iv 0)) 3 hro (T.map iv) H1.out H3.out H4.out H2.out w.heap.size w hb3 hsD ?_)
            intro w' HG hb'
            have hg2 := HG.out
            rw [show List.replicate f (iv 0) = List.replicate T.length (iv 0) by rw [HTL.out], HS.out] at hg2
            have ho2 : OwnI w' (.slice (some ⟨wd.heap.size, 0, none⟩) f f) T := OwnI.of_blk0 hg2 HTL.out.symm (by omega)
            clear hg2 HG hro hbD hb3
            have cR := Reverse_any _ T _ ho2 (by rw [HTL.out]; omega)
            clear ho2
            go_wp2_with fail
            refine (cR).mono ?_
            rintro e w4 ⟨rfl, ho4, hg4⟩
            have hb4 := hb'.grown hg4 hb'.size (fun k hk => From.at _ _ _ _ _ hsD k hk)
            have HO4 := Lib.hid (show OwnI w4 (.slice (some ⟨wd.heap.size, 0, none⟩) f f) (mAskedToReach xs ys) by rw [HR.out]; exact ho4)
            clear ho4 hg4 cR
            go_wp2
            go_ret2
            exact ⟨_, by rw [HO.out]; rfl, HO4.out, From.at _ _ _ _ _ hsD, hb4⟩
          · obtain ⟨k, hk⟩ : ∃ k, f = k + 1 := ⟨f - 1, by omega⟩
            have hkl : k < ys.length := by have := HMM.out; omega
            have hkl2 : k + 1 < ys.length := by have := HMM.out; omega
            obtain ⟨g, off, hbe, hgl, hcell, _⟩ := hur.at (by omega)
            have hck := hcell k (by omega)
            have hck2 := hcell f (by omega)
            rw [List.getElem?_map, List.getElem?_eq_getElem hkl] at hck
            rw [List.getElem?_map, List.getElem?_eq_getElem (by omega)] at hck2
            obtain ⟨y0, hy0⟩ : ∃ y, ys[k] = y := ⟨_, rfl⟩
            obtain ⟨y1, hy1⟩ : ∃ y, ys[f]'(by omega) = y := ⟨_, rfl⟩
            rw [hy0] at hck
            rw [hy1] at hck2
            have HD := Lib.hid (show frL xs ys f = if placeL xs y0 < placeL xs y1 then frL xs ys k else f by
              subst hk
              rw [frL, getD_eq hkl, getD_eq hkl2, hy0, hy1])
            have cq := fun (n : Nat) (x : Int) => IndexQ_any _ xs x (wr.drewN n) (hvr.kept fun _ _ => rfl) hn
            obtain ⟨P0, hP0⟩ : ∃ P, placeL xs y0 - 1 = P := ⟨_, rfl⟩
            obtain ⟨P1, hP1⟩ : ∃ P, placeL xs y1 - 1 = P := ⟨_, rfl⟩
            have HPP := Lib.hid (show placeL xs y0 < placeL xs y1 ↔ P0 < P1 by omega)
            have c0 := fun n => cq n y0
            have c1 := fun n => cq n y1
            simp only [hP0] at c0
            simp only [hP1] at c1
            have hkp : (0 : Int) < (f : Int) := by omega
            have hkn : 0 < f := by omega
            have hw1 : IntKind.i64.wrap ((f : Int) - 1) = (k : Int) := by rw [show (f : Int) - 1 = (k : Int) by omega]; exact IntWalk.i64_in _ (by omega)
            have hw2 : (0 : Int) ≤ (k : Int) := by omega
            have hw3 : (k : Int) < ys.length := by omega
            have hw5 : (f : Int) < ys.length := by omega
            have hw6 : (0 : Int) ≤ (f : Int) := by omega
            have HC0 := Lib.hid c0
            have HC1 := Lib.hid c1
            have HK := Lib.hid hk
            subst hbe
            clear hcell hy0 hy1 hP0 hP1 cq hvr c0 c1 h0 hk hur
            by_cases hlt : P0 < P1
            · have H := Lib.hid (show frL xs ys k = frL xs ys m by rw [← HF.out, HD.out, if_pos (HPP.out.2 hlt)])
              have hfk : (f : Int) - 1 = (k : Int) := by have := HK.out; omega
              have HFK := Lib.hid hfk
              clear HD HF hfk
              go_wp2_with fail
              go_quiet ((go_at_call 104; first | with_reducible exact Calls.quiet_of_same (HC0.out _) | with_reducible exact Calls.quiet_of_same (HC1.out _)))
              go_wp2
              go_roundw
              case rel => exact ⟨k, by have := HK.out; omega, by first | rfl | (have := HFK.out; go_num), H, hbr.drewN _⟩
              case measure => have := HK.out; simp [intOf] <;> omega
            · have hq : decide (P0 < P1) = false := decide_eq_false hlt
              have HR := Lib.hid (show mAskedToReach xs ys = T.reverse by rw [HM.out, ← HTT.out]; unfold reachL; rw [HMM.out, Nat.add_sub_cancel, ← HF.out, HD.out, if_neg (fun h => hlt (HPP.out.1 h))])
              clear HD HF hlt
              go_wp2_with fail
              go_quiet ((go_at_call 104; first | with_reducible exact Calls.quiet_of_same (HC0.out _) | with_reducible exact Calls.quiet_of_same (HC1.out _)))
              obtain ⟨wd, hwd⟩ : ∃ wd, wr.drewN nq = wd := ⟨_, rfl⟩
              have hbD : Below w.heap.size w wd := by rw [← hwd]; exact hB2.trans ((hbr.drewN nq).mono hs2)
              have huD : OwnI wd (.slice (some ⟨g, off, none⟩) ys.length cbp) ys := by rw [← hwd]; exact HY.out.kept fun _ _ => rfl
              rw [hwd]
              clear hwd
              have hsD := hbD.size
              go_wp2_with (at_make; refine wpList_make_full _ rfl _ _ 22 rfl wd.heap.size 3 i0 (.int .i64 0) 1 Try.underlying22 HI.out HZ0.out HZ1.out _ _ _ _ f rfl rfl rfl rfl ?b1 ?b2 ?b3 ?_)
              case b1 => rw [HZ2.out]; omega
              case b2 => unfold maxLen; omega
              case b3 => exact Nat.le_refl _
              intro w3 hown hgrow
              have hrow := Blk.of_row hown
              have hro : Blk w3 wd.heap.size 3 (List.replicate f (iv 0)) := by simpa [toList_madeCells_one] using hrow.1
              have hb3 := hbD.grown hgrow hbD.size (fun k hk => by simp at hk)
              have hsrc := Own.src (huD.grown hgrow (by simp))
              have hmin : (T.map iv).length = Nat.min ys.length f := by rw [List.length_map, HTL.out]; exact (Nat.min_eq_right hfl).symm
              have hon : ∀ v ∈ T.map iv, v.oneCell' = true := by simp [Value.oneCell']
              have hfit : 0 + (T.map iv).length ≤ (List.replicate f (iv 0)).length := by simp [HTL.out]
              have hpos : 0 < (T.map iv).length → (some (⟨wd.heap.size, 0, none⟩ : Addr)) = some ⟨wd.heap.size, 0, none⟩ ∧ ∃ a, some (⟨g, off, none⟩ : Addr) = some a ∧ ∀ j v, (T.map iv)[j]? = some v → w3.cell? (a.add j) = some v := by
                intro h0
                rcases hsrc with ⟨_, h, _⟩ | ⟨a, ha, h⟩
                · rw [List.length_map, HTL.out] at h0; omega
                · refine ⟨rfl, a, ha, fun j v hj => h j v ?_⟩
                  rw [← HTT.out, List.map_take, List.getElem?_take] at hj
                  split at hj
                  · exact hj
                  · cases hj
              have HS := Lib.hid (splice_made T)
              have H1 := Lib.hid hmin
              have H2 := Lib.hid hon
              have H3 := Lib.hid hpos
              have H4 := Lib.hid hfit
              clear hmin hon hpos hfit hrow hown hgrow hsrc huD
              go_wp2_with (refine wpList_copy_splice rfl _ _ _ _ rfl 3 Try.underlying22 Try.infoI _ _ _ _ _ _ rfl rfl wd.heap.size 0 (List.replicate f (iv 0)) 3 hro (T.map iv) H1.out H3.out H4.out H2.out w.heap.size w hb3 hsD ?_)
              intro w' HG hb'
              have hg2 := HG.out
              rw [show List.replicate f (iv 0) = List.replicate T.length (iv 0) by rw [HTL.out], HS.out] at hg2
              have ho2 : OwnI w' (.slice (some ⟨wd.heap.size, 0, none⟩) f f) T := OwnI.of_blk0 hg2 HTL.out.symm (by omega)
              clear hg2 HG hro hbD hb3
              have cR := Reverse_any _ T _ ho2 (by rw [HTL.out]; omega)
              clear ho2
              go_wp2_with fail
              refine (cR).mono ?_
              rintro e w4 ⟨rfl, ho4, hg4⟩
              have hb4 := hb'.grown hg4 hb'.size (fun k hk => From.at _ _ _ _ _ hsD k hk)
              have HO4 := Lib.hid (show OwnI w4 (.slice (some ⟨wd.heap.size, 0, none⟩) f f) (mAskedToReach xs ys) by rw [HR.out]; exact ho4)
              clear ho4 hg4 cR
              go_wp2
              go_ret2
              exact ⟨_, by rw [HO.out]; rfl, HO4.out, From.at _ _ _ _ _ hsD, hb4⟩
      · have HO := Lib.hid (show okReach xs ys = false by rw [Bool.eq_false_iff]; intro h; exact hl (okReach_iff.1 h).2.2)
        have HM := Lib.hid (show mAskedToReach xs ys = [] from if_neg (by rw [HO.out]; exact Bool.false_ne_true))
        have hl' : ((xs.length : Int) == (ys.length : Int)) = false := by rw [beq_eq_false_iff_ne]; omega
        clear hl
        go_enter Try.func50, Try.ntmps50
        go_wp2_with fail
        refine (IsStack_any _ xs _ hv hn).mono ?_
        rintro e w1 ⟨rfl, hb1⟩
        go_wp2_with fail
        refine (IsStack_any _ ys _ (hu.same hb1) hm).mono ?_
        rintro e w2 ⟨rfl, hb2⟩
        go_wp2
        go_ret2
        exact ⟨_, by rw [HO.out]; rfl, by rw [HM.out]; exact OwnI.nil _, From.nil _ _ _, hb1.trans (hb2.mono hb1.size)⟩

end Go.Proofs.Ytieongcagkfedaa
