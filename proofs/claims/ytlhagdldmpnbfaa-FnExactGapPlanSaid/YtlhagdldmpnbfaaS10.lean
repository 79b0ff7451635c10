import Derived.Test.YtlhagdldmpnbfaaS9
import Derived.Test.YtlhagdldmpnbfaaM7
import Derived.Deep.LoopGhost
namespace Go.Proofs.Ytlhagdldmpnbfaa
open Go Go.RowKit Go.Pan

theorem OwnI.src2 {w : World} {ad : Option Addr} {n cap : Nat} {xs : List Int} (h : OwnI w (.slice ad n cap) xs) : Src w ad n cap (xs.map iv) := by
  obtain ⟨ad', cap', e, _⟩ := h.shape
  simp only [Value.slice.injEq] at e
  obtain ⟨rfl, rfl, rfl⟩ := e
  exact Own.src h
theorem OwnI.keep {w w' : World} {v : Value} {xs : List Int} (h : OwnI w v xs) (hb : Below w.heap.size w w') : OwnI w' v xs := h.same hb

/-- a plan by gaps on its way -/
def GapAt (xs ys out : List Int) : Prop := Go.Pan.Good ys ∧ ys.length = xs.length ∧ ((out.length ≤ 40 ∧ gapRes ys out = gapRes xs []) ∨ (40 < out.length ∧ gapRes xs [] = none))
theorem GapAt.start {xs : List Int} (h : Go.Pan.Good xs) : GapAt xs xs [] := ⟨h, rfl, .inl ⟨by simp, rfl⟩⟩
theorem GapAt.step {xs ys out : List Int} (h : GapAt xs ys out) (hl : out.length ≤ 40) (hs : ys ≠ ramp 1 ys.length) : GapAt xs (playL ys (stepL ys)) (out ++ stepL ys) := by
  obtain ⟨hg, hly, h⟩ := h
  refine ⟨playL_good hg _, by rw [playL_length]; exact hly, ?_⟩
  rcases h with ⟨h1, h2⟩ | ⟨h1, h2⟩
  · by_cases h40 : (out ++ stepL ys).length ≤ 40
    · exact .inl ⟨h40, by rw [← h2]; exact (gapRes_step hg hs h40).symm⟩
    · exact .inr ⟨by omega, by rw [← h2]; exact gapRes_fail hs hl (by omega)⟩
  · omega
theorem GapAt.done {xs ys out : List Int} (h : GapAt xs ys out) (hl : out.length ≤ 40) (hs : ys = ramp 1 ys.length) : gapRes xs [] = some out := by
  rcases h.2.2 with ⟨h1, h2⟩ | ⟨h1, h2⟩
  · rw [← h2]; exact gapRes_done hs hl
  · omega
theorem GapAt.fail {xs ys out : List Int} (h : GapAt xs ys out) (hl : 40 < out.length) : gapRes xs [] = none := by
  rcases h.2.2 with ⟨h1, h2⟩ | ⟨h1, h2⟩
  · omega
  · exact h2

set_option maxHeartbeats 1600000 in
theorem sGapPlan_any (v : Value) (xs : List Int) (w : World) (hv : OwnI w v xs) (hn : xs.length ≤ 1048576) :
    Calls Try.prog 35 #[v] w fun e w' => ∃ r, e = .returned (.tuple #[r, .bool (okGapPlan xs)]) ∧ OwnI w' r (mGapPlan xs) ∧ From w.heap.size r ∧ Below w.heap.size w w' := by
  cases hg : goodB xs with
  | true =>
    have HG := Lib.hid (goodB_iff.1 hg)
    have HM := Lib.hid (show mGapPlan xs = (gapRes xs []).getD [] from if_pos hg)
    have HO := Lib.hid (show okGapPlan xs = (gapRes xs []).isSome by unfold okGapPlan; rw [hg]; rfl)
    have hl9 := HG.out.le9
    go_enter Try.func35, Try.ntmps35
    go_wp2_with fail
    refine (stGood_any _ _ _ hv hn).mono ?_
    rintro e w1 ⟨rfl, hb⟩
    go_wp2
    go_loopg [0, 4, 5] 44 (fun gk s o _ wr => ∃ ys out : List Int, OwnI wr s ys ∧ OwnI wr o out ∧ From w.heap.size o ∧ Hid (GapAt xs ys out) ∧ 43 ≤ gk + out.length ∧ Below w.heap.size w wr)
    case atStart => exact ⟨xs, [], hv.same hb, OwnI.nil w1, From.nil _ _ _, GapAt.start HG.out, by simp, hb⟩
    case round =>
      obtain ⟨ys, out, hs, ho, hf, hat, hgk, hbr⟩ := hrel
      have hly := hat.out.2.1
      have HGY := Lib.hid hat.out.1
      have HY := Lib.hid hly
      have hly9 : ys.length ≤ 9 := by omega
      clear hly hv hb
      obtain ⟨ado, capo, rfl, _⟩ := ho.shape
      by_cases h40 : out.length ≤ 40
      · have h40i : (out.length : Int) ≤ 40 := by omega
        have hgl := gapsL_length ys
        by_cases hsort : ys = ramp 1 ys.length
        · have HD := Lib.hid (hat.out.done h40 hsort)
          have c := gaAll_any u0 ys
          rw [(gaps_none HGY.out).2 hsort] at c
          clear hsort
          go_wp2_with fail
          refine (c _ hs HGY).mono ?_
          rintro e w2 ⟨r2, rfl, ho2, hf2, hb2⟩
          obtain ⟨ad2, cap2, rfl, _⟩ := ho2.shape
          have hoo := ho.same hb2
          clear ho c
          go_wp2
          go_ret2
          exact ⟨_, by rw [HO.out, HD.out]; rfl, by rw [HM.out, HD.out]; exact hoo, hf, hbr.trans (hb2.mono hbr.size)⟩
        · have hgne : gapsL ys ≠ [] := fun e => hsort ((gaps_none HGY.out).1 e)
          have hq : (((gapsL ys).length : Int) == 0) = false := by simp; exact hgne
          have HST := Lib.hid (hat.out.step h40 hsort)
          have hsl := stepL_length ys
          have HB := Lib.hid (stepL_bd HGY.out)
          have HLA := Lib.hid (show 43 ≤ gk - 1 + (out ++ stepL ys).length by
            have := List.length_pos_iff.2 (stepL_ne HGY.out hsort)
            have : (out ++ stepL ys).length = out.length + (stepL ys).length := List.length_append
            omega)
          have hgk1 : 1 ≤ gk := by omega
          clear hgne hsort
          go_wp2_with fail
          refine (gaAll_any _ ys _ hs HGY).mono ?_
          rintro e w2 ⟨r2, rfl, ho2, hf2, hb2⟩
          obtain ⟨ad2, cap2, rfl, _⟩ := ho2.shape
          have hs2 := hs.same hb2
          have hoo2 := ho.same hb2
          have hB2 := hbr.trans (hb2.mono hbr.size)
          clear hs ho hbr hb2 ho2
          go_wp2_with fail
          refine (gaTurns_any _ ys _ hs2 HGY).mono ?_
          rintro e w3 ⟨r3, rfl, ho3p, hf3, hb3⟩
          obtain ⟨adp, capp, rfl, hcp, _⟩ := ho3p.shape
          have hs3 := hs2.same hb3
          have ho3 := hoo2.same hb3
          have hB3 := hB2.trans (hb3.mono hB2.size)
          clear hs2 hoo2 hB2 hb3
          have htl := turnsL_length ys
          by_cases ht : turnsL ys = []
          · have hti : ((turnsL ys).length : Int) ≤ 0 := by rw [ht]; simp
            have HS := Lib.hid (show stepL ys = (greedyL ys).take 2 from if_pos ht)
            have hgl2 := greedyL_length ys
            clear ht ho3p
            go_wp2_with fail
            refine (gaGreedy_any _ ys _ hs3 HGY).mono ?_
            rintro e w4 ⟨r4, rfl, hp4, hf4, hb4⟩
            obtain ⟨adp, capp, rfl, hcp, _⟩ := hp4.shape
            replace hs3 := hs3.same hb4
            replace ho3 := ho3.same hb4
            replace hB3 := hB3.trans (hb4.mono hB3.size)
            clear hb4
            by_cases h2 : 2 < (greedyL ys).length
            · have h2i : (2 : Int) < ((greedyL ys).length : Int) := by omega
              have h2c : (2 : Int) ≤ capp := by omega
              have hpl : OwnI w4 (.slice adp 2 capp) (stepL ys) := by rw [HS.out]; exact OwnI.take hp4 (by omega)
              have hlp := Lib.hid (show 2 = (stepL ys).length by rw [HS.out, List.length_take]; omega)
              clear hp4
              go_wp2_with fail
              refine (stPlay_any _ _ ys _ _ (hs3) (by omega) hpl (by omega) HB).mono ?_
              rintro e w5 ⟨r5, rfl, ho5, hf5, hb5⟩
              have hoo := ho3.same hb5
              have hsrc := OwnI.src2 (OwnI.keep hpl hb5)
              have hB5 := hB3.trans (hb5.mono hB3.size)
              have hs5 := hB5.size
              have hapart : ∀ g, r5.ownBlock = some g → (Value.slice ado out.length capo).ownBlock ≠ some g := apart_gt hf5 ho3.lt
              clear hpl ho3 hs3 hb5 hB3
              go_wp2_with (at_builtin; refine wpList_appI Try.intSl rfl _ _ rfl _ out rfl hoo w.heap.size hf adp _ capp (stepL ys) rfl hlp.out hsrc w hB5 hs5 (by omega) (by omega) ?_)
              intro v' w6 ho' hf' hb' hgr
              have ho6 := ho5.grown hgr (fun g hg e => hapart g hg e)
              clear hoo hB5 hgr ho5 hsrc
              go_wp2
              go_roundg (gk - 1)
              case measure => omega
              case rel => exact ⟨playL ys (stepL ys), out ++ stepL ys, ho6, ho', hf', HST.out, by have := HLA.out; omega, hb'⟩
            · have h2i : ((greedyL ys).length : Int) ≤ 2 := by omega
              have hSe : stepL ys = greedyL ys := by rw [HS.out, List.take_of_length_le (by omega)]
              have hpl : OwnI w4 (.slice adp (greedyL ys).length capp) (stepL ys) := by rw [hSe]; exact hp4
              have hlp := Lib.hid (show (greedyL ys).length = (stepL ys).length by rw [hSe])
              clear hp4 hSe
              go_wp2_with fail
              refine (stPlay_any _ _ ys _ _ (hs3) (by omega) hpl (by omega) HB).mono ?_
              rintro e w5 ⟨r5, rfl, ho5, hf5, hb5⟩
              have hoo := ho3.same hb5
              have hsrc := OwnI.src2 (OwnI.keep hpl hb5)
              have hB5 := hB3.trans (hb5.mono hB3.size)
              have hs5 := hB5.size
              have hapart : ∀ g, r5.ownBlock = some g → (Value.slice ado out.length capo).ownBlock ≠ some g := apart_gt hf5 ho3.lt
              clear hpl ho3 hs3 hb5 hB3
              go_wp2_with (at_builtin; refine wpList_appI Try.intSl rfl _ _ rfl _ out rfl hoo w.heap.size hf adp _ capp (stepL ys) rfl hlp.out hsrc w hB5 hs5 (by omega) (by omega) ?_)
              intro v' w6 ho' hf' hb' hgr
              have ho6 := ho5.grown hgr (fun g hg e => hapart g hg e)
              clear hoo hB5 hgr ho5 hsrc
              go_wp2
              go_roundg (gk - 1)
              case measure => omega
              case rel => exact ⟨playL ys (stepL ys), out ++ stepL ys, ho6, ho', hf', HST.out, by have := HLA.out; omega, hb'⟩
          · have hti : (0 : Int) < ((turnsL ys).length : Int) := by have := List.length_pos_iff.2 ht; omega
            have HS := Lib.hid (show stepL ys = (turnsL ys).take 1 from if_neg ht)
            have h1c : (1 : Int) ≤ capp := by have := List.length_pos_iff.2 ht; omega
            have hpl : OwnI w3 (.slice adp 1 capp) (stepL ys) := by rw [HS.out]; exact OwnI.take ho3p (by omega)
            have hlp := Lib.hid (show 1 = (stepL ys).length by rw [HS.out, List.length_take]; omega)
            clear ht ho3p
            go_wp2_with fail
            refine (stPlay_any _ _ ys _ _ (hs3) (by omega) hpl (by omega) HB).mono ?_
            rintro e w5 ⟨r5, rfl, ho5, hf5, hb5⟩
            have hoo := ho3.same hb5
            have hsrc := OwnI.src2 (OwnI.keep hpl hb5)
            have hB5 := hB3.trans (hb5.mono hB3.size)
            have hs5 := hB5.size
            have hapart : ∀ g, r5.ownBlock = some g → (Value.slice ado out.length capo).ownBlock ≠ some g := apart_gt hf5 ho3.lt
            clear hpl ho3 hs3 hb5 hB3
            go_wp2_with (at_builtin; refine wpList_appI Try.intSl rfl _ _ rfl _ out rfl hoo w.heap.size hf adp _ capp (stepL ys) rfl hlp.out hsrc w hB5 hs5 (by omega) (by omega) ?_)
            intro v' w6 ho' hf' hb' hgr
            have ho6 := ho5.grown hgr (fun g hg e => hapart g hg e)
            clear hoo hB5 hgr ho5 hsrc
            go_wp2
            go_roundg (gk - 1)
            case measure => omega
            case rel => exact ⟨playL ys (stepL ys), out ++ stepL ys, ho6, ho', hf', HST.out, by have := HLA.out; omega, hb'⟩
      · have h40i : (40 : Int) < out.length := by omega
        have HD := Lib.hid (hat.out.fail (by omega))
        clear hs
        go_wp2
        go_ret2
        exact ⟨_, by rw [HO.out, HD.out]; rfl, by rw [HM.out, HD.out]; exact OwnI.nil _, From.nil _ _ _, hbr⟩
  | false =>
    have HM := Lib.hid (show mGapPlan xs = [] from if_neg (by rw [hg]; exact Bool.false_ne_true))
    have HO := Lib.hid (show okGapPlan xs = false by unfold okGapPlan; rw [hg]; rfl)
    go_enter Try.func35, Try.ntmps35
    go_wp2_with fail
    refine (stGood_any _ _ _ hv hn).mono ?_
    rintro e w1 ⟨rfl, hb⟩
    go_wp2
    go_ret2
    exact ⟨_, by rw [HO.out]; rfl, by rw [HM.out]; exact OwnI.nil _, From.nil _ _ _, hb⟩

end Go.Proofs.Ytlhagdldmpnbfaa

