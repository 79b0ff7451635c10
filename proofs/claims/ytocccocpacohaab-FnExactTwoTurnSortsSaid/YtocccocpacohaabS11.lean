import Derived.Test.YtocccocpacohaabS8
import Derived.Test.YtocccocpacohaabM8
namespace Go.Proofs.Ytocccocpacohaab
open Go Go.RowKit Go.Pan

theorem sortedB_ramp {xs : List Int} (h : Go.Pan.Good xs) : sortedB xs = isRamp xs := sortedB_eq h

set_option maxHeartbeats 1600000 in
theorem sTwoTurnSorts_any (v : Value) (xs : List Int) (w : World) (hv : OwnI w v xs) (hn : xs.length ≤ 1048576) :
    Calls Try.prog 53 #[v] w fun e w' => ∃ r, e = .returned (.tuple #[r, .bool (okTwoTurnSorts xs)]) ∧ OwnI w' r (mTwoTurnSorts xs) ∧ From w.heap.size r ∧ Below w.heap.size w w' := by
  obtain ⟨ad, cap, rfl, hc, _, _⟩ := hv.shape
  cases hg : goodB xs with
  | true =>
    have HG := Lib.hid (goodB_iff.1 hg)
    have HM := Lib.hid (show mTwoTurnSorts xs = (twoL xs).getD [] from if_pos hg)
    have HO := Lib.hid (show okTwoTurnSorts xs = (twoL xs).isSome by unfold okTwoTurnSorts; rw [hg]; rfl)
    have hl9 := HG.out.le9
    have hl1 := HG.out.1
    have cs := stSorted_any (.slice ad xs.length cap) xs
    rw [sortedB_ramp HG.out] at cs
    cases hr : isRamp xs with
    | true =>
      have HT := Lib.hid (twoL_nil hr)
      rw [hr] at cs
      clear hr
      go_enter Try.func53, Try.ntmps53
      go_wp2_with fail
      refine (stGood_any _ _ _ hv hn).mono ?_
      rintro e w1 ⟨rfl, hb⟩
      go_wp2_with fail
      refine (cs _ (hv.same hb) hn).mono ?_
      rintro e w2 ⟨rfl, hb2⟩
      go_wp2
      go_ret2
      exact ⟨_, by rw [HO.out, HT.out]; rfl, by rw [HM.out, HT.out]; exact OwnI.nil _, From.nil _ _ _, hb.trans (hb2.mono hb.size)⟩
    | false =>
      have HR := Lib.hid hr
      rw [hr] at cs
      clear hr
      go_enter Try.func53, Try.ntmps53
      go_wp2_with fail
      refine (stGood_any _ _ _ hv hn).mono ?_
      rintro e w1 ⟨rfl, hb⟩
      go_wp2_with fail
      refine (cs _ (hv.same hb) hn).mono ?_
      rintro e w2 ⟨rfl, hb2⟩
      have hB2 := hb.trans (hb2.mono hb.size)
      clear hb hb2 cs
      go_wp2
      go_loopw [4] (fun i wr => ∃ k : Nat, k + 1 ≤ xs.length ∧ i = .int .i64 ((k : Int) + 2) ∧ Hid (oneTo xs k = none) ∧ Below w.heap.size w wr) (fun i _ => xs.length + 2 - (intOf i).toNat)
      case atStart => exact ⟨0, hl1, by go_num, rfl, hB2⟩
      case round =>
        obtain ⟨k, hk, rfl, h0, hbr⟩ := hrel
        clear hB2
        by_cases hlt : k + 2 ≤ xs.length
        · have hli : (k : Int) + 2 ≤ xs.length := by omega
          have hvr := hv.below hbr (Nat.le_refl _)
          have hgt := turnL_good HG.out (k + 2)
          have hlt9 : (turnL xs (k + 2)).length ≤ 1048576 := by rw [turnL_length]; exact hn
          have ct := stTurn_any _ xs (k + 2) wr hvr hn hlt
          rw [Int.natCast_add, show ((2 : Nat) : Int) = 2 from rfl] at ct
          have cs := fun v => stSorted_any v (turnL xs (k + 2))
          rw [sortedB_ramp hgt] at cs
          clear hgt
          cases h1 : isRamp (turnL xs (k + 2)) with
          | true =>
            have HT := Lib.hid (twoL_one HR.out (by omega) h0.out h1)
            rw [h1] at cs
            clear h1 hv hvr
            go_wp2_with fail
            refine ct.mono ?_
            rintro e w3 ⟨r3, rfl, ho3, hf3, hb3⟩
            go_wp2_with fail
            refine (cs _ _ ho3 hlt9).mono ?_
            rintro e w4 ⟨rfl, hb4⟩
            have hB3 := hbr.trans (hb3.mono hbr.size)
            have hB4 := hB3.trans (hb4.mono hB3.size)
            clear ct cs
            go_wp2
            go_ret2
            exact ⟨_, by rw [HO.out, HT.out]; rfl, by rw [HM.out, HT.out]; exact OwnI.lit _ _ [(k : Int) + 2] 1 rfl (by omega) _ rfl, From.at _ _ _ _ _ hB4.size, hB4.alloc hB4.size _⟩
          | false =>
            have HT := Lib.hid (show oneTo xs (k + 1) = none by rw [oneTo_step h0.out, h1]; rfl)
            rw [h1] at cs
            clear h1 hv hvr
            go_wp2_with fail
            refine ct.mono ?_
            rintro e w3 ⟨r3, rfl, ho3, hf3, hb3⟩
            go_wp2_with fail
            refine (cs _ _ ho3 hlt9).mono ?_
            rintro e w4 ⟨rfl, hb4⟩
            have hB3 := hbr.trans (hb3.mono hbr.size)
            have hB4 := hB3.trans (hb4.mono hB3.size)
            clear ct cs hbr hB3 hb3 hb4
            go_wp2
            go_roundw
            case rel => exact ⟨k + 1, by omega, by go_num, HT.out, hB4⟩
            case measure => simp [intOf] <;> omega
        · have hli : (xs.length : Int) < (k : Int) + 2 := by omega
          have HONE := Lib.hid (show oneTo xs (xs.length - 1) = none by rw [show xs.length - 1 = k by omega]; exact h0.out)
          obtain ⟨wo, rfl⟩ : ∃ wo : World, wo = wr := ⟨_, rfl⟩
          go_wp2
          go_loopw [5, 6] (fun i _ wr => ∃ a : Nat, a + 1 ≤ xs.length ∧ i = .int .i64 ((a : Int) + 2) ∧ Hid (pairTo xs a = none) ∧ Below w.heap.size w wr) (fun i _ _ => xs.length + 2 - (intOf i).toNat)
          case atStart => exact ⟨0, hl1, by go_num, rfl, hbr⟩
          case round =>
            obtain ⟨a, ha, rfl, h2, hbr2⟩ := hrel
            clear hbr
            by_cases hlt2 : a + 2 ≤ xs.length
            · have hli2 : (a : Int) + 2 ≤ xs.length := by omega
              obtain ⟨wp, rfl⟩ : ∃ wp : World, wp = wr := ⟨_, rfl⟩
              go_wp2
              go_loopw [6] (fun i wr => ∃ b : Nat, b + 1 ≤ xs.length ∧ i = .int .i64 ((b : Int) + 2) ∧ Hid (oneTo (turnL xs (a + 2)) b = none) ∧ Below w.heap.size w wr) (fun i _ => xs.length + 2 - (intOf i).toNat)
              case atStart => exact ⟨0, hl1, by go_num, rfl, hbr2⟩
              case round =>
                obtain ⟨b, hb, rfl, h3, hbr3⟩ := hrel
                clear hbr2
                by_cases hlt3 : b + 2 ≤ xs.length
                · have hli3 : (b : Int) + 2 ≤ xs.length := by omega
                  have hvr := hv.below hbr3 (Nat.le_refl _)
                  have hgt := turnL_good HG.out (a + 2)
                  have hgtt := turnL_good hgt (b + 2)
                  have hlt9 : (turnL xs (a + 2)).length ≤ 1048576 := by rw [turnL_length]; exact hn
                  have hlt9' : (turnL (turnL xs (a + 2)) (b + 2)).length ≤ 1048576 := by rw [turnL_length]; exact hlt9
                  have ct := stTurn_any _ xs (a + 2) wr hvr hn hlt2
                  rw [Int.natCast_add, show ((2 : Nat) : Int) = 2 from rfl] at ct
                  have ct2 : ∀ v W, OwnI W v (turnL xs (a + 2)) → Calls Try.prog 76 #[v, .int .i64 ((b : Int) + 2)] W fun e w' => ∃ r, e = .returned r ∧ OwnI w' r (turnL (turnL xs (a + 2)) (b + 2)) ∧ From W.heap.size r ∧ Below W.heap.size W w' := fun v W h => by
                    have c := stTurn_any v (turnL xs (a + 2)) (b + 2) W h hlt9 (by rw [turnL_length]; exact hlt3)
                    rw [Int.natCast_add, show ((2 : Nat) : Int) = 2 from rfl] at c
                    exact c
                  have cs := fun v => stSorted_any v (turnL (turnL xs (a + 2)) (b + 2))
                  rw [sortedB_ramp hgtt] at cs
                  clear hgt hgtt
                  cases h1 : isRamp (turnL (turnL xs (a + 2)) (b + 2)) with
                  | true =>
                    have HT := Lib.hid (twoL_two HR.out HONE.out (by omega) (by omega) h2.out h3.out h1)
                    rw [h1] at cs
                    clear h1 hv hvr
                    go_wp2_with fail
                    refine ct.mono ?_
                    rintro e w3 ⟨r3, rfl, ho3, hf3, hb3⟩
                    go_wp2_with fail
                    refine (ct2 _ _ ho3).mono ?_
                    rintro e w4 ⟨r4, rfl, ho4, hf4, hb4⟩
                    go_wp2_with fail
                    refine (cs _ _ ho4 hlt9').mono ?_
                    rintro e w5 ⟨rfl, hb5⟩
                    have hB3 := hbr3.trans (hb3.mono hbr3.size)
                    have hB4 := hB3.trans (hb4.mono hB3.size)
                    have hB5 := hB4.trans (hb5.mono hB4.size)
                    clear ct cs ct2
                    go_wp2
                    go_ret2
                    exact ⟨_, by rw [HO.out, HT.out]; rfl, by rw [HM.out, HT.out]; exact OwnI.lit _ _ [(a : Int) + 2, (b : Int) + 2] 2 rfl (by omega) _ rfl, From.at _ _ _ _ _ hB5.size, hB5.alloc hB5.size _⟩
                  | false =>
                    have HT := Lib.hid (show oneTo (turnL xs (a + 2)) (b + 1) = none by rw [oneTo_step h3.out, h1]; rfl)
                    rw [h1] at cs
                    clear h1 hv hvr
                    go_wp2_with fail
                    refine ct.mono ?_
                    rintro e w3 ⟨r3, rfl, ho3, hf3, hb3⟩
                    go_wp2_with fail
                    refine (ct2 _ _ ho3).mono ?_
                    rintro e w4 ⟨r4, rfl, ho4, hf4, hb4⟩
                    go_wp2_with fail
                    refine (cs _ _ ho4 hlt9').mono ?_
                    rintro e w5 ⟨rfl, hb5⟩
                    have hB3 := hbr3.trans (hb3.mono hbr3.size)
                    have hB4 := hB3.trans (hb4.mono hB3.size)
                    have hB5 := hB4.trans (hb5.mono hB4.size)
                    clear ct cs ct2 hbr3 hB3 hB4 hb3 hb4 hb5
                    go_wp2
                    go_roundw
                    case rel => exact ⟨b + 1, by omega, by go_num, HT.out, hB5⟩
                    case measure => simp [intOf] <;> omega
                · have hli3 : (xs.length : Int) < (b : Int) + 2 := by omega
                  have HT := Lib.hid (show pairTo xs (a + 1) = none by rw [pairTo_step h2.out, show xs.length - 1 = b by omega, h3.out]; rfl)
                  go_wp2
                  go_roundw
                  case rel => exact ⟨a + 1, by omega, by go_num, HT.out, hbr3⟩
                  case measure => simp [intOf] <;> omega
            · have hli2 : (xs.length : Int) < (a : Int) + 2 := by omega
              have HT := Lib.hid (twoL_none HR.out HONE.out (by rw [show xs.length - 1 = a by omega]; exact h2.out))
              clear hv
              go_wp2
              go_ret2
              exact ⟨_, by rw [HO.out, HT.out]; rfl, by rw [HM.out, HT.out]; exact OwnI.nil _, From.nil _ _ _, hbr2⟩
  | false =>
    have HM := Lib.hid (show mTwoTurnSorts xs = [] from if_neg (by rw [hg]; exact Bool.false_ne_true))
    have HO := Lib.hid (show okTwoTurnSorts xs = false by unfold okTwoTurnSorts; rw [hg]; rfl)
    go_enter Try.func53, Try.ntmps53
    go_wp2_with fail
    refine (stGood_any _ _ _ hv hn).mono ?_
    rintro e w1 ⟨rfl, hb⟩
    go_wp2
    go_ret2
    exact ⟨_, by rw [HO.out]; rfl, by rw [HM.out]; exact OwnI.nil _, From.nil _ _ _, hb⟩

end Go.Proofs.Ytocccocpacohaab
