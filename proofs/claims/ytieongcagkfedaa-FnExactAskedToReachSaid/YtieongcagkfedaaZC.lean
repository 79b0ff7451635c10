import Derived.Test.YtieongcagkfedaaZA
import Derived.Test.YtieongcagkfedaaLO
import Derived.Test.YtieongcagkfedaaSl
import Derived.Deep.QuietTactic
import Derived.BigQuiet
import Derived.IntWalk
namespace Go.Pan

-- the books that are asked for to reach a shelf
/-- the place of the first book of the end that stands in the same order in xs, from the place k on backwards -/
def frL (xs ys : List Int) : Nat → Nat
  | 0 => 0
  | k + 1 => if placeL xs (ys.getD k 0) < placeL xs (ys.getD (k + 1) 0) then frL xs ys k else k + 1
theorem frL_le (xs ys : List Int) (k : Nat) : frL xs ys k ≤ k := by
  induction k with
  | zero => exact Nat.le_refl _
  | succ k ih => unfold frL; split <;> omega
def okReach (xs ys : List Int) : Bool := goodB xs && (goodB ys && decide ((xs.length : Int) = ys.length))
def reachL (xs ys : List Int) : List Int := (ys.take (frL xs ys (ys.length - 1))).reverse
def mAskedToReach (xs ys : List Int) : List Int := if okReach xs ys = true then reachL xs ys else []
theorem okReach_iff {xs ys : List Int} : okReach xs ys = true ↔ Good xs ∧ Good ys ∧ xs.length = ys.length := by
  simp only [okReach, Bool.and_eq_true, goodB_iff, decide_eq_true_eq]
  constructor
  · rintro ⟨h1, h2, h3⟩; exact ⟨h1, h2, by omega⟩
  · rintro ⟨h1, h2, h3⟩; exact ⟨h1, h2, by omega⟩
theorem len_mAskedToReach (xs ys : List Int) : (mAskedToReach xs ys).length ≤ 1048576 := by
  unfold mAskedToReach
  split
  · rename_i h
    obtain ⟨_, hg, _⟩ := okReach_iff.1 h
    have h9 := hg.2.1
    unfold reachL
    rw [List.length_reverse, List.length_take]
    omega
  · simp
end Go.Pan

namespace Go.Proofs.Ytieongcagkfedaa
open Go Go.RowKit Go.Pan

set_option maxHeartbeats 400000 in
theorem stPlaceQ_any (v : Value) (xs : List Int) (x : Int) (w : World) (hv : OwnI w v xs) (hn : xs.length ≤ 1048576) :
    Calls Try.prog 103 #[v, .int .i64 x] w fun e w' => e = .returned (.int .i64 (placeL xs x)) ∧ w' = w := by
  obtain ⟨ad, cap, rfl, hc, _, _⟩ := hv.shape
  go_enter Try.func103, Try.ntmps103
  go_wp2
  go_loopw [9] (fun i wr => ∃ k : Nat, k ≤ xs.length ∧ i = .int .i64 k ∧ x ∉ xs.take k ∧ wr = w) (fun i _ => xs.length - (intOf i).toNat)
  case atStart => exact ⟨0, Nat.zero_le _, rfl, by simp, rfl⟩
  case round =>
    obtain ⟨k, hk, rfl, hx, rfl⟩ := hrel
    have HX := Lib.hid hx
    clear hx
    by_cases hlt : k < xs.length
    · obtain ⟨g, off, rfl, hgl, hcell, hf⟩ := hv.at (by omega)
      have hck := hcell k (by omega)
      rw [List.getElem?_map, List.getElem?_eq_getElem hlt] at hck
      clear hcell hf hv
      by_cases he : xs[k] = x
      · have hq : ((xs[k] : Int) == x) = true := by simp [he]
        have HE := Lib.hid he
        clear he
        go_wp2
        go_ret
        exact ⟨by rw [placeL_at hlt HX.out HE.out]; rfl, by first | rfl | trivial⟩
      · have hq : ((xs[k] : Int) == x) = false := by simp [he]
        have HE := Lib.hid he
        clear he
        go_wp2
        go_roundw
        case rel => exact ⟨k + 1, by omega, by go_num, not_mem_take hlt HX.out HE.out, by first | rfl | trivial⟩
        case measure => simp [intOf] <;> omega
    · obtain rfl : k = xs.length := by omega
      clear hv
      go_wp2
      go_ret
      have h := HX.out
      rw [List.take_length] at h
      exact ⟨by rw [show placeL xs x = 0 from by simp [placeL, h]]; rfl, by first | rfl | trivial⟩

set_option maxHeartbeats 400000 in
theorem IndexQ_any (v : Value) (xs : List Int) (x : Int) (w : World) (hv : OwnI w v xs) (hn : xs.length ≤ 1048576) :
    Calls Try.prog 104 #[v, .int .i64 x] w fun e w' => e = .returned (.int .i64 (placeL xs x - 1)) ∧ w' = w := by
  obtain ⟨ad, cap, rfl, hc, _, _⟩ := hv.shape
  go_enter Try.func104, Try.ntmps104
  go_wp2
  go_loopw [5, 8] (fun _ i wr => ∃ k : Nat, k ≤ xs.length ∧ i = .int .i64 k ∧ x ∉ xs.take k ∧ wr = w) (fun _ i _ => xs.length - (intOf i).toNat)
  case atStart => exact ⟨0, Nat.zero_le _, rfl, by simp, rfl⟩
  case round =>
    obtain ⟨k, hk, rfl, hx, rfl⟩ := hrel
    have HX := Lib.hid hx
    clear hx
    by_cases hlt : k < xs.length
    · obtain ⟨g, off, rfl, hgl, hcell, hf⟩ := hv.at (by omega)
      have hck := hcell k (by omega)
      rw [List.getElem?_map, List.getElem?_eq_getElem hlt] at hck
      clear hcell hf hv
      by_cases he : xs[k] = x
      · have hq : (x == (xs[k] : Int)) = true := by simp [he]
        have HE := Lib.hid he
        clear he
        go_wp2
        go_ret
        exact ⟨by rw [placeL_at hlt HX.out HE.out, Int.add_sub_cancel]; rfl, by first | rfl | trivial⟩
      · have hq : (x == (xs[k] : Int)) = false := by simp; exact fun e => he e.symm
        have HE := Lib.hid he
        clear he
        go_wp2
        go_roundw
        case rel => exact ⟨k + 1, by omega, by go_num, not_mem_take hlt HX.out HE.out, by first | rfl | trivial⟩
        case measure => simp [intOf] <;> omega
    · obtain rfl : k = xs.length := by omega
      clear hv
      go_wp2
      go_ret
      have h := HX.out
      rw [List.take_length] at h
      exact ⟨by rw [show placeL xs x = 0 from by simp [placeL, h]]; rfl, by first | rfl | trivial⟩

theorem frL_yes {xs ys : List Int} {k : Nat} (h : placeL xs (ys.getD k 0) < placeL xs (ys.getD (k + 1) 0)) : frL xs ys (k + 1) = frL xs ys k := if_pos h
theorem frL_no {xs ys : List Int} {k : Nat} (h : ¬ placeL xs (ys.getD k 0) < placeL xs (ys.getD (k + 1) 0)) : frL xs ys (k + 1) = k + 1 := if_neg h

set_option maxHeartbeats 1600000 in
set_option maxRecDepth 100000 in
theorem sAskedToReach_any (v : Value) (xs : List Int) (u : Value) (ys : List Int) (w : World) (hv : OwnI w v xs) (hn : xs.length ≤ 1048576) (hu : OwnI w u ys) (hm : ys.length ≤ 1048576) :
    Calls Try.prog 49 #[v, u] w fun e w' => ∃ r, e = .returned (.tuple #[r, .bool (okReach xs ys)]) ∧ OwnI w' r (mAskedToReach xs ys) ∧ From w.heap.size r ∧ Below w.heap.size w w' := by
  obtain ⟨ad, cap, rfl, hc, _, _⟩ := hv.shape
  obtain ⟨bd, cbp, rfl, hc', _, _⟩ := hu.shape
  cases hg : goodB xs with
  | false =>
    have HO := Lib.hid (show okReach xs ys = false by unfold okReach; rw [hg]; rfl)
    have HM := Lib.hid (show mAskedToReach xs ys = [] from if_neg (by rw [HO.out]; exact Bool.false_ne_true))
    go_enter Try.func49, Try.ntmps49
    go_wp2_with fail
    refine (stGood_any _ xs _ hv hn).mono ?_
    rintro e w1 ⟨rfl, hb1⟩
    go_wp2
    go_ret2
    exact ⟨_, by rw [HO.out]; rfl, by rw [HM.out]; exact OwnI.nil _, From.nil _ _ _, hb1⟩
  | true =>
    cases hg2 : goodB ys with
    | false =>
      have HO := Lib.hid (show okReach xs ys = false by unfold okReach; rw [hg, hg2]; rfl)
      have HM := Lib.hid (show mAskedToReach xs ys = [] from if_neg (by rw [HO.out]; exact Bool.false_ne_true))
      go_enter Try.func49, Try.ntmps49
      go_wp2_with fail
      refine (stGood_any _ xs _ hv hn).mono ?_
      rintro e w1 ⟨rfl, hb1⟩
      go_wp2_with fail
      refine (stGood_any _ ys _ (hu.same hb1) hm).mono ?_
      rintro e w2 ⟨rfl, hb2⟩
      go_wp2
      go_ret2
      exact ⟨_, by rw [HO.out]; rfl, by rw [HM.out]; exact OwnI.nil _, From.nil _ _ _, hb1.trans (hb2.mono hb1.size)⟩
    | true =>
      by_cases hl : xs.length = ys.length
      · have HO := Lib.hid (show okReach xs ys = true from okReach_iff.2 ⟨goodB_iff.1 hg, goodB_iff.1 hg2, hl⟩)
        have HM := Lib.hid (show mAskedToReach xs ys = reachL xs ys from if_pos HO.out)
        have hG := goodB_iff.1 hg2
        have h1 := hG.1
        have h9 := hG.2.1
        have hl' : ((xs.length : Int) == (ys.length : Int)) = true := by rw [beq_iff_eq]; omega
        have HL := Lib.hid hl
        obtain ⟨m, hmm⟩ : ∃ m, ys.length = m + 1 := ⟨ys.length - 1, by omega⟩
        have HMM := Lib.hid hmm
        clear hG hl hmm
        go_enter Try.func49, Try.ntmps49
        go_wp2_with fail
        refine (stGood_any _ xs _ hv hn).mono ?_
        rintro e w1 ⟨rfl, hb1⟩
        go_wp2_with fail
        refine (stGood_any _ ys _ (hu.same hb1) hm).mono ?_
        rintro e w2 ⟨rfl, hb2⟩
        have hB2 := hb1.trans (hb2.mono hb1.size)
        clear hb1 hb2
        have hs2 := hB2.size
        have hu2 := hu.same hB2
        have hv2 := hv.same hB2
        have HU := Lib.hid hu2
        have HV := Lib.hid hv2
        have hm9 : m + 1 ≤ 9 := by have := HMM.out; omega
        clear hv hu hv2 hu2
        go_wp2
        go_loopw [6] (fun i wr => ∃ f : Nat, f ≤ m ∧ i = .int .i64 f ∧ Hid (frL xs ys f = frL xs ys m) ∧ Below w2.heap.size w2 wr) (fun i _ => (intOf i).toNat)
        case atStart => exact ⟨m, Nat.le_refl _, by have := HMM.out; go_num, Lib.hid rfl, Below.refl _ _⟩
        case round =>
          obtain ⟨f, hf, rfl, HF, hbr⟩ := hrel
          have hur := HU.out.below hbr (Nat.le_refl _)
          have hvr := HV.out.below hbr (Nat.le_refl _)
          cases f with
          | zero =>
            have HR := Lib.hid (show mAskedToReach xs ys = [] by rw [HM.out]; unfold reachL; rw [HMM.out, Nat.add_sub_cancel, ← HF.out]; simp [frL])
            have HR1 := Lib.hid (fun W => show (Instr.sliceAt 22 (.slice bd ys.length cbp) none (some (.int .i64 0)) none).run Try.prog W = .ok (.slice bd 0 cbp) W from run_toI ys.length cbp 0 bd (Nat.zero_le _) W)
            have HT := Lib.hid (fun n => (OwnI.take hur (Nat.zero_le _)).kept (w' := wr.drewN n) fun _ _ => rfl)
            have HBD := Lib.hid (fun n => hB2.trans ((hbr.drewN n).mono hs2))
            clear hur hvr
            go_wp2_with fail
            go_quiet (fail)
            go_wp2_with (refine wpList_slice_h rfl _ _ rfl _ _ _ rfl rfl HR1.out ?_)
            refine (stReverse_any _ [] _ (HT.out _) (by simp)).mono ?_
            rintro e w3 ⟨r3, rfl, ho3, hf3, hb3⟩
            have hb4 := (HBD.out _).trans (hb3.mono (HBD.out _).size)
            have hf4 : From w.heap.size r3 := hf3.mono (HBD.out _).size
            have HO3 := Lib.hid (show OwnI w3 r3 [] by simpa using ho3)
            clear ho3 hf3 hb3
            go_wp2
            go_ret2
            exact ⟨_, by rw [HO.out]; rfl, by rw [HR.out]; exact HO3.out, hf4, hb4⟩
          | succ k =>
            have hkl : k < ys.length := by have := HMM.out; omega
            have hkl2 : k + 1 < ys.length := by have := HMM.out; omega
            have HY := Lib.hid hur
            obtain ⟨g, off, rfl, hgl, hcell, _⟩ := hur.at (by omega)
            have hck := hcell k (by omega)
            have hck2 := hcell (k + 1) (by omega)
            rw [List.getElem?_map, List.getElem?_eq_getElem hkl] at hck
            rw [List.getElem?_map, List.getElem?_eq_getElem hkl2] at hck2
            obtain ⟨y0, hy0⟩ : ∃ y, ys[k] = y := ⟨_, rfl⟩
            obtain ⟨y1, hy1⟩ : ∃ y, ys[k + 1] = y := ⟨_, rfl⟩
            rw [hy0] at hck
            rw [hy1] at hck2
            have HD := Lib.hid (show frL xs ys (k + 1) = if placeL xs y0 < placeL xs y1 then frL xs ys k else k + 1 by rw [frL, getD_eq hkl, getD_eq hkl2, hy0, hy1])
            have cq := fun (n : Nat) (x : Int) => stPlaceQ_any _ xs x (wr.drewN n) (hvr.kept fun _ _ => rfl) hn
            obtain ⟨P0, hP0⟩ : ∃ P, placeL xs y0 = P := ⟨_, rfl⟩
            obtain ⟨P1, hP1⟩ : ∃ P, placeL xs y1 = P := ⟨_, rfl⟩
            have c0 := fun n => cq n y0
            have c1 := fun n => cq n y1
            rw [hP0, hP1] at HD
            simp only [hP0] at c0
            simp only [hP1] at c1
            have hkp : (0 : Int) < (k : Int) + 1 := by omega
            have hw1 : IntKind.i64.wrap ((k : Int) + 1 - 1) = (k : Int) := by rw [Int.add_sub_cancel]; exact IntWalk.i64_in _ (by omega)
            have hw2 : (0 : Int) ≤ (k : Int) := by omega
            have hw3 : (k : Int) < ys.length := by omega
            have hw4 : ((k : Int) + 1).toNat = k + 1 := by omega
            have hw5 : (k : Int) + 1 < ys.length := by omega
            have hw6 : (0 : Int) ≤ (k : Int) + 1 := by omega
            have HC0 := Lib.hid c0
            have HC1 := Lib.hid c1
            clear hcell hy0 hy1 hP0 hP1 cq hvr c0 c1
            by_cases hlt : P0 < P1
            · have H := Lib.hid (show frL xs ys k = frL xs ys m by rw [← HF.out, HD.out, if_pos hlt])
              clear HD HF
              go_wp2_with fail
              go_quiet ((go_at_call 103; first | with_reducible exact Calls.quiet_of_same (HC0.out _) | with_reducible exact Calls.quiet_of_same (HC1.out _)))
              go_wp2
              go_roundw
              case rel => exact ⟨k, by omega, by go_num, H, hbr.drewN _⟩
              case measure => simp [intOf] <;> omega
            · have hq : decide (P0 < P1) = false := decide_eq_false hlt
              have HR := Lib.hid (show mAskedToReach xs ys = (ys.take (k + 1)).reverse by rw [HM.out]; unfold reachL; rw [HMM.out, Nat.add_sub_cancel, ← HF.out, HD.out, if_neg hlt])
              have HR1 := Lib.hid (fun W => show (Instr.sliceAt 22 (.slice (some ⟨g, off, none⟩) ys.length cbp) none (some (.int .i64 ((k : Int) + 1))) none).run Try.prog W = .ok (.slice (some ⟨g, off, none⟩) (k + 1) cbp) W from run_toI ys.length cbp (k + 1) (some ⟨g, off, none⟩) (by omega) W)
              have HT := Lib.hid (fun n => (OwnI.take HY.out (show k + 1 ≤ ys.length by omega)).kept (w' := wr.drewN n) fun _ _ => rfl)
              have HBD := Lib.hid (fun n => hB2.trans ((hbr.drewN n).mono hs2))
              have hlen : (ys.take (k + 1)).length ≤ 1048576 := by rw [List.length_take]; omega
              obtain ⟨T, hT⟩ : ∃ T, ys.take (k + 1) = T := ⟨_, rfl⟩
              rw [hT] at HT HR hlen
              clear HD HF hlt hT
              go_wp2_with fail
              go_quiet ((go_at_call 103; first | with_reducible exact Calls.quiet_of_same (HC0.out _) | with_reducible exact Calls.quiet_of_same (HC1.out _)))
              go_wp2_with (refine wpList_slice_h rfl _ _ rfl _ _ _ rfl rfl HR1.out ?_)
              refine (stReverse_any _ T _ (HT.out _) hlen).mono ?_
              rintro e w3 ⟨r3, rfl, ho3, hf3, hb3⟩
              have hb4 := (HBD.out _).trans (hb3.mono (HBD.out _).size)
              have hf4 : From w.heap.size r3 := hf3.mono (HBD.out _).size
              have HO3 := Lib.hid ho3
              clear ho3 hf3 hb3
              go_wp2
              go_ret2
              exact ⟨_, by rw [HO.out]; rfl, by rw [HR.out]; exact HO3.out, hf4, hb4⟩
      · have HO := Lib.hid (show okReach xs ys = false by rw [Bool.eq_false_iff]; intro h; exact hl (okReach_iff.1 h).2.2)
        have HM := Lib.hid (show mAskedToReach xs ys = [] from if_neg (by rw [HO.out]; exact Bool.false_ne_true))
        have hl' : ((xs.length : Int) == (ys.length : Int)) = false := by rw [beq_eq_false_iff_ne]; omega
        clear hl
        go_enter Try.func49, Try.ntmps49
        go_wp2_with fail
        refine (stGood_any _ xs _ hv hn).mono ?_
        rintro e w1 ⟨rfl, hb1⟩
        go_wp2_with fail
        refine (stGood_any _ ys _ (hu.same hb1) hm).mono ?_
        rintro e w2 ⟨rfl, hb2⟩
        go_wp2
        go_ret2
        exact ⟨_, by rw [HO.out]; rfl, by rw [HM.out]; exact OwnI.nil _, From.nil _ _ _, hb1.trans (hb2.mono hb1.size)⟩

end Go.Proofs.Ytieongcagkfedaa
