import Derived.Test.YtfcbaegkppkfkaaMa
import Derived.Test.YtfcbaegkppkfkaaMb
import Derived.Test.YtfcbaegkppkfkaaU15
import Derived.Test.YtfcbaegkppkfkaaWY
namespace Go.Pan
/-- the number at a place of rows -/
def atR (R : List (List Int)) (k j : Nat) : Int := (R.getD k []).getD j 0
def badR (R : List (List Int)) (k j : Nat) : Bool := (decide (0 < j) && decide (atR R k (j - 1) > atR R k j)) || (decide (0 < k) && decide (atR R (k - 1) j > atR R k j))
def okR (R : List (List Int)) : Bool := decide (∀ k, k < R.length → ∀ j, j < (R.getD k []).length → badR R k j = false)
def mAreRows (R : List (List Int)) : Bool := shpB (lensL R) && (goodB R.flatten && okR R)
theorem okR_no {R : List (List Int)} {k j : Nat} (hk : k < R.length) (hj : j < (R.getD k []).length) (h : badR R k j = true) : okR R = false := by
  unfold okR
  rw [decide_eq_false]
  intro hh
  rw [hh k hk j hj] at h
  cases h
theorem atR_get {R : List (List Int)} {k j : Nat} (hk : k < R.length) (hj : j < R[k].length) : R[k][j] = atR R k j := by
  unfold atR
  rw [show R.getD k [] = R[k] by simp [hk]]
  simp [hj]
theorem lens_le {R : List (List Int)} (h : shpB (lensL R) = true) {k : Nat} (hk : k < R.length) (h0 : 0 < k) : (R[k]).length ≤ (R[k - 1]'(by omega)).length := by
  have h4 := (of_decide_eq_true h).2.2.2.1 k (by simpa [lensL] using hk) h0
  have e : ∀ i (hi : i < R.length), (lensL R).getD i 0 = (R[i].length : Int) := fun i hi => by simp [lensL, hi]
  rw [e k hk, e (k - 1) (by omega)] at h4
  omega
theorem lens_few {R : List (List Int)} (h : shpB (lensL R) = true) : R.length ≤ 9 := by
  have := (of_decide_eq_true h).2.1
  simpa [lensL] using this

end Go.Pan

namespace Go.Proofs.Ytfcbaegkppkfkaa
open Go Go.RowKit Go.Pan

set_option maxHeartbeats 4000000 in
set_option maxRecDepth 100000 in
theorem AreRows_any (v : Value) (B N : Nat) (hs : List Value) (R : List (List Int)) (w : World) (hv : SS w B N v hs R) (hN : N ≤ w.heap.size) (ht : R.length + pre R R.length ≤ 1048576) :
    Calls Try.prog 39 #[v] w fun e w' => e = .returned (.bool (mAreRows R)) ∧ Below w.heap.size w w' := by
  have hn : R.length ≤ 1048576 := by omega
  have c1 := lengthsOf_any v B N hs R w hv hN hn
  have hfl : R.flatten.length ≤ 1048576 := by
    have e : pre R R.length = (R.map List.length).sum := by unfold pre; rw [List.take_length]
    rw [List.length_flatten, ← e]
    omega
  obtain ⟨ad, cap, rfl, _, _, _⟩ := hv.own.shape
  have HV := Lib.hid hv
  have HHL := Lib.hid hv.len
  cases hsh : shpB (lensL R) with
  | false =>
    have HNO := Lib.hid (show mAreRows R = false by unfold mAreRows; rw [hsh]; rfl)
    clear hv
    go_enter Try.func39, Try.ntmps39
    go_wp2_with fail
    refine (c1).mono ?_
    rintro e w1 ⟨r1, rfl, ho1, hf1, hb1⟩
    have c2 := isShape_any r1 (lensL R) w1 ho1 (by rw [lensL_length]; exact hn)
    rw [hsh] at c2
    clear c1 hsh
    go_wp2_with fail
    refine (c2).mono ?_
    rintro e w2 ⟨rfl, hb2⟩
    have hB2 := hb1.trans (hb2.mono hb1.size)
    clear ho1 hf1 hb1 hb2 c2
    go_wp2
    go_ret
    exact ⟨by rw [HNO.out]; rfl, hB2⟩
  | true =>
    have h9 := lens_few hsh
    have HLE := Lib.hid (fun k (hk : k < R.length) (h0 : 0 < k) => lens_le hsh hk h0)
    have HSH := Lib.hid hsh
    have c4 := fun r u (h : OwnI u r R.flatten) => IsStack_any r R.flatten u h hfl
    cases hgd : goodB R.flatten with
    | false =>
      have HNO := Lib.hid (show mAreRows R = false by unfold mAreRows; rw [hgd, Bool.false_and, Bool.and_false])
      rw [hgd] at c4
      clear hv
      go_enter Try.func39, Try.ntmps39
      go_wp2_with fail
      refine (c1).mono ?_
      rintro e w1 ⟨r1, rfl, ho1, hf1, hb1⟩
      have c2 := isShape_any r1 (lensL R) w1 ho1 (by rw [lensL_length]; exact hn)
      rw [hsh] at c2
      clear c1 hsh hgd
      go_wp2_with fail
      refine (c2).mono ?_
      rintro e w2 ⟨rfl, hb2⟩
      have hB2 := hb1.trans (hb2.mono hb1.size)
      clear ho1 hf1 hb1 hb2 c2
      have hv2 := HV.out.below hB2 hN
      have c3 := Concat_any _ hs R w2 hv2.own (Lib.hid hv2.len) (Lib.hid fun i u xs hu hx => (hv2.row i u xs hu hx).1) (by omega) (by omega)
      clear hv2
      go_wp2_with fail
      refine (c3).mono ?_
      rintro e w3 ⟨r3, rfl, ho3, hf3, hb3⟩
      clear c3
      go_wp2_with fail
      refine (c4 _ _ ho3).mono ?_
      rintro e w4 ⟨rfl, hb4⟩
      have hB4 := (hB2.trans (hb3.mono hB2.size)).trans (hb4.mono (by have := hB2.size; have := hb3.size; omega))
      clear ho3 hf3 hb3 hb4 hB2 c4
      go_wp2
      go_ret
      exact ⟨by rw [HNO.out]; rfl, hB4⟩
    | true =>
      have HMM := Lib.hid (show mAreRows R = okR R by unfold mAreRows; rw [hsh, hgd, Bool.true_and, Bool.true_and])
      rw [hgd] at c4
      clear hv
      go_enter Try.func39, Try.ntmps39
      go_wp2_with fail
      refine (c1).mono ?_
      rintro e w1 ⟨r1, rfl, ho1, hf1, hb1⟩
      have c2 := isShape_any r1 (lensL R) w1 ho1 (by rw [lensL_length]; exact hn)
      rw [hsh] at c2
      clear c1 hsh hgd
      go_wp2_with fail
      refine (c2).mono ?_
      rintro e w2 ⟨rfl, hb2⟩
      have hB2 := hb1.trans (hb2.mono hb1.size)
      clear ho1 hf1 hb1 hb2 c2
      have hv2 := HV.out.below hB2 hN
      have c3 := Concat_any _ hs R w2 hv2.own (Lib.hid hv2.len) (Lib.hid fun i u xs hu hx => (hv2.row i u xs hu hx).1) (by omega) (by omega)
      clear hv2
      go_wp2_with fail
      refine (c3).mono ?_
      rintro e w3 ⟨r3, rfl, ho3, hf3, hb3⟩
      clear c3
      go_wp2_with fail
      refine (c4 _ _ ho3).mono ?_
      rintro e w4 ⟨rfl, hb4⟩
      have hB4 := (hB2.trans (hb3.mono hB2.size)).trans (hb4.mono (by have := hB2.size; have := hb3.size; omega))
      clear ho3 hf3 hb3 hb4 hB2 c4
      obtain ⟨n, hnn⟩ : ∃ n, hs.length = n := ⟨_, rfl⟩
      have HRN := Lib.hid (show R.length = n by rw [← HHL.out]; exact hnn)
      rw [hnn]
      rw [hnn] at HV
      have hn9 : n ≤ 9 := by rw [← HRN.out]; exact h9
      clear hnn h9
      go_wp2
      go_loopw [3, 4, 5, 6, 19] (fun _ _ _ _ iv' wr => ∃ k : Nat, k ≤ n ∧ iv' = .int .i64 k ∧ Hid (∀ k', k' < k → ∀ j, j < (R.getD k' []).length → badR R k' j = false) ∧ Below w.heap.size w wr) (fun _ _ _ _ iv' _ => n - (intOf iv').toNat)
      case atStart => exact ⟨0, Nat.zero_le _, rfl, Lib.hid (fun k' h => by omega), hB4⟩
      case round =>
        obtain ⟨k, hk, rfl, hok, hbr⟩ := hrel
        obtain ⟨wk, rfl⟩ : ∃ z, z = wr := ⟨_, rfl⟩
        clear hB4
        by_cases hlt : k < n
        · have hkR : k < R.length := by rw [HRN.out]; exact hlt
          have hlt' : (k : Int) < (n : Int) := by omega
          obtain ⟨g, off, rfl, u, hu, hOu, _, _, hcu⟩ := (HV.out.below hbr hN).at k hkR
          obtain ⟨a2, c2, rfl, hlc, _, _⟩ := hOu.shape
          have hgd : R.getD k [] = R[k] := by simp [hkR]
          have hl1 := row_le_all R k hkR
          obtain ⟨l, hl⟩ : ∃ l, R[k].length = l := ⟨_, rfl⟩
          rw [hl] at hl1
          have HLL := Lib.hid hl
          have HOU := Lib.hid hOu
          have HGD := Lib.hid hgd
          rw [hl] at hcu
          clear hu hOu hgd hl hlc
          go_wp2
          go_loopw [5, 6, 26] (fun _ _ iv' wi => ∃ j : Nat, j ≤ l ∧ iv' = .int .i64 j ∧ Hid (∀ j', j' < j → badR R k j' = false) ∧ wi = wk) (fun _ _ iv' _ => l - (intOf iv').toNat)
          case atStart => exact ⟨0, Nat.zero_le _, rfl, Lib.hid (fun j' h => by omega), rfl⟩
          case round =>
            obtain ⟨j, hj, rfl, hok2, rfl⟩ := hrel
            by_cases hjl : j < l
            · have hjl' : (j : Int) < (l : Int) := by omega
              have hjR : j < R[k].length := by rw [HLL.out]; exact hjl
              have hjd : j < (R.getD k []).length := by rw [HGD.out]; exact hjR
              have hOu := HOU.out
              obtain ⟨ar, cr, er, hcr, _, _⟩ := hOu.shape
              simp only [Value.slice.injEq] at er
              obtain ⟨rfl, _, rfl⟩ := er
              obtain ⟨g2, o2, rfl, _, hc2, _⟩ := Own.at hOu (by omega)
              have hx := hc2 j (by omega)
              rw [List.getElem?_map, List.getElem?_eq_getElem hjR, atR_get hkR hjR, Option.map_some] at hx
              obtain ⟨x, hxe⟩ : ∃ x, atR R k j = x := ⟨_, rfl⟩
              have HXE := Lib.hid hxe
              rw [hxe] at hx
              by_cases hj0 : 0 < j
              · have hj0' : (0 : Int) < (j : Int) := by omega
                obtain ⟨j1, hj1⟩ : ∃ j1, j = j1 + 1 := ⟨j - 1, by omega⟩
                have hs1 : IntKind.i64.wrap ((j : Int) - 1) = (j1 : Int) := by rw [hj1]; push_cast; rw [Int.add_sub_cancel]; exact IntWalk.i64_in _ (by omega)
                have hj1R : j1 < R[k].length := by omega
                have hj1l : (j1 : Int) < (l : Int) := by omega
                have hy := hc2 j1 (by omega)
                rw [List.getElem?_map, List.getElem?_eq_getElem hj1R, atR_get hkR hj1R, Option.map_some] at hy
                obtain ⟨y, hye⟩ : ∃ y, atR R k j1 = y := ⟨_, rfl⟩
                have HYE := Lib.hid (show atR R k (j - 1) = y by rw [hj1, Nat.add_sub_cancel]; exact hye)
                rw [hye] at hy
                clear hye hxe hc2 hOu hj1
                by_cases hyx : x < y
                · have HNO := Lib.hid (show mAreRows R = false by
                    rw [HMM.out]
                    refine okR_no hkR hjd ?_
                    unfold badR
                    rw [HYE.out, HXE.out, decide_eq_true hj0, decide_eq_true (show y > x from hyx), Bool.and_self, Bool.true_or])
                  go_wp2
                  go_ret
                  exact ⟨by rw [HNO.out]; rfl, hbr⟩
                · have hyx' : y ≤ x := by omega
                  by_cases hk0 : 0 < k
                  · have hk0' : (0 : Int) < (k : Int) := by omega
                    obtain ⟨k1, hk1⟩ : ∃ k1, k = k1 + 1 := ⟨k - 1, by omega⟩
                    have hs2 : IntKind.i64.wrap ((k : Int) - 1) = (k1 : Int) := by rw [hk1]; push_cast; rw [Int.add_sub_cancel]; exact IntWalk.i64_in _ (by omega)
                    have hk1R : k1 < R.length := by omega
                    have hk1n : (k1 : Int) < (n : Int) := by omega
                    obtain ⟨gb, ob, eb, u3, hu3, hOu3, _, _, hcu3⟩ := (HV.out.below hbr hN).at k1 hk1R
                    simp only [Option.some.injEq, Addr.mk.injEq, and_true] at eb
                    obtain ⟨rfl, rfl⟩ := eb
                    have hlen3 : R[k].length ≤ R[k1].length := by
                      have h := HLE.out k hkR hk0
                      have e : R[k - 1]'(by omega) = R[k1] := by congr 1; omega
                      rw [e] at h
                      exact h
                    have hj3 : j < R[k1].length := by omega
                    obtain ⟨a3, c3, rfl, _, _, _⟩ := hOu3.shape
                    obtain ⟨g3, o3, rfl, _, hc3, _⟩ := Own.at hOu3 (by omega)
                    have hz := hc3 j (by omega)
                    rw [List.getElem?_map, List.getElem?_eq_getElem hj3, atR_get hk1R hj3, Option.map_some] at hz
                    have hj3' : (j : Int) < (R[k1].length : Int) := by omega
                    obtain ⟨l3, hl3⟩ : ∃ l3, R[k1].length = l3 := ⟨_, rfl⟩
                    rw [hl3] at hcu3 hj3'
                    obtain ⟨z, hze⟩ : ∃ z, atR R k1 j = z := ⟨_, rfl⟩
                    have HZE := Lib.hid (show atR R (k - 1) j = z by rw [hk1, Nat.add_sub_cancel]; exact hze)
                    rw [hze] at hz
                    clear hk1
                    by_cases hzx : x < z
                    · have HNO := Lib.hid (show mAreRows R = false by
                        rw [HMM.out]
                        refine okR_no hkR hjd ?_
                        unfold badR
                        rw [HZE.out, HXE.out, decide_eq_true hk0, decide_eq_true (show z > x from hzx), Bool.and_self, Bool.or_true])
                      clear hu3 hOu3 hc3 hl3 hze
                      go_wp2
                      go_ret
                      exact ⟨by rw [HNO.out]; rfl, hbr⟩
                    · have hzx' : z ≤ x := by omega
                      have HGO := Lib.hid (show badR R k j = false by
                        unfold badR
                        rw [HZE.out, HXE.out, decide_eq_false (show ¬ z > x from hzx), Bool.and_false, Bool.or_false]
                        rw [HYE.out, decide_eq_false (show ¬ y > x from hyx), Bool.and_false])
                      have HOK := Lib.hid (show ∀ j', j' < j + 1 → badR R k j' = false from fun j' h => by
                        by_cases e : j' = j
                        · rw [e]; exact HGO.out
                        · exact hok2.out j' (by omega))
                      clear hu3 hOu3 hc3 hl3 hze hzx
                      go_wp2
                      go_roundw
                      case rel => exact ⟨j + 1, by omega, by go_num, HOK, by first | rfl | trivial⟩
                      case measure => simp [intOf] <;> omega
                  · have hk0' : (k : Int) ≤ 0 := by omega
                    have HGO := Lib.hid (show badR R k j = false by
                      unfold badR
                      rw [HXE.out, decide_eq_false hk0, Bool.false_and, Bool.or_false]
                      rw [HYE.out, decide_eq_false (show ¬ y > x from hyx), Bool.and_false])
                    have HOK := Lib.hid (show ∀ j', j' < j + 1 → badR R k j' = false from fun j' h => by
                      by_cases e : j' = j
                      · rw [e]; exact HGO.out
                      · exact hok2.out j' (by omega))
                    clear hk0
                    go_wp2
                    go_roundw
                    case rel => exact ⟨j + 1, by omega, by go_num, HOK, by first | rfl | trivial⟩
                    case measure => simp [intOf] <;> omega
              · have hj0' : (j : Int) ≤ 0 := by omega
                clear hxe hc2 hOu
                by_cases hk0 : 0 < k
                · have hk0' : (0 : Int) < (k : Int) := by omega
                  obtain ⟨k1, hk1⟩ : ∃ k1, k = k1 + 1 := ⟨k - 1, by omega⟩
                  have hs2 : IntKind.i64.wrap ((k : Int) - 1) = (k1 : Int) := by rw [hk1]; push_cast; rw [Int.add_sub_cancel]; exact IntWalk.i64_in _ (by omega)
                  have hk1R : k1 < R.length := by omega
                  have hk1n : (k1 : Int) < (n : Int) := by omega
                  obtain ⟨gb, ob, eb, u3, hu3, hOu3, _, _, hcu3⟩ := (HV.out.below hbr hN).at k1 hk1R
                  simp only [Option.some.injEq, Addr.mk.injEq, and_true] at eb
                  obtain ⟨rfl, rfl⟩ := eb
                  have hlen3 : R[k].length ≤ R[k1].length := by
                    have h := HLE.out k hkR hk0
                    have e : R[k - 1]'(by omega) = R[k1] := by congr 1; omega
                    rw [e] at h
                    exact h
                  have hj3 : j < R[k1].length := by omega
                  obtain ⟨a3, c3, rfl, _, _, _⟩ := hOu3.shape
                  obtain ⟨g3, o3, rfl, _, hc3, _⟩ := Own.at hOu3 (by omega)
                  have hz := hc3 j (by omega)
                  rw [List.getElem?_map, List.getElem?_eq_getElem hj3, atR_get hk1R hj3, Option.map_some] at hz
                  have hj3' : (j : Int) < (R[k1].length : Int) := by omega
                  obtain ⟨l3, hl3⟩ : ∃ l3, R[k1].length = l3 := ⟨_, rfl⟩
                  rw [hl3] at hcu3 hj3'
                  obtain ⟨z, hze⟩ : ∃ z, atR R k1 j = z := ⟨_, rfl⟩
                  have HZE := Lib.hid (show atR R (k - 1) j = z by rw [hk1, Nat.add_sub_cancel]; exact hze)
                  rw [hze] at hz
                  clear hk1
                  by_cases hzx : x < z
                  · have HNO := Lib.hid (show mAreRows R = false by
                      rw [HMM.out]
                      refine okR_no hkR hjd ?_
                      unfold badR
                      rw [HZE.out, HXE.out, decide_eq_true hk0, decide_eq_true (show z > x from hzx), Bool.and_self, Bool.or_true])
                    clear hu3 hOu3 hc3 hl3 hze
                    go_wp2
                    go_ret
                    exact ⟨by rw [HNO.out]; rfl, hbr⟩
                  · have hzx' : z ≤ x := by omega
                    have HGO := Lib.hid (show badR R k j = false by
                      unfold badR
                      rw [HZE.out, HXE.out, decide_eq_false (show ¬ z > x from hzx), Bool.and_false, Bool.or_false]
                      rw [decide_eq_false hj0, Bool.false_and])
                    have HOK := Lib.hid (show ∀ j', j' < j + 1 → badR R k j' = false from fun j' h => by
                      by_cases e : j' = j
                      · rw [e]; exact HGO.out
                      · exact hok2.out j' (by omega))
                    clear hu3 hOu3 hc3 hl3 hze hzx
                    go_wp2
                    go_roundw
                    case rel => exact ⟨j + 1, by omega, by go_num, HOK, by first | rfl | trivial⟩
                    case measure => simp [intOf] <;> omega
                · have hk0' : (k : Int) ≤ 0 := by omega
                  have HGO := Lib.hid (show badR R k j = false by
                    unfold badR
                    rw [HXE.out, decide_eq_false hk0, Bool.false_and, Bool.or_false]
                    rw [decide_eq_false hj0, Bool.false_and])
                  have HOK := Lib.hid (show ∀ j', j' < j + 1 → badR R k j' = false from fun j' h => by
                    by_cases e : j' = j
                    · rw [e]; exact HGO.out
                    · exact hok2.out j' (by omega))
                  clear hk0
                  go_wp2
                  go_roundw
                  case rel => exact ⟨j + 1, by omega, by go_num, HOK, by first | rfl | trivial⟩
                  case measure => simp [intOf] <;> omega
            · obtain rfl : j = l := by omega
              have HOK := Lib.hid (show ∀ k', k' < k + 1 → ∀ j', j' < (R.getD k' []).length → badR R k' j' = false from fun k' h j' hj' => by
                by_cases e : k' = k
                · rw [e] at hj' ⊢
                  rw [HGD.out, HLL.out] at hj'
                  exact hok2.out j' hj'
                · exact hok.out k' (by omega) j' hj')
              have hge2 : (j : Int) ≤ (j : Int) := Int.le_refl _
              clear hok2
              go_wp2
              go_roundw
              case rel => exact ⟨k + 1, by omega, by go_num, HOK, hbr⟩
              case measure => simp [intOf] <;> omega
        · obtain rfl : k = n := by omega
          have HYES := Lib.hid (show okR R = true by
            unfold okR
            rw [decide_eq_true]
            intro k' hk' j hj
            exact hok.out k' (by rw [← HRN.out]; exact hk') j hj)
          have hge : (k : Int) ≤ (k : Int) := Int.le_refl _
          clear hok
          go_wp2
          go_ret
          exact ⟨by rw [HMM.out, HYES.out]; rfl, hbr⟩

end Go.Proofs.Ytfcbaegkppkfkaa
