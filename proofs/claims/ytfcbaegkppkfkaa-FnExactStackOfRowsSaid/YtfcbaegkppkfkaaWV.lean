import Derived.Test.YtfcbaegkppkfkaaWU
import Derived.Test.YtfcbaegkppkfkaaS4
import Derived.Test.YtfcbaegkppkfkaaI2
import Derived.Deep.LoopGhost
namespace Go.Pan
open Go Go.RowKit
theorem shpB_iff {q : List Int} : shpB q = true ↔ (1 ≤ q.length ∧ q.length ≤ 9 ∧ (∀ x ∈ q, 1 ≤ x ∧ x ≤ 9) ∧ (∀ i, i < q.length → 0 < i → q.getD i 0 ≤ q.getD (i - 1) 0) ∧ q.sum ≤ 9) := by unfold shpB; rw [decide_eq_true_iff]
theorem shpB_no {q : List Int} (h : ¬ (1 ≤ q.length ∧ q.length ≤ 9 ∧ (∀ x ∈ q, 1 ≤ x ∧ x ≤ 9) ∧ (∀ i, i < q.length → 0 < i → q.getD i 0 ≤ q.getD (i - 1) 0) ∧ q.sum ≤ 9)) : shpB q = false := by
  cases e : shpB q with
  | false => rfl
  | true => exact absurd (shpB_iff.1 e) h
theorem sum_take_succ {q : List Int} {k : Nat} (h : k < q.length) : (q.take (k + 1)).sum = (q.take k).sum + q[k] := by
  rw [List.take_succ_eq_append_getElem h, List.sum_append]
  simp
theorem sum_take_bd {q : List Int} {hi : Int} (h0 : 0 ≤ hi) (h : ∀ x ∈ q, 0 ≤ x ∧ x ≤ hi) : ∀ k, 0 ≤ (q.take k).sum ∧ (q.take k).sum ≤ hi * k
  | 0 => by simp
  | k + 1 => by
    have ih := sum_take_bd h0 h k
    have e3 : hi * ((k + 1 : Nat) : Int) = hi * (k : Int) + hi := by rw [Int.natCast_add, Int.mul_add]; simp
    rw [e3]
    by_cases hk : k < q.length
    · rw [sum_take_succ hk]
      have := h _ (List.getElem_mem hk)
      constructor <;> omega
    · have e : q.take (k + 1) = q.take k := by rw [List.take_of_length_le (by omega), List.take_of_length_le (by omega)]
      rw [e]
      omega
theorem getDI {q : List Int} {k : Nat} (h : k < q.length) : q.getD k 0 = q[k] := by simp [List.getD, h]

end Go.Pan

namespace Go.Proofs.Ytfcbaegkppkfkaa
open Go Go.RowKit Go.Pan

theorem cells9 {w : World} {ad : Option Addr} {n cap : Nat} {xs : List Int} (h : Own w 1 (.slice ad n cap) n (xs.map iv)) (hc : 0 < cap) :
    ∃ g off, ad = some ⟨g, off, none⟩ ∧ g < w.heap.size ∧ ∀ k, k < xs.length → w.cell? ⟨g, off + k, none⟩ = some (.int .i64 (xs.getD k 0)) := by
  obtain ⟨g, off, ty, pre, post, rfl, hB, hp, hl⟩ := Own.blk h hc
  refine ⟨g, off, rfl, hB.lt, fun k hk => ?_⟩
  rw [hB.cell, ← hp, List.append_assoc, List.getElem?_append_right (by omega), Nat.add_sub_cancel_left, List.getElem?_append_left (by simpa using hk), List.getElem?_map, List.getElem?_eq_getElem hk, getDI hk]
  rfl
theorem setI1 {w : World} {g off cap : Nat} {xs : List Int} (h : OwnI w (.slice (some ⟨g, off, none⟩) xs.length cap) xs) {k : Nat} (hk : k < xs.length) (y : Int) :
    w.frozen? ⟨g, off + k, none⟩ = false ∧ OwnI (w.setCell ⟨g, off + k, none⟩ (.int .i64 y)) (.slice (some ⟨g, off, none⟩) xs.length cap) (xs.set k y) := by
  obtain ⟨ad', cap', hv', hc, hm, hnil⟩ := h.shape
  simp only [Value.slice.injEq, true_and] at hv'
  obtain ⟨rfl, rfl⟩ := hv'
  obtain ⟨g', off', ty, pre, post, e, hB, hp, hl⟩ := Own.blk h (by omega)
  simp only [Option.some.injEq, Addr.mk.injEq, and_true] at e
  obtain ⟨rfl, rfl⟩ := e
  refine ⟨hB.frozen _, ?_⟩
  have h2 := hB.set (off + k) (.int .i64 y)
  have e2 : (pre ++ xs.map iv ++ post).set (off + k) (.int .i64 y) = pre ++ (xs.set k y).map iv ++ post := by
    rw [List.append_assoc, List.set_append_right _ _ (by omega), ← hp, Nat.add_sub_cancel_left, List.set_append_left _ _ (by simpa using hk), List.map_set, List.append_assoc]
  rw [e2] at h2
  unfold OwnI
  rw [List.length_set]
  exact Own.of_blk h2 hp (by simp) hc hm (by simpa using hl)


set_option maxHeartbeats 1600000 in
theorem inShapeGood_any (v : Value) (xs : List Int) (w : World) (hv : OwnI w v xs) (hn : xs.length ≤ 1048576) :
    Calls Try.prog 53 #[v] w fun e w' => e = .returned (.bool (shpB xs)) ∧ Below w.heap.size w w' := by
  have cA := l1All_any v xs 1 9 w hv hn
  have cI := l1In_any (xs.length : Int) 1 9 w
  obtain ⟨ad, cap, rfl, hc, _, _⟩ := hv.shape
  cases h1 : inB (xs.length : Int) 1 9 with
  | false =>
    have HS := Lib.hid (shpB_no (q := xs) fun h => by rw [inB_true (by omega)] at h1; cases h1)
    rw [h1] at cI
    clear h1 cA
    go_enter Try.func53, Try.ntmps53
    go_wp2_with fail
    refine cI.mono ?_
    rintro e w1 ⟨rfl, rfl⟩
    clear cI
    go_wp2
    go_ret
    exact ⟨by rw [HS.out]; rfl, Below.refl _ _⟩
  | true =>
    have hl := inB_iff.1 h1
    cases h2 : allB xs 1 9 with
    | false =>
      have HS := Lib.hid (shpB_no (q := xs) fun h => by rw [allB_iff.2 h.2.2.1] at h2; cases h2)
      rw [h1] at cI
      rw [h2] at cA
      clear h1 h2
      go_enter Try.func53, Try.ntmps53
      go_wp2_with fail
      refine cI.mono ?_
      rintro e w1 ⟨rfl, rfl⟩
      clear cI
      go_wp2_with fail
      refine cA.mono ?_
      rintro e w1 ⟨rfl, hb1⟩
      clear cA
      go_wp2
      go_ret
      exact ⟨by rw [HS.out]; rfl, hb1⟩
    | true =>
      have HA := Lib.hid (allB_iff.1 h2)
      rw [h1] at cI
      rw [h2] at cA
      clear h1 h2
      go_enter Try.func53, Try.ntmps53
      go_wp2_with fail
      refine cI.mono ?_
      rintro e w1 ⟨rfl, rfl⟩
      clear cI
      go_wp2_with fail
      refine cA.mono ?_
      rintro e w1 ⟨rfl, hb1⟩
      clear cA
      go_wp2
      go_loopw [3, 17] (fun n i wr => ∃ k : Nat, k ≤ xs.length ∧ n = .int .i64 (xs.take k).sum ∧ i = .int .i64 k ∧ Hid (∀ j, j < k → 0 < j → xs.getD j 0 ≤ xs.getD (j - 1) 0) ∧ Below w.heap.size w wr) (fun _ i _ => xs.length - (intOf i).toNat)
      case atStart => exact ⟨0, Nat.zero_le _, rfl, rfl, Lib.hid (fun j h => by omega), hb1⟩
      case round =>
        obtain ⟨k, hk, rfl, rfl, hD, hbr⟩ := hrel
        clear hb1
        have hsum := sum_take_bd (q := xs) (hi := 9) (by omega) (fun x hx => by have := HA.out x hx; omega) k
        by_cases hlt : k < xs.length
        · have hv1 := hv.below hbr (Nat.le_refl _)
          obtain ⟨g, off, rfl, hgl, hcell⟩ := cells9 hv1 (by omega)
          have hck := hcell k hlt
          have hx9 := HA.out _ (List.getElem_mem hlt)
          rw [← getDI hlt] at hx9
          have HT := Lib.hid (show (xs.take (k + 1)).sum = (xs.take k).sum + xs.getD k 0 by rw [sum_take_succ hlt, getDI hlt])
          obtain ⟨S, hS⟩ : ∃ S, (xs.take k).sum = S := ⟨_, rfl⟩
          obtain ⟨x, hx⟩ : ∃ x, xs.getD k 0 = x := ⟨_, rfl⟩
          rw [hS] at hsum HT
          rw [hS]
          rw [hx] at hck hx9 HT
          have HX := Lib.hid hx
          have hS9 : S ≤ 81 := by omega
          cases k with
          | zero =>
            rw [Nat.add_zero] at hck
            clear hv hv1 hcell hS hx
            go_wp2
            go_roundw
            case rel => exact ⟨1, by omega, by rw [HT.out], by go_num, Lib.hid (fun j h h0 => by omega), hbr⟩
            case measure => simp [intOf] <;> omega
          | succ j =>
            have hcj := hcell j (by omega)
            obtain ⟨y, hy⟩ : ∃ y, xs.getD j 0 = y := ⟨_, rfl⟩
            rw [hy] at hcj
            have HY := Lib.hid hy
            have hj1 : ((j + 1 : Nat) : Int) - 1 = (j : Int) := by omega
            have hj0 : (0 : Int) < ((j + 1 : Nat) : Int) := by omega
            have hjl : (j : Int) < (xs.length : Int) := by omega
            have hjn : (0 : Int) ≤ (j : Int) := by omega
            clear hv hv1 hcell hS hx hy
            by_cases hyx : y < x
            · have HS := Lib.hid (shpB_no (q := xs) fun h => by
                have h3 := h.2.2.2.1 (j + 1) hlt (by omega)
                rw [Nat.add_sub_cancel, HX.out, HY.out] at h3
                omega)
              go_wp2
              go_ret
              exact ⟨by rw [HS.out]; rfl, hbr⟩
            · have HD := Lib.hid (show ∀ i, i < j + 1 + 1 → 0 < i → xs.getD i 0 ≤ xs.getD (i - 1) 0 from fun i h h0 => by
                by_cases e : i = j + 1
                · subst e; rw [Nat.add_sub_cancel, HX.out, HY.out]; omega
                · exact hD.out i (by omega) h0)
              go_wp2
              go_roundw
              case rel => exact ⟨j + 1 + 1, by omega, by rw [HT.out], by go_num, HD, hbr⟩
              case measure => simp [intOf] <;> omega
        · obtain rfl : k = xs.length := by omega
          rw [List.take_length] at hsum
          rw [List.take_length]
          have HS := Lib.hid (show shpB xs = decide (xs.sum ≤ 9) by
            by_cases h : xs.sum ≤ 9
            · rw [decide_eq_true h]; exact shpB_iff.2 ⟨by omega, by omega, HA.out, hD.out, h⟩
            · rw [decide_eq_false h]; exact shpB_no fun h2 => h h2.2.2.2.2)
          go_wp2
          go_ret
          exact ⟨by rw [HS.out]; rfl, hbr⟩

end Go.Proofs.Ytfcbaegkppkfkaa

