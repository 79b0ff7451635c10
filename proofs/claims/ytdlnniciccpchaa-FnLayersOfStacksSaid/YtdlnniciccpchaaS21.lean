import Derived.Test.YtdlnniciccpchaaG9
import Derived.Test.YtdlnniciccpchaaS4
import Derived.Test.YtdlnniciccpchaaS5
namespace Go.Proofs.Ytdlnniciccpchaa
open Go Go.RowKit Go.Pan

set_option maxHeartbeats 400000 in
theorem faGood_any (v : Value) (xs : List Int) (w : World) (hv : OwnI w v xs) (hn : xs.length ≤ 1048576) :
    Calls Try.prog 67 #[v] w fun e w' => e = .returned (.bool (farB xs)) ∧ Below w.heap.size w w' := by
  obtain ⟨ad, cap, rfl, hc, _, _⟩ := hv.shape
  cases hg : goodB xs with
  | true =>
    have HF := Lib.hid (show farB xs = decide ((xs.length : Int) ≤ 7) by unfold farB; rw [hg]; simp; omega)
    have c := stGood_any _ xs w hv hn
    rw [hg] at c
    clear hg
    go_enter Try.func67, Try.ntmps67
    go_wp2_with fail
    refine c.mono ?_
    rintro e w1 ⟨rfl, hb⟩
    clear c
    go_wp2
    go_ret
    exact ⟨by rw [HF.out]; rfl, hb⟩
  | false =>
    have HF := Lib.hid (show farB xs = false by unfold farB; rw [hg]; rfl)
    have c := stGood_any _ xs w hv hn
    rw [hg] at c
    clear hg
    go_enter Try.func67, Try.ntmps67
    go_wp2_with fail
    refine c.mono ?_
    rintro e w1 ⟨rfl, hb⟩
    clear c
    go_wp2
    go_ret
    exact ⟨by rw [HF.out]; rfl, hb⟩

theorem faNumber_any (n : Int) (w : World) :
    Calls Try.prog 53 #[.int .i64 n] w fun e w' => e = .returned (.bool (inB n 1 7)) ∧ w = w' := by
  go_enter Try.func53, Try.ntmps53
  go_wp2_with fail
  refine (l1In_any _ _ _ _).mono ?_
  rintro e w1 ⟨rfl, rfl⟩
  go_wp2
  go_ret
  exact ⟨rfl, rfl⟩

theorem _root_.Go.Pan.OwnI.atN {w : World} {sp : Option Addr} {m c : Nat} {ys : List Int} (h : OwnI w (.slice sp m c) ys) (hm : m = ys.length) (h0 : 0 < ys.length) :
    ∃ g off, sp = some ⟨g, off, none⟩ ∧ g < w.heap.size ∧ (∀ j, j < ys.length → w.cell? ⟨g, off + j, none⟩ = (ys.map iv)[j]?) ∧ (∀ j, w.frozen? ⟨g, j, none⟩ = false) := by
  subst hm
  obtain ⟨ad, cap, he, h1, _⟩ := h.shape
  simp only [Value.slice.injEq] at he
  obtain ⟨rfl, _, rfl⟩ := he
  obtain ⟨g, off, e, h2, h3, h4⟩ := Own.at h (by omega)
  exact ⟨g, off, e, h2, fun j hj => h3 j (by omega), h4⟩

set_option maxHeartbeats 800000 in
set_option maxRecDepth 100000 in
theorem faRank_any (v : Value) (xs : List Int) (w : World) (hv : OwnI w v xs) (h9 : xs.length ≤ 9) :
    Calls Try.prog 41 #[v] w fun e w' => e = .returned (.int .i64 (rankL xs : Nat)) ∧ w = w' := by
  obtain ⟨ad, cap, rfl, hc, _, _⟩ := hv.shape
  go_enter Try.func41, Try.ntmps41
  go_wp2
  go_loop [3, 4, 5, 6, 8, 11, 19, 20, 21] (fun r _ _ _ _ i _ _ _ => ∃ k : Nat, k ≤ xs.length ∧ i = .int .i64 k ∧ r = .int .i64 (rankTo xs k : Nat)) (fun _ _ _ _ _ i _ _ _ => xs.length - (intOf i).toNat)
  case atStart => exact ⟨0, Nat.zero_le _, rfl, rfl⟩
  case round =>
    obtain ⟨k, hk, rfl, rfl⟩ := hrel
    by_cases hlt : k < xs.length
    · obtain ⟨g, off, e0, hgl, hcell, hf⟩ := hv.at (by omega)
      have hck := hcell k (by omega)
      rw [List.getElem?_map, List.getElem?_eq_getElem hlt] at hck
      subst e0
      have hsub : (k : Int) + 1 ≤ xs.length := by omega
      have HC := Lib.hid hcell
      obtain ⟨x, hx⟩ : ∃ x, xs[k] = x := ⟨_, rfl⟩
      rw [hx] at hck
      have HX := Lib.hid (show xs.getD k 0 = x by rw [getD_eq hlt, hx])
      clear hx hcell
      go_wp2_with (refine wpList_from Try.intSl rfl _ _ rfl _ xs.length cap (k + 1) rfl (by go_num) (by omega) xs rfl hv ?_; intro sp m c hm how _ _)
      have hml := hm.out
      rw [List.length_drop] at hml
      have HML := Lib.hid hml
      have hmn : m ≤ xs.length := by omega
      clear hml
      go_loop [6, 8, 21] (fun l _ i => ∃ j : Nat, j ≤ m ∧ i = .int .i64 j ∧ l = .int .i64 (lessTo xs k j : Nat)) (fun _ _ i => m - (intOf i).toNat)
      case atStart => exact ⟨0, Nat.zero_le _, rfl, rfl⟩
      case round =>
        obtain ⟨j, hj, rfl, rfl⟩ := hrel
        have hlj := lessTo_le xs k j
        by_cases hjl : j < m
        · obtain ⟨g', off', e0, hgl', hcell', hf'⟩ := OwnI.atN how hm.out (by have := hm.out; omega)
          have hck' := hcell' j (by have := hm.out; omega)
          subst e0
          have hj' : j < (xs.drop (k + 1)).length := by have := hm.out; omega
          rw [List.getElem?_map, List.getElem?_eq_getElem hj'] at hck'
          have HS := Lib.hid (lessTo_succ xs k j hj')
          obtain ⟨y, hy⟩ : ∃ y, (xs.drop (k + 1))[j] = y := ⟨_, rfl⟩
          rw [hy] at hck'
          have HY := Lib.hid hy
          clear hy hcell'
          by_cases hyx : y < x
          · have HN := Lib.hid (show lessTo xs k (j + 1) = lessTo xs k j + 1 by rw [HS.out, HY.out, HX.out, if_pos hyx])
            go_wp2
            go_round
            case rel => exact ⟨j + 1, by omega, by go_num, by rw [HN.out]; go_num⟩
            case measure => simp [intOf] <;> omega
          · have HN := Lib.hid (show lessTo xs k (j + 1) = lessTo xs k j by rw [HS.out, HY.out, HX.out, if_neg hyx]; rfl)
            have hxy : x ≤ y := by omega
            go_wp2
            go_round
            case rel => exact ⟨j + 1, by omega, by go_num, by rw [HN.out]⟩
            case measure => simp [intOf] <;> omega
        · obtain rfl : j = m := by omega
          have hb1 := rankTo_le xs h9 k hk
          have hb2 := rankTo_le xs h9 (k + 1) (by omega)
          have HR := Lib.hid (show ((rankTo xs (k + 1) : Nat) : Int) = (rankTo xs k : Nat) * ((xs.length : Int) - (k : Int)) + (lessTo xs k j : Nat) by
            rw [rankTo_succ, ← hm.out]
            rw [show (xs.length : Int) - (k : Int) = ((xs.length - k : Nat) : Int) by omega]
            simp)
          have hp0 : (0 : Int) ≤ (rankTo xs k : Nat) * ((xs.length : Int) - (k : Int)) := Int.mul_nonneg (by omega) (by omega)
          have hp1 : (rankTo xs k : Nat) * ((xs.length : Int) - (k : Int)) ≤ (362880 : Int) := by have := HR.out; omega
          go_wp2
          go_round
          case rel => exact ⟨k + 1, by omega, by go_num, by rw [HR.out]⟩
          case measure => simp [intOf] <;> omega
    · obtain rfl : k = xs.length := by omega
      have HA := Lib.hid (rankTo_all xs)
      go_wp2
      go_ret
      exact ⟨by rw [← HA.out]; rfl, rfl⟩

end Go.Proofs.Ytdlnniciccpchaa

