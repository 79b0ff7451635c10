import Derived.Test.YtdlnniciccpchaaI2
namespace Go.Proofs.Ytdlnniciccpchaa
open Go Go.RowKit Go.Pan

set_option maxHeartbeats 400000 in
theorem IsPlan_any (n : Int) (v : Value) (xs : List Int) (w : World) (hv : OwnI w v xs) (hn : xs.length ≤ 1048576) :
    Calls Try.prog 72 #[.int .i64 n, v] w fun e w' => e = .returned (.bool (planB n xs)) ∧ Below w.heap.size w w' := by
  obtain ⟨ad, cap, rfl, hc, _, _⟩ := hv.shape
  have HP := Lib.hid (planB_eq n xs)
  by_cases h1 : 1 ≤ n ∧ n ≤ 9
  · have hq : inB n 1 9 = true := inB_true h1
    by_cases h2 : (xs.length : Int) ≤ 40
    · go_enter Try.func72, Try.ntmps72
      go_wp2_with (go_at_call 87; refine (isCount_any _ _).mono ?_; rintro e w' ⟨rfl, rfl⟩)
      go_loopw [6, 17] (fun _ i wr => ∃ k : Nat, k ≤ xs.length ∧ i = .int .i64 k ∧ AllTo xs k 1 n ∧ Below w.heap.size w wr) (fun _ i _ => xs.length - (intOf i).toNat)
      case atStart => exact ⟨0, Nat.zero_le _, rfl, by simp [AllTo], Below.refl _ _⟩
      case round =>
        obtain ⟨k, hk, rfl, hx, hbr⟩ := hrel
        have HX := Lib.hid hx
        clear hx
        by_cases hlt : k < xs.length
        · obtain ⟨g, off, rfl, hgl, hcell, hf⟩ := hv.at (by omega)
          have hck := hcell k (by omega)
          rw [List.getElem?_map, List.getElem?_eq_getElem hlt] at hck
          have hc1 := (hbr.cell (p := ⟨g, off + k, none⟩) hgl).trans hck
          clear hcell hf hck hv
          by_cases he1 : 1 ≤ xs[k]
          · by_cases he2 : xs[k] ≤ n
            · go_wp2
              go_roundw
              case rel => exact ⟨k + 1, by omega, by go_num, mem_take_bd hlt HX.out ⟨he1, he2⟩, hbr⟩
              case measure => simp [intOf] <;> omega
            · have hlt2 : n < xs[k] := by omega
              go_wp2
              go_ret
              refine ⟨?_, hbr⟩
              rw [HP.out, show allB xs 1 n = false from decide_eq_false fun h => absurd (h _ (List.getElem_mem hlt)).2 (by omega), Bool.and_false]
              rfl
          · have hlt2 : xs[k] < 1 := by omega
            go_wp2
            go_ret
            refine ⟨?_, hbr⟩
            rw [HP.out, show allB xs 1 n = false from decide_eq_false fun h => absurd (h _ (List.getElem_mem hlt)).1 (by omega), Bool.and_false]
            rfl
        · obtain rfl : k = xs.length := by omega
          clear hv
          go_wp2
          go_ret
          refine ⟨?_, hbr⟩
          have h := HX.out
          unfold AllTo at h
          rw [List.take_length] at h
          rw [HP.out, show allB xs 1 n = true from allB_iff.2 h, hq, decide_eq_true h2]
          rfl
    · have h3 : (40 : Int) < xs.length := by omega
      go_enter Try.func72, Try.ntmps72
      go_wp2_with (first | (go_at_call 87; refine (isCount_any _ _).mono ?_; rintro e w' ⟨rfl, rfl⟩))
      go_ret
      exact ⟨by rw [HP.out, hq, decide_eq_false (by omega)]; rfl, Below.refl _ _⟩
  · have hq : inB n 1 9 = false := inB_false h1
    go_enter Try.func72, Try.ntmps72
    go_wp2_with (first | (go_at_call 87; refine (isCount_any _ _).mono ?_; rintro e w' ⟨rfl, rfl⟩))
    go_ret
    exact ⟨by rw [HP.out, hq]; rfl, Below.refl _ _⟩

theorem isPlanFor_any (v u : Value) (xs ys : List Int) (w : World) (hv : OwnI w v xs) (hn : xs.length ≤ 1048576) (hu : OwnI w u ys) (hm : ys.length ≤ 1048576) :
    Calls Try.prog 42 #[v, u] w fun e w' => e = .returned (.bool (okPlay xs ys)) ∧ Below w.heap.size w w' := by
  obtain ⟨ad, cap, rfl, hc, _, _⟩ := hv.shape
  cases hg : goodB xs with
  | true =>
    have HG := Lib.hid hg
    go_enter Try.func42, Try.ntmps42
    go_wp2_with (first | (go_at_call 71; refine (IsStack_any _ _ _ hv hn).mono ?_; rintro e w1 ⟨rfl, hb⟩) | (go_at_call 72; refine (IsPlan_any _ _ ys _ (hu.same hb) hm).mono ?_; rintro e w' ⟨rfl, hb2⟩))
    go_ret
    exact ⟨by unfold okPlay; rw [HG.out]; rfl, hb.trans (hb2.mono hb.size)⟩
  | false =>
    have HG := Lib.hid hg
    go_enter Try.func42, Try.ntmps42
    go_wp2_with (first | (go_at_call 71; refine (IsStack_any _ _ _ hv hn).mono ?_; rintro e w1 ⟨rfl, hb⟩))
    go_ret
    exact ⟨by unfold okPlay; rw [HG.out]; rfl, hb⟩

end Go.Proofs.Ytdlnniciccpchaa

