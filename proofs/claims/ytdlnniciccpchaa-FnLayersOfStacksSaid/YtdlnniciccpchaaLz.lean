import Derived.Test.YtdlnniciccpchaaDw
import Derived.Test.YtdlnniciccpchaaHS
import Derived.Test.YtdlnniciccpchaaLy
namespace Go.Proofs.Ytdlnniciccpchaa
open Go Go.RowKit Go.Pan

set_option maxHeartbeats 800000 in
theorem fRows_any (v u : Value) (B N B' N' : Nat) (hs hs' : List Value) (xss : List (List Int)) (w : World) (hv : SS w B N v hs xss) (hN : N ≤ w.heap.size) (hu : SS w B' N' u hs' xss) (hN' : N' ≤ w.heap.size) (hn : xss.length ≤ 1048576) (hm : ∀ xs ∈ xss, xs.length ≤ 1048576) :
    Calls Try.prog 24 #[v, u] w fun e w' => e = .returned (.bool true) ∧ Below w.heap.size w w' := by
  obtain ⟨ad, cap, rfl, hc, _, _⟩ := hv.own.shape
  obtain ⟨ad', cap', rfl, hc', _, _⟩ := hu.own.shape
  have hl := hv.len
  have hl' := hu.len
  rw [hl] at hc hv ⊢
  rw [hl'] at hc' hu ⊢
  have HM := Lib.hid hm
  clear hm
  go_enter Try.func24, Try.ntmps24
  go_wp2
  go_loopw [13] (fun i wr => ∃ j : Nat, j ≤ xss.length ∧ i = .int .i64 j ∧ Below w.heap.size w wr) (fun i _ => xss.length - (intOf i).toNat)
  case atStart => exact ⟨0, Nat.zero_le _, rfl, Below.refl _ _⟩
  case round =>
    obtain ⟨j, hj, rfl, hbr⟩ := hrel
    by_cases hlt : j < xss.length
    · obtain ⟨g, off, rfl, x, hx, hox, _, _, hcell⟩ := (hv.below hbr hN).at j hlt
      obtain ⟨g', off', rfl, y, hy, hoy, _, _, hcell'⟩ := (hu.below hbr hN').at j hlt
      obtain ⟨ax, cx, rfl, _, _, _⟩ := hox.shape
      obtain ⟨ay, cy, rfl, _, _, _⟩ := hoy.shape
      have hxl := HM.out _ (List.getElem_mem hlt)
      have hbd := hbr.drew
      have hsz := hbr.size
      have hox' : OwnI wr.drew _ _ := hox.drew
      have hoy' : OwnI wr.drew _ _ := hoy.drew
      have c := fSame_any _ _ _ _ wr.drew (OwnI.ints hox') (OwnI.ints hoy') hxl hxl
      rw [decide_eq_true rfl] at c
      have C := Lib.hid c
      clear hx hy hv hu c hox hoy hox' hoy'
      have hlg := World.block_lt_of_cell? _ _ hcell
      have hlg' := World.block_lt_of_cell? _ _ hcell'
      have HLG := Lib.hid hlg
      have HLG' := Lib.hid hlg'
      clear hlg hlg'
      go_wp2
      go_region_held3 (fun w' => w'.cell? ⟨g, off + j, none⟩ = some (.slice ax xss[j].length cx) ∧ w'.cell? ⟨g', off' + j, none⟩ = some (.slice ay xss[j].length cy)) (first | go_keep | (exact ⟨(hb2.cell (p := ⟨g, off + j, none⟩) HLG.out).trans hcell, (hb2.cell (p := ⟨g', off' + j, none⟩) HLG'.out).trans hcell'⟩)) ((go_at_call 13; refine C.out.mono ?_; rintro e w2 ⟨rfl, hb2⟩))
      go_wp2
      have hB2 := hbd.trans (hb2.mono hsz)
      go_roundw
      case rel => exact ⟨j + 1, by omega, by go_num, hB2⟩
      case measure => simp [intOf]; omega
    · obtain rfl : j = xss.length := by omega
      clear hv hu
      go_wp2
      go_ret
      exact ⟨rfl, hbr⟩

theorem ltL_at {xs ys : List Int} {k : Nat} (h1 : k < xs.length) (h2 : k < ys.length) (he : xs.take k = ys.take k) (hne : xs[k] ≠ ys[k]) : ltL xs ys = decide (xs[k] < ys[k]) := by
  have e1 : xs = xs.take k ++ xs[k] :: xs.drop (k + 1) := by rw [← List.drop_eq_getElem_cons h1, List.take_append_drop]
  have e2 : ys = xs.take k ++ ys[k] :: ys.drop (k + 1) := by rw [he, ← List.drop_eq_getElem_cons h2, List.take_append_drop]
  obtain ⟨x, hx⟩ : ∃ x, xs[k] = x := ⟨_, rfl⟩
  obtain ⟨y, hy⟩ : ∃ y, ys[k] = y := ⟨_, rfl⟩
  rw [hx] at e1 hne ⊢
  rw [hy] at e2 hne ⊢
  rw [e1]
  rw [e2]
  have e3 : ltL (xs.take k ++ x :: xs.drop (k + 1)) (xs.take k ++ y :: ys.drop (k + 1)) = decide (x < y) := by
    rw [ltL_app, ltL_cons, decide_eq_false hne]
    simp
  rw [← e1] at e3 ⊢
  exact e3

set_option maxHeartbeats 400000 in
theorem fLessQ_any (v u : Value) (xs ys : List Int) (w : World) (hv : Ints w v xs) (hu : Ints w u ys) (hl : xs.length = ys.length) (hn : xs.length ≤ 1048576) :
    Calls Try.prog 27 #[v, u] w fun e w' => e = .returned (.bool (ltL xs ys)) ∧ ∃ n, w' = w.drewN n := by
  obtain ⟨ad, cap, rfl, hc, _, hr⟩ := hv
  obtain ⟨bd, cbp, rfl, hc', _, hs⟩ := hu
  rw [← hl]
  have HL := Lib.hid hl
  clear hl
  go_enter Try.func27, Try.ntmps27
  go_wp2
  go_loopw [8] (fun i wr => ∃ k : Nat, k ≤ xs.length ∧ i = .int .i64 k ∧ xs.take k = ys.take k ∧ ∃ m, wr = w.drewN m) (fun i _ => xs.length - (intOf i).toNat)
  case atStart => exact ⟨0, Nat.zero_le _, rfl, by simp, 0, rfl⟩
  case round =>
    obtain ⟨k, hk, rfl, he, m, rfl⟩ := hrel
    have HE := Lib.hid he
    clear he
    by_cases hlt : k < xs.length
    · have hlt2 : k < ys.length := by have := HL.out; omega
      have hlt3 : ¬ ((xs.length : Int) ≤ (k : Int)) := by omega
      obtain ⟨b, off, rfl, hbl, hcell⟩ := hr (by intro h; simp [h] at hlt)
      obtain ⟨b', off', rfl, hbl', hcell'⟩ := hs (by intro h; simp [h] at hlt2)
      have hc1 := hcell k hlt
      have hc2 := hcell' k hlt2
      clear hr hcell hs hcell'
      by_cases hx : xs[k] = ys[k]
      · have hq : ((xs[k] : Int) != ys[k]) = false := by simp [hx]
        have HX := Lib.hid hx
        clear hx
        go_wp2
        go_quiet (fail)
        go_wp2
        go_roundw
        case rel => exact ⟨k + 1, by omega, by go_num, eq_take_succ xs ys k HL.out hlt HE.out HX.out, _, by first | rfl | exact World.drewN_drewN ..⟩
        case measure => simp [intOf]; omega
      · have hq : ((xs[k] : Int) != ys[k]) = true := by simp [hx]
        have HX := Lib.hid hx
        clear hx
        go_wp2
        go_quiet (fail)
        go_wp2
        go_quiet (fail)
        go_wp2
        go_ret
        exact ⟨by rw [ltL_at hlt hlt2 HE.out HX.out]; rfl, _, by first | rfl | exact World.drewN_drewN .. | (rw [World.drewN_drewN]; exact World.drewN_drewN ..)⟩
    · obtain rfl : k = xs.length := by omega
      clear hr hs
      go_wp2
      go_ret
      have h := HE.out
      rw [List.take_length, HL.out, List.take_length] at h
      exact ⟨by rw [h, ltL_irrefl]; simp, _, rfl⟩

theorem sum_take_succI {xs : List Int} {k : Nat} (h : k < xs.length) : (xs.take (k + 1)).sum = (xs.take k).sum + xs[k] := by
  rw [List.take_succ_eq_append_getElem h, List.sum_append]
  simp
theorem sum_take_bdI {xs : List Int} (hb : ∀ x ∈ xs, 0 ≤ x ∧ x ≤ 1000000) : ∀ k : Nat, k ≤ xs.length → 0 ≤ (xs.take k).sum ∧ (xs.take k).sum ≤ k * 1000000
  | 0, _ => by simp
  | k + 1, h => by
    have ih := sum_take_bdI hb k (by omega)
    have h2 := hb _ (List.getElem_mem (show k < xs.length by omega))
    rw [sum_take_succI (by omega)]
    omega

set_option maxHeartbeats 400000 in
theorem fSum_any (v : Value) (xs : List Int) (w : World) (hv : Ints w v xs) (hn : xs.length ≤ 1048576) (hb : ∀ x ∈ xs, 0 ≤ x ∧ x ≤ 1000000) :
    Calls Try.prog 25 #[v] w fun e w' => e = .returned (.int .i64 xs.sum) ∧ Below w.heap.size w w' := by
  obtain ⟨ad, cap, rfl, hc, _, hr⟩ := hv
  have HB := Lib.hid hb
  clear hb
  go_enter Try.func25, Try.ntmps25
  go_wp2
  go_loopw [3, 8] (fun s i wr => ∃ k : Nat, k ≤ xs.length ∧ i = .int .i64 k ∧ s = .int .i64 (xs.take k).sum ∧ Below w.heap.size w wr) (fun _ i _ => xs.length - (intOf i).toNat)
  case atStart => exact ⟨0, Nat.zero_le _, rfl, by simp, Below.refl _ _⟩
  case round =>
    obtain ⟨k, hk, rfl, rfl, hbr⟩ := hrel
    by_cases hlt : k < xs.length
    · obtain ⟨b, off, rfl, hbl, hcell⟩ := hr (by intro h; simp [h] at hlt)
      have hc1 := (hbr.cell (p := ⟨b, off + k, none⟩) hbl).trans (hcell k hlt)
      clear hr hcell
      have h1 := sum_take_bdI HB.out k hk
      have h2 := sum_take_bdI HB.out (k + 1) hlt
      have h3 := sum_take_succI hlt
      obtain ⟨S, hS⟩ : ∃ S, (xs.take k).sum = S := ⟨_, rfl⟩
      obtain ⟨S2, hS2⟩ : ∃ S2, (xs.take (k + 1)).sum = S2 := ⟨_, rfl⟩
      obtain ⟨x, hx⟩ : ∃ x, xs[k] = x := ⟨_, rfl⟩
      rw [hS] at h1 h3 ⊢
      rw [hS2, hx] at h3
      rw [hS2] at h2
      have hg : xs.getD k 0 = xs[k] := by rw [List.getD_eq_getElem?_getD, List.getElem?_eq_getElem hlt]; rfl
      rw [hg, hx] at hc1
      clear hg
      have hw : IntKind.i64.wrap (S + x) = S2 := by rw [IntKind.wrap_i64]; omega
      have HS2 := Lib.hid hS2
      clear hS hS2 hx h1 h2 h3
      go_wp2
      go_roundw
      case rel => exact ⟨k + 1, by omega, by go_num, by rw [HS2.out], hbr⟩
      case measure => simp [intOf]; omega
    · obtain rfl : k = xs.length := by omega
      clear hr
      go_wp2
      go_ret
      exact ⟨by first | rfl | (rw [List.take_length]; rfl), hbr⟩

set_option maxHeartbeats 400000 in
theorem fFactorial_any (n : Nat) (w : World) (h1 : 1 ≤ n) (h9 : n ≤ 9) :
    Calls Try.prog 26 #[.int .i64 (n : Int)] w fun e w' => e = .returned (.int .i64 (fact n : Int)) ∧ w' = w := by
  go_enter Try.func26, Try.ntmps26
  go_wp2
  go_loopw [3, 4] (fun s i wr => ∃ j : Nat, 1 ≤ j ∧ j ≤ n ∧ i = .int .i64 ((j : Int) + 1) ∧ s = .int .i64 (fact j : Int) ∧ wr = w) (fun _ i _ => n + 1 - (intOf i).toNat)
  case atStart => refine ⟨1, by omega, h1, by go_num, ?_, ?_⟩ <;> first | rfl | trivial
  case round =>
    obtain ⟨j, hj1, hj, rfl, rfl, rfl⟩ := hrel
    by_cases hlt : j < n
    · have hle : ((j : Int) + 1) ≤ (n : Int) := by omega
      have e1 : fact (j + 1) = (j + 1) * fact j := rfl
      have e2 := fact_le (show j + 1 ≤ 9 by omega)
      have e3 := fact_pos j
      obtain ⟨F, hF⟩ : ∃ F, fact j = F := ⟨_, rfl⟩
      obtain ⟨F2, hF2⟩ : ∃ F2, fact (j + 1) = F2 := ⟨_, rfl⟩
      rw [hF, hF2] at e1
      rw [hF2] at e2
      rw [hF] at e3 ⊢
      have hw : IntKind.i64.wrap ((F : Int) * ((j : Int) + 1)) = (F2 : Int) := by
        have e4 : (F : Int) * ((j : Int) + 1) = (F2 : Int) := by rw [e1, Int.natCast_mul, Int.mul_comm]; rfl
        rw [e4, IntKind.wrap_i64]
        omega
      have HF2 := Lib.hid hF2
      clear hF hF2 e1 e2 e3
      go_wp2
      go_roundw
      case rel => exact ⟨j + 1, by omega, by omega, by go_num, by rw [HF2.out], by trivial⟩
      case measure => simp [intOf]; omega
    · have hle : ¬ ((j : Int) + 1) ≤ (n : Int) := by omega
      obtain rfl : j = n := by omega
      go_wp2
      go_ret
      exact ⟨rfl, rfl⟩

theorem DrawCountByTurns_any (a : Option Addr) (n c : Nat) (w : World) (hv : Byts w (.slice a n c) n w.heap.size) (hn : n ≤ maxLen) :
    Calls Try.prog 48 #[.slice a n c] w fun e w' => ∃ x, e = .returned (.int .i64 x) ∧ (-1 ≤ x ∧ x ≤ 8) ∧ Below w.heap.size w w' := by
  go_enter Try.func48, Try.ntmps48
  go_wp2_with fail
  have hcu := Cu.new a n c w hv hn
  have hB := (Below.refl w.heap.size w).alloc (Nat.le_refl _) (.cells #[.slice a n c, .int .i64 0, .int .u64 0] 78)
  clear hv hn
  obtain ⟨wc, hwc⟩ : ∃ wc, w.alloc (.cells #[.slice a n c, .int .i64 0, .int .u64 0] 78) = wc := ⟨_, rfl⟩
  have hsz : wc.heap.size = w.heap.size + 1 := by rw [← hwc]; simp
  rw [hwc] at hcu hB ⊢
  rw [← hsz]
  clear hsz
  have hl := hcu.lt
  have hcu2 := hcu.below ((Below.refl wc.heap.size wc).alloc (Nat.le_refl _) (.cells #[.int .i64 1, .int .i64 2, .int .i64 3, .int .i64 4, .int .i64 5, .int .i64 3, .int .i64 4, .int .i64 6, .int .i64 0, .int .i64 8, .int .i64 (-1)] 3)) hl
  have hlit : OwnI (wc.alloc (.cells #[.int .i64 1, .int .i64 2, .int .i64 3, .int .i64 4, .int .i64 5, .int .i64 3, .int .i64 4, .int .i64 6, .int .i64 0, .int .i64 8, .int .i64 (-1)] 3)) (.slice (some ⟨wc.heap.size, 0, none⟩) 11 11) [1, 2, 3, 4, 5, 3, 4, 6, 0, 8, -1] := OwnI.lit wc _ _ 11 rfl (by omega) _ (by simp)
  have hB2 := hB.alloc hB.size (.cells #[.int .i64 1, .int .i64 2, .int .i64 3, .int .i64 4, .int .i64 5, .int .i64 3, .int .i64 4, .int .i64 6, .int .i64 0, .int .i64 8, .int .i64 (-1)] 3)
  have cA := curAmong_any w.heap.size 0 _ _ _ hcu2 hlit (by simp [Value.ownBlock]; omega) (by simp) (by omega) (by simp)
  clear hcu hcu2 hlit hB hwc
  refine cA.mono ?_
  rintro e w1 ⟨z, hz, rfl, h1, hg1⟩
  have hB3 := hB2.grown hg1 hB2.size (by simp)
  have hz2 : -1 ≤ z ∧ z ≤ 8 := by simp at hz; omega
  clear cA hz h1 hg1 hB2
  go_wp2
  go_ret
  exact ⟨z, rfl, hz2, hB3⟩

theorem DrawWorstStacks_any (a : Option Addr) (n c : Nat) (w : World) (hv : Byts w (.slice a n c) n w.heap.size) (hn : n ≤ maxLen) :
    Calls Try.prog 17 #[.slice a n c] w fun e w' => ∃ x, e = .returned (.int .i64 x) ∧ (-1 ≤ x ∧ x ≤ 8) ∧ Below w.heap.size w w' := by
  go_enter Try.func17, Try.ntmps17
  go_wp2_with fail
  refine (DrawCountByTurns_any a n c w hv hn).mono ?_
  rintro e w1 ⟨x, rfl, h1, h2⟩
  go_wp2
  go_ret
  exact ⟨_, rfl, h1, h2⟩

set_option maxHeartbeats 1000000 in
theorem DrawCountClosedPlans_any (a : Option Addr) (n c : Nat) (w : World) (hv : Byts w (.slice a n c) n w.heap.size) (hn : n ≤ maxLen) :
    Calls Try.prog 28 #[.slice a n c] w fun e w' => ∃ x y, e = .returned (.tuple #[.int .i64 x, .int .i64 y]) ∧ (0 ≤ x ∧ x ≤ 8) ∧ (-1 ≤ y ∧ y ≤ 9) ∧ Below w.heap.size w w' := by
  go_enter Try.func28, Try.ntmps28
  go_wp2_with fail
  have hcu := Cu.new a n c w hv hn
  have hB := (Below.refl w.heap.size w).alloc (Nat.le_refl _) (.cells #[.slice a n c, .int .i64 0, .int .u64 0] 78)
  clear hv hn
  obtain ⟨wc, hwc⟩ : ∃ wc, w.alloc (.cells #[.slice a n c, .int .i64 0, .int .u64 0] 78) = wc := ⟨_, rfl⟩
  have hsz : wc.heap.size = w.heap.size + 1 := by rw [← hwc]; simp
  rw [hwc] at hcu hB ⊢
  rw [← hsz]
  clear hsz
  have hl := hcu.lt
  have hcu2 := hcu.below ((Below.refl wc.heap.size wc).alloc (Nat.le_refl _) (.cells #[.int .i64 1, .int .i64 2, .int .i64 3, .int .i64 4, .int .i64 5, .int .i64 3, .int .i64 4, .int .i64 0, .int .i64 8] 3)) hl
  have hlit : OwnI (wc.alloc (.cells #[.int .i64 1, .int .i64 2, .int .i64 3, .int .i64 4, .int .i64 5, .int .i64 3, .int .i64 4, .int .i64 0, .int .i64 8] 3)) (.slice (some ⟨wc.heap.size, 0, none⟩) 9 9) [1, 2, 3, 4, 5, 3, 4, 0, 8] := OwnI.lit wc _ _ 9 rfl (by omega) _ (by simp)
  have hB2 := hB.alloc hB.size (.cells #[.int .i64 1, .int .i64 2, .int .i64 3, .int .i64 4, .int .i64 5, .int .i64 3, .int .i64 4, .int .i64 0, .int .i64 8] 3)
  have cA := curAmong_any w.heap.size 0 _ _ _ hcu2 hlit (by simp [Value.ownBlock]; omega) (by simp) (by omega) (by simp)
  clear hcu hcu2 hlit hB hwc
  refine cA.mono ?_
  rintro e w1 ⟨z, hz, rfl, h1, hg1⟩
  have hB3 := hB2.grown hg1 hB2.size (by simp)
  have hz2 : 0 ≤ z ∧ z ≤ 8 := by simp at hz; omega
  clear cA hz hg1 hB2
  have hl1 := h1.lt
  have hcu2 := h1.below ((Below.refl w1.heap.size w1).alloc (Nat.le_refl _) (.cells #[.int .i64 0, .int .i64 1, .int .i64 2, .int .i64 3, .int .i64 4, .int .i64 5, .int .i64 6, .int .i64 7, .int .i64 8, .int .i64 9, .int .i64 (-1)] 3)) hl1
  have hlit : OwnI (w1.alloc (.cells #[.int .i64 0, .int .i64 1, .int .i64 2, .int .i64 3, .int .i64 4, .int .i64 5, .int .i64 6, .int .i64 7, .int .i64 8, .int .i64 9, .int .i64 (-1)] 3)) (.slice (some ⟨w1.heap.size, 0, none⟩) 11 11) [0, 1, 2, 3, 4, 5, 6, 7, 8, 9, -1] := OwnI.lit w1 _ _ 11 rfl (by omega) _ (by simp)
  have hB4 := hB3.alloc hB3.size (.cells #[.int .i64 0, .int .i64 1, .int .i64 2, .int .i64 3, .int .i64 4, .int .i64 5, .int .i64 6, .int .i64 7, .int .i64 8, .int .i64 9, .int .i64 (-1)] 3)
  have cA := curAmong_any w.heap.size 2 _ _ _ hcu2 hlit (by simp [Value.ownBlock]; omega) (by simp) (by omega) (by simp)
  clear h1 hcu2 hlit hB3
  go_wp2_with fail
  refine cA.mono ?_
  rintro e w2 ⟨y, hy, rfl, h2, hg2⟩
  have hB5 := hB4.grown hg2 hB4.size (by simp)
  have hy2 : -1 ≤ y ∧ y ≤ 9 := by simp at hy; omega
  clear cA hy h2 hg2 hB4
  go_wp2
  go_ret2
  exact ⟨z, y, rfl, hz2, hy2, hB5⟩
end Go.Proofs.Ytdlnniciccpchaa
