import Derived.Test.YtdkidfilnbglgaaWH
import Derived.Test.YtdkidfilnbglgaaWG
namespace Go.Pan
open Go Go.RowKit
theorem OwnI.ofLen {w : World} {v : Value} {xs : List Int} {n : Nat} (h : OwnI w v xs) (hl : xs.length = n) : Own w 1 v n (xs.map iv) := by
  subst hl; exact h
theorem max_cast (m n : Nat) : (if (n : Int) < (m : Int) then (m : Int) else (n : Int)) = ((max m n : Nat) : Int) := by
  split <;> omega
theorem mostTo_le {xs : List Int} (hn : xs.Nodup) (h9 : xs.length ≤ 9) (k : Nat) : mostTo xs k ≤ 9 := by
  unfold mostTo
  rcases (foldl_max (((tls xs).take k).map (·.1)) 0).2.2 with h | h
  · omega
  · obtain ⟨r, hr, e⟩ := List.mem_map.1 h
    have := (tls_le hn h9 r (List.mem_of_mem_take hr)).1
    omega
theorem sumTo_le {xs : List Int} (hn : xs.Nodup) (h9 : xs.length ≤ 9) (M : Nat) : ∀ k, sumTo xs M k ≤ k * 512
  | 0 => by simp [sumTo]
  | k + 1 => by
    have hl := tls_length xs
    by_cases h : k < (tls xs).length
    · rw [sumTo_succ h]
      have ih := sumTo_le hn h9 M k
      have := (tls_le hn h9 _ (List.getElem_mem h)).2
      have h2 : (if (tls xs)[k].1 = M then (tls xs)[k].2 else 0) ≤ 512 := by split <;> omega
      rw [Nat.succ_mul]
      exact Nat.add_le_add ih h2
    · have e : sumTo xs M (k + 1) = sumTo xs M k := by
        unfold sumTo
        rw [List.take_of_length_le (by omega), List.take_of_length_le (by omega)]
      rw [e]
      have ih := sumTo_le hn h9 M k
      rw [Nat.succ_mul]
      exact Nat.le_trans ih (Nat.le_add_right _ _)
end Go.Pan
namespace Go.Proofs.Ytdkidfilnbglgaa
open Go Go.RowKit Go.Pan

set_option maxHeartbeats 1600000 in
theorem inLongest_any (v : Value) (xs : List Int) (w : World) (hv : OwnI w v xs) (hg : Hid (Go.Pan.Good xs)) :
    Calls Try.prog 94 #[v] w fun e w' => e = .returned (.int .i64 (mostL xs : Nat)) ∧ Below w.heap.size w w' := by
  have c := inTails_any v xs w hv hg
  obtain ⟨ad, cap, rfl, hcc, _, _⟩ := hv.shape
  have h9 := hg.out.le9
  have HN := Lib.hid hg.out.2.2.2
  obtain ⟨n, hn⟩ : ∃ n, xs.length = n := ⟨_, rfl⟩
  have HNN := Lib.hid hn
  rw [hn] at h9 hcc c ⊢
  clear hv hn
  go_enter Try.func94, Try.ntmps94
  go_wp2_with fail
  refine c.mono ?_
  rintro e w1 ⟨r, cc, rfl, ho1, ho2, hb⟩
  obtain ⟨a1, c1, rfl, hc1, _, _⟩ := ho1.shape
  obtain ⟨a2, c2, rfl, _, _, _⟩ := ho2.shape
  have hll : ((tls xs).map fun r => (r.1 : Int)).length = n := by rw [List.length_map, tls_length, HNN.out]
  have hl2 : ((tls xs).map fun r => (r.2 : Int)).length = n := by rw [List.length_map, tls_length, HNN.out]
  rw [hll, hl2]
  have HO := Lib.hid (OwnI.ofLen ho1 hll)
  rw [hll] at HO hc1
  have HLL := Lib.hid hll
  clear c ho1 ho2 hll hl2
  go_wp2
  go_loop [5, 7, 15] (fun m _ i => ∃ k : Nat, k ≤ n ∧ i = .int .i64 k ∧ m = .int .i64 (mostTo xs k : Nat)) (fun _ _ i => n - (intOf i).toNat)
  case atStart => exact ⟨0, Nat.zero_le _, rfl, rfl⟩
  case round =>
    obtain ⟨k, hk, rfl, rfl⟩ := hrel
    by_cases hlt : k < n
    · have hlt' : (k : Int) < n := by omega
      obtain ⟨g, off, hae, hgl, hcell, _⟩ := Own.at HO.out (by omega)
      cases hae
      have hkt : k < (tls xs).length := by rw [tls_length, HNN.out]; exact hlt
      have hck := hcell k (by omega)
      rw [List.getElem?_map, List.getElem?_map, List.getElem?_eq_getElem hkt] at hck
      have hS := mostTo_succ hkt
      have hm9 := mostTo_le HN.out (by rw [HNN.out]; exact h9) k
      have hr9 := (tls_le HN.out (by rw [HNN.out]; exact h9) _ (List.getElem_mem hkt)).1
      obtain ⟨r, hr⟩ : ∃ r, (tls xs)[k].1 = r := ⟨_, rfl⟩
      rw [hr] at hS hr9
      have hck' : w1.cell? ⟨g, off + k, none⟩ = some (.int .i64 (r : Nat)) := by rw [← hr]; exact hck
      obtain ⟨m, hm⟩ : ∃ m, mostTo xs k = m := ⟨_, rfl⟩
      rw [hm] at hS hm9 ⊢
      have cm := l1Most_any (m : Int) (r : Int)
      rw [max_cast] at cm
      have HS := Lib.hid hS
      clear hS hck hr hm hcell
      go_wp2_with fail
      refine (cm _).mono ?_
      rintro e w2 ⟨rfl, rfl⟩
      go_wp2
      go_round
      case rel => exact ⟨k + 1, by omega, by go_num, by rw [HS.out]⟩
      case measure => simp [intOf] <;> omega
    · obtain rfl : k = n := by omega
      go_wp2
      go_ret
      exact ⟨by unfold mostL; rw [HNN.out]; rfl, hb⟩

set_option maxHeartbeats 1600000 in
theorem sCountRising_any (v : Value) (xs : List Int) (w : World) (hv : OwnI w v xs) (hn : xs.length ≤ 1048576) :
    Calls Try.prog 42 #[v] w fun e w' => e = .returned (.tuple #[.int .i64 (mCountRising xs), .bool (goodB xs)]) ∧ Below w.heap.size w w' := by
  have cg := stGood_any v xs w hv hn
  cases hg : goodB xs with
  | true =>
    have hG := goodB_iff.1 hg
    have hd := deepG hG
    have HM := Lib.hid (show mCountRising xs = ((sumTo xs (mostL xs) xs.length : Nat) : Int) by unfold mCountRising; rw [if_pos hg, hd.count])
    have HG := Lib.hid hG
    obtain ⟨ad, cap, rfl, hcc, _, _⟩ := hv.shape
    have h9 := hG.le9
    have HN := Lib.hid hG.2.2.2
    rw [hg] at cg
    clear hg hd hG
    obtain ⟨n, hn'⟩ : ∃ n, xs.length = n := ⟨_, rfl⟩
    have HNN := Lib.hid hn'
    have HV := Lib.hid hv
    rw [hn'] at h9 hcc cg HV HM ⊢
    clear hv hn hn'
    go_enter Try.func42, Try.ntmps42
    go_wp2_with fail
    refine (cg).mono ?_
    rintro e w1 ⟨rfl, hb1⟩
    have hv1 := HV.out.same hb1
    have c := inTails_any _ xs w1 hv1 HG
    clear cg
    go_wp2_with fail
    refine c.mono ?_
    rintro e w2 ⟨r, cc, rfl, ho1, ho2, hb2⟩
    have hv2 := hv1.same hb2
    have cl := inLongest_any _ xs w2 hv2 HG
    obtain ⟨a1, c1, rfl, hc1, _, _⟩ := ho1.shape
    obtain ⟨a2, c2, rfl, hc2, _, _⟩ := ho2.shape
    have hll : ((tls xs).map fun r => (r.1 : Int)).length = n := by rw [List.length_map, tls_length, HNN.out]
    have hl2 : ((tls xs).map fun r => (r.2 : Int)).length = n := by rw [List.length_map, tls_length, HNN.out]
    have HO1 := Lib.hid (OwnI.ofLen ho1 hll)
    have HO2 := Lib.hid (OwnI.ofLen ho2 hl2)
    rw [hll] at HO1 hc1 ⊢
    rw [hl2] at HO2 hc2 ⊢
    have hB2 := hb1.trans (hb2.mono hb1.size)
    have HM9 := Lib.hid (show mostL xs ≤ 9 from by have := mostTo_le HN.out (by rw [HNN.out]; exact h9) xs.length; exact this)
    obtain ⟨M, hM⟩ : ∃ M, mostL xs = M := ⟨_, rfl⟩
    rw [hM] at cl HM HM9
    have HMM := Lib.hid hM
    clear c ho1 ho2 hll hl2 hM hv1 hv2 hb1 hb2
    go_wp2_with fail
    refine cl.mono ?_
    rintro e w3 ⟨rfl, hb3⟩
    have HO13 := Lib.hid (Own.same HO1.out hb3)
    have HO23 := Lib.hid (Own.same HO2.out hb3)
    have hB3 := hB2.trans (hb3.mono hB2.size)
    clear cl hb3
    go_wp2
    go_loop [7, 8, 9, 22] (fun s _ _ i => ∃ k : Nat, k ≤ n ∧ i = .int .i64 k ∧ s = .int .i64 (sumTo xs M k : Nat)) (fun _ _ _ i => n - (intOf i).toNat)
    case atStart => exact ⟨0, Nat.zero_le _, rfl, rfl⟩
    case round =>
      obtain ⟨k, hk, rfl, rfl⟩ := hrel
      by_cases hlt : k < n
      · have hlt' : (k : Int) < n := by omega
        obtain ⟨g, off, hae, hgl, hcell, _⟩ := Own.at HO13.out (by omega)
        cases hae
        obtain ⟨g2, off2, hae, hgl2, hcell2, _⟩ := Own.at HO23.out (by omega)
        cases hae
        have hkt : k < (tls xs).length := by rw [tls_length, HNN.out]; exact hlt
        have hck := hcell k (by omega)
        rw [List.getElem?_map, List.getElem?_map, List.getElem?_eq_getElem hkt] at hck
        have hck2 := hcell2 k (by omega)
        rw [List.getElem?_map, List.getElem?_map, List.getElem?_eq_getElem hkt] at hck2
        have hS := sumTo_succ (M := M) hkt
        have hm9 := sumTo_le HN.out (by rw [HNN.out]; exact h9) M k
        have hr9 := (tls_le HN.out (by rw [HNN.out]; exact h9) _ (List.getElem_mem hkt))
        obtain ⟨r, hr⟩ : ∃ r, (tls xs)[k] = r := ⟨_, rfl⟩
        rw [hr] at hS hr9 hck hck2
        obtain ⟨r1, r2⟩ := r
        have hck' : w3.cell? ⟨g, off + k, none⟩ = some (.int .i64 (r1 : Nat)) := hck
        have hck2' : w3.cell? ⟨g2, off2 + k, none⟩ = some (.int .i64 (r2 : Nat)) := hck2
        obtain ⟨m, hm⟩ : ∃ m, sumTo xs M k = m := ⟨_, rfl⟩
        rw [hm] at hS hm9 ⊢
        have h92 := hr9.2
        simp only at h92
        by_cases he : r1 = M
        · have HS := Lib.hid (show sumTo xs M (k + 1) = m + r2 by rw [hS, if_pos he])
          have hq : ((r1 : Int) == (M : Int)) = true := by simp [he]
          clear hS hck hck2 hr hm hcell hcell2 hr9 he
          go_wp2
          go_round
          case rel => exact ⟨k + 1, by omega, by go_num, by rw [HS.out]; go_num⟩
          case measure => simp [intOf] <;> omega
        · have HS := Lib.hid (show sumTo xs M (k + 1) = m by rw [hS, if_neg he, Nat.add_zero])
          have hq : ((r1 : Int) == (M : Int)) = false := by simp; omega
          clear hS hck hck2 hr hm hcell hcell2 hr9 he
          go_wp2
          go_round
          case rel => exact ⟨k + 1, by omega, by go_num, by rw [HS.out]⟩
          case measure => simp [intOf] <;> omega
      · obtain rfl : k = n := by omega
        go_wp2
        go_ret2
        exact ⟨by rw [HM.out]; rfl, hB3⟩
  | false =>
    have HM := Lib.hid (show mCountRising xs = 0 from if_neg (by rw [hg]; exact Bool.false_ne_true))
    obtain ⟨ad, cap, rfl, hcc, _, _⟩ := hv.shape
    rw [hg] at cg
    clear hg
    go_enter Try.func42, Try.ntmps42
    go_wp2_with fail
    refine (cg).mono ?_
    rintro e w1 ⟨rfl, hb1⟩
    go_wp2
    go_ret2
    exact ⟨by rw [HM.out]; rfl, hb1⟩
end Go.Proofs.Ytdkidfilnbglgaa
