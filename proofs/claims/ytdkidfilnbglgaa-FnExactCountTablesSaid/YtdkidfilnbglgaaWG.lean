import Derived.Test.YtdkidfilnbglgaaWF
import Derived.Test.YtdkidfilnbglgaaS8
namespace Go.Pan
open Go Go.RowKit
theorem lvG_chn {xs : List Int} (hn : xs.Nodup) : ∀ d, lvG (longer xs) d [[]] = chn xs 0 d
  | 0 => (chn_zero xs 0).symm
  | d + 1 => by rw [lvG, lvG_chn hn d, chn_succ hn]
theorem chn_last {xs : List Int} (hn : xs.Nodup) {k : Nat} {q : List Int} (h : q ∈ chn xs 0 k) (hq : q ≠ []) : lastI q ∈ xs := by
  rw [← chnS_fst] at h
  obtain ⟨s, hs, rfl⟩ := List.mem_map.1 h
  exact ((chnS_state xs 0 k hn s hs).2 hq).1
theorem chn_le9 {xs : List Int} (h9 : xs.length ≤ 9) {k : Nat} {q : List Int} (h : q ∈ chn xs 0 k) : q.length ≤ 9 := by
  have h1 := chn_len _ _ _ q h
  by_cases hk : xs.length < k
  · rw [chn_short xs 0 k hk] at h; cases h
  · omega
theorem deepG {xs : List Int} (hg : Good xs) : Deep xs := deep hg hg.2.2.2 fun x hx => by have := hg.2.2.1 x hx; omega
theorem chn_512 {xs : List Int} (h9 : xs.length ≤ 9) (k : Nat) : (chn xs 0 k).length ≤ 512 := by
  have h1 := chn_few xs 0 k
  have h2 : 2 ^ xs.length ≤ 2 ^ 9 := Nat.pow_le_pow_right (by omega) h9
  omega
-- what the functions return
def mLongestRising (xs : List Int) : List Int := if goodB xs = true then riseL xs else []
def mRisingLength (xs : List Int) : Int := if goodB xs = true then (mostL xs : Int) else 0
def mCountRising (xs : List Int) : Int := if goodB xs = true then ((chn xs 0 (mostL xs)).length : Int) else 0
def mLeastMoves (xs : List Int) : Int := if goodB xs = true then (xs.length : Int) - (mostL xs : Int) else 0
def mFallingLength (xs : List Int) : Int := if goodB xs = true then (mostL xs.reverse : Int) else 0
theorem len_mLongestRising (xs : List Int) : (mLongestRising xs).length ≤ 1048576 := by
  unfold mLongestRising
  split
  · rename_i h
    have hg := goodB_iff.1 h
    have := deepG hg
    rw [riseL_length this]; have := this.le; have := hg.le9; omega
  · simp
end Go.Pan
namespace Go.Proofs.Ytdkidfilnbglgaa
open Go Go.RowKit Go.Pan

set_option maxRecDepth 100000 in
theorem closeP_any (xs q : List Int) (u : Value) (b : Nat) (ad : Option Addr) (cap : Nat) (W : World) (hc : W.cell? ⟨b, 0, none⟩ = some (.slice ad xs.length cap)) (hv : OwnI W (.slice ad xs.length cap) xs) (hn : xs.length ≤ 1048576) (hu : OwnI W u q) (hq : q.length ≤ 9) (hin : q ≠ [] → lastI q ∈ xs) :
    Calls Try.prog 152 #[u, .pointer (some ⟨b, 0, none⟩)] W fun e W' => ∃ r hs, e = .returned r ∧ RL W' 22 W.heap.size r hs (longer xs q) ∧ RowsFrom W.heap.size hs ∧ (longer xs q = [] → r = .slice none 0 0) ∧ Below W.heap.size W W' := by
  have c := longerParts_any _ xs u q W hv hn hu hq hin
  obtain ⟨ua, uc, rfl, _, _, _⟩ := hu.shape
  clear hu hin hv
  go_enter Try.func152, Try.ntmps152
  go_wp2_with fail
  refine c.mono ?_
  rintro e w1 ⟨r, hs, rfl, hR, hF, hZ, hb⟩
  obtain ⟨a1, c1, hre, _⟩ := hR.slice
  subst hre
  have HR := Lib.hid hR
  have HZ := Lib.hid hZ
  have HF := Lib.hid hF
  clear hR hZ hF c
  go_wp2
  go_ret
  exact ⟨_, hs, rfl, HR.out, HF.out, HZ.out, hb⟩

def PartsIf (e : TypeId) (N : Nat) (w : World) (b : Bool) (r : Value) (hs : List Value) (xs : List Int) : Prop := (b = true → (∃ B, RL w e B r hs (chn xs 0 (mostL xs))) ∧ RowsFrom N hs) ∧ (b = false → r = .slice none 0 0)
theorem RL.one {w : World} {e ty : TypeId} {u : Value} {q : List Int} (hu : OwnI w u q) (hlt : ∀ g, u.ownBlock = some g → g < w.heap.size) (he : ty = e) : RL (w.alloc (.cells #[u] ty)) e 0 (.slice (some ⟨w.heap.size, 0, none⟩) 1 1) [u] [q] := by
  subst he
  refine ⟨rfl, ⟨by simp, .inr ⟨w.heap.size, 1, #[u], rfl, Nat.zero_le _, heap_alloc_new w _, Nat.le_refl _, by simp [maxLen], by simp, by simp⟩⟩, fun i x ys hx hy => ?_⟩
  have h0 : i < 1 := (List.getElem?_eq_some_iff.1 hx).1
  obtain rfl : i = 0 := by omega
  simp at hx hy
  subst hx
  subst hy
  refine ⟨hu.alloc _, fun g hg e => ?_⟩
  simp [Value.ownBlock] at hg
  have := hlt g e
  omega

set_option maxHeartbeats 1600000 in
set_option maxRecDepth 100000 in
theorem longestParts_any (v : Value) (xs : List Int) (w : World) (hv : OwnI w v xs) (hn : xs.length ≤ 1048576) :
    Calls Try.prog 90 #[v] w fun e w' => ∃ r hs, e = .returned (.tuple #[r, .bool (goodB xs)]) ∧ PartsIf 22 w.heap.size w' (goodB xs) r hs xs ∧ Below w.heap.size w w' := by
  obtain ⟨ad, cap, rfl, hcc, _, _⟩ := hv.shape
  have hb0 : Below w.heap.size w (w.alloc (.cells #[.slice ad xs.length cap] 22)) := below_new w _
  have hz0 : w.heap.size < (w.alloc (.cells #[.slice ad xs.length cap] 22)).heap.size := by simp
  have hc0 : (w.alloc (.cells #[.slice ad xs.length cap] 22)).cell? ⟨w.heap.size, 0, none⟩ = some (.slice ad xs.length cap) := by
    rw [(Blk.new w 22 [.slice ad xs.length cap] _ rfl).cell 0]; rfl
  have hva := hv.alloc (.cells #[.slice ad xs.length cap] 22)
  have c := IsStack_any _ _ _ hva hn
  cases hg : goodB xs with
  | true =>
    have hG := goodB_iff.1 hg
    have hnd := hG.2.2.2
    have h9 := hG.le9
    have hd := deepG hG
    have HG := Lib.hid hG
    have HD := Lib.hid (show mostL xs ≤ 9 ∧ (∀ i, i ≤ mostL xs → lvG (longer xs) i [[]] ≠ []) ∧ lvG (longer xs) (mostL xs + 1) [[]] = [] ∧ ∀ i, (lvG (longer xs) i [[]]).length ≤ 400000000 from
      ⟨Nat.le_trans hd.le h9, fun i hi => by rw [lvG_chn hnd]; exact chn_downs hd.some hi, by rw [lvG_chn hnd]; exact hd.none, fun i => by rw [lvG_chn hnd]; have := chn_512 h9 i; omega⟩)
    have HDP := Lib.hid hd.pos
    have HC0 := Lib.hid hc0
    have HVA := Lib.hid hva
    rw [hg] at c
    clear hg hd hc0 hG h9 hva hv
    go_enter Try.func90, Try.ntmps90
    go_wp2_with fail
    refine c.mono ?_
    rintro e w1 ⟨rfl, hb1⟩
    have hc1 := (hb1.cell (p := ⟨w.heap.size, 0, none⟩) hz0).trans HC0.out
    have hv1 := HVA.out.same hb1
    have hz1 : w.heap.size < w1.heap.size := Nat.lt_of_lt_of_le hz0 hb1.size
    have hB1 := hb0.trans (hb1.mono hb0.size)
    obtain ⟨w2, hw2⟩ : ∃ x, w1.alloc (.cells #[] 3) = x := ⟨_, rfl⟩
    have hu2 : OwnI w2 (.slice (some ⟨w1.heap.size, 0, none⟩) 0 0) [] := by
      rw [← hw2]
      refine ⟨_, 0, rfl, rfl, Nat.le_refl _, by simp [maxLen], by simp, fun a ha => ?_⟩
      cases ha
      exact ⟨rfl, #[], 3, heap_alloc_new w1 _, by simp, fun j hj => by simp at hj⟩
    have hz2 : w2.heap.size = w1.heap.size + 1 := by rw [← hw2]; simp
    have hB2 : Below w.heap.size w w2 := by rw [← hw2]; exact hB1.alloc hB1.size _
    have hR0 := RL.one (e := 22) (ty := 22) hu2 (fun g hg => by simp [Value.ownBlock] at hg; omega) rfl
    obtain ⟨w3, hw3⟩ : ∃ x, w2.alloc (.cells #[.slice (some ⟨w1.heap.size, 0, none⟩) 0 0] 22) = x := ⟨_, rfl⟩
    have hB3 : Below w.heap.size w w3 := by rw [← hw3]; exact hB2.alloc hB2.size _
    have hz3 : w2.heap.size < w3.heap.size := by rw [← hw3]; simp
    have h13 : Below w1.heap.size w1 w3 := by
      rw [← hw3, ← hw2]
      exact (below_new w1 _).alloc (by simp) _
    rw [hw3] at hR0
    have hc3 := (h13.cell (p := ⟨w.heap.size, 0, none⟩) hz1).trans hc1
    have hv3 := hv1.same h13
    have CL := Lib.hid (lastLevelP_any _ [[]] (longer xs) (mostL xs) _ 0 (.pointer (some ⟨w.heap.size, 0, none⟩)) w3 hR0 HD (Lib.hid fun q u W hq hu hbW => by
      obtain ⟨i, hq⟩ := hq
      rw [lvG_chn hnd] at hq
      exact closeP_any xs q u w.heap.size ad cap W ((hbW.cell (p := ⟨w.heap.size, 0, none⟩) (by show w.heap.size < _; omega)).trans hc3) (hv3.same hbW) hn hu (chn_le9 HG.out.le9 hq) (chn_last hnd hq)))
    have HW2 := Lib.hid hw2
    have HW3 := Lib.hid hw3
    have HZ2 := Lib.hid hz2
    clear c hw2 hw3 hz2 hR0 hu2 hv1 hv3 hc1 hc3 hb1 hb0 hz0
    go_wp2_with fail
    rw [HW2.out, ← HZ2.out, HW3.out]
    refine CL.out.mono ?_
    rintro e w4 ⟨r, hs, B, rfl, hR, hF, hb4⟩
    rw [lvG_chn HG.out.2.2.2] at hR
    obtain ⟨a4, c4, hre, _⟩ := hR.slice
    subst hre
    have HR := Lib.hid hR
    have HF := Lib.hid ((hF HDP.out).mono hB3.size)
    have hB4 := hB3.trans (hb4.mono hB3.size)
    clear hR hF CL
    go_wp2
    go_ret2
    exact ⟨_, hs, rfl, ⟨fun _ => ⟨⟨B, HR.out⟩, HF.out⟩, fun h => by cases h⟩, hB4⟩
  | false =>
    rw [hg] at c
    clear hg hc0 hva
    go_enter Try.func90, Try.ntmps90
    go_wp2_with fail
    refine c.mono ?_
    rintro e w1 ⟨rfl, hb1⟩
    go_wp2
    go_ret2
    exact ⟨_, [], rfl, ⟨(fun h => by cases h), fun _ => rfl⟩, hb0.trans (hb1.mono hb0.size)⟩

set_option maxRecDepth 100000 in
set_option maxHeartbeats 800000 in
theorem slCompareL_any (v u : Value) (xs ys : List Int) (m : Nat) (w : World) (hv : OwnI w v xs) (hu : OwnI w u ys) (HP : Hid (xs.length = m)) (HQ : Hid (ys.length = m)) (h0 : 0 < m) (hm : m ≤ 1048576) :
    Calls Try.prog 93 #[v, u] w fun e w' => e = .returned (.int .i64 (cmpL xs ys)) ∧ w = w' := by
  obtain ⟨va, vc, rfl, _, _, _⟩ := hv.shape
  obtain ⟨ua, uc, rfl, _, _, _⟩ := hu.shape
  obtain ⟨g1, o1, rfl, _, hx1, _⟩ := hv.at (by have := HP.out; omega)
  obtain ⟨g2, o2, rfl, _, hy1, _⟩ := hu.at (by have := HQ.out; omega)
  have H1 := Lib.hid hx1
  have H2 := Lib.hid hy1
  rw [HP.out, HQ.out]
  clear hv hu hx1 hy1
  have HC0 := Lib.hid (show cmpL xs ys = cmpL (xs.drop 0) (ys.drop 0) from rfl)
  go_enter Try.func93, Try.ntmps93
  go_wp2
  go_loop [5, 6, 7, 8, 11] (fun _ _ _ _ i => ∃ k : Nat, k ≤ m ∧ i = .int .i64 k ∧ Hid (cmpL xs ys = cmpL (xs.drop k) (ys.drop k))) (fun _ _ _ _ i => m - (intOf i).toNat)
  case atStart => exact ⟨0, by omega, rfl, HC0⟩
  case round =>
    obtain ⟨k, hk, rfl, HC⟩ := hrel
    clear HC0
    by_cases hlt : k < m
    · have hkx : k < xs.length := by have := HP.out; omega
      have hky : k < ys.length := by have := HQ.out; omega
      have hcx : w.cell? ⟨g1, o1 + k, none⟩ = some (iv xs[k]) := by have := H1.out k (by omega); rwa [List.getElem?_map, List.getElem?_eq_getElem hkx] at this
      have hcy : w.cell? ⟨g2, o2 + k, none⟩ = some (iv ys[k]) := by have := H2.out k (by omega); rwa [List.getElem?_map, List.getElem?_eq_getElem hky] at this
      have HD := Lib.hid (show cmpL xs ys = if compI xs[k] ys[k] = 0 then cmpL (xs.drop (k + 1)) (ys.drop (k + 1)) else compI xs[k] ys[k] by
        rw [HC.out, List.drop_eq_getElem_cons hkx, List.drop_eq_getElem_cons hky]; rfl)
      obtain ⟨x, hx⟩ : ∃ x, xs[k] = x := ⟨_, rfl⟩
      obtain ⟨y, hy⟩ : ∃ y, ys[k] = y := ⟨_, rfl⟩
      rw [hx] at hcx HD
      rw [hy] at hcy HD
      have hlt' : (k : Int) < m := by omega
      have c := fun W => cmpCompare_any x y W
      obtain ⟨z, hz⟩ : ∃ z, compI x y = z := ⟨_, rfl⟩
      rw [hz] at HD
      simp only [hz] at c
      clear hx hy HC hz
      go_wp2_with fail
      refine (c _).mono ?_
      rintro e w1 ⟨rfl, rfl⟩
      by_cases h0 : z = 0
      · have HE := Lib.hid (show cmpL xs ys = cmpL (xs.drop (k + 1)) (ys.drop (k + 1)) by rw [HD.out, if_pos h0])
        subst h0
        go_wp2
        go_round
        case rel => exact ⟨k + 1, by omega, by go_num, HE⟩
        case measure => simp [intOf] <;> omega
      · have HE := Lib.hid (show cmpL xs ys = z by rw [HD.out, if_neg h0])
        have hne : (z != 0) = true := by simp [h0]
        go_wp2
        go_ret
        exact ⟨by rw [HE.out]; rfl, rfl⟩
    · obtain rfl : k = m := by omega
      have HE := Lib.hid (show cmpL xs ys = 0 by rw [HC.out, List.drop_of_length_le (by have := HP.out; omega), List.drop_of_length_le (by have := HQ.out; omega)]; rfl)
      go_wp2
      go_ret
      exact ⟨by rw [HE.out]; rfl, rfl⟩

set_option maxHeartbeats 1600000 in
set_option maxRecDepth 100000 in
theorem MinFuncL_any (v : Value) (hs : List Value) (L : List (List Int)) (e0 : TypeId) (B n : Nat) (w : World) (hv : RL w e0 B v hs L) (h0 : L ≠ []) (hn : Hid (∀ q ∈ L, q.length = n)) (hp : 0 < n) (hn9 : n ≤ 1048576) (hl : L.length ≤ 1000000000) :
    Calls Try.prog 92 #[v, .func (Fn.func 93) #[] #[]] w fun e w' => ∃ u, e = .returned u ∧ OwnI w u (mnTo L L.length) ∧ (∃ i : Nat, hs[i]? = some u) ∧ w = w' := by
  obtain ⟨ad, cap, rfl, hcc⟩ := hv.slice
  have hLp : 0 < L.length := List.length_pos_iff.2 h0
  have HV := Lib.hid hv
  have HIN := Lib.hid (fun k (h1 : 1 ≤ k) (h2 : k ≤ L.length) => hn.out _ (mnTo_in h0 k h1 h2))
  have HS := Lib.hid (fun k (h1 : 1 ≤ k) (h : k < L.length) => mnTo_succ h1 h)
  obtain ⟨g, off, u0, rfl, hgl, hu0, huo0, hc0⟩ := hv.at 0 hLp
  have e0 : mnTo L 1 = L[0] := by
    rw [mnTo_one]
    cases L with
    | nil => exact absurd rfl h0
    | cons a t => rfl
  rw [← e0] at huo0
  have HU0 := Lib.hid huo0
  have HE0 := Lib.hid hu0
  obtain ⟨m, hm⟩ : ∃ m, L.length = m := ⟨_, rfl⟩
  have HMM := Lib.hid hm
  have hmi : ¬ ((m : Int) < 1) := by omega
  have hml : m ≤ 1000000000 := by omega
  have hmp : 0 < m := by omega
  obtain ⟨a0, c0, hue, _⟩ := huo0.shape
  rw [hue] at hc0 HU0 HE0
  rw [Nat.add_zero] at hc0
  have hm1 : decide (m < 1) = false := decide_eq_false (by omega)
  rw [hm] at hcc ⊢
  clear hv h0 e0 hLp hl hm huo0 hu0 hue
  go_enter Try.func92, Try.ntmps92
  go_wp2
  go_loop [5, 6] (fun u i => ∃ k : Nat, 1 ≤ k ∧ k ≤ m ∧ i = .int .i64 k ∧ Hid (OwnI w u (mnTo L k)) ∧ Hid (∃ i : Nat, hs[i]? = some u)) (fun _ i => m - (intOf i).toNat)
  case atStart => exact ⟨1, Nat.le_refl _, by omega, rfl, HU0, Lib.hid ⟨0, HE0.out⟩⟩
  case round =>
    obtain ⟨k, hk1, hk, rfl, hU, hI⟩ := hrel
    clear HU0 HE0 hc0
    by_cases hlt : k < m
    · have hlt' : (k : Int) < (m : Int) := by omega
      have hkl : k < L.length := by rw [HMM.out]; exact hlt
      obtain ⟨g', off', u1, hadd, _, hu1, huo1, hc1⟩ := HV.out.at k hkl
      cases hadd
      have hS := HS.out k hk1 hkl
      have hl1 := HIN.out k hk1 (by omega)
      obtain ⟨x, hx⟩ : ∃ x, L[k] = x := ⟨_, rfl⟩
      have hxl : x.length = n := by rw [← hx]; exact hn.out _ (List.getElem_mem hkl)
      obtain ⟨y, hy⟩ : ∃ y, mnTo L k = y := ⟨_, rfl⟩
      rw [hx] at huo1 hS
      rw [hy] at hS hU hl1
      have c := slCompareL_any _ _ x y n w huo1 hU.out (Lib.hid hxl) (Lib.hid hl1) hp hn9
      obtain ⟨z, hz⟩ : ∃ z, cmpL x y = z := ⟨_, rfl⟩
      rw [hz] at c
      have HSS := Lib.hid hS
      have HZ := Lib.hid hz
      have HX := Lib.hid huo1
      have HI1 := Lib.hid hu1
      obtain ⟨a1, c1, hue, _⟩ := huo1.shape
      have huu := hU.out.shape
      obtain ⟨a2, c2', hue2, _⟩ := huu
      subst hue hue2
      clear hx hy hS hkl hl1 hxl hz huo1 hu1
      go_wp2_with fail
      refine c.mono ?_
      rintro e w1 ⟨rfl, rfl⟩
      clear c
      by_cases hneg : z < 0
      · have HN := Lib.hid (show mnTo L (k + 1) = x by rw [HSS.out]; unfold mnS; rw [HZ.out, if_pos (decide_eq_true hneg)])
        go_wp2
        go_round
        case rel => exact ⟨k + 1, by omega, by omega, by go_num, by rw [HN.out]; exact HX, Lib.hid ⟨k, HI1.out⟩⟩
        case measure => simp [intOf] <;> omega
      · have HN := Lib.hid (show mnTo L (k + 1) = y by rw [HSS.out]; unfold mnS; rw [HZ.out, if_neg (by rw [decide_eq_false hneg]; exact Bool.false_ne_true)])
        have hneg' : ¬ (z < 0) := hneg
        go_wp2
        go_round
        case rel => exact ⟨k + 1, by omega, by omega, by go_num, by rw [HN.out]; exact hU, hI⟩
        case measure => simp [intOf] <;> omega
    · obtain rfl : k = m := by omega
      clear hlt
      go_wp2
      go_ret
      exact ⟨_, rfl, hU.out, hI.out, rfl⟩

set_option maxRecDepth 100000 in
theorem LongestRising_any (v : Value) (xs : List Int) (w : World) (hv : OwnI w v xs) (hn : xs.length ≤ 1048576) :
    Calls Try.prog 37 #[v] w fun e w' => ∃ r, e = .returned (.tuple #[r, .bool (goodB xs)]) ∧ OwnI w' r (mLongestRising xs) ∧ From w.heap.size r ∧ Below w.heap.size w w' := by
  have c := longestParts_any v xs w hv hn
  obtain ⟨ad, cap, rfl, hcc, _, _⟩ := hv.shape
  cases hg : goodB xs with
  | true =>
    have hG := goodB_iff.1 hg
    have hd := deepG hG
    have HM := Lib.hid (show mLongestRising xs = riseL xs from if_pos hg)
    have HNE := Lib.hid hd.some
    have HLE := Lib.hid (show ∀ q ∈ chn xs 0 (mostL xs), q.length = mostL xs from chn_len _ _ _)
    have hp := hd.pos
    have hle := hd.le
    have h512 := chn_512 hG.le9 (mostL xs)
    rw [hg] at c
    clear hg hd hG
    go_enter Try.func37, Try.ntmps37
    go_wp2_with fail
    refine c.mono ?_
    rintro e w1 ⟨r, hs, rfl, hP, hb⟩
    obtain ⟨⟨B, hR⟩, hF⟩ := hP.1 rfl
    have cM := MinFuncL_any r hs _ _ B (mostL xs) w1 hR HNE.out HLE hp (by omega) (by omega)
    have HRF := Lib.hid hF
    obtain ⟨a1, c1, hre, _⟩ := hR.slice
    subst hre
    clear c hP hR hF h512
    go_wp2_with fail
    refine cM.mono ?_
    rintro e w2 ⟨u, rfl, hu, hi, rfl⟩
    obtain ⟨i, hi⟩ := hi
    have hfu := HRF.out i u hi
    have HU := Lib.hid (show OwnI w1 u (mLongestRising xs) by rw [HM.out]; exact hu)
    clear cM hu hi
    go_wp2_with fail
    refine (Clip_any _ _ _ HU.out).mono ?_
    rintro e w6 ⟨r, rfl, hor, hob, rfl⟩
    have hfr : From w.heap.size r := fun g hg => hfu g (by rw [← hob]; exact hg)
    clear hob
    go_wp2
    go_ret2
    exact ⟨_, rfl, hor, hfr, hb⟩
  | false =>
    have HM := Lib.hid (show mLongestRising xs = [] from if_neg (by rw [hg]; exact Bool.false_ne_true))
    rw [hg] at c
    clear hg
    go_enter Try.func37, Try.ntmps37
    go_wp2_with fail
    refine c.mono ?_
    rintro e w1 ⟨r, hs, rfl, hP, hb⟩
    obtain rfl := hP.2 rfl
    clear hP c
    go_wp2
    go_ret2
    exact ⟨_, rfl, by rw [HM.out]; exact OwnI.nil _, From.nil _ _ _, hb⟩

theorem mRis_len (xs : List Int) : mRisingLength xs = ((mLongestRising xs).length : Int) := by
  unfold mRisingLength mLongestRising
  split
  · rename_i h; rw [riseL_length (deepG (goodB_iff.1 h))]
  · rfl

theorem RisingLength_any (v : Value) (xs : List Int) (w : World) (hv : OwnI w v xs) (hn : xs.length ≤ 1048576) :
    Calls Try.prog 39 #[v] w fun e w' => e = .returned (.tuple #[.int .i64 (mRisingLength xs), .bool (goodB xs)]) ∧ Below w.heap.size w w' := by
  have HM := Lib.hid (mRis_len xs)
  have hl := len_mLongestRising xs
  have c := LongestRising_any v xs w hv hn
  obtain ⟨ad, cap, rfl, hcc, _, _⟩ := hv.shape
  go_enter Try.func39, Try.ntmps39
  go_wp2_with fail
  refine c.mono ?_
  rintro e w1 ⟨r, rfl, ho, hf, hb⟩
  obtain ⟨a1, c1, rfl, _⟩ := ho.shape
  clear c
  go_wp2
  go_ret2
  exact ⟨by rw [HM.out]; rfl, hb⟩

theorem CountRising_any (v : Value) (xs : List Int) (w : World) (hv : OwnI w v xs) (hn : xs.length ≤ 1048576) :
    Calls Try.prog 43 #[v] w fun e w' => e = .returned (.tuple #[.int .i64 (mCountRising xs), .bool (goodB xs)]) ∧ Below w.heap.size w w' := by
  have c := longestParts_any v xs w hv hn
  obtain ⟨ad, cap, rfl, hcc, _, _⟩ := hv.shape
  cases hg : goodB xs with
  | true =>
    have HM := Lib.hid (show mCountRising xs = ((chn xs 0 (mostL xs)).length : Int) from if_pos hg)
    rw [hg] at c
    clear hg
    go_enter Try.func43, Try.ntmps43
    go_wp2_with fail
    refine c.mono ?_
    rintro e w1 ⟨r, hs, rfl, hP, hb⟩
    obtain ⟨⟨B, hR⟩, _⟩ := hP.1 rfl
    obtain ⟨a1, c1, hre, _⟩ := hR.slice
    subst hre
    clear c hP hR
    go_wp2
    go_ret2
    exact ⟨by rw [HM.out]; rfl, hb⟩
  | false =>
    have HM := Lib.hid (show mCountRising xs = 0 from if_neg (by rw [hg]; exact Bool.false_ne_true))
    rw [hg] at c
    clear hg
    go_enter Try.func43, Try.ntmps43
    go_wp2_with fail
    refine c.mono ?_
    rintro e w1 ⟨r, hs, rfl, hP, hb⟩
    obtain rfl := hP.2 rfl
    clear c hP
    go_wp2
    go_ret2
    exact ⟨by rw [HM.out]; rfl, hb⟩

theorem LeastMoves_any (v : Value) (xs : List Int) (w : World) (hv : OwnI w v xs) (hn : xs.length ≤ 1048576) :
    Calls Try.prog 45 #[v] w fun e w' => e = .returned (.tuple #[.int .i64 (mLeastMoves xs), .bool (goodB xs)]) ∧ Below w.heap.size w w' := by
  have c := RisingLength_any v xs w hv hn
  obtain ⟨ad, cap, rfl, hcc, _, _⟩ := hv.shape
  cases hg : goodB xs with
  | true =>
    have HM := Lib.hid (show mLeastMoves xs = (xs.length : Int) - (mostL xs : Int) from if_pos hg)
    have hd := deepG (goodB_iff.1 hg)
    have hle := hd.le
    have hr : mRisingLength xs = (mostL xs : Int) := if_pos hg
    rw [hg, hr] at c
    have hs : (0 : Int) ≤ (xs.length : Int) - (mostL xs : Int) := by omega
    clear hg hd hr
    go_enter Try.func45, Try.ntmps45
    go_wp2_with fail
    refine c.mono ?_
    rintro e w1 ⟨rfl, hb⟩
    clear c
    go_wp2
    go_ret2
    exact ⟨by rw [HM.out]; rfl, hb⟩
  | false =>
    have HM := Lib.hid (show mLeastMoves xs = 0 from if_neg (by rw [hg]; exact Bool.false_ne_true))
    rw [hg] at c
    clear hg
    go_enter Try.func45, Try.ntmps45
    go_wp2_with fail
    refine c.mono ?_
    rintro e w1 ⟨rfl, hb⟩
    clear c
    go_wp2
    go_ret2
    exact ⟨by rw [HM.out]; rfl, hb⟩
end Go.Proofs.Ytdkidfilnbglgaa
