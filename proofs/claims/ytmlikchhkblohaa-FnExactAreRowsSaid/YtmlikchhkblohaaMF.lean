import Derived.Test.YtmlikchhkblohaaTw
import Derived.Test.YtmlikchhkblohaaI2
import Derived.Test.YtmlikchhkblohaaU7
import Derived.BigQuiet
import Derived.Deep.Cut
import Derived.Lib.Hide
namespace Go.Pan
open Go

def compI (x y : Int) : Int := if x < y then -1 else if y < x then 1 else 0
/-- lists held against each other -/
def cmpL : List Int → List Int → Int
  | [], [] => 0
  | [], _ :: _ => -1
  | _ :: _, [] => 1
  | x :: xs, y :: ys => if compI x y = 0 then cmpL xs ys else compI x y
def ltL (xs ys : List Int) : Bool := decide (cmpL xs ys < 0)
theorem compareInt_eq (x y : Int) : compI x y = if x < y then -1 else if y < x then 1 else 0 := rfl
theorem ltL_cons (x y : Int) (xs ys : List Int) : ltL (x :: xs) (y :: ys) = (decide (x < y) || (decide (x = y) && ltL xs ys)) := by
  unfold ltL
  simp only [cmpL, compareInt_eq]
  by_cases h1 : x < y
  · simp [h1]
  · by_cases h2 : y < x
    · have : x ≠ y := by omega
      simp [h1, h2, this]
    · have : x = y := by omega
      simp [this]
theorem ltL_irrefl (xs : List Int) : ltL xs xs = false := by
  induction xs with
  | nil => rfl
  | cons x xs ih => rw [ltL_cons, ih]; simp
theorem ltL_total : ∀ (xs ys : List Int), xs.length = ys.length → ltL xs ys = false → ltL ys xs = false → xs = ys
  | [], [], _, _, _ => rfl
  | [], _ :: _, h, _, _ => by simp at h
  | _ :: _, [], h, _, _ => by simp at h
  | x :: xs, y :: ys, h, h1, h2 => by
    rw [ltL_cons] at h1 h2
    simp only [Bool.or_eq_false_iff, decide_eq_false_iff_not, Bool.and_eq_false_iff] at h1 h2
    have e : x = y := by omega
    subst e
    have h3 : ltL xs ys = false := by rcases h1.2 with h | h; exact absurd rfl h; exact h
    have h4 : ltL ys xs = false := by rcases h2.2 with h | h; exact absurd rfl h; exact h
    rw [ltL_total xs ys (by simpa using h) h3 h4]
theorem ltL_trans : ∀ (xs ys zs : List Int), ltL xs ys = true → ltL ys zs = true → ltL xs zs = true
  | [], [], _, h, _ => by simp [ltL, cmpL] at h
  | _ :: _, [], _, h, _ => by simp [ltL, cmpL] at h
  | [], _ :: _, [], _, h => by simp [ltL, cmpL] at h
  | _ :: _, _ :: _, [], _, h => by simp [ltL, cmpL] at h
  | [], _ :: _, _ :: _, _, _ => by simp [ltL, cmpL]
  | x :: xs, y :: ys, z :: zs, h1, h2 => by
    rw [ltL_cons] at *
    simp only [Bool.or_eq_true, decide_eq_true_iff, Bool.and_eq_true] at *
    rcases h1 with h1 | ⟨h1, h3⟩
    · rcases h2 with h2 | ⟨h2, _⟩
      · left; omega
      · left; omega
    · rcases h2 with h2 | ⟨h2, h4⟩
      · left; omega
      · right; exact ⟨by omega, ltL_trans xs ys zs h3 h4⟩
theorem ltL_ntrans : ∀ (xs ys zs : List Int), ltL xs ys = false → ltL ys zs = false → ltL xs zs = false
  | [], [], [], _, _ => rfl
  | [], [], _ :: _, _, h => by simp [ltL, cmpL] at h
  | [], _ :: _, _, h, _ => by simp [ltL, cmpL] at h
  | _ :: _, [], [], _, _ => by simp [ltL, cmpL]
  | _ :: _, _, [], _, _ => by simp [ltL, cmpL]
  | _ :: _, [], _ :: _, _, h => by simp [ltL, cmpL] at h
  | x :: xs, y :: ys, z :: zs, h1, h2 => by
    rw [ltL_cons] at *
    simp only [Bool.or_eq_false_iff, decide_eq_false_iff_not, Bool.and_eq_false_iff] at *
    refine ⟨by omega, ?_⟩
    by_cases e : x = z
    · right
      have e1 : x = y := by omega
      have e2 : y = z := by omega
      have h3 : ltL xs ys = false := by rcases h1.2 with h | h; exact absurd e1 h; exact h
      have h4 : ltL ys zs = false := by rcases h2.2 with h | h; exact absurd e2 h; exact h
      exact ltL_ntrans xs ys zs h3 h4
    · left; exact e
theorem ltL_pad (xs ys r : List Int) (h : xs.length = ys.length) : ltL (xs ++ r) (ys ++ r) = ltL xs ys := by
  induction xs generalizing ys with
  | nil =>
    obtain rfl := List.eq_nil_of_length_eq_zero h.symm
    rw [List.nil_append, ltL_irrefl]
    rfl
  | cons x xs ih =>
    cases ys with
    | nil => simp at h
    | cons y ys => rw [List.cons_append, List.cons_append, ltL_cons, ltL_cons, ih ys (by simpa using h)]
/-- the nine numbers of a tower -/
def pad9 (q : List Int) : List Int := q ++ List.replicate (9 - q.length) 0
theorem pad9_length {q : List Int} (h : q.length ≤ 9) : (pad9 q).length = 9 := by simp [pad9]; omega
theorem ltL_pad9 {xs ys : List Int} (h : xs.length = ys.length) : ltL (pad9 xs) (pad9 ys) = ltL xs ys := by
  unfold pad9
  rw [h]
  exact ltL_pad xs ys _ h

end Go.Pan

namespace Go.Proofs.Ytmlikchhkblohaa
open Go Go.RowKit Go.Pan

theorem isNaN_any (x : Int) (w : World) : Calls Try.prog 200 #[.int .i64 x] w fun e w' => e = .returned (.bool false) ∧ w = w' := by
  have hx : (x != x) = false := by simp
  go_enter Try.func200, Try.ntmps200
  go_wp2
  go_ret
  exact ⟨rfl, rfl⟩
theorem cmpCompare_any (x y : Int) (w : World) : Calls Try.prog 181 #[.int .i64 x, .int .i64 y] w fun e w' => e = .returned (.int .i64 (compI x y)) ∧ w = w' := by
  rw [compareInt_eq]
  obtain ⟨z, hz⟩ : ∃ z, (if x < y then (-1 : Int) else if y < x then 1 else 0) = z := ⟨_, rfl⟩
  rw [hz]
  by_cases h1 : x < y
  · rw [if_pos h1] at hz
    have HZ := Lib.hid hz
    clear hz
    go_enter Try.func181, Try.ntmps181
    go_wp2_with fail
    refine (isNaN_any x _).mono ?_
    rintro e w1 ⟨rfl, rfl⟩
    go_wp2_with fail
    refine (isNaN_any y _).mono ?_
    rintro e w1 ⟨rfl, rfl⟩
    go_wp2
    go_ret
    exact ⟨by rw [← HZ.out]; rfl, rfl⟩
  · rw [if_neg h1] at hz
    by_cases h2 : y < x
    · rw [if_pos h2] at hz
      have HZ := Lib.hid hz
      clear hz
      go_enter Try.func181, Try.ntmps181
      go_wp2_with fail
      refine (isNaN_any x _).mono ?_
      rintro e w1 ⟨rfl, rfl⟩
      go_wp2_with fail
      refine (isNaN_any y _).mono ?_
      rintro e w1 ⟨rfl, rfl⟩
      go_wp2
      go_ret
      exact ⟨by rw [← HZ.out]; rfl, rfl⟩
    · rw [if_neg h2] at hz
      have HZ := Lib.hid hz
      clear hz
      go_enter Try.func181, Try.ntmps181
      go_wp2_with fail
      refine (isNaN_any x _).mono ?_
      rintro e w1 ⟨rfl, rfl⟩
      go_wp2_with fail
      refine (isNaN_any y _).mono ?_
      rintro e w1 ⟨rfl, rfl⟩
      go_wp2
      go_ret
      exact ⟨by rw [← HZ.out]; rfl, rfl⟩

theorem twl_pad (q : List Int) : twl q = (pad9 q).map iv := rfl

set_option maxRecDepth 100000 in
set_option maxHeartbeats 800000 in
theorem slCompare_any (g1 g2 : Nat) (p q : List Int) (hp : p.length ≤ 9) (hq : q.length ≤ 9) (w : World) (h1 : w.rangeAt g1 0 (twl p)) (h2 : w.rangeAt g2 0 (twl q)) :
    Calls Try.prog 151 #[.slice (some ⟨g1, 0, none⟩) 9 9, .slice (some ⟨g2, 0, none⟩) 9 9] w fun e w' => e = .returned (.int .i64 (cmpL (pad9 p) (pad9 q))) ∧ w = w' := by
  have HP := Lib.hid (pad9_length hp)
  have HQ := Lib.hid (pad9_length hq)
  have H1 := Lib.hid h1
  have H2 := Lib.hid h2
  clear h1 h2 hp hq
  obtain ⟨xs, hxs⟩ : ∃ xs, pad9 p = xs := ⟨_, rfl⟩
  obtain ⟨ys, hys⟩ : ∃ ys, pad9 q = ys := ⟨_, rfl⟩
  rw [twl_pad, hxs] at H1
  rw [twl_pad, hys] at H2
  rw [hxs] at HP ⊢
  rw [hys] at HQ ⊢
  clear hxs hys
  have HC0 := Lib.hid (show cmpL xs ys = cmpL (xs.drop 0) (ys.drop 0) from rfl)
  go_enter Try.func151, Try.ntmps151
  go_wp2
  go_loop [5, 6, 7, 8, 11] (fun _ _ _ _ i => ∃ k : Nat, k ≤ 9 ∧ i = .int .i64 k ∧ Hid (cmpL xs ys = cmpL (xs.drop k) (ys.drop k))) (fun _ _ _ _ i => 9 - (intOf i).toNat)
  case atStart => exact ⟨0, by omega, rfl, HC0⟩
  case round =>
    obtain ⟨k, hk, rfl, HC⟩ := hrel
    clear HC0
    by_cases hlt : k < 9
    · have hkx : k < xs.length := by have := HP.out; omega
      have hky : k < ys.length := by have := HQ.out; omega
      have hcx : w.cell? ⟨g1, k, none⟩ = some (iv xs[k]) := by have := H1.out k (iv xs[k]) (by rw [List.getElem?_map, List.getElem?_eq_getElem hkx]; rfl); rwa [Nat.zero_add] at this
      have hcy : w.cell? ⟨g2, k, none⟩ = some (iv ys[k]) := by have := H2.out k (iv ys[k]) (by rw [List.getElem?_map, List.getElem?_eq_getElem hky]; rfl); rwa [Nat.zero_add] at this
      have HD := Lib.hid (show cmpL xs ys = if compI xs[k] ys[k] = 0 then cmpL (xs.drop (k + 1)) (ys.drop (k + 1)) else compI xs[k] ys[k] by
        rw [HC.out, List.drop_eq_getElem_cons hkx, List.drop_eq_getElem_cons hky]; rfl)
      obtain ⟨x, hx⟩ : ∃ x, xs[k] = x := ⟨_, rfl⟩
      obtain ⟨y, hy⟩ : ∃ y, ys[k] = y := ⟨_, rfl⟩
      rw [hx] at hcx HD
      rw [hy] at hcy HD
      have hlt' : (k : Int) < 9 := by omega
      have c := fun W => cmpCompare_any x y W
      obtain ⟨z, hz⟩ : ∃ z, compI x y = z := ⟨_, rfl⟩
      rw [hz] at HD
      simp only [hz] at c
      clear hx hy HC hz
      go_wp2_with fail
      refine (c _).mono ?_
      rintro e w1 ⟨rfl, rfl⟩
      by_cases h0 : z = 0
      · have HE := Lib.hid (show cmpL xs ys = cmpL (xs.drop (k + 1)) (ys.drop (k + 1)) by rw [HD.out, if_pos h0])
        subst h0
        go_wp2
        go_round
        case rel => exact ⟨k + 1, by omega, by go_num, HE⟩
        case measure => simp [intOf] <;> omega
      · have HE := Lib.hid (show cmpL xs ys = z by rw [HD.out, if_neg h0])
        have hne : (z != 0) = true := by simp [h0]
        go_wp2
        go_ret
        exact ⟨by rw [HE.out]; rfl, rfl⟩
    · obtain rfl : k = 9 := by omega
      have HE := Lib.hid (show cmpL xs ys = 0 by rw [HC.out, List.drop_of_length_le (by have := HP.out; omega), List.drop_of_length_le (by have := HQ.out; omega)]; rfl)
      go_wp2
      go_ret
      exact ⟨by rw [HE.out]; rfl, rfl⟩

theorem slCompare_quiet (g1 g2 : Nat) (p q : List Int) (hp : p.length ≤ 9) (hq : q.length ≤ 9) (w : World) (h1 : w.rangeAt g1 0 (twl p)) (h2 : w.rangeAt g2 0 (twl q)) (m : Nat) :
    Calls Try.prog 151 #[.slice (some ⟨g1, 0, none⟩) 9 9, .slice (some ⟨g2, 0, none⟩) 9 9] (w.drewN m) fun e w' => e = .returned (.int .i64 (cmpL (pad9 p) (pad9 q))) ∧ ∃ n, w' = w.drewN n :=
  (slCompare_any g1 g2 p q hp hq (w.drewN m) h1 h2).mono fun _ _ ⟨he, hw⟩ => ⟨he, m, hw.symm⟩

set_option maxHeartbeats 800000 in
theorem compareTowers_any (p q : List Int) (hp : p.length ≤ 9) (hq : q.length ≤ 9) (W : World) :
    Calls Try.prog 97 #[tw p, tw q] W fun e w' => e = .returned (.int .i64 (cmpL (pad9 p) (pad9 q))) ∧ Below W.heap.size W w' := by
  have hb1 : Blk ((W.alloc (.cells (twl p).toArray 86)).alloc (.cells (twl q).toArray 86)) W.heap.size 86 (twl p) := (Blk.new W _ (twl p) _ rfl).alloc _
  have hb2 : Blk ((W.alloc (.cells (twl p).toArray 86)).alloc (.cells (twl q).toArray 86)) (W.heap.size + 1) 86 (twl q) := by have := Blk.new (W.alloc (.cells (twl p).toArray 86)) 86 (twl q) _ rfl; simpa using this
  have c := fun m => slCompare_quiet W.heap.size (W.heap.size + 1) p q hp hq _ hb1.range hb2.range m
  have HB := Lib.hid (show Below W.heap.size W ((W.alloc (.cells (twl p).toArray 86)).alloc (.cells (twl q).toArray 86)) from ((Below.refl _ W).alloc (Nat.le_refl _) _).alloc (by simp) _)
  obtain ⟨z, hz⟩ : ∃ z, cmpL (pad9 p) (pad9 q) = z := ⟨_, rfl⟩
  simp only [hz] at c
  rw [hz]
  clear hb1 hb2 hz
  go_enter Try.func97, Try.ntmps97
  go_upto_region 1 with fail
  go_quiet ((go_at_call 151; exact c _))
  go_wp2
  go_ret
  exact ⟨rfl, HB.out.os, HB.out.tape, HB.out.output, HB.out.size, HB.out.block⟩

end Go.Proofs.Ytmlikchhkblohaa

namespace Go.Pan
open Go Go.RowKit
def minS (m x : List Int) : List Int := if decide (cmpL (pad9 x) (pad9 m) < 0) = true then x else m
def minTo (L : List (List Int)) (k : Nat) : List Int := ((L.drop 1).take (k - 1)).foldl minS (L.headD [])
theorem minTo_one (L : List (List Int)) : minTo L 1 = L.headD [] := rfl
theorem minTo_succ {L : List (List Int)} {k : Nat} (h1 : 1 ≤ k) (h : k < L.length) : minTo L (k + 1) = minS (minTo L k) L[k] := by
  unfold minTo
  obtain ⟨j, rfl⟩ : ∃ j, k = j + 1 := ⟨k - 1, by omega⟩
  have hj : j < (L.drop 1).length := by simp; omega
  rw [show j + 1 + 1 - 1 = j + 1 from rfl, show j + 1 - 1 = j from rfl, List.take_succ_eq_append_getElem hj, List.foldl_append]
  simp
theorem minS_or (m x : List Int) : minS m x = m ∨ minS m x = x := by
  unfold minS
  split
  · exact .inr rfl
  · exact .inl rfl
theorem minTo_in {L : List (List Int)} (h0 : L ≠ []) : ∀ k, 1 ≤ k → k ≤ L.length → minTo L k ∈ L
  | 0, h, _ => by omega
  | k + 1, _, h => by
    by_cases hk : k = 0
    · subst hk
      rw [minTo_one]
      cases L with
      | nil => exact absurd rfl h0
      | cons a t => simp
    · rw [minTo_succ (by omega) (by omega)]
      rcases minS_or (minTo L k) L[k] with e | e
      · rw [e]; exact minTo_in h0 k (by omega) (by omega)
      · rw [e]; exact List.getElem_mem _

end Go.Pan

namespace Go.Proofs.Ytmlikchhkblohaa
open Go Go.RowKit Go.Pan

set_option maxHeartbeats 4000000 in
set_option maxRecDepth 100000 in
theorem MinFunc_any (v : Value) (L : List (List Int)) (w : World) (hv : Go.Pan.Own w 9 v L.length (tws L)) (h0 : L ≠ []) (h9 : Hid (∀ q ∈ L, q.length ≤ 9)) (hl : L.length ≤ 1000000000) :
    Calls Try.prog 96 #[v, .func (Fn.func 97) #[] #[]] w fun e w' => e = .returned (tw (minTo L L.length)) ∧ Below w.heap.size w w' := by
  obtain ⟨ad, cap, rfl, hcc, hcm, _⟩ := hv.shape
  have hp : 0 < L.length := List.length_pos_iff.2 h0
  obtain ⟨g, off, rfl, hgl, _, _⟩ := hv.at (by omega)
  have HV := Lib.hid hv
  have HRA := Lib.hid (fun k (hk : k < L.length) => rowAt hv h9.out k hk (by omega))
  have HIN := Lib.hid (fun k (h1 : 1 ≤ k) (h2 : k ≤ L.length) => h9.out _ (minTo_in h0 k h1 h2))
  have HS := Lib.hid (fun k (h1 : 1 ≤ k) (h : k < L.length) => minTo_succ h1 h)
  have hh := HIN.out 1 (Nat.le_refl _) hp
  have hr0 := (HRA.out 0 hp).1
  have e0 : minTo L 1 = L[0] := by
    rw [minTo_one]
    cases L with
    | nil => exact absurd rfl h0
    | cons a t => rfl
  rw [← e0, Nat.zero_mul, Nat.add_zero] at hr0
  have hsz0 : (Try.prog.info? 86).map (·.size) = some (twl (minTo L 1)).length := by rw [Try.infoT, twl_length _ hh]
  obtain ⟨m, hm⟩ : ∃ m, L.length = m := ⟨_, rfl⟩
  have HMM := Lib.hid hm
  have hmi : ¬ ((m : Int) < 1) := by omega
  have hmp : 0 < m := by omega
  have hml : m ≤ 1000000000 := by omega
  rw [hm] at hcc ⊢
  clear hv h0 e0 hp hl hm
  go_enter Try.func96, Try.ntmps96
  have hrA : (w.alloc (.cells (twl []).toArray 86)).rangeAt g off (twl (minTo L 1)) := range_below hr0 (below_new w (.cells (twl []).toArray 86)) hgl
  have hzero : Blk ((w.alloc (.cells (twl []).toArray 86)).alloc (.cells (twl []).toArray 86)) (w.heap.size + 1) 86 (twl []) := by have := Blk.new (w.alloc (.cells (twl []).toArray 86)) 86 (twl []) _ rfl; simpa using this
  have hres0 : Blk ((w.alloc (.cells (twl []).toArray 86)).alloc (.cells (twl []).toArray 86)) w.heap.size 86 (twl []) := (Blk.new w 86 (twl []) _ rfl).alloc _
  have hbA : Below w.heap.size w ((w.alloc (.cells (twl []).toArray 86)).alloc (.cells (twl []).toArray 86)) := ((Below.refl _ w).alloc (Nat.le_refl _) _).alloc (by simp) _
  go_wp2_with (first
    | (refine wpList_load_mid rfl 86 _ rfl g off rfl (twl (minTo L 1)) _ hrA Try.underlying86 rfl hsz0 ?_)
    | (refine wpList_store_tower rfl _ _ rfl (w.heap.size + 1) [] (minTo L 1) (by simp) hh rfl rfl hzero ?_; intro w3 hbT3 hgr3; have hz3 := hbT3.lt))
  have hres3 := hres0.grown hgr3 (by simp)
  have hb3 := hbA.grown hgr3 (by simp; omega) (fun k e => by cases e; omega)
  clear hrA hzero hres0 hbA hgr3 hr0 hsz0 hh
  go_loopw [6] (fun i wr => ∃ k : Nat, 1 ≤ k ∧ k ≤ m ∧ i = .int .i64 k ∧ Blk wr (w.heap.size + 1) 86 (twl (minTo L k)) ∧ Blk wr w.heap.size 86 (twl []) ∧ Below w.heap.size w wr) (fun i _ => m - (intOf i).toNat)
  case atStart => exact ⟨1, Nat.le_refl _, by omega, rfl, hbT3, hres3, hb3⟩
  case round =>
    obtain ⟨k, hk1, hk, rfl, hbT, hres, hbr⟩ := hrel
    clear hbT3 hres3 hb3
    have hk9 := HIN.out k hk1 (by rw [HMM.out]; exact hk)
    have hzT := hbT.lt
    by_cases hlt : k < m
    · have hlt' : (k : Int) < (m : Int) := by omega
      have hkl : k < L.length := by rw [HMM.out]; exact hlt
      obtain ⟨x, hx⟩ : ∃ x, L[k] = x := ⟨_, rfl⟩
      have hra := HRA.out k hkl
      have hS := HS.out k hk1 hkl
      have hx9 : x.length ≤ 9 := by rw [← hx]; exact h9.out _ (List.getElem_mem hkl)
      rw [hx] at hra hS
      obtain ⟨y, hy⟩ : ∃ y, minTo L k = y := ⟨_, rfl⟩
      rw [hy] at hS hbT hk9
      have hrr := range_below hra.1 hbr hgl
      have hry := hbT.range
      have HSS := Lib.hid hS
      have hut := Try.underlying86
      have hszx : (Try.prog.info? 86).map (·.size) = some (twl x).length := by rw [Try.infoT, twl_length _ hx9]
      have hszy : (Try.prog.info? 86).map (·.size) = some (twl y).length := by rw [Try.infoT, twl_length _ hk9]
      have HY := Lib.hid hy
      clear hx hkl hra hS hy
      have cC := fun W => compareTowers_any x y hx9 hk9 W
      obtain ⟨c, hc⟩ : ∃ c, cmpL (pad9 x) (pad9 y) = c := ⟨_, rfl⟩
      simp only [hc] at cC
      have HC := Lib.hid hc
      have CC := Lib.hid cC
      clear hc cC
      go_upto_region 7 with fail
      refine wp_region_held_drew (S := (fun w' => w'.rangeAt g (off + k * 9) (twl x) ∧ w'.rangeAt (w.heap.size + 1) 0 (twl y) ∧ Below wr.heap.size wr w')) (by kernel_rfl) (⟨hrr, hry, (Below.refl _ _).drew⟩) (fun hHeld => ?_)
      refine wpAnyH_take (i := 0) (v := ?_) rfl (by kernel_rfl) (by kernel_rfl) (by kernel_rfl) (fun _ _ _ h => h) (Or.inl ⟨by rfl, ?_⟩) (by assumption) ?_
      rotate_left
      · intro w _; go_simp; with_reducible rfl
      try simp only [List.getElem_toArray, List.getElem_cons_zero, Act.put, List.setIfInBounds_toArray, List.set_cons_zero, List.set_cons_succ]
      refine wpAnyH_take (i := 1) (v := ?_) rfl (by kernel_rfl) (by kernel_rfl) (by kernel_rfl) (fun _ _ _ h => h) (Or.inl ⟨by rfl, ?_⟩) (by assumption) ?_
      rotate_left
      · intro w _; go_simp; with_reducible rfl
      try simp only [List.getElem_toArray, List.getElem_cons_zero, List.getElem_cons_succ, Act.put, List.setIfInBounds_toArray, List.set_cons_zero, List.set_cons_succ]
      refine wpAnyH_take (i := 2) (v := ?_) rfl (by kernel_rfl) (by kernel_rfl) (by kernel_rfl) (fun _ _ _ h => h) (Or.inl ⟨by rfl, ?_⟩) (by assumption) ?_
      rotate_left
      · intro w _; go_simp; with_reducible rfl
      try simp only [List.getElem_toArray, List.getElem_cons_zero, List.getElem_cons_succ, Act.put, List.setIfInBounds_toArray, List.set_cons_zero, List.set_cons_succ]
      refine wpAnyH_take (i := 3) (v := ?_) rfl (by kernel_rfl) (by kernel_rfl) (by kernel_rfl) (fun _ _ _ h => h) (Or.inl ⟨by rfl, ?_⟩) (by assumption) ?_
      rotate_left
      · intro w _; go_simp; with_reducible rfl
      try simp only [List.getElem_toArray, List.getElem_cons_zero, List.getElem_cons_succ, Act.put, List.setIfInBounds_toArray, List.set_cons_zero, List.set_cons_succ]
      refine wpAnyH_take (i := 4) rfl (by kernel_rfl) (by kernel_rfl) (by kernel_rfl) (fun _ _ _ h => h) (yieldsIf_load_mid (by rfl) _ _ rfl _ _ rfl _ _ (fun w hw => hw.1) hut rfl hszx) (by assumption) ?_
      try simp only [List.getElem_toArray, List.getElem_cons_zero, List.getElem_cons_succ, Act.put, List.setIfInBounds_toArray, List.set_cons_zero, List.set_cons_succ]
      refine wpAnyH_take (i := 5) rfl (by kernel_rfl) (by kernel_rfl) (by kernel_rfl) (fun _ _ _ h => h) (yieldsIf_load_mid (by rfl) _ _ rfl _ _ rfl _ _ (fun w hw => hw.2.1) hut rfl hszy) (by assumption) ?_
      try simp only [List.getElem_toArray, List.getElem_cons_zero, List.getElem_cons_succ, Act.put, List.setIfInBounds_toArray, List.set_cons_zero, List.set_cons_succ]
      have hzz := hHeld.2.2.size
      have hzw := hbr.size
      refine wpAnyH_ready (rs := [6]) (by kernel_rfl) (by simp) ?_
      refine AllReadyH.cons rfl (fun K hK => ?_) AllReadyH.nil
      go_simp
      refine (CC.out _).mono ?_
      rintro e w5 ⟨rfl, hb5⟩
      go_wp2_with fail
      refine hK.out _ _ (⟨range_below hHeld.1 hb5 (by omega), range_below hHeld.2.1 hb5 (by omega), hHeld.2.2.trans (hb5.mono hHeld.2.2.size)⟩) (fun hHeld => ?_)
      clear hK K
      try simp only [List.getElem_toArray, List.getElem_cons_zero, List.getElem_cons_succ, Act.put, List.setIfInBounds_toArray, List.set_cons_zero, List.set_cons_succ]
      refine wpAnyH_take (i := 7) (v := ?_) rfl (by kernel_rfl) (by kernel_rfl) (by kernel_rfl) (fun _ _ _ h => h) (Or.inl ⟨by rfl, ?_⟩) (by assumption) ?_
      rotate_left
      · intro w _; go_simp; with_reducible rfl
      try simp only [List.getElem_toArray, List.getElem_cons_zero, List.getElem_cons_succ, Act.put, List.setIfInBounds_toArray, List.set_cons_zero, List.set_cons_succ]
      refine wpAnyH_done (by kernel_rfl) ?_ _
      have hr5 := hHeld.1
      have hbT5 := hbT.below hHeld.2.2 hzT
      have hres5 := hres.below hHeld.2.2 hres.lt
      have hB5 := hbr.trans (hHeld.2.2.mono hzw)
      have hz5 := hHeld.2.2.size
      clear hHeld hrr hry hbT hres hbr hb5
      by_cases hneg : c < 0
      · have HN := Lib.hid (show minTo L (k + 1) = x by rw [HSS.out]; unfold minS; rw [HC.out, if_pos (decide_eq_true hneg)])
        go_wp2_with (first
          | (refine wpList_load_mid rfl 86 _ rfl g (off + k * 9) rfl (twl x) _ hr5 Try.underlying86 rfl hszx ?_)
          | (refine wpList_store_tower rfl _ _ rfl (w.heap.size + 1) y x hk9 hx9 rfl rfl hbT5 ?_; intro w6 hbT6 hgr6; have hz6 := hbT6.lt))
        have hres6 := hres5.grown hgr6 (by simp)
        have hB6 := hB5.grown hgr6 (by omega) (fun j e => by cases e; omega)
        clear hres5 hbT5 hB5 hgr6 hr5
        go_roundw
        case rel => exact ⟨k + 1, by omega, by omega, by go_num, by rw [HN.out]; exact hbT6, hres6, hB6⟩
        case measure => simp [intOf] <;> omega
      · have HN := Lib.hid (show minTo L (k + 1) = y by rw [HSS.out]; unfold minS; rw [HC.out, if_neg (by rw [decide_eq_false hneg]; exact Bool.false_ne_true)])
        have hneg' : ¬ (c < 0) := hneg
        clear hr5
        go_wp2
        go_roundw
        case rel => exact ⟨k + 1, by omega, by omega, by go_num, by rw [HN.out]; exact hbT5, hres5, hB5⟩
        case measure => simp [intOf] <;> omega
    · obtain rfl : k = m := by omega
      clear hlt
      go_wp2_with (first
        | (refine wpList_load_tower rfl _ rfl (w.heap.size + 1) (minTo L k) hk9 rfl hbT ?_)
        | (refine wpList_store_tower rfl _ _ rfl w.heap.size [] (minTo L k) (by simp) hk9 rfl rfl hres ?_; intro w6 hbT6 hgr6; have hz6 := hbT6.lt))
      have hB6 := hbr.grown hgr6 hbr.size (fun j e => by cases e; omega)
      exact bodyPost_ret (results_tower rfl _ _ w.heap.size (minTo L k) hk9 rfl hbT6) rfl ⟨rfl, hB6⟩

end Go.Proofs.Ytmlikchhkblohaa

