import Derived.Test.YtlhagdldmpnbfaaNT
import Derived.Test.YtlhagdldmpnbfaaGE
import Derived.Test.YtlhagdldmpnbfaaI3
import Derived.Test.YtlhagdldmpnbfaaG9
import Derived.Test.YtlhagdldmpnbfaaI10
import Derived.Test.YtlhagdldmpnbfaaSC
namespace Go.Proofs.Ytlhagdldmpnbfaa
open Go Go.RowKit Go.Pan

set_option maxRecDepth 100000 in
theorem plainTurns_any (m : Nat) (w : World) (h1 : 1 ≤ m) (hm : m ≤ 9) :
    Calls Try.prog 159 #[.int .i64 m] w fun e w' => ∃ r, e = .returned r ∧ OwnI w' r (ramp 2 (m - 1)) ∧ From w.heap.size r ∧ Below w.heap.size w w' := by
  have c := turnsFrom_any 2 m w (by omega) (by omega) (by omega)
  have HC := Lib.hid c
  clear c
  have HE := Lib.hid (show m + 1 - 2 = m - 1 by omega)
  go_enter Try.func159, Try.ntmps159
  go_wp2_with fail
  refine HC.out.mono ?_
  rintro e w1 ⟨r, rfl, ho, hf, hb⟩
  rw [HE.out] at ho
  go_wp2
  go_ret
  exact ⟨_, rfl, ho, hf, hb⟩

set_option maxRecDepth 100000 in
set_option maxHeartbeats 800000 in
theorem plainTurned_any (pv : Value) (xs : List Int) (k : Nat) (w : World) (h9 : xs.length ≤ 9) (hk : k ≤ xs.length) :
    Calls Try.prog 158 #[pv, tw xs, .int .i64 k] w fun e w' => e = .returned (tw (turnL xs k)) ∧ Below w.heap.size w w' := by
  have hbx : Blk ((w.alloc (.cells (twl xs).toArray 43)).alloc (.cells (twl []).toArray 43)) w.heap.size 43 (twl xs) := (Blk.new w _ (twl xs) _ rfl).alloc _
  have hz : Blk ((w.alloc (.cells (twl xs).toArray 43)).alloc (.cells (twl []).toArray 43)) (w.heap.size + 1) 43 (twl []) := Blk.new _ _ (twl []) _ (by simp)
  have hb0 : Below w.heap.size w ((w.alloc (.cells (twl xs).toArray 43)).alloc (.cells (twl []).toArray 43)) := ((Below.refl _ _).alloc (Nat.le_refl _) _).alloc (by simp) _
  have HT := Lib.hid (twl_length xs h9)
  have h9t : (turnL xs k).length ≤ 9 := by rw [turnL_length]; exact h9
  have H9T := Lib.hid (twl_length _ h9t)
  go_enter Try.func158, Try.ntmps158
  go_wp2_with (first | (refine wpList_load_tower rfl _ rfl w.heap.size xs h9 rfl hbx ?_))
  refine (turned_any _ _ _ h9 hk).mono ?_
  rintro e w2 ⟨rfl, hb2⟩
  have hz2 := hz.below hb2 hz.lt
  have hB2 := hb0.trans (hb2.mono hb0.size)
  clear hbx hz hb2 hb0
  go_wp2_with (first | (refine wpList_store_tower rfl _ _ rfl (w.heap.size + 1) [] (turnL xs k) (by simp) h9t rfl rfl hz2 ?_; intro w5 hbT5 hgr5))
  have hB5 := hB2.grown hgr5 hB2.size (by intro k hk; cases hk; omega)
  exact bodyPost_ret (results_tower rfl _ _ (w.heap.size + 1) (turnL xs k) h9t rfl hbT5) rfl ⟨rfl, hB5⟩

theorem plain_mT (m : Nat) (u : World) : Sem.run Try.prog (method 214 69 (.int .i64 m) "loop.example/g01221/impl.turns") u = .ok (159, .int .i64 m) u := by kernel_rfl
theorem plain_mD (m : Nat) (u : World) : Sem.run Try.prog (method 214 69 (.int .i64 m) "loop.example/g01221/impl.turned") u = .ok (158, .int .i64 m) u := by kernel_rfl

theorem plain_GP {m : Nat} (h1 : 1 ≤ m) (h7 : m ≤ 7) : GP (pG m) 69 (.int .i64 m) 159 158 where
  mT := plain_mT m
  mD := plain_mD m
  cT := fun args u => by go_simp
  cD := fun args u => by go_simp
  rb := fun _ _ _ _ => trivial
  turns := fun u _ => by
    rw [pks_ramp h1]
    exact plainTurns_any m u h1 (by omega)
  turned := fun q k u _ hq hk => by
    have h1 := mem_ks.1 hk
    have h2 : q.length = m := hq.2
    exact plainTurned_any _ q k u (by omega) (by omega)

set_option maxHeartbeats 800000 in
set_option maxRecDepth 100000 in
theorem plainWave_any (m : Nat) (w : World) (hm : Cnt m) (h7 : m ≤ 7) :
    Calls Try.prog 102 #[.int .i64 m] w fun e w' => ∃ g cap ms, e = .returned (.slice (some ⟨g, 0, none⟩) (gecc (pG m) (ramp 1 m) + 1) cap) ∧ Wv (pG m) w' w.heap.size (.slice (some ⟨g, 0, none⟩) (gecc (pG m) (ramp 1 m) + 1 + 1) cap) ms (gnearL (pG m) (ramp 1 m) (gecc (pG m) (ramp 1 m) + 1)) ∧ Below w.heap.size w w' := by
  have HC := Lib.hid (pG_ok hm h7)
  have HH := Lib.hid (show (pG m).St (ramp 1 m) from hm.home)
  have HP := Lib.hid (plain_GP hm.pos h7)
  have hks : (pG m).ks.length ≤ 1000 := by rw [pks_length]; omega
  have h9 := hm.le
  clear hm
  go_enter Try.func102, Try.ntmps102
  go_wp2_with fail
  refine (sortedTower_any m w (by omega)).mono ?_
  rintro e w3 ⟨rfl, hb3⟩
  have c4 := wholeWave_any (pG m) _ _ _ _ (ramp 1 m) w3 HC HP hks HH
  go_wp2_with fail
  refine c4.mono ?_
  rintro e w4 ⟨g, cap2, ms, rfl, hW, hb4⟩
  clear c4
  go_wp2
  go_ret
  exact ⟨g, cap2, ms, rfl, hW.mono hb3.size, hb3.trans (hb4.mono hb3.size)⟩

end Go.Proofs.Ytlhagdldmpnbfaa

namespace Go.Pan
theorem pnearC (n : Nat) (s : List Int) (i : Nat) : gnearC (pG n) s i = nearC n s i := by
  funext q
  unfold gnearC nearC
  rw [pfar, pways]
theorem pwayC (n : Nat) (s t : List Int) (i j : Nat) : gwayC (pG n) s t i j = wayC n s t i j := by
  funext q
  unfold gwayC wayC
  rw [pfar, pfar, pways]
theorem pclo (n : Nat) (t q : List Int) : gclo (pG n) t q = clo n t q := by
  funext k
  unfold gclo clo
  rw [pfar, pfar]
  rfl
theorem pfirK (n : Nat) (t q : List Int) : gfirK (pG n) t q = firK n t q := by
  unfold gfirK firK
  rw [pclo]
  rfl
theorem pgoL (n : Nat) (t : List Int) (e : Nat) (q : List Int) : ggoL (pG n) t e q = goL n t e q := by
  induction e generalizing q with
  | zero => rfl
  | succ e ih =>
    rw [ggoL, goL, pfirK, ih]
    rfl
theorem ppickL (n : Nat) (P : Nat → Bool) : gpickL (pG n) P = pickL P n := rfl

end Go.Pan

namespace Go.Proofs.Ytlhagdldmpnbfaa
open Go Go.RowKit Go.Pan

theorem isSearched_any (v : Value) (xs : List Int) (w : World) (hv : OwnI w v xs) (hn : xs.length ≤ 1048576) :
    Calls Try.prog 110 #[v] w fun e w' => e = .returned (.bool (farB xs)) ∧ Below w.heap.size w w' := by
  obtain ⟨ad, cap, rfl, hc, _, _⟩ := hv.shape
  have c := IsStack_any _ xs w hv hn
  cases hg : goodB xs with
  | true =>
    have HF := Lib.hid (show farB xs = inB xs.length 1 7 by have := (goodB_iff.1 hg).1; rw [Bool.eq_iff_iff]; simp [farB, inB, hg]; omega)
    rw [hg] at c
    clear hg
    go_enter Try.func110, Try.ntmps110
    go_wp2_with fail
    refine c.mono ?_
    rintro e w1 ⟨rfl, hb⟩
    clear c
    go_wp2_with fail
    refine (isSearchedCount_any _ _).mono ?_
    rintro e w2 ⟨rfl, rfl⟩
    go_wp2
    go_ret
    exact ⟨by rw [HF.out]; rfl, hb⟩
  | false =>
    have HF := Lib.hid (show farB xs = false by unfold farB; rw [hg]; rfl)
    rw [hg] at c
    clear hg
    go_enter Try.func110, Try.ntmps110
    go_wp2_with fail
    refine c.mono ?_
    rintro e w1 ⟨rfl, hb⟩
    clear c
    go_wp2
    go_ret
    exact ⟨by rw [HF.out]; rfl, hb⟩

set_option maxHeartbeats 1600000 in
set_option maxRecDepth 100000 in
theorem wayHome_yes (v : Value) (xs : List Int) (w : World) (hv : OwnI w v xs) (hn : xs.length ≤ 1048576) (hg : farB xs = true) :
    Calls Try.prog 94 #[v] w fun e w' => ∃ g cap ms, e = .returned (.tuple #[.slice (some ⟨g, 0, none⟩) (farS xs + 1) cap, .bool true]) ∧ Wv (pG xs.length) w' w.heap.size (.slice (some ⟨g, 0, none⟩) (farS xs + 1) cap) ms (wayP (pG xs.length) xs (ramp 1 xs.length) (farS xs) (farS xs)) ∧ Below w.heap.size w w' := by
  obtain ⟨hG, h7⟩ := farB_iff.1 hg
  have HC := Lib.hid (pG_ok hG.cnt h7)
  have HS := Lib.hid (show (pG xs.length).St xs from hG.st)
  have HH := Lib.hid (show (pG xs.length).St (ramp 1 xs.length) from hG.home)
  have HP := Lib.hid (plain_GP hG.1 h7)
  have hks : (pG xs.length).ks.length ≤ 1000 := by rw [pks_length]; omega
  have h9 := hG.le9
  have c := isSearched_any _ xs w hv hn
  rw [hg] at c
  obtain ⟨ad, cap, rfl, _, _, _⟩ := hv.shape
  clear hG hg
  go_enter Try.func94, Try.ntmps94
  go_wp2_with fail
  refine c.mono ?_
  rintro e w1 ⟨rfl, hb1⟩
  clear c
  go_wp2_with fail
  refine (towerOf_any _ xs w1 (hv.same hb1) h9).mono ?_
  rintro e w2 ⟨rfl, hb2⟩
  go_wp2_with fail
  refine (sortedTower_any _ w2 h9).mono ?_
  rintro e w3 ⟨rfl, hb3⟩
  have hB2 := hb1.trans (hb2.mono hb1.size)
  have hB3 := hB2.trans (hb3.mono hB2.size)
  have c4 := way_any (pG xs.length) _ _ _ _ xs (ramp 1 xs.length) w3 HC HP hks HS HH
  rw [pfar] at c4
  go_wp2_with fail
  refine c4.mono ?_
  rintro e w4 ⟨g, cap2, ms, rfl, hW, hb4⟩
  clear c4
  go_wp2
  go_ret2
  exact ⟨g, cap2, ms, rfl, hW.mono hB3.size, hB3.trans (hb4.mono hB3.size)⟩

theorem wayHome_no (v : Value) (xs : List Int) (w : World) (hv : OwnI w v xs) (hn : xs.length ≤ 1048576) (hg : farB xs = false) :
    Calls Try.prog 94 #[v] w fun e w' => e = .returned (.tuple #[.slice none 0 0, .bool false]) ∧ Below w.heap.size w w' := by
  have c := isSearched_any _ xs w hv hn
  rw [hg] at c
  obtain ⟨ad, cap, rfl, _, _, _⟩ := hv.shape
  clear hg
  go_enter Try.func94, Try.ntmps94
  go_wp2_with fail
  refine c.mono ?_
  rintro e w1 ⟨rfl, hb1⟩
  clear c
  go_wp2
  go_ret2
  exact ⟨rfl, hb1⟩

set_option maxHeartbeats 1600000 in
set_option maxRecDepth 100000 in
theorem wayBetween_yes (v u : Value) (xs ys : List Int) (w : World) (hv : OwnI w v xs) (hn : xs.length ≤ 1048576) (hu : OwnI w u ys) (hm : ys.length ≤ 1048576) (hg : twoB xs ys = true) :
    Calls Try.prog 106 #[v, u] w fun e w' => ∃ g cap ms, e = .returned (.tuple #[.slice (some ⟨g, 0, none⟩) (far2 xs ys + 1) cap, .bool true]) ∧ Wv (pG xs.length) w' w.heap.size (.slice (some ⟨g, 0, none⟩) (far2 xs ys + 1) cap) ms (wayP (pG xs.length) xs ys (far2 xs ys) (far2 xs ys)) ∧ Below w.heap.size w w' := by
  obtain ⟨hG, h7, hH, hl⟩ := twoB_iff.1 hg
  have HC := Lib.hid (pG_ok hG.cnt h7)
  have HS := Lib.hid (show (pG xs.length).St xs from hG.st)
  have HH := Lib.hid (show (pG xs.length).St ys from ⟨hH, hl.symm⟩)
  have HP := Lib.hid (plain_GP hG.1 h7)
  have hks : (pG xs.length).ks.length ≤ 1000 := by rw [pks_length]; omega
  have h9 := hG.le9
  have h9y := hH.le9
  have c := isSearched_any _ xs w hv hn
  rw [farB_iff.2 ⟨hG, h7⟩] at c
  have hgy : farB ys = true := farB_iff.2 ⟨hH, by omega⟩
  obtain ⟨ad, cap, rfl, _, _, _⟩ := hv.shape
  obtain ⟨ad2, cap2, rfl, _, _, _⟩ := hu.shape
  obtain ⟨n, hnn⟩ : ∃ n, xs.length = n := ⟨_, rfl⟩
  obtain ⟨d, hd⟩ : ∃ d, far xs.length xs ys = d := ⟨_, rfl⟩
  rw [show far2 xs ys = d from hd]
  rw [hnn] at HC HS HH HP hks h7 hd ⊢
  have hyn : ys.length = n := by omega
  rw [hnn] at hv
  rw [hyn] at hu
  rw [hnn] at c
  rw [hyn]
  clear hG hg hH hl hnn hyn
  go_enter Try.func106, Try.ntmps106
  go_wp2_with fail
  refine c.mono ?_
  rintro e w1 ⟨rfl, hb1⟩
  clear c
  have c2 := isSearched_any _ ys w1 (hu.same hb1) hm
  rw [hgy] at c2
  clear hgy
  go_wp2_with fail
  refine c2.mono ?_
  rintro e w2 ⟨rfl, hb2⟩
  clear c2
  have hB2 := hb1.trans (hb2.mono hb1.size)
  go_wp2_with fail
  refine (towerOf_any _ xs w2 (hv.same hB2) h9).mono ?_
  rintro e w3 ⟨rfl, hb3⟩
  have hB3 := hB2.trans (hb3.mono hB2.size)
  go_wp2_with fail
  refine (towerOf_any _ ys w3 (hu.same hB3) h9y).mono ?_
  rintro e w4 ⟨rfl, hb4⟩
  have hB4 := hB3.trans (hb4.mono hB3.size)
  have c4 := way_any (pG n) _ _ _ _ xs ys w4 HC HP hks HS HH
  rw [pfar, hd] at c4
  go_wp2_with fail
  refine c4.mono ?_
  rintro e w5 ⟨g, cap3, ms, rfl, hW, hb5⟩
  clear c4
  go_wp2
  go_ret2
  exact ⟨g, cap3, ms, rfl, hW.mono hB4.size, hB4.trans (hb5.mono hB4.size)⟩

set_option maxHeartbeats 1600000 in
set_option maxRecDepth 100000 in
theorem wayBetween_no (v u : Value) (xs ys : List Int) (w : World) (hv : OwnI w v xs) (hn : xs.length ≤ 1048576) (hu : OwnI w u ys) (hm : ys.length ≤ 1048576) (hg : twoB xs ys = false) :
    Calls Try.prog 106 #[v, u] w fun e w' => e = .returned (.tuple #[.slice none 0 0, .bool false]) ∧ Below w.heap.size w w' := by
  have c := isSearched_any _ xs w hv hn
  obtain ⟨ad, cap, rfl, _, _, _⟩ := hv.shape
  obtain ⟨ad2, cap2, rfl, _, _, _⟩ := hu.shape
  cases hx : farB xs with
  | false =>
    rw [hx] at c
    clear hx hg
    go_enter Try.func106, Try.ntmps106
    go_wp2_with fail
    refine c.mono ?_
    rintro e w1 ⟨rfl, hb1⟩
    clear c
    go_wp2
    go_ret2
    exact ⟨rfl, hb1⟩
  | true =>
    cases hy : farB ys with
    | false =>
      rw [hx] at c
      clear hx hg
      go_enter Try.func106, Try.ntmps106
      go_wp2_with fail
      refine c.mono ?_
      rintro e w1 ⟨rfl, hb1⟩
      clear c
      have c2 := isSearched_any _ ys w1 (hu.same hb1) hm
      rw [hy] at c2
      clear hy
      go_wp2_with fail
      refine c2.mono ?_
      rintro e w2 ⟨rfl, hb2⟩
      clear c2
      go_wp2
      go_ret2
      exact ⟨rfl, hb1.trans (hb2.mono hb1.size)⟩
    | true =>
      have hl : ¬ (xs.length : Int) = ys.length := by
        intro e
        have e2 : xs.length = ys.length := by omega
        unfold twoB at hg
        rw [hx, hy] at hg
        simp [e2] at hg
      rw [hx] at c
      clear hx hg
      go_enter Try.func106, Try.ntmps106
      go_wp2_with fail
      refine c.mono ?_
      rintro e w1 ⟨rfl, hb1⟩
      clear c
      have c2 := isSearched_any _ ys w1 (hu.same hb1) hm
      rw [hy] at c2
      clear hy
      go_wp2_with fail
      refine c2.mono ?_
      rintro e w2 ⟨rfl, hb2⟩
      clear c2
      go_wp2
      go_ret2
      exact ⟨rfl, hb1.trans (hb2.mono hb1.size)⟩

theorem run_pair0 (v0 v1 : Value) (w : World) : (Instr.extract (.tuple #[v0, v1]) 0).run Try.prog w = .ok v0 w := by kernel_rfl

theorem StackDistance_any (v : Value) (xs : List Int) (w : World) (hv : OwnI w v xs) (hn : xs.length ≤ 1048576) :
    Calls Try.prog 42 #[v] w fun e w' => e = .returned (.tuple #[.int .i64 (mStackDistance xs), .bool (farB xs)]) ∧ Below w.heap.size w w' := by
  cases hg : farB xs with
  | true =>
    have HM := Lib.hid (show mStackDistance xs = ((farS xs + 1 - 1 : Nat) : Int) from if_pos hg)
    have hG := (farB_iff.1 hg).1
    have hle := farS_le hG
    have h9 := hG.le9
    have c := wayHome_yes _ xs w hv hn hg
    obtain ⟨ad, cap, rfl, _, _, _⟩ := hv.shape
    obtain ⟨d, hd⟩ : ∃ d, farS xs = d := ⟨_, rfl⟩
    rw [hd] at c HM hle
    have hd2 : d + 1 ≤ 1048576 := by omega
    clear hG hg hd
    go_enter Try.func42, Try.ntmps42
    go_wp2_with fail
    refine c.mono ?_
    rintro e w1 ⟨g, cap2, ms, rfl, _, hb1⟩
    clear c
    go_wp2_with fail
    refine (wturns_any _ (d + 1) _ w1 hd2).mono ?_
    rintro e w2 ⟨rfl, rfl⟩
    go_wp2
    go_ret2
    exact ⟨by rw [HM.out]; rfl, hb1⟩
  | false =>
    have HM := Lib.hid (show mStackDistance xs = 0 from if_neg (by rw [hg]; exact Bool.false_ne_true))
    have c := wayHome_no _ xs w hv hn hg
    obtain ⟨ad, cap, rfl, _, _, _⟩ := hv.shape
    clear hg
    go_enter Try.func42, Try.ntmps42
    go_wp2_with fail
    refine c.mono ?_
    rintro e w1 ⟨rfl, hb1⟩
    clear c
    go_wp2_with fail
    refine (wturns_any _ 0 _ w1 (Nat.zero_le _)).mono ?_
    rintro e w2 ⟨rfl, rfl⟩
    go_wp2
    go_ret2
    exact ⟨by rw [HM.out]; rfl, hb1⟩

theorem DistanceBetween_any (v : Value) (xs : List Int) (u : Value) (ys : List Int) (w : World) (hv : OwnI w v xs) (hn : xs.length ≤ 1048576) (hu : OwnI w u ys) (hm : ys.length ≤ 1048576) :
    Calls Try.prog 54 #[v, u] w fun e w' => e = .returned (.tuple #[.int .i64 (mDistanceBetween xs ys), .bool (twoB xs ys)]) ∧ Below w.heap.size w w' := by
  cases hg : twoB xs ys with
  | true =>
    have HM := Lib.hid (show mDistanceBetween xs ys = ((far2 xs ys + 1 - 1 : Nat) : Int) from if_pos hg)
    obtain ⟨hG, h7, hH, hl⟩ := twoB_iff.1 hg
    have hle : far2 xs ys ≤ 2 * xs.length := (far_spec hG.st ⟨hH, hl.symm⟩).2.1
    have h9 := hG.le9
    have c := wayBetween_yes _ _ xs ys w hv hn hu hm hg
    obtain ⟨ad, cap, rfl, _, _, _⟩ := hv.shape
    obtain ⟨ad2, cap2, rfl, _, _, _⟩ := hu.shape
    obtain ⟨d, hd⟩ : ∃ d, far2 xs ys = d := ⟨_, rfl⟩
    rw [hd] at c HM hle
    have hd2 : d + 1 ≤ 1048576 := by omega
    clear hG hg hd hH hl
    go_enter Try.func54, Try.ntmps54
    go_wp2_with fail
    refine c.mono ?_
    rintro e w1 ⟨g, cap3, ms, rfl, _, hb1⟩
    clear c
    go_wp2_with fail
    refine (wturns_any _ (d + 1) _ w1 hd2).mono ?_
    rintro e w2 ⟨rfl, rfl⟩
    go_wp2
    go_ret2
    exact ⟨by rw [HM.out]; rfl, hb1⟩
  | false =>
    have HM := Lib.hid (show mDistanceBetween xs ys = 0 from if_neg (by rw [hg]; exact Bool.false_ne_true))
    have c := wayBetween_no _ _ xs ys w hv hn hu hm hg
    obtain ⟨ad, cap, rfl, _, _, _⟩ := hv.shape
    obtain ⟨ad2, cap2, rfl, _, _, _⟩ := hu.shape
    clear hg
    go_enter Try.func54, Try.ntmps54
    go_wp2_with fail
    refine c.mono ?_
    rintro e w1 ⟨rfl, hb1⟩
    clear c
    go_wp2_with fail
    refine (wturns_any _ 0 _ w1 (Nat.zero_le _)).mono ?_
    rintro e w2 ⟨rfl, rfl⟩
    go_wp2
    go_ret2
    exact ⟨by rw [HM.out]; rfl, hb1⟩

theorem GapExcess_any (v : Value) (xs : List Int) (w : World) (hv : OwnI w v xs) (hn : xs.length ≤ 1048576) :
    Calls Try.prog 58 #[v] w fun e w' => e = .returned (.tuple #[.int .i64 (mGapExcess xs), .bool (farB xs)]) ∧ Below w.heap.size w w' := by
  have c := StackDistance_any _ xs w hv hn
  cases hg : farB xs with
  | true =>
    have HM := Lib.hid (show mGapExcess xs = (farS xs : Int) - (gapsL xs).length from if_pos hg)
    have hG := (farB_iff.1 hg).1
    have hle := farS_le hG
    have h9 := hG.le9
    have HG := Lib.hid hG
    have HGL := Lib.hid (show (gapsL xs).length ≤ xs.length from gapsL_length xs)
    rw [hg, show mStackDistance xs = (farS xs : Int) from if_pos hg] at c
    obtain ⟨ad, cap, rfl, _, _, _⟩ := hv.shape
    obtain ⟨d, hd⟩ : ∃ d, farS xs = d := ⟨_, rfl⟩
    rw [hd] at c HM hle
    clear hG hg hd
    go_enter Try.func58, Try.ntmps58
    go_wp2_with fail
    refine c.mono ?_
    rintro e w1 ⟨rfl, hb1⟩
    clear c
    go_wp2_with fail
    refine (towerOf_any _ xs w1 (hv.same hb1) h9).mono ?_
    rintro e w2 ⟨rfl, hb2⟩
    have hB2 := hb1.trans (hb2.mono hb1.size)
    go_wp2_with fail
    refine (countGaps_any xs w2 HG).mono ?_
    rintro e w3 ⟨rfl, hb3⟩
    obtain ⟨k, hk⟩ : ∃ k, (gapsL xs).length = k := ⟨_, rfl⟩
    have hk9 : k ≤ xs.length := by rw [← hk]; exact HGL.out
    rw [hk] at HM ⊢
    have hkx : IntKind.i64.wrap ((d : Int) - k) = (d : Int) - k := IntWalk.i64_in _ (by omega)
    clear hk HGL
    go_wp2
    go_ret2
    exact ⟨by rw [HM.out]; rfl, hB2.trans (hb3.mono hB2.size)⟩
  | false =>
    have HM := Lib.hid (show mGapExcess xs = 0 from if_neg (by rw [hg]; exact Bool.false_ne_true))
    rw [hg] at c
    obtain ⟨ad, cap, rfl, _, _, _⟩ := hv.shape
    clear hg
    go_enter Try.func58, Try.ntmps58
    go_wp2_with fail
    refine c.mono ?_
    rintro e w1 ⟨rfl, hb1⟩
    clear c
    go_wp2
    go_ret2
    exact ⟨by rw [HM.out]; rfl, hb1⟩

theorem GreedyExcess_any (v : Value) (xs : List Int) (w : World) (hv : OwnI w v xs) (hn : xs.length ≤ 1048576) :
    Calls Try.prog 60 #[v] w fun e w' => e = .returned (.tuple #[.int .i64 (mGreedyExcess xs), .bool (farB xs)]) ∧ Below w.heap.size w w' := by
  have c := StackDistance_any _ xs w hv hn
  cases hg : farB xs with
  | true =>
    have HM := Lib.hid (show mGreedyExcess xs = ((greedyL xs).length : Int) - (farS xs : Int) from if_pos hg)
    have hG := (farB_iff.1 hg).1
    have hle := farS_le hG
    have h9 := hG.le9
    have HG := Lib.hid hG
    rw [hg, show mStackDistance xs = (farS xs : Int) from if_pos hg] at c
    obtain ⟨ad, cap, rfl, _, _, _⟩ := hv.shape
    obtain ⟨d, hd⟩ : ∃ d, farS xs = d := ⟨_, rfl⟩
    rw [hd] at c HM hle
    clear hG hg hd
    go_enter Try.func60, Try.ntmps60
    go_wp2_with fail
    refine c.mono ?_
    rintro e w1 ⟨rfl, hb1⟩
    clear c
    go_wp2_with fail
    refine (towerOf_any _ xs w1 (hv.same hb1) h9).mono ?_
    rintro e w2 ⟨rfl, hb2⟩
    have hB2 := hb1.trans (hb2.mono hb1.size)
    go_wp2_with fail
    refine (greedy_any xs w2 HG).mono ?_
    rintro e w3 ⟨r, rfl, ho, _, hb3⟩
    obtain ⟨k, hk⟩ : ∃ k, (greedyL xs).length = k := ⟨_, rfl⟩
    obtain ⟨ad3, cap3, rfl, hc1, hc2, _⟩ := ho.shape
    rw [hk] at HM ho hc1 ⊢
    have hk9 : k ≤ maxLen := by omega
    have hkx : IntKind.i64.wrap ((k : Int) - d) = (k : Int) - d := IntWalk.i64_in _ (by unfold maxLen at hk9; omega)
    clear hk
    go_wp2
    go_ret2
    exact ⟨by rw [HM.out]; rfl, hB2.trans (hb3.mono hB2.size)⟩
  | false =>
    have HM := Lib.hid (show mGreedyExcess xs = 0 from if_neg (by rw [hg]; exact Bool.false_ne_true))
    rw [hg] at c
    obtain ⟨ad, cap, rfl, _, _, _⟩ := hv.shape
    clear hg
    go_enter Try.func60, Try.ntmps60
    go_wp2_with fail
    refine c.mono ?_
    rintro e w1 ⟨rfl, hb1⟩
    clear c
    go_wp2
    go_ret2
    exact ⟨by rw [HM.out]; rfl, hb1⟩

def litI : DD → Int
  | .lit (.int _ c) => c
  | _ => 0

theorem CountLeastPlans_any (v : Value) (xs : List Int) (w : World) (hv : OwnI w v xs) (hn : xs.length ≤ 1048576) :
    Calls Try.prog 46 #[v] w fun e w' => e = .returned (.tuple #[.int .i64 (mCountLeastPlans xs), .bool (farB xs)]) ∧ Below w.heap.size w w' := by
  cases hg : farB xs with
  | true =>
    have HM := Lib.hid (show mCountLeastPlans xs = (waysS xs : Int) from if_pos hg)
    have hG := (farB_iff.1 hg).1
    have hle := farS_le hG
    have h9 := hG.le9
    have c := wayHome_yes _ xs w hv hn hg
    have HC := Lib.hid (pG_ok hG.cnt (farB_iff.1 hg).2)
    have HST := Lib.hid (show (pG xs.length).St (ramp 1 xs.length) from hG.home)
    have HWC := Lib.hid (show gwayC (pG xs.length) xs (ramp 1 xs.length) (farS xs) (farS xs - farS xs) (ramp 1 xs.length) = waysS xs by
      rw [pwayC]
      unfold wayC waysS
      rw [if_pos ⟨rfl, by rw [(far_zero hG.home hG.home).2 rfl]; omega⟩])
    obtain ⟨ad, cap, rfl, _, _, _⟩ := hv.shape
    obtain ⟨n, hnn⟩ : ∃ n, xs.length = n := ⟨_, rfl⟩
    rw [hnn] at HC HST HWC c h9 hle
    rw [hnn]
    obtain ⟨d, hd⟩ : ∃ d, farS xs = d := ⟨_, rfl⟩
    rw [hd] at c hle HWC
    have hd2 : d + 1 ≤ 1048576 := by omega
    rw [hnn] at hv
    clear hG hg hd hnn
    go_enter Try.func46, Try.ntmps46
    go_wp2_with fail
    refine c.mono ?_
    rintro e w1 ⟨g, cap2, ms, rfl, hW, hb1⟩
    clear c
    have hml : ms.length = d + 1 := by rw [hW.len, wayP_length]
    obtain ⟨bl, hbl⟩ : ∃ x, ms[d]? = some x := ⟨_, List.getElem?_eq_getElem (by omega)⟩
    have hlast : ms.getLast? = some bl := by rw [List.getLast?_eq_getElem?, hml]; exact hbl
    have hly := (hW.lay d bl _ hbl (wayP_get _ _ _ _ _ _ (Nat.le_refl _))).1
    have c2 := wlast_any (pG n) _ _ ms _ bl w1 hW hlast (by omega)
    clear hW hbl hlast hml
    go_wp2_with fail
    refine c2.mono ?_
    rintro e w2 ⟨rfl, rfl⟩
    clear c2
    go_wp2_with fail
    refine (sortedTower_any n w1 h9).mono ?_
    rintro e w3 ⟨rfl, hb3⟩
    obtain ⟨D, hown, hL⟩ := hly.below hb3 (Nat.le_refl _)
    have hat := hL.at0 HST.out
    rw [HWC.out] at hat
    have HAT := Lib.hid hat
    have hkey := key_tw HC.out HST.out
    clear hL hat
    go_wp2_with (at_lookup; refine wpList_lookup_own_int _ rfl _ _ 71 rfl 43 3 .i64 keyd Try.underlying71 Try.underlying3 (zeroI _) bl (pG n).all.length D rfl hown _ (kl (ramp 1 n)) rfl hkey ?_; intro c0 hc0 _)
    go_ret2
    have he : c0 = (waysS xs : Int) := by
      have h1 := HAT.out.symm.trans hc0
      exact (congrArg litI h1).symm
    exact ⟨by rw [HM.out, ← he]; rfl, hb1.trans (hb3.mono hb1.size)⟩
  | false =>
    have HM := Lib.hid (show mCountLeastPlans xs = 0 from if_neg (by rw [hg]; exact Bool.false_ne_true))
    have c := wayHome_no _ xs w hv hn hg
    obtain ⟨ad, cap, rfl, _, _, _⟩ := hv.shape
    clear hg
    go_enter Try.func46, Try.ntmps46
    go_wp2_with fail
    refine c.mono ?_
    rintro e w1 ⟨rfl, hb1⟩
    clear c
    go_wp2
    go_ret2
    exact ⟨by rw [HM.out]; rfl, hb1⟩

set_option maxHeartbeats 1600000 in
set_option maxRecDepth 100000 in
theorem IsLeastPlan_any (v : Value) (xs : List Int) (u : Value) (ys : List Int) (w : World) (hv : OwnI w v xs) (hn : xs.length ≤ 1048576) (hu : OwnI w u ys) (hm : ys.length ≤ 1048576) :
    Calls Try.prog 62 #[v, u] w fun e w' => e = .returned (.tuple #[.bool (mIsLeastPlan xs ys), .bool (leastB xs ys)]) ∧ Below w.heap.size w w' := by
  have c := isSearched_any _ xs w hv hn
  cases hg : farB xs with
  | true =>
    cases hh : planB xs.length ys with
    | true =>
      obtain ⟨hG, h7⟩ := farB_iff.1 hg
      have hL : leastB xs ys = true := by unfold leastB; rw [hg, hh]; rfl
      have HL := Lib.hid hL
      have HM := Lib.hid (show mIsLeastPlan xs ys = (((far2 xs (playL xs ys) + 1 - 1 : Nat) : Int) == (ys.length : Int)) by unfold mIsLeastPlan; rw [hL, Bool.eq_iff_iff]; simp; omega)
      have HP := Lib.hid (planB_iff.1 hh).2.2
      have HO := Lib.hid (show okPlay xs ys = true by unfold okPlay; rw [goodB_iff.2 hG, hh]; rfl)
      have hT0 : St xs.length (playL xs ys) := ⟨playL_good hG ys, playL_length xs ys⟩
      have hle : far2 xs (playL xs ys) ≤ 2 * xs.length := (far_spec hG.st hT0).2.1
      have HC := Lib.hid (pG_ok hG.cnt h7)
      have HS := Lib.hid (show (pG xs.length).St xs from hG.st)
      have HT := Lib.hid (show (pG xs.length).St (playL xs ys) from hT0)
      have HPP := Lib.hid (plain_GP hG.1 h7)
      have hks : (pG xs.length).ks.length ≤ 1000 := by rw [pks_length]; omega
      have h9 := hG.le9
      rw [hg] at c
      obtain ⟨ad, cap, rfl, _, _, _⟩ := hv.shape
      obtain ⟨ad2, cap2, rfl, _, _, _⟩ := hu.shape
      obtain ⟨d, hd⟩ : ∃ d, far2 xs (playL xs ys) = d := ⟨_, rfl⟩
      have HD := Lib.hid hd
      rw [hd] at HM hle
      have hd2 : d + 1 ≤ 1048576 := by omega
      have hut := Try.underlying43
      have hs9 : (twl xs).length = 9 := twl_length _ h9
      have hsz : (Try.prog.info? 43).map (·.size) = some (twl xs).length := by rw [Try.infoT, hs9]
      clear hG hg hL hh hd hs9 hT0
      go_enter Try.func62, Try.ntmps62
      go_wp2_with fail
      refine c.mono ?_
      rintro e w1 ⟨rfl, hb1⟩
      clear c
      have c2 := isPlanFor_any _ _ xs ys w1 (hv.same hb1) hn (hu.same hb1) hm
      rw [HO.out] at c2
      go_wp2_with fail
      refine c2.mono ?_
      rintro e w2 ⟨rfl, hb2⟩
      clear c2
      have hB2 := hb1.trans (hb2.mono hb1.size)
      go_wp2_with fail
      refine (towerOf_any _ xs w2 (hv.same hB2) h9).mono ?_
      rintro e w3 ⟨rfl, hb3⟩
      have hB3 := hB2.trans (hb3.mono hB2.size)
      clear hb1 hb2 hb3 hB2
      have hz : Blk (w3.alloc (.cells (twl []).toArray 43)) w3.heap.size 43 (twl []) := Blk.new _ _ (twl []) _ rfl
      go_upto_region 4 with (refine wpList_store_tower rfl _ _ rfl w3.heap.size [] xs (by simp) h9 rfl rfl hz ?_; intro w4 hbx hg4)
      have hB4 := (hB3.alloc hB3.size (.cells (twl []).toArray 43)).grown hg4 (by simp; exact Nat.le_succ_of_le hB3.size) (by intro k hk; cases hk; exact hB3.size)
      have hu4 := hu.same hB4.drew
      have hlt := hbx.lt
      have hr := hbx.range
      have HP2 := Lib.hid HP.out
      clear hz hg4 hB3 hbx
      refine wp_region_held_drew (S := (fun w' => w'.rangeAt w3.heap.size 0 (twl xs))) (by kernel_rfl) (hr) (fun hHeld => ?_)
      refine wpAnyH_take (i := 0) rfl (by kernel_rfl) (by kernel_rfl) (by kernel_rfl) (fun _ _ _ h => h) (yieldsIf_load_mid (by rfl) _ _ rfl _ _ rfl _ _ (fun w hw => hw) hut rfl hsz) (by assumption) ?_
      try simp only [List.getElem_toArray, List.getElem_cons_zero, Act.put, List.setIfInBounds_toArray, List.set_cons_zero, List.set_cons_succ]
      refine wpAnyH_take (i := 1) rfl (by kernel_rfl) (by kernel_rfl) (by kernel_rfl) (fun _ _ _ h => h) (yieldsIf_load_mid (by rfl) _ _ rfl _ _ rfl _ _ (fun w hw => hw) hut rfl hsz) (by assumption) ?_
      try simp only [List.getElem_toArray, List.getElem_cons_zero, List.getElem_cons_succ, Act.put, List.setIfInBounds_toArray, List.set_cons_zero, List.set_cons_succ]
      refine wpAnyH_take (i := 2) (v := ?_) rfl (by kernel_rfl) (by kernel_rfl) (by kernel_rfl) (fun _ _ _ h => h) (Or.inl ⟨by rfl, ?_⟩) (by assumption) ?_
      rotate_left
      · intro w _; go_simp; with_reducible rfl
      try simp only [List.getElem_toArray, List.getElem_cons_zero, List.getElem_cons_succ, Act.put, List.setIfInBounds_toArray, List.set_cons_zero, List.set_cons_succ]
      refine wpAnyH_take (i := 4) (v := ?_) rfl (by kernel_rfl) (by kernel_rfl) (by kernel_rfl) (fun _ _ _ h => h) (Or.inl ⟨by rfl, ?_⟩) (by assumption) ?_
      rotate_left
      · intro w _; go_simp; with_reducible rfl
      try simp only [List.getElem_toArray, List.getElem_cons_zero, List.getElem_cons_succ, Act.put, List.setIfInBounds_toArray, List.set_cons_zero, List.set_cons_succ]
      refine wpAnyH_take (i := 5) (v := ?_) rfl (by kernel_rfl) (by kernel_rfl) (by kernel_rfl) (fun _ _ _ h => h) (Or.inl ⟨by rfl, ?_⟩) (by assumption) ?_
      rotate_left
      · intro w _; go_simp; with_reducible rfl
      try simp only [List.getElem_toArray, List.getElem_cons_zero, List.getElem_cons_succ, Act.put, List.setIfInBounds_toArray, List.set_cons_zero, List.set_cons_succ]
      refine wpAnyH_take (i := 6) (v := ?_) rfl (by kernel_rfl) (by kernel_rfl) (by kernel_rfl) (fun _ _ _ h => h) (Or.inl ⟨by rfl, ?_⟩) (by assumption) ?_
      rotate_left
      · intro w _; go_simp; with_reducible rfl
      try simp only [List.getElem_toArray, List.getElem_cons_zero, List.getElem_cons_succ, Act.put, List.setIfInBounds_toArray, List.set_cons_zero, List.set_cons_succ]
      refine wpAnyH_take (i := 9) (v := ?_) rfl (by kernel_rfl) (by kernel_rfl) (by kernel_rfl) (fun _ _ _ h => h) (Or.inl ⟨by rfl, ?_⟩) (by assumption) ?_
      rotate_left
      · intro w _; go_simp; with_reducible rfl
      try simp only [List.getElem_toArray, List.getElem_cons_zero, List.getElem_cons_succ, Act.put, List.setIfInBounds_toArray, List.set_cons_zero, List.set_cons_succ]
      refine wpAnyH_take (i := 10) (v := ?_) rfl (by kernel_rfl) (by kernel_rfl) (by kernel_rfl) (fun _ _ _ h => h) (Or.inl ⟨by rfl, ?_⟩) (by assumption) ?_
      rotate_left
      · intro w _; go_simp; with_reducible rfl
      try simp only [List.getElem_toArray, List.getElem_cons_zero, List.getElem_cons_succ, Act.put, List.setIfInBounds_toArray, List.set_cons_zero, List.set_cons_succ]
      refine wpAnyH_ready (rs := [3]) (by kernel_rfl) (by simp) ?_
      refine AllReadyH.cons rfl (fun K hK => ?_) AllReadyH.nil
      go_simp
      refine (played_any _ xs ys _ h9 hu4 HP2 hm).mono ?_
      rintro e w5 ⟨rfl, hb5⟩
      go_wp2_with fail
      refine hK.out _ _ (range_below hHeld hb5 hlt) (fun hHeld => ?_)
      clear hK K
      try simp only [List.getElem_toArray, List.getElem_cons_zero, List.getElem_cons_succ, Act.put, List.setIfInBounds_toArray, List.set_cons_zero, List.set_cons_succ]
      have hlt5 := Nat.lt_of_lt_of_le hlt hb5.size
      refine wpAnyH_ready (rs := [7]) (by kernel_rfl) (by simp) ?_
      refine AllReadyH.cons rfl (fun K hK => ?_) AllReadyH.nil
      go_simp
      refine (way_any (pG xs.length) _ _ _ _ xs (playL xs ys) w5 HC HPP hks HS HT).mono ?_
      rintro e w6 ⟨g, cap3, ms, rfl, _, hb6⟩
      go_wp2_with fail
      refine hK.out _ _ (range_below hHeld hb6 hlt5) (fun hHeld => ?_)
      clear hK K
      try simp only [List.getElem_toArray, List.getElem_cons_zero, List.getElem_cons_succ, Act.put, List.setIfInBounds_toArray, List.set_cons_zero, List.set_cons_succ]
      rw [show gfar (pG xs.length) xs (playL xs ys) = d from (pfar _ _ _).trans HD.out]
      refine wpAnyH_ready (rs := [8]) (by kernel_rfl) (by simp) ?_
      refine AllReadyH.cons rfl (fun K hK => ?_) AllReadyH.nil
      go_simp
      refine (wturns_any _ (d + 1) _ w6 hd2).mono ?_
      rintro e w7 ⟨rfl, rfl⟩
      go_wp2_with fail
      refine hK.out _ _ (hHeld) (fun hHeld => ?_)
      clear hK K
      try simp only [List.getElem_toArray, List.getElem_cons_zero, List.getElem_cons_succ, Act.put, List.setIfInBounds_toArray, List.set_cons_zero, List.set_cons_succ]
      refine wpAnyH_take (i := 11) (v := ?_) rfl (by kernel_rfl) (by kernel_rfl) (by kernel_rfl) (fun _ _ _ h => h) (Or.inl ⟨by rfl, ?_⟩) (by assumption) ?_
      rotate_left
      · intro w _; go_simp; with_reducible rfl
      try simp only [List.getElem_toArray, List.getElem_cons_zero, List.getElem_cons_succ, Act.put, List.setIfInBounds_toArray, List.set_cons_zero, List.set_cons_succ]
      refine wpAnyH_take (i := 12) (v := ?_) rfl (by kernel_rfl) (by kernel_rfl) (by kernel_rfl) (fun _ _ _ h => h) (Or.inl ⟨by rfl, ?_⟩) (by assumption) ?_
      rotate_left
      · intro w _; go_simp; with_reducible rfl
      try simp only [List.getElem_toArray, List.getElem_cons_zero, List.getElem_cons_succ, Act.put, List.setIfInBounds_toArray, List.set_cons_zero, List.set_cons_succ]
      refine wpAnyH_take (i := 13) (v := ?_) rfl (by kernel_rfl) (by kernel_rfl) (by kernel_rfl) (fun _ _ _ h => h) (Or.inl ⟨by rfl, ?_⟩) (by assumption) ?_
      rotate_left
      · intro w _; go_simp; with_reducible rfl
      try simp only [List.getElem_toArray, List.getElem_cons_zero, List.getElem_cons_succ, Act.put, List.setIfInBounds_toArray, List.set_cons_zero, List.set_cons_succ]
      refine wpAnyH_done (by kernel_rfl) ?_ _
      go_wp2
      go_ret2
      have hB5 := hB4.drew.trans (hb5.mono hB4.size)
      exact ⟨by rw [HM.out, HL.out]; rfl, hB5.trans (hb6.mono hB5.size)⟩
    | false =>
      have HL := Lib.hid (show leastB xs ys = false by unfold leastB; rw [hg, hh]; rfl)
      have HM := Lib.hid (show mIsLeastPlan xs ys = false by unfold mIsLeastPlan leastB; rw [hg, hh]; rfl)
      have HO := Lib.hid (show okPlay xs ys = false by unfold okPlay; rw [hh]; simp)
      rw [hg] at c
      obtain ⟨ad, cap, rfl, _, _, _⟩ := hv.shape
      obtain ⟨ad2, cap2, rfl, _, _, _⟩ := hu.shape
      clear hg hh
      go_enter Try.func62, Try.ntmps62
      go_wp2_with fail
      refine c.mono ?_
      rintro e w1 ⟨rfl, hb1⟩
      clear c
      have c2 := isPlanFor_any _ _ xs ys w1 (hv.same hb1) hn (hu.same hb1) hm
      rw [HO.out] at c2
      go_wp2_with fail
      refine c2.mono ?_
      rintro e w2 ⟨rfl, hb2⟩
      clear c2
      go_wp2
      go_ret2
      exact ⟨by rw [HM.out, HL.out]; rfl, hb1.trans (hb2.mono hb1.size)⟩
  | false =>
    have HL := Lib.hid (show leastB xs ys = false by unfold leastB; rw [hg]; rfl)
    have HM := Lib.hid (show mIsLeastPlan xs ys = false by unfold mIsLeastPlan leastB; rw [hg]; rfl)
    rw [hg] at c
    obtain ⟨ad, cap, rfl, _, _, _⟩ := hv.shape
    obtain ⟨ad2, cap2, rfl, _, _, _⟩ := hu.shape
    clear hg
    go_enter Try.func62, Try.ntmps62
    go_wp2_with fail
    refine c.mono ?_
    rintro e w1 ⟨rfl, hb1⟩
    clear c
    go_wp2
    go_ret2
    exact ⟨by rw [HM.out, HL.out]; rfl, hb1⟩

end Go.Proofs.Ytlhagdldmpnbfaa

namespace Go.Proofs.Ytlhagdldmpnbfaa
open Go Go.RowKit Go.Pan

set_option maxHeartbeats 1600000 in
set_option maxRecDepth 100000 in
theorem LeastPlan_any (v : Value) (xs : List Int) (w : World) (hv : OwnI w v xs) (hn : xs.length ≤ 1048576) :
    Calls Try.prog 44 #[v] w fun e w' => ∃ r, e = .returned (.tuple #[r, .bool (farB xs)]) ∧ OwnI w' r (mLeastPlan xs) ∧ From w.heap.size r ∧ Below w.heap.size w w' := by
  cases hg : farB xs with
  | true =>
    have HM := Lib.hid (show mLeastPlan xs = ggoL (pG xs.length) (ramp 1 xs.length) (farS xs) xs from (show mLeastPlan xs = goL xs.length (ramp 1 xs.length) (farS xs) xs from if_pos hg).trans (pgoL _ _ _ _).symm)
    have hG := (farB_iff.1 hg).1
    have hle := farS_le hG
    have h9 := hG.le9
    have c := wayHome_yes _ xs w hv hn hg
    have h7 := (farB_iff.1 hg).2
    have HC := Lib.hid (pG_ok hG.cnt h7)
    have HS := Lib.hid (show (pG xs.length).St xs from hG.st)
    have HH := Lib.hid (show (pG xs.length).St (ramp 1 xs.length) from hG.home)
    have HPP := Lib.hid (plain_GP hG.1 h7)
    have hks : (pG xs.length).ks.length ≤ 9 := by rw [pks_length]; omega
    have HD := Lib.hid (show gfar (pG xs.length) xs (ramp 1 xs.length) = farS xs from pfar _ _ _)
    obtain ⟨ad, cap, rfl, _, _, _⟩ := hv.shape
    obtain ⟨d, hd⟩ : ∃ d, farS xs = d := ⟨_, rfl⟩
    rw [hd] at c HM hle HD
    have hd2 : d + 1 ≤ 1048576 := by omega
    clear hG hg hd
    go_enter Try.func44, Try.ntmps44
    go_wp2_with fail
    refine c.mono ?_
    rintro e w1 ⟨g, cap2, ms, rfl, hW, hb1⟩
    clear c
    go_wp2_with fail
    refine (towerOf_any _ xs w1 (hv.same hb1) h9).mono ?_
    rintro e w2 ⟨rfl, hb2⟩
    have hW2 := hW.below hb2 (Nat.le_refl _)
    have hB2 := hb1.trans (hb2.mono hb1.size)
    have c3 := firstPlan_any (pG xs.length) _ _ _ _ d _ g cap2 ms xs (ramp 1 xs.length) w2 HC HPP hks HS HH HD hd2 hW2
    clear hW hW2
    go_wp2_with fail
    refine c3.mono ?_
    rintro e w3 ⟨r, rfl, ho, hf, hb3⟩
    go_wp2
    go_ret2
    exact ⟨_, rfl, by rw [HM.out]; exact ho, hf.mono hB2.size, hB2.trans (hb3.mono hB2.size)⟩
  | false =>
    have HM := Lib.hid (show mLeastPlan xs = [] from if_neg (by rw [hg]; exact Bool.false_ne_true))
    have c := wayHome_no _ xs w hv hn hg
    obtain ⟨ad, cap, rfl, _, _, _⟩ := hv.shape
    clear hg
    go_enter Try.func44, Try.ntmps44
    go_wp2_with fail
    refine c.mono ?_
    rintro e w1 ⟨rfl, hb1⟩
    clear c
    go_wp2
    go_ret2
    exact ⟨_, rfl, by rw [HM.out]; exact OwnI.nil _, From.nil _ _ _, hb1⟩

set_option maxHeartbeats 1600000 in
set_option maxRecDepth 100000 in
theorem PlanBetween_any (v : Value) (xs : List Int) (u : Value) (ys : List Int) (w : World) (hv : OwnI w v xs) (hn : xs.length ≤ 1048576) (hu : OwnI w u ys) (hm : ys.length ≤ 1048576) :
    Calls Try.prog 56 #[v, u] w fun e w' => ∃ r, e = .returned (.tuple #[r, .bool (twoB xs ys)]) ∧ OwnI w' r (mPlanBetween xs ys) ∧ From w.heap.size r ∧ Below w.heap.size w w' := by
  cases hg : twoB xs ys with
  | true =>
    have HM := Lib.hid (show mPlanBetween xs ys = ggoL (pG xs.length) ys (far2 xs ys) xs from (show mPlanBetween xs ys = goL xs.length ys (far2 xs ys) xs from if_pos hg).trans (pgoL _ _ _ _).symm)
    obtain ⟨hG, h7, hH, hl⟩ := twoB_iff.1 hg
    have hle : far2 xs ys ≤ 2 * xs.length := (far_spec hG.st ⟨hH, hl.symm⟩).2.1
    have h9 := hG.le9
    have c := wayBetween_yes _ _ xs ys w hv hn hu hm hg
    have HC := Lib.hid (pG_ok hG.cnt h7)
    have HS := Lib.hid (show (pG xs.length).St xs from hG.st)
    have HH := Lib.hid (show (pG xs.length).St ys from ⟨hH, hl.symm⟩)
    have HPP := Lib.hid (plain_GP hG.1 h7)
    have hks : (pG xs.length).ks.length ≤ 9 := by rw [pks_length]; omega
    have HD := Lib.hid (show gfar (pG xs.length) xs ys = far2 xs ys from pfar _ _ _)
    obtain ⟨ad, cap, rfl, _, _, _⟩ := hv.shape
    obtain ⟨ad2, cap2, rfl, _, _, _⟩ := hu.shape
    obtain ⟨d, hd⟩ : ∃ d, far2 xs ys = d := ⟨_, rfl⟩
    rw [hd] at c HM hle HD
    have hd2 : d + 1 ≤ 1048576 := by omega
    clear hG hg hd hH hl
    go_enter Try.func56, Try.ntmps56
    go_wp2_with fail
    refine c.mono ?_
    rintro e w1 ⟨g, cap3, ms, rfl, hW, hb1⟩
    clear c
    go_wp2_with fail
    refine (towerOf_any _ xs w1 (hv.same hb1) h9).mono ?_
    rintro e w2 ⟨rfl, hb2⟩
    have hW2 := hW.below hb2 (Nat.le_refl _)
    have hB2 := hb1.trans (hb2.mono hb1.size)
    have c3 := firstPlan_any (pG xs.length) _ _ _ _ d _ g cap3 ms xs ys w2 HC HPP hks HS HH HD hd2 hW2
    clear hW hW2
    go_wp2_with fail
    refine c3.mono ?_
    rintro e w3 ⟨r, rfl, ho, hf, hb3⟩
    go_wp2
    go_ret2
    exact ⟨_, rfl, by rw [HM.out]; exact ho, hf.mono hB2.size, hB2.trans (hb3.mono hB2.size)⟩
  | false =>
    have HM := Lib.hid (show mPlanBetween xs ys = [] from if_neg (by rw [hg]; exact Bool.false_ne_true))
    have c := wayBetween_no _ _ xs ys w hv hn hu hm hg
    obtain ⟨ad, cap, rfl, _, _, _⟩ := hv.shape
    obtain ⟨ad2, cap2, rfl, _, _, _⟩ := hu.shape
    clear hg
    go_enter Try.func56, Try.ntmps56
    go_wp2_with fail
    refine c.mono ?_
    rintro e w1 ⟨rfl, hb1⟩
    clear c
    go_wp2
    go_ret2
    exact ⟨_, rfl, by rw [HM.out]; exact OwnI.nil _, From.nil _ _ _, hb1⟩

set_option maxHeartbeats 1600000 in
set_option maxRecDepth 100000 in
theorem CloserTurns_any (v : Value) (xs : List Int) (w : World) (hv : OwnI w v xs) (hn : xs.length ≤ 1048576) :
    Calls Try.prog 48 #[v] w fun e w' => ∃ r, e = .returned (.tuple #[r, .bool (farB xs)]) ∧ OwnI w' r (mCloserTurns xs) ∧ From w.heap.size r ∧ Below w.heap.size w w' := by
  cases hg : farB xs with
  | true =>
    have HM := Lib.hid (show mCloserTurns xs = pickL (clo xs.length (ramp 1 xs.length) xs) xs.length from if_pos hg)
    have hG := (farB_iff.1 hg).1
    have hle := farS_le hG
    have h9 := hG.le9
    have c := wayHome_yes _ xs w hv hn hg
    have h7 := (farB_iff.1 hg).2
    have HC := Lib.hid (pG_ok hG.cnt h7)
    have HS := Lib.hid (show (pG xs.length).St xs from hG.st)
    have HH := Lib.hid (show (pG xs.length).St (ramp 1 xs.length) from hG.home)
    have HPP := Lib.hid (plain_GP hG.1 h7)
    have hks : (pG xs.length).ks.length ≤ 9 := by rw [pks_length]; omega
    have HD := Lib.hid (show far xs.length xs (ramp 1 xs.length) = farS xs from rfl)
    have HS0 := Lib.hid hG.st
    have HH0 := Lib.hid hG.home
    obtain ⟨ad, cap, rfl, _, _, _⟩ := hv.shape
    obtain ⟨d, hd⟩ : ∃ d, farS xs = d := ⟨_, rfl⟩
    rw [hd] at c hle HD
    have hd2 : d + 1 ≤ 1048576 := by omega
    clear hG hg hd
    cases d with
    | zero =>
      have HN := Lib.hid (show mCloserTurns xs = [] by
        rw [HM.out]
        have h : ∀ k ∈ ks xs.length, clo xs.length (ramp 1 xs.length) xs k = (fun _ => false) k := fun k _ => by
          unfold clo
          rw [HD.out]
          simp
        rw [pickL_congr h]
        simp [pickL])
      go_enter Try.func48, Try.ntmps48
      go_wp2_with fail
      refine c.mono ?_
      rintro e w1 ⟨g, cap2, ms, rfl, hW, hb1⟩
      clear c
      go_wp2_with fail
      refine (wturns_any _ (0 + 1) _ w1 hd2).mono ?_
      rintro e w2 ⟨rfl, rfl⟩
      go_wp2
      go_ret2
      exact ⟨_, rfl, by rw [HN.out]; exact OwnI.nil _, From.nil _ _ _, hb1⟩
    | succ d =>
      have HP := Lib.hid (show gpickL (pG xs.length) (fun k => decide (0 < gwayC (pG xs.length) xs (ramp 1 xs.length) 1 (d + 1 - 1) ((pG xs.length).mv xs k))) = mCloserTurns xs by
        rw [HM.out, pwayC, ppickL]
        exact pickL_congr (fun k hk => layer_clo (i := 0) (d := d) HS0.out HH0.out HS0.out ((far_zero HS0.out HS0.out).2 rfl) (by rw [HD.out]) (by rw [HD.out]; omega) hk))
      have hd1 : ((d + 1 : Nat) : Int) ≠ 0 := by omega
      obtain ⟨m, hm⟩ : ∃ m, d + 1 + 1 = m := ⟨_, rfl⟩
      have HMD := Lib.hid hm
      rw [hm] at c hd2
      have hl2 : (1 : Int) < (m : Int) := by omega
      have hl2n : 1 < m := by omega
      clear hm
      go_enter Try.func48, Try.ntmps48
      go_wp2_with fail
      refine c.mono ?_
      rintro e w1 ⟨g, cap2, ms, rfl, hW, hb1⟩
      clear c
      have c2 := wturns_any (some ⟨g, 0, none⟩) m cap2 w1 hd2
      rw [show m - 1 = d + 1 by have := HMD.out; omega] at c2
      go_wp2_with fail
      refine c2.mono ?_
      rintro e w2 ⟨rfl, rfl⟩
      clear c2
      have hml : ms.length = d + 1 + 1 := by rw [hW.len, wayP_length]
      obtain ⟨b1, hb⟩ : ∃ x, ms[1]? = some x := ⟨_, List.getElem?_eq_getElem (by omega)⟩
      have hly := (hW.lay 1 b1 _ hb (wayP_get _ _ _ (d + 1) (d + 1) 1 (by omega))).1
      have hne : ms ≠ [] := by rintro rfl; simp at hml
      obtain ⟨gg, cc, hsh, _, hgl, _, hcl⟩ := hW.shape hne
      simp only [Value.slice.injEq, Option.some.injEq, Addr.mk.injEq, and_true] at hsh
      obtain ⟨rfl, hlx, rfl⟩ := hsh
      have hc1 := hcl 1 b1 hb
      clear hlx
      have hv1 : OwnI w1 (.slice ad xs.length cap) xs := (show OwnI w (.slice ad xs.length cap) xs from hv).same hb1
      clear hW hcl hml hb hne
      go_wp2_with fail
      go_region_held3 (fun w' => w'.cell? ⟨g, 1, none⟩ = some (mv b1)) (first | exact hc1 | exact k1)
        (first
          | (go_at_call 70; refine (towerOf_any _ xs _ (hv1.same (Below.refl _ _).drew) h9).mono ?_; rintro e w3 ⟨rfl, hb3⟩; have k1 := (hb3.cell (p := ⟨g, 1, none⟩) hgl).trans hc1)
          | (go_at_call 99; refine (turnsInto_any (pG xs.length) _ _ _ _ b1 _ xs w3 HC HPP hks (hly.below ((Below.refl _ _).drew.trans hb3) (Nat.le_refl _)) HS).mono ?_; rintro e w4 ⟨r, rfl, ho, hf, hb4⟩; have k1 := (hb4.cell (p := ⟨g, 1, none⟩) (Nat.lt_of_lt_of_le hgl hb3.size)).trans k1))
      have hz3 := (Below.refl w1.heap.size w1).drew.trans hb3
      have hB3 := hb1.trans (hz3.mono hb1.size)
      go_wp2
      go_ret2
      exact ⟨_, rfl, by rw [← HP.out]; exact ho, hf.mono hB3.size, hB3.trans (hb4.mono hB3.size)⟩
  | false =>
    have HM := Lib.hid (show mCloserTurns xs = [] from if_neg (by rw [hg]; exact Bool.false_ne_true))
    have c := wayHome_no _ xs w hv hn hg
    obtain ⟨ad, cap, rfl, _, _, _⟩ := hv.shape
    clear hg
    go_enter Try.func48, Try.ntmps48
    go_wp2_with fail
    refine c.mono ?_
    rintro e w1 ⟨rfl, hb1⟩
    clear c
    go_wp2_with fail
    refine (wturns_any _ 0 _ w1 (Nat.zero_le _)).mono ?_
    rintro e w2 ⟨rfl, rfl⟩
    go_wp2
    go_ret2
    exact ⟨_, rfl, by rw [HM.out]; exact OwnI.nil _, From.nil _ _ _, hb1⟩

end Go.Proofs.Ytlhagdldmpnbfaa

namespace Go.Pan
/-- a layer's numbers, by the ranks -/
def rowL (n : Nat) (f : LC) : List Int := (List.range (fact n)).map fun r => (f (unrank n r) : Int)
theorem rowL_length (n : Nat) (f : LC) : (rowL n f).length = fact n := by simp [rowL]
theorem rowL_get {n r : Nat} (f : LC) (h : r < fact n) : (rowL n f)[r]'(by rw [rowL_length]; exact h) = (f (unrank n r) : Int) := by simp [rowL]
def doneI (i : Nat) : List Int → Bool := fun q => decide (rankL q < i)
theorem rowL_none (n : Nat) : rowL n (fun _ => 0) = List.replicate (fact n) 0 := by
  unfold rowL
  rw [show (fun r : Nat => (((fun _ => 0 : LC) (unrank n r) : Nat) : Int)) = fun _ => (0 : Int) from rfl, List.map_const', List.length_range]
section
variable {n : Nat} (hn : Cnt n)
include hn
theorem rowL_congr {c o : LC} (h : EqC n c o) : rowL n c = rowL n o := by
  unfold rowL
  refine List.map_congr_left fun r hr => ?_
  rw [h _ (unrank_st hn.pos hn.le (List.mem_range.1 hr))]
theorem rowL_set {c : LC} {q : List Int} (hq : St n q) (v : Nat) : (rowL n c).set (rankL q) (v : Int) = rowL n (fun p => if p = q then v else c p) := by
  apply List.ext_getElem (by simp [rowL])
  intro j h1 h2
  have hj : j < fact n := by simpa [rowL] using h2
  rw [List.getElem_set, rowL_get _ hj, rowL_get _ hj]
  by_cases e : rankL q = j
  · rw [if_pos e, if_pos (by rw [← e, unrank_rank hn.pos hn.le hq])]
  · rw [if_neg e, if_neg (fun h => e (by rw [← h, rank_unrank hj]))]
theorem rowL_one : (List.replicate (fact n) (0 : Int)).set 0 1 = rowL n (allC n (ramp 1 n) 0) := by
  have h := rowL_set hn (c := fun _ => 0) hn.home 1
  rw [rankL_ramp, rowL_none n] at h
  rw [show (1 : Int) = ((1 : Nat) : Int) from rfl, h]
  exact rowL_congr hn (fun q hq => allC_zero n (ramp 1 n) q hq)
theorem rowL_step {c : LC} {done : List Int → Bool} {x : List Int} (hx : St n x) {K : Nat} (hK : K ∈ ks n) : (rowL n (behN n c done x K)).set (rankL (turnL x K)) ((behN n c done x K (turnL x K) + c x : Nat) : Int) = rowL n (behN n c done x (K + 1)) := by
  rw [rowL_set hn (hx.turn K)]
  exact rowL_congr hn (fun q hq => (behN_succ hK q hq).symm)
theorem row_first (c : LC) {i : Nat} (hi : i < fact n) : rowL n (behM n c (doneI i)) = rowL n (behN n c (doneI (i + 1)) (unrank n i) 2) := by
  refine rowL_congr hn (behN_first (fun y hy hne => ?_) ?_)
  · have h : rankL y ≠ i := fun e => hne (by rw [← e, unrank_rank hn.pos hn.le hy])
    unfold doneI
    rw [Bool.eq_iff_iff, decide_eq_true_iff, decide_eq_true_iff]
    omega
  · unfold doneI
    rw [rank_unrank hi]
    simp
theorem row_last (c : LC) {i : Nat} (hi : i < fact n) : rowL n (behN n c (doneI (i + 1)) (unrank n i) (n + 1)) = rowL n (behM n c (doneI (i + 1))) :=
  rowL_congr hn (behN_last (by unfold doneI; rw [rank_unrank hi]; simp))
theorem row_skip (c : LC) {i : Nat} (h0 : c (unrank n i) = 0) : rowL n (behM n c (doneI i)) = rowL n (behM n c (doneI (i + 1))) := by
  refine rowL_congr hn (fun q hq => sum_congr fun k _ => ?_)
  by_cases e : rankL (turnL q k) = i
  · have h : c (turnL q k) = 0 := by rw [← h0, ← e, unrank_rank hn.pos hn.le (hq.turn k)]
    rw [h]
    simp
  · have : doneI i (turnL q k) = doneI (i + 1) (turnL q k) := by
      unfold doneI
      rw [Bool.eq_iff_iff, decide_eq_true_iff, decide_eq_true_iff]
      omega
    rw [this]
theorem row_none (c : LC) : rowL n (behM n c (doneI 0)) = List.replicate (fact n) 0 := by
  rw [← rowL_none n]
  exact rowL_congr hn (behM_none (fun y _ h => by simp [doneI] at h))
theorem row_all (s : List Int) (i : Nat) : rowL n (behM n (allC n s i) (doneI (fact n))) = rowL n (allC n s (i + 1)) := by
  rw [← allC_succ]
  exact rowL_congr hn (behM_all (fun y hy => decide_eq_true (rank_lt hy)))
end

end Go.Pan

namespace Go.Pan
def closedB (n k : Int) : Bool := inB n 1 7 && inB k 0 8
def mCountClosedPlans (n k : Int) : Int := if closedB n k = true then (Pan.ways n.toNat k.toNat (ramp 1 n.toNat) (ramp 1 n.toNat) : Int) else 0
theorem inB_k {k : Int} (h : inB k 0 8 = true) : ∃ j : Nat, k = (j : Int) ∧ j ≤ 8 := by
  simp [inB] at h
  exact ⟨k.toNat, by omega, by omega⟩
theorem inB_nat7 {n : Int} (h : inB n 1 7 = true) : ∃ m : Nat, n = (m : Int) ∧ Cnt m ∧ m ≤ 7 := by
  simp [inB] at h
  exact ⟨n.toNat, by omega, ⟨by omega, by omega⟩, by omega⟩

end Go.Pan

namespace Go.Proofs.Ytlhagdldmpnbfaa
open Go Go.RowKit Go.Pan

def litZ : DD → Int
  | .lit (.int _ c) => c
  | _ => 0
set_option maxHeartbeats 1600000 in
set_option maxRecDepth 100000 in
theorem layerBehindG_any (n : Gm) (pt : TypeId) (pv : Value) (FT FD : FuncId) (s : List Int) (k : Nat) (w : World) (hn : Hid (GOk n)) (hP : Hid (GP n pt pv FT FD)) (hks : n.ks.length ≤ 1000) (hs : Hid (n.St s)) (h9 : s.length ≤ 9) (hk : k ≤ 1000) (hM : Hid (∀ i, i ≤ k → ∀ q, n.St q → gallC n s i q ≤ 1000000000000)) :
    Calls Try.prog 112 #[tw s, .iface pt pv, .int .i64 k] w fun e w' => ∃ b', e = .returned (.map (some b')) ∧ Ly n w' b' (gallC n s k) ∧ Below w.heap.size w w' := by
  have hmm := @run_makeMap Try.prog
  have hkey := key_tw hn.out hs.out
  have hbx : Blk ((w.alloc (.cells (twl s).toArray 43)).alloc (.map #[] 0)) w.heap.size 43 (twl s) := (Blk.new w _ (twl s) _ rfl).alloc _
  have hmk : ((w.alloc (.cells (twl s).toArray 43)).alloc (.map #[] 0)).ownsMap Try.prog 43 (plainElem (H := Unit) Try.prog 3) (w.heap.size + 1) 0 (.map []) := by
    have := World.ownsMap_made (w.alloc (.cells (twl s).toArray 43)) Try.prog 43 (plainElem (H := Unit) Try.prog 3)
    simpa using this
  have hB0 : Below w.heap.size w ((w.alloc (.cells (twl s).toArray 43)).alloc (.map #[] 0)) := (below_new w _).alloc (by simp) _
  have HL := Lib.hid (show Lay n ((DataW.map [] : DD).put (kl s) (.lit (.int .i64 1))) (gallC n s 0) from
    (((Lay.empty n).put hn.out Maps.isMap_empty hs.out 1 (by omega)).congr (fun q _ => rfl : GEq n _ (oneC s))).congr (gallC_zero n s))
  go_enter Try.func112, Try.ntmps112
  go_wp2_with (first | (refine wpList_load_tower rfl _ rfl w.heap.size s h9 rfl hbx ?_) | (refine wpList_insert_own _ rfl _ _ _ 71 rfl 43 3 keyd Try.underlying71 _ (w.heap.size + 1) 0 (.map []) rfl hmk (by unfold maxLen; omega) _ _ (kl s) rfl rfl hkey (.lit (.int .i64 1)) [] (plainElem_int Try.underlying3 rfl) ?_; intro w3 hown3 hgr3))
  have hB3 := hB0.grown hgr3 (by simp; omega) (by intro k hk; cases hk; omega)
  have hly := Ly.of hn.out hown3 HL.out
  clear hbx hmk hB0 hgr3 hown3
  go_wp2
  go_loopw [7, 12] (fun m i wr => ∃ (j b : Nat), j ≤ k ∧ i = .int .i64 j ∧ m = .map (some b) ∧ Hid (Ly n wr b (gallC n s j)) ∧ Below w.heap.size w wr) (fun _ i _ => k - (intOf i).toNat)
  case atStart => exact ⟨0, _, Nat.zero_le _, rfl, rfl, Lib.hid hly, hB3⟩
  case round =>
    obtain ⟨j, b, hj, rfl, rfl, hl, hbr⟩ := hrel
    clear hly hB3
    by_cases hlt : j < k
    · have cb := lbehind_any n _ _ _ _ b (gallC n s j) 1000000000000 wr hn hP hl.out (Lib.hid (hM.out j (by omega))) (by omega) hks
      rw [gallC_succ] at cb
      go_wp2_with fail
      refine cb.mono ?_
      rintro e w4 ⟨b4, rfl, hl4, hb4', hb4⟩
      have hB4 := hbr.trans (hb4.mono hbr.size)
      have HL4 := Lib.hid hl4
      clear cb hl4 hb4' hb4
      go_wp2
      go_roundw
      case rel => exact ⟨j + 1, _, by omega, by go_num, rfl, HL4, hB4⟩
      case measure => simp [intOf] <;> omega
    · obtain rfl : j = k := by omega
      go_wp2
      go_ret
      exact ⟨_, rfl, hl.out, hbr⟩

set_option maxHeartbeats 4000000 in
set_option maxRecDepth 100000 in
theorem CountClosedPlans_any (n k : Int) (w : World) :
    Calls Try.prog 64 #[.int .i64 n, .int .i64 k] w fun e w' => e = .returned (.tuple #[.int .i64 (mCountClosedPlans n k), .bool (closedB n k)]) ∧ Below w.heap.size w w' := by
  have c := isSearchedCount_any n w
  cases hg : inB n 1 7 with
  | true =>
    rw [hg] at c
    cases hk : inB k 0 8 with
    | true =>
      have hB : closedB n k = true := by unfold closedB; rw [hg, hk]; rfl
      have HM0 := Lib.hid (show mCountClosedPlans n k = (Pan.ways n.toNat k.toNat (ramp 1 n.toNat) (ramp 1 n.toNat) : Int) from if_pos hB)
      have HB := Lib.hid hB
      obtain ⟨m, rfl, hm, h7⟩ := inB_nat7 hg
      obtain ⟨j, rfl, hj8⟩ := inB_k hk
      have HM := Lib.hid (show mCountClosedPlans m j = (gallC (pG m) (ramp 1 m) j (ramp 1 m) : Int) by rw [HM0.out]; unfold gallC; rw [pways]; simp)
      have HC := Lib.hid (pG_ok hm h7)
      have HS := Lib.hid (show (pG m).St (ramp 1 m) from hm.home)
      have HPP := Lib.hid (plain_GP hm.pos h7)
      have hks : (pG m).ks.length ≤ 1000 := by rw [pks_length]; omega
      have h9 : m ≤ 9 := by omega
      have hr9 : (ramp 1 m).length ≤ 9 := by rw [ramp_length]; exact h9
      have HX := Lib.hid (show ∀ i, i ≤ j → ∀ q, (pG m).St q → gallC (pG m) (ramp 1 m) i q ≤ 1000000000000 from fun i hi q _ => by
        unfold gallC
        rw [pways]
        exact Nat.le_trans (Nat.le_trans (ways_le _ _ _ _) (pow_bound h7 (by omega))) (by omega))
      have hkey := key_tw HC.out HS.out
      have hj0 : ¬ (j : Int) < 0 := by omega
      have hj1 : ¬ (8 : Int) < (j : Int) := by omega
      clear hg hk hB hm HM0
      go_enter Try.func64, Try.ntmps64
      go_wp2_with fail
      refine c.mono ?_
      rintro e w0 ⟨rfl, rfl⟩
      clear c
      go_wp2_with fail
      refine (sortedTower_any m w h9).mono ?_
      rintro e w1 ⟨rfl, hb1⟩
      have hz : Blk (w1.alloc (.cells (twl []).toArray 43)) w1.heap.size 43 (twl []) := Blk.new _ _ (twl []) _ rfl
      go_upto_region 4 with (refine wpList_store_tower rfl _ _ rfl w1.heap.size [] (ramp 1 m) (by simp) hr9 rfl rfl hz ?_; intro w2 hbl2 hg2)
      have hb12 : Below w1.heap.size w1 w2 := (below_new w1 _).grown hg2 (by simp) (by intro k hk; cases hk; exact Nat.le_refl _)
      have hB2 := hb1.trans (hb12.mono hb1.size)
      have hlt2 := hbl2.lt
      clear hz hg2 hb12
      have hr := hbl2.range
      have hut := Try.underlying43
      have hsz : (Try.prog.info? 43).map (·.size) = some (twl (ramp 1 m)).length := by rw [Try.infoT, twl_length _ hr9]
      have hj1000 : j ≤ 1000 := by omega
      clear hbl2
      refine wp_region_held_drew (S := (fun w' => w'.rangeAt w1.heap.size 0 (twl (ramp 1 m)))) (by kernel_rfl) (hr) (fun hHeld => ?_)
      refine wpAnyH_take (i := 0) rfl (by kernel_rfl) (by kernel_rfl) (by kernel_rfl) (fun _ _ _ h => h) (yieldsIf_load_mid (by rfl) _ _ rfl _ _ rfl _ _ (fun w hw => hw) hut rfl hsz) (by assumption) ?_
      try simp only [List.getElem_toArray, List.getElem_cons_zero, Act.put, List.setIfInBounds_toArray, List.set_cons_zero, List.set_cons_succ]
      refine wpAnyH_take (i := 1) (v := ?_) rfl (by kernel_rfl) (by kernel_rfl) (by kernel_rfl) (fun _ _ _ h => h) (Or.inl ⟨by rfl, ?_⟩) (by assumption) ?_
      rotate_left
      · intro w _; go_simp; with_reducible rfl
      try simp only [List.getElem_toArray, List.getElem_cons_zero, List.getElem_cons_succ, Act.put, List.setIfInBounds_toArray, List.set_cons_zero, List.set_cons_succ]
      refine wpAnyH_take (i := 2) (v := ?_) rfl (by kernel_rfl) (by kernel_rfl) (by kernel_rfl) (fun _ _ _ h => h) (Or.inl ⟨by rfl, ?_⟩) (by assumption) ?_
      rotate_left
      · intro w _; go_simp; with_reducible rfl
      try simp only [List.getElem_toArray, List.getElem_cons_zero, List.getElem_cons_succ, Act.put, List.setIfInBounds_toArray, List.set_cons_zero, List.set_cons_succ]
      refine wpAnyH_take (i := 3) (v := ?_) rfl (by kernel_rfl) (by kernel_rfl) (by kernel_rfl) (fun _ _ _ h => h) (Or.inl ⟨by rfl, ?_⟩) (by assumption) ?_
      rotate_left
      · intro w _; go_simp; with_reducible rfl
      try simp only [List.getElem_toArray, List.getElem_cons_zero, List.getElem_cons_succ, Act.put, List.setIfInBounds_toArray, List.set_cons_zero, List.set_cons_succ]
      refine wpAnyH_take (i := 5) rfl (by kernel_rfl) (by kernel_rfl) (by kernel_rfl) (fun _ _ _ h => h) (yieldsIf_load_mid (by rfl) _ _ rfl _ _ rfl _ _ (fun w hw => hw) hut rfl hsz) (by assumption) ?_
      try simp only [List.getElem_toArray, List.getElem_cons_zero, List.getElem_cons_succ, Act.put, List.setIfInBounds_toArray, List.set_cons_zero, List.set_cons_succ]
      refine wpAnyH_ready (rs := [4]) (by kernel_rfl) (by simp) ?_
      refine AllReadyH.cons rfl (fun K hK => ?_) AllReadyH.nil
      go_simp
      refine (layerBehindG_any (pG m) _ _ _ _ (ramp 1 m) j _ HC HPP hks HS hr9 hj1000 HX).mono ?_
      rintro e w3 ⟨b, rfl, hl, hb3⟩
      go_wp2_with fail
      refine hK.out _ _ (range_below hHeld hb3 hlt2) (fun hHeld => ?_)
      clear hK K
      obtain ⟨D, hown, hL2⟩ := hl
      have HAT := Lib.hid (hL2.at0 HS.out)
      obtain ⟨c0, hlk, hc0, _⟩ := hown.lookup_int keyd Try.underlying71 Try.underlying3 (zeroI _) hkey
      refine wpAnyH_ready (rs := [6]) (by kernel_rfl) (by simp) ?_
      refine AllReadyH.cons rfl (fun Kc hK => ?_) AllReadyH.nil
      refine step_lookup_int rfl _ _ 71 rfl b _ _ rfl rfl hlk ?_
      refine hK.out _ _ hHeld (fun hHeld => ?_)
      clear hK Kc
      try simp only [List.getElem_toArray, List.getElem_cons_zero, List.getElem_cons_succ, Act.put, List.setIfInBounds_toArray, List.set_cons_zero, List.set_cons_succ]
      refine wpAnyH_take (i := 7) (v := ?_) rfl (by kernel_rfl) (by kernel_rfl) (by kernel_rfl) (fun _ _ _ h => h) (Or.inl ⟨by rfl, ?_⟩) (by assumption) ?_
      rotate_left
      · intro w _; go_simp; with_reducible rfl
      try simp only [List.getElem_toArray, List.getElem_cons_zero, List.getElem_cons_succ, Act.put, List.setIfInBounds_toArray, List.set_cons_zero, List.set_cons_succ]
      refine wpAnyH_take (i := 8) (v := ?_) rfl (by kernel_rfl) (by kernel_rfl) (by kernel_rfl) (fun _ _ _ h => h) (Or.inl ⟨by rfl, ?_⟩) (by assumption) ?_
      rotate_left
      · intro w _; go_simp; with_reducible rfl
      try simp only [List.getElem_toArray, List.getElem_cons_zero, List.getElem_cons_succ, Act.put, List.setIfInBounds_toArray, List.set_cons_zero, List.set_cons_succ]
      refine wpAnyH_done (by kernel_rfl) ?_ _
      have he : c0 = (gallC (pG m) (ramp 1 m) j (ramp 1 m) : Int) := (congrArg litZ (HAT.out.symm.trans hc0)).symm
      have hB3 := hB2.drew.trans (hb3.mono hB2.size)
      have HE := Lib.hid he
      clear he hc0 hlk hown hL2
      go_wp2
      go_ret2
      exact ⟨by rw [HM.out, HB.out, HE.out]; rfl, hB3⟩
    | false =>
      have HB := Lib.hid (show closedB n k = false by unfold closedB; rw [hg, hk]; rfl)
      have HM := Lib.hid (show mCountClosedPlans n k = 0 from if_neg (by unfold closedB; rw [hg, hk]; exact Bool.false_ne_true))
      by_cases hk0 : k < 0
      · clear hg hk
        go_enter Try.func64, Try.ntmps64
        go_wp2_with fail
        refine c.mono ?_
        rintro e w0 ⟨rfl, rfl⟩
        go_wp2
        go_ret2
        exact ⟨by rw [HM.out, HB.out]; rfl, Below.refl _ _⟩
      · have hk8 : 8 < k := by simp [inB] at hk; omega
        clear hg hk
        go_enter Try.func64, Try.ntmps64
        go_wp2_with fail
        refine c.mono ?_
        rintro e w0 ⟨rfl, rfl⟩
        go_wp2
        go_ret2
        exact ⟨by rw [HM.out, HB.out]; rfl, Below.refl _ _⟩
  | false =>
    have HB := Lib.hid (show closedB n k = false by unfold closedB; rw [hg]; rfl)
    have HM := Lib.hid (show mCountClosedPlans n k = 0 from if_neg (by unfold closedB; rw [hg]; exact Bool.false_ne_true))
    rw [hg] at c
    clear hg
    go_enter Try.func64, Try.ntmps64
    go_wp2_with fail
    refine c.mono ?_
    rintro e w0 ⟨rfl, rfl⟩
    go_wp2
    go_ret2
    exact ⟨by rw [HM.out, HB.out]; rfl, Below.refl _ _⟩

set_option maxHeartbeats 4000000 in
set_option maxRecDepth 100000 in
theorem sCountClosedPlans_any (n k : Int) (w : World) :
    Calls Try.prog 63 #[.int .i64 n, .int .i64 k] w fun e w' => e = .returned (.tuple #[.int .i64 (mCountClosedPlans n k), .bool (closedB n k)]) ∧ Below w.heap.size w w' := by
  have c := faNumber_any n w
  cases hg : inB n 1 7 with
  | true =>
    rw [hg] at c
    have cl := l1In_any k 0 8 w
    cases hk : inB k 0 8 with
    | true =>
      rw [hk] at cl
      have hB : closedB n k = true := by unfold closedB; rw [hg, hk]; rfl
      have HM0 := Lib.hid (show mCountClosedPlans n k = (Pan.ways n.toNat k.toNat (ramp 1 n.toNat) (ramp 1 n.toNat) : Int) from if_pos hB)
      have HB := Lib.hid hB
      obtain ⟨m, rfl, hm, h7⟩ := inB_nat7 hg
      obtain ⟨j, rfl, hj8⟩ := inB_k hk
      have HM := Lib.hid (show mCountClosedPlans m j = (Pan.ways m j (ramp 1 m) (ramp 1 m) : Int) by rw [HM0.out]; simp)
      have HC := Lib.hid hm
      have hfl := fact_le (n := m) (by omega)
      have hf0 := fact_pos m
      obtain ⟨i0, hi, hz0, hz1, hz2⟩ := info_parts Try.info3
      have HI := Lib.hid hi
      have HZ0 := Lib.hid hz0
      have HZ1 := Lib.hid hz1
      have HZ2 := Lib.hid hz2
      have c1 := faAll_any m w HC h7
      clear hg hk hB hm HM0 hi hz0 hz1 hz2
      go_enter Try.func63, Try.ntmps63
      go_wp2_with fail
      refine c.mono ?_
      rintro e w0 ⟨rfl, rfl⟩
      clear c
      go_wp2_with fail
      refine cl.mono ?_
      rintro e w0 ⟨rfl, rfl⟩
      clear cl
      go_wp2_with fail
      refine c1.mono ?_
      rintro e w1 ⟨a, c, s, S, rfl, HR, hb1⟩
      clear c1
      have hz : Blk (w1.alloc (.cells #[.slice none 0 0, .slice none 0 0, .slice none 0 0] 60)) w1.heap.size 60 [.slice none 0 0, .slice none 0 0, .slice none 0 0] := Blk.new _ _ [.slice none 0 0, .slice none 0 0, .slice none 0 0] _ rfl
      go_upto_region 4 with (refine wpList_store3o rfl 60 _ _ rfl w1.heap.size _ _ _ rfl rfl 60 _ hz (by kernel_rfl) rfl ⟨rfl, rfl, rfl⟩ ?_; intro w3 hbl hg3)
      have hb13 : Below w1.heap.size w1 w3 := (below_new w1 _).grown hg3 (by simp) (by intro k hk; cases hk; exact Nat.le_refl _)
      have HR3 := HR.below hb13 (Nat.le_refl _)
      have hB3 := hb1.trans (hb13.mono hb1.size)
      have hl0 : w3.cell? ⟨w1.heap.size, 0, none⟩ = some (.slice (some ⟨a, 0, none⟩) (fact m) (fact m)) := by rw [hbl.cell 0]; rfl
      have hl2 : w3.cell? ⟨w1.heap.size, 2, none⟩ = some (.slice (some ⟨s, 0, none⟩) (fact m) (fact m)) := by rw [hbl.cell 2]; rfl
      have hbl1 := hbl.lt
      obtain ⟨bl, hbe⟩ : ∃ b, w1.heap.size = b := ⟨_, rfl⟩
      rw [hbe] at hl0 hl2 hbl1 ⊢
      have hz3 : w.heap.size ≤ w3.heap.size := hB3.size
      have HR4 := Lib.hid HR3
      clear hb1 HR hz hg3 hb13 HR3 hbl hbe
      try simp only [List.getElem_toArray, List.getElem_cons_zero, List.getElem_cons_succ, Act.put, List.setIfInBounds_toArray, List.set_cons_zero, List.set_cons_succ]
      go_upto_region 5 with (at_make; refine wpList_make_full _ rfl _ _ 22 rfl w3.heap.size 3 i0 (.int .i64 0) 1 Try.underlying22 HI.out HZ0.out HZ1.out _ _ _ _ (fact m) rfl rfl rfl rfl ?b1 ?b2 ?b3 ?_)
      case b1 => rw [HZ2.out]; omega
      case b2 => unfold maxLen; omega
      case b3 => exact Nat.le_refl _
      intro w4 hown hgrow
      have ho0 : OwnI w4 (.slice (some ⟨w3.heap.size, 0, none⟩) (fact m) (fact m)) (List.replicate (fact m) 0) := OwnI.of_made hown
      have hb34 : Below w3.heap.size w3 w4 := (Below.refl _ _).grown hgrow (Nat.le_refl _) (by intro k hk; cases hk)
      obtain ⟨hd, hfd, hst⟩ := OwnI.cellAt ho0 0 (by rw [List.length_replicate]; exact hf0)
      have hst := hst 1
      rw [rowL_one HC.out] at hst
      have hf0' : (0 : Int) < fact m := by omega
      have hb35 := hb34.setCell (p := ⟨w3.heap.size, 0, none⟩) (Nat.le_refl _) (iv 1)
      clear hown hgrow ho0
      go_wp2
      go_loopw [1, 7, 8, 9, 10, 11] (fun kv nv _ _ _ _ wr => ∃ (i e g : Nat), i + e = j ∧ kv = .int .i64 e ∧ nv = .slice (some ⟨g, 0, none⟩) (fact m) (fact m) ∧ OwnI wr (.slice (some ⟨g, 0, none⟩) (fact m) (fact m)) (rowL m (allC m (ramp 1 m) i)) ∧ Below w3.heap.size w3 wr) (fun kv _ _ _ _ _ _ => (intOf kv).toNat)
      case atStart => exact ⟨0, j, w3.heap.size, by omega, rfl, rfl, hst, hb35⟩
      case round =>
        obtain ⟨i, e, g, hie, rfl, rfl, ho, hbr⟩ := hrel
        clear hst hb35 hb34 hd hfd
        obtain ⟨wo, hwo⟩ : ∃ wo, wo = wr := ⟨_, rfl⟩
        subst hwo
        by_cases he : 0 < e
        · have he' : (0 : Int) < e := by omega
          obtain ⟨C, hC⟩ : ∃ C, allC m (ramp 1 m) i = C := ⟨_, rfl⟩
          have HCE := Lib.hid hC
          have HCM := Lib.hid (show ∀ q, St m q → C q ≤ 470184984576 from fun q _ => by rw [← hC]; exact Nat.le_trans (ways_le _ _ _ _) (pow_bound h7 (by omega)))
          rw [hC] at ho
          clear hC
          go_wp2_with (at_make; refine wpList_make_full _ rfl _ _ 22 rfl wo.heap.size 3 i0 (.int .i64 0) 1 Try.underlying22 HI.out HZ0.out HZ1.out _ _ _ _ (fact m) rfl rfl rfl rfl ?b1 ?b2 ?b3 ?_)
          case b1 => rw [HZ2.out]; omega
          case b2 => unfold maxLen; omega
          case b3 => exact Nat.le_refl _
          intro w5 hown hgrow
          have hx0 : OwnI w5 (.slice (some ⟨wo.heap.size, 0, none⟩) (fact m) (fact m)) (rowL m (behM m C (doneI 0))) := by rw [row_none HC.out]; exact OwnI.of_made hown
          have hb5 : Below wo.heap.size wo w5 := (Below.refl _ _).grown hgrow (Nat.le_refl _) (by intro k hk; cases hk)
          clear hown hgrow
          go_wp2
          go_loopw [9, 10, 11, 37] (fun _ _ _ iv' w6 => ∃ r : Nat, r ≤ fact m ∧ iv' = .int .i64 r ∧ OwnI w6 (.slice (some ⟨wo.heap.size, 0, none⟩) (fact m) (fact m)) (rowL m (behM m C (doneI r))) ∧ Below wo.heap.size wo w6) (fun _ _ _ iv' _ => fact m - (intOf iv').toNat)
          case atStart => exact ⟨0, Nat.zero_le _, rfl, hx0, hb5⟩
          case round =>
            obtain ⟨r, hr, rfl, hx, hb6⟩ := hrel
            clear hx0 hb5
            obtain ⟨wp, hwp⟩ : ∃ wp, wp = wr := ⟨_, rfl⟩
            subst hwp
            by_cases hlt : r < fact m
            · have hlt' : (r : Int) < fact m := by omega
              have ho6 := ho.same hb6
              obtain ⟨hcn, _, _⟩ := OwnI.cellAt ho6 r (by rw [rowL_length]; exact hlt)
              rw [rowL_get C hlt] at hcn
              have hb36 := hbr.trans (hb6.mono hbr.size)
              have hqs := unrank_st HC.out.pos HC.out.le hlt
              obtain ⟨x, hxe⟩ : ∃ x, unrank m r = x := ⟨_, rfl⟩
              have HXE := Lib.hid hxe
              rw [hxe] at hcn hqs
              have HQ := Lib.hid hqs
              have hcb := HCM.out x hqs
              obtain ⟨z, hz⟩ : ∃ z, C x = z := ⟨_, rfl⟩
              have HZ := Lib.hid hz
              rw [hz] at hcn hcb
              replace hcn : wp.cell? ⟨g, r, none⟩ = some (.int .i64 (z : Int)) := hcn
              clear hxe hqs hz ho6
              by_cases hz0 : z = 0
              · have hzi : (z : Int) = 0 := by omega
                have HSK := Lib.hid (row_skip HC.out C (i := r) (by rw [HXE.out, HZ.out]; exact hz0))
                clear hz0
                go_wp2
                go_roundw
                case rel => exact ⟨r + 1, by omega, by go_num, by rw [← HSK.out]; exact hx, hb6⟩
                case measure => simp [intOf] <;> omega
              · have hzi : ((z : Int) == 0) = false := by rw [beq_eq_false_iff_ne]; omega
                have hx2 : OwnI wp (.slice (some ⟨wo.heap.size, 0, none⟩) (fact m) (fact m)) (rowL m (behN m C (doneI (r + 1)) x 2)) := by
                  rw [← HXE.out, ← row_first HC.out C hlt]
                  exact hx
                have hl26 : wp.cell? ⟨bl, 2, none⟩ = some (.slice (some ⟨s, 0, none⟩) (fact m) (fact m)) := (hb36.cell (p := ⟨bl, 2, none⟩) hbl1).trans hl2
                have hm1 := HC.out.pos
                clear hx hz0
                go_wp2
                go_loopw [11] (fun tv w7 => ∃ K : Nat, 2 ≤ K ∧ K ≤ m + 1 ∧ tv = .int .i64 K ∧ OwnI w7 (.slice (some ⟨wo.heap.size, 0, none⟩) (fact m) (fact m)) (rowL m (behN m C (doneI (r + 1)) x K)) ∧ Below wo.heap.size wo w7) (fun tv _ => m + 1 - (intOf tv).toNat)
                case atStart => exact ⟨2, Nat.le_refl _, by omega, rfl, hx2, hb6⟩
                case round =>
                  obtain ⟨K, hK2, hKm, rfl, hx7, hb7⟩ := hrel
                  clear hx2 hl26 hb36
                  by_cases hKl : K ≤ m
                  · have hKl' : (K : Int) ≤ m := by omega
                    have hkk := mem_ks.2 ⟨hK2, hKl⟩
                    have hb37 := hbr.trans (hb7.mono hbr.size)
                    have hl27 : wr.cell? ⟨bl, 2, none⟩ = some (.slice (some ⟨s, 0, none⟩) (fact m) (fact m)) := (hb37.cell (p := ⟨bl, 2, none⟩) hbl1).trans hl2
                    obtain ⟨va, vc, hcs, hq7⟩ := (HR4.out.below hb37 (Nat.le_refl _)).stAt HC.out hlt
                    rw [HXE.out] at hq7
                    have hxm : x.length ≤ 1048576 := by have := HQ.out.2; omega
                    have hKx : K ≤ x.length := by have := HQ.out.2; omega
                    have hst := HQ.out.turn K
                    have ht9 : (turnL x K).length ≤ 9 := hst.1.le9
                    have hrk := rank_lt hst
                    have HRS := Lib.hid (rowL_step HC.out HQ.out (c := C) (done := doneI (r + 1)) hkk)
                    have hbb := behN_le (n := m) (done := doneI (r + 1)) (x := x) (K := K) HCM.out (turnL x K) hst
                    have hbb2 : (m - 1) * 470184984576 ≤ 6 * 470184984576 := Nat.mul_le_mul_right _ (by omega)
                    have hunr := unrank_rank HC.out.pos HC.out.le hst
                    have c4 := stTurn_any _ x K wr hq7 hxm hKx
                    obtain ⟨t, ht⟩ : ∃ t, rankL (turnL x K) = t := ⟨_, rfl⟩
                    have HTT := Lib.hid ht
                    rw [ht] at hrk hunr HRS
                    have hrk' : (t : Int) < fact m := by omega
                    obtain ⟨y, hy⟩ : ∃ y, behN m C (doneI (r + 1)) x K (turnL x K) = y := ⟨_, rfl⟩
                    have HYY := Lib.hid (show behN m C (doneI (r + 1)) x K (unrank m t) = y by rw [hunr]; exact hy)
                    rw [hy, HZ.out] at HRS
                    rw [hy] at hbb
                    have HRS2 := Lib.hid (show (rowL m (behN m C (doneI (r + 1)) x K)).set t ((y : Int) + z) = rowL m (behN m C (doneI (r + 1)) x (K + 1)) by rw [← HRS.out]; simp)
                    clear hst hunr ht hy HRS
                    go_wp2_with fail
                    refine c4.mono ?_
                    rintro e w8 ⟨v8, rfl, hor, _, hb8⟩
                    clear c4
                    have hx8 := hx7.same hb8
                    have hb78 := hb7.trans (hb8.mono hb7.size)
                    obtain ⟨hct, hft, hset⟩ := OwnI.cellAt hx8 t (by rw [rowL_length]; exact hrk)
                    rw [rowL_get _ hrk, HYY.out] at hct
                    have hset := hset ((y : Int) + z)
                    rw [HRS2.out] at hset
                    have hb9 := hb78.setCell (p := ⟨wo.heap.size, t, none⟩) (Nat.le_refl _) (iv ((y : Int) + z))
                    have hs1 := IntWalk.i64_in ((y : Int) + z) (by omega)
                    have c5 := faRank_any v8 (turnL x K) w8 hor ht9
                    rw [HTT.out] at c5
                    obtain ⟨ra, rc, rfl, _, _, _⟩ := hor.shape
                    clear hx7 hb7 hb8 hx8 hb78 hq7 hl27 hcs
                    go_wp2_with fail
                    refine c5.mono ?_
                    rintro e w9 ⟨rfl, rfl⟩
                    clear c5
                    go_wp2
                    go_roundw
                    case rel => exact ⟨K + 1, by omega, by omega, by go_num, hset, hb9⟩
                    case measure => simp [intOf] <;> omega
                  · obtain hKe : K = m + 1 := by omega
                    have hge : (m : Int) < K := by omega
                    have HLA := Lib.hid (row_last HC.out C hlt)
                    have hxl : OwnI wr (.slice (some ⟨wo.heap.size, 0, none⟩) (fact m) (fact m)) (rowL m (behM m C (doneI (r + 1)))) := by
                      rw [← HLA.out, HXE.out, ← hKe]
                      exact hx7
                    clear hKe hx7
                    go_wp2
                    go_roundw
                    case rel => exact ⟨r + 1, by omega, by go_num, hxl, hb7⟩
                    case measure => simp [intOf] <;> omega
            · obtain hre : r = fact m := by omega
              have hge : (fact m : Int) ≤ r := by omega
              have hxe : OwnI wp (.slice (some ⟨wo.heap.size, 0, none⟩) (fact m) (fact m)) (rowL m (allC m (ramp 1 m) (i + 1))) := by
                rw [hre] at hx
                rw [← row_all HC.out, HCE.out]
                exact hx
              have hb36 := hbr.trans (hb6.mono hbr.size)
              clear hre hx
              go_wp2
              go_roundw
              case rel => exact ⟨i + 1, e - 1, wo.heap.size, by omega, by go_num, rfl, hxe, hb36⟩
              case measure => simp [intOf] <;> omega
        · have he0 : e = 0 := by omega
          subst he0
          obtain rfl : i = j := by omega
          obtain ⟨hcn, _, _⟩ := OwnI.cellAt ho 0 (by rw [rowL_length]; exact hf0)
          rw [rowL_get _ hf0] at hcn
          have HU := Lib.hid (show unrank m 0 = ramp 1 m by rw [← rankL_ramp m 1, unrank_rank HC.out.pos HC.out.le HC.out.home])
          rw [HU.out] at hcn
          go_wp2
          go_ret2
          exact ⟨by rw [HM.out, HB.out]; rfl, hB3.trans (hbr.mono hz3)⟩
    | false =>
      rw [hk] at cl
      have HB := Lib.hid (show closedB n k = false by unfold closedB; rw [hg, hk]; rfl)
      have HM := Lib.hid (show mCountClosedPlans n k = 0 from if_neg (by unfold closedB; rw [hg, hk]; exact Bool.false_ne_true))
      clear hg hk
      go_enter Try.func63, Try.ntmps63
      go_wp2_with fail
      refine c.mono ?_
      rintro e w0 ⟨rfl, rfl⟩
      go_wp2_with fail
      refine cl.mono ?_
      rintro e w0 ⟨rfl, rfl⟩
      go_wp2
      go_ret2
      exact ⟨by rw [HM.out, HB.out]; rfl, Below.refl _ _⟩
  | false =>
    have HB := Lib.hid (show closedB n k = false by unfold closedB; rw [hg]; rfl)
    have HM := Lib.hid (show mCountClosedPlans n k = 0 from if_neg (by unfold closedB; rw [hg]; exact Bool.false_ne_true))
    rw [hg] at c
    clear hg
    go_enter Try.func63, Try.ntmps63
    go_wp2_with fail
    refine c.mono ?_
    rintro e w0 ⟨rfl, rfl⟩
    go_wp2
    go_ret2
    exact ⟨by rw [HM.out, HB.out]; rfl, Below.refl _ _⟩

end Go.Proofs.Ytlhagdldmpnbfaa
