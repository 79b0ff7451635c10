import Derived.Test.YtkfpcnbpdlcnaaaNT
import Derived.Test.YtkfpcnbpdlcnaaaGE
import Derived.Test.YtkfpcnbpdlcnaaaI3
import Derived.Test.YtkfpcnbpdlcnaaaG9
import Derived.Test.YtkfpcnbpdlcnaaaI10
import Derived.Test.YtkfpcnbpdlcnaaaSC
namespace Go.Proofs.Ytkfpcnbpdlcnaaa
open Go Go.RowKit Go.Pan

set_option maxRecDepth 100000 in
theorem plainTurns_any (m : Nat) (w : World) (h1 : 1 ≤ m) (hm : m ≤ 9) :
    Calls Try.prog 138 #[.int .i64 m] w fun e w' => ∃ r, e = .returned r ∧ OwnI w' r (ramp 2 (m - 1)) ∧ From w.heap.size r ∧ Below w.heap.size w w' := by
  have c := turnsFrom_any 2 m w (by omega) (by omega) (by omega)
  have HC := Lib.hid c
  clear c
  have HE := Lib.hid (show m + 1 - 2 = m - 1 by omega)
  go_enter Try.func138, Try.ntmps138
  go_wp2_with fail
  refine HC.out.mono ?_
  rintro e w1 ⟨r, rfl, ho, hf, hb⟩
  rw [HE.out] at ho
  go_wp2
  go_ret
  exact ⟨_, rfl, ho, hf, hb⟩

set_option maxRecDepth 100000 in
set_option maxHeartbeats 800000 in
theorem plainTurned_any (pv : Value) (xs : List Int) (k : Nat) (w : World) (h9 : xs.length ≤ 9) (hk : k ≤ xs.length) :
    Calls Try.prog 137 #[pv, tw xs, .int .i64 k] w fun e w' => e = .returned (tw (turnL xs k)) ∧ Below w.heap.size w w' := by
  have hbx : Blk ((w.alloc (.cells (twl xs).toArray 52)).alloc (.cells (twl []).toArray 52)) w.heap.size 52 (twl xs) := (Blk.new w _ (twl xs) _ rfl).alloc _
  have hz : Blk ((w.alloc (.cells (twl xs).toArray 52)).alloc (.cells (twl []).toArray 52)) (w.heap.size + 1) 52 (twl []) := Blk.new _ _ (twl []) _ (by simp)
  have hb0 : Below w.heap.size w ((w.alloc (.cells (twl xs).toArray 52)).alloc (.cells (twl []).toArray 52)) := ((Below.refl _ _).alloc (Nat.le_refl _) _).alloc (by simp) _
  have HT := Lib.hid (twl_length xs h9)
  have h9t : (turnL xs k).length ≤ 9 := by rw [turnL_length]; exact h9
  have H9T := Lib.hid (twl_length _ h9t)
  go_enter Try.func137, Try.ntmps137
  go_wp2_with (first | (refine wpList_load_tower rfl _ rfl w.heap.size xs h9 rfl hbx ?_))
  refine (turned_any _ _ _ h9 hk).mono ?_
  rintro e w2 ⟨rfl, hb2⟩
  have hz2 := hz.below hb2 hz.lt
  have hB2 := hb0.trans (hb2.mono hb0.size)
  clear hbx hz hb2 hb0
  go_wp2_with (first | (refine wpList_store_tower rfl _ _ rfl (w.heap.size + 1) [] (turnL xs k) (by simp) h9t rfl rfl hz2 ?_; intro w5 hbT5 hgr5))
  have hB5 := hB2.grown hgr5 hB2.size (by intro k hk; cases hk; omega)
  exact bodyPost_ret (results_tower rfl _ _ (w.heap.size + 1) (turnL xs k) h9t rfl hbT5) rfl ⟨rfl, hB5⟩

theorem plain_mT (m : Nat) (u : World) : Sem.run Try.prog (method 248 55 (.int .i64 m) "loop.example/g01221/impl.turns") u = .ok (138, .int .i64 m) u := by kernel_rfl
theorem plain_mD (m : Nat) (u : World) : Sem.run Try.prog (method 248 55 (.int .i64 m) "loop.example/g01221/impl.turned") u = .ok (137, .int .i64 m) u := by kernel_rfl

theorem plain_GP {m : Nat} (h1 : 1 ≤ m) (h7 : m ≤ 7) : GP (pG m) 55 (.int .i64 m) 138 137 where
  mT := plain_mT m
  mD := plain_mD m
  cT := fun args u => by go_simp
  cD := fun args u => by go_simp
  rb := fun _ _ _ _ => trivial
  turns := fun u _ => by
    rw [pks_ramp h1]
    exact plainTurns_any m u h1 (by omega)
  turned := fun q k u _ hq hk => by
    have h1 := mem_ks.1 hk
    have h2 : q.length = m := hq.2
    exact plainTurned_any _ q k u (by omega) (by omega)

set_option maxHeartbeats 800000 in
set_option maxRecDepth 100000 in
theorem plainWave_any (m : Nat) (w : World) (hm : Cnt m) (h7 : m ≤ 7) :
    Calls Try.prog 50 #[.int .i64 m] w fun e w' => ∃ g cap ms, e = .returned (.slice (some ⟨g, 0, none⟩) (gecc (pG m) (ramp 1 m) + 1) cap) ∧ Wv (pG m) w' w.heap.size (.slice (some ⟨g, 0, none⟩) (gecc (pG m) (ramp 1 m) + 1 + 1) cap) ms (gnearL (pG m) (ramp 1 m) (gecc (pG m) (ramp 1 m) + 1)) ∧ Below w.heap.size w w' := by
  have HC := Lib.hid (pG_ok hm h7)
  have HH := Lib.hid (show (pG m).St (ramp 1 m) from hm.home)
  have HP := Lib.hid (plain_GP hm.pos h7)
  have hks : (pG m).ks.length ≤ 1000 := by rw [pks_length]; omega
  have h9 := hm.le
  clear hm
  go_enter Try.func50, Try.ntmps50
  go_wp2_with fail
  refine (sortedTower_any m w (by omega)).mono ?_
  rintro e w3 ⟨rfl, hb3⟩
  have c4 := wholeWave_any (pG m) _ _ _ _ (ramp 1 m) w3 HC HP hks HH
  go_wp2_with fail
  refine c4.mono ?_
  rintro e w4 ⟨g, cap2, ms, rfl, hW, hb4⟩
  clear c4
  go_wp2
  go_ret
  exact ⟨g, cap2, ms, rfl, hW.mono hb3.size, hb3.trans (hb4.mono hb3.size)⟩

end Go.Proofs.Ytkfpcnbpdlcnaaa

namespace Go.Pan
theorem pnearC (n : Nat) (s : List Int) (i : Nat) : gnearC (pG n) s i = nearC n s i := by
  funext q
  unfold gnearC nearC
  rw [pfar, pways]
theorem pwayC (n : Nat) (s t : List Int) (i j : Nat) : gwayC (pG n) s t i j = wayC n s t i j := by
  funext q
  unfold gwayC wayC
  rw [pfar, pfar, pways]
theorem pclo (n : Nat) (t q : List Int) : gclo (pG n) t q = clo n t q := by
  funext k
  unfold gclo clo
  rw [pfar, pfar]
  rfl
theorem pfirK (n : Nat) (t q : List Int) : gfirK (pG n) t q = firK n t q := by
  unfold gfirK firK
  rw [pclo]
  rfl
theorem pgoL (n : Nat) (t : List Int) (e : Nat) (q : List Int) : ggoL (pG n) t e q = goL n t e q := by
  induction e generalizing q with
  | zero => rfl
  | succ e ih =>
    rw [ggoL, goL, pfirK, ih]
    rfl
theorem ppickL (n : Nat) (P : Nat → Bool) : gpickL (pG n) P = pickL P n := rfl

end Go.Pan

namespace Go.Proofs.Ytkfpcnbpdlcnaaa
open Go Go.RowKit Go.Pan

theorem isSearched_any (v : Value) (xs : List Int) (w : World) (hv : OwnI w v xs) (hn : xs.length ≤ 1048576) :
    Calls Try.prog 46 #[v] w fun e w' => e = .returned (.bool (farB xs)) ∧ Below w.heap.size w w' := by
  obtain ⟨ad, cap, rfl, hc, _, _⟩ := hv.shape
  have c := IsStack_any _ xs w hv hn
  cases hg : goodB xs with
  | true =>
    have HF := Lib.hid (show farB xs = inB xs.length 1 7 by have := (goodB_iff.1 hg).1; rw [Bool.eq_iff_iff]; simp [farB, inB, hg]; omega)
    rw [hg] at c
    clear hg
    go_enter Try.func46, Try.ntmps46
    go_wp2_with fail
    refine c.mono ?_
    rintro e w1 ⟨rfl, hb⟩
    clear c
    go_wp2_with fail
    refine (isSearchedCount_any _ _).mono ?_
    rintro e w2 ⟨rfl, rfl⟩
    go_wp2
    go_ret
    exact ⟨by rw [HF.out]; rfl, hb⟩
  | false =>
    have HF := Lib.hid (show farB xs = false by unfold farB; rw [hg]; rfl)
    rw [hg] at c
    clear hg
    go_enter Try.func46, Try.ntmps46
    go_wp2_with fail
    refine c.mono ?_
    rintro e w1 ⟨rfl, hb⟩
    clear c
    go_wp2
    go_ret
    exact ⟨by rw [HF.out]; rfl, hb⟩

set_option maxHeartbeats 1600000 in
set_option maxRecDepth 100000 in
theorem wayHome_yes (v : Value) (xs : List Int) (w : World) (hv : OwnI w v xs) (hn : xs.length ≤ 1048576) (hg : farB xs = true) :
    Calls Try.prog 45 #[v] w fun e w' => ∃ g cap ms, e = .returned (.tuple #[.slice (some ⟨g, 0, none⟩) (farS xs + 1) cap, .bool true]) ∧ Wv (pG xs.length) w' w.heap.size (.slice (some ⟨g, 0, none⟩) (farS xs + 1) cap) ms (wayP (pG xs.length) xs (ramp 1 xs.length) (farS xs) (farS xs)) ∧ Below w.heap.size w w' := by
  obtain ⟨hG, h7⟩ := farB_iff.1 hg
  have HC := Lib.hid (pG_ok hG.cnt h7)
  have HS := Lib.hid (show (pG xs.length).St xs from hG.st)
  have HH := Lib.hid (show (pG xs.length).St (ramp 1 xs.length) from hG.home)
  have HP := Lib.hid (plain_GP hG.1 h7)
  have hks : (pG xs.length).ks.length ≤ 1000 := by rw [pks_length]; omega
  have h9 := hG.le9
  have c := isSearched_any _ xs w hv hn
  rw [hg] at c
  obtain ⟨ad, cap, rfl, _, _, _⟩ := hv.shape
  clear hG hg
  go_enter Try.func45, Try.ntmps45
  go_wp2_with fail
  refine c.mono ?_
  rintro e w1 ⟨rfl, hb1⟩
  clear c
  go_wp2_with fail
  refine (towerOf_any _ xs w1 (hv.same hb1) h9).mono ?_
  rintro e w2 ⟨rfl, hb2⟩
  go_wp2_with fail
  refine (sortedTower_any _ w2 h9).mono ?_
  rintro e w3 ⟨rfl, hb3⟩
  have hB2 := hb1.trans (hb2.mono hb1.size)
  have hB3 := hB2.trans (hb3.mono hB2.size)
  have c4 := way_any (pG xs.length) _ _ _ _ xs (ramp 1 xs.length) w3 HC HP hks HS HH
  rw [pfar] at c4
  go_wp2_with fail
  refine c4.mono ?_
  rintro e w4 ⟨g, cap2, ms, rfl, hW, hb4⟩
  clear c4
  go_wp2
  go_ret2
  exact ⟨g, cap2, ms, rfl, hW.mono hB3.size, hB3.trans (hb4.mono hB3.size)⟩

theorem wayHome_no (v : Value) (xs : List Int) (w : World) (hv : OwnI w v xs) (hn : xs.length ≤ 1048576) (hg : farB xs = false) :
    Calls Try.prog 45 #[v] w fun e w' => e = .returned (.tuple #[.slice none 0 0, .bool false]) ∧ Below w.heap.size w w' := by
  have c := isSearched_any _ xs w hv hn
  rw [hg] at c
  obtain ⟨ad, cap, rfl, _, _, _⟩ := hv.shape
  clear hg
  go_enter Try.func45, Try.ntmps45
  go_wp2_with fail
  refine c.mono ?_
  rintro e w1 ⟨rfl, hb1⟩
  clear c
  go_wp2
  go_ret2
  exact ⟨rfl, hb1⟩

set_option maxHeartbeats 1600000 in
set_option maxRecDepth 100000 in
theorem wayBetween_yes (v u : Value) (xs ys : List Int) (w : World) (hv : OwnI w v xs) (hn : xs.length ≤ 1048576) (hu : OwnI w u ys) (hm : ys.length ≤ 1048576) (hg : twoB xs ys = true) :
    Calls Try.prog 32 #[v, u] w fun e w' => ∃ g cap ms, e = .returned (.tuple #[.slice (some ⟨g, 0, none⟩) (far2 xs ys + 1) cap, .bool true]) ∧ Wv (pG xs.length) w' w.heap.size (.slice (some ⟨g, 0, none⟩) (far2 xs ys + 1) cap) ms (wayP (pG xs.length) xs ys (far2 xs ys) (far2 xs ys)) ∧ Below w.heap.size w w' := by
  obtain ⟨hG, h7, hH, hl⟩ := twoB_iff.1 hg
  have HC := Lib.hid (pG_ok hG.cnt h7)
  have HS := Lib.hid (show (pG xs.length).St xs from hG.st)
  have HH := Lib.hid (show (pG xs.length).St ys from ⟨hH, hl.symm⟩)
  have HP := Lib.hid (plain_GP hG.1 h7)
  have hks : (pG xs.length).ks.length ≤ 1000 := by rw [pks_length]; omega
  have h9 := hG.le9
  have h9y := hH.le9
  have c := isSearched_any _ xs w hv hn
  rw [farB_iff.2 ⟨hG, h7⟩] at c
  have hgy : farB ys = true := farB_iff.2 ⟨hH, by omega⟩
  obtain ⟨ad, cap, rfl, _, _, _⟩ := hv.shape
  obtain ⟨ad2, cap2, rfl, _, _, _⟩ := hu.shape
  obtain ⟨n, hnn⟩ : ∃ n, xs.length = n := ⟨_, rfl⟩
  obtain ⟨d, hd⟩ : ∃ d, far xs.length xs ys = d := ⟨_, rfl⟩
  rw [show far2 xs ys = d from hd]
  rw [hnn] at HC HS HH HP hks h7 hd ⊢
  have hyn : ys.length = n := by omega
  rw [hnn] at hv
  rw [hyn] at hu
  rw [hnn] at c
  rw [hyn]
  clear hG hg hH hl hnn hyn
  go_enter Try.func32, Try.ntmps32
  go_wp2_with fail
  refine c.mono ?_
  rintro e w1 ⟨rfl, hb1⟩
  clear c
  have c2 := isSearched_any _ ys w1 (hu.same hb1) hm
  rw [hgy] at c2
  clear hgy
  go_wp2_with fail
  refine c2.mono ?_
  rintro e w2 ⟨rfl, hb2⟩
  clear c2
  have hB2 := hb1.trans (hb2.mono hb1.size)
  go_wp2_with fail
  refine (towerOf_any _ xs w2 (hv.same hB2) h9).mono ?_
  rintro e w3 ⟨rfl, hb3⟩
  have hB3 := hB2.trans (hb3.mono hB2.size)
  go_wp2_with fail
  refine (towerOf_any _ ys w3 (hu.same hB3) h9y).mono ?_
  rintro e w4 ⟨rfl, hb4⟩
  have hB4 := hB3.trans (hb4.mono hB3.size)
  have c4 := way_any (pG n) _ _ _ _ xs ys w4 HC HP hks HS HH
  rw [pfar, hd] at c4
  go_wp2_with fail
  refine c4.mono ?_
  rintro e w5 ⟨g, cap3, ms, rfl, hW, hb5⟩
  clear c4
  go_wp2
  go_ret2
  exact ⟨g, cap3, ms, rfl, hW.mono hB4.size, hB4.trans (hb5.mono hB4.size)⟩

set_option maxHeartbeats 1600000 in
set_option maxRecDepth 100000 in
theorem wayBetween_no (v u : Value) (xs ys : List Int) (w : World) (hv : OwnI w v xs) (hn : xs.length ≤ 1048576) (hu : OwnI w u ys) (hm : ys.length ≤ 1048576) (hg : twoB xs ys = false) :
    Calls Try.prog 32 #[v, u] w fun e w' => e = .returned (.tuple #[.slice none 0 0, .bool false]) ∧ Below w.heap.size w w' := by
  have c := isSearched_any _ xs w hv hn
  obtain ⟨ad, cap, rfl, _, _, _⟩ := hv.shape
  obtain ⟨ad2, cap2, rfl, _, _, _⟩ := hu.shape
  cases hx : farB xs with
  | false =>
    rw [hx] at c
    clear hx hg
    go_enter Try.func32, Try.ntmps32
    go_wp2_with fail
    refine c.mono ?_
    rintro e w1 ⟨rfl, hb1⟩
    clear c
    go_wp2
    go_ret2
    exact ⟨rfl, hb1⟩
  | true =>
    cases hy : farB ys with
    | false =>
      rw [hx] at c
      clear hx hg
      go_enter Try.func32, Try.ntmps32
      go_wp2_with fail
      refine c.mono ?_
      rintro e w1 ⟨rfl, hb1⟩
      clear c
      have c2 := isSearched_any _ ys w1 (hu.same hb1) hm
      rw [hy] at c2
      clear hy
      go_wp2_with fail
      refine c2.mono ?_
      rintro e w2 ⟨rfl, hb2⟩
      clear c2
      go_wp2
      go_ret2
      exact ⟨rfl, hb1.trans (hb2.mono hb1.size)⟩
    | true =>
      have hl : ¬ (xs.length : Int) = ys.length := by
        intro e
        have e2 : xs.length = ys.length := by omega
        unfold twoB at hg
        rw [hx, hy] at hg
        simp [e2] at hg
      rw [hx] at c
      clear hx hg
      go_enter Try.func32, Try.ntmps32
      go_wp2_with fail
      refine c.mono ?_
      rintro e w1 ⟨rfl, hb1⟩
      clear c
      have c2 := isSearched_any _ ys w1 (hu.same hb1) hm
      rw [hy] at c2
      clear hy
      go_wp2_with fail
      refine c2.mono ?_
      rintro e w2 ⟨rfl, hb2⟩
      clear c2
      go_wp2
      go_ret2
      exact ⟨rfl, hb1.trans (hb2.mono hb1.size)⟩

theorem run_pair0 (v0 v1 : Value) (w : World) : (Instr.extract (.tuple #[v0, v1]) 0).run Try.prog w = .ok v0 w := by kernel_rfl

theorem StackDistance_any (v : Value) (xs : List Int) (w : World) (hv : OwnI w v xs) (hn : xs.length ≤ 1048576) :
    Calls Try.prog 15 #[v] w fun e w' => e = .returned (.tuple #[.int .i64 (mStackDistance xs), .bool (farB xs)]) ∧ Below w.heap.size w w' := by
  cases hg : farB xs with
  | true =>
    have HM := Lib.hid (show mStackDistance xs = ((farS xs + 1 - 1 : Nat) : Int) from if_pos hg)
    have hG := (farB_iff.1 hg).1
    have hle := farS_le hG
    have h9 := hG.le9
    have c := wayHome_yes _ xs w hv hn hg
    obtain ⟨ad, cap, rfl, _, _, _⟩ := hv.shape
    obtain ⟨d, hd⟩ : ∃ d, farS xs = d := ⟨_, rfl⟩
    rw [hd] at c HM hle
    have hd2 : d + 1 ≤ 1048576 := by omega
    clear hG hg hd
    go_enter Try.func15, Try.ntmps15
    go_wp2_with fail
    refine c.mono ?_
    rintro e w1 ⟨g, cap2, ms, rfl, _, hb1⟩
    clear c
    go_wp2_with fail
    refine (wturns_any _ (d + 1) _ w1 hd2).mono ?_
    rintro e w2 ⟨rfl, rfl⟩
    go_wp2
    go_ret2
    exact ⟨by rw [HM.out]; rfl, hb1⟩
  | false =>
    have HM := Lib.hid (show mStackDistance xs = 0 from if_neg (by rw [hg]; exact Bool.false_ne_true))
    have c := wayHome_no _ xs w hv hn hg
    obtain ⟨ad, cap, rfl, _, _, _⟩ := hv.shape
    clear hg
    go_enter Try.func15, Try.ntmps15
    go_wp2_with fail
    refine c.mono ?_
    rintro e w1 ⟨rfl, hb1⟩
    clear c
    go_wp2_with fail
    refine (wturns_any _ 0 _ w1 (Nat.zero_le _)).mono ?_
    rintro e w2 ⟨rfl, rfl⟩
    go_wp2
    go_ret2
    exact ⟨by rw [HM.out]; rfl, hb1⟩

theorem DistanceBetween_any (v : Value) (xs : List Int) (u : Value) (ys : List Int) (w : World) (hv : OwnI w v xs) (hn : xs.length ≤ 1048576) (hu : OwnI w u ys) (hm : ys.length ≤ 1048576) :
    Calls Try.prog 9 #[v, u] w fun e w' => e = .returned (.tuple #[.int .i64 (mDistanceBetween xs ys), .bool (twoB xs ys)]) ∧ Below w.heap.size w w' := by
  cases hg : twoB xs ys with
  | true =>
    have HM := Lib.hid (show mDistanceBetween xs ys = ((far2 xs ys + 1 - 1 : Nat) : Int) from if_pos hg)
    obtain ⟨hG, h7, hH, hl⟩ := twoB_iff.1 hg
    have hle : far2 xs ys ≤ 2 * xs.length := (far_spec hG.st ⟨hH, hl.symm⟩).2.1
    have h9 := hG.le9
    have c := wayBetween_yes _ _ xs ys w hv hn hu hm hg
    obtain ⟨ad, cap, rfl, _, _, _⟩ := hv.shape
    obtain ⟨ad2, cap2, rfl, _, _, _⟩ := hu.shape
    obtain ⟨d, hd⟩ : ∃ d, far2 xs ys = d := ⟨_, rfl⟩
    rw [hd] at c HM hle
    have hd2 : d + 1 ≤ 1048576 := by omega
    clear hG hg hd hH hl
    go_enter Try.func9, Try.ntmps9
    go_wp2_with fail
    refine c.mono ?_
    rintro e w1 ⟨g, cap3, ms, rfl, _, hb1⟩
    clear c
    go_wp2_with fail
    refine (wturns_any _ (d + 1) _ w1 hd2).mono ?_
    rintro e w2 ⟨rfl, rfl⟩
    go_wp2
    go_ret2
    exact ⟨by rw [HM.out]; rfl, hb1⟩
  | false =>
    have HM := Lib.hid (show mDistanceBetween xs ys = 0 from if_neg (by rw [hg]; exact Bool.false_ne_true))
    have c := wayBetween_no _ _ xs ys w hv hn hu hm hg
    obtain ⟨ad, cap, rfl, _, _, _⟩ := hv.shape
    obtain ⟨ad2, cap2, rfl, _, _, _⟩ := hu.shape
    clear hg
    go_enter Try.func9, Try.ntmps9
    go_wp2_with fail
    refine c.mono ?_
    rintro e w1 ⟨rfl, hb1⟩
    clear c
    go_wp2_with fail
    refine (wturns_any _ 0 _ w1 (Nat.zero_le _)).mono ?_
    rintro e w2 ⟨rfl, rfl⟩
    go_wp2
    go_ret2
    exact ⟨by rw [HM.out]; rfl, hb1⟩

def litI : DD → Int
  | .lit (.int _ c) => c
  | _ => 0

set_option maxHeartbeats 1600000 in
set_option maxRecDepth 100000 in
theorem IsLeastPlan_any (v : Value) (xs : List Int) (u : Value) (ys : List Int) (w : World) (hv : OwnI w v xs) (hn : xs.length ≤ 1048576) (hu : OwnI w u ys) (hm : ys.length ≤ 1048576) :
    Calls Try.prog 16 #[v, u] w fun e w' => e = .returned (.tuple #[.bool (mIsLeastPlan xs ys), .bool (leastB xs ys)]) ∧ Below w.heap.size w w' := by
  have c := isSearched_any _ xs w hv hn
  cases hg : farB xs with
  | true =>
    cases hh : planB xs.length ys with
    | true =>
      obtain ⟨hG, h7⟩ := farB_iff.1 hg
      have hL : leastB xs ys = true := by unfold leastB; rw [hg, hh]; rfl
      have HL := Lib.hid hL
      have HM := Lib.hid (show mIsLeastPlan xs ys = (((far2 xs (playL xs ys) + 1 - 1 : Nat) : Int) == (ys.length : Int)) by unfold mIsLeastPlan; rw [hL, Bool.eq_iff_iff]; simp; omega)
      have HP := Lib.hid (planB_iff.1 hh).2.2
      have HO := Lib.hid (show okPlay xs ys = true by unfold okPlay; rw [goodB_iff.2 hG, hh]; rfl)
      have hT0 : St xs.length (playL xs ys) := ⟨playL_good hG ys, playL_length xs ys⟩
      have hle : far2 xs (playL xs ys) ≤ 2 * xs.length := (far_spec hG.st hT0).2.1
      have HC := Lib.hid (pG_ok hG.cnt h7)
      have HS := Lib.hid (show (pG xs.length).St xs from hG.st)
      have HT := Lib.hid (show (pG xs.length).St (playL xs ys) from hT0)
      have HPP := Lib.hid (plain_GP hG.1 h7)
      have hks : (pG xs.length).ks.length ≤ 1000 := by rw [pks_length]; omega
      have h9 := hG.le9
      rw [hg] at c
      obtain ⟨ad, cap, rfl, _, _, _⟩ := hv.shape
      obtain ⟨ad2, cap2, rfl, _, _, _⟩ := hu.shape
      obtain ⟨d, hd⟩ : ∃ d, far2 xs (playL xs ys) = d := ⟨_, rfl⟩
      have HD := Lib.hid hd
      rw [hd] at HM hle
      have hd2 : d + 1 ≤ 1048576 := by omega
      have hut := Try.underlying52
      have hs9 : (twl xs).length = 9 := twl_length _ h9
      have hsz : (Try.prog.info? 52).map (·.size) = some (twl xs).length := by rw [Try.infoT, hs9]
      clear hG hg hL hh hd hs9 hT0
      go_enter Try.func16, Try.ntmps16
      go_wp2_with fail
      refine c.mono ?_
      rintro e w1 ⟨rfl, hb1⟩
      clear c
      have c2 := isPlanFor_any _ _ xs ys w1 (hv.same hb1) hn (hu.same hb1) hm
      rw [HO.out] at c2
      go_wp2_with fail
      refine c2.mono ?_
      rintro e w2 ⟨rfl, hb2⟩
      clear c2
      have hB2 := hb1.trans (hb2.mono hb1.size)
      go_wp2_with fail
      refine (towerOf_any _ xs w2 (hv.same hB2) h9).mono ?_
      rintro e w3 ⟨rfl, hb3⟩
      have hB3 := hB2.trans (hb3.mono hB2.size)
      clear hb1 hb2 hb3 hB2
      have hz : Blk (w3.alloc (.cells (twl []).toArray 52)) w3.heap.size 52 (twl []) := Blk.new _ _ (twl []) _ rfl
      go_upto_region 4 with (refine wpList_store_tower rfl _ _ rfl w3.heap.size [] xs (by simp) h9 rfl rfl hz ?_; intro w4 hbx hg4)
      have hB4 := (hB3.alloc hB3.size (.cells (twl []).toArray 52)).grown hg4 (by simp; exact Nat.le_succ_of_le hB3.size) (by intro k hk; cases hk; exact hB3.size)
      have hu4 := hu.same hB4.drew
      have hlt := hbx.lt
      have hr := hbx.range
      have HP2 := Lib.hid HP.out
      clear hz hg4 hB3 hbx
      refine wp_region_held_drew (S := (fun w' => w'.rangeAt w3.heap.size 0 (twl xs))) (by kernel_rfl) (hr) (fun hHeld => ?_)
      refine wpAnyH_take (i := 0) rfl (by kernel_rfl) (by kernel_rfl) (by kernel_rfl) (fun _ _ _ h => h) (yieldsIf_load_mid (by rfl) _ _ rfl _ _ rfl _ _ (fun w hw => hw) hut rfl hsz) (by assumption) ?_
      try simp only [List.getElem_toArray, List.getElem_cons_zero, Act.put, List.setIfInBounds_toArray, List.set_cons_zero, List.set_cons_succ]
      refine wpAnyH_take (i := 1) rfl (by kernel_rfl) (by kernel_rfl) (by kernel_rfl) (fun _ _ _ h => h) (yieldsIf_load_mid (by rfl) _ _ rfl _ _ rfl _ _ (fun w hw => hw) hut rfl hsz) (by assumption) ?_
      try simp only [List.getElem_toArray, List.getElem_cons_zero, List.getElem_cons_succ, Act.put, List.setIfInBounds_toArray, List.set_cons_zero, List.set_cons_succ]
      refine wpAnyH_take (i := 2) (v := ?_) rfl (by kernel_rfl) (by kernel_rfl) (by kernel_rfl) (fun _ _ _ h => h) (Or.inl ⟨by rfl, ?_⟩) (by assumption) ?_
      rotate_left
      · intro w _; go_simp; with_reducible rfl
      try simp only [List.getElem_toArray, List.getElem_cons_zero, List.getElem_cons_succ, Act.put, List.setIfInBounds_toArray, List.set_cons_zero, List.set_cons_succ]
      refine wpAnyH_take (i := 4) (v := ?_) rfl (by kernel_rfl) (by kernel_rfl) (by kernel_rfl) (fun _ _ _ h => h) (Or.inl ⟨by rfl, ?_⟩) (by assumption) ?_
      rotate_left
      · intro w _; go_simp; with_reducible rfl
      try simp only [List.getElem_toArray, List.getElem_cons_zero, List.getElem_cons_succ, Act.put, List.setIfInBounds_toArray, List.set_cons_zero, List.set_cons_succ]
      refine wpAnyH_take (i := 5) (v := ?_) rfl (by kernel_rfl) (by kernel_rfl) (by kernel_rfl) (fun _ _ _ h => h) (Or.inl ⟨by rfl, ?_⟩) (by assumption) ?_
      rotate_left
      · intro w _; go_simp; with_reducible rfl
      try simp only [List.getElem_toArray, List.getElem_cons_zero, List.getElem_cons_succ, Act.put, List.setIfInBounds_toArray, List.set_cons_zero, List.set_cons_succ]
      refine wpAnyH_take (i := 6) (v := ?_) rfl (by kernel_rfl) (by kernel_rfl) (by kernel_rfl) (fun _ _ _ h => h) (Or.inl ⟨by rfl, ?_⟩) (by assumption) ?_
      rotate_left
      · intro w _; go_simp; with_reducible rfl
      try simp only [List.getElem_toArray, List.getElem_cons_zero, List.getElem_cons_succ, Act.put, List.setIfInBounds_toArray, List.set_cons_zero, List.set_cons_succ]
      refine wpAnyH_take (i := 9) (v := ?_) rfl (by kernel_rfl) (by kernel_rfl) (by kernel_rfl) (fun _ _ _ h => h) (Or.inl ⟨by rfl, ?_⟩) (by assumption) ?_
      rotate_left
      · intro w _; go_simp; with_reducible rfl
      try simp only [List.getElem_toArray, List.getElem_cons_zero, List.getElem_cons_succ, Act.put, List.setIfInBounds_toArray, List.set_cons_zero, List.set_cons_succ]
      refine wpAnyH_take (i := 10) (v := ?_) rfl (by kernel_rfl) (by kernel_rfl) (by kernel_rfl) (fun _ _ _ h => h) (Or.inl ⟨by rfl, ?_⟩) (by assumption) ?_
      rotate_left
      · intro w _; go_simp; with_reducible rfl
      try simp only [List.getElem_toArray, List.getElem_cons_zero, List.getElem_cons_succ, Act.put, List.setIfInBounds_toArray, List.set_cons_zero, List.set_cons_succ]
      refine wpAnyH_ready (rs := [3]) (by kernel_rfl) (by simp) ?_
      refine AllReadyH.cons rfl (fun K hK => ?_) AllReadyH.nil
      go_simp
      refine (played_any _ xs ys _ h9 hu4 HP2 hm).mono ?_
      rintro e w5 ⟨rfl, hb5⟩
      go_wp2_with fail
      refine hK.out _ _ (range_below hHeld hb5 hlt) (fun hHeld => ?_)
      clear hK K
      try simp only [List.getElem_toArray, List.getElem_cons_zero, List.getElem_cons_succ, Act.put, List.setIfInBounds_toArray, List.set_cons_zero, List.set_cons_succ]
      have hlt5 := Nat.lt_of_lt_of_le hlt hb5.size
      refine wpAnyH_ready (rs := [7]) (by kernel_rfl) (by simp) ?_
      refine AllReadyH.cons rfl (fun K hK => ?_) AllReadyH.nil
      go_simp
      refine (way_any (pG xs.length) _ _ _ _ xs (playL xs ys) w5 HC HPP hks HS HT).mono ?_
      rintro e w6 ⟨g, cap3, ms, rfl, _, hb6⟩
      go_wp2_with fail
      refine hK.out _ _ (range_below hHeld hb6 hlt5) (fun hHeld => ?_)
      clear hK K
      try simp only [List.getElem_toArray, List.getElem_cons_zero, List.getElem_cons_succ, Act.put, List.setIfInBounds_toArray, List.set_cons_zero, List.set_cons_succ]
      rw [show gfar (pG xs.length) xs (playL xs ys) = d from (pfar _ _ _).trans HD.out]
      refine wpAnyH_ready (rs := [8]) (by kernel_rfl) (by simp) ?_
      refine AllReadyH.cons rfl (fun K hK => ?_) AllReadyH.nil
      go_simp
      refine (wturns_any _ (d + 1) _ w6 hd2).mono ?_
      rintro e w7 ⟨rfl, rfl⟩
      go_wp2_with fail
      refine hK.out _ _ (hHeld) (fun hHeld => ?_)
      clear hK K
      try simp only [List.getElem_toArray, List.getElem_cons_zero, List.getElem_cons_succ, Act.put, List.setIfInBounds_toArray, List.set_cons_zero, List.set_cons_succ]
      refine wpAnyH_take (i := 11) (v := ?_) rfl (by kernel_rfl) (by kernel_rfl) (by kernel_rfl) (fun _ _ _ h => h) (Or.inl ⟨by rfl, ?_⟩) (by assumption) ?_
      rotate_left
      · intro w _; go_simp; with_reducible rfl
      try simp only [List.getElem_toArray, List.getElem_cons_zero, List.getElem_cons_succ, Act.put, List.setIfInBounds_toArray, List.set_cons_zero, List.set_cons_succ]
      refine wpAnyH_take (i := 12) (v := ?_) rfl (by kernel_rfl) (by kernel_rfl) (by kernel_rfl) (fun _ _ _ h => h) (Or.inl ⟨by rfl, ?_⟩) (by assumption) ?_
      rotate_left
      · intro w _; go_simp; with_reducible rfl
      try simp only [List.getElem_toArray, List.getElem_cons_zero, List.getElem_cons_succ, Act.put, List.setIfInBounds_toArray, List.set_cons_zero, List.set_cons_succ]
      refine wpAnyH_take (i := 13) (v := ?_) rfl (by kernel_rfl) (by kernel_rfl) (by kernel_rfl) (fun _ _ _ h => h) (Or.inl ⟨by rfl, ?_⟩) (by assumption) ?_
      rotate_left
      · intro w _; go_simp; with_reducible rfl
      try simp only [List.getElem_toArray, List.getElem_cons_zero, List.getElem_cons_succ, Act.put, List.setIfInBounds_toArray, List.set_cons_zero, List.set_cons_succ]
      refine wpAnyH_done (by kernel_rfl) ?_ _
      go_wp2
      go_ret2
      have hB5 := hB4.drew.trans (hb5.mono hB4.size)
      exact ⟨by rw [HM.out, HL.out]; rfl, hB5.trans (hb6.mono hB5.size)⟩
    | false =>
      have HL := Lib.hid (show leastB xs ys = false by unfold leastB; rw [hg, hh]; rfl)
      have HM := Lib.hid (show mIsLeastPlan xs ys = false by unfold mIsLeastPlan leastB; rw [hg, hh]; rfl)
      have HO := Lib.hid (show okPlay xs ys = false by unfold okPlay; rw [hh]; simp)
      rw [hg] at c
      obtain ⟨ad, cap, rfl, _, _, _⟩ := hv.shape
      obtain ⟨ad2, cap2, rfl, _, _, _⟩ := hu.shape
      clear hg hh
      go_enter Try.func16, Try.ntmps16
      go_wp2_with fail
      refine c.mono ?_
      rintro e w1 ⟨rfl, hb1⟩
      clear c
      have c2 := isPlanFor_any _ _ xs ys w1 (hv.same hb1) hn (hu.same hb1) hm
      rw [HO.out] at c2
      go_wp2_with fail
      refine c2.mono ?_
      rintro e w2 ⟨rfl, hb2⟩
      clear c2
      go_wp2
      go_ret2
      exact ⟨by rw [HM.out, HL.out]; rfl, hb1.trans (hb2.mono hb1.size)⟩
  | false =>
    have HL := Lib.hid (show leastB xs ys = false by unfold leastB; rw [hg]; rfl)
    have HM := Lib.hid (show mIsLeastPlan xs ys = false by unfold mIsLeastPlan leastB; rw [hg]; rfl)
    rw [hg] at c
    obtain ⟨ad, cap, rfl, _, _, _⟩ := hv.shape
    obtain ⟨ad2, cap2, rfl, _, _, _⟩ := hu.shape
    clear hg
    go_enter Try.func16, Try.ntmps16
    go_wp2_with fail
    refine c.mono ?_
    rintro e w1 ⟨rfl, hb1⟩
    clear c
    go_wp2
    go_ret2
    exact ⟨by rw [HM.out, HL.out]; rfl, hb1⟩

end Go.Proofs.Ytkfpcnbpdlcnaaa

namespace Go.Proofs.Ytkfpcnbpdlcnaaa
open Go Go.RowKit Go.Pan

set_option maxHeartbeats 1600000 in
set_option maxRecDepth 100000 in
theorem PlanBetween_any (v : Value) (xs : List Int) (u : Value) (ys : List Int) (w : World) (hv : OwnI w v xs) (hn : xs.length ≤ 1048576) (hu : OwnI w u ys) (hm : ys.length ≤ 1048576) :
    Calls Try.prog 7 #[v, u] w fun e w' => ∃ r, e = .returned (.tuple #[r, .bool (twoB xs ys)]) ∧ OwnI w' r (mPlanBetween xs ys) ∧ From w.heap.size r ∧ Below w.heap.size w w' := by
  cases hg : twoB xs ys with
  | true =>
    have HM := Lib.hid (show mPlanBetween xs ys = ggoL (pG xs.length) ys (far2 xs ys) xs from (show mPlanBetween xs ys = goL xs.length ys (far2 xs ys) xs from if_pos hg).trans (pgoL _ _ _ _).symm)
    obtain ⟨hG, h7, hH, hl⟩ := twoB_iff.1 hg
    have hle : far2 xs ys ≤ 2 * xs.length := (far_spec hG.st ⟨hH, hl.symm⟩).2.1
    have h9 := hG.le9
    have c := wayBetween_yes _ _ xs ys w hv hn hu hm hg
    have HC := Lib.hid (pG_ok hG.cnt h7)
    have HS := Lib.hid (show (pG xs.length).St xs from hG.st)
    have HH := Lib.hid (show (pG xs.length).St ys from ⟨hH, hl.symm⟩)
    have HPP := Lib.hid (plain_GP hG.1 h7)
    have hks : (pG xs.length).ks.length ≤ 9 := by rw [pks_length]; omega
    have HD := Lib.hid (show gfar (pG xs.length) xs ys = far2 xs ys from pfar _ _ _)
    obtain ⟨ad, cap, rfl, _, _, _⟩ := hv.shape
    obtain ⟨ad2, cap2, rfl, _, _, _⟩ := hu.shape
    obtain ⟨d, hd⟩ : ∃ d, far2 xs ys = d := ⟨_, rfl⟩
    rw [hd] at c HM hle HD
    have hd2 : d + 1 ≤ 1048576 := by omega
    clear hG hg hd hH hl
    go_enter Try.func7, Try.ntmps7
    go_wp2_with fail
    refine c.mono ?_
    rintro e w1 ⟨g, cap3, ms, rfl, hW, hb1⟩
    clear c
    go_wp2_with fail
    refine (towerOf_any _ xs w1 (hv.same hb1) h9).mono ?_
    rintro e w2 ⟨rfl, hb2⟩
    have hW2 := hW.below hb2 (Nat.le_refl _)
    have hB2 := hb1.trans (hb2.mono hb1.size)
    have c3 := firstPlan_any (pG xs.length) _ _ _ _ d _ g cap3 ms xs ys w2 HC HPP hks HS HH HD hd2 hW2
    clear hW hW2
    go_wp2_with fail
    refine c3.mono ?_
    rintro e w3 ⟨r, rfl, ho, hf, hb3⟩
    go_wp2
    go_ret2
    exact ⟨_, rfl, by rw [HM.out]; exact ho, hf.mono hB2.size, hB2.trans (hb3.mono hB2.size)⟩
  | false =>
    have HM := Lib.hid (show mPlanBetween xs ys = [] from if_neg (by rw [hg]; exact Bool.false_ne_true))
    have c := wayBetween_no _ _ xs ys w hv hn hu hm hg
    obtain ⟨ad, cap, rfl, _, _, _⟩ := hv.shape
    obtain ⟨ad2, cap2, rfl, _, _, _⟩ := hu.shape
    clear hg
    go_enter Try.func7, Try.ntmps7
    go_wp2_with fail
    refine c.mono ?_
    rintro e w1 ⟨rfl, hb1⟩
    clear c
    go_wp2
    go_ret2
    exact ⟨_, rfl, by rw [HM.out]; exact OwnI.nil _, From.nil _ _ _, hb1⟩

end Go.Proofs.Ytkfpcnbpdlcnaaa

namespace Go.Pan
theorem pecc (m : Nat) : gecc (pG m) (ramp 1 m) = ecc m := by
  unfold gecc ecc
  rw [show gfar (pG m) (ramp 1 m) = far m (ramp 1 m) from funext fun q => pfar m _ q]
  rfl
theorem pbyL (m : Nat) : gbyL (pG m) (ramp 1 m) = byL m := by
  unfold gbyL byL
  rw [pecc]
  refine List.map_congr_left fun e _ => ?_
  unfold gbyN byN
  rw [pnearC]
  rfl

end Go.Pan

namespace Go.Proofs.Ytkfpcnbpdlcnaaa
open Go Go.RowKit Go.Pan

set_option maxHeartbeats 1600000 in
set_option maxRecDepth 100000 in
theorem MiddleStacks_any (v : Value) (xs : List Int) (u : Value) (ys : List Int) (w : World) (hv : OwnI w v xs) (hn : xs.length ≤ 1048576) (hu : OwnI w u ys) (hm : ys.length ≤ 1048576) :
    Calls Try.prog 11 #[v, u] w fun e w' => e = .returned (.tuple #[.int .i64 (mMiddleStacks xs ys), .bool (twoB xs ys)]) ∧ Below w.heap.size w w' := by
  cases hg : twoB xs ys with
  | true =>
    have HM := Lib.hid (show mMiddleStacks xs ys = (midL xs.length xs ys (far2 xs ys) : Int) from if_pos hg)
    obtain ⟨hG, h7, hH, hl⟩ := twoB_iff.1 hg
    have hle : far2 xs ys ≤ 2 * xs.length := (far_spec hG.st ⟨hH, hl.symm⟩).2.1
    have h9 := hG.le9
    have c := wayBetween_yes _ _ xs ys w hv hn hu hm hg
    have HC := Lib.hid hG.cnt
    have HCG := Lib.hid (pG_ok hG.cnt h7)
    have HS := Lib.hid hG.st
    obtain ⟨ad, cap, rfl, _, _, _⟩ := hv.shape
    obtain ⟨ad2, cap2, rfl, _, _, _⟩ := hu.shape
    obtain ⟨d, hd⟩ : ∃ d, far2 xs ys = d := ⟨_, rfl⟩
    rw [hd] at c HM hle
    obtain ⟨m, hmm⟩ : ∃ m, d + 1 = m := ⟨_, rfl⟩
    have HMM := Lib.hid hmm
    rw [hmm] at c
    clear hG hg hd hH hl hmm
    go_enter Try.func11, Try.ntmps11
    go_wp2_with fail
    refine c.mono ?_
    rintro e w1 ⟨g, cap3, ms, rfl, hW, hb1⟩
    clear c
    have hml : ms.length = m := by rw [hW.len, wayP_length, HMM.out]
    have hne : ms ≠ [] := by rintro rfl; have := HMM.out; simp at hml; omega
    obtain ⟨gg, cc, hsh, _, hgl, _, hcl⟩ := hW.shape hne
    simp only [Value.slice.injEq, Option.some.injEq, Addr.mk.injEq, and_true] at hsh
    obtain ⟨rfl, hlx, rfl⟩ := hsh
    have HML := Lib.hid hml
    have HCL := Lib.hid hcl
    have HW := Lib.hid hW
    have hfl := fact_le (n := xs.length) (by omega)
    have hm0 := midTo_zero xs.length xs ys d
    have HM0 := Lib.hid hm0
    have hm1 : m ≤ 1048576 := by have := HMM.out; omega
    clear hlx hml hne hcl hW hm0
    go_wp2
    go_loopw [8, 10, 19] (fun cv _ iv' wr => ∃ i : Nat, i ≤ m ∧ iv' = .int .i64 i ∧ cv = .int .i64 (midTo xs.length xs ys d i : Nat) ∧ wr = w1) (fun _ _ i _ => m - (intOf i).toNat)
    case atStart => exact ⟨0, Nat.zero_le _, rfl, by rw [HM0.out]; rfl, rfl⟩
    case round =>
      obtain ⟨i, hi, rfl, rfl, rfl⟩ := hrel
      by_cases hlt : i < m
      · have hlt' : (i : Int) < m := by omega
        obtain ⟨bj, hbj⟩ : ∃ x, ms[i]? = some x := ⟨_, List.getElem?_eq_getElem (by rw [HML.out]; exact hlt)⟩
        have hly := (HW.out.lay i bj _ hbj (wayP_get _ _ _ d d i (by have := HMM.out; omega))).1
        have hcell := HCL.out i bj hbj
        obtain ⟨D, hown, hL⟩ := hly
        have HSZ := Lib.hid (show midTo xs.length xs ys d (i + 1) = midTo xs.length xs ys d i + Maps.size D by
          have hz := hL.size HCG.out (hown.canon keyd)
          rw [pwayC, show (pG xs.length).all = allS xs.length from rfl] at hz
          rw [midTo_succ HC.out HS.out (by have := HMM.out; omega), hz])
        have hle2 := midTo_le xs.length xs ys d (i + 1)
        rw [HSZ.out] at hle2
        obtain ⟨a, ha⟩ : ∃ a, midTo xs.length xs ys d i = a := ⟨_, rfl⟩
        obtain ⟨z, hz⟩ : ∃ z, Maps.size D = z := ⟨_, rfl⟩
        have HA := Lib.hid ha
        have HZ := Lib.hid hz
        rw [ha, hz] at hle2
        rw [ha]
        have hs1 := IntWalk.i64_in ((a : Int) + z) (by omega)
        clear hbj hL ha hz
        go_wp2_with (first | (at_len; refine wpList_len_own _ rfl _ 60 rfl 52 3 Try.underlying60 _ bj (pG xs.length).all.length D rfl hown ?_; rw [HZ.out]))
        go_roundw
        case rel => exact ⟨i + 1, by omega, by go_num, by rw [HSZ.out, HA.out, HZ.out]; go_num, by first | rfl | trivial⟩
        case measure => simp [intOf] <;> omega
      · obtain rfl : i = m := by omega
        have hge : (i : Int) ≤ i := Int.le_refl _
        have HE := Lib.hid (show midTo xs.length xs ys d i = midL xs.length xs ys d by rw [← HMM.out]; exact midTo_all _ _ _ _)
        go_wp2
        go_ret2
        exact ⟨by rw [HM.out, HE.out]; rfl, hb1⟩
  | false =>
    have HM := Lib.hid (show mMiddleStacks xs ys = 0 from if_neg (by rw [hg]; exact Bool.false_ne_true))
    have c := wayBetween_no _ _ xs ys w hv hn hu hm hg
    obtain ⟨ad, cap, rfl, _, _, _⟩ := hv.shape
    obtain ⟨ad2, cap2, rfl, _, _, _⟩ := hu.shape
    clear hg
    go_enter Try.func11, Try.ntmps11
    go_wp2_with fail
    refine c.mono ?_
    rintro e w1 ⟨rfl, hb1⟩
    clear c
    go_wp2
    go_loopw [8, 10, 19] (fun cv _ iv' wr => iv' = .int .i64 0 ∧ cv = .int .i64 0 ∧ wr = w1) (fun _ _ i _ => 0)
    case atStart => exact ⟨rfl, rfl, rfl⟩
    case round =>
      obtain ⟨rfl, rfl, rfl⟩ := hrel
      go_wp2
      go_ret2
      exact ⟨by rw [HM.out]; rfl, hb1⟩

theorem WorstDistance_any (n : Int) (w : World) :
    Calls Try.prog 22 #[.int .i64 n] w fun e w' => e = .returned (.tuple #[.int .i64 (mWorstDistance n), .bool (inB n 1 7)]) ∧ Below w.heap.size w w' := by
  have c := isSearchedCount_any n w
  cases hg : inB n 1 7 with
  | true =>
    have HM := Lib.hid (show mWorstDistance n = (ecc n.toNat : Int) from if_pos hg)
    obtain ⟨m, rfl, hm, h7⟩ := inB_nat hg
    rw [hg] at c
    have heb := ecc_le hm
    have c1 := plainWave_any m w hm h7
    rw [pecc] at c1
    rw [Int.toNat_natCast] at HM
    obtain ⟨E, hE⟩ : ∃ E, ecc m = E := ⟨_, rfl⟩
    rw [hE] at c1 heb HM
    have hE2 : E + 1 ≤ 1048576 := by omega
    clear hg hm hE
    go_enter Try.func22, Try.ntmps22
    go_wp2_with fail
    refine c.mono ?_
    rintro e w0 ⟨rfl, rfl⟩
    clear c
    go_wp2_with fail
    refine c1.mono ?_
    rintro e w1 ⟨g, cap, ms, rfl, _, hb1⟩
    clear c1
    have c2 := wturns_any (some ⟨g, 0, none⟩) (E + 1) cap w1 hE2
    rw [Nat.add_sub_cancel] at c2
    go_wp2_with fail
    refine c2.mono ?_
    rintro e w2 ⟨rfl, rfl⟩
    go_wp2
    go_ret2
    exact ⟨by rw [HM.out]; rfl, hb1⟩
  | false =>
    have HM := Lib.hid (show mWorstDistance n = 0 from if_neg (by rw [hg]; exact Bool.false_ne_true))
    rw [hg] at c
    clear hg
    go_enter Try.func22, Try.ntmps22
    go_wp2_with fail
    refine c.mono ?_
    rintro e w0 ⟨rfl, rfl⟩
    go_wp2
    go_ret2
    exact ⟨by rw [HM.out]; rfl, Below.refl _ _⟩

set_option maxHeartbeats 800000 in
set_option maxRecDepth 100000 in
theorem CountByTurns_any (n : Int) (w : World) :
    Calls Try.prog 20 #[.int .i64 n] w fun e w' => ∃ r, e = .returned (.tuple #[r, .bool (inB n 1 7)]) ∧ OwnI w' r (mCountByTurns n) ∧ From w.heap.size r ∧ Below w.heap.size w w' := by
  have c := isSearchedCount_any n w
  cases hg : inB n 1 7 with
  | true =>
    have HM := Lib.hid (show mCountByTurns n = gbyL (pG n.toNat) (ramp 1 n.toNat) from (show mCountByTurns n = byL n.toNat from if_pos hg).trans (pbyL _).symm)
    obtain ⟨m, rfl, hm, h7⟩ := inB_nat hg
    rw [hg] at c
    rw [Int.toNat_natCast] at HM
    have HC := Lib.hid (pG_ok hm h7)
    have HH := Lib.hid (show (pG m).St (ramp 1 m) from hm.home)
    have heb := gecc_le HC.out HH.out
    have hdm := HC.out.dm30
    have c1 := plainWave_any m w hm h7
    obtain ⟨L, hL⟩ : ∃ L, gecc (pG m) (ramp 1 m) + 1 = L := ⟨_, rfl⟩
    have HL := Lib.hid hL
    have hLb : L ≤ 1001 := by omega
    rw [hL] at c1
    clear hg hL heb hdm
    go_enter Try.func20, Try.ntmps20
    go_wp2_with fail
    refine c.mono ?_
    rintro e w0 ⟨rfl, rfl⟩
    clear c
    go_wp2_with fail
    refine c1.mono ?_
    rintro e w1 ⟨g, cap, ms, rfl, hW, hb1⟩
    clear c1
    have c2 := counts_any (pG m) _ g cap L ms (ramp 1 m) w1 HC HH HL hLb hW
    clear hW
    go_wp2_with fail
    refine c2.mono ?_
    rintro e w3 ⟨r, rfl, ho, hf, hb3⟩
    go_wp2
    go_ret2
    exact ⟨_, rfl, by rw [HM.out]; exact ho, hf.mono hb1.size, hb1.trans (hb3.mono hb1.size)⟩
  | false =>
    have HM := Lib.hid (show mCountByTurns n = [] from if_neg (by rw [hg]; exact Bool.false_ne_true))
    rw [hg] at c
    clear hg
    go_enter Try.func20, Try.ntmps20
    go_wp2_with fail
    refine c.mono ?_
    rintro e w0 ⟨rfl, rfl⟩
    clear c
    go_wp2
    go_ret2
    exact ⟨_, rfl, by rw [HM.out]; exact OwnI.nil _, From.nil _ _ _, Below.refl _ _⟩

end Go.Proofs.Ytkfpcnbpdlcnaaa
