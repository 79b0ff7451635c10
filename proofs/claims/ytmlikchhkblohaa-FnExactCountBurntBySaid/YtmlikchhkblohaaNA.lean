import Derived.Test.YtmlikchhkblohaaNT
import Derived.Test.YtmlikchhkblohaaI21
import Derived.Test.YtmlikchhkblohaaGE
namespace Go.Proofs.Ytmlikchhkblohaa
open Go Go.RowKit Go.Pan

set_option maxRecDepth 100000 in
theorem burntTurns_any (m : Nat) (w : World) (hm : m ≤ 9) :
    Calls Try.prog 240 #[.int .i64 m] w fun e w' => ∃ r, e = .returned r ∧ OwnI w' r (ramp 1 m) ∧ From w.heap.size r ∧ Below w.heap.size w w' := by
  have c := turnsFrom_any 1 m w (by omega) (by omega) (by omega)
  rw [Nat.add_sub_cancel] at c
  have HC := Lib.hid c
  clear c
  go_enter Try.func240, Try.ntmps240
  go_wp2_with fail
  refine HC.out.mono ?_
  rintro e w1 ⟨r, rfl, ho, hf, hb⟩
  go_wp2
  go_ret
  exact ⟨_, rfl, ho, hf, hb⟩

set_option maxRecDepth 100000 in
set_option maxHeartbeats 800000 in
theorem burntTurned_any (pv : Value) (xs : List Int) (k : Nat) (w : World) (h9 : xs.length ≤ 9) (hk : k ≤ xs.length) (hX : Hid (∀ x ∈ xs, -9 ≤ x ∧ x ≤ 9)) :
    Calls Try.prog 239 #[pv, tw xs, .int .i64 k] w fun e w' => e = .returned (tw (bturnL xs k)) ∧ Below w.heap.size w w' := by
  have hbx : Blk ((w.alloc (.cells (twl xs).toArray 86)).alloc (.cells (twl []).toArray 86)) w.heap.size 86 (twl xs) := (Blk.new w _ (twl xs) _ rfl).alloc _
  have hz : Blk ((w.alloc (.cells (twl xs).toArray 86)).alloc (.cells (twl []).toArray 86)) (w.heap.size + 1) 86 (twl []) := Blk.new _ _ (twl []) _ (by simp)
  have hb0 : Below w.heap.size w ((w.alloc (.cells (twl xs).toArray 86)).alloc (.cells (twl []).toArray 86)) := ((Below.refl _ _).alloc (Nat.le_refl _) _).alloc (by simp) _
  have HT := Lib.hid (twl_length xs h9)
  have h9t : (bturnL xs k).length ≤ 9 := by rw [bturnL_length]; exact h9
  have H9T := Lib.hid (twl_length _ h9t)
  go_enter Try.func239, Try.ntmps239
  go_wp2_with (first | (refine wpList_load_tower rfl _ rfl w.heap.size xs h9 rfl hbx ?_))
  refine (turnedOver_any _ _ _ h9 hk hX).mono ?_
  rintro e w2 ⟨rfl, hb2⟩
  have hz2 := hz.below hb2 hz.lt
  have hB2 := hb0.trans (hb2.mono hb0.size)
  clear hbx hz hb2 hb0
  go_wp2_with (first | (refine wpList_store_tower rfl _ _ rfl (w.heap.size + 1) [] (bturnL xs k) (by simp) h9t rfl rfl hz2 ?_; intro w5 hbT5 hgr5))
  have hB5 := hB2.grown hgr5 hB2.size (by intro k hk; cases hk; omega)
  exact bodyPost_ret (results_tower rfl _ _ (w.heap.size + 1) (bturnL xs k) h9t rfl hbT5) rfl ⟨rfl, hB5⟩

theorem burnt_mT (m : Nat) (u : World) : Sem.run Try.prog (method 314 116 (.int .i64 m) "loop.example/g01221/impl.turns") u = .ok (240, .int .i64 m) u := by kernel_rfl
theorem burnt_mD (m : Nat) (u : World) : Sem.run Try.prog (method 314 116 (.int .i64 m) "loop.example/g01221/impl.turned") u = .ok (239, .int .i64 m) u := by kernel_rfl

theorem burnt_GP {m : Nat} (h5 : m ≤ 5) : GP (bG m) 116 (.int .i64 m) 240 239 where
  mT := burnt_mT m
  mD := burnt_mD m
  cT := fun args u => by go_simp
  cD := fun args u => by go_simp
  rb := fun _ _ _ _ => trivial
  turns := fun u _ => by
    rw [bks_ramp]
    exact burntTurns_any m u (by omega)
  turned := fun q k u _ hq hk => by
    have h1 := mem_bks.1 hk
    have h2 : q.length = m := hq.2
    exact burntTurned_any _ q k u (by omega) (by omega) (Lib.hid (Burnt.nine hq.1))

theorem isSearchedBurnt_any (n : Int) (w : World) :
    Calls Try.prog 124 #[.int .i64 n] w fun e w' => e = .returned (.bool (inB n 1 5)) ∧ w = w' := by
  go_enter Try.func124, Try.ntmps124
  unfold inB
  by_cases h1 : (1 : Int) ≤ n
  · by_cases h2 : n ≤ 5
    · go_wp2
      go_ret
      simp [h1, h2]
    · have h2' : (5 : Int) < n := by omega
      go_wp2
      go_ret
      simp [h1, h2]
  · have h1' : n < 1 := by omega
    go_wp2
    go_ret
    simp
    omega

set_option maxHeartbeats 800000 in
set_option maxRecDepth 100000 in
theorem burntWayHome_yes (v : Value) (xs : List Int) (w : World) (hv : OwnI w v xs) (hn : xs.length ≤ 1048576) (hw : Wf64 xs) (hg : bfewB xs = true) :
    Calls Try.prog 120 #[v] w fun e w' => ∃ g cap ms, e = .returned (.tuple #[.slice (some ⟨g, 0, none⟩) (bfar xs + 1) cap, .bool true]) ∧ Wv (bG xs.length) w' w.heap.size (.slice (some ⟨g, 0, none⟩) (bfar xs + 1) cap) ms (wayP (bG xs.length) xs (ramp 1 xs.length) (bfar xs) (bfar xs)) ∧ Below w.heap.size w w' := by
  obtain ⟨hS, h1, h5⟩ := bfewB_iff.1 hg
  have HC := Lib.hid (bG_ok h1 h5)
  have HS := Lib.hid (show (bG xs.length).St xs from hS)
  have HH := Lib.hid (show (bG xs.length).St (ramp 1 xs.length) from BSt.ramp h1 (by omega))
  have HP := Lib.hid (burnt_GP h5)
  have h9 : xs.length ≤ 9 := by omega
  have hks : (bG xs.length).ks.length ≤ 1000 := by rw [bks_length]; omega
  have HB := Lib.hid (burntB_iff.2 hS.1)
  have HI := Lib.hid (show inB (xs.length : Int) 1 5 = true from inB_iff.2 ⟨by omega, by omega⟩)
  have c := IsBurnt_any _ xs w hv hn hw
  rw [HB.out] at c
  obtain ⟨ad, cap, rfl, _, _, _⟩ := hv.shape
  clear hS hg hw
  go_enter Try.func120, Try.ntmps120
  go_wp2_with fail
  refine c.mono ?_
  rintro e w1 ⟨rfl, hb1⟩
  clear c
  go_wp2_with fail
  refine (isSearchedBurnt_any _ _).mono ?_
  rintro e w1' ⟨rfl, rfl⟩
  rw [HI.out]
  go_wp2_with fail
  refine (towerOf_any _ xs w1 (hv.same hb1) h9).mono ?_
  rintro e w2 ⟨rfl, hb2⟩
  go_wp2_with fail
  refine (sortedTower_any _ w2 h9).mono ?_
  rintro e w3 ⟨rfl, hb3⟩
  have hB2 := hb1.trans (hb2.mono hb1.size)
  have hB3 := hB2.trans (hb3.mono hB2.size)
  have c4 := way_any (bG xs.length) _ _ _ _ xs (ramp 1 xs.length) w3 HC HP hks HS HH
  go_wp2_with fail
  refine c4.mono ?_
  rintro e w4 ⟨g, cap2, ms, rfl, hW, hb4⟩
  clear c4
  go_wp2
  go_ret2
  exact ⟨g, cap2, ms, rfl, hW.mono hB3.size, hB3.trans (hb4.mono hB3.size)⟩

set_option maxRecDepth 100000 in
theorem burntWayHome_no (v : Value) (xs : List Int) (w : World) (hv : OwnI w v xs) (hn : xs.length ≤ 1048576) (hw : Wf64 xs) (hg : bfewB xs = false) :
    Calls Try.prog 120 #[v] w fun e w' => e = .returned (.tuple #[.slice none 0 0, .bool false]) ∧ Below w.heap.size w w' := by
  have c := IsBurnt_any _ xs w hv hn hw
  obtain ⟨ad, cap, rfl, _, _, _⟩ := hv.shape
  clear hw
  cases hB : burntB xs with
  | true =>
    rw [hB] at c
    have HI := Lib.hid (show inB (xs.length : Int) 1 5 = false by simpa [bfewB, hB] using hg)
    clear hg hB
    go_enter Try.func120, Try.ntmps120
    go_wp2_with fail
    refine c.mono ?_
    rintro e w1 ⟨rfl, hb1⟩
    clear c
    go_wp2_with fail
    refine (isSearchedBurnt_any _ _).mono ?_
    rintro e w1' ⟨rfl, rfl⟩
    rw [HI.out]
    go_wp2
    go_ret2
    exact ⟨rfl, hb1⟩
  | false =>
    rw [hB] at c
    clear hg hB
    go_enter Try.func120, Try.ntmps120
    go_wp2_with fail
    refine c.mono ?_
    rintro e w1 ⟨rfl, hb1⟩
    clear c
    go_wp2
    go_ret2
    exact ⟨rfl, hb1⟩

set_option maxHeartbeats 800000 in
set_option maxRecDepth 100000 in
theorem BurntDistance_any (v : Value) (xs : List Int) (w : World) (hv : OwnI w v xs) (hn : xs.length ≤ 1048576) (hw : Wf64 xs) :
    Calls Try.prog 70 #[v] w fun e w' => e = .returned (.tuple #[.int .i64 (mBurntDistance xs), .bool (bfewB xs)]) ∧ Below w.heap.size w w' := by
  cases hg : bfewB xs with
  | true =>
    have HM := Lib.hid (show mBurntDistance xs = (bfar xs : Int) from if_pos hg)
    have hle := bfar_le hg
    have c := burntWayHome_yes _ xs w hv hn hw hg
    obtain ⟨d, hd⟩ : ∃ d, bfar xs = d := ⟨_, rfl⟩
    rw [hd] at c HM hle
    have hd2 : d + 1 ≤ 1048576 := by omega
    obtain ⟨ad, cap, rfl, _, _, _⟩ := hv.shape
    clear hg hw hd
    go_enter Try.func70, Try.ntmps70
    go_wp2_with fail
    refine c.mono ?_
    rintro e w1 ⟨g, cap2, ms, rfl, hW, hb1⟩
    clear c
    have c2 := wturns_any (some ⟨g, 0, none⟩) (d + 1) cap2 w1 hd2
    rw [Nat.add_sub_cancel] at c2
    go_wp2_with fail
    refine c2.mono ?_
    rintro e w2 ⟨rfl, rfl⟩
    go_wp2
    go_ret2
    exact ⟨by rw [HM.out]; rfl, hb1⟩
  | false =>
    have HM := Lib.hid (show mBurntDistance xs = 0 from if_neg (by rw [hg]; exact Bool.false_ne_true))
    have c := burntWayHome_no _ xs w hv hn hw hg
    obtain ⟨ad, cap, rfl, _, _, _⟩ := hv.shape
    clear hg hw
    go_enter Try.func70, Try.ntmps70
    go_wp2_with fail
    refine c.mono ?_
    rintro e w1 ⟨rfl, hb1⟩
    clear c
    have c2 := wturns_any none 0 0 w1 (by omega)
    go_wp2_with fail
    refine c2.mono ?_
    rintro e w2 ⟨rfl, rfl⟩
    go_wp2
    go_ret2
    exact ⟨by rw [HM.out]; rfl, hb1⟩

set_option maxHeartbeats 1600000 in
set_option maxRecDepth 100000 in
theorem LeastBurnt_any (v : Value) (xs : List Int) (w : World) (hv : OwnI w v xs) (hn : xs.length ≤ 1048576) (hw : Wf64 xs) :
    Calls Try.prog 72 #[v] w fun e w' => ∃ r, e = .returned (.tuple #[r, .bool (bfewB xs)]) ∧ OwnI w' r (mLeastBurnt xs) ∧ From w.heap.size r ∧ Below w.heap.size w w' := by
  cases hg : bfewB xs with
  | true =>
    have HM := Lib.hid (show mLeastBurnt xs = ggoL (bG xs.length) (ramp 1 xs.length) (bfar xs) xs from if_pos hg)
    obtain ⟨hS, h1, h5⟩ := bfewB_iff.1 hg
    have hle := bfar_le hg
    have h9 : xs.length ≤ 9 := by omega
    have c := burntWayHome_yes _ xs w hv hn hw hg
    have HC := Lib.hid (bG_ok h1 h5)
    have HS := Lib.hid (show (bG xs.length).St xs from hS)
    have HH := Lib.hid (show (bG xs.length).St (ramp 1 xs.length) from BSt.ramp h1 (by omega))
    have HP := Lib.hid (burnt_GP h5)
    have hks : (bG xs.length).ks.length ≤ 9 := by rw [bks_length]; omega
    have HD := Lib.hid (show gfar (bG xs.length) xs (ramp 1 xs.length) = bfar xs from rfl)
    obtain ⟨ad, cap, rfl, _, _, _⟩ := hv.shape
    obtain ⟨d, hd⟩ : ∃ d, bfar xs = d := ⟨_, rfl⟩
    rw [hd] at c HM hle HD
    have hd2 : d + 1 ≤ 1048576 := by omega
    clear hS hg hd hw
    go_enter Try.func72, Try.ntmps72
    go_wp2_with fail
    refine c.mono ?_
    rintro e w1 ⟨g, cap2, ms, rfl, hW, hb1⟩
    clear c
    go_wp2_with fail
    refine (towerOf_any _ xs w1 (hv.same hb1) h9).mono ?_
    rintro e w2 ⟨rfl, hb2⟩
    have hW2 := hW.below hb2 (Nat.le_refl _)
    have hB2 := hb1.trans (hb2.mono hb1.size)
    have c3 := firstPlan_any (bG xs.length) _ _ _ _ d _ g cap2 ms xs (ramp 1 xs.length) w2 HC HP hks HS HH HD hd2 hW2
    clear hW hW2
    go_wp2_with fail
    refine c3.mono ?_
    rintro e w3 ⟨r, rfl, ho, hf, hb3⟩
    go_wp2
    go_ret2
    exact ⟨_, rfl, by rw [HM.out]; exact ho, hf.mono hB2.size, hB2.trans (hb3.mono hB2.size)⟩
  | false =>
    have HM := Lib.hid (show mLeastBurnt xs = [] from if_neg (by rw [hg]; exact Bool.false_ne_true))
    have c := burntWayHome_no _ xs w hv hn hw hg
    obtain ⟨ad, cap, rfl, _, _, _⟩ := hv.shape
    clear hg hw
    go_enter Try.func72, Try.ntmps72
    go_wp2_with fail
    refine c.mono ?_
    rintro e w1 ⟨rfl, hb1⟩
    clear c
    go_wp2
    go_ret2
    exact ⟨_, rfl, by rw [HM.out]; exact OwnI.nil _, From.nil _ _ _, hb1⟩

set_option maxHeartbeats 800000 in
set_option maxRecDepth 100000 in
theorem burntWave_any (m : Nat) (w : World) (h1 : 1 ≤ m) (h5 : m ≤ 5) :
    Calls Try.prog 125 #[.int .i64 m] w fun e w' => ∃ g cap ms, e = .returned (.slice (some ⟨g, 0, none⟩) (gecc (bG m) (ramp 1 m) + 1) cap) ∧ Wv (bG m) w' w.heap.size (.slice (some ⟨g, 0, none⟩) (gecc (bG m) (ramp 1 m) + 1 + 1) cap) ms (gnearL (bG m) (ramp 1 m) (gecc (bG m) (ramp 1 m) + 1)) ∧ Below w.heap.size w w' := by
  have HC := Lib.hid (bG_ok h1 h5)
  have HH := Lib.hid (show (bG m).St (ramp 1 m) from BSt.ramp h1 (by omega))
  have HP := Lib.hid (burnt_GP h5)
  have hks : (bG m).ks.length ≤ 1000 := by rw [bks_length]; omega
  go_enter Try.func125, Try.ntmps125
  go_wp2_with fail
  refine (sortedTower_any m w (by omega)).mono ?_
  rintro e w3 ⟨rfl, hb3⟩
  have c4 := wholeWave_any (bG m) _ _ _ _ (ramp 1 m) w3 HC HP hks HH
  go_wp2_with fail
  refine c4.mono ?_
  rintro e w4 ⟨g, cap2, ms, rfl, hW, hb4⟩
  clear c4
  go_wp2
  go_ret
  exact ⟨g, cap2, ms, rfl, hW.mono hb3.size, hb3.trans (hb4.mono hb3.size)⟩

set_option maxHeartbeats 800000 in
set_option maxRecDepth 100000 in
theorem CountBurntBy_any (n : Int) (w : World) :
    Calls Try.prog 74 #[.int .i64 n] w fun e w' => ∃ r, e = .returned (.tuple #[r, .bool (inB n 1 5)]) ∧ OwnI w' r (mCountBurntBy n) ∧ From w.heap.size r ∧ Below w.heap.size w w' := by
  have c := isSearchedBurnt_any n w
  cases hg : inB n 1 5 with
  | true =>
    have HM := Lib.hid (show mCountBurntBy n = bbyL n.toNat from if_pos hg)
    obtain ⟨m, rfl, h1, h5⟩ := inB_five hg
    rw [hg] at c
    rw [Int.toNat_natCast] at HM
    have HC := Lib.hid (bG_ok h1 h5)
    have HH := Lib.hid (show (bG m).St (ramp 1 m) from BSt.ramp h1 (by omega))
    have heb := gecc_le HC.out HH.out
    have hdm := HC.out.dm30
    have c1 := burntWave_any m w h1 h5
    obtain ⟨L, hL⟩ : ∃ L, gecc (bG m) (ramp 1 m) + 1 = L := ⟨_, rfl⟩
    have HL := Lib.hid hL
    have hLb : L ≤ 1001 := by omega
    rw [hL] at c1
    clear hg hL heb hdm
    go_enter Try.func74, Try.ntmps74
    go_wp2_with fail
    refine c.mono ?_
    rintro e w0 ⟨rfl, rfl⟩
    clear c
    go_wp2_with fail
    refine c1.mono ?_
    rintro e w1 ⟨g, cap, ms, rfl, hW, hb1⟩
    clear c1
    have c2 := counts_any (bG m) _ g cap L ms (ramp 1 m) w1 HC HH HL hLb hW
    clear hW
    go_wp2_with fail
    refine c2.mono ?_
    rintro e w3 ⟨r, rfl, ho, hf, hb3⟩
    go_wp2
    go_ret2
    exact ⟨_, rfl, by rw [HM.out]; exact ho, hf.mono hb1.size, hb1.trans (hb3.mono hb1.size)⟩
  | false =>
    have HM := Lib.hid (show mCountBurntBy n = [] from if_neg (by rw [hg]; exact Bool.false_ne_true))
    rw [hg] at c
    clear hg
    go_enter Try.func74, Try.ntmps74
    go_wp2_with fail
    refine c.mono ?_
    rintro e w0 ⟨rfl, rfl⟩
    clear c
    go_wp2
    go_ret2
    exact ⟨_, rfl, by rw [HM.out]; exact OwnI.nil _, From.nil _ _ _, Below.refl _ _⟩

end Go.Proofs.Ytmlikchhkblohaa

