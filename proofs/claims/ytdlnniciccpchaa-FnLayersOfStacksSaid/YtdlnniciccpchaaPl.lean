import Derived.Test.YtdlnniciccpchaaNT
import Derived.Test.YtdlnniciccpchaaGE
import Derived.Test.YtdlnniciccpchaaI3
namespace Go.Proofs.Ytdlnniciccpchaa
open Go Go.RowKit Go.Pan

set_option maxRecDepth 100000 in
theorem plainTurns_any (m : Nat) (w : World) (h1 : 1 ≤ m) (hm : m ≤ 9) :
    Calls Try.prog 138 #[.int .i64 m] w fun e w' => ∃ r, e = .returned r ∧ OwnI w' r (ramp 2 (m - 1)) ∧ From w.heap.size r ∧ Below w.heap.size w w' := by
  have c := turnsFrom_any 2 m w (by omega) (by omega) (by omega)
  have HC := Lib.hid c
  clear c
  have HE := Lib.hid (show m + 1 - 2 = m - 1 by omega)
  go_enter Try.func138, Try.ntmps138
  go_wp2_with fail
  refine HC.out.mono ?_
  rintro e w1 ⟨r, rfl, ho, hf, hb⟩
  rw [HE.out] at ho
  go_wp2
  go_ret
  exact ⟨_, rfl, ho, hf, hb⟩

set_option maxRecDepth 100000 in
set_option maxHeartbeats 800000 in
theorem plainTurned_any (pv : Value) (xs : List Int) (k : Nat) (w : World) (h9 : xs.length ≤ 9) (hk : k ≤ xs.length) :
    Calls Try.prog 137 #[pv, tw xs, .int .i64 k] w fun e w' => e = .returned (tw (turnL xs k)) ∧ Below w.heap.size w w' := by
  have hbx : Blk ((w.alloc (.cells (twl xs).toArray 52)).alloc (.cells (twl []).toArray 52)) w.heap.size 52 (twl xs) := (Blk.new w _ (twl xs) _ rfl).alloc _
  have hz : Blk ((w.alloc (.cells (twl xs).toArray 52)).alloc (.cells (twl []).toArray 52)) (w.heap.size + 1) 52 (twl []) := Blk.new _ _ (twl []) _ (by simp)
  have hb0 : Below w.heap.size w ((w.alloc (.cells (twl xs).toArray 52)).alloc (.cells (twl []).toArray 52)) := ((Below.refl _ _).alloc (Nat.le_refl _) _).alloc (by simp) _
  have HT := Lib.hid (twl_length xs h9)
  have h9t : (turnL xs k).length ≤ 9 := by rw [turnL_length]; exact h9
  have H9T := Lib.hid (twl_length _ h9t)
  go_enter Try.func137, Try.ntmps137
  go_wp2_with (first | (refine wpList_load_tower rfl _ rfl w.heap.size xs h9 rfl hbx ?_))
  refine (turned_any _ _ _ h9 hk).mono ?_
  rintro e w2 ⟨rfl, hb2⟩
  have hz2 := hz.below hb2 hz.lt
  have hB2 := hb0.trans (hb2.mono hb0.size)
  clear hbx hz hb2 hb0
  go_wp2_with (first | (refine wpList_store_tower rfl _ _ rfl (w.heap.size + 1) [] (turnL xs k) (by simp) h9t rfl rfl hz2 ?_; intro w5 hbT5 hgr5))
  have hB5 := hB2.grown hgr5 hB2.size (by intro k hk; cases hk; omega)
  exact bodyPost_ret (results_tower rfl _ _ (w.heap.size + 1) (turnL xs k) h9t rfl hbT5) rfl ⟨rfl, hB5⟩

theorem plain_mT (m : Nat) (u : World) : Sem.run Try.prog (method 248 55 (.int .i64 m) "loop.example/g01221/impl.turns") u = .ok (138, .int .i64 m) u := by kernel_rfl
theorem plain_mD (m : Nat) (u : World) : Sem.run Try.prog (method 248 55 (.int .i64 m) "loop.example/g01221/impl.turned") u = .ok (137, .int .i64 m) u := by kernel_rfl

theorem plain_GP {m : Nat} (h1 : 1 ≤ m) (h7 : m ≤ 7) : GP (pG m) 55 (.int .i64 m) 138 137 where
  mT := plain_mT m
  mD := plain_mD m
  cT := fun args u => by go_simp
  cD := fun args u => by go_simp
  rb := fun _ _ _ _ => trivial
  turns := fun u _ => by
    rw [pks_ramp h1]
    exact plainTurns_any m u h1 (by omega)
  turned := fun q k u _ hq hk => by
    have h1 := mem_ks.1 hk
    have h2 : q.length = m := hq.2
    exact plainTurned_any _ q k u (by omega) (by omega)

set_option maxHeartbeats 800000 in
set_option maxRecDepth 100000 in
theorem plainWave_any (m : Nat) (w : World) (hm : Cnt m) (h7 : m ≤ 7) :
    Calls Try.prog 50 #[.int .i64 m] w fun e w' => ∃ g cap ms, e = .returned (.slice (some ⟨g, 0, none⟩) (gecc (pG m) (ramp 1 m) + 1) cap) ∧ Wv (pG m) w' w.heap.size (.slice (some ⟨g, 0, none⟩) (gecc (pG m) (ramp 1 m) + 1 + 1) cap) ms (gnearL (pG m) (ramp 1 m) (gecc (pG m) (ramp 1 m) + 1)) ∧ Below w.heap.size w w' := by
  have HC := Lib.hid (pG_ok hm h7)
  have HH := Lib.hid (show (pG m).St (ramp 1 m) from hm.home)
  have HP := Lib.hid (plain_GP hm.pos h7)
  have hks : (pG m).ks.length ≤ 1000 := by rw [pks_length]; omega
  have h9 := hm.le
  clear hm
  go_enter Try.func50, Try.ntmps50
  go_wp2_with fail
  refine (sortedTower_any m w (by omega)).mono ?_
  rintro e w3 ⟨rfl, hb3⟩
  have c4 := wholeWave_any (pG m) _ _ _ _ (ramp 1 m) w3 HC HP hks HH
  go_wp2_with fail
  refine c4.mono ?_
  rintro e w4 ⟨g, cap2, ms, rfl, hW, hb4⟩
  clear c4
  go_wp2
  go_ret
  exact ⟨g, cap2, ms, rfl, hW.mono hb3.size, hb3.trans (hb4.mono hb3.size)⟩

end Go.Proofs.Ytdlnniciccpchaa
