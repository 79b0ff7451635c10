import Derived.Test.YtakgmcfpdbeajaaNT
import Derived.Test.YtakgmcfpdbeajaaGQ
import Derived.Test.YtakgmcfpdbeajaaR3
import Derived.Test.YtakgmcfpdbeajaaI3
namespace Go.Proofs.Ytakgmcfpdbeajaa
open Go Go.RowKit Go.Pan

set_option maxRecDepth 100000 in
theorem plainTurns_any (m : Nat) (w : World) (h1 : 1 ≤ m) (hm : m ≤ 9) :
    Calls Try.prog 192 #[.int .i64 m] w fun e w' => ∃ r, e = .returned r ∧ OwnI w' r (ramp 2 (m - 1)) ∧ From w.heap.size r ∧ Below w.heap.size w w' := by
  have c := turnsFrom_any 2 m w (by omega) hm (by omega)
  have HC := Lib.hid c
  clear c
  have HE := Lib.hid (show m + 1 - 2 = m - 1 by omega)
  go_enter Try.func192, Try.ntmps192
  go_wp2_with fail
  refine HC.out.mono ?_
  rintro e w1 ⟨r, rfl, ho, hf, hb⟩
  rw [HE.out] at ho
  go_wp2
  go_ret
  exact ⟨_, rfl, ho, hf, hb⟩

set_option maxRecDepth 100000 in
set_option maxHeartbeats 800000 in
theorem plainTurned_any (pv : Value) (xs : List Int) (k : Nat) (w : World) (h9 : xs.length ≤ 9) (hk : k ≤ xs.length) :
    Calls Try.prog 191 #[pv, tw xs, .int .i64 k] w fun e w' => e = .returned (tw (turnL xs k)) ∧ Below w.heap.size w w' := by
  have hbx : Blk ((w.alloc (.cells (twl xs).toArray 54)).alloc (.cells (twl []).toArray 54)) w.heap.size 54 (twl xs) := (Blk.new w _ (twl xs) _ rfl).alloc _
  have hz : Blk ((w.alloc (.cells (twl xs).toArray 54)).alloc (.cells (twl []).toArray 54)) (w.heap.size + 1) 54 (twl []) := Blk.new _ _ (twl []) _ (by simp)
  have hb0 : Below w.heap.size w ((w.alloc (.cells (twl xs).toArray 54)).alloc (.cells (twl []).toArray 54)) := ((Below.refl _ _).alloc (Nat.le_refl _) _).alloc (by simp) _
  have HT := Lib.hid (twl_length xs h9)
  have h9t : (turnL xs k).length ≤ 9 := by rw [turnL_length]; exact h9
  have H9T := Lib.hid (twl_length _ h9t)
  go_enter Try.func191, Try.ntmps191
  go_wp2_with (first | (refine wpList_load_tower rfl _ rfl w.heap.size xs h9 rfl hbx ?_))
  refine (turned_any _ _ _ h9 hk).mono ?_
  rintro e w2 ⟨rfl, hb2⟩
  have hz2 := hz.below hb2 hz.lt
  have hB2 := hb0.trans (hb2.mono hb0.size)
  clear hbx hz hb2 hb0
  go_wp2_with (first | (refine wpList_store_tower rfl _ _ rfl (w.heap.size + 1) [] (turnL xs k) (by simp) h9t rfl rfl hz2 ?_; intro w5 hbT5 hgr5))
  have hB5 := hB2.grown hgr5 hB2.size (by intro k hk; cases hk; omega)
  exact bodyPost_ret (results_tower rfl _ _ (w.heap.size + 1) (turnL xs k) h9t rfl hbT5) rfl ⟨rfl, hB5⟩

theorem plain_mT (m : Nat) (u : World) : Sem.run Try.prog (method 255 94 (.int .i64 m) "loop.example/g01221/impl.turns") u = .ok (192, .int .i64 m) u := by kernel_rfl
theorem plain_mD (m : Nat) (u : World) : Sem.run Try.prog (method 255 94 (.int .i64 m) "loop.example/g01221/impl.turned") u = .ok (191, .int .i64 m) u := by kernel_rfl

theorem plain_GP {m : Nat} (h1 : 1 ≤ m) (h7 : m ≤ 7) : GP (pG m) 94 (.int .i64 m) 192 191 where
  mT := plain_mT m
  mD := plain_mD m
  cT := fun args u => by go_simp
  cD := fun args u => by go_simp
  turns := fun u => by
    rw [pks_ramp h1]
    exact plainTurns_any m u h1 (by omega)
  turned := fun q k u hq hk => by
    have h1 := mem_ks.1 hk
    have h2 : q.length = m := hq.2
    exact plainTurned_any _ q k u (by omega) (by omega)

set_option maxHeartbeats 800000 in
set_option maxRecDepth 100000 in
theorem plainWave_any (m : Nat) (w : World) (hm : Cnt m) (h7 : m ≤ 7) :
    Calls Try.prog 80 #[.int .i64 m] w fun e w' => ∃ g cap ms, e = .returned (.slice (some ⟨g, 0, none⟩) (gecc (pG m) (ramp 1 m) + 1) cap) ∧ Wv (pG m) w' w.heap.size (.slice (some ⟨g, 0, none⟩) (gecc (pG m) (ramp 1 m) + 1 + 1) cap) ms (gnearL (pG m) (ramp 1 m) (gecc (pG m) (ramp 1 m) + 1)) ∧ Below w.heap.size w w' := by
  have HC := Lib.hid (pG_ok hm h7)
  have HH := Lib.hid (show (pG m).St (ramp 1 m) from hm.home)
  have HP := Lib.hid (plain_GP hm.pos h7)
  have hks : (pG m).ks.length ≤ 1000 := by rw [pks_length]; omega
  have h9 := hm.le
  clear hm
  go_enter Try.func80, Try.ntmps80
  go_wp2_with fail
  refine (sortedTower_any m w (by omega)).mono ?_
  rintro e w3 ⟨rfl, hb3⟩
  have c4 := wholeWave_any (pG m) _ _ _ _ (ramp 1 m) w3 HC HP hks HH
  go_wp2_with fail
  refine c4.mono ?_
  rintro e w4 ⟨g, cap2, ms, rfl, hW, hb4⟩
  clear c4
  go_wp2
  go_ret
  exact ⟨g, cap2, ms, rfl, hW.mono hb3.size, hb3.trans (hb4.mono hb3.size)⟩

set_option maxHeartbeats 800000 in
set_option maxRecDepth 100000 in
theorem WorstStacks_any (n : Int) (w : World) :
    Calls Try.prog 31 #[.int .i64 n] w fun e w' => ∃ r hs, e = .returned (.tuple #[r, .bool (inB n 1 7)]) ∧ SS w' w.heap.size w'.heap.size r hs (mWorstStacks n) ∧ Below w.heap.size w w' := by
  have c := isSearchedCount_any n w
  cases hg : inB n 1 7 with
  | true =>
    have HM := Lib.hid (show mWorstStacks n = worstS n.toNat from if_pos hg)
    obtain ⟨m, rfl, hm, h7⟩ := inB_seven hg
    rw [Int.toNat_natCast] at HM
    rw [hg] at c
    have HC := Lib.hid (pG_ok hm h7)
    have HH := Lib.hid (show (pG m).St (ramp 1 m) from hm.home)
    have HMW := Lib.hid (fun q => mem_worstS hm h7 (q := q))
    have HLM := Lib.hid (show (pG m).len = m from rfl)
    have hle := gecc_le HC.out HH.out
    have hdm : (pG m).dm ≤ 1000 := HC.out.dm30
    have c1 := plainWave_any m w hm h7
    have HNE := Lib.hid (show ∃ q, (pG m).St q ∧ 0 < gnearC (pG m) (ramp 1 m) (peccN m) q by
      obtain ⟨q, h1, h2⟩ := gecc_at HC.out HH.out
      exact ⟨q, h1, (gnearC_pos HC.out HH.out h1).2 h2⟩)
    have HPE := Lib.hid (show gecc (pG m) (ramp 1 m) = peccN m from rfl)
    have h9 := hm.le
    obtain ⟨E, hE⟩ : ∃ E, gecc (pG m) (ramp 1 m) = E := ⟨_, rfl⟩
    have HE := Lib.hid (show peccN m = E from hE)
    rw [hE] at hle c1
    have hEb : E ≤ 1048576 := by omega
    clear hg hm hE hdm
    go_enter Try.func31, Try.ntmps31
    go_wp2_with fail
    refine c.mono ?_
    rintro e w0 ⟨rfl, rfl⟩
    clear c
    go_wp2_with fail
    refine c1.mono ?_
    rintro e w1 ⟨g, cap, ms, rfl, hW, hb1⟩
    clear c1
    have hml : ms.length = E + 1 + 1 := by rw [hW.len, gnearL_length]
    have hne : ms ≠ [] := by rintro rfl; simp at hml
    obtain ⟨gg, cc, hsh, _, hgl, hcap, hcl⟩ := hW.shape hne
    simp only [Value.slice.injEq, Option.some.injEq, Addr.mk.injEq, and_true] at hsh
    obtain ⟨rfl, _, rfl⟩ := hsh
    obtain ⟨b, hb⟩ : ∃ b, ms[E]? = some b := ⟨_, List.getElem?_eq_getElem (by omega)⟩
    have hcb := hcl E b hb
    have hly := (hW.lay E b _ hb (gnearL_get (pG m) (ramp 1 m) (E + 1) E (by omega))).1
    rw [← HE.out] at hly
    have c2 := wlastAt_any g E cap b w1 hEb hcb
    clear hml hne hcl hb hW hcap hcb
    go_wp2_with fail
    refine c2.mono ?_
    rintro e w2 ⟨rfl, rfl⟩
    clear c2
    have c3 := stacks_any (pG m) b _ m w1 HC hly HNE.out HLM (by omega)
    go_wp2_with fail
    refine c3.mono ?_
    rintro e w3 ⟨r, hs, L, rfl, hS, hP, hmem, hb3⟩
    clear c3
    have HL := Lib.hid (show L = worstS m from sorted_eq hP (worstS_sorted m) (fun q => by rw [hmem q, HMW.out q]))
    have HS := Lib.hid (show SS w3 w.heap.size w3.heap.size r hs (mWorstStacks (m : Int)) by rw [HM.out, ← HL.out]; exact hS.mono hb1.size (Nat.le_refl _))
    have hB := hb1.trans (hb3.mono hb1.size)
    clear hP hmem hS
    go_wp2
    go_ret2
    exact ⟨_, _, rfl, HS.out, hB⟩
  | false =>
    have HM := Lib.hid (show mWorstStacks n = [] from if_neg (by rw [hg]; exact Bool.false_ne_true))
    rw [hg] at c
    clear hg
    go_enter Try.func31, Try.ntmps31
    go_wp2_with fail
    refine c.mono ?_
    rintro e w0 ⟨rfl, rfl⟩
    clear c
    go_wp2
    go_ret2
    exact ⟨_, [], rfl, by rw [HM.out]; exact SS.nil _ _ _, Below.refl _ _⟩
end Go.Proofs.Ytakgmcfpdbeajaa
