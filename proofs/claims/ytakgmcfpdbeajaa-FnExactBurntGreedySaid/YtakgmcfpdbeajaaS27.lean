import Derived.Test.YtakgmcfpdbeajaaS26
import Derived.IntWalk
namespace Go.Proofs.Ytakgmcfpdbeajaa
open Go Go.RowKit Go.Pan

theorem halvTo_step (xs : List Int) (j : Nat) (h : j < xs.length / 2) (x : Int) (hx : halv (xs.getD (2 * j) 0) (xs.getD (2 * j + 1) 0) = x) : (halvL xs).take j ++ [x] = (halvL xs).take (j + 1) := by
  rw [List.take_succ_eq_append_getElem (by rw [halvL_length]; exact h), halvL_at xs j h, hx]
theorem pairTo_step {xs : List Int} {j : Nat} (h : pairTo xs j) (hp : pairOk (xs.getD (2 * j) 0) (xs.getD (2 * j + 1) 0)) : pairTo xs (j + 1) := fun i hi => by
  by_cases e : i = j
  · subst e; exact hp
  · exact h i (by omega)
theorem not_halve {xs : List Int} {j : Nat} (hj : j < xs.length / 2) (hp : ¬ pairOk (xs.getD (2 * j) 0) (xs.getD (2 * j + 1) 0)) : okHalve xs = false := by
  cases h : okHalve xs with
  | false => rfl
  | true =>
    simp only [okHalve, Bool.and_eq_true, decide_eq_true_iff] at h
    exact absurd (h.2 j hj) hp

theorem cell_lit {w : World} (g : Nat) (hg : g = w.heap.size) (v : Value) (ty : TypeId) : (w.alloc (.cells #[v] ty)).cell? ⟨g, 0, none⟩ = some v := by
  subst hg
  exact (Blk.new w ty [v] _ rfl).cell 0

set_option maxRecDepth 100000 in
set_option maxHeartbeats 1600000 in
theorem sHalveStack_any (v : Value) (xs : List Int) (w : World) (hv : OwnI w v xs) (hn : xs.length ≤ 1048576) :
    Calls Try.prog 62 #[v] w fun e w' => ∃ r, e = .returned (.tuple #[r, .bool (okHalve xs)]) ∧ OwnI w' r (mHalveStack xs) ∧ From w.heap.size r ∧ Below w.heap.size w w' := by
  obtain ⟨ad, cap, rfl, hc, _, _⟩ := hv.shape
  cases hg : goodB xs with
  | true =>
    have hG := goodB_iff.1 hg
    have h9 := hG.le9
    have HG := Lib.hid hg
    have HX := Lib.hid (show ∀ x ∈ xs, 1 ≤ x ∧ x ≤ 9 from fun x hx => by have := hG.2.2.1 x hx; omega)
    by_cases h2 : xs.length % 2 = 0
    · have hq2 : ((xs.length : Int) % 2 == 1) = false := by
        have : (xs.length : Int) % 2 = 0 := by omega
        simp [this]
      have H2 := Lib.hid h2
      clear hG hg h2
      go_enter Try.func62, Try.ntmps62
      go_wp2_with fail
      refine (stGood_any _ _ _ hv hn).mono ?_
      rintro e w1 ⟨rfl, hb⟩
      rw [HG.out]
      go_wp2
      go_loopw [4, 5, 21, 50] (fun o i _ _ wr => ∃ j m : Nat, 2 * j = m ∧ m ≤ xs.length ∧ i = .int .i64 m ∧ OwnI wr o ((halvL xs).take j) ∧ Hid (pairTo xs j) ∧ From w.heap.size o ∧ Below w.heap.size w wr) (fun _ i _ _ _ => xs.length - (intOf i).toNat)
      case atStart => exact ⟨0, 0, rfl, Nat.zero_le _, rfl, by simpa using OwnI.nil _, Lib.hid (fun i hi => by omega), From.nil _ _ _, hb⟩
      case round =>
        obtain ⟨j, m, hjm, hm, rfl, ho, hP, hf, hbr⟩ := hrel
        have HJM := Lib.hid hjm
        have hj1 : 2 * j ≤ m := by omega
        have hj2 : m ≤ 2 * j := by omega
        have hvr := hv.below hbr (Nat.le_refl _)
        clear hv hjm
        by_cases hlt : m < xs.length
        · have hlt2 : m + 1 < xs.length := by have := H2.out; omega
          have hjl : j < xs.length / 2 := by omega
          obtain ⟨g, off, rfl, hgl, hcell, hfz⟩ := hvr.at (by omega)
          obtain ⟨a, ha⟩ : ∃ a, xs[m] = a := ⟨_, rfl⟩
          obtain ⟨b, hb'⟩ : ∃ b, xs[m + 1] = b := ⟨_, rfl⟩
          have hck := hcell m (by omega)
          rw [List.getElem?_map, List.getElem?_eq_getElem hlt, ha] at hck
          have hck2 := hcell (m + 1) (by omega)
          rw [List.getElem?_map, List.getElem?_eq_getElem hlt2, hb'] at hck2
          have hx := HX.out _ (List.getElem_mem hlt)
          have hy := HX.out _ (List.getElem_mem hlt2)
          rw [ha] at hx
          rw [hb'] at hy
          have hx1 := hx.1
          have hx2 := hx.2
          have hy1 := hy.1
          have hy2 := hy.2
          have HA := Lib.hid (show xs.getD (2 * j) 0 = a by rw [HJM.out, getD_eq hlt, ha])
          have HB := Lib.hid (show xs.getD (2 * j + 1) 0 = b by rw [HJM.out, getD_eq hlt2, hb'])
          have hm1 : (m : Int) + 1 < xs.length := by omega
          have hlen : ((halvL xs).take j).length ≤ 1048576 := by rw [List.length_take]; omega
          have hs := hbr.size
          have hsum : IntKind.i64.wrap ((m : Int) + 1) = (m : Int) + 1 := IntWalk.i64_in _ (by omega)
          have hnn : (0 : Int) ≤ (m : Int) + 1 := by omega
          have htn : ((m : Int) + 1).toNat = m + 1 := by omega
          have HSUM := Lib.hid hsum
          have HTN := Lib.hid htn
          clear hcell hfz hvr hx hy ha hb' hsum htn
          by_cases hodd : a % 2 = 1
          · by_cases hab : b = a + 1
            · have HS := Lib.hid (halvTo_step xs j hjl (b / 2) (by rw [HA.out, HB.out, halv_lo (by omega)]))
              have HP := Lib.hid (pairTo_step hP.out (by rw [HA.out, HB.out]; exact .inl ⟨hodd, hab⟩))
              subst hab
              have hd1 : (a % 2 == 1) = true := by simp [hodd]
              have hd2 : (a.tmod 2 == 1) = true := by rw [Int.tmod_eq_emod_of_nonneg (by omega)]; simp [hodd]
              clear hodd
              have hsum := HSUM.out
              have htn := HTN.out
              have hsa : IntKind.i64.wrap (a + 1) = a + 1 := IntWalk.i64_in _ (by omega)
              go_wp2_with fail
              go_quiet (fail)
              clear hsum htn hsa
              go_wp2_with (at_builtin; refine wpList_app1 Try.intSl rfl _ _ rfl _ ((halvL xs).take j) rfl ((Own.kept ho (fun _ _ => rfl)).alloc _) w.heap.size hf wr.heap.size ((a + 1) / 2) rfl ?c1 w ((hbr.drewN nq).alloc hs _) ?c2 hlen ?_)
              case c1 => exact cell_lit _ rfl _ _
              case c2 => simp; exact Nat.le_succ_of_le hs
              intro v' w2 ho' hf' hb' _
              rw [HS.out] at ho'
              clear HS ho hf hbr
              go_wp2
              go_roundw
              case rel => exact ⟨j + 1, m + 2, by omega, by omega, by go_num, ho', HP, hf', hb'⟩
              case measure => simp [intOf] <;> omega
            · have HNO := Lib.hid (not_halve hjl (by rw [HA.out, HB.out]; unfold pairOk; omega))
              have HM := Lib.hid (show mHalveStack xs = [] from if_neg (by rw [HNO.out]; exact Bool.false_ne_true))
              have hd1 : (a % 2 == 1) = true := by simp [hodd]
              have hd2 : (a.tmod 2 == 1) = true := by rw [Int.tmod_eq_emod_of_nonneg (by omega)]; simp [hodd]
              have hd3 : (b == a + 1) = false := by simp [hab]
              have hd4 : (a % 2 == 0) = false := by simp [hodd]
              have hd5 : (a.tmod 2 == 0) = false := by rw [Int.tmod_eq_emod_of_nonneg (by omega)]; simp [hodd]
              clear hodd hab
              have hsum := HSUM.out
              have htn := HTN.out
              have hsa : IntKind.i64.wrap (a + 1) = a + 1 := IntWalk.i64_in _ (by omega)
              go_wp2_with fail
              go_quiet (fail)
              go_wp2_with fail
              go_quiet (fail)
              go_wp2
              go_ret2
              exact ⟨_, by rw [HNO.out]; rfl, by rw [HM.out]; exact OwnI.nil _, From.nil _ _ _, (hbr.drewN _).drewN _⟩
          · have hev : a % 2 = 0 := by omega
            clear hodd
            by_cases hab : b = a - 1
            · have HS := Lib.hid (halvTo_step xs j hjl (-(a / 2)) (by rw [HA.out, HB.out, halv_hi (by omega) (by omega)]))
              have HP := Lib.hid (pairTo_step hP.out (by rw [HA.out, HB.out]; exact .inr ⟨hev, hab⟩))
              subst hab
              have hd1 : (a % 2 == 1) = false := by simp [hev]
              have hd2 : (a.tmod 2 == 1) = false := by rw [Int.tmod_eq_emod_of_nonneg (by omega)]; simp [hev]
              have hd4 : (a % 2 == 0) = true := by simp [hev]
              have hd5 : (a.tmod 2 == 0) = true := by rw [Int.tmod_eq_emod_of_nonneg (by omega)]; simp [hev]
              clear hev
              have hsum := HSUM.out
              have htn := HTN.out
              have hsa : IntKind.i64.wrap (a - 1) = a - 1 := IntWalk.i64_in _ (by omega)
              go_wp2_with fail
              go_quiet (fail)
              go_wp2_with fail
              go_quiet (fail)
              clear hsum htn hsa
              have hwr : wrap64 (-a.tdiv 2) = -(a / 2) := by
                rw [Int.tdiv_eq_ediv_of_nonneg (by omega)]
                exact IntWalk.wrap64_in _ (by omega)
              go_wp2_with (at_builtin; refine wpList_app1 Try.intSl rfl _ _ rfl _ ((halvL xs).take j) rfl ((Own.kept ho (fun _ _ => rfl)).alloc _) w.heap.size hf wr.heap.size (-(a / 2)) rfl ?c3 w ((hbr.drewN _).alloc hs _) ?c4 hlen ?_)
              case c3 => exact cell_lit _ rfl _ _
              case c4 => simp; exact Nat.le_succ_of_le hs
              intro v' w2 ho' hf' hb' _
              rw [HS.out] at ho'
              clear HS ho hf hbr
              go_wp2
              go_roundw
              case rel => exact ⟨j + 1, m + 2, by omega, by omega, by go_num, ho', HP, hf', hb'⟩
              case measure => simp [intOf] <;> omega
            · have HNO := Lib.hid (not_halve hjl (by rw [HA.out, HB.out]; unfold pairOk; omega))
              have HM := Lib.hid (show mHalveStack xs = [] from if_neg (by rw [HNO.out]; exact Bool.false_ne_true))
              have hd1 : (a % 2 == 1) = false := by simp [hev]
              have hd2 : (a.tmod 2 == 1) = false := by rw [Int.tmod_eq_emod_of_nonneg (by omega)]; simp [hev]
              have hd3 : (b == a - 1) = false := by simp [hab]
              have hd4 : (a % 2 == 0) = true := by simp [hev]
              have hd5 : (a.tmod 2 == 0) = true := by rw [Int.tmod_eq_emod_of_nonneg (by omega)]; simp [hev]
              clear hev hab
              have hsum := HSUM.out
              have htn := HTN.out
              have hsa : IntKind.i64.wrap (a - 1) = a - 1 := IntWalk.i64_in _ (by omega)
              go_wp2_with fail
              go_quiet (fail)
              go_wp2_with fail
              go_quiet (fail)
              go_wp2
              go_ret2
              exact ⟨_, by rw [HNO.out]; rfl, by rw [HM.out]; exact OwnI.nil _, From.nil _ _ _, (hbr.drewN _).drewN _⟩
        · have HE := Lib.hid (show okHalve xs = true by
            have h1 := H2.out
            have h3 := hP.out
            have e : j = xs.length / 2 := by omega
            rw [e] at h3
            simp only [okHalve, HG.out, Bool.true_and, Bool.and_eq_true, decide_eq_true_iff]
            exact ⟨h1, h3⟩)
          have HM := Lib.hid (show mHalveStack xs = (halvL xs).take j by
            have h1 := H2.out
            unfold mHalveStack
            rw [if_pos HE.out, List.take_of_length_le (by rw [halvL_length]; omega)])
          have hge : (xs.length : Int) ≤ m := by omega
          clear hvr
          go_wp2
          go_ret2
          exact ⟨_, by rw [HE.out]; rfl, by rw [HM.out]; exact ho, hf, hbr⟩
    · have HNO := Lib.hid (show okHalve xs = false by
        unfold okHalve
        rw [decide_eq_false h2]
        simp)
      have HM := Lib.hid (show mHalveStack xs = [] from if_neg (by rw [HNO.out]; exact Bool.false_ne_true))
      have hq2 : ((xs.length : Int) % 2 == 1) = true := by
        have : (xs.length : Int) % 2 = 1 := by omega
        simp [this]
      clear hG hg h2
      go_enter Try.func62, Try.ntmps62
      go_wp2_with fail
      refine (stGood_any _ _ _ hv hn).mono ?_
      rintro e w1 ⟨rfl, hb⟩
      rw [HG.out]
      go_wp2
      go_ret2
      exact ⟨_, by rw [HNO.out]; rfl, by rw [HM.out]; exact OwnI.nil _, From.nil _ _ _, hb⟩
  | false =>
    have HNO := Lib.hid (show okHalve xs = false by unfold okHalve; rw [hg]; rfl)
    have HM := Lib.hid (show mHalveStack xs = [] from if_neg (by rw [HNO.out]; exact Bool.false_ne_true))
    have HG := Lib.hid hg
    clear hg
    go_enter Try.func62, Try.ntmps62
    go_wp2_with fail
    refine (stGood_any _ _ _ hv hn).mono ?_
    rintro e w1 ⟨rfl, hb⟩
    rw [HG.out]
    go_wp2
    go_ret2
    exact ⟨_, by rw [HNO.out]; rfl, by rw [HM.out]; exact OwnI.nil _, From.nil _ _ _, hb⟩
end Go.Proofs.Ytakgmcfpdbeajaa
