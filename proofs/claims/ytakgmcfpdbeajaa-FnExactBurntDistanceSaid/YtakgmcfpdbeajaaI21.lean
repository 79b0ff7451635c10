import Derived.Test.YtakgmcfpdbeajaaI20
namespace Go.Proofs.Ytakgmcfpdbeajaa
open Go Go.RowKit Go.Pan

theorem StTo_bturn (xs p : List Int) (k : Nat) : StTo bturnL xs p k = bplayL xs (p.take k) := by
  have : ∀ (q : List Int) (ys : List Int), q.foldl (fun r j => bturnL r j.toNat) ys = bplayL ys q := by
    intro q
    induction q with
    | nil => intro ys; rfl
    | cons a q ih => intro ys; exact ih _
  exact this _ _
theorem Burnt.nine {xs : List Int} (h : Burnt xs) : ∀ x ∈ xs, -9 ≤ x ∧ x ≤ 9 := fun x hx => by have := h.bd hx; omega

theorem twN_length (st : List Int → Nat → List Int) (xs p : List Int) (h : ∀ k, (StTo st xs p k).length ≤ 9) : ∀ m, (twN st xs p m).length = m * 9
  | 0 => rfl
  | m + 1 => by rw [twN_succ, List.length_append, twN_length st xs p h m, twl_length _ (h m)]; omega
theorem twN_get (st : List Int → Nat → List Int) (xs p : List Int) (h : ∀ k, (StTo st xs p k).length ≤ 9) (k j : Nat) (hj : j < 9) : ∀ m, k < m → (twN st xs p m)[k * 9 + j]? = (twl (StTo st xs p k))[j]?
  | 0, h0 => by omega
  | m + 1, h0 => by
    rw [twN_succ]
    by_cases hk : k < m
    · rw [List.getElem?_append_left (by rw [twN_length st xs p h]; omega), twN_get st xs p h k j hj m hk]
    · obtain rfl : k = m := by omega
      rw [List.getElem?_append_right (by rw [twN_length st xs p h]; omega), twN_length st xs p h, Nat.add_sub_cancel_left]

theorem alongB_any (xs p : List Int) (u : Value) (w : World) (hg : Hid (Burnt xs)) (hu : OwnI w u p) (hp : Hid (∀ k ∈ p, 1 ≤ k ∧ k ≤ (xs.length : Int))) (hm : p.length ≤ 40) :
    Calls Try.prog 90 #[tw xs, .func (Fn.func 92) #[] #[], u] w fun e w' => ∃ r, e = .returned r ∧ Own w' 9 r (p.length + 1) (twN bturnL xs p (p.length + 1)) ∧ From w.heap.size r ∧ Below w.heap.size w w' :=
  have hl9 := hg.out.len.2
  alongS_any 92 bturnL (fun q => q.length ≤ 9 ∧ ∀ x ∈ q, -9 ≤ x ∧ x ≤ 9) xs p u w hl9 hu hp hm (fun args u => by go_simp) (Lib.hid fun k _ => by rw [StTo_bturn]; exact ⟨by rw [bplayL_length]; exact hl9, Burnt.nine (bplayL_burnt hg.out _)⟩) (Lib.hid fun k => by rw [StTo_bturn, bplayL_length]) (Lib.hid fun ys k u h1 h2 => turnedOver_any ys k u h1.1 h2 (Lib.hid h1.2))

set_option maxRecDepth 100000 in
set_option maxHeartbeats 800000 in
theorem PlayBurnt_any (v : Value) (xs : List Int) (u : Value) (ys : List Int) (w : World) (hv : OwnI w v xs) (hn : xs.length ≤ 1048576) (hu : OwnI w u ys) (hm : ys.length ≤ 1048576) (hw : Wf64 xs) :
    Calls Try.prog 41 #[v, u] w fun e w' => ∃ r, e = .returned (.tuple #[r, .bool (okBPlay xs ys)]) ∧ OwnI w' r (mPlayBurnt xs ys) ∧ From w.heap.size r ∧ Below w.heap.size w w' := by
  obtain ⟨ad, cap, rfl, hc, _, _⟩ := hv.shape
  obtain ⟨adu, capu, rfl, hcu, _, _⟩ := hu.shape
  cases hg : burntB xs with
  | true =>
    cases hp : planB xs.length ys with
    | true =>
      have HO := Lib.hid (show okBPlay xs ys = true by unfold okBPlay; rw [hg, hp]; rfl)
      have HM := Lib.hid (show mPlayBurnt xs ys = bplayL xs ys from if_pos HO.out)
      have HP := Lib.hid (planB_iff.1 hp).2.2
      have h40 := (planB_iff.1 hp).2.1
      have HG := Lib.hid (burntB_iff.1 hg)
      have HGB := Lib.hid hg
      have HPB := Lib.hid hp
      have h9 := HG.out.len.2
      have hS9 : ∀ k, (StTo bturnL xs ys k).length ≤ 9 := fun k => by rw [StTo_bturn, bplayL_length]; exact h9
      have hse : StTo bturnL xs ys ys.length = bplayL xs ys := by rw [StTo_bturn, List.take_length]
      have HSE := Lib.hid hse
      have HS9 := Lib.hid hS9
      have hb9 : (bplayL xs ys).length ≤ 9 := by rw [bplayL_length]; exact h9
      have H9T := Lib.hid (twl_length _ hb9)
      clear hg hp hse hS9
      go_enter Try.func41, Try.ntmps41
      go_wp2_with fail
      refine (IsBurnt_any _ _ _ hv hn hw).mono ?_
      rintro e w1 ⟨rfl, hb⟩
      rw [HGB.out]
      go_wp2_with fail
      refine (IsPlan_any _ _ _ _ (hu.same hb) hm).mono ?_
      rintro e w2 ⟨rfl, hb2⟩
      rw [HPB.out]
      go_wp2_with fail
      refine (towerOf_any _ _ _ ((hv.same hb).same hb2) h9).mono ?_
      rintro e w3 ⟨rfl, hb3⟩
      go_wp2_with fail
      refine (alongB_any xs ys _ _ HG (((hu.same hb).same hb2).same hb3) HP h40).mono ?_
      rintro e w4 ⟨r, rfl, hoR, hfR, hb4⟩
      have hB2 := hb.trans (hb2.mono hb.size)
      have hB3 := hB2.trans (hb3.mono hB2.size)
      have hB4 := hB3.trans (hb4.mono hB3.size)
      obtain ⟨adR, capR, rfl, hnR, _, _⟩ := hoR.shape
      obtain ⟨g, off, rfl, hgR, hcell, _⟩ := hoR.at (by omega)
      have hra : w4.rangeAt g (off + ys.length * 9) (twl (bplayL xs ys)) := fun j x hx => by
        have hj : j < 9 := by rw [← H9T.out]; exact (List.getElem?_eq_some_iff.1 hx).1
        rw [Nat.add_assoc, hcell (ys.length * 9 + j) (by omega), twN_get bturnL xs ys HS9.out ys.length j hj _ (Nat.lt_succ_self _), HSE.out]
        exact hx
      have hsz : (Try.prog.info? 54).map (·.size) = some (twl (bplayL xs ys)).length := by rw [Try.infoT, H9T.out]
      have hlt : ys.length < ys.length + 1 := Nat.lt_succ_self _
      clear hcell hoR hfR hb hb2 hb3 hb4 hB2 hB3
      go_wp2_with (first | (refine wpList_load_mid rfl 54 _ rfl g (off + ys.length * 9) rfl (twl (bplayL xs ys)) _ hra Try.underlying54 rfl hsz ?_))
      refine (list_any _ _ _ (bplayL_length xs ys) h9).mono ?_
      rintro e w5 ⟨r, rfl, ho, hf, hb5⟩
      go_wp2
      go_ret2
      exact ⟨_, by rw [HO.out]; rfl, by rw [HM.out]; exact ho, hf.mono hB4.size, hB4.trans (hb5.mono hB4.size)⟩
    | false =>
      have HO := Lib.hid (show okBPlay xs ys = false by unfold okBPlay; rw [hg, hp]; rfl)
      have HM := Lib.hid (show mPlayBurnt xs ys = [] from if_neg (by rw [HO.out]; exact Bool.false_ne_true))
      have HGB := Lib.hid hg
      have HPB := Lib.hid hp
      clear hg hp
      go_enter Try.func41, Try.ntmps41
      go_wp2_with fail
      refine (IsBurnt_any _ _ _ hv hn hw).mono ?_
      rintro e w1 ⟨rfl, hb⟩
      rw [HGB.out]
      go_wp2_with fail
      refine (IsPlan_any _ _ _ _ (hu.same hb) hm).mono ?_
      rintro e w2 ⟨rfl, hb2⟩
      rw [HPB.out]
      go_wp2
      go_ret2
      exact ⟨_, by rw [HO.out]; rfl, by rw [HM.out]; exact OwnI.nil _, From.nil _ _ _, hb.trans (hb2.mono hb.size)⟩
  | false =>
    have HO := Lib.hid (show okBPlay xs ys = false by unfold okBPlay; rw [hg]; rfl)
    have HM := Lib.hid (show mPlayBurnt xs ys = [] from if_neg (by rw [HO.out]; exact Bool.false_ne_true))
    have HGB := Lib.hid hg
    clear hg
    go_enter Try.func41, Try.ntmps41
    go_wp2_with fail
    refine (IsBurnt_any _ _ _ hv hn hw).mono ?_
    rintro e w1 ⟨rfl, hb⟩
    rw [HGB.out]
    go_wp2
    go_ret2
    exact ⟨_, by rw [HO.out]; rfl, by rw [HM.out]; exact OwnI.nil _, From.nil _ _ _, hb⟩

set_option maxRecDepth 100000 in
theorem TurnBurnt_any (v : Value) (xs : List Int) (k : Int) (w : World) (hv : OwnI w v xs) (hn : xs.length ≤ 1048576) (hw : Wf64 xs) :
    Calls Try.prog 39 #[v, .int .i64 k] w fun e w' => ∃ r, e = .returned (.tuple #[r, .bool (okBTurn xs k)]) ∧ OwnI w' r (mTurnBurnt xs k) ∧ From w.heap.size r ∧ Below w.heap.size w w' := by
  have HO := Lib.hid (okBTurn_play xs k)
  have HM := Lib.hid (mTurn_play xs k)
  have hlit : OwnI (w.alloc (.cells #[iv k] 3)) (.slice (some ⟨w.heap.size, 0, none⟩) 1 1) [k] := OwnI.of_blk0 (xs := [k]) (Blk.new w _ [iv k] _ rfl) rfl (by omega)
  have hB0 := below_new w (.cells #[iv k] 3)
  have c := PlayBurnt_any v xs _ [k] _ (hv.alloc (.cells #[iv k] 3)) hn hlit (by simp) hw
  have HC := Lib.hid c
  clear c hw
  go_enter Try.func39, Try.ntmps39
  go_wp2_with fail
  refine HC.out.mono ?_
  rintro e w1 ⟨r, rfl, ho, hf, hb⟩
  go_wp2
  go_ret2
  exact ⟨_, by rw [← HO.out]; rfl, by rw [← HM.out]; exact ho, hf.mono hB0.size, hB0.trans (hb.mono hB0.size)⟩

set_option maxRecDepth 100000 in
theorem IsBurntSorted_any (v : Value) (xs : List Int) (w : World) (hv : OwnI w v xs) (hn : xs.length ≤ 1048576) (hw : Wf64 xs) :
    Calls Try.prog 43 #[v] w fun e w' => e = .returned (.tuple #[.bool (mIsBurntSorted xs), .bool (burntB xs)]) ∧ Below w.heap.size w w' := by
  obtain ⟨ad, cap, rfl, hc, _, _⟩ := hv.shape
  unfold mIsBurntSorted
  cases hg : burntB xs with
  | true =>
    have h9 := (burntB_iff.1 hg).len.2
    have heq := tower_eq xs (ramp 1 xs.length) h9 (by rw [ramp_length])
    have HG := Lib.hid hg
    clear hg
    go_enter Try.func43, Try.ntmps43
    go_wp2_with fail
    refine (IsBurnt_any _ _ _ hv hn hw).mono ?_
    rintro e w1 ⟨rfl, hb⟩
    rw [HG.out]
    go_wp2_with fail
    refine (towerOf_any _ _ _ (hv.same hb) h9).mono ?_
    rintro e w2 ⟨rfl, hb2⟩
    go_wp2_with fail
    refine (sortedTower_any _ _ h9).mono ?_
    rintro e w3 ⟨rfl, hb3⟩
    go_wp2
    go_ret2
    exact ⟨rfl, (hb.trans (hb2.mono hb.size)).trans (hb3.mono (Nat.le_trans hb.size hb2.size))⟩
  | false =>
    have HG := Lib.hid hg
    clear hg
    go_enter Try.func43, Try.ntmps43
    go_wp2_with fail
    refine (IsBurnt_any _ _ _ hv hn hw).mono ?_
    rintro e w1 ⟨rfl, hb⟩
    rw [HG.out]
    go_wp2
    go_ret2
    exact ⟨rfl, hb⟩

theorem areNoStep_any (a b : Int) (w : World) (a1 : -1048576 ≤ a) (a2 : a ≤ 1048576) (b1 : -1048576 ≤ b) (b2 : b ≤ 1048576) :
    Calls Try.prog 96 #[.int .i64 a, .int .i64 b] w fun e w' => e = .returned (.bool (noStepB a b)) ∧ w = w' := by
  go_enter Try.func96, Try.ntmps96
  go_wp2
  go_ret
  exact ⟨rfl, rfl⟩

set_option maxRecDepth 100000 in
theorem BurntGaps_any (v : Value) (xs : List Int) (w : World) (hv : OwnI w v xs) (hn : xs.length ≤ 1048576) (hw : Wf64 xs) :
    Calls Try.prog 45 #[v] w fun e w' => ∃ r, e = .returned (.tuple #[r, .bool (burntB xs)]) ∧ OwnI w' r (mBurntGaps xs) ∧ From w.heap.size r ∧ Below w.heap.size w w' := by
  obtain ⟨ad, cap, rfl, hc, _, _⟩ := hv.shape
  cases hg : burntB xs with
  | true =>
    have hB := burntB_iff.1 hg
    have h9 := hB.len.2
    have h1 := hB.len.1
    have HN := Lib.hid (Burnt.nine hB)
    have HM := Lib.hid (show mBurntGaps xs = qgapsL noStepB xs from if_pos hg)
    have HG := Lib.hid hg
    clear hg hB
    go_enter Try.func45, Try.ntmps45
    go_wp2_with fail
    refine (IsBurnt_any _ _ _ hv hn hw).mono ?_
    rintro e w1 ⟨rfl, hb⟩
    rw [HG.out]
    go_wp2_with fail
    refine (towerOf_any _ _ _ (hv.same hb) h9).mono ?_
    rintro e w2 ⟨rfl, hb2⟩
    go_wp2_with fail
    refine (gapsQ_any 96 noStepB xs _ h1 h9 HN (fun args u => by go_simp) (Lib.hid fun a b u => areNoStep_any a b u)).mono ?_
    rintro e w3 ⟨r, rfl, ho, hf, hb3⟩
    go_wp2
    go_ret2
    have hB2 := hb.trans (hb2.mono hb.size)
    exact ⟨_, rfl, by rw [HM.out]; exact ho, hf.mono hB2.size, hB2.trans (hb3.mono hB2.size)⟩
  | false =>
    have HM := Lib.hid (show mBurntGaps xs = [] from if_neg (by rw [hg]; exact Bool.false_ne_true))
    have HG := Lib.hid hg
    clear hg
    go_enter Try.func45, Try.ntmps45
    go_wp2_with fail
    refine (IsBurnt_any _ _ _ hv hn hw).mono ?_
    rintro e w1 ⟨rfl, hb⟩
    rw [HG.out]
    go_wp2
    go_ret2
    exact ⟨_, rfl, by rw [HM.out]; exact OwnI.nil _, From.nil _ _ _, hb⟩

set_option maxRecDepth 100000 in
theorem ForgetSides_any (v : Value) (xs : List Int) (w : World) (hv : OwnI w v xs) (hn : xs.length ≤ 1048576) (hw : Wf64 xs) :
    Calls Try.prog 59 #[v] w fun e w' => ∃ r, e = .returned (.tuple #[r, .bool (burntB xs)]) ∧ OwnI w' r (mForgetSides xs) ∧ From w.heap.size r ∧ Below w.heap.size w w' := by
  cases hg : burntB xs with
  | true =>
    have HM := Lib.hid (show mForgetSides xs = sidesL xs by rw [sides_burnt (burntB_iff.1 hg)]; exact if_pos hg)
    have HG := Lib.hid hg
    clear hg
    go_enter Try.func59, Try.ntmps59
    go_wp2_with fail
    refine (IsBurnt_any _ _ _ hv hn hw).mono ?_
    rintro e w1 ⟨rfl, hb⟩
    rw [HG.out]
    go_wp2_with fail
    refine (withoutSides_any _ _ _ (hv.same hb) hn).mono ?_
    rintro e w2 ⟨r, rfl, ho, hf, hb2⟩
    go_wp2
    go_ret2
    exact ⟨_, rfl, by rw [HM.out]; exact ho, hf.mono hb.size, hb.trans (hb2.mono hb.size)⟩
  | false =>
    have HM := Lib.hid (show mForgetSides xs = [] from if_neg (by rw [hg]; exact Bool.false_ne_true))
    have HG := Lib.hid hg
    clear hg
    go_enter Try.func59, Try.ntmps59
    go_wp2_with fail
    refine (IsBurnt_any _ _ _ hv hn hw).mono ?_
    rintro e w1 ⟨rfl, hb⟩
    rw [HG.out]
    go_wp2
    go_ret2
    exact ⟨_, rfl, by rw [HM.out]; exact OwnI.nil _, From.nil _ _ _, hb⟩

set_option maxRecDepth 100000 in
set_option maxHeartbeats 400000 in
theorem AllBurnt_any (x : Int) (w : World) :
    Calls Try.prog 57 #[.int .i64 x] w fun e w' => ∃ r, e = .returned (.tuple #[r, .bool (inB x 1 9)]) ∧ OwnI w' r (mAllBurnt x) ∧ From w.heap.size r ∧ Below w.heap.size w w' := by
  cases hg : inB x 1 9 with
  | true =>
    have hk := inB_iff.1 hg
    obtain ⟨n, rfl⟩ : ∃ n : Nat, x = n := ⟨x.toNat, by omega⟩
    have hn9 : n ≤ 9 := by omega
    have HM := Lib.hid (show mAllBurnt n = downL n by unfold mAllBurnt; rw [if_pos hg]; simp)
    have HG := Lib.hid hg
    have HL := Lib.hid (downL_length n)
    obtain ⟨i0, hi, hz0, hz1, hz2⟩ := info_parts Try.info3
    clear hg hk
    go_enter Try.func57, Try.ntmps57
    go_wp2_with fail
    refine (isCount_any _ _).mono ?_
    rintro e w' ⟨rfl, rfl⟩
    rw [HG.out]
    go_wp2_with (at_make; refine wpList_make_full _ rfl _ _ 25 rfl w.heap.size 3 i0 (.int .i64 0) 1 Try.underlying25 hi hz0 hz1 _ _ _ _ n rfl rfl rfl rfl ?b1 ?b2 ?b3 ?_)
    case b1 => rw [hz2]; omega
    case b2 => unfold maxLen; omega
    case b3 => exact Nat.le_refl _
    intro w1 hown hgrow
    have ho0 : Hid (OwnI w1 (.slice (some ⟨w.heap.size, 0, none⟩) n n) (fillTo (downL n) 0)) := Lib.hid (by rw [fillTo_zero, HL.out]; exact OwnI.of_made hown)
    have hb0 : Below w.heap.size w w1 := (Below.refl _ _).grown hgrow (Nat.le_refl _) (by intro k hk; cases hk)
    clear hi hz0 hz1 hz2 hgrow hown
    go_wp2
    go_loopw [5, 13] (fun _ i wr => ∃ k : Nat, k ≤ n ∧ i = .int .i64 k ∧ Hid (OwnI wr (.slice (some ⟨w.heap.size, 0, none⟩) n n) (fillTo (downL n) k)) ∧ Below w.heap.size w wr) (fun _ i _ => n - (intOf i).toNat)
    case atStart => exact ⟨0, Nat.zero_le _, rfl, ho0, hb0⟩
    case round =>
      obtain ⟨k, hk, rfl, ho, hbr⟩ := hrel
      clear ho0 hb0
      by_cases hlt : k < n
      · obtain ⟨hd, hfd, hst⟩ := OwnI.cellAt ho.out k (by rw [fillTo_length _ _ (by rw [HL.out]; omega), HL.out]; exact hlt)
        have hst := hst (-1 - (k : Int))
        rw [fillTo_step (downL n) k (by rw [HL.out]; exact hlt) (-1 - (k : Int)) (by simp only [downL, ramp, List.getElem_map, List.getElem_range]; omega)] at hst
        have HST := Lib.hid hst
        have hb2 := hbr.setCell (p := ⟨w.heap.size, k, none⟩) (Nat.le_refl _) (iv (-1 - (k : Int)))
        clear ho hbr hst
        go_wp2
        go_roundw
        case rel => exact ⟨k + 1, by omega, by go_num, HST, hb2⟩
        case measure => simp [intOf] <;> omega
      · obtain rfl : k = n := by omega
        have he : fillTo (downL k) k = downL k := by have := fillTo_all (downL k); rwa [HL.out] at this
        have ho2 : Hid (OwnI wr (.slice (some ⟨w.heap.size, 0, none⟩) k k) (mAllBurnt k)) := Lib.hid (by have h := ho.out; rw [he] at h; rw [HM.out]; exact h)
        clear ho he
        go_wp2
        go_ret2
        exact ⟨_, rfl, ho2.out, From.at _ _ _ _ _ (Nat.le_refl _), hbr⟩
  | false =>
    have HM := Lib.hid (show mAllBurnt x = [] from if_neg (by rw [hg]; exact Bool.false_ne_true))
    have HG := Lib.hid hg
    clear hg
    go_enter Try.func57, Try.ntmps57
    go_wp2_with fail
    refine (isCount_any _ _).mono ?_
    rintro e w' ⟨rfl, rfl⟩
    rw [HG.out]
    go_wp2
    go_ret2
    exact ⟨_, rfl, by rw [HM.out]; exact OwnI.nil _, From.nil _ _ _, Below.refl _ _⟩
end Go.Proofs.Ytakgmcfpdbeajaa
