import Derived.Test.YtakgmcfpdbeajaaS8
import Derived.Test.YtakgmcfpdbeajaaM11
namespace Go.Proofs.Ytakgmcfpdbeajaa
open Go Go.RowKit Go.Pan

theorem absTo_step (xs : List Int) (k : Nat) (h : k < xs.length) : absL (xs.take k) ++ [absI xs[k]] = absL (xs.take (k + 1)) := by
  rw [List.take_succ_eq_append_getElem h]; unfold absL; rw [List.map_append]; rfl

set_option maxHeartbeats 400000 in
theorem buForget_any (v : Value) (xs : List Int) (w : World) (hv : OwnI w v xs) (hn : xs.length ≤ 1048576) (hb : Hid (∀ x ∈ xs, -1048576 ≤ x ∧ x ≤ 1048576)) :
    Calls Try.prog 98 #[v] w fun e w' => ∃ r, e = .returned r ∧ OwnI w' r (absL xs) ∧ From w.heap.size r ∧ Below w.heap.size w w' := by
  obtain ⟨ad, cap, rfl, hc, _, _⟩ := hv.shape
  go_enter Try.func98, Try.ntmps98
  go_wp2
  go_loopw [3, 5, 8] (fun o _ i wr => ∃ k : Nat, k ≤ xs.length ∧ i = .int .i64 k ∧ OwnI wr o (absL (xs.take k)) ∧ From w.heap.size o ∧ Below w.heap.size w wr) (fun _ _ i _ => xs.length - (intOf i).toNat)
  case atStart => exact ⟨0, Nat.zero_le _, rfl, by simpa [absL] using OwnI.nil w, From.nil _ _ _, Below.refl _ _⟩
  case round =>
    obtain ⟨k, hk, rfl, ho, hf, hbr⟩ := hrel
    by_cases hlt : k < xs.length
    · obtain ⟨g, off, rfl, hgl, hcell, hfz⟩ := hv.at (by omega)
      have hck := hcell k (by omega)
      rw [List.getElem?_map, List.getElem?_eq_getElem hlt] at hck
      have hc1 := (hbr.cell (p := ⟨g, off + k, none⟩) hgl).trans hck
      have hx := hb.out _ (List.getElem_mem hlt)
      have hx1 := hx.1
      have hx2 := hx.2
      have HS := Lib.hid (absTo_step xs k hlt)
      have hlen : (absL (xs.take k)).length ≤ 1048576 := by rw [absL_length, List.length_take]; omega
      have hs := hbr.size
      clear hcell hfz hck hv hx
      go_wp2_with fail
      refine (l1Abs_any _ _ hx1 hx2).mono ?_
      rintro e w1 ⟨rfl, rfl⟩
      go_wp2_with (at_builtin; refine wpList_app1 Try.intSl rfl _ _ rfl _ (absL (xs.take k)) rfl (ho.alloc _) w.heap.size hf wr.heap.size (absI xs[k]) rfl ?c1 w (hbr.alloc hs _) ?c2 hlen ?_)
      case c1 => simp [go_sem]
      case c2 => simp; exact Nat.le_succ_of_le hs
      intro v' w1 ho' hf' hb' _
      rw [HS.out] at ho'
      clear HS ho hf hbr
      go_wp2
      go_roundw
      case rel => exact ⟨k + 1, by omega, by go_num, ho', hf', hb'⟩
      case measure => simp [intOf] <;> omega
    · obtain rfl : k = xs.length := by omega
      clear hv
      rw [List.take_length] at ho
      go_wp2
      go_ret
      exact ⟨_, rfl, ho, hf, hbr⟩

theorem buGood_any (v : Value) (xs : List Int) (w : World) (hv : OwnI w v xs) (hn : xs.length ≤ 1048576) :
    Calls Try.prog 83 #[v] w fun e w' => e = .returned (.bool (burntB xs)) ∧ Below w.heap.size w w' := by
  cases ha : allB xs (-9) 9 with
  | true =>
    have hal := allB_iff.1 ha
    have HX := Lib.hid (show ∀ x ∈ xs, -1048576 ≤ x ∧ x ≤ 1048576 from fun x hx => by have := hal x hx; omega)
    have hla : (absL xs).length ≤ 1048576 := by rw [absL_length]; exact hn
    have HA := Lib.hid ha
    clear ha hal
    go_enter Try.func83, Try.ntmps83
    go_wp2_with fail
    refine (l1All_any _ _ _ _ _ hv hn).mono ?_
    rintro e w1 ⟨rfl, hb⟩
    rw [HA.out]
    go_wp2_with fail
    refine (buForget_any _ _ _ (hv.same hb) hn HX).mono ?_
    rintro e w2 ⟨r, rfl, ho, hf, hb2⟩
    go_wp2_with fail
    refine (stGood_any _ _ _ ho hla).mono ?_
    rintro e w3 ⟨rfl, hb3⟩
    go_wp2
    go_ret
    exact ⟨rfl, (hb.trans (hb2.mono hb.size)).trans (hb3.mono (Nat.le_trans hb.size hb2.size))⟩
  | false =>
    have HM := Lib.hid (burnt_not ha)
    have HA := Lib.hid ha
    clear ha
    go_enter Try.func83, Try.ntmps83
    go_wp2_with fail
    refine (l1All_any _ _ _ _ _ hv hn).mono ?_
    rintro e w1 ⟨rfl, hb⟩
    rw [HA.out]
    go_wp2
    go_ret
    exact ⟨by rw [HM.out]; rfl, hb⟩

theorem sIsBurnt_any (v : Value) (xs : List Int) (w : World) (hv : OwnI w v xs) (hn : xs.length ≤ 1048576) :
    Calls Try.prog 35 #[v] w fun e w' => e = .returned (.bool (burntB xs)) ∧ Below w.heap.size w w' := by
  go_enter Try.func35, Try.ntmps35
  go_wp2_with fail
  refine (buGood_any _ _ _ hv hn).mono ?_
  rintro e w1 ⟨rfl, hb⟩
  go_wp2
  go_ret
  exact ⟨rfl, hb⟩

set_option maxHeartbeats 400000 in
theorem buTurn_any (v : Value) (xs : List Int) (k : Nat) (w : World) (hv : OwnI w v xs) (hn : xs.length ≤ 1048576) (hk : k ≤ xs.length) (hb : Hid (∀ x ∈ xs, -1048576 ≤ x ∧ x ≤ 1048576)) :
    Calls Try.prog 86 #[v, .int .i64 k] w fun e w' => ∃ r, e = .returned r ∧ OwnI w' r (bturnL xs k) ∧ From w.heap.size r ∧ Below w.heap.size w w' := by
  obtain ⟨ad, cap, rfl, hc, _, _⟩ := hv.shape
  go_enter Try.func86, Try.ntmps86
  go_wp2
  go_loopw [5, 6] (fun o i wr => ∃ j : Nat, j ≤ k ∧ i = .int .i64 ((k : Int) - 1 - j) ∧ OwnI wr o ((revNeg xs k).take j) ∧ From w.heap.size o ∧ Below w.heap.size w wr) (fun _ i _ => (intOf i + 1).toNat)
  case atStart => exact ⟨0, Nat.zero_le _, by go_num, by simpa using OwnI.nil w, From.nil _ _ _, Below.refl _ _⟩
  case round =>
    obtain ⟨j, hj, rfl, ho, hf, hbr⟩ := hrel
    have hso := hv.below hbr (Nat.le_refl _)
    by_cases hlt : j < k
    · obtain ⟨g, off, rfl, hgl, hcell, hfz⟩ := hso.at (by omega)
      obtain ⟨m, hm⟩ : ∃ m : Nat, m = k - 1 - j := ⟨_, rfl⟩
      have hmi : (k : Int) - 1 - j = (m : Int) := by omega
      have hml : m < xs.length := by omega
      have hck := hcell m (by omega)
      rw [List.getElem?_map, List.getElem?_eq_getElem hml] at hck
      have HS := Lib.hid (bturnTo_step xs k j hk hlt xs[m] (by subst hm; rfl))
      have HM := Lib.hid hmi
      have hx := hb.out _ (List.getElem_mem hml)
      have hx1 := hx.1
      have hx2 := hx.2
      have hlen : ((revNeg xs k).take j).length ≤ 1048576 := by rw [List.length_take]; omega
      rw [hmi]
      have hmk : m < k := by omega
      clear hcell hfz hv hso hmi hm hx
      go_wp2_with (at_builtin; refine wpList_app1 Try.intSl rfl _ _ rfl _ ((revNeg xs k).take j) rfl (ho.alloc _) w.heap.size hf wr.heap.size (-xs[m]) rfl ?c1 w (hbr.alloc hbr.size _) ?c2 hlen ?_)
      case c1 => simp [go_sem]
      case c2 => simp; exact Nat.le_succ_of_le hbr.size
      intro v' w1 ho' hf' hb' _
      rw [HS.out] at ho'
      clear HS ho hf hbr hck
      go_wp2
      go_roundw
      case rel => exact ⟨j + 1, by omega, by have := HM.out; go_num, ho', hf', hb'⟩
      case measure => simp [intOf] <;> omega
    · obtain rfl : j = k := by omega
      have HE := Lib.hid (show ((revNeg xs j).take j) ++ xs.drop j = bturnL xs j by rw [List.take_of_length_le (by simp [revNeg]; omega), bturnL_eq xs j hk]; rfl)
      have hl1 : ((revNeg xs j).take j).length ≤ 1048576 := by rw [List.length_take]; omega
      have hl2 : (xs.drop j).length ≤ 1048576 := by simp; omega
      clear hv
      go_wp2_with (first | (refine wpList_from Try.intSl rfl _ _ rfl ad xs.length cap j rfl rfl hk xs rfl hso ?_; intro sp m c hm hod hsrc _) | (at_builtin; refine wpList_appI Try.intSl rfl _ _ rfl _ _ rfl ho w.heap.size hf sp m c (xs.drop j) rfl hm.out hsrc w hbr hbr.size hl1 hl2 ?_))
      intro v' w1 ho' hf' hb' _
      rw [HE.out] at ho'
      go_wp2
      go_ret
      exact ⟨_, rfl, ho', hf', hb'⟩

theorem Burnt.small {xs : List Int} (h : Burnt xs) : ∀ x ∈ xs, -1048576 ≤ x ∧ x ≤ 1048576 := fun x hx => by have := h.bd hx; omega

def BPlayTo (xs p : List Int) (k : Nat) : List Int := bplayL xs (p.take k)
theorem BPlayTo_length (xs p : List Int) (k : Nat) : (BPlayTo xs p k).length = xs.length := bplayL_length _ _
theorem BPlayTo_step (xs p : List Int) (k : Nat) (h : k < p.length) (j : Nat) (hj : p[k] = (j : Int)) : bturnL (BPlayTo xs p k) j = BPlayTo xs p (k + 1) := by
  unfold BPlayTo
  rw [bplayL_take_succ xs p k h, hj]
  simp

set_option maxHeartbeats 400000 in
theorem buPlay_any (v u : Value) (xs p : List Int) (w : World) (hv : OwnI w v xs) (hg : Hid (Burnt xs)) (hu : OwnI w u p) (hm : p.length ≤ 1048576) (hp : Hid (∀ k ∈ p, 1 ≤ k ∧ k ≤ (xs.length : Int))) :
    Calls Try.prog 88 #[v, u] w fun e w' => ∃ r, e = .returned r ∧ OwnI w' r (bplayL xs p) ∧ From w.heap.size r ∧ Below w.heap.size w w' := by
  obtain ⟨ad, cap, rfl, hc, _, _⟩ := hu.shape
  have hn : xs.length ≤ 1048576 := by have := hg.out.len; omega
  go_enter Try.func88, Try.ntmps88
  go_wp2_with (go_at_call 78; refine (l1Own_any _ _ _ hv hn).mono ?_; rintro e w1 ⟨r0, rfl, ho0, hf0, hb0⟩)
  go_loopw [0, 6, 11] (fun o _ i wr => ∃ k : Nat, k ≤ p.length ∧ i = .int .i64 k ∧ OwnI wr o (BPlayTo xs p k) ∧ From w.heap.size o ∧ Below w.heap.size w wr) (fun _ _ i _ => p.length - (intOf i).toNat)
  case atStart => exact ⟨0, Nat.zero_le _, rfl, ho0, hf0, hb0⟩
  case round =>
    obtain ⟨k, hk, rfl, ho, hf, hbr⟩ := hrel
    by_cases hlt : k < p.length
    · obtain ⟨g, off, rfl, hgl, hcell, hfz⟩ := hu.at (by omega)
      have hck := hcell k (by omega)
      rw [List.getElem?_map, List.getElem?_eq_getElem hlt] at hck
      have hc1 := (hbr.cell (p := ⟨g, off + k, none⟩) hgl).trans hck
      have hin := hp.out _ (List.getElem_mem hlt)
      obtain ⟨j, hj⟩ : ∃ j : Nat, p[k] = (j : Int) := ⟨p[k].toNat, by omega⟩
      have hjl : j ≤ (BPlayTo xs p k).length := by rw [BPlayTo_length]; omega
      have HS := Lib.hid (BPlayTo_step xs p k hlt j hj)
      have hl : (BPlayTo xs p k).length ≤ 1048576 := by rw [BPlayTo_length]; exact hn
      have HX := Lib.hid (Burnt.small (bplayL_burnt hg.out (p.take k)))
      have hc2 : wr.cell? ⟨g, off + k, none⟩ = some (iv (j : Int)) := by rw [hc1, ← hj]; rfl
      clear hcell hfz hck hc1 hv hu hj hin ho0 hf0 hb0
      go_wp2_with (go_at_call 86; refine (buTurn_any _ _ _ _ ho hl hjl HX).mono ?_; rintro e w2 ⟨r1, rfl, ho1, hf1, hb1⟩)
      rw [HS.out] at ho1
      go_roundw
      case rel => exact ⟨k + 1, by omega, by go_num, ho1, hf1.mono hbr.size, hbr.trans (hb1.mono hbr.size)⟩
      case measure => simp [intOf] <;> omega
    · obtain rfl : k = p.length := by omega
      clear hv hu
      go_wp2
      go_ret
      refine ⟨_, rfl, ?_, hf, hbr⟩
      unfold BPlayTo at ho
      rw [List.take_length] at ho
      exact ho

theorem sTurnBurnt_any (v : Value) (xs : List Int) (k : Int) (w : World) (hv : OwnI w v xs) (hn : xs.length ≤ 1048576) :
    Calls Try.prog 38 #[v, .int .i64 k] w fun e w' => ∃ r, e = .returned (.tuple #[r, .bool (okBTurn xs k)]) ∧ OwnI w' r (mTurnBurnt xs k) ∧ From w.heap.size r ∧ Below w.heap.size w w' := by
  obtain ⟨ad, cap, rfl, hc, _, _⟩ := hv.shape
  cases hg : burntB xs with
  | true =>
    cases hi : inB k 1 xs.length with
    | true =>
      have hk := inB_iff.1 hi
      obtain ⟨n, rfl⟩ : ∃ n : Nat, k = n := ⟨k.toNat, by omega⟩
      have hkl : n ≤ xs.length := by omega
      have HX := Lib.hid (Burnt.small (burntB_iff.1 hg))
      have HO := Lib.hid (show okBTurn xs n = true by unfold okBTurn; rw [hg, hi]; rfl)
      have HM := Lib.hid (show mTurnBurnt xs n = bturnL xs n by unfold mTurnBurnt; rw [if_pos HO.out]; simp)
      go_enter Try.func38, Try.ntmps38
      go_wp2_with fail
      refine (buGood_any _ _ _ hv hn).mono ?_
      rintro e w1 ⟨rfl, hb⟩
      go_wp2_with fail
      refine (l1In_any _ _ _ _).mono ?_
      rintro e w' ⟨rfl, rfl⟩
      go_wp2_with fail
      refine (buTurn_any _ _ _ _ (hv.same hb) hn hkl HX).mono ?_
      rintro e w2 ⟨r, rfl, ho, hf, hb2⟩
      go_wp2
      go_ret2
      exact ⟨_, by rw [HO.out]; rfl, by rw [HM.out]; exact ho, hf.mono hb.size, hb.trans (hb2.mono hb.size)⟩
    | false =>
      have HO := Lib.hid (show okBTurn xs k = false by unfold okBTurn; rw [hg, hi]; rfl)
      have HM := Lib.hid (show mTurnBurnt xs k = [] by unfold mTurnBurnt; rw [HO.out]; rfl)
      go_enter Try.func38, Try.ntmps38
      go_wp2_with fail
      refine (buGood_any _ _ _ hv hn).mono ?_
      rintro e w1 ⟨rfl, hb⟩
      go_wp2_with fail
      refine (l1In_any _ _ _ _).mono ?_
      rintro e w' ⟨rfl, rfl⟩
      go_wp2
      go_ret2
      exact ⟨_, by rw [HO.out]; rfl, by rw [HM.out]; exact OwnI.nil _, From.nil _ _ _, hb⟩
  | false =>
    have HO := Lib.hid (show okBTurn xs k = false by unfold okBTurn; rw [hg]; rfl)
    have HM := Lib.hid (show mTurnBurnt xs k = [] by unfold mTurnBurnt; rw [HO.out]; rfl)
    go_enter Try.func38, Try.ntmps38
    go_wp2_with fail
    refine (buGood_any _ _ _ hv hn).mono ?_
    rintro e w1 ⟨rfl, hb⟩
    go_wp2
    go_ret2
    exact ⟨_, by rw [HO.out]; rfl, by rw [HM.out]; exact OwnI.nil _, From.nil _ _ _, hb⟩

theorem sPlayBurnt_any (v : Value) (xs : List Int) (u : Value) (ys : List Int) (w : World) (hv : OwnI w v xs) (hn : xs.length ≤ 1048576) (hu : OwnI w u ys) (hm : ys.length ≤ 1048576) :
    Calls Try.prog 40 #[v, u] w fun e w' => ∃ r, e = .returned (.tuple #[r, .bool (okBPlay xs ys)]) ∧ OwnI w' r (mPlayBurnt xs ys) ∧ From w.heap.size r ∧ Below w.heap.size w w' := by
  obtain ⟨ad, cap, rfl, hc, _, _⟩ := hv.shape
  cases hg : burntB xs with
  | true =>
    cases hp : planB xs.length ys with
    | true =>
      have HO := Lib.hid (show okBPlay xs ys = true by unfold okBPlay; rw [hg, hp]; rfl)
      have HM := Lib.hid (show mPlayBurnt xs ys = bplayL xs ys from if_pos HO.out)
      have HP := Lib.hid (planB_iff.1 hp).2.2
      have HG := Lib.hid (burntB_iff.1 hg)
      go_enter Try.func40, Try.ntmps40
      go_wp2_with fail
      refine (buGood_any _ _ _ hv hn).mono ?_
      rintro e w1 ⟨rfl, hb⟩
      go_wp2_with fail
      refine (stPlan_any _ _ _ _ (hu.same hb) hm).mono ?_
      rintro e w2 ⟨rfl, hb2⟩
      go_wp2_with fail
      refine (buPlay_any _ _ _ _ _ ((hv.same hb).same hb2) HG ((hu.same hb).same hb2) hm HP).mono ?_
      rintro e w3 ⟨r, rfl, ho, hf, hb3⟩
      go_wp2
      go_ret2
      have hB2 := hb.trans (hb2.mono hb.size)
      exact ⟨_, by rw [HO.out]; rfl, by rw [HM.out]; exact ho, hf.mono hB2.size, hB2.trans (hb3.mono hB2.size)⟩
    | false =>
      have HO := Lib.hid (show okBPlay xs ys = false by unfold okBPlay; rw [hg, hp]; rfl)
      have HM := Lib.hid (show mPlayBurnt xs ys = [] from if_neg (by rw [HO.out]; exact Bool.false_ne_true))
      go_enter Try.func40, Try.ntmps40
      go_wp2_with fail
      refine (buGood_any _ _ _ hv hn).mono ?_
      rintro e w1 ⟨rfl, hb⟩
      go_wp2_with fail
      refine (stPlan_any _ _ _ _ (hu.same hb) hm).mono ?_
      rintro e w2 ⟨rfl, hb2⟩
      go_wp2
      go_ret2
      exact ⟨_, by rw [HO.out]; rfl, by rw [HM.out]; exact OwnI.nil _, From.nil _ _ _, hb.trans (hb2.mono hb.size)⟩
  | false =>
    have HO := Lib.hid (show okBPlay xs ys = false by unfold okBPlay; rw [hg]; rfl)
    have HM := Lib.hid (show mPlayBurnt xs ys = [] from if_neg (by rw [HO.out]; exact Bool.false_ne_true))
    go_enter Try.func40, Try.ntmps40
    go_wp2_with fail
    refine (buGood_any _ _ _ hv hn).mono ?_
    rintro e w1 ⟨rfl, hb⟩
    go_wp2
    go_ret2
    exact ⟨_, by rw [HO.out]; rfl, by rw [HM.out]; exact OwnI.nil _, From.nil _ _ _, hb⟩

set_option maxHeartbeats 400000 in
theorem l1Same_any (v u : Value) (xs ys : List Int) (w : World) (hv : OwnI w v xs) (hn : xs.length ≤ 1048576) (hu : OwnI w u ys) (_hm : ys.length ≤ 1048576) :
    Calls Try.prog 93 #[v, u] w fun e w' => e = .returned (.bool (decide (xs = ys))) ∧ Below w.heap.size w w' := by
  obtain ⟨ad, cap, rfl, hc, _, _⟩ := hv.shape
  obtain ⟨bd, cbp, rfl, hc', _, _⟩ := hu.shape
  by_cases hl : xs.length = ys.length
  · have hu2 : Own w 1 (.slice bd xs.length cbp) xs.length (ys.map iv) := by rw [hl]; exact hu
    rw [← hl]
    have HL := Lib.hid hl
    clear hl hu
    go_enter Try.func93, Try.ntmps93
    go_wp2
    go_loopw [13] (fun i wr => ∃ k : Nat, k ≤ xs.length ∧ i = .int .i64 k ∧ xs.take k = ys.take k ∧ Below w.heap.size w wr) (fun i _ => xs.length - (intOf i).toNat)
    case atStart => exact ⟨0, Nat.zero_le _, rfl, by simp, Below.refl _ _⟩
    case round =>
      obtain ⟨k, hk, rfl, he, hbr⟩ := hrel
      have HE := Lib.hid he
      clear he
      by_cases hlt : k < xs.length
      · have hlt2 : k < ys.length := by have := HL.out; omega
        obtain ⟨b, off, rfl, hbl, hcell, _⟩ := hv.at (by omega)
        obtain ⟨b', off', rfl, hbl', hcell', _⟩ := hu2.at (by omega)
        have hk1 := hcell k (by omega)
        have hk2 := hcell' k (by omega)
        rw [List.getElem?_map, List.getElem?_eq_getElem hlt] at hk1
        rw [List.getElem?_map, List.getElem?_eq_getElem hlt2] at hk2
        have hc1 := (hbr.cell (p := ⟨b, off + k, none⟩) hbl).trans hk1
        have hc2 := (hbr.cell (p := ⟨b', off' + k, none⟩) hbl').trans hk2
        clear hv hu2 hcell hcell' hk1 hk2
        by_cases hx : xs[k] = ys[k]
        · have hq : ((xs[k] : Int) != ys[k]) = false := by simp [hx]
          have HX := Lib.hid hx
          clear hx
          go_wp2
          go_quiet (fail)
          go_wp2
          go_roundw
          case rel => exact ⟨k + 1, by omega, by go_num, eq_take_succ xs ys k HL.out hlt HE.out HX.out, hbr.drewN _⟩
          case measure => simp [intOf] <;> omega
        · have hq : ((xs[k] : Int) != ys[k]) = true := by simp [hx]
          have HX := Lib.hid hx
          clear hx
          go_wp2
          go_quiet (fail)
          go_wp2
          go_ret
          exact ⟨by rw [show decide (xs = ys) = false from decide_eq_false fun e => HX.out (by simp [e])]; rfl, hbr.drewN _⟩
      · obtain rfl : k = xs.length := by omega
        clear hv hu2
        go_wp2
        go_ret
        have h := HE.out
        rw [List.take_length, HL.out, List.take_length] at h
        exact ⟨by rw [show decide (xs = ys) = true from decide_eq_true h]; rfl, hbr⟩
  · have hq : (((xs.length : Nat) : Int) != (ys.length : Int)) = true := by simp; omega
    have HL := Lib.hid hl
    clear hl
    go_enter Try.func93, Try.ntmps93
    go_wp2
    go_ret
    exact ⟨by rw [show decide (xs = ys) = false from decide_eq_false fun e => HL.out (by rw [e])]; rfl, Below.refl _ _⟩

theorem sIsBurntSorted_any (v : Value) (xs : List Int) (w : World) (hv : OwnI w v xs) (hn : xs.length ≤ 1048576) :
    Calls Try.prog 42 #[v] w fun e w' => e = .returned (.tuple #[.bool (mIsBurntSorted xs), .bool (burntB xs)]) ∧ Below w.heap.size w w' := by
  obtain ⟨ad, cap, rfl, hc, _, _⟩ := hv.shape
  unfold mIsBurntSorted
  cases hg : burntB xs with
  | true =>
    have hlr : (ramp 1 xs.length).length ≤ 1048576 := by rw [ramp_length]; exact hn
    have hn2 : xs.length ≤ 1048575 := by have := (burntB_iff.1 hg).len; omega
    go_enter Try.func42, Try.ntmps42
    go_wp2_with fail
    refine (buGood_any _ _ _ hv hn).mono ?_
    rintro e w1 ⟨rfl, hb⟩
    rw [hg]
    go_wp2_with fail
    refine (stFirst_any _ _ hn2).mono ?_
    rintro e w2 ⟨r, rfl, ho, hf, hb2⟩
    go_wp2_with fail
    refine (l1Same_any _ _ _ _ _ ((hv.same hb).same hb2) hn ho hlr).mono ?_
    rintro e w3 ⟨rfl, hb3⟩
    go_wp2
    go_ret2
    exact ⟨rfl, (hb.trans (hb2.mono hb.size)).trans (hb3.mono (Nat.le_trans hb.size hb2.size))⟩
  | false =>
    go_enter Try.func42, Try.ntmps42
    go_wp2_with fail
    refine (buGood_any _ _ _ hv hn).mono ?_
    rintro e w1 ⟨rfl, hb⟩
    rw [hg]
    go_wp2
    go_ret2
    exact ⟨rfl, hb⟩

theorem sForgetSides_any (v : Value) (xs : List Int) (w : World) (hv : OwnI w v xs) (hn : xs.length ≤ 1048576) :
    Calls Try.prog 58 #[v] w fun e w' => ∃ r, e = .returned (.tuple #[r, .bool (burntB xs)]) ∧ OwnI w' r (mForgetSides xs) ∧ From w.heap.size r ∧ Below w.heap.size w w' := by
  cases hg : burntB xs with
  | true =>
    have HM := Lib.hid (show mForgetSides xs = absL xs from if_pos hg)
    have HX := Lib.hid (Burnt.small (burntB_iff.1 hg))
    go_enter Try.func58, Try.ntmps58
    go_wp2_with fail
    refine (buGood_any _ _ _ hv hn).mono ?_
    rintro e w1 ⟨rfl, hb⟩
    rw [hg]
    go_wp2_with fail
    refine (buForget_any _ _ _ (hv.same hb) hn HX).mono ?_
    rintro e w2 ⟨r, rfl, ho, hf, hb2⟩
    go_wp2
    go_ret2
    exact ⟨_, rfl, by rw [HM.out]; exact ho, hf.mono hb.size, hb.trans (hb2.mono hb.size)⟩
  | false =>
    have HM := Lib.hid (show mForgetSides xs = [] from if_neg (by rw [hg]; exact Bool.false_ne_true))
    go_enter Try.func58, Try.ntmps58
    go_wp2_with fail
    refine (buGood_any _ _ _ hv hn).mono ?_
    rintro e w1 ⟨rfl, hb⟩
    rw [hg]
    go_wp2
    go_ret2
    exact ⟨_, rfl, by rw [HM.out]; exact OwnI.nil _, From.nil _ _ _, hb⟩

set_option maxHeartbeats 400000 in
theorem sAllBurnt_any (x : Int) (w : World) :
    Calls Try.prog 56 #[.int .i64 x] w fun e w' => ∃ r, e = .returned (.tuple #[r, .bool (inB x 1 9)]) ∧ OwnI w' r (mAllBurnt x) ∧ From w.heap.size r ∧ Below w.heap.size w w' := by
  cases hi : inB x 1 9 with
  | true =>
    have hk := inB_iff.1 hi
    obtain ⟨n, rfl⟩ : ∃ n : Nat, x = n := ⟨x.toNat, by omega⟩
    have hn9 : n ≤ 9 := by omega
    have HM := Lib.hid (show mAllBurnt n = downL n by unfold mAllBurnt; rw [if_pos hi]; simp)
    have HI := Lib.hid hi
    clear hk hi
    go_enter Try.func56, Try.ntmps56
    go_wp2_with fail
    refine (l1In_any _ _ _ _).mono ?_
    rintro e w' ⟨rfl, rfl⟩
    rw [HI.out]
    go_wp2
    go_loopw [4, 5] (fun o i wr => ∃ j : Nat, j ≤ n ∧ i = .int .i64 ((j : Int) + 1) ∧ OwnI wr o (downL j) ∧ From w.heap.size o ∧ Below w.heap.size w wr) (fun _ i _ => n + 1 - (intOf i).toNat)
    case atStart => exact ⟨0, Nat.zero_le _, by go_num, by simpa [downL, ramp] using OwnI.nil w, From.nil _ _ _, Below.refl _ _⟩
    case round =>
      obtain ⟨j, hj, rfl, ho, hf, hbr⟩ := hrel
      by_cases hlt : j < n
      · have hle : (j : Int) + 1 ≤ n := by omega
        have HS := Lib.hid (downL_succ j).symm
        have hlen : (downL j).length ≤ 1048576 := by rw [downL_length]; omega
        go_wp2_with (at_builtin; refine wpList_app1 Try.intSl rfl _ _ rfl _ (downL j) rfl (ho.alloc _) w.heap.size hf wr.heap.size (-((j : Int) + 1)) rfl ?c1 w (hbr.alloc hbr.size _) ?c2 hlen ?_)
        case c1 => simp [go_sem]
        case c2 => simp; exact Nat.le_succ_of_le hbr.size
        intro v' w1 ho' hf' hb' _
        rw [HS.out] at ho'
        clear HS ho hf hbr
        go_wp2
        go_roundw
        case rel => exact ⟨j + 1, by omega, by go_num, ho', hf', hb'⟩
        case measure => simp [intOf] <;> omega
      · obtain rfl : j = n := by omega
        have hle : (j : Int) < j + 1 := by omega
        go_wp2
        go_ret2
        exact ⟨_, rfl, by rw [HM.out]; exact ho, hf, hbr⟩
  | false =>
    have HM := Lib.hid (show mAllBurnt x = [] from if_neg (by rw [hi]; exact Bool.false_ne_true))
    go_enter Try.func56, Try.ntmps56
    go_wp2_with fail
    refine (l1In_any _ _ _ _).mono ?_
    rintro e w' ⟨rfl, rfl⟩
    rw [hi]
    go_wp2
    go_ret2
    exact ⟨_, rfl, by rw [HM.out]; exact OwnI.nil _, From.nil _ _ _, Below.refl _ _⟩

set_option maxHeartbeats 800000 in
theorem sBurntGaps_any (v : Value) (xs : List Int) (w : World) (hv : OwnI w v xs) (hn : xs.length ≤ 1048576) :
    Calls Try.prog 44 #[v] w fun e w' => ∃ r, e = .returned (.tuple #[r, .bool (burntB xs)]) ∧ OwnI w' r (mBurntGaps xs) ∧ From w.heap.size r ∧ Below w.heap.size w w' := by
  obtain ⟨ad, cap, rfl, hc, _, _⟩ := hv.shape
  cases hg : burntB xs with
  | true =>
    have hB := burntB_iff.1 hg
    have hl := hB.len
    have hl9 := hl.2
    have HX := Lib.hid (show ∀ x ∈ xs, -9 ≤ x ∧ x ≤ 9 from fun x hx => by have := hB.bd hx; omega)
    have HM := Lib.hid (show mBurntGaps xs = qgapsTo noStepB xs xs.length from if_pos hg)
    have HG := Lib.hid hg
    clear hB hg hl
    go_enter Try.func44, Try.ntmps44
    go_wp2_with fail
    refine (buGood_any _ _ _ hv hn).mono ?_
    rintro e w1 ⟨rfl, hb1⟩
    rw [HG.out]
    have hv1 := hv.same hb1
    go_wp2
    go_loopw [4, 5, 6, 7, 13] (fun o _ _ _ i wr => ∃ k : Nat, k ≤ xs.length ∧ i = .int .i64 k ∧ OwnI wr o (qgapsTo noStepB xs k) ∧ From w.heap.size o ∧ Below w.heap.size w wr) (fun _ _ _ _ i _ => xs.length - (intOf i).toNat)
    case atStart => exact ⟨0, Nat.zero_le _, rfl, by simpa [qgapsTo] using OwnI.nil _, From.nil _ _ _, hb1⟩
    case round =>
      obtain ⟨k, hk, rfl, ho, hf, hbr⟩ := hrel
      have hvr := hv.below hbr (Nat.le_refl _)
      clear hv hv1 hb1
      by_cases hlt : k < xs.length
      · obtain ⟨g, off, rfl, hgl, hcell, hfz⟩ := hvr.at (by omega)
        have hck := hcell k (by omega)
        rw [List.getElem?_map, List.getElem?_eq_getElem hlt] at hck
        have hx := HX.out _ (List.getElem_mem hlt)
        have hx1 := hx.1
        have hx2 := hx.2
        have hlen : (qgapsTo noStepB xs k).length ≤ 1048576 := by have := qgapsTo_length noStepB xs k; omega
        have hs := hbr.size
        by_cases h2 : k + 1 < xs.length
        · have hcp := hcell (k + 1) (by omega)
          rw [List.getElem?_map, List.getElem?_eq_getElem h2] at hcp
          have hy := HX.out _ (List.getElem_mem h2)
          have hy1 := hy.1
          have hy2 := hy.2
          have h2i : (k : Int) + 1 < xs.length := by omega
          have hqe : qgapB noStepB xs k = (xs[k + 1] - xs[k] != 1) := by unfold qgapB below noStepB; rw [if_pos h2, getD_eq hlt, getD_eq h2]
          clear hcell hfz hvr hx hy
          cases hb : qgapB noStepB xs k with
          | true =>
            rw [hb] at hqe
            have hq : (xs[k + 1] != xs[k] + 1) = true := by
              have := hqe.symm
              simp only [bne_iff_ne, ne_eq] at this ⊢
              omega
            have HS := Lib.hid (qgapsTo_yes hb)
            clear hb hqe
            go_wp2_with (at_builtin; refine wpList_app1 Try.intSl rfl _ _ rfl _ (qgapsTo noStepB xs k) rfl (ho.alloc _) w.heap.size hf wr.heap.size ((k : Int) + 1) rfl ?c1 w (hbr.alloc hs _) ?c2 hlen ?_)
            case c1 => simp [go_sem]
            case c2 => simp; exact Nat.le_succ_of_le hs
            intro v' w2 ho' hf' hb' _
            rw [← HS.out] at ho'
            clear HS ho hf hbr
            go_wp2
            go_roundw
            case rel => exact ⟨k + 1, by omega, by go_num, ho', hf', hb'⟩
            case measure => simp [intOf] <;> omega
          | false =>
            rw [hb] at hqe
            have hq : (xs[k + 1] != xs[k] + 1) = false := by
              have := hqe.symm
              simp only [bne_eq_false_iff_eq] at this ⊢
              omega
            have HS := Lib.hid (qgapsTo_no hb)
            clear hb hqe
            go_wp2
            go_roundw
            case rel => exact ⟨k + 1, by omega, by go_num, by rw [HS.out]; exact ho, hf, hbr⟩
            case measure => simp [intOf] <;> omega
        · have h2i : (xs.length : Int) ≤ k + 1 := by omega
          have hqe : qgapB noStepB xs k = ((xs.length : Int) + 1 - xs[k] != 1) := by unfold qgapB below noStepB; rw [if_neg h2, getD_eq hlt]
          clear hcell hfz hvr hx
          cases hb : qgapB noStepB xs k with
          | true =>
            rw [hb] at hqe
            have hq : ((xs.length : Int) + 1 != xs[k] + 1) = true := by
              have := hqe.symm
              simp only [bne_iff_ne, ne_eq] at this ⊢
              omega
            have HS := Lib.hid (qgapsTo_yes hb)
            clear hb hqe
            go_wp2_with (at_builtin; refine wpList_app1 Try.intSl rfl _ _ rfl _ (qgapsTo noStepB xs k) rfl (ho.alloc _) w.heap.size hf wr.heap.size ((k : Int) + 1) rfl ?c3 w (hbr.alloc hs _) ?c4 hlen ?_)
            case c3 => simp [go_sem]
            case c4 => simp; exact Nat.le_succ_of_le hs
            intro v' w2 ho' hf' hb' _
            rw [← HS.out] at ho'
            clear HS ho hf hbr
            go_wp2
            go_roundw
            case rel => exact ⟨k + 1, by omega, by go_num, ho', hf', hb'⟩
            case measure => simp [intOf] <;> omega
          | false =>
            rw [hb] at hqe
            have hq : ((xs.length : Int) + 1 != xs[k] + 1) = false := by
              have := hqe.symm
              simp only [bne_eq_false_iff_eq] at this ⊢
              omega
            have HS := Lib.hid (qgapsTo_no hb)
            clear hb hqe
            go_wp2
            go_roundw
            case rel => exact ⟨k + 1, by omega, by go_num, by rw [HS.out]; exact ho, hf, hbr⟩
            case measure => simp [intOf] <;> omega
      · obtain rfl : k = xs.length := by omega
        clear hvr
        go_wp2
        go_ret2
        exact ⟨_, rfl, by rw [HM.out]; exact ho, hf, hbr⟩
  | false =>
    have HM := Lib.hid (show mBurntGaps xs = [] from if_neg (by rw [hg]; exact Bool.false_ne_true))
    go_enter Try.func44, Try.ntmps44
    go_wp2_with fail
    refine (buGood_any _ _ _ hv hn).mono ?_
    rintro e w1 ⟨rfl, hb⟩
    rw [hg]
    go_wp2
    go_ret2
    exact ⟨_, rfl, by rw [HM.out]; exact OwnI.nil _, From.nil _ _ _, hb⟩
end Go.Proofs.Ytakgmcfpdbeajaa
