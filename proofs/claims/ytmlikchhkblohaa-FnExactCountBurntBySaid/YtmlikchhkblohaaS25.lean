import Derived.Test.YtmlikchhkblohaaS8
import Derived.Test.YtmlikchhkblohaaM11
namespace Go.Proofs.Ytmlikchhkblohaa
open Go Go.RowKit Go.Pan

theorem absTo_step (xs : List Int) (k : Nat) (h : k < xs.length) : absL (xs.take k) ++ [absI xs[k]] = absL (xs.take (k + 1)) := by
  rw [List.take_succ_eq_append_getElem h]; unfold absL; rw [List.map_append]; rfl

set_option maxHeartbeats 400000 in
theorem buForget_any (v : Value) (xs : List Int) (w : World) (hv : OwnI w v xs) (hn : xs.length ≤ 1048576) (hb : Hid (∀ x ∈ xs, -1048576 ≤ x ∧ x ≤ 1048576)) :
    Calls Try.prog 167 #[v] w fun e w' => ∃ r, e = .returned r ∧ OwnI w' r (absL xs) ∧ From w.heap.size r ∧ Below w.heap.size w w' := by
  obtain ⟨ad, cap, rfl, hc, _, _⟩ := hv.shape
  go_enter Try.func167, Try.ntmps167
  go_wp2
  go_loopw [3, 5, 8] (fun o _ i wr => ∃ k : Nat, k ≤ xs.length ∧ i = .int .i64 k ∧ OwnI wr o (absL (xs.take k)) ∧ From w.heap.size o ∧ Below w.heap.size w wr) (fun _ _ i _ => xs.length - (intOf i).toNat)
  case atStart => exact ⟨0, Nat.zero_le _, rfl, by simpa [absL] using OwnI.nil w, From.nil _ _ _, Below.refl _ _⟩
  case round =>
    obtain ⟨k, hk, rfl, ho, hf, hbr⟩ := hrel
    by_cases hlt : k < xs.length
    · obtain ⟨g, off, rfl, hgl, hcell, hfz⟩ := hv.at (by omega)
      have hck := hcell k (by omega)
      rw [List.getElem?_map, List.getElem?_eq_getElem hlt] at hck
      have hc1 := (hbr.cell (p := ⟨g, off + k, none⟩) hgl).trans hck
      have hx := hb.out _ (List.getElem_mem hlt)
      have hx1 := hx.1
      have hx2 := hx.2
      have HS := Lib.hid (absTo_step xs k hlt)
      have hlen : (absL (xs.take k)).length ≤ 1048576 := by rw [absL_length, List.length_take]; omega
      have hs := hbr.size
      clear hcell hfz hck hv hx
      go_wp2_with fail
      refine (l1Abs_any _ _ hx1 hx2).mono ?_
      rintro e w1 ⟨rfl, rfl⟩
      go_wp2_with (at_builtin; refine wpList_app1 Try.intSl rfl _ _ rfl _ (absL (xs.take k)) rfl (ho.alloc _) w.heap.size hf wr.heap.size (absI xs[k]) rfl ?c1 w (hbr.alloc hs _) ?c2 hlen ?_)
      case c1 => simp [go_sem]
      case c2 => simp; exact Nat.le_succ_of_le hs
      intro v' w1 ho' hf' hb' _
      rw [HS.out] at ho'
      clear HS ho hf hbr
      go_wp2
      go_roundw
      case rel => exact ⟨k + 1, by omega, by go_num, ho', hf', hb'⟩
      case measure => simp [intOf] <;> omega
    · obtain rfl : k = xs.length := by omega
      clear hv
      rw [List.take_length] at ho
      go_wp2
      go_ret
      exact ⟨_, rfl, ho, hf, hbr⟩

theorem buGood_any (v : Value) (xs : List Int) (w : World) (hv : OwnI w v xs) (hn : xs.length ≤ 1048576) :
    Calls Try.prog 165 #[v] w fun e w' => e = .returned (.bool (burntB xs)) ∧ Below w.heap.size w w' := by
  cases ha : allB xs (-9) 9 with
  | true =>
    have hal := allB_iff.1 ha
    have HX := Lib.hid (show ∀ x ∈ xs, -1048576 ≤ x ∧ x ≤ 1048576 from fun x hx => by have := hal x hx; omega)
    have hla : (absL xs).length ≤ 1048576 := by rw [absL_length]; exact hn
    have HA := Lib.hid ha
    clear ha hal
    go_enter Try.func165, Try.ntmps165
    go_wp2_with fail
    refine (l1All_any _ _ _ _ _ hv hn).mono ?_
    rintro e w1 ⟨rfl, hb⟩
    rw [HA.out]
    go_wp2_with fail
    refine (buForget_any _ _ _ (hv.same hb) hn HX).mono ?_
    rintro e w2 ⟨r, rfl, ho, hf, hb2⟩
    go_wp2_with fail
    refine (stGood_any _ _ _ ho hla).mono ?_
    rintro e w3 ⟨rfl, hb3⟩
    go_wp2
    go_ret
    exact ⟨rfl, (hb.trans (hb2.mono hb.size)).trans (hb3.mono (Nat.le_trans hb.size hb2.size))⟩
  | false =>
    have HM := Lib.hid (burnt_not ha)
    have HA := Lib.hid ha
    clear ha
    go_enter Try.func165, Try.ntmps165
    go_wp2_with fail
    refine (l1All_any _ _ _ _ _ hv hn).mono ?_
    rintro e w1 ⟨rfl, hb⟩
    rw [HA.out]
    go_wp2
    go_ret
    exact ⟨by rw [HM.out]; rfl, hb⟩

set_option maxHeartbeats 400000 in
theorem buTurn_any (v : Value) (xs : List Int) (k : Nat) (w : World) (hv : OwnI w v xs) (hn : xs.length ≤ 1048576) (hk : k ≤ xs.length) (hb : Hid (∀ x ∈ xs, -1048576 ≤ x ∧ x ≤ 1048576)) :
    Calls Try.prog 122 #[v, .int .i64 k] w fun e w' => ∃ r, e = .returned r ∧ OwnI w' r (bturnL xs k) ∧ From w.heap.size r ∧ Below w.heap.size w w' := by
  obtain ⟨ad, cap, rfl, hc, _, _⟩ := hv.shape
  go_enter Try.func122, Try.ntmps122
  go_wp2
  go_loopw [5, 6] (fun o i wr => ∃ j : Nat, j ≤ k ∧ i = .int .i64 ((k : Int) - 1 - j) ∧ OwnI wr o ((revNeg xs k).take j) ∧ From w.heap.size o ∧ Below w.heap.size w wr) (fun _ i _ => (intOf i + 1).toNat)
  case atStart => exact ⟨0, Nat.zero_le _, by go_num, by simpa using OwnI.nil w, From.nil _ _ _, Below.refl _ _⟩
  case round =>
    obtain ⟨j, hj, rfl, ho, hf, hbr⟩ := hrel
    have hso := hv.below hbr (Nat.le_refl _)
    by_cases hlt : j < k
    · obtain ⟨g, off, rfl, hgl, hcell, hfz⟩ := hso.at (by omega)
      obtain ⟨m, hm⟩ : ∃ m : Nat, m = k - 1 - j := ⟨_, rfl⟩
      have hmi : (k : Int) - 1 - j = (m : Int) := by omega
      have hml : m < xs.length := by omega
      have hck := hcell m (by omega)
      rw [List.getElem?_map, List.getElem?_eq_getElem hml] at hck
      have HS := Lib.hid (bturnTo_step xs k j hk hlt xs[m] (by subst hm; rfl))
      have HM := Lib.hid hmi
      have hx := hb.out _ (List.getElem_mem hml)
      have hx1 := hx.1
      have hx2 := hx.2
      have hlen : ((revNeg xs k).take j).length ≤ 1048576 := by rw [List.length_take]; omega
      rw [hmi]
      have hmk : m < k := by omega
      clear hcell hfz hv hso hmi hm hx
      go_wp2_with (at_builtin; refine wpList_app1 Try.intSl rfl _ _ rfl _ ((revNeg xs k).take j) rfl (ho.alloc _) w.heap.size hf wr.heap.size (-xs[m]) rfl ?c1 w (hbr.alloc hbr.size _) ?c2 hlen ?_)
      case c1 => simp [go_sem]
      case c2 => simp; exact Nat.le_succ_of_le hbr.size
      intro v' w1 ho' hf' hb' _
      rw [HS.out] at ho'
      clear HS ho hf hbr hck
      go_wp2
      go_roundw
      case rel => exact ⟨j + 1, by omega, by have := HM.out; go_num, ho', hf', hb'⟩
      case measure => simp [intOf] <;> omega
    · obtain rfl : j = k := by omega
      have HE := Lib.hid (show ((revNeg xs j).take j) ++ xs.drop j = bturnL xs j by rw [List.take_of_length_le (by simp [revNeg]; omega), bturnL_eq xs j hk]; rfl)
      have hl1 : ((revNeg xs j).take j).length ≤ 1048576 := by rw [List.length_take]; omega
      have hl2 : (xs.drop j).length ≤ 1048576 := by simp; omega
      clear hv
      go_wp2_with (first | (refine wpList_from Try.intSl rfl _ _ rfl ad xs.length cap j rfl rfl hk xs rfl hso ?_; intro sp m c hm hod hsrc _) | (at_builtin; refine wpList_appI Try.intSl rfl _ _ rfl _ _ rfl ho w.heap.size hf sp m c (xs.drop j) rfl hm.out hsrc w hbr hbr.size hl1 hl2 ?_))
      intro v' w1 ho' hf' hb' _
      rw [HE.out] at ho'
      go_wp2
      go_ret
      exact ⟨_, rfl, ho', hf', hb'⟩

theorem Burnt.small {xs : List Int} (h : Burnt xs) : ∀ x ∈ xs, -1048576 ≤ x ∧ x ≤ 1048576 := fun x hx => by have := h.bd hx; omega

def BPlayTo (xs p : List Int) (k : Nat) : List Int := bplayL xs (p.take k)
theorem BPlayTo_length (xs p : List Int) (k : Nat) : (BPlayTo xs p k).length = xs.length := bplayL_length _ _
theorem BPlayTo_step (xs p : List Int) (k : Nat) (h : k < p.length) (j : Nat) (hj : p[k] = (j : Int)) : bturnL (BPlayTo xs p k) j = BPlayTo xs p (k + 1) := by
  unfold BPlayTo
  rw [bplayL_take_succ xs p k h, hj]
  simp

end Go.Proofs.Ytmlikchhkblohaa

