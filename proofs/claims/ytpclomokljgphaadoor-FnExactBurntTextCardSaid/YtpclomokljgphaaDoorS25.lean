import Derived.Test.YtpclomokljgphaaDoorS8
import Derived.Test.YtpclomokljgphaaDoorM11
namespace Go.Proofs.YtpclomokljgphaaDoor
open Go Go.RowKit Go.Pan

theorem absTo_step (xs : List Int) (k : Nat) (h : k < xs.length) : absL (xs.take k) ++ [absI xs[k]] = absL (xs.take (k + 1)) := by
  rw [List.take_succ_eq_append_getElem h]; unfold absL; rw [List.map_append]; rfl

set_option maxHeartbeats 400000 in
theorem buForget_any (v : Value) (xs : List Int) (w : World) (hv : OwnI w v xs) (hn : xs.length ≤ 1048576) (hb : Hid (∀ x ∈ xs, -1048576 ≤ x ∧ x ≤ 1048576)) :
    Calls Tryd.prog 14 #[v] w fun e w' => ∃ r, e = .returned r ∧ OwnI w' r (absL xs) ∧ From w.heap.size r ∧ Below w.heap.size w w' := by
  obtain ⟨ad, cap, rfl, hc, _, _⟩ := hv.shape
  go_enter Tryd.func14, Tryd.ntmps14
  go_wp2
  go_loopw [3, 5, 8] (fun o _ i wr => ∃ k : Nat, k ≤ xs.length ∧ i = .int .i64 k ∧ OwnI wr o (absL (xs.take k)) ∧ From w.heap.size o ∧ Below w.heap.size w wr) (fun _ _ i _ => xs.length - (intOf i).toNat)
  case atStart => exact ⟨0, Nat.zero_le _, rfl, by simpa [absL] using OwnI.nil w, From.nil _ _ _, Below.refl _ _⟩
  case round =>
    obtain ⟨k, hk, rfl, ho, hf, hbr⟩ := hrel
    by_cases hlt : k < xs.length
    · obtain ⟨g, off, rfl, hgl, hcell, hfz⟩ := hv.at (by omega)
      have hck := hcell k (by omega)
      rw [List.getElem?_map, List.getElem?_eq_getElem hlt] at hck
      have hc1 := (hbr.cell (p := ⟨g, off + k, none⟩) hgl).trans hck
      have hx := hb.out _ (List.getElem_mem hlt)
      have hx1 := hx.1
      have hx2 := hx.2
      have HS := Lib.hid (absTo_step xs k hlt)
      have hlen : (absL (xs.take k)).length ≤ 1048576 := by rw [absL_length, List.length_take]; omega
      have hs := hbr.size
      clear hcell hfz hck hv hx
      go_wp2_with fail
      refine (l1Abs_any _ _ hx1 hx2).mono ?_
      rintro e w1 ⟨rfl, rfl⟩
      go_wp2_with (at_builtin; refine wpList_app1 Tryd.intSl rfl _ _ rfl _ (absL (xs.take k)) rfl (ho.alloc _) w.heap.size hf wr.heap.size (absI xs[k]) rfl ?c1 w (hbr.alloc hs _) ?c2 hlen ?_)
      case c1 => simp [go_sem]
      case c2 => simp; exact Nat.le_succ_of_le hs
      intro v' w1 ho' hf' hb' _
      rw [HS.out] at ho'
      clear HS ho hf hbr
      go_wp2
      go_roundw
      case rel => exact ⟨k + 1, by omega, by go_num, ho', hf', hb'⟩
      case measure => simp [intOf] <;> omega
    · obtain rfl : k = xs.length := by omega
      clear hv
      rw [List.take_length] at ho
      go_wp2
      go_ret
      exact ⟨_, rfl, ho, hf, hbr⟩

theorem buGood_any (v : Value) (xs : List Int) (w : World) (hv : OwnI w v xs) (hn : xs.length ≤ 1048576) :
    Calls Tryd.prog 8 #[v] w fun e w' => e = .returned (.bool (burntB xs)) ∧ Below w.heap.size w w' := by
  cases ha : allB xs (-9) 9 with
  | true =>
    have hal := allB_iff.1 ha
    have HX := Lib.hid (show ∀ x ∈ xs, -1048576 ≤ x ∧ x ≤ 1048576 from fun x hx => by have := hal x hx; omega)
    have hla : (absL xs).length ≤ 1048576 := by rw [absL_length]; exact hn
    have HA := Lib.hid ha
    clear ha hal
    go_enter Tryd.func8, Tryd.ntmps8
    go_wp2_with fail
    refine (l1All_any _ _ _ _ _ hv hn).mono ?_
    rintro e w1 ⟨rfl, hb⟩
    rw [HA.out]
    go_wp2_with fail
    refine (buForget_any _ _ _ (hv.same hb) hn HX).mono ?_
    rintro e w2 ⟨r, rfl, ho, hf, hb2⟩
    go_wp2_with fail
    refine (stGood_any _ _ _ ho hla).mono ?_
    rintro e w3 ⟨rfl, hb3⟩
    go_wp2
    go_ret
    exact ⟨rfl, (hb.trans (hb2.mono hb.size)).trans (hb3.mono (Nat.le_trans hb.size hb2.size))⟩
  | false =>
    have HM := Lib.hid (burnt_not ha)
    have HA := Lib.hid ha
    clear ha
    go_enter Tryd.func8, Tryd.ntmps8
    go_wp2_with fail
    refine (l1All_any _ _ _ _ _ hv hn).mono ?_
    rintro e w1 ⟨rfl, hb⟩
    rw [HA.out]
    go_wp2
    go_ret
    exact ⟨by rw [HM.out]; rfl, hb⟩

theorem Burnt.small {xs : List Int} (h : Burnt xs) : ∀ x ∈ xs, -1048576 ≤ x ∧ x ≤ 1048576 := fun x hx => by have := h.bd hx; omega

def BPlayTo (xs p : List Int) (k : Nat) : List Int := bplayL xs (p.take k)
theorem BPlayTo_length (xs p : List Int) (k : Nat) : (BPlayTo xs p k).length = xs.length := bplayL_length _ _
theorem BPlayTo_step (xs p : List Int) (k : Nat) (h : k < p.length) (j : Nat) (hj : p[k] = (j : Int)) : bturnL (BPlayTo xs p k) j = BPlayTo xs p (k + 1) := by
  unfold BPlayTo
  rw [bplayL_take_succ xs p k h, hj]
  simp