import Derived.Test.YtpclomokljgphaaDoorS13
import Derived.Test.YtpclomokljgphaaDoorS25
namespace Go.Pan
open Go Go.RowKit
/-- the text of a number of a burnt stack -/
def dig (x : Int) : List UInt8 := if x < 0 then 45 :: tx [-x] else tx [x]
def btx (xs : List Int) : List UInt8 := xs.flatMap dig
def btb (xs : List Int) : ByteArray := ⟨(btx xs).toArray⟩
theorem btx_append (xs ys : List Int) : btx (xs ++ ys) = btx xs ++ btx ys := by simp [btx]
theorem dig_length (x : Int) : (dig x).length ≤ 2 := by
  unfold dig
  split <;> simp [tx_length]
theorem btx_length (xs : List Int) : (btx xs).length ≤ 2 * xs.length := by
  induction xs with
  | nil => simp [btx]
  | cons x xs ih =>
    have := dig_length x
    rw [show x :: xs = [x] ++ xs from rfl, btx_append]
    simp only [List.length_append, List.length_cons, List.length_nil]
    have e : btx [x] = dig x := by simp [btx]
    rw [e]
    omega
theorem btb_size (xs : List Int) : (btb xs).size = (btx xs).length := by simp [btb, ByteArray.size]
theorem btb_append (xs ys : List Int) : btb xs ++ btb ys = btb (xs ++ ys) := by
  unfold btb
  rw [ByteArray.mk_append_mk, btx_append]
  first | done | simp
theorem btb_succ (xs : List Int) (k : Nat) (h : k < xs.length) : btb (xs.take k) ++ btb [xs[k]] = btb (xs.take (k + 1)) := by
  rw [btb_append, List.take_succ_eq_append_getElem h]
theorem btb_pos {x : Int} (h : ¬ x < 0) : btb [x] = tb [x] := by simp [btb, btx, dig, tb, h]
theorem btb_neg {x : Int} (h : x < 0) : btb [x] = ⟨#[45]⟩ ++ tb [-x] := by
  unfold btb tb
  rw [ByteArray.mk_append_mk]
  simp [btx, dig, h]
end Go.Pan
namespace Go.Proofs.YtpclomokljgphaaDoor
open Go Go.RowKit Go.Pan

theorem l1Int_any (x : Int) (h : (1 ≤ x ∧ x ≤ 9) ∨ (1 ≤ -x ∧ -x ≤ 9)) (w : World) :
    Calls Tryd.prog 15 #[.int .i64 x] w fun e w' => e = .returned (.string (btb [x])) ∧ Below w.heap.size w w' := by
  by_cases hn : x < 0
  · have HB := Lib.hid (btb_neg hn)
    have hA := (btb_neg hn).symm
    have hZ : (⟨#[45]⟩ : ByteArray).size + (tb [-x]).size ≤ 1048576 := by rw [tb_size]; simp [ByteArray.size]
    have h1 : 1 ≤ -x ∧ -x ≤ 9 := by omega
    have c := fun W => l1Num_any (-x) h1.1 h1.2 W
    have hw : IntKind.i64.wrap (-x) = -x := by rw [IntKind.wrap_i64]; omega
    clear h h1
    go_enter Tryd.func15, Tryd.ntmps15
    go_wp2_with fail
    refine (c _).mono ?_
    rintro e w1 ⟨rfl, hb1⟩
    clear c
    go_wp2
    go_ret
    exact ⟨rfl, hb1⟩
  · have HB := Lib.hid (btb_pos hn)
    have h1 : 1 ≤ x ∧ x ≤ 9 := by omega
    have c := fun W => l1Num_any x h1.1 h1.2 W
    clear h h1
    go_enter Tryd.func15, Tryd.ntmps15
    go_wp2_with fail
    refine (c _).mono ?_
    rintro e w1 ⟨rfl, hb1⟩
    clear c
    go_wp2
    go_ret
    exact ⟨by rw [HB.out]; rfl, hb1⟩

theorem absL_digits {xs : List Int} (h : Burnt xs) : ∀ x ∈ xs, (1 ≤ x ∧ x ≤ 9) ∨ (1 ≤ -x ∧ -x ≤ 9) := fun x hx => by
  have h1 := h.2.2.1 (absI x) (List.mem_map.2 ⟨x, hx, rfl⟩)
  have h2 := h.2.1
  unfold absI at h1
  split at h1 <;> omega
def mBurntText (xs : List Int) : ByteArray := if burntB xs = true then btb xs else ByteArray.empty

set_option maxHeartbeats 400000 in
theorem buText_any (v : Value) (xs : List Int) (w : World) (hv : OwnI w v xs) (hn : xs.length ≤ 9) (hp : ∀ x ∈ xs, (1 ≤ x ∧ x ≤ 9) ∨ (1 ≤ -x ∧ -x ≤ 9)) :
    Calls Tryd.prog 9 #[v] w fun e w' => e = .returned (.string (btb xs)) ∧ Below w.heap.size w w' := by
  obtain ⟨ad, cap, rfl, hc, _, _⟩ := hv.shape
  have HP := Lib.hid hp
  clear hp
  go_enter Tryd.func9, Tryd.ntmps9
  go_wp2
  go_loopw [3, 5, 8] (fun o _ i wr => ∃ k : Nat, k ≤ xs.length ∧ i = .int .i64 k ∧ o = .string (btb (xs.take k)) ∧ Below w.heap.size w wr) (fun _ _ i _ => xs.length - (intOf i).toNat)
  case atStart => exact ⟨0, Nat.zero_le _, rfl, rfl, Below.refl _ _⟩
  case round =>
    obtain ⟨k, hk, rfl, rfl, hbr⟩ := hrel
    by_cases hlt : k < xs.length
    · obtain ⟨g, off, rfl, hgl, hcell, hf⟩ := hv.at (by omega)
      have hck := hcell k (by omega)
      rw [List.getElem?_map, List.getElem?_eq_getElem hlt] at hck
      have hc1 := (hbr.cell (p := ⟨g, off + k, none⟩) hgl).trans hck
      have hx := HP.out _ (List.getElem_mem hlt)
      have hA := btb_succ xs k hlt
      have hZ : (btb (xs.take k)).size + (btb [xs[k]]).size ≤ 1048576 := by
        have h1 := btx_length (xs.take k)
        have h2 := btx_length [xs[k]]
        rw [btb_size, btb_size]
        rw [List.length_take] at h1
        simp at h2
        omega
      obtain ⟨x, hxe⟩ : ∃ x, xs[k] = x := ⟨_, rfl⟩
      rw [hxe] at hx hA hZ hc1
      clear hcell hf hck hv hxe
      go_wp2_with fail
      refine (l1Int_any x hx _).mono ?_
      rintro e w1 ⟨rfl, hb1⟩
      have hb2 := hbr.trans (hb1.mono hbr.size)
      clear hx hc1 hb1 hbr
      go_wp2
      go_roundw
      case rel => exact ⟨k + 1, by omega, by go_num, rfl, hb2⟩
      case measure => simp [intOf] <;> omega
    · obtain rfl : k = xs.length := by omega
      have HE := Lib.hid (show btb (xs.take xs.length) = btb xs by rw [List.take_length])
      clear hv
      go_wp2
      go_ret
      exact ⟨by rw [HE.out]; rfl, hbr⟩

set_option maxHeartbeats 400000 in
theorem sBurntText_any (v : Value) (xs : List Int) (w : World) (hv : OwnI w v xs) (hn : xs.length ≤ 1048576) :
    Calls Tryd.prog 4 #[v] w fun e w' => e = .returned (.tuple #[.string (mBurntText xs), .bool (burntB xs)]) ∧ Below w.heap.size w w' := by
  obtain ⟨ad, cap, rfl, hc, _, _⟩ := hv.shape
  have c := buGood_any _ xs w hv hn
  cases hg : burntB xs with
  | true =>
    have hG := burntB_iff.1 hg
    have HM := Lib.hid (show mBurntText xs = btb xs from if_pos hg)
    have h9 : xs.length ≤ 9 := by have := hG.2.1; simpa [absL] using this
    have HP := Lib.hid (absL_digits hG)
    rw [hg] at c
    clear hg hG
    go_enter Tryd.func4, Tryd.ntmps4
    go_wp2_with fail
    refine c.mono ?_
    rintro e w1 ⟨rfl, hb1⟩
    have hv1 := hv.same hb1
    clear hv c
    go_wp2_with fail
    refine (buText_any _ xs _ hv1 h9 HP.out).mono ?_
    rintro e w2 ⟨rfl, hb2⟩
    clear hv1
    go_wp2
    go_ret2
    exact ⟨by rw [HM.out]; rfl, hb1.trans (hb2.mono hb1.size)⟩
  | false =>
    have HM := Lib.hid (show mBurntText xs = ByteArray.empty from if_neg (by rw [hg]; exact Bool.false_ne_true))
    rw [hg] at c
    clear hg
    go_enter Tryd.func4, Tryd.ntmps4
    go_wp2_with fail
    refine c.mono ?_
    rintro e w1 ⟨rfl, hb1⟩
    clear hv c
    go_wp2
    go_ret2
    exact ⟨by rw [HM.out]; rfl, hb1⟩
end Go.Proofs.YtpclomokljgphaaDoor
