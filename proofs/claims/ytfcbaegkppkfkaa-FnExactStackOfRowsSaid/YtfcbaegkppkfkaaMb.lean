import Derived.Test.YtfcbaegkppkfkaaSS
import Derived.Test.YtfcbaegkppkfkaaH
namespace Go.Pan
-- the lengths of rows: spec's inShape, the program's lengthsOf
def lensL (xss : List (List Int)) : List Int := xss.map fun xs => (xs.length : Int)
theorem lensL_length (xss : List (List Int)) : (lensL xss).length = xss.length := by simp [lensL]
theorem lensL_succ (xss : List (List Int)) (k : Nat) (h : k < xss.length) : lensL (xss.take (k + 1)) = lensL (xss.take k) ++ [(xss[k].length : Int)] := by
  rw [lensL, List.take_succ_eq_append_getElem h, List.map_append]
  rfl

end Go.Pan

namespace Go.Proofs.Ytfcbaegkppkfkaa
open Go Go.RowKit Go.Pan

set_option maxHeartbeats 800000 in
set_option maxRecDepth 100000 in
theorem inShape_any (v : Value) (B N : Nat) (hs : List Value) (xss : List (List Int)) (w : World) (hv : SS w B N v hs xss) (hN : N ≤ w.heap.size) (hn : xss.length ≤ 1048576) :
    Calls Try.prog 32 #[v] w fun e w' => ∃ r, e = .returned r ∧ OwnI w' r (lensL xss) ∧ From w.heap.size r ∧ Below w.heap.size w w' := by
  obtain ⟨ad, cap, rfl, _, _, _⟩ := hv.own.shape
  have hl := hv.len
  have HV := Lib.hid hv
  rw [hl] at HV ⊢
  obtain ⟨n, hnn⟩ : ∃ n, xss.length = n := ⟨_, rfl⟩
  have HNN := Lib.hid hnn
  rw [hnn] at HV hn ⊢
  clear hv hl hnn
  go_enter Try.func32, Try.ntmps32
  go_wp2
  go_loopw [3, 5, 8] (fun ov _ iv' wr => ∃ k : Nat, k ≤ n ∧ iv' = .int .i64 k ∧ OwnI wr ov (lensL (xss.take k)) ∧ From w.heap.size ov ∧ Below w.heap.size w wr) (fun _ _ iv' _ => n - (intOf iv').toNat)
  case atStart => exact ⟨0, Nat.zero_le _, rfl, OwnI.nil _, From.nil _ _ _, Below.refl _ _⟩
  case round =>
    obtain ⟨k, hk, rfl, ho, hf, hbr⟩ := hrel
    obtain ⟨wk, rfl⟩ : ∃ z, z = wr := ⟨_, rfl⟩
    by_cases hlt : k < n
    · have hlt' : (k : Int) < (n : Int) := by omega
      have hkx : k < xss.length := by rw [HNN.out]; exact hlt
      obtain ⟨g, off, rfl, u, hu, hOu, hIu, _, hcu⟩ := (HV.out.below hbr hN).at k hkx
      have HST := Lib.hid (lensL_succ xss k hkx)
      obtain ⟨a2, c2, rfl, _, _, _⟩ := hOu.shape
      have hlen : (lensL (xss.take k)).length ≤ 1048576 := by rw [lensL_length, List.length_take]; omega
      obtain ⟨z, hz⟩ : ∃ z, xss[k].length = z := ⟨_, rfl⟩
      rw [hz] at HST hcu
      have hbs := hbr.size
      clear hu hOu hIu hz
      go_wp2_with (at_builtin; refine wpList_app1 Try.intSl rfl _ _ rfl _ (lensL (xss.take k)) rfl (ho.alloc _) w.heap.size hf wk.heap.size (z : Int) rfl ?c1 w (hbr.alloc hbs _) ?c2 hlen ?_)
      case c1 => simp [go_sem]
      case c2 => simp; omega
      intro v' w9 ho9 hf9 hb9 _
      rw [← HST.out] at ho9
      go_wp2
      go_roundw
      case rel => exact ⟨k + 1, by omega, by go_num, ho9, hf9, hb9⟩
      case measure => simp [intOf] <;> omega
    · obtain rfl : k = n := by omega
      have HO := Lib.hid (show OwnI wk u3 (lensL xss) by rw [← HNN.out, List.take_length] at ho; exact ho)
      have hge : (k : Int) ≤ (k : Int) := Int.le_refl _
      clear ho
      go_wp2
      go_ret
      exact ⟨_, rfl, HO.out, hf, hbr⟩

set_option maxHeartbeats 800000 in
set_option maxRecDepth 100000 in
theorem lengthsOf_any (v : Value) (B N : Nat) (hs : List Value) (xss : List (List Int)) (w : World) (hv : SS w B N v hs xss) (hN : N ≤ w.heap.size) (hn : xss.length ≤ 1048576) :
    Calls Try.prog 33 #[v] w fun e w' => ∃ r, e = .returned r ∧ OwnI w' r (lensL xss) ∧ From w.heap.size r ∧ Below w.heap.size w w' := by
  obtain ⟨ad, cap, rfl, _, _, _⟩ := hv.own.shape
  obtain ⟨i0, hi, hz0, hz1, hz2⟩ := info_parts Try.info3
  have HI := Lib.hid hi
  have HZ0 := Lib.hid hz0
  have HZ1 := Lib.hid hz1
  have HZ2 := Lib.hid hz2
  have hl := hv.len
  have HV := Lib.hid hv
  rw [hl] at HV ⊢
  obtain ⟨n, hnn⟩ : ∃ n, xss.length = n := ⟨_, rfl⟩
  have HNN := Lib.hid hnn
  have HLL := Lib.hid (show (lensL xss).length = n by rw [lensL_length]; exact hnn)
  rw [hnn] at HV hn ⊢
  clear hv hl hnn hi hz0 hz1 hz2
  go_enter Try.func33, Try.ntmps33
  go_wp2_with (at_make; refine wpList_make_full _ rfl _ _ 22 rfl w.heap.size 3 i0 (.int .i64 0) 1 Try.underlying22 HI.out HZ0.out HZ1.out _ _ _ _ n rfl rfl rfl rfl ?b1 ?b2 ?b3 ?_)
  case b1 => rw [HZ2.out]; omega
  case b2 => unfold maxLen; omega
  case b3 => exact Nat.le_refl _
  intro w1 hown hgr
  have hb1 : Below w.heap.size w w1 := (Below.refl _ _).grown hgr (Nat.le_refl _) (by intro k hk; cases hk)
  have h0 : Hid (w1.ownsRow w.heap.size 3 1 (.slice (some ⟨w.heap.size, 0, none⟩) n n) n (((lensL xss).take 0 ++ List.replicate (n - 0) 0).map iv)) := Lib.hid (by simpa [toList_madeCells_one] using hown)
  clear hown hgr
  go_wp2
  go_loopw [4, 5, 11] (fun _ _ iv' wr => ∃ k : Nat, k ≤ n ∧ iv' = .int .i64 k ∧ Hid (wr.ownsRow w.heap.size 3 1 (.slice (some ⟨w.heap.size, 0, none⟩) n n) n (((lensL xss).take k ++ List.replicate (n - k) 0).map iv)) ∧ Below w.heap.size w wr) (fun _ _ iv' _ => n - (intOf iv').toNat)
  case atStart => exact ⟨0, Nat.zero_le _, rfl, h0, hb1⟩
  case round =>
    obtain ⟨k, hk, rfl, ho, hbr⟩ := hrel
    obtain ⟨wk, rfl⟩ : ∃ z, z = wr := ⟨_, rfl⟩
    clear h0 hb1
    by_cases hlt : k < n
    · have hlt' : (k : Int) < (n : Int) := by omega
      have hkx : k < xss.length := by rw [HNN.out]; exact hlt
      obtain ⟨g, off, rfl, u, hu, hOu, hIu, _, hcu⟩ := (HV.out.below hbr hN).at k hkx
      obtain ⟨a2, c2, rfl, _, _, _⟩ := hOu.shape
      have hkl : k < (lensL xss).length := by rw [HLL.out]; exact hlt
      have hge : (lensL xss)[k] = ((xss[k].length : Nat) : Int) := by simp [lensL]
      have hst := ho.out.stored k (iv (lensL xss)[k])
      have hf := ho.out.frozenAt k
      obtain ⟨y, hd⟩ : ∃ y, wk.cell? ⟨w.heap.size, k, none⟩ = some y := ⟨_, (ho.out.cellAt k (by omega)).trans (List.getElem?_eq_getElem (by rw [List.length_map, List.length_append, List.length_take, HLL.out, List.length_replicate]; omega))⟩
      have hcs := copy_step (lensL xss) k hkl
      rw [HLL.out] at hcs
      rw [hcs, hge] at hst
      obtain ⟨z, hz⟩ : ∃ z, xss[k].length = z := ⟨_, rfl⟩
      rw [hz] at hst hcu
      have HST := Lib.hid hst.1
      have HB := Lib.hid (hbr.setCell (p := ⟨w.heap.size, k, none⟩) (Nat.le_refl _) (iv (z : Int)))
      clear hu hOu hIu hz hst hcs hge ho
      go_wp2
      go_roundw
      case rel => exact ⟨k + 1, by omega, by go_num, HST, HB.out⟩
      case measure => simp [intOf] <;> omega
    · obtain rfl : k = n := by omega
      have HO := Lib.hid (show OwnI wk (.slice (some ⟨w.heap.size, 0, none⟩) k k) (lensL xss) by
        have h := (Own.of_row ho.out).1
        rw [Nat.sub_self, List.replicate_zero, List.append_nil, ← HLL.out, List.take_length] at h
        rw [← HLL.out]
        exact h)
      have hge : (k : Int) ≤ (k : Int) := Int.le_refl _
      clear ho
      go_wp2
      go_ret
      exact ⟨_, rfl, HO.out, From.at _ _ _ _ _ (Nat.le_refl _), hbr⟩

end Go.Proofs.Ytfcbaegkppkfkaa
