import Derived.Test.YtfcbaegkppkfkaaS2
namespace Go.Proofs.Ytfcbaegkppkfkaa
open Go Go.RowKit Go.Pan

theorem rev_step (xs : List Int) (j : Nat) (hj : j < xs.length) (x : Int) (hx : x = xs[xs.length - 1 - j]'(by omega)) : (xs.reverse.take j) ++ [x] = xs.reverse.take (j + 1) := by
  rw [List.take_succ_eq_append_getElem (by simpa using hj), List.getElem_reverse, hx]

theorem placeL_at {xs : List Int} {k : Nat} {x : Int} (hlt : k < xs.length) (h : x ∉ xs.take k) (e : xs[k] = x) : placeL xs x = (k : Int) + 1 := by
  have hm : x ∈ xs := by rw [← e]; exact List.getElem_mem hlt
  rw [placeL_of_mem hm]
  have h1 : xs.idxOf x = k := by
    have hi := List.idxOf_lt_length_of_mem hm
    have hg := List.getElem_idxOf hi
    by_cases hlt2 : xs.idxOf x < k
    · exact absurd (List.mem_take_iff_getElem.2 ⟨xs.idxOf x, by omega, hg⟩) h
    · by_cases hgt : k < xs.idxOf x
      · have h0 := List.not_of_lt_findIdx (p := fun y => y == x) (xs := xs) hgt; simp [e] at h0
      · omega
  rw [h1]

theorem first_step (k : Nat) : ramp 1 k ++ [(k : Int) + 1] = ramp 1 (k + 1) := by simp [ramp, List.range_succ, Int.add_comm]

set_option maxHeartbeats 400000 in
theorem stSame_any (v u : Value) (xs ys : List Int) (w : World) (hv : OwnI w v xs) (hn : xs.length ≤ 1048576) (hu : OwnI w u ys) (_hm : ys.length ≤ 1048576) :
    Calls Try.prog 36 #[v, u] w fun e w' => e = .returned (.bool (decide (xs = ys))) ∧ Below w.heap.size w w' := by
  obtain ⟨ad, cap, rfl, hc, _, _⟩ := hv.shape
  obtain ⟨bd, cbp, rfl, hc', _, _⟩ := hu.shape
  by_cases hl : xs.length = ys.length
  · have hu2 : Own w 1 (.slice bd xs.length cbp) xs.length (ys.map iv) := by rw [hl]; exact hu
    rw [← hl]
    have HL := Lib.hid hl
    clear hl hu
    go_enter Try.func36, Try.ntmps36
    go_wp2
    go_loopw [13] (fun i wr => ∃ k : Nat, k ≤ xs.length ∧ i = .int .i64 k ∧ xs.take k = ys.take k ∧ Below w.heap.size w wr) (fun i _ => xs.length - (intOf i).toNat)
    case atStart => exact ⟨0, Nat.zero_le _, rfl, by simp, Below.refl _ _⟩
    case round =>
      obtain ⟨k, hk, rfl, he, hbr⟩ := hrel
      have HE := Lib.hid he
      clear he
      by_cases hlt : k < xs.length
      · have hlt2 : k < ys.length := by have := HL.out; omega
        obtain ⟨b, off, rfl, hbl, hcell, _⟩ := hv.at (by omega)
        obtain ⟨b', off', rfl, hbl', hcell', _⟩ := hu2.at (by omega)
        have hk1 := hcell k (by omega)
        have hk2 := hcell' k (by omega)
        rw [List.getElem?_map, List.getElem?_eq_getElem hlt] at hk1
        rw [List.getElem?_map, List.getElem?_eq_getElem hlt2] at hk2
        have hc1 := (hbr.cell (p := ⟨b, off + k, none⟩) hbl).trans hk1
        have hc2 := (hbr.cell (p := ⟨b', off' + k, none⟩) hbl').trans hk2
        clear hv hu2 hcell hcell' hk1 hk2
        by_cases hx : xs[k] = ys[k]
        · have hq : ((xs[k] : Int) != ys[k]) = false := by simp [hx]
          have HX := Lib.hid hx
          clear hx
          go_wp2
          go_quiet (fail)
          go_wp2
          go_roundw
          case rel => exact ⟨k + 1, by omega, by go_num, eq_take_succ xs ys k HL.out hlt HE.out HX.out, hbr.drewN _⟩
          case measure => simp [intOf] <;> omega
        · have hq : ((xs[k] : Int) != ys[k]) = true := by simp [hx]
          have HX := Lib.hid hx
          clear hx
          go_wp2
          go_quiet (fail)
          go_wp2
          go_ret
          exact ⟨by rw [show decide (xs = ys) = false from decide_eq_false fun e => HX.out (by simp [e])]; rfl, hbr.drewN _⟩
      · obtain rfl : k = xs.length := by omega
        clear hv hu2
        go_wp2
        go_ret
        have h := HE.out
        rw [List.take_length, HL.out, List.take_length] at h
        exact ⟨by rw [show decide (xs = ys) = true from decide_eq_true h]; rfl, hbr⟩
  · have hq : (((xs.length : Nat) : Int) != (ys.length : Int)) = true := by simp; omega
    have HL := Lib.hid hl
    clear hl
    go_enter Try.func36, Try.ntmps36
    go_wp2
    go_ret
    exact ⟨by rw [show decide (xs = ys) = false from decide_eq_false fun e => HL.out (by rw [e])]; rfl, Below.refl _ _⟩

def ThenTo (xs ys : List Int) (k : Nat) : List Int := (thenL xs ys).take k
theorem ThenTo_step (xs ys : List Int) (k j : Nat) (h : k < ys.length) (hj : ys[k] - 1 = (j : Int)) (hl : j < xs.length) : ThenTo xs ys k ++ [xs[j]] = ThenTo xs ys (k + 1) := by
  unfold ThenTo
  rw [List.take_succ_eq_append_getElem (by simpa [thenL] using h)]
  congr 2
  simp only [thenL, List.getElem_map]
  rw [hj, Int.toNat_natCast, getD_eq hl]
theorem ThenTo_length (xs ys : List Int) (k : Nat) : (ThenTo xs ys k).length ≤ ys.length := by simp [ThenTo, thenL]; omega

end Go.Proofs.Ytfcbaegkppkfkaa

