import Derived.Test.YtmlikchhkblohaaS2
namespace Go.Proofs.Ytmlikchhkblohaa
open Go Go.RowKit Go.Pan

theorem rev_step (xs : List Int) (j : Nat) (hj : j < xs.length) (x : Int) (hx : x = xs[xs.length - 1 - j]'(by omega)) : (xs.reverse.take j) ++ [x] = xs.reverse.take (j + 1) := by
  rw [List.take_succ_eq_append_getElem (by simpa using hj), List.getElem_reverse, hx]

set_option maxHeartbeats 400000 in
theorem stReverse_any (v : Value) (xs : List Int) (w : World) (hv : OwnI w v xs) (hn : xs.length ≤ 1048576) :
    Calls Try.prog 155 #[v] w fun e w' => ∃ r, e = .returned r ∧ OwnI w' r xs.reverse ∧ From w.heap.size r ∧ Below w.heap.size w w' := by
  obtain ⟨ad, cap, rfl, hc, _, _⟩ := hv.shape
  go_enter Try.func155, Try.ntmps155
  go_wp2
  go_loopw [3, 4] (fun o i wr => ∃ j : Nat, j ≤ xs.length ∧ i = .int .i64 ((xs.length : Int) - 1 - j) ∧ OwnI wr o (xs.reverse.take j) ∧ From w.heap.size o ∧ Below w.heap.size w wr) (fun _ i _ => (intOf i + 1).toNat)
  case atStart => exact ⟨0, Nat.zero_le _, by go_num, by simpa using OwnI.nil w, From.nil _ _ _, Below.refl _ _⟩
  case round =>
    obtain ⟨j, hj, rfl, ho, hf, hbr⟩ := hrel
    have hso := hv.below hbr (Nat.le_refl _)
    by_cases hlt : j < xs.length
    · obtain ⟨g, off, rfl, hgl, hcell, hfz⟩ := hso.at (by omega)
      obtain ⟨m, hm⟩ : ∃ m : Nat, m = xs.length - 1 - j := ⟨_, rfl⟩
      have hmi : (xs.length : Int) - 1 - j = (m : Int) := by omega
      have hml : m < xs.length := by omega
      have hck := hcell m (by omega)
      rw [List.getElem?_map, List.getElem?_eq_getElem hml] at hck
      have HS := Lib.hid (rev_step xs j hlt xs[m] (by subst hm; rfl))
      have HM := Lib.hid hmi
      have hlen : (xs.reverse.take j).length ≤ 1048576 := by rw [List.length_take]; omega
      rw [hmi]
      clear hcell hfz hv hso hmi hm
      go_wp2_with (at_builtin; refine wpList_app1 Try.intSl rfl _ _ rfl _ (xs.reverse.take j) rfl (ho.alloc _) w.heap.size hf wr.heap.size xs[m] rfl ?c1 w (hbr.alloc hbr.size _) ?c2 hlen ?_)
      case c1 => simp [go_sem]
      case c2 => simp; exact Nat.le_succ_of_le hbr.size
      intro v' w1 ho' hf' hb' _
      rw [HS.out] at ho'
      clear HS ho hf hbr hck
      go_wp2
      go_roundw
      case rel => exact ⟨j + 1, by omega, by have := HM.out; go_num, ho', hf', hb'⟩
      case measure => simp [intOf] <;> omega
    · obtain rfl : j = xs.length := by omega
      rw [List.take_of_length_le (by simp)] at ho
      clear hv hso
      go_wp2
      go_ret
      exact ⟨_, rfl, ho, hf, hbr⟩

theorem placeL_at {xs : List Int} {k : Nat} {x : Int} (hlt : k < xs.length) (h : x ∉ xs.take k) (e : xs[k] = x) : placeL xs x = (k : Int) + 1 := by
  have hm : x ∈ xs := by rw [← e]; exact List.getElem_mem hlt
  rw [placeL_of_mem hm]
  have h1 : xs.idxOf x = k := by
    have hi := List.idxOf_lt_length_of_mem hm
    have hg := List.getElem_idxOf hi
    by_cases hlt2 : xs.idxOf x < k
    · exact absurd (List.mem_take_iff_getElem.2 ⟨xs.idxOf x, by omega, hg⟩) h
    · by_cases hgt : k < xs.idxOf x
      · have h0 := List.not_of_lt_findIdx (p := fun y => y == x) (xs := xs) hgt; simp [e] at h0
      · omega
  rw [h1]

set_option maxHeartbeats 400000 in
theorem stPlace_any (v : Value) (xs : List Int) (x : Int) (w : World) (hv : OwnI w v xs) (hn : xs.length ≤ 1048576) :
    Calls Try.prog 163 #[v, .int .i64 x] w fun e w' => e = .returned (.int .i64 (placeL xs x)) ∧ Below w.heap.size w w' := by
  obtain ⟨ad, cap, rfl, hc, _, _⟩ := hv.shape
  go_enter Try.func163, Try.ntmps163
  go_wp2
  go_loopw [9] (fun i wr => ∃ k : Nat, k ≤ xs.length ∧ i = .int .i64 k ∧ x ∉ xs.take k ∧ Below w.heap.size w wr) (fun i _ => xs.length - (intOf i).toNat)
  case atStart => exact ⟨0, Nat.zero_le _, rfl, by simp, Below.refl _ _⟩
  case round =>
    obtain ⟨k, hk, rfl, hx, hbr⟩ := hrel
    have HX := Lib.hid hx
    clear hx
    by_cases hlt : k < xs.length
    · obtain ⟨g, off, rfl, hgl, hcell, hf⟩ := hv.at (by omega)
      have hck := hcell k (by omega)
      rw [List.getElem?_map, List.getElem?_eq_getElem hlt] at hck
      have hc1 := (hbr.cell (p := ⟨g, off + k, none⟩) hgl).trans hck
      clear hcell hf hck hv
      by_cases he : xs[k] = x
      · have hq : ((xs[k] : Int) == x) = true := by simp [he]
        have HE := Lib.hid he
        clear he
        go_wp2
        go_ret
        exact ⟨by rw [placeL_at hlt HX.out HE.out]; rfl, hbr⟩
      · have hq : ((xs[k] : Int) == x) = false := by simp [he]
        have HE := Lib.hid he
        clear he
        go_wp2
        go_roundw
        case rel => exact ⟨k + 1, by omega, by go_num, not_mem_take hlt HX.out HE.out, hbr⟩
        case measure => simp [intOf] <;> omega
    · obtain rfl : k = xs.length := by omega
      clear hv
      go_wp2
      go_ret
      have h := HX.out
      rw [List.take_length] at h
      exact ⟨by rw [show placeL xs x = 0 from by simp [placeL, h]]; rfl, hbr⟩

theorem first_step (k : Nat) : ramp 1 k ++ [(k : Int) + 1] = ramp 1 (k + 1) := by simp [ramp, List.range_succ, Int.add_comm]

set_option maxHeartbeats 400000 in
theorem stFirst_any (n : Nat) (w : World) (hn : n ≤ 1048575) :
    Calls Try.prog 148 #[.int .i64 n] w fun e w' => ∃ r, e = .returned r ∧ OwnI w' r (ramp 1 n) ∧ From w.heap.size r ∧ Below w.heap.size w w' := by
  go_enter Try.func148, Try.ntmps148
  go_wp2
  go_loopw [3, 4] (fun o i wr => ∃ j : Nat, j ≤ n ∧ i = .int .i64 ((j : Int) + 1) ∧ OwnI wr o (ramp 1 j) ∧ From w.heap.size o ∧ Below w.heap.size w wr) (fun _ i _ => n + 1 - (intOf i).toNat)
  case atStart => exact ⟨0, Nat.zero_le _, by go_num, by simpa [ramp] using OwnI.nil w, From.nil _ _ _, Below.refl _ _⟩
  case round =>
    obtain ⟨j, hj, rfl, ho, hf, hbr⟩ := hrel
    by_cases hlt : j < n
    · have hle : (j : Int) + 1 ≤ n := by omega
      have HS := Lib.hid (first_step j)
      have hlen : (ramp 1 j).length ≤ 1048576 := by rw [ramp_length]; omega
      go_wp2_with (at_builtin; refine wpList_app1 Try.intSl rfl _ _ rfl _ (ramp 1 j) rfl (ho.alloc _) w.heap.size hf wr.heap.size ((j : Int) + 1) rfl ?c1 w (hbr.alloc hbr.size _) ?c2 hlen ?_)
      case c1 => simp [go_sem]
      case c2 => simp; exact Nat.le_succ_of_le hbr.size
      intro v' w1 ho' hf' hb' _
      rw [HS.out] at ho'
      clear HS ho hf hbr
      go_wp2
      go_roundw
      case rel => exact ⟨j + 1, by omega, by go_num, ho', hf', hb'⟩
      case measure => simp [intOf] <;> omega
    · obtain rfl : j = n := by omega
      have hle : (j : Int) < j + 1 := by omega
      go_wp2
      go_ret
      exact ⟨_, rfl, ho, hf, hbr⟩

def ThenTo (xs ys : List Int) (k : Nat) : List Int := (thenL xs ys).take k
theorem ThenTo_step (xs ys : List Int) (k j : Nat) (h : k < ys.length) (hj : ys[k] - 1 = (j : Int)) (hl : j < xs.length) : ThenTo xs ys k ++ [xs[j]] = ThenTo xs ys (k + 1) := by
  unfold ThenTo
  rw [List.take_succ_eq_append_getElem (by simpa [thenL] using h)]
  congr 2
  simp only [thenL, List.getElem_map]
  rw [hj, Int.toNat_natCast, getD_eq hl]
theorem ThenTo_length (xs ys : List Int) (k : Nat) : (ThenTo xs ys k).length ≤ ys.length := by simp [ThenTo, thenL]; omega

end Go.Proofs.Ytmlikchhkblohaa

