import Derived.Test.YtdlnniciccpchaaS1
import Derived.Test.YtdlnniciccpchaaLib2
import Derived.Outline
namespace Go.Proofs.Ytdlnniciccpchaa
open Go Go.RowKit Go.Pan

theorem Try.intSl : IntSl Try.prog 24 3 := by
  obtain ⟨i0, hi, hz0, hz1, hz2⟩ := info_parts Try.info3
  exact ⟨Try.underlying24, i0, hi, hz0, hz1, hz2⟩

theorem mem_take_bd {xs : List Int} {k : Nat} {lo hi : Int} (hlt : k < xs.length) (h : ∀ x ∈ xs.take k, lo ≤ x ∧ x ≤ hi) (h2 : lo ≤ xs[k] ∧ xs[k] ≤ hi) : ∀ x ∈ xs.take (k + 1), lo ≤ x ∧ x ≤ hi := by
  rw [List.take_succ_eq_append_getElem hlt]
  intro x hx
  simp only [List.mem_append, List.mem_singleton] at hx
  rcases hx with hx | rfl
  · exact h x hx
  · exact h2
def AllTo (xs : List Int) (k : Nat) (lo hi : Int) : Prop := ∀ x ∈ xs.take k, lo ≤ x ∧ x ≤ hi

theorem planB_eq (n : Int) (p : List Int) : planB n p = (inB n 1 9 && decide ((p.length : Int) ≤ 40) && allB p 1 n) := by
  rw [Bool.eq_iff_iff]
  simp only [planB_iff, Bool.and_eq_true, inB_iff, allB_iff, decide_eq_true_eq, Plan]
  constructor
  · rintro ⟨h1, h2, h3⟩; exact ⟨⟨h1, by omega⟩, h3⟩
  · rintro ⟨⟨h1, h2⟩, h3⟩; exact ⟨h1, by omega, h3⟩

def SortedTo (xs : List Int) (k : Nat) : Prop := ∀ i, i + 1 < k → xs.getD i 0 ≤ xs.getD (i + 1) 0

set_option maxHeartbeats 400000 in
theorem l1Own_any (v : Value) (xs : List Int) (w : World) (hv : OwnI w v xs) (hn : xs.length ≤ 1048576) :
    Calls Try.prog 55 #[v] w fun e w' => ∃ r, e = .returned r ∧ OwnI w' r xs ∧ From w.heap.size r ∧ Below w.heap.size w w' := by
  obtain ⟨ad, cap, rfl, hc, _, _⟩ := hv.shape
  have hs := Own.src hv
  go_enter Try.func55, Try.ntmps55
  go_wp2_with (at_builtin; refine wpList_appI Try.intSl rfl _ _ rfl (.slice (some ⟨w.heap.size, 0, none⟩) 0 0) [] rfl (OwnI.lit w _ [] 0 rfl (by simp) _ rfl) w.heap.size (From.at _ _ _ _ _ (Nat.le_refl _)) ad xs.length cap xs rfl rfl (hs.alloc _) w (below_new w _) (by simp) (by simp) hn ?_)
  intro v' w1 ho hf hb _
  go_wp2
  go_ret
  exact ⟨_, rfl, by simpa using ho, hf, hb⟩

theorem turnTo_step (xs : List Int) (k j : Nat) (hk : k ≤ xs.length) (hj : j < k) (x : Int) (hx : x = xs[k - 1 - j]'(by omega)) : ((xs.take k).reverse.take j) ++ [x] = (xs.take k).reverse.take (j + 1) := by
  rw [List.take_succ_eq_append_getElem (by simp; omega), List.getElem_reverse, hx]
  congr 2
  rw [List.getElem_take]
  congr 1
  simp
  omega

set_option maxHeartbeats 400000 in
theorem stTurn_any (v : Value) (xs : List Int) (k : Nat) (w : World) (hv : OwnI w v xs) (hn : xs.length ≤ 1048576) (hk : k ≤ xs.length) :
    Calls Try.prog 61 #[v, .int .i64 k] w fun e w' => ∃ r, e = .returned r ∧ OwnI w' r (turnL xs k) ∧ From w.heap.size r ∧ Below w.heap.size w w' := by
  obtain ⟨ad, cap, rfl, hc, _, _⟩ := hv.shape
  go_enter Try.func61, Try.ntmps61
  go_wp2
  go_loopw [5, 6] (fun o i wr => ∃ j : Nat, j ≤ k ∧ i = .int .i64 ((k : Int) - 1 - j) ∧ OwnI wr o ((xs.take k).reverse.take j) ∧ From w.heap.size o ∧ Below w.heap.size w wr) (fun _ i _ => (intOf i + 1).toNat)
  case atStart => exact ⟨0, Nat.zero_le _, by go_num, by simpa using OwnI.nil w, From.nil _ _ _, Below.refl _ _⟩
  case round =>
    obtain ⟨j, hj, rfl, ho, hf, hbr⟩ := hrel
    have hso := hv.below hbr (Nat.le_refl _)
    by_cases hlt : j < k
    · obtain ⟨g, off, rfl, hgl, hcell, hfz⟩ := hso.at (by omega)
      obtain ⟨m, hm⟩ : ∃ m : Nat, m = k - 1 - j := ⟨_, rfl⟩
      have hmi : (k : Int) - 1 - j = (m : Int) := by omega
      have hml : m < xs.length := by omega
      have hck := hcell m (by omega)
      rw [List.getElem?_map, List.getElem?_eq_getElem hml] at hck
      have HS := Lib.hid (turnTo_step xs k j hk hlt xs[m] (by subst hm; rfl))
      have HM := Lib.hid hmi
      have hlen : ((xs.take k).reverse.take j).length ≤ 1048576 := by rw [List.length_take]; omega
      rw [hmi]
      have hmk : m < k := by omega
      clear hcell hfz hv hso hmi hm
      go_wp2_with (at_builtin; go_loud (refine wpList_app1 Try.intSl rfl _ _ rfl _ ((xs.take k).reverse.take j) rfl (ho.alloc _) w.heap.size hf wr.heap.size xs[m] rfl ?c1 w (hbr.alloc hbr.size _) ?c2 hlen ?_))
      case c1 => simp [go_sem]
      case c2 => simp; exact Nat.le_succ_of_le hbr.size
      intro v' w1 ho' hf' hb' _
      rw [HS.out] at ho'
      clear HS ho hf hbr hck
      go_wp2
      go_roundw
      case rel => exact ⟨j + 1, by omega, by have := HM.out; go_num, ho', hf', hb'⟩
      case measure => simp [intOf] <;> omega
    · obtain rfl : j = k := by omega
      have HE := Lib.hid (show ((xs.take j).reverse.take j) ++ xs.drop j = turnL xs j by rw [List.take_of_length_le (by simp; omega)]; rfl)
      have hl1 : ((xs.take j).reverse.take j).length ≤ 1048576 := by simp; omega
      have hl2 : (xs.drop j).length ≤ 1048576 := by simp; omega
      clear hv
      go_wp2_with (first | (refine wpList_from Try.intSl rfl _ _ rfl ad xs.length cap j rfl rfl hk xs rfl hso ?_; intro sp m c hm hod hsrc _) | (at_builtin; refine wpList_appI Try.intSl rfl _ _ rfl _ _ rfl ho w.heap.size hf sp m c (xs.drop j) rfl hm.out hsrc w hbr hbr.size hl1 hl2 ?_))
      intro v' w1 ho' hf' hb' _
      rw [HE.out] at ho'
      go_wp2
      go_ret
      exact ⟨_, rfl, ho', hf', hb'⟩

def PlayTo (xs p : List Int) (k : Nat) : List Int := playL xs (p.take k)
theorem PlayTo_length (xs p : List Int) (k : Nat) : (PlayTo xs p k).length = xs.length := playL_length _ _
theorem PlayTo_step (xs p : List Int) (k : Nat) (h : k < p.length) (j : Nat) (hj : p[k] = (j : Int)) : turnL (PlayTo xs p k) j = PlayTo xs p (k + 1) := by
  unfold PlayTo
  rw [playL_take_succ xs p k h, hj]
  simp

end Go.Proofs.Ytdlnniciccpchaa

namespace Go.Proofs.Ytdlnniciccpchaa
open Go Go.RowKit Go.Pan

theorem rev_step (xs : List Int) (j : Nat) (hj : j < xs.length) (x : Int) (hx : x = xs[xs.length - 1 - j]'(by omega)) : (xs.reverse.take j) ++ [x] = xs.reverse.take (j + 1) := by
  rw [List.take_succ_eq_append_getElem (by simpa using hj), List.getElem_reverse, hx]

theorem placeL_at {xs : List Int} {k : Nat} {x : Int} (hlt : k < xs.length) (h : x ∉ xs.take k) (e : xs[k] = x) : placeL xs x = (k : Int) + 1 := by
  have hm : x ∈ xs := by rw [← e]; exact List.getElem_mem hlt
  rw [placeL_of_mem hm]
  have h1 : xs.idxOf x = k := by
    have hi := List.idxOf_lt_length_of_mem hm
    have hg := List.getElem_idxOf hi
    by_cases hlt2 : xs.idxOf x < k
    · exact absurd (List.mem_take_iff_getElem.2 ⟨xs.idxOf x, by omega, hg⟩) h
    · by_cases hgt : k < xs.idxOf x
      · have h0 := List.not_of_lt_findIdx (p := fun y => y == x) (xs := xs) hgt; simp [e] at h0
      · omega
  rw [h1]

theorem first_step (k : Nat) : ramp 1 k ++ [(k : Int) + 1] = ramp 1 (k + 1) := by simp [ramp, List.range_succ, Int.add_comm]

set_option maxHeartbeats 400000 in
theorem stFirst_any (n : Nat) (w : World) (hn : n ≤ 1048575) :
    Calls Try.prog 70 #[.int .i64 n] w fun e w' => ∃ r, e = .returned r ∧ OwnI w' r (ramp 1 n) ∧ From w.heap.size r ∧ Below w.heap.size w w' := by
  go_enter Try.func70, Try.ntmps70
  go_wp2
  go_loopw [3, 4] (fun o i wr => ∃ j : Nat, j ≤ n ∧ i = .int .i64 ((j : Int) + 1) ∧ OwnI wr o (ramp 1 j) ∧ From w.heap.size o ∧ Below w.heap.size w wr) (fun _ i _ => n + 1 - (intOf i).toNat)
  case atStart => exact ⟨0, Nat.zero_le _, by go_num, by simpa [ramp] using OwnI.nil w, From.nil _ _ _, Below.refl _ _⟩
  case round =>
    obtain ⟨j, hj, rfl, ho, hf, hbr⟩ := hrel
    by_cases hlt : j < n
    · have hle : (j : Int) + 1 ≤ n := by omega
      have HS := Lib.hid (first_step j)
      have hlen : (ramp 1 j).length ≤ 1048576 := by rw [ramp_length]; omega
      go_wp2_with (at_builtin; refine wpList_app1 Try.intSl rfl _ _ rfl _ (ramp 1 j) rfl (ho.alloc _) w.heap.size hf wr.heap.size ((j : Int) + 1) rfl ?c1 w (hbr.alloc hbr.size _) ?c2 hlen ?_)
      case c1 => simp [go_sem]
      case c2 => simp; exact Nat.le_succ_of_le hbr.size
      intro v' w1 ho' hf' hb' _
      rw [HS.out] at ho'
      clear HS ho hf hbr
      go_wp2
      go_roundw
      case rel => exact ⟨j + 1, by omega, by go_num, ho', hf', hb'⟩
      case measure => simp [intOf] <;> omega
    · obtain rfl : j = n := by omega
      have hle : (j : Int) < j + 1 := by omega
      go_wp2
      go_ret
      exact ⟨_, rfl, ho, hf, hbr⟩

def ThenTo (xs ys : List Int) (k : Nat) : List Int := (thenL xs ys).take k
theorem ThenTo_step (xs ys : List Int) (k j : Nat) (h : k < ys.length) (hj : ys[k] - 1 = (j : Int)) (hl : j < xs.length) : ThenTo xs ys k ++ [xs[j]] = ThenTo xs ys (k + 1) := by
  unfold ThenTo
  rw [List.take_succ_eq_append_getElem (by simpa [thenL] using h)]
  congr 2
  simp only [thenL, List.getElem_map]
  rw [hj, Int.toNat_natCast, getD_eq hl]
theorem ThenTo_length (xs ys : List Int) (k : Nat) : (ThenTo xs ys k).length ≤ ys.length := by simp [ThenTo, thenL]; omega

set_option maxHeartbeats 400000 in
theorem stThen_any (v u : Value) (xs ys : List Int) (w : World) (hv : OwnI w v xs) (hn : xs.length ≤ 1048576) (hu : OwnI w u ys) (hm : ys.length ≤ 1048575) (hp : Hid (∀ k ∈ ys, 1 ≤ k ∧ k ≤ (xs.length : Int))) :
    Calls Try.prog 68 #[v, u] w fun e w' => ∃ r, e = .returned r ∧ OwnI w' r (thenL xs ys) ∧ From w.heap.size r ∧ Below w.heap.size w w' := by
  obtain ⟨ad, cap, rfl, hc, _, _⟩ := hv.shape
  obtain ⟨bd, cbp, rfl, hc', _, _⟩ := hu.shape
  go_enter Try.func68, Try.ntmps68
  go_wp2
  go_loopw [5, 10] (fun o i wr => ∃ k : Nat, k ≤ ys.length ∧ i = .int .i64 k ∧ OwnI wr o (ThenTo xs ys k) ∧ From w.heap.size o ∧ Below w.heap.size w wr) (fun _ i _ => ys.length - (intOf i).toNat)
  case atStart => exact ⟨0, Nat.zero_le _, rfl, by simpa [ThenTo] using OwnI.nil w, From.nil _ _ _, Below.refl _ _⟩
  case round =>
    obtain ⟨k, hk, rfl, ho, hf, hbr⟩ := hrel
    by_cases hlt : k < ys.length
    · have hin := hp.out _ (List.getElem_mem hlt)
      obtain ⟨j, hj⟩ : ∃ j : Nat, ys[k] = (j : Int) + 1 := ⟨(ys[k] - 1).toNat, by omega⟩
      have hjl : j < xs.length := by omega
      obtain ⟨b, off, rfl, hbl, hcell, _⟩ := hv.at (by omega)
      obtain ⟨b', off', rfl, hbl', hcell', _⟩ := hu.at (by omega)
      have hk1 := hcell j (by omega)
      have hk2 := hcell' k (by omega)
      rw [List.getElem?_map, List.getElem?_eq_getElem hjl] at hk1
      rw [List.getElem?_map, List.getElem?_eq_getElem hlt, hj] at hk2
      have hc1 := (hbr.cell (p := ⟨b, off + j, none⟩) hbl).trans hk1
      have hc2 := (hbr.cell (p := ⟨b', off' + k, none⟩) hbl').trans hk2
      have HS := Lib.hid (ThenTo_step xs ys k j hlt (by omega) hjl)
      have hlen : (ThenTo xs ys k).length ≤ 1048576 := by have := ThenTo_length xs ys k; omega
      clear hv hu hcell hcell' hk1 hk2 hj hin
      go_wp2_with (at_builtin; refine wpList_app1 Try.intSl rfl _ _ rfl _ (ThenTo xs ys k) rfl (ho.alloc _) w.heap.size hf wr.heap.size xs[j] rfl ?c1 w (hbr.alloc hbr.size _) ?c2 hlen ?_)
      case c1 => simp [go_sem]
      case c2 => simp; exact Nat.le_succ_of_le hbr.size
      intro v' w1 ho' hf' hb' _
      rw [HS.out] at ho'
      clear HS ho hf hbr hc1 hc2
      go_wp2
      go_roundw
      case rel => exact ⟨k + 1, by omega, by go_num, ho', hf', hb'⟩
      case measure => simp [intOf] <;> omega
    · obtain rfl : k = ys.length := by omega
      have he : ThenTo xs ys ys.length = thenL xs ys := by unfold ThenTo; rw [List.take_of_length_le (by simp [thenL])]
      rw [he] at ho
      clear hv hu he
      go_wp2
      go_ret
      exact ⟨_, rfl, ho, hf, hbr⟩

end Go.Proofs.Ytdlnniciccpchaa
