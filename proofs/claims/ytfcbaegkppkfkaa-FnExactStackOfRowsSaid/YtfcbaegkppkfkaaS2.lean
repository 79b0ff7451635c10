import Derived.Test.YtfcbaegkppkfkaaS1
import Derived.Test.YtfcbaegkppkfkaaLib2
import Derived.Outline
namespace Go.Proofs.Ytfcbaegkppkfkaa
open Go Go.RowKit Go.Pan

theorem Try.intSl : IntSl Try.prog 22 3 := by
  obtain ⟨i0, hi, hz0, hz1, hz2⟩ := info_parts Try.info3
  exact ⟨Try.underlying22, i0, hi, hz0, hz1, hz2⟩

theorem mem_take_bd {xs : List Int} {k : Nat} {lo hi : Int} (hlt : k < xs.length) (h : ∀ x ∈ xs.take k, lo ≤ x ∧ x ≤ hi) (h2 : lo ≤ xs[k] ∧ xs[k] ≤ hi) : ∀ x ∈ xs.take (k + 1), lo ≤ x ∧ x ≤ hi := by
  rw [List.take_succ_eq_append_getElem hlt]
  intro x hx
  simp only [List.mem_append, List.mem_singleton] at hx
  rcases hx with hx | rfl
  · exact h x hx
  · exact h2
def AllTo (xs : List Int) (k : Nat) (lo hi : Int) : Prop := ∀ x ∈ xs.take k, lo ≤ x ∧ x ≤ hi

set_option maxHeartbeats 400000 in
theorem l1All_any (v : Value) (xs : List Int) (lo hi : Int) (w : World) (hv : OwnI w v xs) (hn : xs.length ≤ 1048576) :
    Calls Try.prog 63 #[v, .int .i64 lo, .int .i64 hi] w fun e w' => e = .returned (.bool (allB xs lo hi)) ∧ Below w.heap.size w w' := by
  obtain ⟨ad, cap, rfl, hc, _, _⟩ := hv.shape
  go_enter Try.func63, Try.ntmps63
  go_wp2
  go_loopw [11] (fun i wr => ∃ k : Nat, k ≤ xs.length ∧ i = .int .i64 k ∧ AllTo xs k lo hi ∧ Below w.heap.size w wr) (fun i _ => xs.length - (intOf i).toNat)
  case atStart => exact ⟨0, Nat.zero_le _, rfl, by simp [AllTo], Below.refl _ _⟩
  case round =>
    obtain ⟨k, hk, rfl, hx, hbr⟩ := hrel
    have HX := Lib.hid hx
    clear hx
    by_cases hlt : k < xs.length
    · obtain ⟨g, off, rfl, hgl, hcell, hf⟩ := hv.at (by omega)
      have hck := hcell k (by omega)
      rw [List.getElem?_map, List.getElem?_eq_getElem hlt] at hck
      have hc1 := (hbr.cell (p := ⟨g, off + k, none⟩) hgl).trans hck
      clear hcell hf hck hv
      by_cases he : lo ≤ xs[k] ∧ xs[k] ≤ hi
      · have hq : inB xs[k] lo hi = true := inB_true he
        have HE := Lib.hid he
        clear he
        go_wp2_with (go_at_call 47; refine (l1In_any _ _ _ _).mono ?_; rintro e w' ⟨rfl, rfl⟩)
        go_roundw
        case rel => exact ⟨k + 1, by omega, by go_num, mem_take_bd hlt HX.out HE.out, hbr⟩
        case measure => simp [intOf] <;> omega
      · have hq : inB xs[k] lo hi = false := inB_false he
        have HE := Lib.hid he
        clear he
        go_wp2_with (go_at_call 47; refine (l1In_any _ _ _ _).mono ?_; rintro e w' ⟨rfl, rfl⟩)
        go_ret
        refine ⟨?_, hbr⟩
        rw [show allB xs lo hi = false from decide_eq_false fun h => HE.out (h _ (List.getElem_mem hlt))]
        rfl
    · obtain rfl : k = xs.length := by omega
      clear hv
      go_wp2
      go_ret
      refine ⟨?_, hbr⟩
      have h := HX.out
      unfold AllTo at h
      rw [List.take_length] at h
      rw [show allB xs lo hi = true from allB_iff.2 h]
      rfl

theorem planB_eq (n : Int) (p : List Int) : planB n p = (inB n 1 9 && decide ((p.length : Int) ≤ 40) && allB p 1 n) := by
  rw [Bool.eq_iff_iff]
  simp only [planB_iff, Bool.and_eq_true, inB_iff, allB_iff, decide_eq_true_eq, Plan]
  constructor
  · rintro ⟨h1, h2, h3⟩; exact ⟨⟨h1, by omega⟩, h3⟩
  · rintro ⟨⟨h1, h2⟩, h3⟩; exact ⟨h1, by omega, h3⟩

def SortedTo (xs : List Int) (k : Nat) : Prop := ∀ i, i + 1 < k → xs.getD i 0 ≤ xs.getD (i + 1) 0

set_option maxHeartbeats 400000 in
theorem l1Own_any (v : Value) (xs : List Int) (w : World) (hv : OwnI w v xs) (hn : xs.length ≤ 1048576) :
    Calls Try.prog 37 #[v] w fun e w' => ∃ r, e = .returned r ∧ OwnI w' r xs ∧ From w.heap.size r ∧ Below w.heap.size w w' := by
  obtain ⟨ad, cap, rfl, hc, _, _⟩ := hv.shape
  have hs := Own.src hv
  go_enter Try.func37, Try.ntmps37
  go_wp2_with (at_builtin; refine wpList_appI Try.intSl rfl _ _ rfl (.slice (some ⟨w.heap.size, 0, none⟩) 0 0) [] rfl (OwnI.lit w _ [] 0 rfl (by simp) _ rfl) w.heap.size (From.at _ _ _ _ _ (Nat.le_refl _)) ad xs.length cap xs rfl rfl (hs.alloc _) w (below_new w _) (by simp) (by simp) hn ?_)
  intro v' w1 ho hf hb _
  go_wp2
  go_ret
  exact ⟨_, rfl, by simpa using ho, hf, hb⟩

theorem turnTo_step (xs : List Int) (k j : Nat) (hk : k ≤ xs.length) (hj : j < k) (x : Int) (hx : x = xs[k - 1 - j]'(by omega)) : ((xs.take k).reverse.take j) ++ [x] = (xs.take k).reverse.take (j + 1) := by
  rw [List.take_succ_eq_append_getElem (by simp; omega), List.getElem_reverse, hx]
  congr 2
  rw [List.getElem_take]
  congr 1
  simp
  omega

def PlayTo (xs p : List Int) (k : Nat) : List Int := playL xs (p.take k)
theorem PlayTo_length (xs p : List Int) (k : Nat) : (PlayTo xs p k).length = xs.length := playL_length _ _
theorem PlayTo_step (xs p : List Int) (k : Nat) (h : k < p.length) (j : Nat) (hj : p[k] = (j : Int)) : turnL (PlayTo xs p k) j = PlayTo xs p (k + 1) := by
  unfold PlayTo
  rw [playL_take_succ xs p k h, hj]
  simp

end Go.Proofs.Ytfcbaegkppkfkaa

