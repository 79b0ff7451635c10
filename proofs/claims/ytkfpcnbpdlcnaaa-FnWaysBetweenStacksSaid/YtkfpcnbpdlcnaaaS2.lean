import Derived.Test.YtkfpcnbpdlcnaaaS1
import Derived.Test.YtkfpcnbpdlcnaaaLib2
import Derived.Outline
namespace Go.Proofs.Ytkfpcnbpdlcnaaa
open Go Go.RowKit Go.Pan

theorem Try.intSl : IntSl Try.prog 24 3 := by
  obtain ⟨i0, hi, hz0, hz1, hz2⟩ := info_parts Try.info3
  exact ⟨Try.underlying24, i0, hi, hz0, hz1, hz2⟩

theorem mem_take_bd {xs : List Int} {k : Nat} {lo hi : Int} (hlt : k < xs.length) (h : ∀ x ∈ xs.take k, lo ≤ x ∧ x ≤ hi) (h2 : lo ≤ xs[k] ∧ xs[k] ≤ hi) : ∀ x ∈ xs.take (k + 1), lo ≤ x ∧ x ≤ hi := by
  rw [List.take_succ_eq_append_getElem hlt]
  intro x hx
  simp only [List.mem_append, List.mem_singleton] at hx
  rcases hx with hx | rfl
  · exact h x hx
  · exact h2
def AllTo (xs : List Int) (k : Nat) (lo hi : Int) : Prop := ∀ x ∈ xs.take k, lo ≤ x ∧ x ≤ hi

theorem planB_eq (n : Int) (p : List Int) : planB n p = (inB n 1 9 && decide ((p.length : Int) ≤ 40) && allB p 1 n) := by
  rw [Bool.eq_iff_iff]
  simp only [planB_iff, Bool.and_eq_true, inB_iff, allB_iff, decide_eq_true_eq, Plan]
  constructor
  · rintro ⟨h1, h2, h3⟩; exact ⟨⟨h1, by omega⟩, h3⟩
  · rintro ⟨⟨h1, h2⟩, h3⟩; exact ⟨h1, by omega, h3⟩

def SortedTo (xs : List Int) (k : Nat) : Prop := ∀ i, i + 1 < k → xs.getD i 0 ≤ xs.getD (i + 1) 0

set_option maxHeartbeats 400000 in
theorem l1Own_any (v : Value) (xs : List Int) (w : World) (hv : OwnI w v xs) (hn : xs.length ≤ 1048576) :
    Calls Try.prog 55 #[v] w fun e w' => ∃ r, e = .returned r ∧ OwnI w' r xs ∧ From w.heap.size r ∧ Below w.heap.size w w' := by
  obtain ⟨ad, cap, rfl, hc, _, _⟩ := hv.shape
  have hs := Own.src hv
  go_enter Try.func55, Try.ntmps55
  go_wp2_with (at_builtin; refine wpList_appI Try.intSl rfl _ _ rfl (.slice (some ⟨w.heap.size, 0, none⟩) 0 0) [] rfl (OwnI.lit w _ [] 0 rfl (by simp) _ rfl) w.heap.size (From.at _ _ _ _ _ (Nat.le_refl _)) ad xs.length cap xs rfl rfl (hs.alloc _) w (below_new w _) (by simp) (by simp) hn ?_)
  intro v' w1 ho hf hb _
  go_wp2
  go_ret
  exact ⟨_, rfl, by simpa using ho, hf, hb⟩

theorem turnTo_step (xs : List Int) (k j : Nat) (hk : k ≤ xs.length) (hj : j < k) (x : Int) (hx : x = xs[k - 1 - j]'(by omega)) : ((xs.take k).reverse.take j) ++ [x] = (xs.take k).reverse.take (j + 1) := by
  rw [List.take_succ_eq_append_getElem (by simp; omega), List.getElem_reverse, hx]
  congr 2
  rw [List.getElem_take]
  congr 1
  simp
  omega

set_option maxHeartbeats 400000 in
theorem stTurn_any (v : Value) (xs : List Int) (k : Nat) (w : World) (hv : OwnI w v xs) (hn : xs.length ≤ 1048576) (hk : k ≤ xs.length) :
    Calls Try.prog 61 #[v, .int .i64 k] w fun e w' => ∃ r, e = .returned r ∧ OwnI w' r (turnL xs k) ∧ From w.heap.size r ∧ Below w.heap.size w w' := by
  obtain ⟨ad, cap, rfl, hc, _, _⟩ := hv.shape
  go_enter Try.func61, Try.ntmps61
  go_wp2
  go_loopw [5, 6] (fun o i wr => ∃ j : Nat, j ≤ k ∧ i = .int .i64 ((k : Int) - 1 - j) ∧ OwnI wr o ((xs.take k).reverse.take j) ∧ From w.heap.size o ∧ Below w.heap.size w wr) (fun _ i _ => (intOf i + 1).toNat)
  case atStart => exact ⟨0, Nat.zero_le _, by go_num, by simpa using OwnI.nil w, From.nil _ _ _, Below.refl _ _⟩
  case round =>
    obtain ⟨j, hj, rfl, ho, hf, hbr⟩ := hrel
    have hso := hv.below hbr (Nat.le_refl _)
    by_cases hlt : j < k
    · obtain ⟨g, off, rfl, hgl, hcell, hfz⟩ := hso.at (by omega)
      obtain ⟨m, hm⟩ : ∃ m : Nat, m = k - 1 - j := ⟨_, rfl⟩
      have hmi : (k : Int) - 1 - j = (m : Int) := by omega
      have hml : m < xs.length := by omega
      have hck := hcell m (by omega)
      rw [List.getElem?_map, List.getElem?_eq_getElem hml] at hck
      have HS := Lib.hid (turnTo_step xs k j hk hlt xs[m] (by subst hm; rfl))
      have HM := Lib.hid hmi
      have hlen : ((xs.take k).reverse.take j).length ≤ 1048576 := by rw [List.length_take]; omega
      rw [hmi]
      have hmk : m < k := by omega
      clear hcell hfz hv hso hmi hm
      go_wp2_with (at_builtin; go_loud (refine wpList_app1 Try.intSl rfl _ _ rfl _ ((xs.take k).reverse.take j) rfl (ho.alloc _) w.heap.size hf wr.heap.size xs[m] rfl ?c1 w (hbr.alloc hbr.size _) ?c2 hlen ?_))
      case c1 => simp [go_sem]
      case c2 => simp; exact Nat.le_succ_of_le hbr.size
      intro v' w1 ho' hf' hb' _
      rw [HS.out] at ho'
      clear HS ho hf hbr hck
      go_wp2
      go_roundw
      case rel => exact ⟨j + 1, by omega, by have := HM.out; go_num, ho', hf', hb'⟩
      case measure => simp [intOf] <;> omega
    · obtain rfl : j = k := by omega
      have HE := Lib.hid (show ((xs.take j).reverse.take j) ++ xs.drop j = turnL xs j by rw [List.take_of_length_le (by simp; omega)]; rfl)
      have hl1 : ((xs.take j).reverse.take j).length ≤ 1048576 := by simp; omega
      have hl2 : (xs.drop j).length ≤ 1048576 := by simp; omega
      clear hv
      go_wp2_with (first | (refine wpList_from Try.intSl rfl _ _ rfl ad xs.length cap j rfl rfl hk xs rfl hso ?_; intro sp m c hm hod hsrc _) | (at_builtin; refine wpList_appI Try.intSl rfl _ _ rfl _ _ rfl ho w.heap.size hf sp m c (xs.drop j) rfl hm.out hsrc w hbr hbr.size hl1 hl2 ?_))
      intro v' w1 ho' hf' hb' _
      rw [HE.out] at ho'
      go_wp2
      go_ret
      exact ⟨_, rfl, ho', hf', hb'⟩

def PlayTo (xs p : List Int) (k : Nat) : List Int := playL xs (p.take k)
theorem PlayTo_length (xs p : List Int) (k : Nat) : (PlayTo xs p k).length = xs.length := playL_length _ _
theorem PlayTo_step (xs p : List Int) (k : Nat) (h : k < p.length) (j : Nat) (hj : p[k] = (j : Int)) : turnL (PlayTo xs p k) j = PlayTo xs p (k + 1) := by
  unfold PlayTo
  rw [playL_take_succ xs p k h, hj]
  simp

end Go.Proofs.Ytkfpcnbpdlcnaaa

