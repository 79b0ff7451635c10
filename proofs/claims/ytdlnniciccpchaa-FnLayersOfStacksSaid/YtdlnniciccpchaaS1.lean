import Derived.Test.YtdlnniciccpchaaH
import Derived.Test.YtdlnniciccpchaaM3
namespace Go.Proofs.Ytdlnniciccpchaa
open Go Go.RowKit Go.Pan

theorem l1In_any (n lo hi : Int) (w : World) :
    Calls Try.prog 60 #[.int .i64 n, .int .i64 lo, .int .i64 hi] w fun e w' => e = .returned (.bool (inB n lo hi)) ∧ w = w' := by
  go_enter Try.func60, Try.ntmps60
  by_cases h : lo ≤ n
  · go_wp2
    go_ret
    exact ⟨by simp [inB, h], rfl⟩
  · go_wp2
    go_ret
    exact ⟨by simp only [inB, decide_eq_false (show ¬ lo ≤ n from by omega)]; rfl, rfl⟩

theorem not_mem_take {xs : List Int} {k : Nat} (h : k < xs.length) {x : Int} (h1 : x ∉ xs.take k) (h2 : xs[k] ≠ x) : x ∉ xs.take (k + 1) := by
  rw [List.take_succ_eq_append_getElem h, List.mem_append, List.mem_singleton]
  rintro (e | e)
  · exact h1 e
  · exact h2 e.symm

set_option maxHeartbeats 400000 in
theorem l1Has_any (v : Value) (xs : List Int) (x : Int) (w : World) (hv : OwnI w v xs) (hn : xs.length ≤ 1048576) :
    Calls Try.prog 97 #[v, .int .i64 x] w fun e w' => e = .returned (.bool (decide (x ∈ xs))) ∧ Below w.heap.size w w' := by
  obtain ⟨ad, cap, rfl, hc, _, _⟩ := hv.shape
  go_enter Try.func97, Try.ntmps97
  go_wp2
  go_loopw [9] (fun i wr => ∃ k : Nat, k ≤ xs.length ∧ i = .int .i64 k ∧ x ∉ xs.take k ∧ Below w.heap.size w wr) (fun i _ => xs.length - (intOf i).toNat)
  case atStart => exact ⟨0, Nat.zero_le _, rfl, by simp, Below.refl _ _⟩
  case round =>
    obtain ⟨k, hk, rfl, hx, hbr⟩ := hrel
    have HX := Lib.hid hx
    clear hx
    by_cases hlt : k < xs.length
    · obtain ⟨g, off, rfl, hgl, hcell, hf⟩ := hv.at (by omega)
      have hck := hcell k (by omega)
      rw [List.getElem?_map, List.getElem?_eq_getElem hlt] at hck
      have hc1 := (hbr.cell (p := ⟨g, off + k, none⟩) hgl).trans hck
      clear hcell hf hck hv
      by_cases he : xs[k] = x
      · have hq : ((xs[k] : Int) == x) = true := by simp [he]
        have HE := Lib.hid he
        clear he
        go_wp2
        go_ret
        exact ⟨by rw [show decide (x ∈ xs) = true from decide_eq_true (by rw [← HE.out]; exact List.getElem_mem hlt)]; rfl, hbr⟩
      · have hq : ((xs[k] : Int) == x) = false := by simp [he]
        have HE := Lib.hid he
        clear he
        go_wp2
        go_roundw
        case rel => exact ⟨k + 1, by omega, by go_num, not_mem_take hlt HX.out HE.out, hbr⟩
        case measure => simp [intOf]; omega
    · obtain rfl : k = xs.length := by omega
      clear hv
      go_wp2
      go_ret
      exact ⟨by rw [show decide (x ∈ xs) = false from decide_eq_false (by have := HX.out; rwa [List.take_length] at this)]; rfl, hbr⟩

def GoodTo (xs : List Int) (k : Nat) : Prop := (∀ x ∈ xs.take k, 1 ≤ x ∧ x ≤ xs.length) ∧ (xs.take k).Nodup

theorem good_step {xs : List Int} {k : Nat} (hlt : k < xs.length) (h : GoodTo xs k) (h1 : 1 ≤ xs[k]) (h2 : xs[k] ≤ xs.length) (h3 : xs[k] ∉ xs.take k) : GoodTo xs (k + 1) := by
  unfold GoodTo
  rw [List.take_succ_eq_append_getElem hlt]
  refine ⟨?_, ?_⟩
  · intro x hx
    simp only [List.mem_append, List.mem_singleton] at hx
    rcases hx with hx | rfl
    · exact h.1 x hx
    · exact ⟨h1, h2⟩
  · rw [List.nodup_append]
    refine ⟨h.2, by simp, ?_⟩
    intro a ha b hb
    simp at hb
    subst hb
    exact fun e => h3 (e ▸ ha)

theorem not_good_at {xs : List Int} {k : Nat} (hlt : k < xs.length) (h : ¬ (1 ≤ xs[k] ∧ xs[k] ≤ xs.length) ∨ xs[k] ∈ xs.take k) : goodB xs = false := by
  refine decide_eq_false fun hg => ?_
  rcases h with h | h
  · exact h (hg.2.2.1 _ (List.getElem_mem hlt))
  · have hnd := hg.2.2.2
    obtain ⟨i, hi, he⟩ := List.mem_take_iff_getElem.1 h
    exact (List.pairwise_iff_getElem.1 hnd) i k (by omega) hlt (by omega) he

set_option maxHeartbeats 800000 in
theorem stGood_any (v : Value) (xs : List Int) (w : World) (hv : OwnI w v xs) (hn : xs.length ≤ 1048576) :
    Calls Try.prog 86 #[v] w fun e w' => e = .returned (.bool (goodB xs)) ∧ Below w.heap.size w w' := by
  obtain ⟨ad, cap, rfl, hc, hcm, _⟩ := hv.shape
  by_cases h19 : 1 ≤ xs.length ∧ xs.length ≤ 9
  · have hin : inB xs.length 1 9 = true := by simp [inB]; omega
    go_enter Try.func86, Try.ntmps86
    go_wp2_with (go_at_call 60; refine (l1In_any _ _ _ _).mono ?_; rintro e w' ⟨rfl, rfl⟩)
    go_loopw [11] (fun i wr => ∃ k : Nat, k ≤ xs.length ∧ i = .int .i64 k ∧ GoodTo xs k ∧ Below w.heap.size w wr) (fun i _ => xs.length - (intOf i).toNat)
    case atStart => exact ⟨0, Nat.zero_le _, rfl, by simp [GoodTo], Below.refl _ _⟩
    case round =>
      obtain ⟨k, hk, rfl, hgt, hbr⟩ := hrel
      have HG := Lib.hid hgt
      clear hgt
      by_cases hlt : k < xs.length
      · obtain ⟨g, off, rfl, hgl, hcell, hf⟩ := hv.at (by omega)
        have hck := hcell k (by omega)
        rw [List.getElem?_map, List.getElem?_eq_getElem hlt] at hck
        have hc1 := (hbr.cell (p := ⟨g, off + k, none⟩) hgl).trans hck
        have ht := OwnI.take (hv.below hbr (Nat.le_refl _)) (Nat.le_of_lt hlt)
        have hts : (xs.take k).length ≤ 1048576 := by rw [List.length_take]; omega
        clear hcell hf hck hv
        by_cases hb : 1 ≤ xs[k] ∧ xs[k] ≤ xs.length
        · have hib : inB xs[k] 1 xs.length = true := by simp [inB]; exact hb
          by_cases hm : xs[k] ∈ xs.take k
          · have hdm : decide (xs[k] ∈ xs.take k) = true := decide_eq_true hm
            have HM := Lib.hid hm
            clear hm
            go_wp2_with (first | (go_at_call 60; refine (l1In_any _ _ _ _).mono ?_; rintro e w' ⟨rfl, rfl⟩) | (go_at_call 97; refine (l1Has_any _ _ _ _ ht hts).mono ?_; rintro e w' ⟨rfl, hb2⟩))
            go_ret
            exact ⟨by rw [not_good_at hlt (.inr HM.out)]; rfl, hbr.trans (hb2.mono hbr.size)⟩
          · have hdm : decide (xs[k] ∈ xs.take k) = false := decide_eq_false hm
            have HM := Lib.hid hm
            clear hm
            go_wp2_with (first | (go_at_call 60; refine (l1In_any _ _ _ _).mono ?_; rintro e w' ⟨rfl, rfl⟩) | (go_at_call 97; refine (l1Has_any _ _ _ _ ht hts).mono ?_; rintro e w' ⟨rfl, hb2⟩))
            go_roundw
            case rel => exact ⟨k + 1, by omega, by go_num, good_step hlt HG.out hb.1 hb.2 HM.out, hbr.trans (hb2.mono hbr.size)⟩
            case measure => simp [intOf]; omega
        · have hib : inB xs[k] 1 xs.length = false := by simp [inB]; omega
          have HB := Lib.hid hb
          clear hb
          go_wp2_with (first | (go_at_call 60; refine (l1In_any _ _ _ _).mono ?_; rintro e w' ⟨rfl, rfl⟩))
          go_ret
          exact ⟨by rw [not_good_at hlt (.inl HB.out)]; rfl, hbr⟩
      · obtain rfl : k = xs.length := by omega
        clear hv
        go_wp2
        go_ret
        have hg := HG.out
        unfold GoodTo at hg
        rw [List.take_length] at hg
        exact ⟨by rw [show goodB xs = true from decide_eq_true ⟨h19.1, h19.2, hg.1, hg.2⟩]; rfl, hbr⟩
  · have hin : inB xs.length 1 9 = false := by simp [inB]; omega
    go_enter Try.func86, Try.ntmps86
    go_wp2_with (go_at_call 60; refine (l1In_any _ _ _ _).mono ?_; rintro e w' ⟨rfl, rfl⟩)
    go_ret
    exact ⟨by rw [show goodB xs = false from decide_eq_false fun h => h19 ⟨h.1, h.2.1⟩]; rfl, Below.refl _ _⟩

end Go.Proofs.Ytdlnniciccpchaa

