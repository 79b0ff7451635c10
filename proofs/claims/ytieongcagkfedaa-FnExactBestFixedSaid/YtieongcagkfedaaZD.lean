import Derived.Test.YtieongcagkfedaaZA
namespace Go.Proofs.Ytieongcagkfedaa
open Go Go.RowKit Go.Pan

-- the program's AreAsked: slices.ContainsFunc over a closure
def IdxQ (L : List Int) (pr : Int → Bool) (i : Int) : Prop := if L.any pr = true then 0 ≤ i else i = -1
def NoneTo (L : List Int) (pr : Int → Bool) (k : Nat) : Prop := ∀ x ∈ L.take k, pr x = false

set_option maxHeartbeats 800000 in
theorem idxNoBook_any (v : Value) (L : List Int) (pr : Int → Bool) (p0 : Value) (w : World) (hv : OwnI w v L) (hn : L.length ≤ 1048576)
    (hF : Hid (∀ x : Int, Calls Try.prog 75 #[.int .i64 x, p0] w fun r W' => r = .returned (.bool (pr x)) ∧ w = W')) :
    Calls Try.prog 127 #[v, .func (Fn.func 75) #[] #[p0]] w fun e w' => ∃ i : Int, e = .returned (.int .i64 i) ∧ IdxQ L pr i ∧ w = w' := by
  obtain ⟨ad, cap, rfl, hc, _, _⟩ := hv.shape
  go_enter Try.func127, Try.ntmps127
  go_wp2
  go_loopw [5, 8] (fun _ i wr => ∃ k : Nat, k ≤ L.length ∧ i = .int .i64 k ∧ Hid (NoneTo L pr k) ∧ wr = w) (fun _ i _ => L.length - (intOf i).toNat)
  case atStart => exact ⟨0, Nat.zero_le _, rfl, Lib.hid (fun x hx => by simp at hx), rfl⟩
  case round =>
    obtain ⟨k, hk, rfl, HX, rfl⟩ := hrel
    by_cases hlt : k < L.length
    · obtain ⟨g, off, rfl, hgl, hcell, hf⟩ := hv.at (by omega)
      have hck := hcell k (by omega)
      rw [List.getElem?_map, List.getElem?_eq_getElem hlt] at hck
      obtain ⟨x, hx⟩ : ∃ x, L[k] = x := ⟨_, rfl⟩
      rw [hx] at hck
      have cF := hF.out x
      clear hcell hf hv
      cases hp : pr x with
      | true =>
        rw [hp] at cF
        have HQ := Lib.hid (show IdxQ L pr k by
          unfold IdxQ
          rw [if_pos (List.any_eq_true.2 ⟨x, by rw [← hx]; exact List.getElem_mem hlt, hp⟩)]
          omega)
        clear hp hx
        go_wp2_with fail
        refine cF.mono ?_
        rintro e w2 ⟨rfl, rfl⟩
        clear cF
        go_wp2
        go_ret
        exact ⟨_, rfl, HQ.out, rfl⟩
      | false =>
        rw [hp] at cF
        have HX2 := Lib.hid (show NoneTo L pr (k + 1) by
          unfold NoneTo
          rw [List.take_succ_eq_append_getElem hlt]
          intro y hy
          rw [List.mem_append, List.mem_singleton] at hy
          rcases hy with hy | rfl
          · exact HX.out y hy
          · rw [hx]; exact hp)
        clear hp hx
        go_wp2_with fail
        refine cF.mono ?_
        rintro e w2 ⟨rfl, rfl⟩
        clear cF
        go_wp2
        go_roundw
        case rel => exact ⟨k + 1, by omega, by go_num, HX2, by first | rfl | trivial⟩
        case measure => simp [intOf] <;> omega
    · obtain rfl : k = L.length := by omega
      have HQ := Lib.hid (show IdxQ L pr (-1) by
        unfold IdxQ
        have h := HX.out
        unfold NoneTo at h
        rw [List.take_length] at h
        rw [if_neg (by rw [List.any_eq_true]; rintro ⟨x, hx, hp⟩; rw [h x hx] at hp; cases hp)])
      clear hv
      go_wp2
      go_ret
      exact ⟨_, rfl, HQ.out, rfl⟩

theorem hasNoBook_any (v : Value) (L : List Int) (pr : Int → Bool) (p0 : Value) (w : World) (hv : OwnI w v L) (hn : L.length ≤ 1048576)
    (hF : Hid (∀ x : Int, Calls Try.prog 75 #[.int .i64 x, p0] w fun r W' => r = .returned (.bool (pr x)) ∧ w = W')) :
    Calls Try.prog 76 #[v, .func (Fn.func 75) #[] #[p0]] w fun e w' => e = .returned (.bool (L.any pr)) ∧ w = w' := by
  go_enter Try.func76, Try.ntmps76
  go_wp2_with fail
  refine (idxNoBook_any _ L pr p0 _ hv hn hF).mono ?_
  rintro e w1 ⟨i, rfl, hi, rfl⟩
  have HI := Lib.hid hi
  clear hi
  go_wp2
  go_ret
  refine ⟨?_, rfl⟩
  have h := HI.out
  unfold IdxQ at h
  cases hm : L.any pr with
  | true =>
    rw [if_pos hm] at h
    simp [h]
  | false =>
    rw [if_neg (by rw [hm]; exact Bool.false_ne_true)] at h
    simp [h]

set_option maxHeartbeats 400000 in
theorem noBook_any (x : Int) (b : Nat) (ad : Option Addr) (n cap : Nat) (w : World) (hb : w.cell? ⟨b, 0, none⟩ = some (.slice ad n cap)) :
    Calls Try.prog 75 #[.int .i64 x, .pointer (some ⟨b, 0, none⟩)] w fun r w' => r = .returned (.bool (!inB x 1 n)) ∧ w = w' := by
  by_cases h1 : x < 1
  · have HR := Lib.hid (show (!inB x 1 n) = true by rw [inB_false (by omega)]; rfl)
    go_enter Try.func75, Try.ntmps75
    go_wp2
    go_ret
    exact ⟨by rw [HR.out]; rfl, rfl⟩
  · by_cases h2 : (n : Int) < x
    · have HR := Lib.hid (show (!inB x 1 n) = true by rw [inB_false (by omega)]; rfl)
      go_enter Try.func75, Try.ntmps75
      go_wp2
      go_ret
      exact ⟨by rw [HR.out]; rfl, rfl⟩
    · have HR := Lib.hid (show (!inB x 1 n) = false by rw [inB_true (by omega)]; rfl)
      go_enter Try.func75, Try.ntmps75
      go_wp2
      go_ret
      exact ⟨by rw [HR.out]; rfl, rfl⟩

theorem any_noBook (L : List Int) (n : Int) : (!(L.any fun x => !inB x 1 n)) = allB L 1 n := by
  rw [Bool.eq_iff_iff, allB_iff, Bool.not_eq_true', ← Bool.not_eq_true, List.any_eq_true]
  constructor
  · intro h k hk
    have h2 : ¬ (!inB k 1 n) = true := fun e => h ⟨k, hk, e⟩
    cases hq : inB k 1 n with
    | true => exact inB_iff.1 hq
    | false => rw [hq] at h2; exact absurd rfl h2
  · rintro h ⟨k, hk, e⟩
    rw [inB_true (h k hk)] at e
    cases e

set_option maxHeartbeats 800000 in
theorem AreAsked_any (v : Value) (xs : List Int) (u : Value) (ys : List Int) (w : World) (hv : OwnI w v xs) (hn : xs.length ≤ 1048576) (hu : OwnI w u ys) (hm : ys.length ≤ 1048576) :
    Calls Try.prog 25 #[v, u] w fun e w' => e = .returned (.tuple #[.bool (mAreAsked xs ys), .bool (goodB xs)]) ∧ Below w.heap.size w w' := by
  obtain ⟨ad, cap, rfl, hc, _, _⟩ := hv.shape
  obtain ⟨bd, cbp, rfl, hc', _, _⟩ := hu.shape
  obtain ⟨W, hW⟩ : ∃ W, W = w.alloc (.cells #[.slice ad xs.length cap] 22) := ⟨_, rfl⟩
  have hz : Blk W w.heap.size 22 [.slice ad xs.length cap] := by rw [hW]; exact Blk.new w _ _ _ rfl
  have hbW : Below w.heap.size w W := by rw [hW]; exact below_new w _
  have hvW := hv.same hbW
  have huW := hu.same hbW
  have hcW : W.cell? ⟨w.heap.size, 0, none⟩ = some (.slice ad xs.length cap) := hz.cell 0
  have cI := IsStack_any _ xs W hvW hn
  have HW := Lib.hid hW
  have hzl := hz.lt
  clear hW hz hv hu hvW
  cases hg : goodB xs with
  | true =>
    rw [hg] at cI
    go_enter Try.func25, Try.ntmps25
    go_wp2_with fail
    rw [← HW.out]
    go_wp2_with fail
    refine cI.mono ?_
    rintro e w1 ⟨rfl, hb1⟩
    have hu1 := huW.same hb1
    have hc1 := (hb1.cell (p := ⟨w.heap.size, 0, none⟩) hzl).trans hcW
    have hB1 := hbW.trans (hb1.mono hbW.size)
    clear cI hb1 huW hcW hbW
    by_cases h2 : (ys.length : Int) ≤ 60
    · have HA := Lib.hid (show mAreAsked xs ys = allB ys 1 xs.length by unfold mAreAsked askB; rw [hg, decide_eq_true h2]; rfl)
      have cH := hasNoBook_any _ ys (fun x => !inB x 1 xs.length) (.pointer (some ⟨w.heap.size, 0, none⟩)) w1 hu1 hm (Lib.hid fun x => noBook_any x w.heap.size ad xs.length cap w1 hc1)
      have HE := Lib.hid (any_noBook ys xs.length)
      obtain ⟨t, ht⟩ : ∃ t, (ys.any fun x => !inB x 1 xs.length) = t := ⟨_, rfl⟩
      rw [ht] at cH HE
      clear hg ht
      go_wp2_with fail
      refine cH.mono ?_
      rintro e w2 ⟨rfl, rfl⟩
      clear cH
      go_wp2
      go_ret2
      exact ⟨by rw [HA.out, ← HE.out]; rfl, hB1⟩
    · have HA := Lib.hid (show mAreAsked xs ys = false by unfold mAreAsked askB; rw [hg, decide_eq_false h2]; rfl)
      clear hg
      go_wp2
      go_ret2
      exact ⟨by rw [HA.out]; rfl, hB1⟩
  | false =>
    rw [hg] at cI
    have HA := Lib.hid (show mAreAsked xs ys = false by unfold mAreAsked askB; rw [hg]; rfl)
    clear hg
    go_enter Try.func25, Try.ntmps25
    go_wp2_with fail
    rw [← HW.out]
    go_wp2_with fail
    refine cI.mono ?_
    rintro e w1 ⟨rfl, hb1⟩
    have hB1 := hbW.trans (hb1.mono hbW.size)
    clear cI hb1 huW hcW hbW
    go_wp2
    go_ret2
    exact ⟨by rw [HA.out]; rfl, hB1⟩

end Go.Proofs.Ytieongcagkfedaa
