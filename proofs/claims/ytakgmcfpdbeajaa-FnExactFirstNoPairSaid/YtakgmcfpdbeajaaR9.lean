import Derived.Test.YtakgmcfpdbeajaaR8
import Derived.Test.YtakgmcfpdbeajaaS20
namespace Go.Proofs.Ytakgmcfpdbeajaa
open Go Go.RowKit Go.Pan Go.Shelf

attribute [local go_sem] Oper.semAt_some

theorem growB_no (bs : List Int) (x : Int) : growB noPairB bs x = mayB bs x := by
  unfold growB mayB
  by_cases hx : x ∈ bs
  · simp [hx]
  · by_cases hb : bs = []
    · simp [hb]
    · have hl : bs.getLastD 0 ∈ bs := by
        rw [List.getLastD_eq_getLast?, List.getLast?_eq_some_getLast hb]
        exact List.getLast_mem hb
      have hne : bs.getLastD 0 ≠ x := fun e => hx (e ▸ hl)
      rw [← abs_pair _ _ hne, decide_eq_false hx, decide_eq_false hb]
      simp only [Bool.not_false, Bool.true_and, Bool.false_or]
      by_cases h1 : absI (bs.getLastD 0 - x) ≤ 1
      · rw [decide_eq_true h1, decide_eq_false (by omega)]; rfl
      · rw [decide_eq_false h1, decide_eq_true (by omega)]; rfl
theorem growL_no (n : Nat) : ∀ (f : Nat) (bs : List Int), growL noPairB n f bs = lookL n f bs
  | 0, _ => rfl
  | f + 1, bs => by
    have h1 : gmayTo noPairB bs n = mayTo bs n := by
      unfold gmayTo mayTo
      congr 1
      funext x
      exact growB_no bs x
    rw [growL, lookL, h1]
    congr 1
    funext x
    exact growL_no n f _

theorem no_calls : Hid (∀ (a b : Int) (u : World), -1048576 ≤ a → a ≤ 1048576 → -1048576 ≤ b → b ≤ 1048576 → Calls Try.prog 68 #[.int .i64 a, .int .i64 b] u fun e w' => e = .returned (.bool (noPairB a b)) ∧ u = w') :=
  Lib.hid fun a b u h1 h2 h3 h4 => areNoPair_any a b u h1 h2 h3 h4

set_option maxRecDepth 100000 in
set_option maxHeartbeats 4000000 in
theorem CountNoPairs_any (n : Int) (w : World) :
    Calls Try.prog 22 #[.int .i64 n] w fun e w' => e = .returned (.tuple #[.int .i64 (mCountNoPairs n), .bool (inB n 1 9)]) ∧ Below w.heap.size w w' := by
  cases hi : inB n 1 9 with
  | true =>
    obtain ⟨m, hm⟩ : ∃ m : Nat, n = (m : Int) := ⟨n.toNat, by have := inB_iff.1 hi; omega⟩
    subst hm
    have hb := inB_iff.1 hi
    have h9 : m ≤ 9 := by omega
    have HM := Lib.hid (show mCountNoPairs (m : Int) = ((lookL m m []).length : Int) by unfold mCountNoPairs noPairs; rw [if_pos hi]; rfl)
    have HI := Lib.hid hi
    have hlen : (growL noPairB m m []).length ≤ 387420489 := Nat.le_trans (growL_length noPairB m h9 m []) (pow9_le m h9)
    have HT := Lib.hid (show (towL (growL noPairB m m [])).length = (lookL m m []).length by rw [growL_no]; simp [towL])
    clear hi hb
    refine callsIn_wide.1 (callsIn_of_wp_marks (F := Fence.wide) (n := 9) Try.func22 rfl trivial ?_ rfl)
    simp only [Try.ntmps22, List.size_toArray, List.length_cons, List.length_nil, Nat.reduceAdd, Nat.reduceSub, Array.replicate_succ, Array.replicate_zero, List.push_toArray, List.append_toArray, List.nil_append, List.cons_append]
    gi_wp2_with fail
    refine ⟨trivial, (callsIn_wide.2 (isCount_any _ _)).mono ?_⟩
    rintro e w1 ⟨rfl, rfl⟩
    rw [HI.out]
    gi_wp2_with fail
    have hbw : Below w.heap.size w (w.alloc (.cells #[.int .i64 0] 3)) := (Below.refl _ w).alloc (Nat.le_refl _) _
    have hbx : Blk (w.alloc (.cells #[.int .i64 0] 3)) w.heap.size 3 [iv 0] := Blk.new w 3 [iv 0] _ rfl
    refine ⟨trivial, (callsIn_wide.2 (towersOf_any (m : Int) 68 _)).mono ?_⟩
    rintro e w2 ⟨rfl, hc1, hc2, hsz, hb2⟩
    simp only [World.size_alloc] at hc1 hc2 hsz hb2
    have hbx2 := hbx.below hb2 (by omega)
    have hbw2 := hbw.trans (hb2.mono (by omega))
    have hseq := towers_low 68 noPairB m h9 (enters_of Try.func68 (by kernel_rfl) rfl) no_calls (w.heap.size + 1) (w.heap.size + 1 + 1) w2 (by omega) (by omega) hc1 hc2
    clear hc1 hc2 hbx hbw hb2
    gi_wp2_with fail
    refine wpIn_rangeFunc_low rfl (by omega) (gf := 115) rfl trivial (enters_of Try.func115 (by kernel_rfl) rfl) hseq (Below.refl _ _) (fun _ => rfl)
      (fun pre W => Blk W w.heap.size 3 [iv pre.length] ∧ Below w.heap.size w W) (fun _ _ _ => False)
      (fun s A A' hI hB => ⟨hI.1.below hB (by omega), hI.2.trans (hB.mono (by omega))⟩) (fun _ _ _ _ _ h _ _ => h) ⟨hbx2, hbw2⟩
      (fun x a' W => a' = { tmps := #[.int .i64 m, undef, .int .i64 0, .bool false, .pointer (some ⟨w.heap.size, 0, none⟩), .int .i64 m, .bool true, .bool false, .int .i64 m, .func (.func 115) #[] #[.pointer (some ⟨w.heap.size + 1, 0, none⟩), .pointer (some ⟨w.heap.size + 1 + 1, 0, none⟩)], tw x.1, undef, undef, undef], defers := [] })
      (fun x a' _ _ _ _ h _ _ => h) ?assign ?body ?done ?stop
    case assign =>
      rintro l pre x W K ⟨hbl, hB⟩ hK
      gi_wp2
      exact hK _ _ (World.grownBy.refl _ _) (by simp)
    case body =>
      rintro l pre x r a' W hl ⟨hbl, hB⟩ rfl hlt hlen
      have hcc := hbl.cell 0
      simp only [List.getElem?_cons_zero] at hcc
      have hfz := hbl.frozen 0
      have hp9 : (pre.length : Int) ≤ 387420489 := by
        have h1 := congrArg List.length hlen
        rw [List.length_append, List.length_cons] at h1
        have h2 : (towL (growL noPairB m m [])).length = (growL noPairB m m []).length := by simp [towL]
        omega
      clear hlen
      have hbl2 := hbl.set 0 (iv ((pre.length : Int) + 1))
      have hgr := grownBy_setCell W w.heap.size 0 (iv ((pre.length : Int) + 1))
      have hB2 := hB.setCell (p := ⟨w.heap.size, 0, none⟩) (Nat.le_refl _) (iv ((pre.length : Int) + 1))
      have hU := Up.setCell (B := w2.heap.size + 2) W ⟨w.heap.size, 0, none⟩ (iv ((pre.length : Int) + 1)) (by simp; omega)
      clear hbl hB hseq
      gi_wp2
      exact ⟨KeepsFrom.of_grownBy hgr (fun j e => by cases e; omega), hU, by simpa using hbl2, hB2⟩
    case done =>
      rintro D W hD ⟨hbl, hB⟩ hK
      have hcc := hbl.cell 0
      simp only [List.getElem?_cons_zero] at hcc
      rw [HT.out, ← HM.out] at hcc
      clear hbl hseq
      gi_wp2
      refine ⟨by simp, .inl ⟨_, _, rfl, run_takeDeferred hK, ?_⟩⟩
      exact ⟨_, results_tmp2 rfl _ _ _, rfl, hB.trans (belowK_b (w := w) (Nat.le_refl _) W D _ _ (by omega) hK rfl rfl)⟩
    case stop =>
      rintro D c pre W _ _ h _
      exact h.elim
  | false =>
    have HM := Lib.hid (show mCountNoPairs n = 0 from if_neg (by rw [hi]; exact Bool.false_ne_true))
    have HI := Lib.hid hi
    clear hi
    refine callsIn_wide.1 (callsIn_of_wp_marks (F := Fence.wide) (n := 9) Try.func22 rfl trivial ?_ rfl)
    simp only [Try.ntmps22, List.size_toArray, List.length_cons, List.length_nil, Nat.reduceAdd, Nat.reduceSub, Array.replicate_succ, Array.replicate_zero, List.push_toArray, List.append_toArray, List.nil_append, List.cons_append]
    gi_wp2_with fail
    refine ⟨trivial, (callsIn_wide.2 (isCount_any _ _)).mono ?_⟩
    rintro e w1 ⟨rfl, rfl⟩
    rw [HI.out]
    gi_wp2
    exact ⟨_, results_tmp2 rfl _ _ _, by rw [HM.out]; rfl, Below.refl _ _⟩
end Go.Proofs.Ytakgmcfpdbeajaa
