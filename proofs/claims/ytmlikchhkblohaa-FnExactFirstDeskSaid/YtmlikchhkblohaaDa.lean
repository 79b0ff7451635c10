import Derived.Test.YtmlikchhkblohaaI1
import Derived.Test.YtmlikchhkblohaaCe
namespace Go.Pan
/-- a desk: its stack and how many turns were made -/
def deskB (xs : List Int) (m : Int) : Bool := goodB xs && inB m 0 1000000

end Go.Pan

namespace Go.Proofs.Ytmlikchhkblohaa
open Go Go.RowKit Go.Pan

theorem infoDesk : (Try.prog.info? 24).map (·.size) = some 2 := by kernel_rfl

theorem infoDeskL : (Try.prog.info? 29).map (·.size) = some 2 := by kernel_rfl

theorem grown_from {w w' : World} {o : Obj} {row : Option Nat} (h : (w.alloc o).grownBy w' row) : w.grownBy w' row :=
  ⟨h.os, h.tape, h.output, Nat.le_trans (by simp) h.size, fun i hi hr => (h.block i (by simp; omega) hr).trans (Below.heap_alloc w o i hi)⟩

theorem coMade_any (m : Int) (w : World) :
    Calls Try.prog 138 #[.int .i64 m] w fun e w' => e = .returned (.bool (inB m 0 1000000)) ∧ w = w' := by
  go_enter Try.func138, Try.ntmps138
  go_wp2_with fail
  refine (l1In_any m 0 1000000 w).mono ?_
  rintro e w1 ⟨rfl, rfl⟩
  go_wp2
  go_ret
  exact ⟨rfl, rfl⟩

set_option maxRecDepth 100000 in
theorem coGood_any (v : Value) (xs : List Int) (m : Int) (w : World) (hv : OwnI w v xs) (hn : xs.length ≤ 1048576) :
    Calls Try.prog 84 #[.agg #[v, .int .i64 m]] w fun e w' => e = .returned (.bool (deskB xs m)) ∧ Below w.heap.size w w' := by
  obtain ⟨ad, cap, rfl, _, _, _⟩ := hv.shape
  have hva := hv.alloc (.cells #[.slice ad xs.length cap, .int .i64 m] 24)
  have c := stGood_any _ xs _ hva hn
  have hb0 := below_new w (.cells #[.slice ad xs.length cap, .int .i64 m] 24)
  have hz : Blk (w.alloc (.cells #[.slice ad xs.length cap, .int .i64 m] 24)) w.heap.size 24 [.slice ad xs.length cap, .int .i64 m] := Blk.new w _ [.slice ad xs.length cap, .int .i64 m] _ rfl
  cases hg : goodB xs with
  | true =>
    have HD := Lib.hid (show deskB xs m = inB m 0 1000000 by unfold deskB; rw [hg]; rfl)
    rw [hg] at c
    clear hg
    go_enter Try.func84, Try.ntmps84
    go_wp2_with fail
    refine c.mono ?_
    rintro e w1 ⟨rfl, hb1⟩
    have hz1 := hz.below hb1 hz.lt
    have k1 : w1.cell? ⟨w.heap.size, 1, none⟩ = some (.int .i64 m) := hz1.cell 1
    clear c
    go_wp2_with fail
    refine (coMade_any m _).mono ?_
    rintro e w2 ⟨rfl, rfl⟩
    go_wp2
    go_ret
    exact ⟨by rw [HD.out]; rfl, hb0.trans (hb1.mono hb0.size)⟩
  | false =>
    have HD := Lib.hid (show deskB xs m = false by unfold deskB; rw [hg]; rfl)
    rw [hg] at c
    clear hg
    go_enter Try.func84, Try.ntmps84
    go_wp2_with fail
    refine c.mono ?_
    rintro e w1 ⟨rfl, hb1⟩
    clear c
    go_wp2
    go_ret
    exact ⟨by rw [HD.out]; rfl, hb0.trans (hb1.mono hb0.size)⟩

set_option maxRecDepth 100000 in
theorem sIsDesk_any (v : Value) (xs : List Int) (m : Int) (w : World) (hv : OwnI w v xs) (hn : xs.length ≤ 1048576) :
    Calls Try.prog 29 #[.agg #[v, .int .i64 m]] w fun e w' => e = .returned (.bool (deskB xs m)) ∧ Below w.heap.size w w' := by
  obtain ⟨ad, cap, rfl, _, _, _⟩ := hv.shape
  have hva := hv.alloc (.cells #[.slice ad xs.length cap, .int .i64 m] 24)
  have c := coGood_any _ xs m _ hva hn
  have hb0 := below_new w (.cells #[.slice ad xs.length cap, .int .i64 m] 24)
  go_enter Try.func29, Try.ntmps29
  go_wp2_with fail
  refine c.mono ?_
  rintro e w1 ⟨rfl, hb1⟩
  clear c
  go_wp2
  go_ret
  exact ⟨rfl, hb0.trans (hb1.mono hb0.size)⟩

set_option maxRecDepth 100000 in
theorem IsDesk_any (v : Value) (xs : List Int) (m : Int) (w : World) (hv : OwnI w v xs) (hn : xs.length ≤ 1048576) :
    Calls Try.prog 31 #[.agg #[v, .int .i64 m]] w fun e w' => e = .returned (.bool (deskB xs m)) ∧ Below w.heap.size w w' := by
  obtain ⟨ad, cap, rfl, _, _, _⟩ := hv.shape
  have hva := hv.alloc (.cells #[.slice ad xs.length cap, .int .i64 m] 24)
  have c := IsStack_any _ xs _ hva hn
  have hb0 := below_new w (.cells #[.slice ad xs.length cap, .int .i64 m] 24)
  have hz : Blk (w.alloc (.cells #[.slice ad xs.length cap, .int .i64 m] 24)) w.heap.size 24 [.slice ad xs.length cap, .int .i64 m] := Blk.new w _ [.slice ad xs.length cap, .int .i64 m] _ rfl
  cases hg : goodB xs with
  | true =>
    have HD := Lib.hid (show deskB xs m = (decide (0 ≤ m) && decide (m ≤ 1000000)) by unfold deskB inB; rw [hg]; simp)
    rw [hg] at c
    clear hg
    by_cases h0 : 0 ≤ m
    · by_cases h1 : m ≤ 1000000
      · go_enter Try.func31, Try.ntmps31
        go_wp2_with fail
        refine c.mono ?_
        rintro e w1 ⟨rfl, hb1⟩
        have hz1 := hz.below hb1 hz.lt
        have k1 : w1.cell? ⟨w.heap.size, 1, none⟩ = some (.int .i64 m) := hz1.cell 1
        clear c
        go_wp2
        go_ret
        exact ⟨by rw [HD.out, decide_eq_true h0, decide_eq_true h1]; rfl, hb0.trans (hb1.mono hb0.size)⟩
      · have h1' : 1000000 < m := by omega
        go_enter Try.func31, Try.ntmps31
        go_wp2_with fail
        refine c.mono ?_
        rintro e w1 ⟨rfl, hb1⟩
        have hz1 := hz.below hb1 hz.lt
        have k1 : w1.cell? ⟨w.heap.size, 1, none⟩ = some (.int .i64 m) := hz1.cell 1
        clear c
        go_wp2
        go_ret
        exact ⟨by rw [HD.out, decide_eq_true h0]; rfl, hb0.trans (hb1.mono hb0.size)⟩
    · have h0' : m < 0 := by omega
      go_enter Try.func31, Try.ntmps31
      go_wp2_with fail
      refine c.mono ?_
      rintro e w1 ⟨rfl, hb1⟩
      have hz1 := hz.below hb1 hz.lt
      have k1 : w1.cell? ⟨w.heap.size, 1, none⟩ = some (.int .i64 m) := hz1.cell 1
      clear c
      go_wp2
      go_ret
      exact ⟨by rw [HD.out, decide_eq_false (Int.not_le.2 h0'), Bool.false_and]; rfl, hb0.trans (hb1.mono hb0.size)⟩
  | false =>
    have HD := Lib.hid (show deskB xs m = false by unfold deskB; rw [hg]; rfl)
    rw [hg] at c
    clear hg
    go_enter Try.func31, Try.ntmps31
    go_wp2_with fail
    refine c.mono ?_
    rintro e w1 ⟨rfl, hb1⟩
    clear c
    go_wp2
    go_ret
    exact ⟨by rw [HD.out]; rfl, hb0.trans (hb1.mono hb0.size)⟩

theorem sFirstDesk_any (w : World) :
    Calls Try.prog 23 #[] w fun e w' => ∃ r, e = .returned (.agg #[r, .int .i64 0]) ∧ OwnI w' r [3, 1, 2] ∧ From w.heap.size r ∧ Below w.heap.size w w' := by
  have hA : Blk ((w.alloc (.cells #[.slice none 0 0, .int .i64 0] 24)).alloc (.cells #[.int .i64 3, .int .i64 1, .int .i64 2] 3)) w.heap.size 24 [.slice none 0 0, .int .i64 0] := (Blk.new w _ [.slice none 0 0, .int .i64 0] _ rfl).alloc _
  have hL : OwnI ((w.alloc (.cells #[.slice none 0 0, .int .i64 0] 24)).alloc (.cells #[.int .i64 3, .int .i64 1, .int .i64 2] 3)) (.slice (some ⟨w.heap.size + 1, 0, none⟩) 3 3) [3, 1, 2] := by
    have h := OwnI.lit (w.alloc (.cells #[.slice none 0 0, .int .i64 0] 24)) 3 [3, 1, 2] 3 rfl (by omega) #[.int .i64 3, .int .i64 1, .int .i64 2] rfl
    simpa using h
  have hB : Below w.heap.size w ((w.alloc (.cells #[.slice none 0 0, .int .i64 0] 24)).alloc (.cells #[.int .i64 3, .int .i64 1, .int .i64 2] 3)) := ((Below.refl _ _).alloc (Nat.le_refl _) _).alloc (by simp) _
  go_enter Try.func23, Try.ntmps23
  go_wp2_with (first | (refine wpList_storeS2 rfl 24 _ _ rfl w.heap.size _ _ rfl rfl 24 _ hA infoDesk rfl ⟨rfl, rfl⟩ ?_; intro w3 hb3 hg3))
  have hB3 := hB.grown hg3 hB.size (fun k hk => by cases hk; exact Nat.le_refl _)
  have ho3 := Own.grown hL hg3 (fun g hg e => by cases e; simp [Value.ownBlock] at hg)
  exact bodyPost_ret (results_cell_row rfl _ _ w.heap.size 24 _ _ _ rfl hb3 Try.underlying24 rfl (by simpa using infoDesk)) rfl ⟨_, rfl, ho3, From.at _ _ _ _ _ (Nat.le_succ _), hB3⟩

theorem FirstDesk_any (w : World) :
    Calls Try.prog 24 #[] w fun e w' => ∃ r, e = .returned (.agg #[r, .int .i64 0]) ∧ OwnI w' r [3, 1, 2] ∧ From w.heap.size r ∧ Below w.heap.size w w' := by
  have hA : Blk ((w.alloc (.cells #[.slice none 0 0, .int .i64 0] 24)).alloc (.cells #[.int .i64 3, .int .i64 1, .int .i64 2] 3)) w.heap.size 24 [.slice none 0 0, .int .i64 0] := (Blk.new w _ [.slice none 0 0, .int .i64 0] _ rfl).alloc _
  have hL : OwnI ((w.alloc (.cells #[.slice none 0 0, .int .i64 0] 24)).alloc (.cells #[.int .i64 3, .int .i64 1, .int .i64 2] 3)) (.slice (some ⟨w.heap.size + 1, 0, none⟩) 3 3) [3, 1, 2] := by
    have h := OwnI.lit (w.alloc (.cells #[.slice none 0 0, .int .i64 0] 24)) 3 [3, 1, 2] 3 rfl (by omega) #[.int .i64 3, .int .i64 1, .int .i64 2] rfl
    simpa using h
  have hB : Below w.heap.size w ((w.alloc (.cells #[.slice none 0 0, .int .i64 0] 24)).alloc (.cells #[.int .i64 3, .int .i64 1, .int .i64 2] 3)) := ((Below.refl _ _).alloc (Nat.le_refl _) _).alloc (by simp) _
  go_enter Try.func24, Try.ntmps24
  go_wp2_with (first | (refine wpList_storeS2 rfl 24 _ _ rfl w.heap.size _ _ rfl rfl 24 _ hA infoDesk rfl ⟨rfl, rfl⟩ ?_; intro w3 hb3 hg3))
  have hB3 := hB.grown hg3 hB.size (fun k hk => by cases hk; exact Nat.le_refl _)
  have ho3 := Own.grown hL hg3 (fun g hg e => by cases e; simp [Value.ownBlock] at hg)
  exact bodyPost_ret (results_cell_row rfl _ _ w.heap.size 24 _ _ _ rfl hb3 Try.underlying24 rfl (by simpa using infoDesk)) rfl ⟨_, rfl, ho3, From.at _ _ _ _ _ (Nat.le_succ _), hB3⟩

set_option maxRecDepth 100000 in
theorem eqDesk_same (v u : Value) (xs : List Int) (m : Int) (w : World) (hv : Ints w v xs) (hu : Ints w u xs) (hn : xs.length ≤ 1048576) :
    Calls Try.prog 25 #[.agg #[v, .int .i64 m], .agg #[u, .int .i64 m]] w fun e w' => e = .returned (.bool true) ∧ Below w.heap.size w w' := by
  have hv0 := hv
  have hu0 := hu
  obtain ⟨ad, cap, rfl, _, _, _⟩ := hv
  obtain ⟨bd, cbp, rfl, _, _, _⟩ := hu
  obtain ⟨W, hW⟩ : ∃ W, (w.alloc (.cells #[.slice ad xs.length cap, .int .i64 m] 24)).alloc (.cells #[.slice bd xs.length cbp, .int .i64 m] 24) = W := ⟨_, rfl⟩
  have hb0 : Below w.heap.size w W := by rw [← hW]; exact ((Below.refl _ _).alloc (Nat.le_refl _) _).alloc (by simp) _
  have hz : Blk W w.heap.size 24 [.slice ad xs.length cap, .int .i64 m] := by rw [← hW]; exact (Blk.new w _ [.slice ad xs.length cap, .int .i64 m] _ rfl).alloc _
  have hz2 : Blk W (w.heap.size + 1) 24 [.slice bd xs.length cbp, .int .i64 m] := by rw [← hW]; exact Blk.new _ _ [.slice bd xs.length cbp, .int .i64 m] _ (by simp)
  have c := eqIntS_any _ _ xs xs W (hv0.below hb0 (Nat.le_refl _)) (hu0.below hb0 (Nat.le_refl _)) hn hn
  rw [decide_eq_true rfl] at c
  have HW := Lib.hid hW
  have hne : ((m : Int) != m) = false := by simp
  have k0 : W.cell? ⟨w.heap.size, 0, none⟩ = some (.slice ad xs.length cap) := hz.cell 0
  have j0 : W.cell? ⟨w.heap.size + 1, 0, none⟩ = some (.slice bd xs.length cbp) := hz2.cell 0
  clear hW
  go_enter Try.func25, Try.ntmps25
  go_wp2_with fail
  rw [HW.out]
  refine c.mono ?_
  rintro e w1 ⟨rfl, hb1⟩
  have k1 : w1.cell? ⟨w.heap.size, 1, none⟩ = some (.int .i64 m) := (hz.below hb1 hz.lt).cell 1
  have j1 : w1.cell? ⟨w.heap.size + 1, 1, none⟩ = some (.int .i64 m) := (hz2.below hb1 hz2.lt).cell 1
  clear c k0 j0
  go_wp2
  go_ret
  exact ⟨rfl, hb0.trans (hb1.mono hb0.size)⟩

theorem markDesk_any (v : Value) (n : Nat) (cs : List Value) (k0 m : Int) (w : World) (hv : Own w 1 v n cs) (hn : n ≤ 1048576) (h0 : 0 ≤ k0) (h1 : k0 ≤ 1099511627776) :
    Calls Try.prog 26 #[.agg #[v, .int .i64 m], .int .i64 k0] w fun e w' => e = .returned (.int .i64 (k0 + n)) ∧ OwnI w' v (ramp k0 n) ∧ w.grownBy w' v.ownBlock := by
  obtain ⟨ad, cap, rfl, _, _, _⟩ := hv.shape
  have c := markIntS_any _ n cs k0 (w.alloc (.cells #[.slice ad n cap, .int .i64 m] 24)) (hv.alloc _) hn h0 h1
  go_enter Try.func26, Try.ntmps26
  go_wp2_with fail
  refine c.mono ?_
  rintro e w1 ⟨rfl, ho, hg⟩
  clear c
  go_wp2
  go_ret
  exact ⟨rfl, ho, grown_from hg⟩

theorem heldDesk_any (v : Value) (n : Nat) (k0 m : Int) (w : World) (hv : OwnI w v (ramp k0 n)) (hn : n ≤ 1048576) (h0 : 0 ≤ k0) (h1 : k0 ≤ 1099511627776) :
    Calls Try.prog 27 #[.agg #[v, .int .i64 m], .int .i64 k0] w fun e w' => e = .returned (.int .i64 (k0 + n)) ∧ Below w.heap.size w w' := by
  have hl := ramp_length k0 n
  obtain ⟨ad, cap, rfl, _, _, _⟩ := hv.shape
  have c := heldIntS_any _ n k0 (w.alloc (.cells #[.slice ad (ramp k0 n).length cap, .int .i64 m] 24)) (hv.alloc _) hn h0 h1
  have hb0 := below_new w (.cells #[.slice ad (ramp k0 n).length cap, .int .i64 m] 24)
  have hp : 0 ≤ k0 + (n : Int) := by omega
  rw [hl] at c hb0 ⊢
  clear hl
  go_enter Try.func27, Try.ntmps27
  go_wp2_with fail
  refine c.mono ?_
  rintro e w1 ⟨rfl, hb1⟩
  clear c
  go_wp2
  go_ret
  exact ⟨rfl, hb0.trans (hb1.mono hb0.size)⟩

theorem desk_cells {w : World} {g : Nat} {r0 u : Value} {m0 m : Int} (h : Blk w g 24 [r0, .int .i64 m0]) : Blk ((w.setCell ⟨g, 0, none⟩ u).setCell ⟨g, 1, none⟩ (.int .i64 m)) g 24 [u, .int .i64 m] := by
  have h1 := (h.set 0 u).set 1 (.int .i64 m)
  simpa using h1

set_option maxRecDepth 100000 in
theorem toDesk_any (v : Value) (xs : List Int) (m : Int) (w : World) (hv : Ints w v xs) (hn : xs.length ≤ 1048576) :
    Calls Try.prog 30 #[.agg #[v, .int .i64 m]] w fun e w' => ∃ r, e = .returned (.agg #[r, .int .i64 m]) ∧ OwnI w' r xs ∧ From w.heap.size r ∧ Below w.heap.size w w' := by
  have hv0 := hv
  obtain ⟨ad, cap, rfl, _, _, _⟩ := hv
  obtain ⟨W, hW⟩ : ∃ W, ((w.alloc (.cells #[.slice ad xs.length cap, .int .i64 m] 29)).alloc (.cells #[.slice none 0 0, .int .i64 0] 24)).alloc (.cells #[.slice none 0 0, .int .i64 0] 24) = W := ⟨_, rfl⟩
  have hb0 : Below w.heap.size w W := by rw [← hW]; exact (((Below.refl _ _).alloc (Nat.le_refl _) _).alloc (by simp) _).alloc (by simp; omega) _
  have hz : Blk W w.heap.size 29 [.slice ad xs.length cap, .int .i64 m] := by rw [← hW]; exact ((Blk.new w _ [.slice ad xs.length cap, .int .i64 m] _ rfl).alloc _).alloc _
  have hz1 : Blk W (w.heap.size + 1) 24 [.slice none 0 0, .int .i64 0] := by rw [← hW]; exact (Blk.new _ _ [.slice none 0 0, .int .i64 0] _ (by simp)).alloc _
  have hz2 : Blk W (w.heap.size + 1 + 1) 24 [.slice none 0 0, .int .i64 0] := by rw [← hW]; exact Blk.new _ _ [.slice none 0 0, .int .i64 0] _ (by simp)
  have c := toIntS_any _ xs W (hv0.below hb0 (Nat.le_refl _)) hn
  have hne0 : w.heap.size ≠ w.heap.size + 1 + 1 := by omega
  have hne1 : w.heap.size + 1 ≠ w.heap.size + 1 + 1 := by omega
  have HW := Lib.hid hW
  have hs : w.heap.size + 3 ≤ W.heap.size := by rw [← hW]; simp
  clear hW
  go_enter Try.func30, Try.ntmps30
  go_wp2_with fail
  rw [HW.out]
  refine c.mono ?_
  rintro e w1 ⟨r, rfl, ho, hf, hb1⟩
  obtain ⟨ra, rc, rfl, _, _, _⟩ := ho.shape
  have hq := hz.below hb1 hz.lt
  have hq1 := hz1.below hb1 hz1.lt
  have hq2 := hz2.below hb1 hz2.lt
  have hB1 := hb0.trans (hb1.mono hb0.size)
  have HO := Lib.hid ho
  have HF := Lib.hid hf
  have e0 : w1.cell? ⟨w.heap.size + 1 + 1, 0, none⟩ = some (.slice none 0 0) := hq2.cell 0
  have f0 : w1.frozen? ⟨w.heap.size + 1 + 1, 0, none⟩ = false := hq2.frozen 0
  have hr2 := hq2.set 0 (.slice ra xs.length rc)
  have hr := hq.other (a := ⟨w.heap.size + 1 + 1, 0, none⟩) hne0 (.slice ra xs.length rc)
  have hr1 := hq1.other (a := ⟨w.heap.size + 1 + 1, 0, none⟩) hne1 (.slice ra xs.length rc)
  have e1 : (w1.setCell ⟨w.heap.size + 1 + 1, 0, none⟩ (.slice ra xs.length rc)).cell? ⟨w.heap.size, 1, none⟩ = some (.int .i64 m) := hr.cell 1
  have e2 : (w1.setCell ⟨w.heap.size + 1 + 1, 0, none⟩ (.slice ra xs.length rc)).cell? ⟨w.heap.size + 1 + 1, 1, none⟩ = some (.int .i64 0) := hr2.cell 1
  have f2 : (w1.setCell ⟨w.heap.size + 1 + 1, 0, none⟩ (.slice ra xs.length rc)).frozen? ⟨w.heap.size + 1 + 1, 1, none⟩ = false := hr2.frozen 1
  have hs2 : Blk ((w1.setCell ⟨w.heap.size + 1 + 1, 0, none⟩ (.slice ra xs.length rc)).setCell ⟨w.heap.size + 1 + 1, 1, none⟩ (.int .i64 m)) (w.heap.size + 1 + 1) 24 [.slice ra xs.length rc, .int .i64 m] := desk_cells hq2
  have hs1 := hr1.other (a := ⟨w.heap.size + 1 + 1, 1, none⟩) hne1 (.int .i64 m)
  have hB2 : Below w.heap.size w ((w1.setCell ⟨w.heap.size + 1 + 1, 0, none⟩ (.slice ra xs.length rc)).setCell ⟨w.heap.size + 1 + 1, 1, none⟩ (.int .i64 m)) := (hB1.setCell (p := ⟨w.heap.size + 1 + 1, 0, none⟩) (by show w.heap.size ≤ w.heap.size + 1 + 1; omega) (.slice ra xs.length rc)).setCell (p := ⟨w.heap.size + 1 + 1, 1, none⟩) (by show w.heap.size ≤ w.heap.size + 1 + 1; omega) (.int .i64 m)
  have hlt := HF.out
  have HO2 := Lib.hid (show OwnI ((w1.setCell ⟨w.heap.size + 1 + 1, 0, none⟩ (.slice ra xs.length rc)).setCell ⟨w.heap.size + 1 + 1, 1, none⟩ (.int .i64 m)) (.slice ra xs.length rc) xs from
    Own.kept ho fun g hg => by
      have h3 := HF.out g hg
      rw [heap_setCell_other _ _ g _ (by show g ≠ w.heap.size + 1 + 1; omega), heap_setCell_other _ _ g _ (by show g ≠ w.heap.size + 1 + 1; omega)])
  clear c ho hf hlt hq hq1 hq2 hr hr1 hr2 hz hz1 hz2
  go_wp2_with (first
    | (refine wpList_loadS2 rfl 24 _ rfl (w.heap.size + 1 + 1) _ _ rfl 24 hs2 Try.underlying24 rfl infoDesk ?_)
    | (refine wpList_storeS2 rfl 24 _ _ rfl (w.heap.size + 1) _ _ rfl rfl 24 _ hs1 infoDesk rfl ⟨rfl, rfl⟩ ?_; intro w4 hb4 hg4))
  have hB4 := hB2.grown hg4 hB2.size (fun k hk => by cases hk; omega)
  have ho4 : OwnI w4 (.slice ra xs.length rc) xs := HO2.out.grown hg4 (fun g hg e => by cases e; have := HF.out _ hg; omega)
  exact bodyPost_ret (results_cell_row rfl _ _ (w.heap.size + 1) 24 _ _ _ rfl hb4 Try.underlying24 rfl (by simpa using infoDesk)) rfl ⟨_, rfl, ho4, fun g hg => by have := HF.out g hg; omega, hB4⟩

end Go.Proofs.Ytmlikchhkblohaa

