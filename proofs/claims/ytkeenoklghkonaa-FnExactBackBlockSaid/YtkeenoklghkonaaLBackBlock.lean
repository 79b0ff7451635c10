import Derived.Test.YtkeenoklghkonaaV21
import Derived.Test.YtkeenoklghkonaaTBk
namespace Go.Proofs.Ytkeenoklghkonaa
open Go Go.RowKit Go.Pan

theorem wpList_storeS3 {P : Program} {ops : Array Oper} {rest : List Oper} {o : Oper} {a : Act} {w : World} {Q : Exit → Act → World → Prop}
    (hgd : o.guard = none) (ty : TypeId) (x y : Operand) (ho : o.op = .store ty x y) (g : Nat) (c0 c1 c2 : Value) (hx : a.eval x = .pointer (some ⟨g, 0, none⟩)) (hy : a.eval y = .agg #[c0, c1, c2])
    (t : TypeId) (old : List Value) (hg : Blk w g t old) (hi : (P.info? ty).map (·.size) = some 3) (hold : old.length = 3) (h1 : c0.oneCell' = true ∧ c1.oneCell' = true ∧ c2.oneCell' = true)
    (h : ∀ w', Blk w' g t [c0, c1, c2] → w.grownBy w' (some g) → wpList P ops Q rest (a.put o.dst undef) w') : wpList P ops Q (o :: rest) a w :=
  wpList_store3 hgd ty x y ho g c0 c1 c2 hx hy t old hg hi hold h1 (h _ (hg.setRow [c0, c1, c2]) ⟨rfl, rfl, rfl, by simp [World.setRow], fun k _ hk => setRow_other w g k _ (fun e => hk (by rw [e]))⟩)

set_option maxRecDepth 100000 in
set_option maxHeartbeats 1600000 in
theorem walk_FnExactBackBlock (x0 : Int × Int × Int) (w : World)  :
    Calls Try.prog 10 #[.agg #[.int .i64 x0.1, .int .i64 x0.2.1, .int .i64 x0.2.2]] w fun e w' => e = .returned (.bool true) ∧ Below w.heap.size w w' := by
  obtain ⟨w0, hw0⟩ : ∃ x, w.alloc (.cells #[.int .i64 x0.1, .int .i64 x0.2.1, .int .i64 x0.2.2] 43) = x := ⟨_, rfl⟩
  have hZ : Blk w0 w.heap.size 43 [.int .i64 x0.1, .int .i64 x0.2.1, .int .i64 x0.2.2] := by rw [← hw0]; exact Blk.new w _ _ _ rfl
  have hB0 : Below w.heap.size w w0 := by rw [← hw0]; exact below_new w _
  have HW0 := Lib.hid hw0
  clear hw0
  go_enter Try.func10, Try.ntmps10
  go_wp2_with fail
  rw [HW0.out]
  refine (toBlock_any x0 _).mono ?_
  rintro e w1 ⟨rfl, hb1⟩
  have hZ1 := hZ.below hb1 hZ.lt
  have hB1 := hB0.trans (hb1.mono hB0.size)
  go_wp2_with fail
  refine (sBackBlock_any x0 _).mono ?_
  rintro e w2 ⟨rfl, hb2⟩
  have hZ2 := hZ1.below hb2 hZ1.lt
  have hB2 := hB1.trans (hb2.mono hB1.size)
  have hl2 := hZ2.lt
  obtain ⟨m, hm⟩ : ∃ m, mBackBlock x0 = m := ⟨_, rfl⟩
  have HMM := Lib.hid hm
  rw [hm]
  obtain ⟨bb, hbb⟩ : ∃ b, bkB 9 x0 = b := ⟨_, rfl⟩
  have HBB := Lib.hid hbb
  rw [hbb]
  have hZa := hZ2.alloc (.cells #[.int .i64 0, .int .i64 0, .int .i64 0] 45)
  have hBa := hB2.alloc hB2.size (.cells #[.int .i64 0, .int .i64 0, .int .i64 0] 45)
  have hA : Blk (w2.alloc (.cells #[.int .i64 0, .int .i64 0, .int .i64 0] 45)) w2.heap.size 45 [.int .i64 0, .int .i64 0, .int .i64 0] := Blk.new w2 _ _ _ rfl
  have hs2 := hB2.size
  clear hZ hZ1 hZ2 hb1 hb2 hm hbb hB0 hB1
  go_wp2_with (first | (refine wpList_storeS3 rfl 45 _ _ rfl w2.heap.size _ _ _ rfl rfl 45 _ hA infoBlock rfl ⟨rfl, rfl, rfl⟩ ?_; intro w3 hA3 hg3; have hZ3 := hZa.grown hg3 (by simp; omega); have k0 : w3.cell? ⟨w.heap.size, 0, none⟩ = some (.int .i64 x0.1) := hZ3.cell 0; have k1 : w3.cell? ⟨w.heap.size, 1, none⟩ = some (.int .i64 x0.2.1) := hZ3.cell 1; have k2 : w3.cell? ⟨w.heap.size, 2, none⟩ = some (.int .i64 x0.2.2) := hZ3.cell 2; clear hA))
  have hB3 := hBa.grown hg3 hBa.size (fun k hk => by cases hk; exact hs2)
  have hs3 : w2.heap.size < w3.heap.size := hA3.lt
  refine (toBlock_any x0 _).mono ?_
  rintro e w4 ⟨rfl, hb4⟩
  have hA4 := hA3.below hb4 hA3.lt
  have hB4 := hB3.trans (hb4.mono hB3.size)
  clear k0 k1 k2 hZ3 hZa hg3 hBa
  go_wp2_with fail
  refine (BackBlock_any x0 _).mono ?_
  rintro e w5 ⟨rfl, hb5⟩
  have hA5 := hA4.below hb5 hA4.lt
  have hB5 := hB4.trans (hb5.mono hB4.size)
  rw [HMM.out, HBB.out]
  have hAa := hA5.alloc (.cells #[.int .i64 0, .int .i64 0, .int .i64 0] 45)
  have hBb := hB5.alloc hB5.size (.cells #[.int .i64 0, .int .i64 0, .int .i64 0] 45)
  have hC : Blk (w5.alloc (.cells #[.int .i64 0, .int .i64 0, .int .i64 0] 45)) w5.heap.size 45 [.int .i64 0, .int .i64 0, .int .i64 0] := Blk.new w5 _ _ _ rfl
  have hs5 := hB5.size
  have hl5 := hA5.lt
  clear hA3 hA4 hA5 hb4 hb5
  go_wp2_with (first | (refine wpList_storeS3 rfl 45 _ _ rfl w5.heap.size _ _ _ rfl rfl 45 _ hC infoBlock rfl ⟨rfl, rfl, rfl⟩ ?_; intro w6 hC6 hg6; have hA6 := hAa.grown hg6 (by simp; omega); have k0 : w6.cell? ⟨w2.heap.size, 0, none⟩ = some (.int .i64 m.1) := hA6.cell 0; have k1 : w6.cell? ⟨w2.heap.size, 1, none⟩ = some (.int .i64 m.2.1) := hA6.cell 1; have k2 : w6.cell? ⟨w2.heap.size, 2, none⟩ = some (.int .i64 m.2.2) := hA6.cell 2; have j0 : w6.cell? ⟨w5.heap.size, 0, none⟩ = some (.int .i64 m.1) := hC6.cell 0; have j1 : w6.cell? ⟨w5.heap.size, 1, none⟩ = some (.int .i64 m.2.1) := hC6.cell 1; have j2 : w6.cell? ⟨w5.heap.size, 2, none⟩ = some (.int .i64 m.2.2) := hC6.cell 2; clear hC))
  have hB6 := hBb.grown hg6 hBb.size (fun k hk => by cases hk; exact hs5)
  refine (eqBlock_any m m _).mono ?_
  rintro e w7 ⟨rfl, hb7⟩
  have hB7 := hB6.trans (hb7.mono hB6.size)
  have hbn : (bb != bb) = false := by simp
  go_wp2
  go_ret
  exact ⟨rfl, hB7⟩
end Go.Proofs.Ytkeenoklghkonaa
