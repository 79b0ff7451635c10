import Derived.Test.YtmlikchhkblohaaR7
namespace Go.Proofs.Ytmlikchhkblohaa
open Go Go.RowKit Go.Pan Go.Shelf

attribute [local go_sem] Oper.semAt_some

theorem towersOf_any (n : Int) (mf : FuncId) (w : World) :
    Calls Try.prog 152 #[.int .i64 n, .func (.func mf) #[] #[]] w fun e w' => e = .returned (.func (.func 182) #[] #[.pointer (some ⟨w.heap.size, 0, none⟩), .pointer (some ⟨w.heap.size + 1, 0, none⟩)]) ∧
      w'.cell? ⟨w.heap.size, 0, none⟩ = some (.int .i64 n) ∧ w'.cell? ⟨w.heap.size + 1, 0, none⟩ = some (.func (.func mf) #[] #[]) ∧ w'.heap.size = w.heap.size + 2 ∧ Below w.heap.size w w' := by
  go_enter Try.func152, Try.ntmps152
  go_wp2
  go_ret
  refine ⟨rfl, ?_, ?_, by simp, ((Below.refl _ w).alloc (Nat.le_refl _) _).alloc (by simp) _⟩
  · exact (((Below.refl _ _).alloc (Nat.le_refl _) _).cell (p := ⟨w.heap.size, 0, none⟩) (by simp)).trans ((Blk.new w _ [.int .i64 n] _ rfl).cell 0)
  · exact (Blk.new _ _ [.func (.func mf) #[] #[]] _ (by simp)).cell 0

/-- the stacks of towersOf, one by one -/
theorem towers_low (mf : FuncId) (may : Int → Int → Bool) (n : Nat) (hn : n ≤ 9)
    (hC : ∀ (args : Array Value) (u : World), (callFunc mf args).run Try.prog u = .ok (.enter mf args) u)
    (hM : Hid (∀ (a b : Int) (u : World), -1048576 ≤ a → a ≤ 1048576 → -1048576 ≤ b → b ≤ 1048576 → Calls Try.prog mf #[.int .i64 a, .int .i64 b] u fun e w' => e = .returned (.bool (may a b)) ∧ u = w'))
    (b1 b2 : Nat) (w : World) (h1 : b1 < w.heap.size) (h2 : b2 < w.heap.size) (hc1 : w.cell? ⟨b1, 0, none⟩ = some (.int .i64 n)) (hc2 : w.cell? ⟨b2, 0, none⟩ = some (.func (.func mf) #[] #[])) :
    SeqLow Fence.wide 8 Try.prog 182 #[.pointer (some ⟨b1, 0, none⟩), .pointer (some ⟨b2, 0, none⟩)] (fun x : TwU => #[tw x.1]) (towL (growL may n n [])) w := by
  intro l J Jx W hW hJ hY h0
  have hd1 := (hW.cell (p := ⟨b1, 0, none⟩) h1).trans hc1
  have hd2 := (hW.cell (p := ⟨b2, 0, none⟩) h2).trans hc2
  have hg := grow_any mf may n hn hC hM l W.heap.size (towL (growL may n n [])) J Jx (Lib.hid hJ) (Lib.hid fun pre x r W1 hj hl => YieldAt.wide (hY pre x r W1 hj hl)) n [] [] W (by simp) (Lib.hid (by simp)) (Lib.hid ⟨[], by simp⟩) (Nat.le_refl _) h0
  simp only [List.length_nil, List.nil_append] at hg
  clear hY h0 hJ hc1 hc2 hM hC
  refine callsIn_of_wp (F := Fence.wide) (n := 8) Try.func182 rfl trivial ?_ rfl
  simp only [Try.ntmps182, List.size_toArray, List.length_cons, List.length_nil, Nat.reduceAdd, Nat.reduceSub, Array.replicate_succ, Array.replicate_zero, List.push_toArray, List.append_toArray, List.nil_append, List.cons_append]
  gi_wp2_with fail
  refine ⟨trivial, (callsIn_wide.2 hg).mono ?_⟩
  rintro e w1 (⟨rfl, hj, hU⟩ | ⟨rfl, p, hjx⟩)
  · gi_wp2
    go_end0
    exact ⟨⟨_, rfl⟩, .inl hj⟩
  · gi_wp2
    go_end0
    exact ⟨⟨_, rfl⟩, .inr ⟨p, hjx⟩⟩

end Go.Proofs.Ytmlikchhkblohaa

