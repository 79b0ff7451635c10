import Derived.Test.YtkeenoklghkonaaI4
import Derived.Test.YtkeenoklghkonaaTSg
import Derived.Test.YtkeenoklghkonaaQ1
import Derived.Test.YtkeenoklghkonaaTw
namespace Go.Proofs.Ytkeenoklghkonaa
open Go Go.RowKit Go.Pan

theorem seg_eq (p q : Int × Int) (W : World) : (Op.equalIn 10000 85 (.agg #[.int .i64 p.1, .int .i64 p.2]) (.agg #[.int .i64 q.1, .int .i64 q.2])).run Try.prog W = .ok (decide (p = q)) W := by
  have h := run_equalIn_struct (P := Try.prog) (w := W) 9999 85 #[.int .i64 p.1, .int .i64 p.2] #[.int .i64 q.1, .int .i64 q.2] (by kernel_rfl) (by kernel_rfl)
  rw [show (10000 : Nat) = 9999 + 1 from rfl, h]
  obtain ⟨a, b⟩ := p
  obtain ⟨c, d⟩ := q
  have hu := Try.underlying3
  simp [Program.fieldsOf, Try.underlying85, go_sem, hu, isAgg, part]
  by_cases h1 : a = c <;> by_cases h2 : b = d <;> simp [h1, h2]

theorem segSl : CelSl c2 Try.prog 28 85 16 := by
  obtain ⟨i, hi, hz0, hz1, hz2⟩ := info_parts infoSegment3
  exact ⟨Try.underlying28, i, _, hi, hz0, rfl, hz1, hz2⟩
theorem segSl2 : CelSl c2 Try.prog 87 85 16 := by
  obtain ⟨i, hi, hz0, hz1, hz2⟩ := info_parts infoSegment3
  exact ⟨Try.underlying87, i, _, hi, hz0, rfl, hz1, hz2⟩

def IdxP (l : List (Int × Int)) (p : Int × Int) (i : Int) : Prop := if p ∈ l then 0 ≤ i else i = -1