import Derived.Test.YtkfpcnbpdlcnaaaI9
import Derived.Test.YtkfpcnbpdlcnaaaI6
import Derived.Test.YtkfpcnbpdlcnaaaS9
import Derived.ScopeJumps
namespace Go.Proofs.Ytkfpcnbpdlcnaaa
open Go Go.RowKit Go.Pan

def GreedyJ (xs : List Int) (w : World) (a' : Act) (wr : World) : Prop :=
  ∃ (m : Nat) (ys out : List Int) (o u7 u8 u9 u10 u11 u12 u13 u14 u15 u16 u17 u18 u19 u20 u21 u22 u23 u24 u25 u26 u27 u28 u29 u30 u31 : Value), a' = { tmps := #[tw xs, .int .i64 xs.length, .pointer (some ⟨w.heap.size, 0, none⟩), undef, .slice none 0 0, o, .int .i64 m, u7, u8, u9, u10, u11, u12, u13, u14, u15, u16, u17, u18, u19, u20, u21, u22, u23, u24, u25, u26, u27, u28, u29, u30, u31], defers := [] } ∧
    OwnI wr o out ∧ From (w.heap.size + 1) o ∧ Blk wr w.heap.size 52 (twl ys) ∧ GreedyAt xs m ys out ∧ Below w.heap.size w wr

theorem mGreedy_eq (xs : List Int) : mGreedyLength xs = ((mGreedyPlan xs).length : Int) := by
  unfold mGreedyLength mGreedyPlan
  split <;> rfl

end Go.Proofs.Ytkfpcnbpdlcnaaa

