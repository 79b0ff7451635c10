import Derived.Test.YtdlnniciccpchaaTw
import Derived.Maps.OwnSet
import Derived.Maps.OwnOps
import Derived.WideKeyArr2
import Derived.WideKeyEntry
import Derived.IntWalk
namespace Go.Proofs.Ytdlnniciccpchaa
open Go Go.RowKit Go.Pan

theorem arrK : WideMaps.ArrKey Try.prog 52 3 9 := ⟨Try.underlying52, by kernel_rfl, by kernel_rfl, by kernel_rfl⟩
theorem klaw : WideMaps.KeyLaw Try.prog 52 := arrK.law
theorem keyd : Maps.Keyed Try.prog 52 := Maps.Keyed.of_law klaw
theorem typesPos : ∃ m, Try.prog.types.size = m + 1 := ⟨Try.prog.types.size - 1, by have : 0 < Try.prog.types.size := of_decide_eq_true (by kernel_rfl); omega⟩
theorem zeroI (w : World) : (zeroValue 3).run Try.prog w = .ok (.int .i64 0) w := by kernel_rfl

/-- how a tower of nine numbers reads as a key -/
def kl9 (zs : List Int) : Lit := .string (keyBytes (zs.map fun x => .int .i64 x))
theorem key9 (zs : List Int) (h9 : zs.length = 9) (hb : ∀ x ∈ zs, (Lit.int .i64 x).wf = true) : keyOf Try.prog 52 (.agg (zs.map iv).toArray) = some (kl9 zs) := by
  have hkt := arrK.keyType typesPos
  obtain ⟨m, hm⟩ := typesPos
  have hu := arrK.hu
  have hsz := arrK.size
  have hone := arrK.one
  match zs, h9, hb with
  | [a0, a1, a2, a3, a4, a5, a6, a7, a8], _, hb =>
    simp only [List.mem_cons, List.not_mem_nil, or_false, forall_eq_or_imp, forall_eq] at hb
    obtain ⟨b0, b1, b2, b3, b4, b5, b6, b7, b8⟩ := hb
    unfold keyOf
    simp only [hu]
    rw [if_pos (by simp [hkt, Value.formed, hu, hsz]), hm]
    unfold Program.keyLits
    simp only [hu, Value.cells]
    rw [if_pos (by rw [hsz]; rfl), show List.range 9 = [0, 1, 2, 3, 4, 5, 6, 7, 8] from rfl]
    simp only [List.mapM_cons, List.mapM_nil]
    simp [hone, Program.keyLits, Try.underlying3, b0, b1, b2, b3, b4, b5, b6, b7, b8, kl9]
/-- a stack's key -/
def kl (q : List Int) : Lit := kl9 (q ++ List.replicate (9 - q.length) 0)
theorem small_wf {x : Int} (h1 : -1000000000000000 ≤ x) (h2 : x ≤ 1000000000000000) : (Lit.int .i64 x).wf = true := WalkArith.wf_i64 (by omega)
theorem kl_key (q : List Int) : WideAt.IsKeyLit (kl q) := trivial
abbrev DD := DataW Unit

end Go.Proofs.Ytdlnniciccpchaa

