import Derived.Test.YtdlnniciccpchaaLib
import Derived.ChangeKeysEq
import Derived.Deep.RegionHeld3
namespace Go.Pan
open Go Go.RowKit
section
variable {P : Program} (w : World)

theorem run_eqItems_ints (d : Nat) {e : TypeId} (he : P.underlying e = some (.int .i64)) (hc : P.cellsOf e = 1) (xs ys : List Int) (hl : xs.length = ys.length) :
    ∀ (m k : Nat), k + m = xs.length → (Op.eqItems (d + 1) e (P.cellsOf e) (xs.map iv).toArray (ys.map iv).toArray (List.range' k m)).run P w = .ok (decide (xs.drop k = ys.drop k)) w
  | 0, k, hk => by
    rw [List.drop_eq_nil_iff.2 (by omega), List.drop_eq_nil_iff.2 (by omega)]
    simp [Op.eqItems]
  | m + 1, k, hk => by
    have ih := run_eqItems_ints d he hc xs ys hl m (k + 1) (by omega)
    have hx : k < xs.length := by omega
    have hy : k < ys.length := by omega
    have hagg : (isAgg e).run P w = .ok false w := by
      unfold isAgg; rw [Sem.run_bind, run_underlying he w]; simp
    have hp : ∀ (zs : List Int) (hz : k < zs.length), (part e (zs.map iv).toArray (k * P.cellsOf e)).run P w = .ok (iv zs[k]) w := fun zs hz => by
      simp [part, Sem.run_bind, hagg, hc, hz]
    have heq : (Op.equalIn (d + 1) e (iv xs[k]) (iv ys[k])).run P w = .ok (xs[k] == ys[k]) w := run_equalIn_int w d e .i64 .i64 _ _ he
    rw [List.range'_succ]
    simp only [Op.eqItems, Sem.run_bind, hp xs hx, hp ys hy, Result.andThen_ok, heq]
    rw [List.drop_eq_getElem_cons hx, List.drop_eq_getElem_cons hy]
    by_cases h : xs[k] = ys[k]
    · simp only [h, beq_self_eq_true, Bool.not_true, Bool.false_eq_true, if_false, ih, List.cons.injEq, true_and]
    · have hb : (xs[k] == ys[k]) = false := by simpa using h
      simp only [hb, Bool.not_false, if_true, Sem.run_pure, List.cons.injEq, h, false_and, decide_false]

/-- two arrays of ints compared -/
theorem run_equalIn_ints (d : Nat) {t e : TypeId} {n : Nat} {i : TypeInfo} (xs ys : List Int) (hu : P.underlying t = some (.array n e)) (hi : P.info? e = some i) (he : P.underlying e = some (.int .i64)) (hc : P.cellsOf e = 1)
    (hx : xs.length = n) (hy : ys.length = n) : (Op.equalIn (d + 2) t (.agg (xs.map iv).toArray) (.agg (ys.map iv).toArray)).run P w = .ok (decide (xs = ys)) w := by
  rw [run_equalIn_array w (d + 1) _ _ hu hi, List.range_eq_range', run_eqItems_ints w d he hc xs ys (by omega) n 0 (by omega)]
  simp
end

end Go.Pan

