import Derived.Test.YtfcbaegkppkfkaaLib2
import Derived.Laws.IdiomCopy
namespace Go.Pan
open Go Go.RowKit

theorem set_take_drop {α : Type} (cs : List α) (o m : Nat) (v : α) (r : List α) (h : o < cs.length) : (cs.set o v).take (o + 1) ++ r ++ (cs.set o v).drop (o + 1 + m) = cs.take o ++ (v :: r) ++ cs.drop (o + (m + 1)) := by
  have h1 : (cs.set o v).take (o + 1) = cs.take o ++ [v] := by
    rw [List.take_succ_eq_append_getElem (by simpa using h), List.getElem_set_self, List.take_set_of_le (Nat.le_refl _)]
  have h2 : (cs.set o v).drop (o + 1 + m) = cs.drop (o + (m + 1)) := by
    rw [List.drop_set_of_lt (by omega)]
    congr 1
    omega
  rw [h1, h2]
  simp

theorem Blk.setCells {g : Nat} {ty : TypeId} : ∀ (zs : List Value) {w : World} {cs : List Value} (o : Nat), Blk w g ty cs → o + zs.length ≤ cs.length → Blk (w.setCells g o zs) g ty (cs.take o ++ zs ++ cs.drop (o + zs.length))
  | [], w, cs, o, h, _ => by
    simp only [World.setCells, List.append_nil, List.length_nil, Nat.add_zero, List.take_append_drop]
    exact h
  | v :: r, w, cs, o, h, hl => by
    simp only [List.length_cons] at hl
    have h1 := Blk.setCells r (o + 1) (h.set o v) (by simpa using (by omega : o + 1 + r.length ≤ cs.length))
    rw [set_take_drop cs o r.length v r (by omega)] at h1
    exact h1

theorem grownBy_setCells {g : Nat} : ∀ (zs : List Value) {w0 w : World} (o : Nat), w0.grownBy w (some g) → w0.grownBy (w.setCells g o zs) (some g)
  | [], _, _, _, h => h
  | v :: r, w0, w, o, h => grownBy_setCells r (o + 1) ⟨h.os, h.tape, h.output, by have := h.size; simpa [World.setCell] using this, fun k hk hne => (heap_setCell_other w ⟨g, o, none⟩ k v (fun e => hne (by simp [e]))).trans (h.block k hk hne)⟩

theorem run_from {P : Program} {t e : TypeId} (hT : IntSl P t e) (ad : Option Addr) (n cap k : Nat) (hk : k ≤ n) (w : World) :
    (Instr.sliceAt t (.slice ad n cap) (some (.int .i64 k)) none none).run P w = .ok (.slice (if cap = k then ad else ad.map (·.add k)) (n - k) (cap - k)) w := by
  obtain ⟨i, hi, hz, hs1, hb8⟩ := hT.i
  have he : P.elem t = e := by simp [Program.elem, hT.u]
  rw [run_sliceAt_slice w t _ _ _ _ (by rw [he]; exact hT.u), run_slice_l w t ad n cap (by rw [he]; exact hT.u) .i64 k (by omega) (by omega)]
  simp [sizeOf, typeInfo, he, hi, hs1, sliced, Result.andThen]

end Go.Pan

