import Derived.Test.YtdlnniciccpchaaLib
import Derived.Laws.OwnMore
namespace Go.Pan
open Go Go.RowKit

theorem _root_.Go.World.grownBy.drewN {a w : World} {row : Option Nat} (h : a.grownBy w row) (n : Nat) : a.grownBy (w.drewN n) row := ⟨h.os, h.tape, h.output, h.size, h.block⟩
theorem _root_.Go.World.grownBy.drew1 {a w : World} {row : Option Nat} (h : a.grownBy w row) : a.grownBy w.drew row := ⟨h.os, h.tape, h.output, h.size, h.block⟩
theorem Blk.drewN {w : World} {g : Nat} {ty : TypeId} {cs : List Value} (h : Blk w g ty cs) (n : Nat) : Blk (w.drewN n) g ty cs := h
theorem Blk.drew {w : World} {g : Nat} {ty : TypeId} {cs : List Value} (h : Blk w g ty cs) : Blk w.drew g ty cs := h
theorem grown_of_below {a w : World} (h : Below a.heap.size a w) (row : Option Nat) : a.grownBy w row := ⟨h.os, h.tape, h.output, h.size, fun i hi _ => h.block i hi⟩
theorem Blk.grown {w w' : World} {g : Nat} {ty : TypeId} {cs : List Value} {row : Option Nat} (h : Blk w g ty cs) (hg : w.grownBy w' row) (hne : row ≠ some g) : Blk w' g ty cs := by
  unfold Blk
  rw [hg.block g h.lt (fun e => hne e.symm)]
  exact h

/-- t is a type of slices of ints -/
structure IntSl (P : Program) (t e : TypeId) : Prop where
  u : P.underlying t = some (.slice e)
  i : ∃ i, P.info? e = some i ∧ i.zero = some (.int .i64 0) ∧ i.size = 1 ∧ i.bytes = 8

/-- the source of an append: its cells -/
def Src (w : World) (sp : Option Addr) (m c : Nat) (news : List Value) : Prop :=
  (sp = none ∧ m = 0 ∧ c = 0 ∧ news = []) ∨ ∃ ad, sp = some ad ∧ ∀ j u, news[j]? = some u → w.cell? (ad.add j) = some u

theorem Own.src {w : World} {n cap : Nat} {ad : Option Addr} {cs : List Value} (h : Own w 1 (.slice ad n cap) n cs) : Src w ad n cap cs := by
  obtain ⟨ad', cap', hv, h1, h2, h3, h4, h⟩ := h
  simp only [Value.slice.injEq, true_and] at hv
  obtain ⟨rfl, rfl⟩ := hv
  cases ad with
  | none =>
    have hc := h4 rfl
    subst hc
    obtain rfl : n = 0 := by omega
    exact .inl ⟨rfl, rfl, rfl, List.eq_nil_of_length_eq_zero (by simpa using h1)⟩
  | some a =>
    obtain ⟨hs, cur, ty, hh, r, hc⟩ := h a rfl
    obtain ⟨g, off, sp⟩ := a
    simp only at hs hh r hc
    subst hs
    refine .inr ⟨_, rfl, fun j u hj => ?_⟩
    have hlt : j < cs.length := (List.getElem?_eq_some_iff.1 hj).1
    rw [Addr.add_lit, cell_of_row w g _ cur ty (0, 0) hh, hc j (by omega), hj]

theorem wpList_app_none {P : Program} {w : World} {ops : Array Oper} {rest : List Oper} {o : Oper} {a : Act} {Q : Exit → Act → World → Prop} (hgd : o.guard = none) (s x : Operand) (t : TypeId)
    (ho : o.op = .call { callee := .builtin .append, args := #[s, x], argTypes := #[t, t] })
    (e : TypeId) (i : TypeInfo) (ht : P.underlying t = some (.slice e)) (hi : P.info? e = some i)
    (ad : Option Addr) (n cap : Nat) (hs : a.eval s = .slice ad n cap) (hn : n ≤ cap) (hnil : ad = none → cap = 0) (hx : a.eval x = .slice none 0 0)
    (h : wpList P ops Q rest (a.put o.dst (.slice ad n cap)) w) : wpList P ops Q (o :: rest) a w := by
  have hrun : (Builtin.append_ #[t, t] o.type #[.slice ad n cap, .slice none 0 0]).run P w = .ok (.slice ad n cap) w := by
    cases ad with
    | none =>
      have hc := hnil rfl
      subst hc
      obtain rfl : n = 0 := by omega
      simp [Builtin.append_, run_underlying ht, sizeOf, typeInfo, hi, Builtin.lenOf, Builtin.firstCells]
    | some b => simp [Builtin.append_, run_underlying ht, sizeOf, typeInfo, hi, Builtin.lenOf, Builtin.firstCells, hn, storeCells]
  refine wpList_plain hgd fun K hK => ?_
  unfold Oper.wp
  simp [execOp, ho, resolve, invoke, builtin, hs, hx, hrun, Result.andThen]
  exact hK _ _ h

/-- 'append(s, x...)' of ints -/
theorem wpList_appI {P : Program} {w : World} {ops : Array Oper} {rest : List Oper} {o : Oper} {a : Act} {Q : Exit → Act → World → Prop}
    {t e : TypeId} (hT : IntSl P t e) (hg : o.guard = none) (s x : Operand) (hop : o.op = Op.call { callee := Callee.builtin Builtin.append, args := #[s, x], argTypes := #[t, t] })
    (v : Value) (xs : List Int) (hs : a.eval s = v) (hown : OwnI w v xs) (B : Nat) (hfrom : From B v)
    (sp : Option Addr) (m c : Nat) (ys : List Int) (hx : a.eval x = .slice sp m c) (hm : m = ys.length) (hc : Src w sp m c (ys.map iv))
    (w0 : World) (hb : Below B w0 w) (b0 : B ≤ w.heap.size) (b1 : xs.length ≤ 1048576) (b2 : ys.length ≤ 1048576)
    (hK : ∀ v' w', OwnI w' v' (xs ++ ys) → From B v' → Below B w0 w' → w.grownBy w' v.ownBlock → wpList P ops Q rest (a.put o.dst v') w') :
    wpList P ops Q (o :: rest) a w := by
  obtain ⟨i, hi, hz, hs1, hb8⟩ := hT.i
  rcases hc with ⟨rfl, rfl, rfl, hnil⟩ | ⟨ad, rfl, hc⟩
  · obtain rfl : ys = [] := by simpa using hnil
    obtain ⟨ad, cap, rfl, h1, h2, h3⟩ := hown.shape
    refine wpList_app_none hg s x t hop e i hT.u hi ad xs.length cap hs h1 h3 hx ?_
    exact hK _ _ (by simpa using hown) hfrom hb ⟨rfl, rfl, rfl, Nat.le_refl _, fun _ _ _ => rfl⟩
  · refine wpList_append_Own w hg s x t hop e i (.int .i64 0) 1 8 hT.u hi hz hs1 hb8 rfl (by decide) v xs.length (xs.map iv) hs hown B hfrom ad m c (ys.map iv) hx (by simp [hm]) hc (by simp [Value.oneCell']) b0 (by unfold maxLen; omega) (by omega) ?_
    intro v' w' ho hf hg
    refine hK v' w' ?_ hf (hb.grown hg b0 (fun k hk => hfrom k (by simpa using hk))) hg
    unfold OwnI
    rw [List.length_append, List.map_append, ← hm]
    exact ho

/-- 'append(s, y)' of one int -/
theorem wpList_app1 {P : Program} {w : World} {ops : Array Oper} {rest : List Oper} {o : Oper} {a : Act} {Q : Exit → Act → World → Prop}
    {t e : TypeId} (hT : IntSl P t e) (hg : o.guard = none) (s x : Operand) (hop : o.op = Op.call { callee := Callee.builtin Builtin.append, args := #[s, x], argTypes := #[t, t] })
    (v : Value) (xs : List Int) (hs : a.eval s = v) (hown : OwnI w v xs) (B : Nat) (hfrom : From B v)
    (g : Nat) (y : Int) (hx : a.eval x = .slice (some ⟨g, 0, none⟩) 1 1) (hc : w.cell? ⟨g, 0, none⟩ = some (iv y))
    (w0 : World) (hb : Below B w0 w) (b0 : B ≤ w.heap.size) (b1 : xs.length ≤ 1048576)
    (hK : ∀ v' w', OwnI w' v' (xs ++ [y]) → From B v' → Below B w0 w' → w.grownBy w' v.ownBlock → wpList P ops Q rest (a.put o.dst v') w') :
    wpList P ops Q (o :: rest) a w :=
  wpList_appI hT hg s x hop v xs hs hown B hfrom _ 1 1 [y] hx rfl (.inr ⟨_, rfl, fun j u hj => by
    have hj1 : j < 1 := (List.getElem?_eq_some_iff.1 hj).1
    obtain rfl : j = 0 := by omega
    simp at hj
    subst hj
    exact hc⟩) w0 hb b0 b1 (by simp) hK

/-- 's[k:]' -/
theorem Own.drop {w : World} {ad : Option Addr} {n cap k : Nat} {cs : List Value} (h : Own w 1 (.slice ad n cap) n cs) (hk : k ≤ n) :
    Own w 1 (.slice (if cap = k then ad else ad.map (·.add (k * 1))) (n - k) (cap - k)) (n - k) (cs.drop k) := by
  obtain ⟨ad', cap', hv, h1, h2, h3, h4, h⟩ := h
  simp only [Value.slice.injEq, true_and] at hv
  obtain ⟨rfl, rfl⟩ := hv
  refine ⟨_, _, rfl, by simp; omega, by omega, by omega, ?_, ?_⟩
  · intro hn
    split at hn
    · have := h4 hn; omega
    · cases ad with
      | none => have := h4 rfl; omega
      | some b => simp at hn
  · intro a ha
    split at ha
    · rename_i e
      obtain ⟨hs, cur, ty, hh, r, hc⟩ := h a ha
      exact ⟨hs, cur, ty, hh, by omega, fun j hj => by omega⟩
    · cases ad with
      | none => simp at ha
      | some b =>
        simp only [Option.map_some, Option.some.injEq] at ha
        obtain ⟨hs, cur, ty, hh, r, hc⟩ := h b rfl
        obtain ⟨g, off, sp⟩ := b
        simp only at hs hh r hc
        subst hs
        rw [Addr.add_lit] at ha
        subst ha
        refine ⟨rfl, cur, ty, hh, by show off + k * 1 + _ ≤ _; omega, fun j hj => ?_⟩
        show cur[off + k * 1 + j]? = _
        rw [List.getElem?_drop, Nat.mul_one, Nat.add_assoc]
        exact hc (k + j) (by omega)

theorem Own.clip {w : World} {ad : Option Addr} {n cap : Nat} {cs : List Value} (h : Own w 1 (.slice ad n cap) n cs) : Own w 1 (.slice ad n n) n cs := by
  obtain ⟨ad', cap', hv, h1, h2, h3, h4, h⟩ := h
  simp only [Value.slice.injEq, true_and] at hv
  obtain ⟨rfl, rfl⟩ := hv
  refine ⟨ad, n, rfl, h1, Nat.le_refl _, by omega, fun e => by have := h4 e; omega, fun a ha => ?_⟩
  obtain ⟨hs, cur, ty, hh, r, hc⟩ := h a ha
  exact ⟨hs, cur, ty, hh, by omega, hc⟩

theorem wpList_from {P : Program} {w : World} {ops : Array Oper} {rest : List Oper} {o : Oper} {a : Act} {Q : Exit → Act → World → Prop}
    {t e : TypeId} (hT : IntSl P t e) (hg : o.guard = none) (x lo : Operand) (hop : o.op = .slice t x (some lo) none none)
    (ad : Option Addr) (n cap k : Nat) (hx : a.eval x = .slice ad n cap) (hl : a.eval lo = .int .i64 k) (hk : k ≤ n) (xs : List Int) (hn : n = xs.length) (hown : OwnI w (.slice ad n cap) xs)
    (hK : ∀ sp m c, Hid (m = (xs.drop k).length) → OwnI w (.slice sp m c) (xs.drop k) → Src w sp m c ((xs.drop k).map iv) → (Value.slice sp m c).ownBlock = (Value.slice ad n cap).ownBlock → wpList P ops Q rest (a.put o.dst (.slice sp m c)) w) :
    wpList P ops Q (o :: rest) a w := by
  subst hn
  obtain ⟨i, hi, hz, hs1, hb8⟩ := hT.i
  have he : P.elem t = e := by simp [Program.elem, hT.u]
  have hrun : (Instr.sliceAt t (.slice ad xs.length cap) (some (.int .i64 k)) none none).run P w = .ok (.slice (if cap = k then ad else ad.map (·.add (k * 1))) (xs.length - k) (cap - k)) w := by
    rw [run_sliceAt_slice w t _ _ _ _ (by rw [he]; exact hT.u), run_slice_l w t ad xs.length cap (by rw [he]; exact hT.u) .i64 k (by omega) (by omega)]
    simp [sizeOf, typeInfo, he, hi, hs1, sliced, Result.andThen]
  have hd := Own.drop hown hk
  refine wpList_plain hg fun K hK' => ?_
  unfold Oper.wp
  simp [execOp, hop, hx, hl, hrun, Result.andThen]
  refine hK' _ _ (hK _ (xs.length - k) _ (Lib.hid (by simp)) ?_ (by rw [List.map_drop]; simpa only [Nat.mul_one] using Own.src hd) ?_)
  · unfold OwnI
    rw [List.length_drop, List.map_drop]
    simpa only [Nat.mul_one] using hd
  · cases ad with
    | none => simp [Value.ownBlock]
    | some b => by_cases hc : cap = k <;> by_cases hk0 : k = 0 <;> simp [hc, hk0, Value.ownBlock, Addr.add]

theorem Src.alloc {w : World} {sp : Option Addr} {m c : Nat} {news : List Value} (h : Src w sp m c news) (o : Obj) : Src (w.alloc o) sp m c news := by
  rcases h with h | ⟨ad, rfl, h⟩
  · exact .inl h
  · exact .inr ⟨ad, rfl, fun j u hj => by
      have hc := h j u hj
      have hb := World.block_lt_of_cell? w _ hc
      have hbb : (⟨(ad.add j).block, (ad.add j).off, (ad.add j).spot⟩ : Addr) = ad.add j := rfl
      rw [← hc]
      exact World.cell?_of_block (Below.heap_alloc w o _ hb)⟩
theorem From.at (B g o n c : Nat) (h : B ≤ g) : From B (.slice (some ⟨g, o, none⟩) n c) := fun k hk => by
  simp [Value.ownBlock] at hk; omega
theorem OwnI.lit (w : World) (ty : TypeId) (xs : List Int) (n : Nat) (hn : n = xs.length) (hm : n ≤ 1048576) (cs : Array Value) (hcs : cs = (xs.map iv).toArray) : OwnI (w.alloc (.cells cs ty)) (.slice (some ⟨w.heap.size, 0, none⟩) n n) xs := by
  subst hn
  subst hcs
  refine ⟨_, xs.length, rfl, by simp, Nat.le_refl _, by unfold maxLen; omega, by simp, fun a ha => ?_⟩
  cases ha
  exact ⟨rfl, _, ty, heap_alloc_new w _, by simp, fun j hj => by simp⟩
theorem Blk.of_row {w : World} {B g n : Nat} {e : TypeId} {cs : List Value} (h : w.ownsRow B e 1 (.slice (some ⟨g, 0, none⟩) n n) n cs) : Blk w g e cs ∧ B ≤ g := by
  obtain ⟨hl, h⟩ := h
  rcases h with ⟨h, _⟩ | ⟨g', cap, cur, h, hg, hh, hc, hm, hs, ht⟩
  · simp at h
  · simp only [Value.slice.injEq, Option.some.injEq, Addr.mk.injEq, and_true, true_and] at h
    obtain ⟨rfl, rfl⟩ := h
    rw [List.take_of_length_le (by simp [hs])] at ht
    refine ⟨?_, hg⟩
    unfold Blk
    rw [hh, ← ht]
theorem OwnI.of_blk0 {w : World} {g n : Nat} {ty : TypeId} {xs : List Int} (h : Blk w g ty (xs.map iv)) (hn : n = xs.length) (hm : n ≤ 1048576) : OwnI w (.slice (some ⟨g, 0, none⟩) n n) xs := by
  subst hn
  refine ⟨_, xs.length, rfl, by simp, Nat.le_refl _, by unfold maxLen; omega, by simp, fun a ha => ?_⟩
  cases ha
  exact ⟨rfl, _, ty, h, by simp, fun j hj => by simp⟩
theorem OwnI.of_made {w : World} {B n : Nat} {e : TypeId} {v : Value} (h : w.ownsRow B e 1 v n (madeCells #[Value.int .i64 0] n).toList) : OwnI w v (List.replicate n 0) := by
  have h1 := (Own.of_row h).1
  rw [toList_madeCells_one] at h1
  unfold OwnI
  rw [List.length_replicate, List.map_replicate]
  exact h1
/-- a cell of a list of one's own, and what a store there leaves -/
theorem OwnI.cellAt {w : World} {g n cap : Nat} {xs : List Int} (h : OwnI w (.slice (some ⟨g, 0, none⟩) n cap) xs) (j : Nat) (hj : j < xs.length) :
    w.cell? ⟨g, j, none⟩ = some (iv xs[j]) ∧ w.frozen? ⟨g, j, none⟩ = false ∧ ∀ u : Int, OwnI (w.setCell ⟨g, j, none⟩ (iv u)) (.slice (some ⟨g, 0, none⟩) n cap) (xs.set j u) := by
  obtain ⟨ad, cap', hv, h1, h2, h3⟩ := h.shape
  simp only [Value.slice.injEq] at hv
  obtain ⟨_, rfl, rfl⟩ := hv
  obtain ⟨g', off, e, hg, hc, hf⟩ := Own.at h (by omega)
  simp only [Option.some.injEq, Addr.mk.injEq, and_true] at e
  obtain ⟨rfl, rfl⟩ := e
  have hcj := hc j (by omega)
  rw [Nat.zero_add, List.getElem?_map, List.getElem?_eq_getElem hj] at hcj
  refine ⟨hcj, hf j, fun u => ?_⟩
  have hs := Own.stored h j (by omega) (iv u)
  unfold OwnI
  rw [List.length_set, List.map_set]
  rw [Nat.zero_add] at hs
  exact hs
theorem below_new (w : World) (o : Obj) : Below w.heap.size w (w.alloc o) := (Below.refl _ _).alloc (Nat.le_refl _) _

end Go.Pan

