import Derived.Test.YtfcbaegkppkfkaaLib3
import Derived.Deep.MidRow
namespace Go.Pan
open Go Go.RowKit

theorem ival {k : IntKind} {a b : Int} (h : a = b) : Value.int k a = Value.int k b := by rw [h]

/-- values of so many cells -/
structure Cel (α : Type) (n : Nat) where
  c : α → List Value
  len : ∀ a, (c a).length = n
  one : ∀ a, ∀ v ∈ c a, v.oneCell' = true
def fl {α : Type} (c : α → List Value) (l : List α) : List Value := l.flatMap c
section
variable {α : Type} {n : Nat} (C : Cel α n)
theorem fl_nil (c : α → List Value) : fl c [] = [] := rfl
theorem fl_append (c : α → List Value) (l m : List α) : fl c (l ++ m) = fl c l ++ fl c m := by simp [fl]
theorem fl_one (c : α → List Value) (a : α) : fl c [a] = c a := by simp [fl]
theorem fl_length (l : List α) : (fl C.c l).length = l.length * n := by
  induction l with
  | nil => simp [fl]
  | cons a l ih =>
    have e : fl C.c (a :: l) = C.c a ++ fl C.c l := by simp [fl]
    rw [e, List.length_append, ih, C.len, List.length_cons, Nat.succ_mul, Nat.add_comm]
theorem fl_cell (l : List α) (v : Value) (h : v ∈ fl C.c l) : v.oneCell' = true := by
  simp only [fl, List.mem_flatMap] at h
  obtain ⟨a, _, h⟩ := h
  exact C.one a v h
theorem fl_get (l : List α) (k j : Nat) (hk : k < l.length) (hj : j < n) : (fl C.c l)[k * n + j]? = (C.c l[k])[j]? := by
  induction l generalizing k with
  | nil => simp at hk
  | cons a l ih =>
    have e : fl C.c (a :: l) = C.c a ++ fl C.c l := by simp [fl]
    rw [e]
    cases k with
    | zero => rw [List.getElem?_append_left (by rw [C.len]; omega)]; simp
    | succ k =>
      rw [List.getElem?_append_right (by rw [C.len, Nat.succ_mul]; omega), C.len, show (k + 1) * n + j - n = k * n + j by rw [Nat.succ_mul]; omega]
      exact ih k (by simpa using hk)
theorem fl_inj (hi : ∀ a b, C.c a = C.c b → a = b) : ∀ (l m : List α), l.length = m.length → fl C.c l = fl C.c m → l = m
  | [], [], _, _ => rfl
  | a :: l, b :: m, h, e => by
    have e1 : C.c a ++ fl C.c l = C.c b ++ fl C.c m := by simpa [fl] using e
    have h2 := List.append_inj e1 (by rw [C.len, C.len])
    rw [hi a b h2.1, fl_inj hi l m (by simpa using h) h2.2]
end

/-- a slice of such values: it can be read (whatever memory it lies in) -/
def Vals {α : Type} {n : Nat} (C : Cel α n) (w : World) (v : Value) (l : List α) : Prop :=
  ∃ (ad : Option Addr) (cap : Nat), v = .slice ad l.length cap ∧ l.length ≤ cap ∧ cap ≤ maxLen ∧
    (l ≠ [] → ∃ b off, ad = some ⟨b, off, none⟩ ∧ b < w.heap.size ∧ w.rangeAt b off (fl C.c l))
/-- .. and it may be written -/
abbrev OwnC {α : Type} {n : Nat} (C : Cel α n) (w : World) (v : Value) (l : List α) : Prop := Own w n v l.length (fl C.c l)

section
variable {α : Type} {n : Nat} {C : Cel α n}
theorem Vals.below {w w' : World} {v : Value} {l : List α} {B : Nat} (h : Vals C w v l) (hb : Below B w w') (hB : w.heap.size ≤ B) : Vals C w' v l := by
  obtain ⟨ad, cap, rfl, h1, h2, h3⟩ := h
  refine ⟨ad, cap, rfl, h1, h2, fun hx => ?_⟩
  obtain ⟨b, off, rfl, hlt, hc⟩ := h3 hx
  exact ⟨b, off, rfl, Nat.lt_of_lt_of_le hlt hb.size, range_below hc hb (Nat.lt_of_lt_of_le hlt hB)⟩
theorem OwnC.vals {w : World} {v : Value} {l : List α} (_hn : 0 < n) (h : OwnC C w v l) : Vals C w v l := by
  obtain ⟨ad, cap, rfl, h2, h3, h4⟩ := h.shape
  refine ⟨ad, cap, rfl, h2, h3, fun hx => ?_⟩
  have hl : 0 < l.length := List.length_pos_iff.2 hx
  obtain ⟨g, off, rfl, hg, hc, _⟩ := h.at (by omega)
  refine ⟨g, off, rfl, hg, fun j u hj => ?_⟩
  have hjl : j < l.length * n := by rw [← fl_length C l]; exact (List.getElem?_eq_some_iff.1 hj).1
  rw [hc j hjl]; exact hj
/-- the cells of one of them -/
theorem Vals.cells {w : World} {g off k : Nat} {l : List α} (h : w.rangeAt g off (fl C.c l)) (hk : k < l.length) : w.rangeAt g (off + k * n) (C.c l[k]) := fun j u hj => by
  have hjn : j < n := by rw [← C.len l[k]]; exact (List.getElem?_eq_some_iff.1 hj).1
  rw [Nat.add_assoc]
  exact h (k * n + j) u (by rw [fl_get C l k j hk hjn]; exact hj)
theorem OwnC.nil (w : World) : OwnC C w (.slice none 0 0) [] := Own.nil w n
end

-- values of two, three, four numbers
def c2 : Cel (Int × Int) 2 := ⟨fun p => [iv p.1, iv p.2], fun _ => rfl, fun p v h => by simp at h; rcases h with rfl | rfl <;> rfl⟩
def c3 : Cel (Int × Int × Int) 3 := ⟨fun p => [iv p.1, iv p.2.1, iv p.2.2], fun _ => rfl, fun p v h => by simp at h; rcases h with rfl | rfl | rfl <;> rfl⟩
def c4 : Cel (Int × Int × Int × Int) 4 := ⟨fun p => [iv p.1, iv p.2.1, iv p.2.2.1, iv p.2.2.2], fun _ => rfl, fun p v h => by simp at h; rcases h with rfl | rfl | rfl | rfl <;> rfl⟩
theorem c2_inj (a b : Int × Int) (h : c2.c a = c2.c b) : a = b := by
  obtain ⟨x, y⟩ := a; obtain ⟨x', y'⟩ := b
  simp [c2] at h
  obtain ⟨rfl, rfl⟩ := h; rfl
/-- a slice of pairs that came in -/
theorem Vals.of_pairs {w : World} {x : Addr} {len cap : Nat} {V0 V1 : Nat → Value} (hl : len ≤ cap) (hm : cap ≤ maxLen)
    (hc : ∀ i, i < len → w.cell? (x.add (i * 2)) = some (V0 i) ∧ w.cell? (x.add (i * 2 + 1)) = some (V1 i)) (hv : ∀ i, i < len → ∃ a b : Int, V0 i = iv a ∧ V1 i = iv b) :
    ∃ l : List (Int × Int), l.length = len ∧ Vals c2 w (.slice (some x) len cap) l := by
  obtain ⟨b, off, sp⟩ := x
  refine ⟨(List.range len).map fun i => (intOf (V0 i), intOf (V1 i)), by simp, ⟨some ⟨b, off, sp⟩, cap, by simp, by simpa using hl, hm, fun hx => ?_⟩⟩
  have h0 : 0 < len := by
    cases len with
    | zero => simp at hx
    | succ n => omega
  have hsp : sp = none := by
    have := (hc 0 h0).1
    cases sp with
    | none => rfl
    | some s =>
      have e : (⟨b, off, some s⟩ : Addr).add (0 * 2) = ⟨b, off, some s⟩ := by simp [Addr.add]
      rw [e] at this
      simp [World.cell?] at this
      split at this <;> simp at this
  subst hsp
  refine ⟨b, off, rfl, ?_, fun j u hj => ?_⟩
  · have := (hc 0 h0).1
    rw [Addr.add_lit] at this
    exact World.block_lt_of_cell? w _ this
  · have hjl : j < len * 2 := by
      have := (List.getElem?_eq_some_iff.1 hj).1
      rw [fl_length c2] at this
      simpa using this
    have hk : j / 2 < len := by omega
    have hj2 : j / 2 * 2 + j % 2 = j := by omega
    obtain ⟨a, c, ha, hc'⟩ := hv _ hk
    have hcell := hc _ hk
    rw [← hj2, fl_get c2 _ _ _ (by simpa using hk) (by omega)] at hj
    simp only [List.getElem_map, List.getElem_range, c2, ha, hc'] at hj
    rw [Addr.add_lit, Addr.add_lit, ha, hc'] at hcell
    rcases Nat.mod_two_eq_zero_or_one j with h | h
    · rw [h] at hj hj2
      simp [intOf] at hj
      rw [← hj, ← hj2]; exact hcell.1
    · rw [h] at hj hj2
      simp [intOf] at hj
      rw [← hj, ← hj2]; exact hcell.2

-- what 'make' lays, and a value stored whole
theorem madeCells_zero (n m : Nat) (h : 0 < n) : (madeCells (List.replicate n (iv 0)).toArray m).toList = List.replicate m (iv 0) := by
  apply List.ext_getElem (by simp [madeCells])
  intro i h1 h2
  have hi : i % n < n := Nat.mod_lt _ h
  simp [madeCells, hi]
theorem Blk.there {w : World} {g : Nat} {ty : TypeId} {cs : List Value} (h : Blk w g ty cs) {o m : Nat} (hm : o + m ≤ cs.length) : w.there g o m := fun j hj => by
  refine ⟨?_, h.frozen _⟩
  rw [h.cell, List.getElem?_eq_getElem (by omega)]
  rfl
theorem wpList_store_blk {P : Program} {ops : Array Oper} {rest : List Oper} {o : Oper} {a : Act} {w : World} {Q : Exit → Act → World → Prop} (hgd : o.guard = none) (ty : TypeId) (x y : Operand) (ho : o.op = .store ty x y)
    (g off : Nat) (vs : List Value) (hx : a.eval x = .pointer (some ⟨g, off, none⟩)) (hy : a.eval y = .agg vs.toArray) (t : TypeId) (cs : List Value) (hg : Blk w g t cs) (hfit : off + vs.length ≤ cs.length)
    (hi : (P.info? ty).map (·.size) = some vs.length) (h1 : ∀ v ∈ vs, v.oneCell' = true)
    (h : ∀ w', Blk w' g t (cs.take off ++ vs ++ cs.drop (off + vs.length)) → w.grownBy w' (some g) → wpList P ops Q rest (a.put o.dst undef) w') : wpList P ops Q (o :: rest) a w := by
  refine wpList_store_mid hgd ty x y ho g off vs.toArray hx hy (by simpa using hg.there hfit) (by simpa using hi) (all_oneCell_toArray h1) ?_
  have := h _ (hg.setCells vs off hfit) (grownBy_setCells vs off (World.grownBy.refl _ _))
  simpa using this
/-- the cells of a slice in the making: the first k are there -/
theorem fl_step {α : Type} {n : Nat} (C : Cel α n) (l : List α) (k : Nat) (hk : k < l.length) :
    (fl C.c (l.take k) ++ List.replicate ((l.length - k) * n) (iv 0)).take (k * n) ++ C.c l[k] ++ (fl C.c (l.take k) ++ List.replicate ((l.length - k) * n) (iv 0)).drop (k * n + (C.c l[k]).length) =
      fl C.c (l.take (k + 1)) ++ List.replicate ((l.length - (k + 1)) * n) (iv 0) := by
  have hl : (fl C.c (l.take k)).length = k * n := by rw [fl_length C, List.length_take, Nat.min_eq_left (by omega)]
  have e : (l.length - k) * n = n + (l.length - (k + 1)) * n := by
    rw [show l.length - k = (l.length - (k + 1)) + 1 by omega, Nat.succ_mul, Nat.add_comm]
  rw [List.take_left' hl, C.len, List.drop_append, List.drop_eq_nil_of_le (by omega), hl, List.nil_append, show k * n + n - k * n = n by omega, List.drop_replicate, List.take_succ_eq_append_getElem hk, fl_append, fl_one]
  congr 2
  omega
theorem OwnC.of_blk {α : Type} {n : Nat} {C : Cel α n} {w : World} {g : Nat} {ty : TypeId} {l : List α} {m : Nat} (h : Blk w g ty (fl C.c l)) (hm : m = l.length) (hmax : m ≤ maxLen) : OwnC C w (.slice (some ⟨g, 0, none⟩) m m) l := by
  subst hm
  refine ⟨_, l.length, rfl, fl_length C l, Nat.le_refl _, hmax, by simp, fun a ha => ?_⟩
  cases ha
  refine ⟨rfl, _, ty, h, ?_, fun j hj => ?_⟩
  · have := fl_length C l; simp; omega
  · simp
/-- the source of an append -/
theorem OwnC.src {α : Type} {n : Nat} {C : Cel α n} {w : World} {ad : Option Addr} {m cap : Nat} {l : List α} (h : Own w n (.slice ad m cap) m (fl C.c l)) (hm : m = l.length) : Src w ad m cap (fl C.c l) := by
  obtain ⟨ad', cap', hv, h1, h2, h3, h4, h⟩ := h
  simp only [Value.slice.injEq, true_and] at hv
  obtain ⟨rfl, rfl⟩ := hv
  cases ad with
  | none =>
    have hc := h4 rfl
    subst hc
    obtain rfl : m = 0 := by omega
    obtain rfl : l = [] := List.eq_nil_of_length_eq_zero hm.symm
    exact .inl ⟨rfl, rfl, rfl, rfl⟩
  | some a =>
    obtain ⟨hs, cur, ty, hh, r, hc⟩ := h a rfl
    obtain ⟨g, off, sp⟩ := a
    simp only at hs hh r hc
    subst hs
    refine .inr ⟨_, rfl, fun j u hj => ?_⟩
    have hlt : j < (fl C.c l).length := (List.getElem?_eq_some_iff.1 hj).1
    rw [fl_length C] at hlt
    rw [Addr.add_lit, cell_of_row w g _ cur ty (0, 0) hh, hc j (by rw [hm]; exact hlt), hj]
/-- a type of slices of such values -/
structure CelSl {α : Type} {n : Nat} (C : Cel α n) (P : Program) (t e : TypeId) (bytes : Nat) : Prop where
  u : P.underlying t = some (.slice e)
  i : ∃ i z, P.info? e = some i ∧ i.zero = some z ∧ z.cells.size = n ∧ i.size = n ∧ i.bytes = bytes
/-- 'append(s, x...)' -/
theorem wpList_appC {P : Program} {α : Type} {n : Nat} {C : Cel α n} {w : World} {ops : Array Oper} {rest : List Oper} {o : Oper} {a : Act} {Q : Exit → Act → World → Prop}
    {t e : TypeId} {bytes : Nat} (hT : CelSl C P t e bytes) (hn : 0 < n) (hbt : bytes ≤ 64) (hg : o.guard = none) (s x : Operand) (hop : o.op = Op.call { callee := Callee.builtin Builtin.append, args := #[s, x], argTypes := #[t, t] })
    (v : Value) (l : List α) (hs : a.eval s = v) (hown : OwnC C w v l) (B : Nat) (hfrom : From B v)
    (sp : Option Addr) (m c : Nat) (r : List α) (hx : a.eval x = .slice sp m c) (hm : m = r.length) (hc : Src w sp m c (fl C.c r))
    (w0 : World) (hb : Below B w0 w) (b0 : B ≤ w.heap.size) (b1 : l.length ≤ 1048576) (b2 : r.length ≤ 1048576)
    (hK : ∀ v' w', OwnC C w' v' (l ++ r) → From B v' → Below B w0 w' → w.grownBy w' v.ownBlock → wpList P ops Q rest (a.put o.dst v') w') :
    wpList P ops Q (o :: rest) a w := by
  obtain ⟨i, z, hi, hz, hzs, hs1, hb8⟩ := hT.i
  rcases hc with ⟨rfl, rfl, rfl, hnil⟩ | ⟨ad, rfl, hc⟩
  · obtain rfl : r = [] := List.eq_nil_of_length_eq_zero hm.symm
    obtain ⟨ad, cap, rfl, h1, h2, h3⟩ := hown.shape
    refine wpList_app_none hg s x t hop e i hT.u hi ad l.length cap hs h1 h3 hx ?_
    exact hK _ _ (by simpa using hown) hfrom hb ⟨rfl, rfl, rfl, Nat.le_refl _, fun _ _ _ => rfl⟩
  · have hmul : (l.length + m) * bytes ≤ (1048576 + 1048576) * 64 := Nat.mul_le_mul (by omega) hbt
    refine wpList_append_Own w hg s x t hop e i z n bytes hT.u hi hz hs1 hb8 hzs hn v l.length (fl C.c l) hs hown B hfrom ad m c (fl C.c r) hx (by rw [fl_length C, hm]) hc (fun u hu => fl_cell C r u hu) b0 (by unfold maxLen; omega) (by omega) ?_
    intro v' w' ho hf hgr
    refine hK v' w' ?_ hf (hb.grown hgr b0 (fun k hk => hfrom k (by simpa using hk))) hgr
    show Own _ _ _ (l ++ r).length _
    rw [List.length_append, fl_append, ← hm]
    exact ho
theorem Blk.of_rowN {w : World} {B g n sz : Nat} {e : TypeId} {cs : List Value} (h : w.ownsRow B e sz (.slice (some ⟨g, 0, none⟩) n n) n cs) : Blk w g e cs ∧ B ≤ g := by
  obtain ⟨hl, h⟩ := h
  rcases h with ⟨h, _⟩ | ⟨g', cap, cur, h, hg, hh, hc, hm, hs, ht⟩
  · simp at h
  · simp only [Value.slice.injEq, Option.some.injEq, Addr.mk.injEq, and_true, true_and] at h
    obtain ⟨rfl, rfl⟩ := h
    rw [List.take_of_length_le (by simp [hs])] at ht
    refine ⟨?_, hg⟩
    unfold Blk
    rw [hh, ← ht]
theorem wpList_storeS2 {P : Program} {ops : Array Oper} {rest : List Oper} {o : Oper} {a : Act} {w : World} {Q : Exit → Act → World → Prop}
    (hgd : o.guard = none) (ty : TypeId) (x y : Operand) (ho : o.op = .store ty x y) (g : Nat) (c0 c1 : Value) (hx : a.eval x = .pointer (some ⟨g, 0, none⟩)) (hy : a.eval y = .agg #[c0, c1])
    (t : TypeId) (old : List Value) (hg : Blk w g t old) (hi : (P.info? ty).map (·.size) = some 2) (hold : old.length = 2) (h1 : c0.oneCell' = true ∧ c1.oneCell' = true)
    (h : ∀ w', Blk w' g t [c0, c1] → w.grownBy w' (some g) → wpList P ops Q rest (a.put o.dst undef) w') : wpList P ops Q (o :: rest) a w :=
  wpList_store_row hgd ty x y ho g #[c0, c1] hx hy t old.toArray hg (by simpa using hi) (by simpa using hold) (by simp [h1]) (h _ (hg.setRow [c0, c1]) ⟨rfl, rfl, rfl, by simp [World.setRow], fun k _ hk => setRow_other w g k _ (fun e => hk (by rw [e]))⟩)
theorem wpList_loadS2 {P : Program} {ops : Array Oper} {rest : List Oper} {o : Oper} {a : Act} {w : World} {Q : Exit → Act → World → Prop}
    (hgd : o.guard = none) (ty : TypeId) (x : Operand) (ho : o.op = .load ty x) (g : Nat) (c0 c1 : Value) (hx : a.eval x = .pointer (some ⟨g, 0, none⟩))
    (t : TypeId) (hg : Blk w g t [c0, c1]) {d : TypeDesc} (hu : P.underlying ty = some d) (hs : (match d with | .struct _ | .array _ _ => true | _ => false) = true) (hi : (P.info? ty).map (·.size) = some 2)
    (h : wpList P ops Q rest (a.put o.dst (.agg #[c0, c1])) w) : wpList P ops Q (o :: rest) a w :=
  wpList_load_row hgd ty x ho g hx t #[c0, c1] _ _ hg hu hs (by simpa using hi) h
/-- the cells of the element k of a slice of one's own -/
theorem OwnC.rowAt {α : Type} {n : Nat} {C : Cel α n} {w : World} {ad : Option Addr} {cap k : Nat} {l : List α} (h : OwnC C w (.slice ad l.length cap) l) (hk : k < l.length) :
    ∃ g off, ad = some ⟨g, off, none⟩ ∧ g < w.heap.size ∧ w.rangeAt g (off + k * n) (C.c l[k]) := by
  obtain ⟨_, cap', hv, h2, _⟩ := h.shape
  simp only [Value.slice.injEq, true_and] at hv
  obtain ⟨_, rfl⟩ := hv
  obtain ⟨g, off, rfl, hg, hc, _⟩ := h.at (by omega)
  refine ⟨g, off, rfl, hg, fun j u hj => ?_⟩
  have hjn : j < n := by rw [← C.len l[k]]; exact (List.getElem?_eq_some_iff.1 hj).1
  have hb : k * n + j < l.length * n := by
    have : (k + 1) * n ≤ l.length * n := Nat.mul_le_mul_right _ hk
    rw [Nat.succ_mul] at this; omega
  rw [Nat.add_assoc, hc _ hb, fl_get C l k j hk hjn]; exact hj
theorem fillP (c0 c1 : Value) : ∀ (B : Array Value), B.size = 2 → (B.setIfInBounds 0 c0).setIfInBounds 1 c1 = #[c0, c1]
  | ⟨[b0, b1]⟩, _ => by simp
/-- a slice of one struct of two cells -/
theorem run_build_pair {P : Program} {t e : TypeId} {i : TypeInfo} {z0 z1 : Value} (hu : P.underlying t = some (.slice e)) (hi : P.info? e = some i) (hz : i.zero = some (.agg #[z0, z1])) (hs : i.size = 2) (w : World) (c0 c1 : Value) :
    (Instr.buildSlice t 1 #[(0, .agg #[c0, c1])]).run P w = .ok (.slice (some ⟨w.heap.size, 0, none⟩) 1 1) (w.alloc (.cells #[c0, c1] e)) := by
  have hf : ∀ (B : Array Value), B.size = 2 → (B.setIfInBounds 0 c0).setIfInBounds 1 c1 = #[c0, c1] := fillP c0 c1
  simp [Instr.buildSlice, run_underlying hu, Go.sizeOf, typeInfo, hi, hz, hs, zeroValue, Instr.fill, newRow, Value.cells, List.zipIdx, Array.range]
  rw [hf _ (by simp [hs])]
theorem wpList_build_pair {P : Program} {ops : Array Oper} {rest : List Oper} {o : Oper} {a : Act} {w : World} {Q : Exit → Act → World → Prop} {t e : TypeId} {i : TypeInfo} {z0 z1 : Value}
    (hu : P.underlying t = some (.slice e)) (hi : P.info? e = some i) (hz : i.zero = some (.agg #[z0, z1])) (hs : i.size = 2)
    (hg : o.guard = none) (x : Operand) (hop : o.op = Op.buildSlice t 1 #[(0, x)]) (c0 c1 : Value) (hx : a.eval x = .agg #[c0, c1])
    (h : wpList P ops Q rest (a.put o.dst (.slice (some ⟨w.heap.size, 0, none⟩) 1 1)) (w.alloc (.cells #[c0, c1] e))) :
    wpList P ops Q (o :: rest) a w := by
  refine wpList_plain hg fun K hK => ?_
  have hrun := run_build_pair (P := P) hu hi hz hs w c0 c1
  unfold Oper.wp
  simp [execOp, hop, hx, hrun, Result.andThen]
  exact hK _ _ h
/-- the source of an append of one -/
theorem Src.pair {w : World} {g : Nat} {ty : TypeId} {p : Int × Int} (h : Blk w g ty [iv p.1, iv p.2]) : Src w (some ⟨g, 0, none⟩) 1 1 (fl c2.c [p]) :=
  .inr ⟨_, rfl, fun j u hj => by
    rw [Addr.add_lit, Nat.zero_add, h.cell j]
    exact hj⟩
theorem Vals.le_max {α : Type} {n : Nat} {C : Cel α n} {w : World} {v : Value} {l : List α} (h : Vals C w v l) : (l.length : Int) ≤ 9223372036854775807 := by
  obtain ⟨ad, cap, _, h1, h2, _⟩ := h
  unfold maxLen at h2
  omega
theorem Own.clipN {w : World} {ad : Option Addr} {n cap sz : Nat} {cs : List Value} (h : Own w sz (.slice ad n cap) n cs) : Own w sz (.slice ad n n) n cs := by
  obtain ⟨ad', cap', hv, h1, h2, h3, h4, h⟩ := h
  simp only [Value.slice.injEq, true_and] at hv
  obtain ⟨rfl, rfl⟩ := hv
  have hm : n * sz ≤ cap * sz := Nat.mul_le_mul_right _ h2
  refine ⟨ad, n, rfl, h1, Nat.le_refl _, by omega, fun e => by have := h4 e; omega, fun a ha => ?_⟩
  obtain ⟨hs, cur, ty, hh, r, hc⟩ := h a ha
  exact ⟨hs, cur, ty, hh, by omega, hc⟩

end Go.Pan

