import Derived.WalkKit
import Derived.Lib.Hide
import Derived.BigQuiet
import Derived.Deep.QuietTactic
import Derived.Laws.CopyOwn
import Derived.Deep.RegionHeld3
namespace Go.Pan
open Go Go.RowKit

abbrev iv (x : Int) : Value := .int .i64 x

theorem _root_.Go.RowKit.Below.drewN {B : Nat} {a w : World} (h : Below B a w) (n : Nat) : Below B a (w.drewN n) := ⟨h.os, h.tape, h.output, h.size, h.block⟩

/-- A slice of ints that can be read as xs (whatever memory it lies in). -/
def Ints (w : World) (v : Value) (xs : List Int) : Prop :=
  ∃ (ad : Option Addr) (cap : Nat), v = .slice ad xs.length cap ∧ xs.length ≤ cap ∧ cap ≤ maxLen ∧
    (xs ≠ [] → ∃ b off, ad = some ⟨b, off, none⟩ ∧ b < w.heap.size ∧
      ∀ i, i < xs.length → w.cell? ⟨b, off + i, none⟩ = some (iv (xs.getD i 0)))

theorem Ints.below {w w' : World} {v : Value} {xs : List Int} {B : Nat} (h : Ints w v xs) (hb : Below B w w') (hB : w.heap.size ≤ B) : Ints w' v xs := by
  obtain ⟨ad, cap, rfl, h1, h2, h3⟩ := h
  refine ⟨ad, cap, rfl, h1, h2, fun hx => ?_⟩
  obtain ⟨b, off, rfl, hlt, hc⟩ := h3 hx
  exact ⟨b, off, rfl, Nat.lt_of_lt_of_le hlt hb.size, fun i hi => by rw [hb.cell (p := ⟨b, off + i, none⟩) (by exact Nat.lt_of_lt_of_le hlt hB)]; exact hc i hi⟩

theorem Ints.of_row {w : World} {a : Option Addr} {len cap : Nat} {zs : List Int} (h : (a = none ∧ len = 0 ∧ cap = 0 ∧ zs = []) ∨
    ∃ x, a = some x ∧ len ≤ cap ∧ cap ≤ maxLen ∧ zs.length = cap ∧ (∀ i, i < zs.length → w.cell? (x.add i) = some (.int .i64 (zs.getD i 0))) ∧ ∀ n ∈ zs, (Lit.int .i64 n).wf = true) :
    ∃ xs : List Int, xs.length = len ∧ Ints w (.slice a len cap) xs ∧ ∀ n ∈ xs, (Lit.int .i64 n).wf = true := by
  rcases h with ⟨rfl, rfl, rfl, rfl⟩ | ⟨⟨b, off, sp⟩, rfl, hl, hm, hz, hc, hwf⟩
  · exact ⟨[], rfl, ⟨none, 0, rfl, by simp, by simp [maxLen], by simp⟩, by simp⟩
  · refine ⟨zs.take len, by simp; omega, ⟨some ⟨b, off, sp⟩, cap, by simp; omega, by simp; omega, hm, fun hx => ?_⟩, fun n hn => hwf n (List.mem_of_mem_take hn)⟩
    have h0 : 0 < len := by
      cases len with
      | zero => simp at hx
      | succ n => omega
    have hsp : sp = none := by
      have := hc 0 (by omega)
      cases sp with
      | none => rfl
      | some s =>
        have e : (⟨b, off, some s⟩ : Addr).add 0 = ⟨b, off, some s⟩ := by simp [Addr.add]
        rw [e] at this
        simp [World.cell?] at this
        split at this <;> simp at this
    subst hsp
    refine ⟨b, off, rfl, ?_, fun i hi => ?_⟩
    · have := hc 0 (by omega)
      rw [Addr.add_lit] at this
      exact World.block_lt_of_cell? w _ this
    · have hi' : i < len := by simp at hi; omega
      have := hc i (by omega)
      rw [Addr.add_lit] at this
      rw [this]
      simp [hi']

/-- A slice whose cells (and spare cells) lie in one block that may be written. -/
def Own (w : World) (sz : Nat) (v : Value) (n : Nat) (cs : List Value) : Prop :=
  ∃ (ad : Option Addr) (cap : Nat), v = .slice ad n cap ∧ cs.length = n * sz ∧ n ≤ cap ∧ cap ≤ maxLen ∧ (ad = none → cap = 0) ∧
    ∀ a, ad = some a → a.spot = none ∧ ∃ cur ty, w.heap[a.block]? = some (.cells cur ty (0, 0)) ∧ a.off + cap * sz ≤ cur.size ∧ ∀ j, j < n * sz → cur[a.off + j]? = cs[j]?

def From (B : Nat) (v : Value) : Prop := ∀ g, v.ownBlock = some g → B ≤ g

abbrev OwnI (w : World) (v : Value) (xs : List Int) : Prop := Own w 1 v xs.length (xs.map iv)

theorem From.mono {B B' : Nat} {v : Value} (h : From B v) (hB : B' ≤ B) : From B' v := fun g hg => Nat.le_trans hB (h g hg)
theorem From.nil (B : Nat) (n c : Nat) : From B (.slice none n c) := fun g hg => by simp [Value.ownBlock] at hg

theorem Own.nil (w : World) (sz : Nat) : Own w sz (.slice none 0 0) 0 [] :=
  ⟨none, 0, rfl, by simp, Nat.le_refl _, by simp [maxLen], fun _ => rfl, fun a h => by cases h⟩

theorem OwnI.nil (w : World) : OwnI w (.slice none 0 0) [] := Own.nil w 1

theorem Own.of_row {w : World} {base sz n : Nat} {e : TypeId} {v : Value} {cs : List Value} (h : w.ownsRow base e sz v n cs) : Own w sz v n cs ∧ From base v := by
  obtain ⟨hl, h⟩ := h
  rcases h with ⟨rfl, rfl⟩ | ⟨g, cap, cur, rfl, hg, hh, hc, hm, hs, ht⟩
  · obtain rfl : cs = [] := List.eq_nil_of_length_eq_zero (by simpa using hl)
    exact ⟨Own.nil w sz, From.nil _ _ _⟩
  · refine ⟨⟨_, cap, rfl, hl, hc, hm, by simp, ?_⟩, ?_⟩
    · intro a ha
      cases ha
      refine ⟨rfl, cur, e, hh, by simp [hs], fun j hj => ?_⟩
      rw [← ht, List.getElem?_take, if_pos hj]
      simp
    · intro g' hg'
      simp [Value.ownBlock] at hg'
      omega

theorem Own.lt {w : World} {sz n : Nat} {v : Value} {cs : List Value} (h : Own w sz v n cs) : ∀ g, v.ownBlock = some g → g < w.heap.size := by
  obtain ⟨ad, cap, rfl, _, _, _, _, h⟩ := h
  intro g hg
  cases ad with
  | none => simp [Value.ownBlock] at hg
  | some a =>
    simp [Value.ownBlock] at hg
    obtain ⟨_, cur, ty, hh, _⟩ := h a rfl
    subst hg
    exact (Array.getElem?_eq_some_iff.1 hh).1

theorem Own.kept {w w' : World} {sz n : Nat} {v : Value} {cs : List Value} (h : Own w sz v n cs) (hk : ∀ g, v.ownBlock = some g → w'.heap[g]? = w.heap[g]?) : Own w' sz v n cs := by
  obtain ⟨ad, cap, rfl, h1, h2, h3, h4, h⟩ := h
  refine ⟨ad, cap, rfl, h1, h2, h3, h4, fun a ha => ?_⟩
  obtain ⟨hs, cur, ty, hh, r⟩ := h a ha
  subst ha
  exact ⟨hs, cur, ty, by rw [hk a.block rfl]; exact hh, r⟩

theorem Own.below {w w' : World} {sz n B : Nat} {v : Value} {cs : List Value} (h : Own w sz v n cs) (hb : Below B w w') (hB : w.heap.size ≤ B) : Own w' sz v n cs :=
  h.kept fun g hg => hb.block g (Nat.lt_of_lt_of_le (h.lt g hg) hB)
theorem Own.same {w w' : World} {sz n : Nat} {v : Value} {cs : List Value} (h : Own w sz v n cs) (hb : Below w.heap.size w w') : Own w' sz v n cs := h.below hb (Nat.le_refl _)
theorem Own.alloc {w : World} {sz n : Nat} {v : Value} {cs : List Value} (h : Own w sz v n cs) (o : Obj) : Own (w.alloc o) sz v n cs :=
  h.kept fun g hg => Below.heap_alloc w o g (h.lt g hg)
theorem Own.drew {w : World} {sz n : Nat} {v : Value} {cs : List Value} (h : Own w sz v n cs) : Own w.drew sz v n cs := h.kept fun _ _ => rfl
theorem Own.grown {w w' : World} {sz n : Nat} {v : Value} {cs : List Value} {row : Option Nat} (h : Own w sz v n cs) (hg : w.grownBy w' row) (hne : ∀ g, v.ownBlock = some g → row ≠ some g) : Own w' sz v n cs :=
  h.kept fun g hg' => hg.block g (h.lt g hg') (fun e => hne g hg' e.symm)

/-- The cells of an owned slice with an element: where they lie. -/
theorem Own.at {w : World} {sz n cap : Nat} {ad : Option Addr} {cs : List Value} (h : Own w sz (.slice ad n cap) n cs) (hn : 0 < cap) :
    ∃ g off, ad = some ⟨g, off, none⟩ ∧ g < w.heap.size ∧ (∀ j, j < n * sz → w.cell? ⟨g, off + j, none⟩ = cs[j]?) ∧ (∀ j, w.frozen? ⟨g, j, none⟩ = false) := by
  obtain ⟨ad', cap', hv, h1, h2, h3, h4, h⟩ := h
  simp only [Value.slice.injEq, true_and] at hv
  obtain ⟨rfl, rfl⟩ := hv
  cases ad with
  | none => have := h4 rfl; omega
  | some a =>
    obtain ⟨hs, cur, ty, hh, r, hc⟩ := h a rfl
    obtain ⟨g, off, sp⟩ := a
    simp only at hs hh r hc
    subst hs
    exact ⟨g, off, rfl, (Array.getElem?_eq_some_iff.1 hh).1, fun j hj => by rw [cell_of_row w g _ cur ty (0, 0) hh, hc j hj], fun j => frozen_of_row w g j cur ty hh⟩

theorem apart_lt {u v : Value} {s : Nat} (hu : ∀ g, u.ownBlock = some g → g < s) (hv : From s v) : ∀ g, u.ownBlock = some g → v.ownBlock ≠ some g := fun g hg e => by
  have := hu g hg; have := hv g e; omega
theorem apart_gt {u v : Value} {s : Nat} (hu : From s u) (hv : ∀ g, v.ownBlock = some g → g < s) : ∀ g, u.ownBlock = some g → v.ownBlock ≠ some g := fun g hg e => by
  have := hu g hg; have := hv g e; omega

theorem Own.len {w : World} {sz n : Nat} {v : Value} {cs : List Value} (h : Own w sz v n cs) : cs.length = n * sz := h.choose_spec.choose_spec.2.1

theorem Own.shape {w : World} {sz n : Nat} {v : Value} {cs : List Value} (h : Own w sz v n cs) : ∃ ad cap, v = .slice ad n cap ∧ n ≤ cap ∧ cap ≤ maxLen ∧ (ad = none → cap = 0) := by
  obtain ⟨ad, cap, h, _, h2, h3, h4, _⟩ := h
  exact ⟨ad, cap, h, h2, h3, h4⟩

theorem grownBy_setCell (w : World) (g j : Nat) (u : Value) : w.grownBy (w.setCell ⟨g, j, none⟩ u) (some g) :=
  ⟨rfl, rfl, rfl, by simp [World.setCell], fun k _ hk => heap_setCell_other w ⟨g, j, none⟩ k u (fun e => hk (by simp [e]))⟩

theorem Own.stored {w : World} {sz n cap g off : Nat} {cs : List Value} (h : Own w sz (.slice (some ⟨g, off, none⟩) n cap) n cs) (j : Nat) (hj : j < n * sz) (u : Value) :
    Own (w.setCell ⟨g, off + j, none⟩ u) sz (.slice (some ⟨g, off, none⟩) n cap) n (cs.set j u) := by
  obtain ⟨ad', cap', hv, h1, h2, h3, h4, h⟩ := h
  simp only [Value.slice.injEq, true_and] at hv
  obtain ⟨rfl, rfl⟩ := hv
  obtain ⟨hs, cur, ty, hh, r, hc⟩ := h _ rfl
  simp only at hs hh r hc
  have hlt : j < cs.length := by omega
  refine ⟨_, cap, rfl, by simpa using h1, h2, h3, by simp, fun a ha => ?_⟩
  cases ha
  refine ⟨rfl, cur.setIfInBounds (off + j) u, ty, heap_setCell_same w g (off + j) cur ty u hh, by simpa using r, fun i hi => ?_⟩
  have hcap : n * sz ≤ cap * sz := Nat.mul_le_mul_right _ h2
  show (cur.setIfInBounds (off + j) u)[off + i]? = (cs.set j u)[i]?
  rw [Array.getElem?_setIfInBounds, List.getElem?_set, hc i hi]
  by_cases e : j = i
  · subst e
    rw [if_pos rfl, if_pos rfl, if_pos hlt, if_pos (by omega)]
  · rw [if_neg e, if_neg (by omega)]

theorem OwnI.ints {w : World} {v : Value} {xs : List Int} (h : OwnI w v xs) : Ints w v xs := by
  obtain ⟨ad, cap, rfl, h2, h3, h4⟩ := h.shape
  refine ⟨ad, cap, rfl, h2, h3, fun hx => ?_⟩
  have hl : 0 < xs.length := List.length_pos_iff.2 hx
  obtain ⟨g, off, rfl, hg, hc, _⟩ := h.at (by omega)
  exact ⟨g, off, rfl, hg, fun i hi => by rw [hc i (by simpa using hi)]; simp [hi]⟩

theorem Own.take {w : World} {ad : Option Addr} {n cap k : Nat} {cs : List Value} (h : Own w 1 (.slice ad n cap) n cs) (hk : k ≤ n) : Own w 1 (.slice ad k cap) k (cs.take k) := by
  obtain ⟨ad', cap', hv, h1, h2, h3, h4, h⟩ := h
  simp only [Value.slice.injEq, true_and] at hv
  obtain ⟨rfl, rfl⟩ := hv
  refine ⟨ad, cap, rfl, by simp; omega, by omega, h3, h4, fun a ha => ?_⟩
  obtain ⟨hs, cur, ty, hh, r, hc⟩ := h a ha
  exact ⟨hs, cur, ty, hh, r, fun j hj => by rw [hc j (by omega), List.getElem?_take, if_pos (by omega)]⟩
theorem OwnI.take {w : World} {ad : Option Addr} {cap k : Nat} {xs : List Int} (h : OwnI w (.slice ad xs.length cap) xs) (hk : k ≤ xs.length) : OwnI w (.slice ad k cap) (xs.take k) := by
  have := Own.take h hk
  rw [← List.map_take] at this
  unfold OwnI
  rw [List.length_take, Nat.min_eq_left hk]
  exact this

/-- 'append(s, ..)', s owned: nil or not, with room or not. -/
theorem wpList_append_Own {P : Program} (w : World) {ops : Array Oper} {rest : List Oper} {o : Oper} {a : Act} {Q : Exit → Act → World → Prop}
    (hg : o.guard = none) (s x : Operand) (t : TypeId) (hop : o.op = Op.call { callee := Callee.builtin Builtin.append, args := #[s, x], argTypes := #[t, t] })
    (e : TypeId) (i : TypeInfo) (z : Value) (size bytes : Nat) (h1 : P.underlying t = some (.slice e)) (h2 : P.info? e = some i) (h3 : i.zero = some z) (h4 : i.size = size) (h5 : i.bytes = bytes) (h6 : z.cells.size = size) (h7 : 0 < size)
    (v : Value) (n : Nat) (cs : List Value) (hs : a.eval s = v) (hown : Own w size v n cs) (B : Nat) (hfrom : From B v)
    (ad : Addr) (m c : Nat) (news : List Value) (hx : a.eval x = .slice (some ad) m c) (hn : news.length = m * size) (hc : ∀ j u, news[j]? = some u → w.cell? (ad.add j) = some u) (h1c : ∀ u ∈ news, u.oneCell' = true)
    (b0 : B ≤ w.heap.size) (b1 : n + m ≤ maxLen) (b2 : (n + m) * bytes ≤ 140737488355328)
    (hK : ∀ v' w', Own w' size v' (n + m) (cs ++ news) → From B v' → w.grownBy w' v.ownBlock → wpList P ops Q rest (a.put o.dst v') w') :
    wpList P ops Q (o :: rest) a w := by
  obtain ⟨ad0, cap, rfl, hl, hnc, hcm, hnil, hcur⟩ := hown
  by_cases hr : n + m ≤ cap ∧ ad0.isSome
  · obtain ⟨hr, hsome⟩ := hr
    obtain ⟨⟨g, off, sp⟩, rfl⟩ := Option.isSome_iff_exists.1 hsome
    obtain ⟨hsp, cur, ty, hh, hroom, hcells⟩ := hcur _ rfl
    simp only at hsp hh hroom hcells
    subst hsp
    subst h4
    have hbig : n * i.size + news.length ≤ cap * i.size := by rw [hn, ← Nat.add_mul]; exact Nat.mul_le_mul_right _ hr
    have hcell : ∀ j, w.cell? ⟨g, j, none⟩ = cur[j]? := fun j => cell_of_row w g j cur ty (0, 0) hh
    have hex : ∀ j, j < news.length → (w.cell? ⟨g, off + n * i.size + j, none⟩).isSome = true := fun j hj => by
      rw [hcell]; simp; omega
    refine wpList_plain hg fun K hK' => ?_
    have hrun := run_append_room_cells (P := P) w t o.type e i h1 h2 g off n cap ad m c news hn hc h1c hr hex (fun j hj => frozen_of_row w g _ cur ty hh)
    unfold Oper.wp
    simp [execOp, hop, resolve, invoke, builtin, hs, hx, hrun, Result.andThen]
    have hst := run_storeCells_at P g (off + n * i.size) ty news 0 cur w hh (by omega) h1c
    have hst' := run_storeCells_cells (P := P) g (off + n * i.size) news 0 w (by simpa using hex) (fun j hj => frozen_of_row w g _ cur ty hh) h1c
    simp only [Nat.add_zero] at hst hst'
    rw [hst'] at hst
    simp only [Result.ok.injEq, true_and] at hst
    refine hK' _ _ (hK _ _ ⟨_, cap, rfl, by simp [hl, hn, Nat.add_mul], hr, hcm, by simp, fun a' ha' => ?_⟩ ?_ ?_)
    · cases ha'
      refine ⟨rfl, _, ty, by rw [hst]; simp only [World.setRow, Array.getElem?_modify, if_pos, hh, Option.map_some]; rfl, ?_, fun j hj => ?_⟩
      · simp; omega
      · have hj' : j < n * i.size + news.length := by rw [hn, ← Nat.add_mul]; exact hj
        simp only [List.getElem?_toArray]
        rw [List.append_assoc, List.getElem?_append, List.length_take, Array.length_toList, Nat.min_eq_left (by omega), List.getElem?_append]
        by_cases hlo : j < n * i.size
        · rw [if_pos (by omega), List.getElem?_take, if_pos (by omega), List.getElem?_append, if_pos (by omega), ← hcells j hlo]; simp
        · rw [if_neg (by omega), if_pos (by omega), List.getElem?_append, if_neg (by omega), hl]; congr 1; omega
    · exact fun g' hg' => hfrom g' hg'
    · refine ⟨?_, ?_, ?_, ?_, fun k hk hne => ?_⟩ <;> rw [hst]
      · rfl
      · rfl
      · rfl
      · simp [World.setRow]
      · simp only [World.setRow, Array.getElem?_modify]
        rw [if_neg (fun e => hne (by subst e; rfl))]
  · by_cases hm0 : ad0.isSome
    · obtain ⟨b, rfl⟩ := Option.isSome_iff_exists.1 hm0
      obtain ⟨hsp, cur, ty, hh, hroom, hcells⟩ := hcur _ rfl
      obtain ⟨g, off, sp⟩ := b
      simp only at hsp hh hroom hcells
      subst hsp
      have hbig : n * size ≤ cap * size := Nat.mul_le_mul_right _ hnc
      refine wpList_append_grows w hg s x t hop e i z size bytes h1 h2 h3 h4 h5 h6 h7 _ n cap cs hs (by simp) hl ?_ ad m c news hx hn hc h1c (by simp at hr; omega) b1 b2 ?_
      · intro b hb j u hu
        cases hb
        have hj : j < n * size := by rw [← hl]; exact (List.getElem?_eq_some_iff.1 hu).1
        rw [Addr.add_lit, cell_of_row w g _ cur ty (0, 0) hh, hcells j hj, hu]
      · intro v' w' ho hgr
        have hof := Own.of_row ho
        exact hK v' w' hof.1 (hof.2.mono b0) ⟨hgr.os, hgr.tape, hgr.output, hgr.size, fun k hk _ => hgr.block k hk (by simp)⟩
    · have hnone : ad0 = none := by simpa using hm0
      subst hnone
      obtain rfl : cap = 0 := hnil rfl
      obtain rfl : n = 0 := by omega
      obtain rfl : cs = [] := List.eq_nil_of_length_eq_zero (by simpa using hl)
      by_cases hm : m = 0
      · subst hm
        obtain rfl : news = [] := List.eq_nil_of_length_eq_zero (by simpa using hn)
        refine wpList_append_own w hg s x t hop B e i z size bytes h1 h2 h3 h4 h5 h6 h7 (.slice none 0 0) 0 [] hs (World.ownsRow_nil w _ e size) ad 0 c [] hx hn hc h1c b1 b2 b0 ?_
        intro v' w' ho hgr _
        exact hK v' w' (Own.of_row ho).1 (Own.of_row ho).2 hgr
      · refine wpList_append_grows w hg s x t hop e i z size bytes h1 h2 h3 h4 h5 h6 h7 none 0 0 [] hs (by simp) (by simp) (by simp) ad m c news hx hn hc h1c (by omega) b1 b2 ?_
        intro v' w' ho hgr
        have hof := Own.of_row ho
        exact hK v' w' hof.1 (hof.2.mono b0) ⟨hgr.os, hgr.tape, hgr.output, hgr.size, fun k hk _ => hgr.block k hk (by simp)⟩


/-- A block of cells that may be written. -/
def Blk (w : World) (g : Nat) (ty : TypeId) (cs : List Value) : Prop := w.heap[g]? = some (.cells cs.toArray ty (0, 0))
theorem Blk.cell {w : World} {g : Nat} {ty : TypeId} {cs : List Value} (h : Blk w g ty cs) (j : Nat) : w.cell? ⟨g, j, none⟩ = cs[j]? := by
  rw [cell_of_row w g j _ ty (0, 0) h]; simp
theorem Blk.frozen {w : World} {g : Nat} {ty : TypeId} {cs : List Value} (h : Blk w g ty cs) (j : Nat) : w.frozen? ⟨g, j, none⟩ = false := frozen_of_row w g j _ ty h
theorem Blk.range {w : World} {g : Nat} {ty : TypeId} {cs : List Value} (h : Blk w g ty cs) : w.rangeAt g 0 cs := fun j v hv => by
  rw [Nat.zero_add, h.cell j]; exact hv
theorem range_below {w w' : World} {g o B : Nat} {cs : List Value} (h : w.rangeAt g o cs) (hb : Below B w w') (hg : g < B) : w'.rangeAt g o cs := fun j v hv => by
  rw [hb.cell (p := ⟨g, o + j, none⟩) hg]; exact h j v hv
theorem Blk.lt {w : World} {g : Nat} {ty : TypeId} {cs : List Value} (h : Blk w g ty cs) : g < w.heap.size := (Array.getElem?_eq_some_iff.1 h).1
theorem Blk.set {w : World} {g : Nat} {ty : TypeId} {cs : List Value} (h : Blk w g ty cs) (j : Nat) (u : Value) : Blk (w.setCell ⟨g, j, none⟩ u) g ty (cs.set j u) := by
  have := heap_setCell_same w g j _ ty u h
  simpa [Blk] using this
theorem Blk.other {w : World} {g : Nat} {ty : TypeId} {cs : List Value} (h : Blk w g ty cs) {a : Addr} (hne : g ≠ a.block) (u : Value) : Blk (w.setCell a u) g ty cs := by
  unfold Blk
  rw [heap_setCell_other w a g u hne]
  exact h
theorem Blk.below {w w' : World} {g B : Nat} {ty : TypeId} {cs : List Value} (h : Blk w g ty cs) (hb : Below B w w') (hg : g < B) : Blk w' g ty cs := by
  unfold Blk
  rw [hb.block g hg]
  exact h
theorem Blk.alloc {w : World} {g : Nat} {ty : TypeId} {cs : List Value} (h : Blk w g ty cs) (o : Obj) : Blk (w.alloc o) g ty cs := by
  unfold Blk
  rw [Below.heap_alloc w o g h.lt]
  exact h
theorem Blk.new (w : World) (ty : TypeId) (cs : List Value) (n : Nat) (hn : n = w.heap.size) : Blk (w.alloc (.cells cs.toArray ty)) n ty cs := by
  subst hn; exact heap_alloc_new w _
theorem Blk.setRow {w : World} {g : Nat} {ty : TypeId} {cs : List Value} (h : Blk w g ty cs) (ds : List Value) : Blk (w.setRow g ds.toArray) g ty ds := by
  unfold Blk at *
  simp only [World.setRow, Array.getElem?_modify, h]
  simp

def ramp (k : Int) (n : Nat) : List Int := (List.range n).map fun i : Nat => k + (i : Int)

theorem ramp_length (k : Int) (n : Nat) : (ramp k n).length = n := by simp [ramp]
theorem ramp_get (k : Int) (n i : Nat) (h : i < n) : (ramp k n)[i]'(by simpa [ramp]) = k + i := by simp [ramp]

/-- the nine cells of a tower -/
def twl (xs : List Int) : List Value := (xs ++ List.replicate (9 - xs.length) 0).map iv
abbrev tw (xs : List Int) : Value := .agg (twl xs).toArray
theorem twl_length (xs : List Int) (h : xs.length ≤ 9) : (twl xs).length = 9 := by simp [twl]; omega
theorem twl_set (xs : List Int) (k : Nat) (x : Int) (h : k < xs.length) : (twl xs).set k (iv x) = twl (xs.set k x) := by
  simp only [twl, ← List.map_set, List.length_set, List.set_append_left _ _ h]
theorem twl_snoc (xs : List Int) (x : Int) (h : xs.length < 9) : (twl xs).set xs.length (iv x) = twl (xs ++ [x]) := by
  simp only [twl, ← List.map_set]
  congr 1
  have e : List.replicate (9 - xs.length) (0 : Int) = 0 :: List.replicate (9 - (xs.length + 1)) 0 := by
    rw [← List.replicate_succ]; congr 1; omega
  rw [e, List.set_append_right _ _ (Nat.le_refl _), Nat.sub_self, List.set_cons_zero]
  simp

end Go.Pan

