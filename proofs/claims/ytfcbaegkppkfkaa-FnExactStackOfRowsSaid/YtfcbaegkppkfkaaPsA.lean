import Derived.Test.YtfcbaegkppkfkaaPsM
import Derived.Test.YtfcbaegkppkfkaaLib2
import Derived.Test.YtfcbaegkppkfkaaH
namespace Go.Pan
open Go Go.RowKit

theorem wpList_append_OwnD {P : Program} (w : World) {ops : Array Oper} {rest : List Oper} {o : Oper} {a : Act} {Q : Exit → Act → World → Prop}
    (hg : o.guard = none) (s x : Operand) (t : TypeId) (hop : o.op = Op.call { callee := Callee.builtin Builtin.append, args := #[s, x], argTypes := #[t, t] })
    (e : TypeId) (i : TypeInfo) (z : Value) (size bytes : Nat) (h1 : P.underlying t = some (.slice e)) (h2 : P.info? e = some i) (h3 : i.zero = some z) (h4 : i.size = size) (h5 : i.bytes = bytes) (h6 : z.cells.size = size) (h7 : 0 < size)
    (v : Value) (n : Nat) (cs : List Value) (hs : a.eval s = v) (hown : Own w size v n cs) (D : Nat → Prop) (hfrom : ∀ g, v.ownBlock = some g → D g) (hnew : ∀ g, w.heap.size ≤ g → D g)
    (ad : Addr) (m c : Nat) (news : List Value) (hx : a.eval x = .slice (some ad) m c) (hn : news.length = m * size) (hc : ∀ j u, news[j]? = some u → w.cell? (ad.add j) = some u) (h1c : ∀ u ∈ news, u.oneCell' = true)
    (b1 : n + m ≤ maxLen) (b2 : (n + m) * bytes ≤ 140737488355328)
    (hK : ∀ v' w', Own w' size v' (n + m) (cs ++ news) → (∀ g, v'.ownBlock = some g → D g) → w.grownBy w' v.ownBlock → wpList P ops Q rest (a.put o.dst v') w') :
    wpList P ops Q (o :: rest) a w := by
  obtain ⟨ad0, cap, rfl, hl, hnc, hcm, hnil, hcur⟩ := hown
  by_cases hr : n + m ≤ cap ∧ ad0.isSome
  · obtain ⟨hr, hsome⟩ := hr
    obtain ⟨⟨g, off, sp⟩, rfl⟩ := Option.isSome_iff_exists.1 hsome
    obtain ⟨hsp, cur, ty, hh, hroom, hcells⟩ := hcur _ rfl
    simp only at hsp hh hroom hcells
    subst hsp
    subst h4
    have hbig : n * i.size + news.length ≤ cap * i.size := by rw [hn, ← Nat.add_mul]; exact Nat.mul_le_mul_right _ hr
    have hcell : ∀ j, w.cell? ⟨g, j, none⟩ = cur[j]? := fun j => cell_of_row w g j cur ty (0, 0) hh
    have hex : ∀ j, j < news.length → (w.cell? ⟨g, off + n * i.size + j, none⟩).isSome = true := fun j hj => by
      rw [hcell]; simp; omega
    refine wpList_plain hg fun K hK' => ?_
    have hrun := run_append_room_cells (P := P) w t o.type e i h1 h2 g off n cap ad m c news hn hc h1c hr hex (fun j hj => frozen_of_row w g _ cur ty hh)
    unfold Oper.wp
    simp [execOp, hop, resolve, invoke, builtin, hs, hx, hrun, Result.andThen]
    have hst := run_storeCells_at P g (off + n * i.size) ty news 0 cur w hh (by omega) h1c
    have hst' := run_storeCells_cells (P := P) g (off + n * i.size) news 0 w (by simpa using hex) (fun j hj => frozen_of_row w g _ cur ty hh) h1c
    simp only [Nat.add_zero] at hst hst'
    rw [hst'] at hst
    simp only [Result.ok.injEq, true_and] at hst
    refine hK' _ _ (hK _ _ ⟨_, cap, rfl, by simp [hl, hn, Nat.add_mul], hr, hcm, by simp, fun a' ha' => ?_⟩ ?_ ?_)
    · cases ha'
      refine ⟨rfl, _, ty, by rw [hst]; simp only [World.setRow, Array.getElem?_modify, if_pos, hh, Option.map_some]; rfl, ?_, fun j hj => ?_⟩
      · simp; omega
      · have hj' : j < n * i.size + news.length := by rw [hn, ← Nat.add_mul]; exact hj
        simp only [List.getElem?_toArray]
        rw [List.append_assoc, List.getElem?_append, List.length_take, Array.length_toList, Nat.min_eq_left (by omega), List.getElem?_append]
        by_cases hlo : j < n * i.size
        · rw [if_pos (by omega), List.getElem?_take, if_pos (by omega), List.getElem?_append, if_pos (by omega), ← hcells j hlo]; simp
        · rw [if_neg (by omega), if_pos (by omega), List.getElem?_append, if_neg (by omega), hl]; congr 1; omega
    · exact fun g' hg' => hfrom g' hg'
    · refine ⟨?_, ?_, ?_, ?_, fun k hk hne => ?_⟩ <;> rw [hst]
      · rfl
      · rfl
      · rfl
      · simp [World.setRow]
      · simp only [World.setRow, Array.getElem?_modify]
        rw [if_neg (fun e => hne (by subst e; rfl))]
  · by_cases hm0 : ad0.isSome
    · obtain ⟨b, rfl⟩ := Option.isSome_iff_exists.1 hm0
      obtain ⟨hsp, cur, ty, hh, hroom, hcells⟩ := hcur _ rfl
      obtain ⟨g, off, sp⟩ := b
      simp only at hsp hh hroom hcells
      subst hsp
      have hbig : n * size ≤ cap * size := Nat.mul_le_mul_right _ hnc
      refine wpList_append_grows w hg s x t hop e i z size bytes h1 h2 h3 h4 h5 h6 h7 _ n cap cs hs (by simp) hl ?_ ad m c news hx hn hc h1c (by simp at hr; omega) b1 b2 ?_
      · intro b hb j u hu
        cases hb
        have hj : j < n * size := by rw [← hl]; exact (List.getElem?_eq_some_iff.1 hu).1
        rw [Addr.add_lit, cell_of_row w g _ cur ty (0, 0) hh, hcells j hj, hu]
      · intro v' w' ho hgr
        have hof := Own.of_row ho
        exact hK v' w' hof.1 (fun g hg => hnew g (hof.2 g hg)) ⟨hgr.os, hgr.tape, hgr.output, hgr.size, fun k hk _ => hgr.block k hk (by simp)⟩
    · have hnone : ad0 = none := by simpa using hm0
      subst hnone
      obtain rfl : cap = 0 := hnil rfl
      obtain rfl : n = 0 := by omega
      obtain rfl : cs = [] := List.eq_nil_of_length_eq_zero (by simpa using hl)
      by_cases hm : m = 0
      · subst hm
        obtain rfl : news = [] := List.eq_nil_of_length_eq_zero (by simpa using hn)
        refine wpList_append_own w hg s x t hop w.heap.size e i z size bytes h1 h2 h3 h4 h5 h6 h7 (.slice none 0 0) 0 [] hs (World.ownsRow_nil w _ e size) ad 0 c [] hx hn hc h1c b1 b2 (Nat.le_refl _) ?_
        intro v' w' ho hgr _
        exact hK v' w' (Own.of_row ho).1 (fun g hg => hnew g ((Own.of_row ho).2 g hg)) hgr
      · refine wpList_append_grows w hg s x t hop e i z size bytes h1 h2 h3 h4 h5 h6 h7 none 0 0 [] hs (by simp) (by simp) (by simp) ad m c news hx hn hc h1c (by omega) b1 b2 ?_
        intro v' w' ho hgr
        have hof := Own.of_row ho
        exact hK v' w' hof.1 (fun g hg => hnew g (hof.2 g hg)) ⟨hgr.os, hgr.tape, hgr.output, hgr.size, fun k hk _ => hgr.block k hk (by simp)⟩

/-- 'append(s, y)' of one int: where the answer lies -/
theorem wpList_app1D {P : Program} {w : World} {ops : Array Oper} {rest : List Oper} {o : Oper} {a : Act} {Q : Exit → Act → World → Prop}
    {t e : TypeId} (hT : IntSl P t e) (hg : o.guard = none) (s x : Operand) (hop : o.op = Op.call { callee := Callee.builtin Builtin.append, args := #[s, x], argTypes := #[t, t] })
    (v : Value) (xs : List Int) (hs : a.eval s = v) (hown : OwnI w v xs)
    (g : Nat) (y : Int) (hx : a.eval x = .slice (some ⟨g, 0, none⟩) 1 1) (hc : w.cell? ⟨g, 0, none⟩ = some (iv y)) (b1 : xs.length ≤ 1048576) (H : Nat) (hH : w.heap.size = H)
    (hK : ∀ v' w', OwnI w' v' (xs ++ [y]) → (∀ b, v'.ownBlock = some b → v.ownBlock = some b ∨ H ≤ b) → w.grownBy w' v.ownBlock → wpList P ops Q rest (a.put o.dst v') w') :
    wpList P ops Q (o :: rest) a w := by
  obtain ⟨i, hi, hz, hs1, hb8⟩ := hT.i
  refine wpList_append_OwnD w hg s x t hop e i (.int .i64 0) 1 8 hT.u hi hz hs1 hb8 rfl (by decide) v xs.length (xs.map iv) hs hown (fun b => v.ownBlock = some b ∨ H ≤ b) (fun b hb => .inl hb) (fun b hb => .inr (by omega)) ⟨g, 0, none⟩ 1 1 [iv y] hx rfl (fun j u hj => by
    have hj1 : j < 1 := (List.getElem?_eq_some_iff.1 hj).1
    obtain rfl : j = 0 := by omega
    simp at hj
    subst hj
    exact hc) (by simp [Value.oneCell']) (by unfold maxLen; omega) (by omega) ?_
  intro v' w' ho hf hg
  refine hK v' w' ?_ hf hg
  unfold OwnI
  rw [List.length_append, List.map_append]
  exact ho

end Go.Pan

