import Derived.Test.YticpdlgnaphnkaaK4
import Derived.Deep.AppendLies
namespace Go.Proofs.Yticpdlgnaphnkaa
open Go Go.RowKit Go.Pan

theorem Try.infoLy : (Try.prog.info? 68).map (fun i => (i.zero, i.size, i.bytes)) = some (some (.map none), 1, 8) := by kernel_rfl
abbrev mv (b : Nat) : Value := .map (some b)
/-- a slice of layers, all in blocks from B on -/
structure Wv (n : Nat) (w : World) (B : Nat) (v : Value) (ms : List Nat) (cs : List LC) : Prop where
  len : ms.length = cs.length
  own : w.ownsRow B 68 1 v ms.length (ms.map mv)
  lay : ∀ (i b : Nat) (c : LC), ms[i]? = some b → cs[i]? = some c → Ly n w b c ∧ B ≤ b ∧ v.ownBlock ≠ some b
  nodup : ms.Nodup
section
variable {n : Nat} {w w' : World} {B : Nat} {v : Value} {ms : List Nat} {cs : List LC}
theorem Wv.mem (h : Wv n w B v ms cs) {b : Nat} (hb : b ∈ ms) : b < w.heap.size ∧ B ≤ b ∧ v.ownBlock ≠ some b := by
  obtain ⟨i, hi, e⟩ := List.getElem_of_mem hb
  have h1 : ms[i]? = some b := by rw [List.getElem?_eq_getElem hi, e]
  have h2 : cs[i]? = some (cs[i]'(by rw [← h.len]; exact hi)) := List.getElem?_eq_getElem _
  have h3 := h.lay i b _ h1 h2
  exact ⟨h3.1.lt, h3.2.1, h3.2.2⟩
theorem Wv.kept (h : Wv n w B v ms cs) (hk : ∀ g, (v.ownBlock = some g ∨ g ∈ ms) → w'.heap[g]? = w.heap[g]?) : Wv n w' B v ms cs := by
  refine ⟨h.len, ?_, fun i b c hb hc => ?_, h.nodup⟩
  · refine ⟨h.own.1, ?_⟩
    rcases h.own.2 with hn | ⟨g, cap, cur, rfl, hb, hgg, rest⟩
    · exact .inl hn
    · exact .inr ⟨g, cap, cur, rfl, hb, by rw [hk g (.inl rfl)]; exact hgg, rest⟩
  · obtain ⟨h1, h2⟩ := h.lay i b c hb hc
    exact ⟨h1.kept (hk b (.inr (List.mem_of_getElem? hb))), h2⟩
theorem Wv.low (h : Wv n w B v ms cs) {g : Nat} (hg : v.ownBlock = some g ∨ g ∈ ms) : g < w.heap.size ∧ B ≤ g := by
  rcases hg with hg | hg
  · exact ⟨(h.own.lt g hg).2, (h.own.lt g hg).1⟩
  · exact ⟨(h.mem hg).1, (h.mem hg).2.1⟩
theorem Wv.below (h : Wv n w B v ms cs) {N : Nat} (hb : Below N w w') (hN : w.heap.size ≤ N) : Wv n w' B v ms cs := h.kept fun g hg => hb.block g (Nat.lt_of_lt_of_le (h.low hg).1 hN)
theorem Wv.grown (h : Wv n w B v ms cs) {row : Option Nat} (hg : w.grownBy w' row) (hne : ∀ g, row = some g → v.ownBlock ≠ some g ∧ g ∉ ms) : Wv n w' B v ms cs := h.kept fun g hg' => hg.block g (h.low hg').1 (fun e => by
  have := hne g e.symm
  rcases hg' with h' | h'
  · exact this.1 h'
  · exact this.2 h')
theorem Wv.alloc (h : Wv n w B v ms cs) (o : Obj) : Wv n (w.alloc o) B v ms cs := h.kept fun g hg => Below.heap_alloc w o g (h.low hg).1
theorem Wv.mono (h : Wv n w B v ms cs) {B' : Nat} (hB : B' ≤ B) : Wv n w B' v ms cs := by
  refine ⟨h.len, ⟨h.own.1, ?_⟩, fun i b c hb hc => ?_, h.nodup⟩
  · rcases h.own.2 with hn | ⟨g, cap, cur, rfl, hb, r⟩
    · exact .inl hn
    · exact .inr ⟨g, cap, cur, rfl, Nat.le_trans hB hb, r⟩
  · obtain ⟨h1, h2, h3⟩ := h.lay i b c hb hc
    exact ⟨h1, Nat.le_trans hB h2, h3⟩
/-- the layers read otherwise, being the same -/
theorem Wv.congr (h : Wv n w B v ms cs) {cs' : List LC} (hl : cs'.length = cs.length) (he : ∀ (i : Nat) (c c' : LC), cs[i]? = some c → cs'[i]? = some c' → EqC n c c') : Wv n w B v ms cs' := by
  refine ⟨by rw [h.len, hl], h.own, fun i b c hb hc => ?_, h.nodup⟩
  have hi : i < cs.length := by rw [← hl]; exact (List.getElem?_eq_some_iff.1 hc).1
  have hc0 := List.getElem?_eq_getElem hi
  obtain ⟨h1, h2⟩ := h.lay i b _ hb hc0
  exact ⟨h1.congr (he i _ _ hc0 hc), h2⟩
/-- one layer turned -/
theorem Wv.turn (h : Wv n w B v ms cs) {j b : Nat} (hb : ms[j]? = some b) {c : LC} (hl : Ly n w' b c) (hg : w.grownBy w' (some b)) : Wv n w' B v ms (cs.set j c) := by
  have hbm := h.mem (List.mem_of_getElem? hb)
  refine ⟨by rw [List.length_set]; exact h.len, h.own.kept hg (.inr hbm.2.2), fun i b' c' hb' hc' => ?_, h.nodup⟩
  by_cases e : j = i
  · subst e
    rw [hb] at hb'
    cases hb'
    have hlt : j < cs.length := by have := (List.getElem?_eq_some_iff.1 hc').1; simpa using this
    rw [List.getElem?_set_self hlt] at hc'
    cases hc'
    exact ⟨hl, hbm.2⟩
  · rw [List.getElem?_set_ne e] at hc'
    obtain ⟨h1, h2⟩ := h.lay i b' c' hb' hc'
    have hne : b ≠ b' := fun e' => by
      subst e'
      have h3 := (List.getElem?_eq_some_iff.1 hb)
      have h4 := (List.getElem?_eq_some_iff.1 hb')
      have hij := (List.pairwise_iff_getElem.1 h.nodup)
      rcases Nat.lt_or_gt_of_ne e with hlt | hlt
      · exact hij j i h3.1 h4.1 hlt (h3.2.trans h4.2.symm)
      · exact hij i j h4.1 h3.1 hlt (h4.2.trans h3.2.symm)
    exact ⟨h1.grown hg (by simpa using hne), h2⟩
/-- the slice's shape, and where its layers lie -/
theorem Wv.shape (h : Wv n w B v ms cs) (h0 : ms ≠ []) : ∃ g cap, v = .slice (some ⟨g, 0, none⟩) ms.length cap ∧ B ≤ g ∧ g < w.heap.size ∧ ms.length ≤ cap ∧ ∀ i b, ms[i]? = some b → w.cell? ⟨g, i, none⟩ = some (mv b) := by
  rcases h.own.2 with ⟨_, hm⟩ | ⟨g, cap, cur, rfl, hb, hgg, h1, h2, h3, h4⟩
  · simp at hm; exact absurd hm h0
  · refine ⟨g, cap, rfl, hb, (Array.getElem?_eq_some_iff.1 hgg).1, h1, fun i b hi => ?_⟩
    have hl : i < ms.length := (List.getElem?_eq_some_iff.1 hi).1
    rw [World.ownsRow.cellAt h.own i (by omega), List.getElem?_map, hi]
    rfl
/-- a layer behind the others -/
theorem Wv.app (h : Wv n w B v ms cs) {b g cap : Nat} {c : LC} (hl : Ly n w b c) (hBb : B ≤ b) (hnb : b ∉ ms) (hnv : v.ownBlock ≠ some b)
    (hown : w'.ownsRow B 68 1 (.slice (some ⟨g, 0, none⟩) (ms.length + 1) cap) (ms.length + 1) (ms.map mv ++ [mv b])) (hgr : w.grownBy w' v.ownBlock) (hat : v.ownBlock = some g ∨ w.heap.size ≤ g) :
    Wv n w' B (.slice (some ⟨g, 0, none⟩) (ms.length + 1) cap) (ms ++ [b]) (cs ++ [c]) := by
  have hno : ∀ {b' : Nat}, b' < w.heap.size → v.ownBlock ≠ some b' → (Value.slice (some ⟨g, 0, none⟩) (ms.length + 1) cap).ownBlock ≠ some b' := fun {b'} h1 h2 e => by
    simp [Value.ownBlock] at e
    subst e
    rcases hat with h3 | h3
    · exact h2 h3
    · omega
  refine ⟨by simp [h.len], by simpa using hown, fun i b' c' hb' hc' => ?_, ?_⟩
  · by_cases hi : i < ms.length
    · rw [List.getElem?_append_left hi] at hb'
      rw [List.getElem?_append_left (by rw [← h.len]; exact hi)] at hc'
      obtain ⟨h1, h2, h3⟩ := h.lay i b' c' hb' hc'
      exact ⟨h1.grown hgr h3, h2, hno h1.lt h3⟩
    · rw [List.getElem?_append_right (by omega)] at hb'
      rw [List.getElem?_append_right (by rw [← h.len]; omega)] at hc'
      have h0 : i - ms.length < 1 := (List.getElem?_eq_some_iff.1 hb').1
      have h1 : i - ms.length = 0 := by omega
      rw [h1] at hb'
      rw [← h.len, h1] at hc'
      simp at hb' hc'
      subst hb'
      subst hc'
      exact ⟨hl.grown hgr hnv, hBb, hno hl.lt hnv⟩
  · refine List.nodup_append.2 ⟨h.nodup, by simp, fun x hx y hy e => ?_⟩
    simp at hy
    subst hy
    subst e
    exact hnb hx
end

set_option maxHeartbeats 1600000 in
set_option maxRecDepth 100000 in
theorem wlast_any (n B : Nat) (v : Value) (ms : List Nat) (cs : List LC) (b : Nat) (w : World) (h : Wv n w B v ms cs) (hb : ms.getLast? = some b) (hl : ms.length ≤ 1048576) :
    Calls Try.prog 80 #[v] w fun e w' => e = .returned (mv b) ∧ w = w' := by
  have hne : ms ≠ [] := by rintro rfl; simp at hb
  obtain ⟨g, cap, rfl, h1, h2, h3, hc⟩ := h.shape hne
  obtain ⟨m, hm⟩ : ∃ m, ms.length = m + 1 := ⟨ms.length - 1, by have := List.length_pos_iff.2 hne; omega⟩
  have hcb := hc m b (by rw [List.getLast?_eq_getElem?, hm] at hb; exact hb)
  rw [hm]
  have hm2 : m ≤ 1048576 := by omega
  clear h hb hl hc hm
  go_enter Try.func80, Try.ntmps80
  go_wp2
  go_ret
  exact ⟨rfl, rfl⟩

set_option maxHeartbeats 1600000 in
set_option maxRecDepth 100000 in
theorem wturns_any (ad : Option Addr) (m cap : Nat) (w : World) (hl : m ≤ 1048576) :
    Calls Try.prog 76 #[.slice ad m cap] w fun e w' => e = .returned (.int .i64 ((m - 1 : Nat) : Int)) ∧ w = w' := by
  cases m with
  | zero =>
    go_enter Try.func76, Try.ntmps76
    go_wp2
    go_ret
    exact ⟨rfl, rfl⟩
  | succ m =>
    go_enter Try.func76, Try.ntmps76
    go_wp2
    all_goals
      go_ret
      first
        | exact ⟨rfl, rfl⟩
        | (obtain rfl : m = 0 := by omega
           exact ⟨rfl, rfl⟩)

theorem wpList_insert_own {H : Type} {P : Program} (w : World) {ops : Array Oper} {rest : List Oper} {o : Oper} {a : Act} {Q : Exit → Act → World → Prop}
    (hg : o.guard = none) (m x v : Operand) (t : TypeId) (hop : o.op = Op.insert t m x v)
    (k e : TypeId) (K : Maps.Keyed P k) (ht : P.underlying t = some (.map k e)) (R : Value → Option (DataW H × List MemPlace)) (b n : Nat) (D : DataW H)
    (hm : a.eval m = .map (some b)) (hown : w.ownsMap P k R b n D) (hn : n < maxLen) (key val : Value) (kl : Lit) (hx : a.eval x = key) (hv : a.eval v = val) (hkey : keyOf P k key = some kl)
    (d : DataW H) (ps : List MemPlace) (hval : R val = some (d, ps))
    (hK : ∀ w', w'.ownsMap P k R b (n + 1) (D.put kl d) → w.grownBy w' (some b) → wpList P ops Q rest (a.put o.dst undef) w') :
    wpList P ops Q (o :: rest) a w := by
  refine wpList_plain hg fun K' hK' => ?_
  obtain ⟨w', hrun, r1, r2⟩ := hown.update K ht hn hkey hval
  unfold Oper.wp
  simp [execOp, hop, hm, hx, hv, hrun, Result.andThen]
  exact hK' _ _ (hK w' r1 r2)

set_option maxHeartbeats 1600000 in
set_option maxRecDepth 100000 in
theorem waveFrom_any (n : Nat) (s : List Int) (w : World) (hn : Hid (Cnt n)) (hs : St n s) :
    Calls Try.prog 118 #[tw s] w fun e w' => ∃ v b, e = .returned v ∧ Wv n w' w.heap.size v [b] [oneC s] ∧ Below w.heap.size w w' := by
  have hmm := @run_makeMap Try.prog
  have h9 := hs.1.le9
  have hkey := key_tw hs
  have hbx : Blk ((w.alloc (.cells (twl s).toArray 54)).alloc (.map #[] 0)) w.heap.size 54 (twl s) := (Blk.new w _ (twl s) _ rfl).alloc _
  have hmk : ((w.alloc (.cells (twl s).toArray 54)).alloc (.map #[] 0)).ownsMap Try.prog 54 (plainElem (H := Unit) Try.prog 3) (w.heap.size + 1) 0 (.map []) := by
    have := World.ownsMap_made (w.alloc (.cells (twl s).toArray 54)) Try.prog 54 (plainElem (H := Unit) Try.prog 3)
    simpa using this
  have hB0 : Below w.heap.size w ((w.alloc (.cells (twl s).toArray 54)).alloc (.map #[] 0)) := (below_new w _).alloc (by simp) _
  have HL := Lib.hid (show Lay n ((DataW.map [] : DD).put (kl s) (.lit (.int .i64 1))) (oneC s) from by
    have h1 := (Lay.empty n).put Maps.isMap_empty hs 1 (by omega)
    exact h1.congr (fun q _ => by unfold oneC; rfl))
  have HS := Lib.hid hs
  clear hs
  go_enter Try.func118, Try.ntmps118
  go_wp2_with (first | (refine wpList_load_tower rfl _ rfl w.heap.size s h9 rfl hbx ?_) | (refine wpList_insert_own _ rfl _ _ _ 68 rfl 54 3 keyd Try.underlying68 _ (w.heap.size + 1) 0 (.map []) rfl hmk (by unfold maxLen; omega) _ _ (kl s) rfl rfl hkey (.lit (.int .i64 1)) [] (plainElem_int Try.underlying3 rfl) ?_; intro w3 hown3 hgr3))
  have hB3 := hB0.grown hgr3 (by simp; omega) (by intro k hk; cases hk; omega)
  have hly := Ly.of hn.out hown3 HL.out
  have hlt := hown3.lt
  have hown4 : (w3.alloc (.cells #[mv (w.heap.size + 1)] 68)).ownsRow w.heap.size 68 1 (.slice (some ⟨w3.heap.size, 0, none⟩) 1 1) 1 [mv (w.heap.size + 1)] := World.ownsRow_lit w3 #[mv (w.heap.size + 1)] 1 hB3.size (by unfold maxLen; omega) rfl
  have hW : Wv n (w3.alloc (.cells #[mv (w.heap.size + 1)] 68)) w.heap.size (.slice (some ⟨w3.heap.size, 0, none⟩) 1 1) [w.heap.size + 1] [oneC s] := by
    refine ⟨rfl, hown4, fun i b c hb hc => ?_, by simp⟩
    have h0 : i < 1 := (List.getElem?_eq_some_iff.1 hb).1
    obtain rfl : i = 0 := by omega
    simp at hb hc
    subst hb
    subst hc
    exact ⟨hly.below (below_new w3 _) (Nat.le_refl _), by omega, by simp [Value.ownBlock]; omega⟩
  go_ret
  exact ⟨_, _, rfl, hW, hB3.alloc hB3.size _⟩
end Go.Proofs.Yticpdlgnaphnkaa
