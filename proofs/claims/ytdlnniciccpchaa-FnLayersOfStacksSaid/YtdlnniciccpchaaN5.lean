import Derived.Test.YtdlnniciccpchaaN4
import Derived.Deep.AppendLies
namespace Go.Proofs.Ytdlnniciccpchaa
open Go Go.RowKit Go.Pan

theorem Try.infoLy : (Try.prog.info? 60).map (fun i => (i.zero, i.size, i.bytes)) = some (some (.map none), 1, 8) := by kernel_rfl
abbrev mv (b : Nat) : Value := .map (some b)
/-- a slice of layers, all in blocks from B on -/
structure Wv (n : Gm) (w : World) (B : Nat) (v : Value) (ms : List Nat) (cs : List LC) : Prop where
  len : ms.length = cs.length
  own : w.ownsRow B 60 1 v ms.length (ms.map mv)
  lay : ∀ (i b : Nat) (c : LC), ms[i]? = some b → cs[i]? = some c → Ly n w b c ∧ B ≤ b ∧ v.ownBlock ≠ some b
  nodup : ms.Nodup
section
variable {n : Gm} {w w' : World} {B : Nat} {v : Value} {ms : List Nat} {cs : List LC}
theorem Wv.mem (h : Wv n w B v ms cs) {b : Nat} (hb : b ∈ ms) : b < w.heap.size ∧ B ≤ b ∧ v.ownBlock ≠ some b := by
  obtain ⟨i, hi, e⟩ := List.getElem_of_mem hb
  have h1 : ms[i]? = some b := by rw [List.getElem?_eq_getElem hi, e]
  have h2 : cs[i]? = some (cs[i]'(by rw [← h.len]; exact hi)) := List.getElem?_eq_getElem _
  have h3 := h.lay i b _ h1 h2
  exact ⟨h3.1.lt, h3.2.1, h3.2.2⟩
theorem Wv.kept (h : Wv n w B v ms cs) (hk : ∀ g, (v.ownBlock = some g ∨ g ∈ ms) → w'.heap[g]? = w.heap[g]?) : Wv n w' B v ms cs := by
  refine ⟨h.len, ?_, fun i b c hb hc => ?_, h.nodup⟩
  · refine ⟨h.own.1, ?_⟩
    rcases h.own.2 with hn | ⟨g, cap, cur, rfl, hb, hgg, rest⟩
    · exact .inl hn
    · exact .inr ⟨g, cap, cur, rfl, hb, by rw [hk g (.inl rfl)]; exact hgg, rest⟩
  · obtain ⟨h1, h2⟩ := h.lay i b c hb hc
    exact ⟨h1.kept (hk b (.inr (List.mem_of_getElem? hb))), h2⟩
theorem Wv.low (h : Wv n w B v ms cs) {g : Nat} (hg : v.ownBlock = some g ∨ g ∈ ms) : g < w.heap.size ∧ B ≤ g := by
  rcases hg with hg | hg
  · exact ⟨(h.own.lt g hg).2, (h.own.lt g hg).1⟩
  · exact ⟨(h.mem hg).1, (h.mem hg).2.1⟩
theorem Wv.below (h : Wv n w B v ms cs) {N : Nat} (hb : Below N w w') (hN : w.heap.size ≤ N) : Wv n w' B v ms cs := h.kept fun g hg => hb.block g (Nat.lt_of_lt_of_le (h.low hg).1 hN)
theorem Wv.grown (h : Wv n w B v ms cs) {row : Option Nat} (hg : w.grownBy w' row) (hne : ∀ g, row = some g → v.ownBlock ≠ some g ∧ g ∉ ms) : Wv n w' B v ms cs := h.kept fun g hg' => hg.block g (h.low hg').1 (fun e => by
  have := hne g e.symm
  rcases hg' with h' | h'
  · exact this.1 h'
  · exact this.2 h')
theorem Wv.alloc (h : Wv n w B v ms cs) (o : Obj) : Wv n (w.alloc o) B v ms cs := h.kept fun g hg => Below.heap_alloc w o g (h.low hg).1
theorem Wv.mono (h : Wv n w B v ms cs) {B' : Nat} (hB : B' ≤ B) : Wv n w B' v ms cs := by
  refine ⟨h.len, ⟨h.own.1, ?_⟩, fun i b c hb hc => ?_, h.nodup⟩
  · rcases h.own.2 with hn | ⟨g, cap, cur, rfl, hb, r⟩
    · exact .inl hn
    · exact .inr ⟨g, cap, cur, rfl, Nat.le_trans hB hb, r⟩
  · obtain ⟨h1, h2, h3⟩ := h.lay i b c hb hc
    exact ⟨h1, Nat.le_trans hB h2, h3⟩
/-- the layers read otherwise, being the same -/
theorem Wv.congr (h : Wv n w B v ms cs) {cs' : List LC} (hl : cs'.length = cs.length) (he : ∀ (i : Nat) (c c' : LC), cs[i]? = some c → cs'[i]? = some c' → GEq n c c') : Wv n w B v ms cs' := by
  refine ⟨by rw [h.len, hl], h.own, fun i b c hb hc => ?_, h.nodup⟩
  have hi : i < cs.length := by rw [← hl]; exact (List.getElem?_eq_some_iff.1 hc).1
  have hc0 := List.getElem?_eq_getElem hi
  obtain ⟨h1, h2⟩ := h.lay i b _ hb hc0
  exact ⟨h1.congr (he i _ _ hc0 hc), h2⟩
/-- one layer turned -/
theorem Wv.turn (h : Wv n w B v ms cs) {j b : Nat} (hb : ms[j]? = some b) {c : LC} (hl : Ly n w' b c) (hg : w.grownBy w' (some b)) : Wv n w' B v ms (cs.set j c) := by
  have hbm := h.mem (List.mem_of_getElem? hb)
  refine ⟨by rw [List.length_set]; exact h.len, h.own.kept hg (.inr hbm.2.2), fun i b' c' hb' hc' => ?_, h.nodup⟩
  by_cases e : j = i
  · subst e
    rw [hb] at hb'
    cases hb'
    have hlt : j < cs.length := by have := (List.getElem?_eq_some_iff.1 hc').1; simpa using this
    rw [List.getElem?_set_self hlt] at hc'
    cases hc'
    exact ⟨hl, hbm.2⟩
  · rw [List.getElem?_set_ne e] at hc'
    obtain ⟨h1, h2⟩ := h.lay i b' c' hb' hc'
    have hne : b ≠ b' := fun e' => by
      subst e'
      have h3 := (List.getElem?_eq_some_iff.1 hb)
      have h4 := (List.getElem?_eq_some_iff.1 hb')
      have hij := (List.pairwise_iff_getElem.1 h.nodup)
      rcases Nat.lt_or_gt_of_ne e with hlt | hlt
      · exact hij j i h3.1 h4.1 hlt (h3.2.trans h4.2.symm)
      · exact hij i j h4.1 h3.1 hlt (h4.2.trans h3.2.symm)
    exact ⟨h1.grown hg (by simpa using hne), h2⟩
/-- the slice's shape, and where its layers lie -/
theorem Wv.shape (h : Wv n w B v ms cs) (h0 : ms ≠ []) : ∃ g cap, v = .slice (some ⟨g, 0, none⟩) ms.length cap ∧ B ≤ g ∧ g < w.heap.size ∧ ms.length ≤ cap ∧ ∀ i b, ms[i]? = some b → w.cell? ⟨g, i, none⟩ = some (mv b) := by
  rcases h.own.2 with ⟨_, hm⟩ | ⟨g, cap, cur, rfl, hb, hgg, h1, h2, h3, h4⟩
  · simp at hm; exact absurd hm h0
  · refine ⟨g, cap, rfl, hb, (Array.getElem?_eq_some_iff.1 hgg).1, h1, fun i b hi => ?_⟩
    have hl : i < ms.length := (List.getElem?_eq_some_iff.1 hi).1
    rw [World.ownsRow.cellAt h.own i (by omega), List.getElem?_map, hi]
    rfl
/-- a layer behind the others -/
theorem Wv.app (h : Wv n w B v ms cs) {b g cap : Nat} {c : LC} (hl : Ly n w b c) (hBb : B ≤ b) (hnb : b ∉ ms) (hnv : v.ownBlock ≠ some b)
    (hown : w'.ownsRow B 60 1 (.slice (some ⟨g, 0, none⟩) (ms.length + 1) cap) (ms.length + 1) (ms.map mv ++ [mv b])) (hgr : w.grownBy w' v.ownBlock) (hat : v.ownBlock = some g ∨ w.heap.size ≤ g) :
    Wv n w' B (.slice (some ⟨g, 0, none⟩) (ms.length + 1) cap) (ms ++ [b]) (cs ++ [c]) := by
  have hno : ∀ {b' : Nat}, b' < w.heap.size → v.ownBlock ≠ some b' → (Value.slice (some ⟨g, 0, none⟩) (ms.length + 1) cap).ownBlock ≠ some b' := fun {b'} h1 h2 e => by
    simp [Value.ownBlock] at e
    subst e
    rcases hat with h3 | h3
    · exact h2 h3
    · omega
  refine ⟨by simp [h.len], by simpa using hown, fun i b' c' hb' hc' => ?_, ?_⟩
  · by_cases hi : i < ms.length
    · rw [List.getElem?_append_left hi] at hb'
      rw [List.getElem?_append_left (by rw [← h.len]; exact hi)] at hc'
      obtain ⟨h1, h2, h3⟩ := h.lay i b' c' hb' hc'
      exact ⟨h1.grown hgr h3, h2, hno h1.lt h3⟩
    · rw [List.getElem?_append_right (by omega)] at hb'
      rw [List.getElem?_append_right (by rw [← h.len]; omega)] at hc'
      have h0 : i - ms.length < 1 := (List.getElem?_eq_some_iff.1 hb').1
      have h1 : i - ms.length = 0 := by omega
      rw [h1] at hb'
      rw [← h.len, h1] at hc'
      simp at hb' hc'
      subst hb'
      subst hc'
      exact ⟨hl.grown hgr hnv, hBb, hno hl.lt hnv⟩
  · refine List.nodup_append.2 ⟨h.nodup, by simp, fun x hx y hy e => ?_⟩
    simp at hy
    subst hy
    subst e
    exact hnb hx
end

set_option maxHeartbeats 1600000 in
set_option maxRecDepth 100000 in
theorem wlast_any (n : Gm) (B : Nat) (v : Value) (ms : List Nat) (cs : List LC) (b : Nat) (w : World) (h : Wv n w B v ms cs) (hb : ms.getLast? = some b) (hl : ms.length ≤ 1048576) :
    Calls Try.prog 51 #[v] w fun e w' => e = .returned (mv b) ∧ w = w' := by
  have hne : ms ≠ [] := by rintro rfl; simp at hb
  obtain ⟨g, cap, rfl, h1, h2, h3, hc⟩ := h.shape hne
  obtain ⟨m, hm⟩ : ∃ m, ms.length = m + 1 := ⟨ms.length - 1, by have := List.length_pos_iff.2 hne; omega⟩
  have hcb := hc m b (by rw [List.getLast?_eq_getElem?, hm] at hb; exact hb)
  rw [hm]
  have hm2 : m ≤ 1048576 := by omega
  clear h hb hl hc hm
  go_enter Try.func51, Try.ntmps51
  go_wp2
  go_ret
  exact ⟨rfl, rfl⟩

set_option maxHeartbeats 1600000 in
set_option maxRecDepth 100000 in
theorem wturns_any (ad : Option Addr) (m cap : Nat) (w : World) (hl : m ≤ 1048576) :
    Calls Try.prog 38 #[.slice ad m cap] w fun e w' => e = .returned (.int .i64 ((m - 1 : Nat) : Int)) ∧ w = w' := by
  cases m with
  | zero =>
    go_enter Try.func38, Try.ntmps38
    go_wp2
    go_ret
    exact ⟨rfl, rfl⟩
  | succ m =>
    go_enter Try.func38, Try.ntmps38
    go_wp2
    all_goals
      go_ret
      first
        | exact ⟨rfl, rfl⟩
        | (obtain rfl : m = 0 := by omega
           exact ⟨rfl, rfl⟩)

theorem wpList_insert_own {H : Type} {P : Program} (w : World) {ops : Array Oper} {rest : List Oper} {o : Oper} {a : Act} {Q : Exit → Act → World → Prop}
    (hg : o.guard = none) (m x v : Operand) (t : TypeId) (hop : o.op = Op.insert t m x v)
    (k e : TypeId) (K : Maps.Keyed P k) (ht : P.underlying t = some (.map k e)) (R : Value → Option (DataW H × List MemPlace)) (b n : Nat) (D : DataW H)
    (hm : a.eval m = .map (some b)) (hown : w.ownsMap P k R b n D) (hn : n < maxLen) (key val : Value) (kl : Lit) (hx : a.eval x = key) (hv : a.eval v = val) (hkey : keyOf P k key = some kl)
    (d : DataW H) (ps : List MemPlace) (hval : R val = some (d, ps))
    (hK : ∀ w', w'.ownsMap P k R b (n + 1) (D.put kl d) → w.grownBy w' (some b) → wpList P ops Q rest (a.put o.dst undef) w') :
    wpList P ops Q (o :: rest) a w := by
  refine wpList_plain hg fun K' hK' => ?_
  obtain ⟨w', hrun, r1, r2⟩ := hown.update K ht hn hkey hval
  unfold Oper.wp
  simp [execOp, hop, hm, hx, hv, hrun, Result.andThen]
  exact hK' _ _ (hK w' r1 r2)

set_option maxHeartbeats 1600000 in
set_option maxRecDepth 100000 in
theorem waveFrom_any (n : Gm) (s : List Int) (w : World) (hn : Hid (GOk n)) (hs : n.St s) :
    Calls Try.prog 90 #[tw s] w fun e w' => ∃ v b, e = .returned v ∧ Wv n w' w.heap.size v [b] [oneC s] ∧ Below w.heap.size w w' := by
  have hmm := @run_makeMap Try.prog
  have h9 := hn.out.le9 hs
  have hkey := key_tw hn.out hs
  have hbx : Blk ((w.alloc (.cells (twl s).toArray 52)).alloc (.map #[] 0)) w.heap.size 52 (twl s) := (Blk.new w _ (twl s) _ rfl).alloc _
  have hmk : ((w.alloc (.cells (twl s).toArray 52)).alloc (.map #[] 0)).ownsMap Try.prog 52 (plainElem (H := Unit) Try.prog 3) (w.heap.size + 1) 0 (.map []) := by
    have := World.ownsMap_made (w.alloc (.cells (twl s).toArray 52)) Try.prog 52 (plainElem (H := Unit) Try.prog 3)
    simpa using this
  have hB0 : Below w.heap.size w ((w.alloc (.cells (twl s).toArray 52)).alloc (.map #[] 0)) := (below_new w _).alloc (by simp) _
  have HL := Lib.hid (show Lay n ((DataW.map [] : DD).put (kl s) (.lit (.int .i64 1))) (oneC s) from by
    have h1 := (Lay.empty n).put hn.out Maps.isMap_empty hs 1 (by omega)
    exact h1.congr (fun q _ => by unfold oneC; rfl))
  have HS := Lib.hid hs
  clear hs
  go_enter Try.func90, Try.ntmps90
  go_wp2_with (first | (refine wpList_load_tower rfl _ rfl w.heap.size s h9 rfl hbx ?_) | (refine wpList_insert_own _ rfl _ _ _ 60 rfl 52 3 keyd Try.underlying60 _ (w.heap.size + 1) 0 (.map []) rfl hmk (by unfold maxLen; omega) _ _ (kl s) rfl rfl hkey (.lit (.int .i64 1)) [] (plainElem_int Try.underlying3 rfl) ?_; intro w3 hown3 hgr3))
  have hB3 := hB0.grown hgr3 (by simp; omega) (by intro k hk; cases hk; omega)
  have hly := Ly.of hn.out hown3 HL.out
  have hlt := hown3.lt
  have hown4 : (w3.alloc (.cells #[mv (w.heap.size + 1)] 60)).ownsRow w.heap.size 60 1 (.slice (some ⟨w3.heap.size, 0, none⟩) 1 1) 1 [mv (w.heap.size + 1)] := World.ownsRow_lit w3 #[mv (w.heap.size + 1)] 1 hB3.size (by unfold maxLen; omega) rfl
  have hW : Wv n (w3.alloc (.cells #[mv (w.heap.size + 1)] 60)) w.heap.size (.slice (some ⟨w3.heap.size, 0, none⟩) 1 1) [w.heap.size + 1] [oneC s] := by
    refine ⟨rfl, hown4, fun i b c hb hc => ?_, by simp⟩
    have h0 : i < 1 := (List.getElem?_eq_some_iff.1 hb).1
    obtain rfl : i = 0 := by omega
    simp at hb hc
    subst hb
    subst hc
    exact ⟨hly.below (below_new w3 _) (Nat.le_refl _), by omega, by simp [Value.ownBlock]; omega⟩
  go_ret
  exact ⟨_, _, rfl, hW, hB3.alloc hB3.size _⟩

end Go.Proofs.Ytdlnniciccpchaa

namespace Go.Proofs.Ytdlnniciccpchaa
open Go Go.RowKit Go.Pan

/-- 's[k:]' of whatever -/
theorem wpList_fromOwn {P : Program} {w : World} {ops : Array Oper} {rest : List Oper} {o : Oper} {a : Act} {Q : Exit → Act → World → Prop}
    (hg : o.guard = none) (x lo : Operand) (t e : TypeId) (hop : o.op = .slice t x (some lo) none none) (i : TypeInfo) (hu : P.underlying t = some (.slice e)) (hi : P.info? e = some i) (hs1 : i.size = 1)
    (ad : Option Addr) (n cap k : Nat) (K : Int) (hx : a.eval x = .slice ad n cap) (hl : a.eval lo = .int .i64 K) (hKk : K = (k : Int)) (hk : k ≤ n) (cs : List Value) (hown : Own w 1 (.slice ad n cap) n cs)
    (hK : ∀ sp c, Own w 1 (.slice sp (n - k) c) (n - k) (cs.drop k) → (Value.slice sp (n - k) c).ownBlock = (Value.slice ad n cap).ownBlock → wpList P ops Q rest (a.put o.dst (.slice sp (n - k) c)) w) :
    wpList P ops Q (o :: rest) a w := by
  subst hKk
  have he : P.elem t = e := by simp [Program.elem, hu]
  have hnc : n ≤ cap := by
    obtain ⟨_, cap', hv, h1, _⟩ := hown.shape
    simp only [Value.slice.injEq] at hv
    omega
  have hrun : (Instr.sliceAt t (.slice ad n cap) (some (.int .i64 k)) none none).run P w = .ok (.slice (if cap = k then ad else ad.map (·.add (k * 1))) (n - k) (cap - k)) w := by
    rw [run_sliceAt_slice w t _ _ _ _ (by rw [he]; exact hu), run_slice_l w t ad n cap (by rw [he]; exact hu) .i64 k (by omega) (by omega)]
    simp [sizeOf, typeInfo, he, hi, hs1, sliced, Result.andThen]
  have hd := Own.drop hown hk
  refine wpList_plain hg fun K' hK' => ?_
  unfold Oper.wp
  simp [execOp, hop, hx, hl, hrun, Result.andThen]
  have hk' := hK _ _ hd (by
    cases ad with
    | none => simp [Value.ownBlock]
    | some b => by_cases hc : cap = k <;> by_cases hk0 : k = 0 <;> simp [hc, hk0, Value.ownBlock, Addr.add])
  simp only [Nat.mul_one] at hk'
  exact hK' _ _ hk'

/-- the layers from which a new one is dropped -/
def dropN (c0 : LC) (cs : List LC) : LC := cs.foldl dropC c0
theorem dropN_snoc (c0 : LC) (cs : List LC) (c : LC) : dropN c0 (cs ++ [c]) = dropC (dropN c0 cs) c := by simp [dropN, List.foldl_append]
theorem gnearL_length (n : Gm) (s : List Int) (a : Nat) : (gnearL n s a).length = a + 1 := by simp [gnearL]
theorem gnearL_get (n : Gm) (s : List Int) (a i : Nat) (h : i ≤ a) : (gnearL n s a)[i]? = some (gnearC n s i) := by
  simp [gnearL, List.getElem?_map, List.getElem?_range (show i < a + 1 by omega)]
theorem gnearL_succ (n : Gm) (s : List Int) (a : Nat) : gnearL n s (a + 1) = gnearL n s a ++ [gnearC n s (a + 1)] := by simp [gnearL, List.range_succ]
/-- what a wave grows by -/
theorem grow_near {n : Gm} (hn : GOk n) {s : List Int} (hs : n.St s) (a : Nat) : GEq n (dropN (gbehC n (gnearC n s a)) ((gnearL n s a).drop (a - 1))) (gnearC n s (a + 1)) := by
  cases a with
  | zero => exact ggrown_first hn hs
  | succ a =>
    have e : (gnearL n s (a + 1)).drop (a + 1 - 1) = [gnearC n s a, gnearC n s (a + 1)] := by
      apply List.ext_getElem?
      intro i
      rw [List.getElem?_drop]
      match i with
      | 0 => rw [gnearL_get n s _ _ (by omega)]; rfl
      | 1 => rw [gnearL_get n s _ _ (by omega)]; rfl
      | i + 2 => rw [List.getElem?_eq_none (by rw [gnearL_length]; omega)]; rfl
    rw [e]
    exact ggrown_next hn hs a
theorem gnearC_le {n : Gm} (hn : GOk n) {s : List Int} {a : Nat} (ha : a ≤ n.dm + 1) (q : List Int) : gnearC n s a q ≤ 1000000000000 := by
  unfold gnearC
  split
  · exact gways_big hn ha _ _
  · omega

set_option maxHeartbeats 4000000 in
set_option maxRecDepth 100000 in
theorem wnextR_any (n : Gm) (pt : TypeId) (pv : Value) (FT FD : FuncId) (R : World → Prop) (B : Nat) (v : Value) (ms : List Nat) (s : List Int) (a : Nat) (w : World) (hn : Hid (GOk n)) (hP : Hid (GPR n pt pv FT FD R)) (hR : Hid (R w)) (hks : n.ks.length ≤ 1000) (hs : Hid (n.St s)) (h : Wv n w B v ms (gnearL n s a)) (ha : a ≤ n.dm) (hBw : B ≤ w.heap.size) :
    Calls Try.prog 98 #[v, .iface pt pv] w fun e w' => ∃ b, e = .returned (.map (some b)) ∧ Ly n w' b (gnearC n s (a + 1)) ∧ w.heap.size ≤ b ∧ Below w.heap.size w w' := by
  have had : n.dm ≤ 1000 := hn.out.dm30
  have hml : ms.length = a + 1 := by rw [h.len, gnearL_length]
  have hne : ms ≠ [] := by rintro rfl; simp at hml
  obtain ⟨g0, cap0, rfl, hg0, hgl, hcap0, hcell⟩ := h.shape hne
  obtain ⟨ba, hba⟩ : ∃ b, ms[a]? = some b := ⟨_, List.getElem?_eq_getElem (by omega)⟩
  have hlast : ms.getLast? = some ba := by rw [List.getLast?_eq_getElem?, hml]; exact hba
  have hla := (h.lay a ba _ hba (gnearL_get n s a a (Nat.le_refl _))).1
  have hml2 : ms.length ≤ 1048576 := by omega
  obtain ⟨iL, hI, hI0, hI1, hI2⟩ := info_parts Try.infoLy
  have HI := Lib.hid hI
  have HI0 := Lib.hid hI0
  have HI1 := Lib.hid hI1
  have HI2 := Lib.hid hI2
  have HML := Lib.hid hml
  have HBA := Lib.hid hba
  have HLAST := Lib.hid hlast
  have HM := Lib.hid (show ∀ q, n.St q → gnearC n s a q ≤ 1000000000000 from fun q _ => gnearC_le hn.out (by omega) q)
  obtain ⟨len, hlen⟩ : ∃ l, ms.length = l := ⟨_, rfl⟩
  have hla1 : len ≤ a + 1 := by omega
  have hla2 : a + 1 ≤ len := by omega
  have HLEN := Lib.hid hlen
  rw [hlen] at hml2 hcap0 h ⊢
  have HCELL := Lib.hid hcell
  clear hI hI0 hI1 hI2 hml hba hlast hlen hcell
  have hWown := h.own
  go_enter Try.func98, Try.ntmps98
  go_wp2_with fail
  refine (wlast_any n B _ ms _ ba w h HLAST.out (by have := HLEN.out; omega)).mono ?_
  rintro e w0 ⟨rfl, rfl⟩
  go_wp2_with fail
  refine (lbehindR_any n pt pv FT FD R ba _ 1000000000000 w hn hP hR hla HM (Nat.le_refl _) hks).mono ?_
  rintro e w1 ⟨b', rfl, hly, hb', hb1⟩
  have hsz1 := hb1.size
  have hw1 := h.below hb1 (Nat.le_refl _)
  obtain ⟨K, hK⟩ : ∃ K, a - 1 = K := ⟨_, rfl⟩
  have HKA := Lib.hid hK
  have hKa : K ≤ a := by omega
  have hKa2 : a ≤ K + 1 := by omega
  have hKl : K ≤ len := by omega
  have hKm : max (0 : Int) ((len : Int) - 2) = (K : Int) := by omega
  have hown1 : Own w1 1 (.slice (some ⟨g0, 0, none⟩) len cap0) len (ms.map mv) := (Own.of_row (show w1.ownsRow B 60 1 (.slice (some ⟨g0, 0, none⟩) len cap0) len (ms.map mv) by have := hw1.own; rw [HLEN.out] at this; exact this)).1
  have HKM := Lib.hid hKm
  have hB1 := hb1
  have hwo : w1.ownsRow B 60 1 (.slice (some ⟨g0, 0, none⟩) len cap0) ms.length (ms.map mv) := hw1.own
  clear hb1 hK
  go_upto_region 2 with fail
  go_cut [17, 18, 19] (fun s17 s18 s19 wx => ∃ sp c m, s17 = .slice sp m c ∧ s18 = .int .i64 (m : Nat) ∧ s19 = .int .i64 0 ∧ m + K = len ∧ Own wx 1 (.slice sp m c) m ((ms.drop K).map mv) ∧ (Value.slice sp m c).ownBlock = some g0 ∧ wx = w1)
  case first =>
    by_cases hl2 : (len : Int) ≤ 2
    · have hK0 : K = 0 := by omega
      subst hK0
      clear hKm
      go_wp2
      go_meet
      exact ⟨_, _, len, rfl, rfl, rfl, by omega, hown1, rfl, rfl⟩
    · have hl3 : (2 : Int) < len := by omega
      have hKe : (len : Int) - 2 = (K : Int) := by omega
      have HKE := Lib.hid hKe
      clear hKm hl2 hKe
      go_wp2_with (refine wpList_fromOwn rfl _ _ 48 60 rfl iL Try.underlying48 HI.out HI1.out _ len cap0 K _ rfl rfl HKE.out hKl _ hown1 ?_; intro sp c hsub hsb)
      go_meet
      rw [← List.map_drop] at hsub
      exact ⟨sp, c, len - K, rfl, rfl, rfl, by omega, hsub, hsb, rfl⟩
  case rest =>
    obtain ⟨sp, c, m, rfl, rfl, rfl, hmK, hsub, hsb, rfl⟩ := hcut
    clear hKm hown1
    have HSUB := Lib.hid hsub
    have hm0 : 0 < m := by omega
    have HDL := Lib.hid (show (ms.drop K).length = m by rw [List.length_drop, HLEN.out]; omega)
    obtain ⟨gs, os, hsp, hgs, hcs, _⟩ := Own.at hsub (by have := hsub.shape; obtain ⟨_, _, he, h1, _⟩ := this; simp only [Value.slice.injEq] at he; obtain ⟨_, _, he⟩ := he; omega)
    subst hsp
    have hgg : gs = g0 := by simpa [Value.ownBlock] using hsb
    have hgs0 : gs < w.heap.size := by omega
    clear hgg hsb
    have HCS := Lib.hid hcs
    clear hsub hcs
    go_wp2
    go_loopw [7, 19] (fun _ iv' wr => ∃ j : Nat, j ≤ m ∧ iv' = .int .i64 j ∧ Ly n wr b' (dropN (gbehC n (gnearC n s a)) ((gnearL n s a).drop K |>.take j)) ∧ wc.grownBy wr (some b')) (fun _ i _ => m - (intOf i).toNat)
    case atStart => exact ⟨0, Nat.zero_le _, rfl, hly, ⟨rfl, rfl, rfl, Nat.le_refl _, fun _ _ _ => rfl⟩⟩
    case round =>
      obtain ⟨j, hj, rfl, hlyr, hG⟩ := hrel
      clear hly
      by_cases hjl : j < m
      · have hjl' : (j : Int) < m := by omega
        obtain ⟨bj, hbj⟩ : ∃ x, (ms.drop K)[j]? = some x := ⟨_, List.getElem?_eq_getElem (by rw [HDL.out]; exact hjl)⟩
        have hbj2 : ms[K + j]? = some bj := by rw [← hbj, List.getElem?_drop]
        have hcj : (gnearL n s a)[K + j]? = some (gnearC n s (K + j)) := gnearL_get n s a _ (by omega)
        obtain ⟨hlj, hBj, _⟩ := hw1.lay (K + j) bj _ hbj2 hcj
        have hbjl := hlj.lt
        have hbjm := (h.mem (List.mem_of_getElem? hbj2)).1
        have hnej : b' ≠ bj := by omega
        have hcell := HCS.out j (by omega)
        rw [List.getElem?_map, hbj] at hcell
        have hcellr : wr.cell? ⟨gs, os + j, none⟩ = some (mv bj) := by
          have e : mv bj = mv bj := rfl
          rw [← show wc.cell? ⟨gs, os + j, none⟩ = some (mv bj) from hcell]
          exact World.cell?_of_block (hG.block gs hgs (by simp; omega))
        have HSTEP := Lib.hid (show dropN (gbehC n (gnearC n s a)) (((gnearL n s a).drop K).take (j + 1)) = dropC (dropN (gbehC n (gnearC n s a)) (((gnearL n s a).drop K).take j)) (gnearC n s (K + j)) by
          rw [List.take_succ_eq_append_getElem (by rw [List.length_drop, gnearL_length]; omega), dropN_snoc]
          congr 1
          rw [List.getElem_drop]
          rw [List.getElem?_eq_getElem (by rw [gnearL_length]; omega)] at hcj
          exact Option.some.inj hcj)
        clear hcell hbj hbj2 hcj
        go_wp2_with fail
        refine (ldrop_any n b' bj _ _ wr hn hlyr (hlj.grown hG (by simpa using hnej)) hnej).mono ?_
        rintro e w2 ⟨rfl, hly2, hg2⟩
        have hG2 := hG.andThen hg2 (by intro j hj; cases hj; exact .inr rfl)
        rw [← HSTEP.out] at hly2
        go_wp2
        go_roundw
        case rel => exact ⟨j + 1, by omega, by go_num, hly2, hG2⟩
        case measure => simp [intOf] <;> omega
      · obtain rfl : j = m := by omega
        have hge : (j : Int) ≤ j := Int.le_refl _
        have hlye := hlyr.congr (show GEq n _ (gnearC n s (a + 1)) from by
          have h1 := grow_near hn.out hs.out a
          rw [HKA.out] at h1
          rw [List.take_of_length_le (by rw [List.length_drop, gnearL_length]; omega)]
          exact h1)
        have hBe := hB1.grown hG hB1.size (by intro j hj; cases hj; exact hb')
        clear hlyr HSUB
        go_wp2
        go_ret
        exact ⟨b', rfl, hlye, hb', hBe⟩

set_option maxHeartbeats 4000000 in
set_option maxRecDepth 100000 in
theorem wgrownR_any (n : Gm) (pt : TypeId) (pv : Value) (FT FD : FuncId) (R : World → Prop) (B : Nat) (v : Value) (ms : List Nat) (s : List Int) (a : Nat) (w : World) (hn : Hid (GOk n)) (hP : Hid (GPR n pt pv FT FD R)) (hR : Hid (R w)) (hks : n.ks.length ≤ 1000) (hs : Hid (n.St s)) (h : Wv n w B v ms (gnearL n s a)) (ha : a ≤ n.dm) (hBw : B ≤ w.heap.size) :
    Calls Try.prog 92 #[v, .iface pt pv] w fun e w' => ∃ g cap b, e = .returned (.slice (some ⟨g, 0, none⟩) (ms.length + 1) cap) ∧ Wv n w' B (.slice (some ⟨g, 0, none⟩) (ms.length + 1) cap) (ms ++ [b]) (gnearL n s (a + 1)) ∧ w.grownBy w' v.ownBlock ∧ (v.ownBlock = some g ∨ w.heap.size ≤ g) ∧ w.heap.size ≤ b := by
  have had : n.dm ≤ 1000 := hn.out.dm30
  have hml : ms.length = a + 1 := by rw [h.len, gnearL_length]
  have hne : ms ≠ [] := by rintro rfl; simp at hml
  obtain ⟨g0, cap0, rfl, hg0, hgl, hcap0, hcell⟩ := h.shape hne
  have hml2 : ms.length ≤ 1048576 := by omega
  obtain ⟨iL, hI, hI0, hI1, hI2⟩ := info_parts Try.infoLy
  have HI := Lib.hid hI
  have HI0 := Lib.hid hI0
  have HI1 := Lib.hid hI1
  have HI2 := Lib.hid hI2
  have HML := Lib.hid hml
  obtain ⟨len, hlen⟩ : ∃ l, ms.length = l := ⟨_, rfl⟩
  have hla1 : len ≤ a + 1 := by omega
  have HLEN := Lib.hid hlen
  have cn := wnextR_any n pt pv FT FD R B _ ms s a w hn hP hR hks hs h ha hBw
  rw [hlen] at hml2 hcap0 h cn ⊢
  clear hI hI0 hI1 hI2 hml hlen hcell
  go_enter Try.func92, Try.ntmps92
  go_wp2_with fail
  refine cn.mono ?_
  rintro e wr ⟨b', rfl, hlye, hb', hB1⟩
  have hwr := h.below hB1 (Nat.le_refl _)
  have hownr : wr.ownsRow B 60 1 (.slice (some ⟨g0, 0, none⟩) len cap0) len (ms.map mv) := by
    have := hwr.own
    rw [HLEN.out] at this
    exact this
  have hsr := hB1.size
  have hbl := hlye.lt
  clear cn
  go_wp2_with (at_builtin; refine wpList_append_lies _ rfl _ _ 48 rfl B 60 iL _ 1 8 Try.underlying48 HI.out HI0.out HI1.out HI2.out rfl (by omega) (.slice (some ⟨g0, 0, none⟩) len cap0) len (ms.map mv) rfl (hownr.alloc _) _ 1 1 [mv b'] rfl (by simp) (World.news_of_block (heap_alloc_new _ _)) (by simp [Value.oneCell']) (by omega) (by unfold maxLen; omega) (by omega) (by simp; omega) (wr.heap.size + 1) (by simp) ?_)
  intro g9 cap9 w9 hown9 hgr9 hat9 hlt9
  have hwa := hwr.alloc (.cells #[mv b'] 60)
  have HAPP := Lib.hid (Wv.app (cap := cap9) (g := g9) (w' := w9) hwa (hlye.below (below_new wr _) (Nat.le_refl _)) (by omega) (fun hm => by have := (h.mem hm).1; omega) (by simp [Value.ownBlock]; omega) (by rw [HLEN.out]; exact hown9) hgr9 (by
    rcases hat9 with h1 | h1
    · exact .inl h1
    · right; simp; omega))
  have hGa : w.grownBy w9 (some g0) := ((⟨hB1.os, hB1.tape, hB1.output, hB1.size, fun k hk _ => hB1.block k hk⟩ : w.grownBy wr (some g0)).andThen (World.grownBy_alloc wr (.cells #[mv b'] 60) none) (by intro j hj; cases hj)).andThen hgr9 (by intro j hj; right; exact hj)
  have hat : (Value.slice (some ⟨g0, 0, none⟩) len cap0).ownBlock = some g9 ∨ w.heap.size ≤ g9 := by
    rcases hat9 with h1 | h1
    · exact .inl h1
    · right; omega
  go_wp2
  go_ret
  exact ⟨g9, cap9, b', rfl, by rw [gnearL_succ]; have := HAPP.out; rw [HLEN.out] at this; exact this, hGa, hat, hb'⟩
theorem wgrown_any (n : Gm) (pt : TypeId) (pv : Value) (FT FD : FuncId) (B : Nat) (v : Value) (ms : List Nat) (s : List Int) (a : Nat) (w : World) (hn : Hid (GOk n)) (hP : Hid (GP n pt pv FT FD)) (hks : n.ks.length ≤ 1000) (hs : Hid (n.St s)) (h : Wv n w B v ms (gnearL n s a)) (ha : a ≤ n.dm) (hBw : B ≤ w.heap.size) :
    Calls Try.prog 92 #[v, .iface pt pv] w fun e w' => ∃ g cap b, e = .returned (.slice (some ⟨g, 0, none⟩) (ms.length + 1) cap) ∧ Wv n w' B (.slice (some ⟨g, 0, none⟩) (ms.length + 1) cap) (ms ++ [b]) (gnearL n s (a + 1)) ∧ w.grownBy w' v.ownBlock ∧ (v.ownBlock = some g ∨ w.heap.size ≤ g) ∧ w.heap.size ≤ b :=
  wgrownR_any n pt pv FT FD _ B v ms s a w hn hP (Lib.hid trivial) hks hs h ha hBw

end Go.Proofs.Ytdlnniciccpchaa

namespace Go.Proofs.Ytdlnniciccpchaa
open Go Go.RowKit Go.Pan

/-- no block in common -/
def ApW (v : Value) (ms : List Nat) (v' : Value) (ms' : List Nat) : Prop := ∀ g, (v.ownBlock = some g ∨ g ∈ ms) → ¬ (v'.ownBlock = some g ∨ g ∈ ms')
theorem ApW.symm {v v' : Value} {ms ms' : List Nat} (h : ApW v ms v' ms') : ApW v' ms' v ms := fun g h1 h2 => h g h2 h1
theorem ApW.of {n : Gm} {B B' : Nat} {w w' : World} {v v' : Value} {ms ms' : List Nat} {cs cs' : List LC} (h : Wv n w B v ms cs) (h' : Wv n w' B' v' ms' cs') (hB : w.heap.size ≤ B') : ApW v ms v' ms' := fun g h1 h2 => by
  have := h.low h1
  have := h'.low h2
  omega
/-- the first has grown -/
theorem ApW.grow {n : Gm} {B : Nat} {w : World} {v v2 : Value} {ms ms2 : List Nat} {cs2 : List LC} {g len cap b : Nat} (h : ApW v ms v2 ms2) (h2 : Wv n w B v2 ms2 cs2) (hat : v.ownBlock = some g ∨ w.heap.size ≤ g) (hb : w.heap.size ≤ b) :
    ApW (.slice (some ⟨g, 0, none⟩) len cap) (ms ++ [b]) v2 ms2 := fun k h1 hk => by
  have hlow := h2.low hk
  rcases h1 with h1 | h1
  · simp [Value.ownBlock] at h1
    subst h1
    rcases hat with h3 | h3
    · exact h _ (.inl h3) hk
    · omega
  · rcases List.mem_append.1 h1 with h1 | h1
    · exact h k (.inr h1) hk
    · simp at h1
      omega
theorem Wv.aside {n : Gm} {B : Nat} {w w' : World} {v v2 : Value} {ms ms2 : List Nat} {cs2 : List LC} (h2 : Wv n w B v2 ms2 cs2) (h : ApW v ms v2 ms2) (hg : w.grownBy w' v.ownBlock) : Wv n w' B v2 ms2 cs2 :=
  h2.grown hg fun g hg' => ⟨fun e => h g (.inl hg') (.inl e), fun e => h g (.inl hg') (.inr e)⟩
def wlen : Value → Nat
  | .slice _ l _ => l
  | _ => 0
theorem oneL {n : Gm} (hn : GOk n) {s : List Int} (hs : n.St s) {w : World} {B : Nat} {v : Value} {b : Nat} (h : Wv n w B v [b] [oneC s]) : Wv n w B v [b] (gnearL n s 0) :=
  h.congr (by simp [gnearL]) (fun i c c' h1 h2 => by
    have h0 : i < 1 := (List.getElem?_eq_some_iff.1 h1).1
    obtain rfl : i = 0 := by omega
    rw [gnearL_get n s 0 0 (Nat.le_refl _)] at h2
    simp at h1 h2
    subst h1
    subst h2
    exact gnearC_zero hn hs)
def Two (n : Gm) (w : World) (B : Nat) (s t : List Int) (a b : Nat) (v1 v2 : Value) : Prop := ∃ ms1 ms2, Wv n w B v1 ms1 (gnearL n s a) ∧ Wv n w B v2 ms2 (gnearL n t b) ∧ ApW v1 ms1 v2 ms2

set_option maxHeartbeats 4000000 in
set_option maxRecDepth 100000 in
theorem meetingR_any (n : Gm) (pt : TypeId) (pv : Value) (FT FD : FuncId) (R : World → Prop) (s t : List Int) (w : World) (hn : Hid (GOk n)) (hP : Hid (GPR n pt pv FT FD R)) (hR : Hid (R w)) (hks : n.ks.length ≤ 1000) (hs : Hid (n.St s)) (ht : Hid (n.St t)) :
    Calls Try.prog 74 #[tw s, tw t, .iface pt pv] w fun e w' => ∃ v1 v2 a b, e = .returned (.tuple #[v1, v2]) ∧ Two n w' w.heap.size s t a b v1 v2 ∧ Hid (gfar n s t = a + b) ∧ Below w.heap.size w w' := by
  have hdm := hn.out.dm30
  have h9s := (hn.out.le9 hs.out)
  have h9t := (hn.out.le9 ht.out)
  obtain ⟨W, hW⟩ : ∃ W, W = (w.alloc (.cells (twl s).toArray 52)).alloc (.cells (twl t).toArray 52) := ⟨_, rfl⟩
  have hb1 : Blk W w.heap.size 52 (twl s) := by rw [hW]; exact (Blk.new w _ (twl s) _ rfl).alloc _
  have hb2 : Blk W (w.heap.size + 1) 52 (twl t) := by rw [hW]; exact Blk.new _ _ (twl t) _ (by simp)
  have hB0 : Below w.heap.size w W := by rw [hW]; exact (below_new w _).alloc (by simp) _
  have hut := Try.underlying52
  have hs9 : (twl s).length = 9 := twl_length _ h9s
  have ht9 : (twl t).length = 9 := twl_length _ h9t
  have hsz : (Try.prog.info? 52).map (·.size) = some (twl s).length := by rw [Try.infoT, hs9]
  have hszt : (Try.prog.info? 52).map (·.size) = some (twl t).length := by rw [Try.infoT, ht9]
  have hr1 := hb1.range
  have hr2 := hb2.range
  have hl1 := hb1.lt
  have hl2 := hb2.lt
  have hf := (gfar_spec hn.out hs.out ht.out).2.1
  have HW := Lib.hid hW
  have HS9 := Lib.hid hs9
  have HT9 := Lib.hid ht9
  clear hW hs9 ht9
  go_enter Try.func74, Try.ntmps74
  go_upto_region 1 with fail
  rw [← HW.out]
  go_cut [8, 9] (fun s8 s9 wx => Two n wx w.heap.size s t 0 0 s8 s9 ∧ Below w.heap.size w wx)
  case first =>
    refine wp_region_held_drew (S := (fun w' => w'.rangeAt w.heap.size 0 (twl s) ∧ w'.rangeAt (w.heap.size + 1) 0 (twl t))) (by kernel_rfl) (⟨hr1, hr2⟩) (fun hHeld => ?_)
    refine wpAnyH_take (i := 0) rfl (by kernel_rfl) (by kernel_rfl) (by kernel_rfl) (fun _ _ _ h => h) (yieldsIf_load_mid (by rfl) _ _ rfl _ _ rfl _ _ (fun w hw => hw.1) hut rfl hsz) (by assumption) ?_
    try simp only [List.getElem_toArray, List.getElem_cons_zero, Act.put, List.setIfInBounds_toArray, List.set_cons_zero, List.set_cons_succ]
    refine wpAnyH_take (i := 2) rfl (by kernel_rfl) (by kernel_rfl) (by kernel_rfl) (fun _ _ _ h => h) (yieldsIf_load_mid (by rfl) _ _ rfl _ _ rfl _ _ (fun w hw => hw.2) hut rfl hszt) (by assumption) ?_
    try simp only [List.getElem_toArray, List.getElem_cons_zero, List.getElem_cons_succ, Act.put, List.setIfInBounds_toArray, List.set_cons_zero, List.set_cons_succ]
    refine wpAnyH_ready (rs := [1]) (by kernel_rfl) (by simp) ?_
    refine AllReadyH.cons rfl (fun Kc hK => ?_) AllReadyH.nil
    · go_simp
      refine (waveFrom_any n s _ hn hs.out).mono ?_
      rintro e w1 ⟨x1, y1, rfl, hX1, hbA⟩
      go_wp2_with fail
      refine hK.out _ _ ⟨range_below hHeld.1 hbA hl1, range_below hHeld.2 hbA hl2⟩ (fun hHeld => ?_)
      clear hK Kc
      try simp only [List.getElem_toArray, List.getElem_cons_zero, List.getElem_cons_succ, Act.put, List.setIfInBounds_toArray, List.set_cons_zero, List.set_cons_succ]
      have hl1' := Nat.lt_of_lt_of_le hl1 hbA.size
      have hl2' := Nat.lt_of_lt_of_le hl2 hbA.size
      refine wpAnyH_ready (rs := [3]) (by kernel_rfl) (by simp) ?_
      refine AllReadyH.cons rfl (fun Kc hK => ?_) AllReadyH.nil
      go_simp
      refine (waveFrom_any n t _ hn ht.out).mono ?_
      rintro e w2 ⟨x2, y2, rfl, hX2, hbB⟩
      go_wp2_with fail
      refine hK.out _ _ ⟨range_below hHeld.1 hbB hl1', range_below hHeld.2 hbB hl2'⟩ (fun hHeld => ?_)
      clear hK Kc
      try simp only [List.getElem_toArray, List.getElem_cons_zero, List.getElem_cons_succ, Act.put, List.setIfInBounds_toArray, List.set_cons_zero, List.set_cons_succ]
      refine wpAnyH_take (i := 4) (v := ?_) rfl (by kernel_rfl) (by kernel_rfl) (by kernel_rfl) (fun _ _ _ h => h) (Or.inl ⟨by rfl, ?_⟩) (by assumption) ?_
      rotate_left
      · intro w _; go_simp; with_reducible rfl
      try simp only [List.getElem_toArray, List.getElem_cons_zero, List.getElem_cons_succ, Act.put, List.setIfInBounds_toArray, List.set_cons_zero, List.set_cons_succ]
      refine wpAnyH_take (i := 5) (v := ?_) rfl (by kernel_rfl) (by kernel_rfl) (by kernel_rfl) (fun _ _ _ h => h) (Or.inl ⟨by rfl, ?_⟩) (by assumption) ?_
      rotate_left
      · intro w _; go_simp; with_reducible rfl
      try simp only [List.getElem_toArray, List.getElem_cons_zero, List.getElem_cons_succ, Act.put, List.setIfInBounds_toArray, List.set_cons_zero, List.set_cons_succ]
      refine wpAnyH_done (by kernel_rfl) ?_ _
      have hap : ApW x1 [y1] x2 [y2] := ApW.of hX1 hX2 (Nat.le_refl _)
      have hz1 : w.heap.size ≤ W.drew.heap.size := hB0.size
      have hz2 : w.heap.size ≤ w1.heap.size := Nat.le_trans hz1 hbA.size
      have hBB : Below w.heap.size w w2 := (hB0.drew.trans (hbA.mono hz1)).trans (hbB.mono hz2)
      have hTwo : Two n w2 w.heap.size s t 0 0 x1 x2 := ⟨[y1], [y2], oneL hn.out hs.out ((hX1.below hbB (Nat.le_refl _)).mono hz1), oneL hn.out ht.out (hX2.mono hz2), hap⟩
      go_wp2_with fail
      go_meet
      exact ⟨hTwo, hBB⟩
  case rest =>
    obtain ⟨hT0, hB1⟩ := hcut
    clear hb1 hb2 hr1 hr2 hl1 hl2 hB0 hsz hszt hut
    have hf0 : 0 + 0 ≤ gfar n s t := by omega
    go_wp2
    go_loopw [8, 9] (fun s8 s9 wr => ∃ a b, Two n wr w.heap.size s t a b s8 s9 ∧ a + b ≤ gfar n s t ∧ Below w.heap.size w wr) (fun s8 s9 _ => n.dm + 3 - (wlen s8 + wlen s9))
    case atStart => exact ⟨0, 0, hT0, hf0, hB1⟩
    case round =>
      obtain ⟨a, b, hT, hab, hB⟩ := hrel
      clear hT0 hB1 hf0
      obtain ⟨ms1, ms2, hw1, hw2, hap⟩ := hT
      have hm1 : ms1.length = a + 1 := by rw [hw1.len, gnearL_length]
      have hm2 : ms2.length = b + 1 := by rw [hw2.len, gnearL_length]
      have hne1 : ms1 ≠ [] := by rintro rfl; simp at hm1
      have hne2 : ms2 ≠ [] := by rintro rfl; simp at hm2
      obtain ⟨g1, cap1, rfl, hg1, hgl1, _, _⟩ := hw1.shape hne1
      obtain ⟨g2, cap2, rfl, hg2, hgl2, _, _⟩ := hw2.shape hne2
      obtain ⟨b1, hb1⟩ : ∃ x, ms1[a]? = some x := ⟨_, List.getElem?_eq_getElem (by omega)⟩
      obtain ⟨b2, hb2⟩ : ∃ x, ms2[b]? = some x := ⟨_, List.getElem?_eq_getElem (by omega)⟩
      have hl1 := (hw1.lay a b1 _ hb1 (gnearL_get n s a a (Nat.le_refl _))).1
      have hl2 := (hw2.lay b b2 _ hb2 (gnearL_get n t b b (Nat.le_refl _))).1
      have HL1 := Lib.hid (show ms1.getLast? = some b1 by rw [List.getLast?_eq_getElem?, hm1]; exact hb1)
      have HL2 := Lib.hid (show ms2.getLast? = some b2 by rw [List.getLast?_eq_getElem?, hm2]; exact hb2)
      have HM1 := Lib.hid hm1
      have HM2 := Lib.hid hm2
      have hlb1 : ms1.length ≤ 1048576 := by omega
      have hlb2 : ms2.length ≤ 1048576 := by omega
      obtain ⟨len1, hlen1⟩ : ∃ l, ms1.length = l := ⟨_, rfl⟩
      obtain ⟨len2, hlen2⟩ : ∃ l, ms2.length = l := ⟨_, rfl⟩
      rw [hlen1] at hw1 hlb1 hap ⊢
      rw [hlen2] at hw2 hlb2 hap ⊢
      have HLN1 := Lib.hid hlen1
      have HLN2 := Lib.hid hlen2
      have hbd1 : len1 ≤ 1001 := by omega
      have hle1 : len1 ≤ a + 1 := by omega
      have hle2 : len2 ≤ b + 1 := by omega
      have hbd2 : len2 ≤ 1001 := by omega
      have hsr := hB.size
      clear hlen1 hlen2 hm1 hm2 hb1 hb2
      go_wp2_with fail
      refine (wlast_any n _ _ ms1 _ b1 wr hw1 HL1.out (by have := HM1.out; omega)).mono ?_
      rintro e w0 ⟨rfl, rfl⟩
      go_wp2_with fail
      refine (wlast_any n _ _ ms2 _ b2 wr hw2 HL2.out (by have := HM2.out; omega)).mono ?_
      rintro e w0 ⟨rfl, rfl⟩
      go_wp2_with fail
      refine (lmeets_any n b1 b2 _ _ wr hn hl1 hl2).mono ?_
      rintro e w3 ⟨r, rfl, hr, hb3⟩
      have hw13 := hw1.below hb3 (Nat.le_refl _)
      have hw23 := hw2.below hb3 (Nat.le_refl _)
      have hB3 := hB.trans (hb3.mono hsr)
      have hl13 := hl1.below hb3 (Nat.le_refl _)
      have hl23 := hl2.below hb3 (Nat.le_refl _)
      have hsr3 := hB3.size
      have HMT := Lib.hid (hr.trans (gnear_meet hn.out hs.out ht.out hab))
      clear hr hb3 hw1 hw2 hl1 hl2 hB
      cases r with
      | true =>
        have HF := Lib.hid (HMT.out.1 rfl)
        go_wp2
        go_ret2
        exact ⟨_, _, a, b, rfl, ⟨ms1, ms2, hw13, hw23, hap⟩, HF, hB3⟩
      | false =>
        have hlt : a + b < gfar n s t := by
          by_cases e : gfar n s t = a + b
          · have := HMT.out.2 e; cases this
          · omega
        obtain ⟨D1, ho1, _⟩ := hl13
        obtain ⟨D2, ho2, _⟩ := hl23
        have hsz1 := ho1.size_le
        have hsz2 := ho2.size_le
        have hfl := hn.out.total
        go_wp2_with fail
        refine (wlast_any n _ _ ms1 _ b1 w3 hw13 HL1.out (by have := HM1.out; omega)).mono ?_
        rintro e w0 ⟨rfl, rfl⟩
        go_wp2_with (at_len; refine wpList_len_own _ rfl _ 60 rfl 52 3 Try.underlying60 _ b1 n.all.length D1 rfl ho1 ?_)
        refine (wlast_any n _ _ ms2 _ b2 w3 hw23 HL2.out (by have := HM2.out; omega)).mono ?_
        rintro e w0 ⟨rfl, rfl⟩
        by_cases hcmp : (Maps.size D1 : Int) < (Maps.size D2 : Int)
        · go_wp2_with (at_len; refine wpList_len_own _ rfl _ 60 rfl 52 3 Try.underlying60 _ b2 n.all.length D2 rfl ho2 ?_)
          have c := wgrownR_any n pt pv FT FD R w.heap.size _ ms1 s a w3 hn hP (Lib.hid (hP.out.rb _ _ hR.out hB3)) hks hs hw13 (by omega) hsr3
          rw [HLN1.out] at c
          refine c.mono ?_
          rintro e w5 ⟨g5, cap5, b5, rfl, hw5, hgr5, hat5, hb5⟩
          have hw25 := hw23.aside hap hgr5
          have hap5 := ApW.grow (len := len1 + 1) (cap := cap5) hap hw23 hat5 hb5
          have hB5 := hB3.grown hgr5 hsr3 (by intro k hk; simp [Value.ownBlock] at hk; omega)
          clear c hw13 hw23 hap hB3 ho1 ho2 hgr5
          go_wp2
          go_roundw
          case rel => exact ⟨a + 1, b, ⟨ms1 ++ [b5], ms2, hw5, hw25, hap5⟩, by omega, hB5⟩
          case measure => simp [wlen] <;> omega
        · go_wp2_with (at_len; refine wpList_len_own _ rfl _ 60 rfl 52 3 Try.underlying60 _ b2 n.all.length D2 rfl ho2 ?_)
          have c := wgrownR_any n pt pv FT FD R w.heap.size _ ms2 t b w3 hn hP (Lib.hid (hP.out.rb _ _ hR.out hB3)) hks ht hw23 (by omega) hsr3
          rw [HLN2.out] at c
          refine c.mono ?_
          rintro e w5 ⟨g5, cap5, b5, rfl, hw5, hgr5, hat5, hb5⟩
          have hw15 := hw13.aside hap.symm hgr5
          have hap5 := (ApW.grow (len := len2 + 1) (cap := cap5) hap.symm hw13 hat5 hb5).symm
          have hB5 := hB3.grown hgr5 hsr3 (by intro k hk; simp [Value.ownBlock] at hk; omega)
          clear c hw13 hw23 hap hB3 ho1 ho2 hgr5
          go_wp2
          go_roundw
          case rel => exact ⟨a, b + 1, ⟨ms1, ms2 ++ [b5], hw15, hw5, hap5⟩, by omega, hB5⟩
          case measure => simp [wlen] <;> omega
theorem meeting_any (n : Gm) (pt : TypeId) (pv : Value) (FT FD : FuncId) (s t : List Int) (w : World) (hn : Hid (GOk n)) (hP : Hid (GP n pt pv FT FD)) (hks : n.ks.length ≤ 1000) (hs : Hid (n.St s)) (ht : Hid (n.St t)) :
    Calls Try.prog 74 #[tw s, tw t, .iface pt pv] w fun e w' => ∃ v1 v2 a b, e = .returned (.tuple #[v1, v2]) ∧ Two n w' w.heap.size s t a b v1 v2 ∧ Hid (gfar n s t = a + b) ∧ Below w.heap.size w w' :=
  meetingR_any n pt pv FT FD _ s t w hn hP (Lib.hid trivial) hks hs ht

end Go.Proofs.Ytdlnniciccpchaa

namespace Go.Proofs.Ytdlnniciccpchaa
open Go Go.RowKit Go.Pan

theorem ApW.grow2 {n : Gm} {B : Nat} {w : World} {v v2 : Value} {ms ms2 : List Nat} {cs2 : List LC} {g len cap b : Nat} (h : ApW v ms v2 ms2) (h2 : Wv n w B v2 ms2 cs2) (hat : v.ownBlock = some g ∨ w.heap.size ≤ g) (hb : ¬ (v2.ownBlock = some b ∨ b ∈ ms2)) :
    ApW (.slice (some ⟨g, 0, none⟩) len cap) (ms ++ [b]) v2 ms2 := fun k h1 hk => by
  have hlow := h2.low hk
  rcases h1 with h1 | h1
  · simp [Value.ownBlock] at h1
    subst h1
    rcases hat with h3 | h3
    · exact h _ (.inl h3) hk
    · omega
  · rcases List.mem_append.1 h1 with h1 | h1
    · exact h k (.inr h1) hk
    · simp at h1
      subst h1
      exact hb hk
/-- the layers from s, of which those from i on are on the way to t -/
def mixL (n : Gm) (s t : List Int) (d a i : Nat) : List LC := (List.range (a + 1)).map fun j => if j < i then gnearC n s j else gwayC n s t j (d - j)
theorem mixL_length (n : Gm) (s t : List Int) (d a i : Nat) : (mixL n s t d a i).length = a + 1 := by simp [mixL]
theorem mixL_get (n : Gm) (s t : List Int) (d a i j : Nat) (h : j ≤ a) : (mixL n s t d a i)[j]? = some (if j < i then gnearC n s j else gwayC n s t j (d - j)) := by
  simp [mixL, List.getElem?_map, List.getElem?_range (show j < a + 1 by omega)]
/-- the layers of the way, the first m turns of it -/
def wayP (n : Gm) (s t : List Int) (d m : Nat) : List LC := (List.range (m + 1)).map fun j => gwayC n s t j (d - j)
theorem wayP_length (n : Gm) (s t : List Int) (d m : Nat) : (wayP n s t d m).length = m + 1 := by simp [wayP]
theorem wayP_get (n : Gm) (s t : List Int) (d m j : Nat) (h : j ≤ m) : (wayP n s t d m)[j]? = some (gwayC n s t j (d - j)) := by
  simp [wayP, List.getElem?_map, List.getElem?_range (show j < m + 1 by omega)]
theorem wayP_succ (n : Gm) (s t : List Int) (d m : Nat) : wayP n s t d (m + 1) = wayP n s t d m ++ [gwayC n s t (m + 1) (d - (m + 1))] := by simp [wayP, List.range_succ]
theorem mixL_zero (n : Gm) (s t : List Int) (d a : Nat) : mixL n s t d a 0 = wayP n s t d a := by simp [mixL, wayP]
section
variable {n : Gm} {w : World} {B : Nat} {v : Value} {ms : List Nat} {s t : List Int}
theorem mix_start (hn : GOk n) {a b : Nat} (hs : n.St s) (ht : n.St t) (h : Wv n w B v ms ((gnearL n s a).set a (keepC (gnearC n s a) (gnearC n t b)))) : Wv n w B v ms (mixL n s t (a + b) a a) :=
  h.congr (by rw [mixL_length, List.length_set, gnearL_length]) (fun i c c' h1 h2 => by
    have hi : i < a + 1 := by have := (List.getElem?_eq_some_iff.1 h2).1; rwa [mixL_length] at this
    rw [mixL_get _ _ _ _ _ _ _ (by omega)] at h2
    by_cases e : a = i
    · subst e
      rw [List.getElem?_set_self (by rw [gnearL_length]; omega)] at h1
      simp at h1 h2
      subst h1
      subst h2
      exact gway_mid hn hs ht a b
    · rw [List.getElem?_set_ne e, gnearL_get _ _ _ _ (by omega)] at h1
      rw [if_pos (by omega)] at h2
      simp at h1 h2
      subst h1
      subst h2
      exact GEq.refl _ _)
theorem mix_step (hn : GOk n) {a d m : Nat} (hs : n.St s) (ht : n.St t) (hd : gfar n s t = d) (hma : m < a) (had : a ≤ d) (h : Wv n w B v ms ((mixL n s t d a (m + 1)).set m (keepC (gnearC n s m) (gbehC n (gwayC n s t (m + 1) (d - (m + 1))))))) : Wv n w B v ms (mixL n s t d a m) :=
  h.congr (by rw [mixL_length, List.length_set, mixL_length]) (fun i c c' h1 h2 => by
    have hi : i < a + 1 := by have := (List.getElem?_eq_some_iff.1 h2).1; rwa [mixL_length] at this
    rw [mixL_get _ _ _ _ _ _ _ (by omega)] at h2
    by_cases e : m = i
    · subst e
      rw [List.getElem?_set_self (by rw [mixL_length]; omega)] at h1
      rw [if_neg (by omega)] at h2
      simp at h1 h2
      subst h1
      subst h2
      have := gway_back hn (i := m) (j := d - (m + 1)) hs ht (by omega)
      rwa [show d - (m + 1) + 1 = d - m by omega] at this
    · rw [List.getElem?_set_ne e, mixL_get _ _ _ _ _ _ _ (by omega)] at h1
      simp only [Option.some.injEq] at h1 h2
      subst h1
      subst h2
      by_cases hlt : i < m
      · rw [if_pos (by omega), if_pos hlt]; exact GEq.refl _ _
      · rw [if_neg (by omega), if_neg hlt]; exact GEq.refl _ _)
end
theorem gwayC_le {n : Gm} (hn : GOk n) {s t : List Int} {a b : Nat} (ha : a ≤ n.dm + 1) (q : List Int) : gwayC n s t a b q ≤ 1000000000000 := by
  unfold gwayC
  split
  · exact gways_big hn ha _ _
  · omega

set_option maxHeartbeats 4000000 in
set_option maxRecDepth 100000 in
theorem wayR_any (n : Gm) (pt : TypeId) (pv : Value) (FT FD : FuncId) (R : World → Prop) (s t : List Int) (w : World) (hn : Hid (GOk n)) (hP : Hid (GPR n pt pv FT FD R)) (hR : Hid (R w)) (hks : n.ks.length ≤ 1000) (hs : Hid (n.St s)) (ht : Hid (n.St t)) :
    Calls Try.prog 47 #[tw s, tw t, .iface pt pv] w fun e w' => ∃ g cap ms, e = .returned (.slice (some ⟨g, 0, none⟩) (gfar n s t + 1) cap) ∧ Wv n w' w.heap.size (.slice (some ⟨g, 0, none⟩) (gfar n s t + 1) cap) ms (wayP n s t (gfar n s t) (gfar n s t)) ∧ Below w.heap.size w w' := by
  have hdm := hn.out.dm30
  have h9s := (hn.out.le9 hs.out)
  have h9t := (hn.out.le9 ht.out)
  obtain ⟨W, hW⟩ : ∃ W, W = (w.alloc (.cells (twl s).toArray 52)).alloc (.cells (twl t).toArray 52) := ⟨_, rfl⟩
  have hb1 : Blk W w.heap.size 52 (twl s) := by rw [hW]; exact (Blk.new w _ (twl s) _ rfl).alloc _
  have hb2 : Blk W (w.heap.size + 1) 52 (twl t) := by rw [hW]; exact Blk.new _ _ (twl t) _ (by simp)
  have hB0 : Below w.heap.size w W := by rw [hW]; exact (below_new w _).alloc (by simp) _
  have hf := (gfar_spec hn.out hs.out ht.out).2.1
  have HW := Lib.hid hW
  obtain ⟨d, hd⟩ : ∃ d, gfar n s t = d := ⟨_, rfl⟩
  rw [hd] at hf ⊢
  have HD := Lib.hid hd
  clear hW hd
  go_enter Try.func47, Try.ntmps47
  go_upto_region 1 with fail
  rw [← HW.out]
  go_wp2_with (first | (refine wpList_load_tower rfl _ rfl w.heap.size s h9s rfl hb1 ?_) | (refine wpList_load_tower rfl _ rfl (w.heap.size + 1) t h9t rfl hb2 ?_))
  refine (meetingR_any n pt pv FT FD R s t W hn hP (Lib.hid (hP.out.rb _ _ hR.out hB0)) hks hs ht).mono ?_
  rintro e w1 ⟨v1, v2, a, b, rfl, ⟨ms1, ms2, hw1, hw2, hap⟩, hfar, hbm⟩
  have hB1 := hB0.trans (hbm.mono hB0.size)
  have hw1 := hw1.mono hB0.size
  have hw2 := hw2.mono hB0.size
  have hab1 : a + b ≤ d := by have := hfar.out; have := HD.out; omega
  have hab2 : d ≤ a + b := by have := hfar.out; have := HD.out; omega
  clear hb1 hb2 hB0 hbm
  have hm1 : ms1.length = a + 1 := by rw [hw1.len, gnearL_length]
  have hm2 : ms2.length = b + 1 := by rw [hw2.len, gnearL_length]
  have hne1 : ms1 ≠ [] := by rintro rfl; simp at hm1
  have hne2 : ms2 ≠ [] := by rintro rfl; simp at hm2
  obtain ⟨g1, cap1, rfl, hg1, hgl1, hc1, hcell1⟩ := hw1.shape hne1
  obtain ⟨g2, cap2, rfl, hg2, hgl2, hc2, hcell2⟩ := hw2.shape hne2
  obtain ⟨b1, hb1⟩ : ∃ x, ms1[a]? = some x := ⟨_, List.getElem?_eq_getElem (by omega)⟩
  obtain ⟨b2, hb2⟩ : ∃ x, ms2[b]? = some x := ⟨_, List.getElem?_eq_getElem (by omega)⟩
  have hl1 := (hw1.lay a b1 _ hb1 (gnearL_get n s a a (Nat.le_refl _))).1
  have hl2 := (hw2.lay b b2 _ hb2 (gnearL_get n t b b (Nat.le_refl _))).1
  have HL1 := Lib.hid (show ms1.getLast? = some b1 by rw [List.getLast?_eq_getElem?, hm1]; exact hb1)
  have HL2 := Lib.hid (show ms2.getLast? = some b2 by rw [List.getLast?_eq_getElem?, hm2]; exact hb2)
  have hne12 : b1 ≠ b2 := fun e => hap b1 (.inr (List.mem_of_getElem? hb1)) (.inr (by rw [e]; exact List.mem_of_getElem? hb2))
  have hlm1 : ms1.length ≤ 1048576 := by omega
  have hlm2 : ms2.length ≤ 1048576 := by omega
  have HM1 := Lib.hid hm1
  have HM2 := Lib.hid hm2
  have HB1 := Lib.hid hb1
  have HC2 := Lib.hid hcell2
  obtain ⟨len1, hlen1⟩ : ∃ l, ms1.length = l := ⟨_, rfl⟩
  obtain ⟨len2, hlen2⟩ : ∃ l, ms2.length = l := ⟨_, rfl⟩
  rw [hlen1] at hw1 hap hc1
  rw [hlen2] at hw2 hap hc2
  simp only [hlen1, hlen2]
  have hle1 : len1 ≤ a + 1 := by omega
  have hle2 : len2 ≤ b + 1 := by omega
  have hle3 : a + 1 ≤ len1 := by omega
  have hle4 : b + 1 ≤ len2 := by omega
  have HN1 := Lib.hid hlen1
  have HN2 := Lib.hid hlen2
  clear hlen1 hlen2 hm1 hm2 hb1 hb2 hcell1 hcell2
  go_wp2_with fail
  refine (wlast_any n _ _ ms1 _ b1 w1 hw1 HL1.out (by have := HM1.out; omega)).mono ?_
  rintro e w0 ⟨rfl, rfl⟩
  go_wp2_with fail
  refine (wlast_any n _ _ ms2 _ b2 w1 hw2 HL2.out (by have := HM2.out; omega)).mono ?_
  rintro e w0 ⟨rfl, rfl⟩
  go_wp2_with fail
  refine (lkeep_any n b1 b2 _ _ w1 hn hl1 hl2 hne12).mono ?_
  rintro e w2 ⟨rfl, hly2, hg2⟩
  have hwm := mix_start hn.out hs.out ht.out (hw1.turn HB1.out hly2 hg2)
  have hw22 := hw2.grown hg2 (fun g hg => by cases hg; exact ⟨fun e => hap _ (.inr (List.mem_of_getElem? HB1.out)) (.inl e), fun e => hap _ (.inr (List.mem_of_getElem? HB1.out)) (.inr e)⟩)
  have hdd : a + b = d := by omega
  rw [hdd] at hwm
  have hlw1 := hw1.mem (List.mem_of_getElem? HB1.out)
  have hB2 := hB1.grown hg2 hB1.size (by intro k hk; cases hk; exact hlw1.2.1)
  have hla : (len1 : Int) - 2 = (a : Int) - 1 := by omega
  have HLA := Lib.hid hla
  clear hdd hla hlw1 hly2 hg2 hw1 hw2 hB1 hl1 hl2 hgl1 hgl2
  go_wp2_with fail
  rw [HLA.out]
  go_loopw [9] (fun iv' wr => ∃ i : Nat, i ≤ a ∧ iv' = .int .i64 ((i : Int) - 1) ∧ Wv n wr w.heap.size (.slice (some ⟨g1, 0, none⟩) len1 cap1) ms1 (mixL n s t d a i) ∧ Wv n wr w.heap.size (.slice (some ⟨g2, 0, none⟩) len2 cap2) ms2 (gnearL n t b) ∧ Below w.heap.size w wr) (fun iv' _ => (intOf iv' + 1).toNat)
  case atStart => exact ⟨a, Nat.le_refl _, rfl, hwm, hw22, hB2⟩
  case round =>
    obtain ⟨i, hia, rfl, hwr, hw2r, hBr⟩ := hrel
    clear hwm hw22 hB2
    have hsr := hBr.size
    cases i with
    | succ m =>
      have e1 : (((m + 1 : Nat) : Int) - 1) = (m : Int) := by omega
      rw [e1]
      have HE1 := Lib.hid e1
      clear e1
      have hm0 : (0 : Int) ≤ (m : Int) := by omega
      have hma : m < a := by omega
      obtain ⟨bm, hbm⟩ : ∃ x, ms1[m]? = some x := ⟨_, List.getElem?_eq_getElem (by have := HM1.out; omega)⟩
      obtain ⟨bi, hbi⟩ : ∃ x, ms1[m + 1]? = some x := ⟨_, List.getElem?_eq_getElem (by have := HM1.out; omega)⟩
      have hlm := (hwr.lay m bm _ hbm (mixL_get n s t d a (m + 1) m (by omega))).1
      have hli := (hwr.lay (m + 1) bi _ hbi (mixL_get n s t d a (m + 1) (m + 1) (by omega))).1
      rw [if_pos (Nat.lt_succ_self m)] at hlm
      rw [if_neg (Nat.lt_irrefl _)] at hli
      have hlm1 := hwr.mem (List.mem_of_getElem? hbm)
      have hgm : g1 ≠ bm := by have := hlm1.2.2; simpa [Value.ownBlock] using this
      obtain ⟨gg, cc, hsh, _, hgl, _, hcl⟩ := hwr.shape hne1
      simp only [Value.slice.injEq, Option.some.injEq, Addr.mk.injEq, and_true] at hsh
      obtain ⟨rfl, hlx, rfl⟩ := hsh
      clear hlx
      have hcm := hcl m bm hbm
      have hci := hcl (m + 1) bi hbi
      have hne2' : ∀ x, x ∈ ms2 → x ≠ bm := fun x hx e => hap bm (.inr (List.mem_of_getElem? hbm)) (.inr (by rw [← e]; exact hx))
      have hne2b : (Value.slice (some ⟨g2, 0, none⟩) len2 cap2).ownBlock ≠ some bm := fun e => hap bm (.inr (List.mem_of_getElem? hbm)) (.inl e)
      have HMC := Lib.hid (show ∀ q, n.St q → gwayC n s t (m + 1) (d - (m + 1)) q ≤ 1000000000000 from fun q _ => gwayC_le hn.out (by omega) q)
      have hi1 : (m : Int) < len1 := by omega
      have hi1n : m < len1 := by omega
      have hi2n : m + 1 < len1 := by omega
      have hi2 : (m : Int) + 1 < len1 := by omega
      have hi20 : (0 : Int) ≤ (m : Int) + 1 := by omega
      have hi2t : ((m : Int) + 1).toNat = m + 1 := rfl
      have hs1 := IntWalk.i64_in ((m : Int) + 1) (by omega)
      have hblm := hlm.lt
      have HBM := Lib.hid hbm
      clear hbm hbi hcl
      go_wp2_with fail
      go_region_held3 (fun w' => w'.cell? ⟨g1, m, none⟩ = some (mv bm) ∧ w'.cell? ⟨g1, m + 1, none⟩ = some (mv bi)) (first | exact ⟨hcm, hci⟩ | exact ⟨k1, k2⟩ | exact ⟨k3, k4⟩)
        (first
          | (go_at_call 76; refine (lbehindR_any n pt pv FT FD R bi _ 1000000000000 _ hn hP (Lib.hid (hP.out.rb _ _ hR.out hBr.drew)) (hli.kept (w' := wr.drew) rfl) HMC (Nat.le_refl _) hks).mono ?_; rintro e w3 ⟨b', rfl, hly3, hb', hb3⟩; have k1 := (hb3.cell (p := ⟨g1, m, none⟩) (by exact hgl)).trans hcm; have k2 := (hb3.cell (p := ⟨g1, m + 1, none⟩) (by exact hgl)).trans hci)
          | (go_at_call 75; refine (lkeep_any n bm b' _ _ _ hn ((hlm.kept (w' := wr.drew) rfl).below hb3 (Nat.le_refl _)) hly3 (by have : wr.heap.size ≤ b' := hb'; omega)).mono ?_; rintro e w4 ⟨rfl, hly4, hg4⟩; have k3 := (World.cell?_of_block (a := ⟨g1, m, none⟩) (hg4.block g1 (Nat.lt_of_lt_of_le hgl hb3.size) (by simpa using hgm))).trans k1; have k4 := (World.cell?_of_block (a := ⟨g1, m + 1, none⟩) (hg4.block g1 (Nat.lt_of_lt_of_le hgl hb3.size) (by simpa using hgm))).trans k2))
      have hwr3 := (hwr.kept (w' := wr.drew) (fun _ _ => rfl)).below hb3 (Nat.le_refl _)
      have hw23 := (hw2r.kept (w' := wr.drew) (fun _ _ => rfl)).below hb3 (Nat.le_refl _)
      have hwr4 := mix_step hn.out hs.out ht.out HD.out hma (by omega) (hwr3.turn HBM.out hly4 hg4)
      have hw24 := hw23.grown hg4 (fun g hg => by cases hg; exact ⟨hne2b, fun hx => hne2' _ hx rfl⟩)
      have hB4 := (hBr.drew.trans (hb3.mono hsr)).grown hg4 (by have := hb3.size; have : wr.drew.heap.size = wr.heap.size := rfl; omega) (by intro k hk; cases hk; exact hlm1.2.1)
      clear hwr hw2r hBr hwr3 hw23 hcm hci hs1
      go_wp2
      go_roundw
      case rel => exact ⟨m, by omega, rfl, hwr4, hw24, hB4⟩
      case measure => simp [intOf] <;> omega
    | zero =>
      have e0 : (((0 : Nat) : Int) - 1) = -1 := rfl
      rw [e0]
      rw [mixL_zero] at hwr
      have hlb : (len2 : Int) - 2 = (b : Int) - 1 := by omega
      have HLB := Lib.hid hlb
      clear hia e0 hlb
      go_wp2_with fail
      rw [HLB.out]
      obtain ⟨iL, hI, hI0, hI1, hI2⟩ := info_parts Try.infoLy
      have HI := Lib.hid hI
      have HI0 := Lib.hid hI0
      have HI1 := Lib.hid hI1
      have HI2 := Lib.hid hI2
      have HLA1 := Lib.hid (show len1 = a + 1 by omega)
      have HMD := Lib.hid (show a + b = d by omega)
      clear hI hI0 hI1 hI2
      go_loopw [7, 10, 11] (fun fv iv' _ wr => ∃ (i m l g cap : Nat) (ms : List Nat), i ≤ b ∧ Hid (m + i = d) ∧ Hid (l = m + 1) ∧ iv' = .int .i64 ((i : Int) - 1) ∧ fv = .slice (some ⟨g, 0, none⟩) l cap ∧ Wv n wr w.heap.size (.slice (some ⟨g, 0, none⟩) l cap) ms (wayP n s t d m) ∧ Wv n wr w.heap.size (.slice (some ⟨g2, 0, none⟩) len2 cap2) ms2 (gnearL n t b) ∧ ApW (.slice (some ⟨g, 0, none⟩) l cap) ms (.slice (some ⟨g2, 0, none⟩) len2 cap2) ms2 ∧ Below w.heap.size w wr) (fun _ iv' _ _ => (intOf iv' + 1).toNat)
      case atStart => exact ⟨b, a, len1, g1, cap1, ms1, Nat.le_refl _, HMD, HLA1, rfl, rfl, hwr, hw2r, hap, hBr⟩
      case round =>
        obtain ⟨i, m, l, g, cap, ms, hib, hmi, hlm1, rfl, rfl, hwf, hwb, hapx, hBx⟩ := hrel
        have hl1a : l ≤ m + 1 := by have := hlm1.out; omega
        have hl1b : m + 1 ≤ l := by have := hlm1.out; omega
        clear hwr hw2r hap hBr
        have hsx := hBx.size
        have hmd : m ≤ d := by have := hmi.out; omega
        cases i with
        | succ k =>
          have e1 : (((k + 1 : Nat) : Int) - 1) = (k : Int) := by omega
          rw [e1]
          have HE1 := Lib.hid e1
          clear e1
          have hk0 : (0 : Int) ≤ (k : Int) := by omega
          have hml : ms.length = m + 1 := by rw [hwf.len, wayP_length]
          obtain ⟨bl, hbl⟩ : ∃ x, ms[m]? = some x := ⟨_, List.getElem?_eq_getElem (by omega)⟩
          have HLAST := Lib.hid (show ms.getLast? = some bl by rw [List.getLast?_eq_getElem?, hml]; exact hbl)
          have hll := (hwf.lay m bl _ hbl (wayP_get n s t d m m (Nat.le_refl _))).1
          obtain ⟨bk, hbk⟩ : ∃ x, ms2[k]? = some x := ⟨_, List.getElem?_eq_getElem (by have := HM2.out; omega)⟩
          have hlk := (hwb.lay k bk _ hbk (gnearL_get n t b k (by omega))).1
          obtain ⟨gg, cc, hsh, _, hgl, _, hcl⟩ := hwb.shape hne2
          simp only [Value.slice.injEq, Option.some.injEq, Addr.mk.injEq, and_true] at hsh
          obtain ⟨rfl, hlx, rfl⟩ := hsh
          clear hlx
          have hck := hcl k bk hbk
          have HMC := Lib.hid (show ∀ q, n.St q → gwayC n s t m (d - m) q ≤ 1000000000000 from fun q _ => gwayC_le hn.out (by omega) q)
          have hk1 : (k : Int) < len2 := by omega
          have hk1n : k < len2 := by omega
          have hbkl := hlk.lt
          have HML := Lib.hid (show ms.length = l by omega)
          have HWF := Lib.hid (show GEq n (keepC (gbehC n (gwayC n s t m (d - m))) (gnearC n t k)) (gwayC n s t (m + 1) (d - (m + 1))) by
            have h1 := gway_forth hn.out (i := m) (j := k) hs.out ht.out (by have := hmi.out; have := HD.out; omega)
            rw [show d - m = k + 1 by have := hmi.out; omega, show d - (m + 1) = k by have := hmi.out; omega]
            exact h1)
          have HMK := Lib.hid (show m + 1 + k = d by have := hmi.out; omega)
          clear hml hbl hbk hcl
          go_wp2_with fail
          refine (wlast_any n _ _ ms _ bl wr hwf HLAST.out (by have := HML.out; omega)).mono ?_
          rintro e w0 ⟨rfl, rfl⟩
          go_wp2_with fail
          refine (lbehindR_any n pt pv FT FD R bl _ 1000000000000 wr hn hP (Lib.hid (hP.out.rb _ _ hR.out hBx)) hll HMC (Nat.le_refl _) hks).mono ?_
          rintro e w3 ⟨b', rfl, hly3, hb', hb3⟩
          have hck3 := (hb3.cell (p := ⟨g2, k, none⟩) (by exact hgl)).trans hck
          have hwf3 := hwf.below hb3 (Nat.le_refl _)
          have hwb3 := hwb.below hb3 (Nat.le_refl _)
          have hB3 := hBx.trans (hb3.mono hsx)
          have hlk3 := hlk.below hb3 (Nat.le_refl _)
          have hz3 := hb3.size
          have hnb1 : b' ∉ ms := fun hm => by have := (hwf.mem hm).1; omega
          have hnb2 : (Value.slice (some ⟨g, 0, none⟩) l cap).ownBlock ≠ some b' := fun e => by have := (hwf.low (.inl e)).1; omega
          have hnb3 : ∀ x, some b' = some x → (Value.slice (some ⟨g2, 0, none⟩) len2 cap2).ownBlock ≠ some x ∧ x ∉ ms2 := fun x hx => by
            cases hx
            exact ⟨fun e => by have := (hwb.low (.inl e)).1; omega, fun hm => by have := (hwb.mem hm).1; omega⟩
          have hbb : b' ≠ bk := by omega
          have hBb' : w.heap.size ≤ b' := by omega
          clear hwf hwb hBx hll hlk hck hb3
          go_wp2_with fail
          refine (lkeep_any n b' bk _ _ w3 hn hly3 hlk3 hbb).mono ?_
          rintro e w4 ⟨rfl, hly4, hg4⟩
          have hly5 := hly4.congr HWF.out
          have hwf4 := hwf3.grown hg4 (fun x hx => by cases hx; exact ⟨hnb2, hnb1⟩)
          have hwb4 := hwb3.grown hg4 hnb3
          have hB4 := hB3.grown hg4 hB3.size (by intro k hk; cases hk; exact hBb')
          have hown4 : w4.ownsRow w.heap.size 60 1 (.slice (some ⟨g, 0, none⟩) l cap) l (ms.map mv) := by
            have := hwf4.own
            rw [HML.out] at this
            exact this
          have hz4 := hB4.size
          clear hwf3 hwb3 hB3 hly3 hly4 hlk3 hg4 hck3
          go_wp2_with (at_builtin; refine wpList_append_lies _ rfl _ _ 48 rfl w.heap.size 60 iL _ 1 8 Try.underlying48 HI.out HI0.out HI1.out HI2.out rfl (by omega) (.slice (some ⟨g, 0, none⟩) l cap) l (ms.map mv) rfl (hown4.alloc _) _ 1 1 [mv b'] rfl (by simp) (World.news_of_block (heap_alloc_new _ _)) (by simp [Value.oneCell']) (by omega) (by unfold maxLen; omega) (by omega) (by simp; omega) (w4.heap.size + 1) (by simp) ?_)
          intro g9 cap9 w9 hown9 hgr9 hat9 hlt9
          have hwfa := hwf4.alloc (.cells #[mv b'] 60)
          have hwba := hwb4.alloc (.cells #[mv b'] 60)
          have hat : (Value.slice (some ⟨g, 0, none⟩) l cap).ownBlock = some g9 ∨ (w4.alloc (.cells #[mv b'] 60)).heap.size ≤ g9 := by
            rcases hat9 with h1 | h1
            · exact .inl h1
            · right; simp; omega
          have hwf9 := Wv.app (cap := cap9) (g := g9) (w' := w9) hwfa (hly5.below (below_new w4 _) (Nat.le_refl _)) hBb' hnb1 hnb2 (by rw [HML.out]; exact hown9) hgr9 hat
          rw [HML.out, ← wayP_succ] at hwf9
          have hwb9 := hwba.aside hapx hgr9
          have hap9 := ApW.grow2 (len := l + 1) (cap := cap9) (b := b') hapx hwba hat (fun h => by rcases h with h | h; exact (hnb3 b' rfl).1 h; exact (hnb3 b' rfl).2 h)
          have hB9 := (hB4.alloc hz4 (.cells #[mv b'] 60)).grown hgr9 (by simp; omega) (by intro x hx; exact (hwf4.low (.inl hx)).2)
          clear hwf4 hwb4 hB4 hwfa hwba hgr9 hat hat9 hown4 hown9
          go_wp2
          go_roundw
          case rel => exact ⟨k, m + 1, l + 1, g9, cap9, ms ++ [b'], by omega, HMK, Lib.hid (by omega), rfl, rfl, hwf9, hwb9, hap9, hB9⟩
          case measure => simp [intOf] <;> omega
        | zero =>
          have e0 : (((0 : Nat) : Int) - 1) = -1 := rfl
          rw [e0]
          have hmd2 : m = d := by have := hmi.out; omega
          rw [hmd2] at hwf
          have HLD := Lib.hid (show l = d + 1 by have := hlm1.out; omega)
          clear e0 hmd2
          go_wp2
          go_ret
          exact ⟨g, cap, ms, by rw [← HLD.out]; rfl, by rw [← HLD.out]; exact hwf, hBx⟩
theorem way_any (n : Gm) (pt : TypeId) (pv : Value) (FT FD : FuncId) (s t : List Int) (w : World) (hn : Hid (GOk n)) (hP : Hid (GP n pt pv FT FD)) (hks : n.ks.length ≤ 1000) (hs : Hid (n.St s)) (ht : Hid (n.St t)) :
    Calls Try.prog 47 #[tw s, tw t, .iface pt pv] w fun e w' => ∃ g cap ms, e = .returned (.slice (some ⟨g, 0, none⟩) (gfar n s t + 1) cap) ∧ Wv n w' w.heap.size (.slice (some ⟨g, 0, none⟩) (gfar n s t + 1) cap) ms (wayP n s t (gfar n s t) (gfar n s t)) ∧ Below w.heap.size w w' :=
  wayR_any n pt pv FT FD _ s t w hn hP (Lib.hid trivial) hks hs ht

end Go.Proofs.Ytdlnniciccpchaa

