import Derived.Test.YtakgmcfpdbeajaaN1
import Derived.Test.YtakgmcfpdbeajaaI16
import Derived.RangeFuncNested
import Derived.RangeFuncLeaves
import Derived.Shelf.Abstract
import Derived.WalkKit
import Derived.OwnWalkIn
import Derived.TacticsInMore
import Derived.LoopNIn
import Derived.LoopIn
import Derived.Maps.OwnIn
import Derived.Maps.AppendAt
import Derived.Sort.MapsRangeIn
namespace Go.Proofs.Ytakgmcfpdbeajaa
open Go Go.RowKit Go.Pan Go.Shelf

attribute [local go_sem] Oper.semAt_some

theorem wpListIn_store_row {F : Fence} {n : Nat} {P : Program} {ops : Array Oper} {rest : List Oper} {o : Oper} {a : Act} {w : World} {Q : Exit → Act → World → Prop} (hgd : o.guard = none) (ty : TypeId) (x y : Operand) (ho : o.op = .store ty x y)
    (g : Nat) (cells : Array Value) (hx : a.eval x = .pointer (some ⟨g, 0, none⟩)) (hy : a.eval y = .agg cells)
    (t : TypeId) (old : Array Value) (hg : w.heap[g]? = some (.cells old t (0, 0))) (hi : (P.info? ty).map (·.size) = some cells.size)
    (hold : old.size = cells.size) (h1 : cells.all (·.oneCell') = true)
    (h : wpListIn F n P ops Q rest (a.put o.dst undef) (w.setRow g cells)) : wpListIn F n P ops Q (o :: rest) a w := by
  refine wpListIn_plain hgd fun K hK => ?_
  unfold Oper.wpIn
  refine ⟨by simp [Oper.about, ho], ?_⟩
  rw [Oper.semAt_plain F _ _ (by rw [ho]; intro c hc; cases hc)]
  simp only [execOp, ho, hx, hy, Instr.storeAt, Instr.sureAddr, Sem.run_bind, Sem.run_pure, Result.andThen_ok, run_storeVar_row w g t ty old cells hg hi hold h1]
  exact hK _ _ h
theorem wpListIn_load_row {F : Fence} {n : Nat} {P : Program} {ops : Array Oper} {rest : List Oper} {o : Oper} {a : Act} {w : World} {Q : Exit → Act → World → Prop} (hgd : o.guard = none) (ty : TypeId) (x : Operand) (ho : o.op = .load ty x)
    (g : Nat) (hx : a.eval x = .pointer (some ⟨g, 0, none⟩)) (t : TypeId) (cs : Array Value) (fr : Nat × Nat) (d : TypeDesc) (hg : w.heap[g]? = some (.cells cs t fr))
    (hu : P.underlying ty = some d) (hd : (match d with | .struct _ | .array _ _ => true | _ => false) = true) (hi : (P.info? ty).map (·.size) = some cs.size)
    (h : wpListIn F n P ops Q rest (a.put o.dst (.agg cs)) w) : wpListIn F n P ops Q (o :: rest) a w := by
  refine wpListIn_plain hgd fun K hK => ?_
  unfold Oper.wpIn
  refine ⟨by simp [Oper.about, ho], ?_⟩
  rw [Oper.semAt_plain F _ _ (by rw [ho]; intro c hc; cases hc)]
  simp only [execOp, ho, hx, Instr.loadAt, Instr.sureAddr, Sem.run_bind, Sem.run_pure, Result.andThen_ok, run_loadVar_row w g t ty cs fr d hg hu hd hi]
  exact hK _ _ h
theorem wpListIn_load_tower {F : Fence} {n : Nat} {ops : Array Oper} {rest : List Oper} {o : Oper} {a : Act} {w : World} {Q : Exit → Act → World → Prop} (hgd : o.guard = none) (x : Operand) (ho : o.op = .load 54 x)
    (g : Nat) (xs : List Int) (h9 : xs.length ≤ 9) (hx : a.eval x = .pointer (some ⟨g, 0, none⟩)) (hg : Blk w g 54 (twl xs))
    (h : wpListIn F n Try.prog ops Q rest (a.put o.dst (tw xs)) w) : wpListIn F n Try.prog ops Q (o :: rest) a w :=
  wpListIn_load_row hgd 54 x ho g hx 54 _ _ _ hg Try.underlying54 rfl (by rw [Try.infoT]; simp [twl_length xs h9]) h
theorem wpListIn_store_tower {F : Fence} {n : Nat} {ops : Array Oper} {rest : List Oper} {o : Oper} {a : Act} {w : World} {Q : Exit → Act → World → Prop} (hgd : o.guard = none) (x y : Operand) (ho : o.op = .store 54 x y)
    (g : Nat) (xs ys : List Int) (hx9 : xs.length ≤ 9) (hy9 : ys.length ≤ 9) (hx : a.eval x = .pointer (some ⟨g, 0, none⟩)) (hy : a.eval y = tw ys) (hg : Blk w g 54 (twl xs))
    (h : ∀ w', Blk w' g 54 (twl ys) → w.grownBy w' (some g) → wpListIn F n Try.prog ops Q rest (a.put o.dst undef) w') : wpListIn F n Try.prog ops Q (o :: rest) a w := by
  have h1 := twl_length xs hx9
  have h2 := twl_length ys hy9
  refine wpListIn_store_row hgd 54 x y ho g (twl ys).toArray hx hy 54 _ hg (by rw [Try.infoT]; simp [h2]) (by simp [h1, h2]) (by simp [twl, Value.oneCell']) ?_
  exact h _ (hg.setRow (twl ys)) ⟨rfl, rfl, rfl, by simp [World.setRow], fun k _ hk => setRow_other w g k _ (fun e => hk (by rw [e]))⟩

theorem nodup_sub_le {α : Type} [DecidableEq α] : ∀ {l m : List α}, l.Nodup → (∀ x ∈ l, x ∈ m) → l.length ≤ m.length
  | [], _, _, _ => Nat.zero_le _
  | a :: l, m, h, hs => by
    obtain ⟨h1, h2⟩ := List.nodup_cons.1 h
    have h3 := hs a (by simp)
    have h4 := nodup_sub_le (l := l) (m := m.erase a) h2 (fun x hx => (List.mem_erase_of_ne (by rintro rfl; exact h1 hx)).2 (hs x (by simp [hx])))
    have h5 := List.length_pos_of_mem h3
    rw [List.length_erase_of_mem h3] at h4
    simp
    omega
/-- a stack as a tower -/
abbrev TwS := { q : List Int // q.length ≤ 9 }
/-- the keys that have come -/
def KeyTo (n : Gm) (c : LC) (left : Lit → Bool) (ss : List TwS) : Prop := (ss.map (·.1)).Nodup ∧ ∀ q, q ∈ ss.map (·.1) ↔ n.St q ∧ 0 < c q ∧ left (kl q) = false
def Keys (n : Gm) (c : LC) (ss : List TwS) : Prop := (ss.map (·.1)).Nodup ∧ ∀ q, q ∈ ss.map (·.1) ↔ n.St q ∧ 0 < c q
theorem KeyTo.start {n : Gm} {D : DD} {c : LC} (hL : Lay n D c) : KeyTo n c (Maps.has D) [] := ⟨by simp, fun q => by
  constructor
  · intro h; simp at h
  · rintro ⟨h1, h2, h3⟩
    rw [hL.has q h1, decide_eq_true h2] at h3
    cases h3⟩
theorem KeyTo.step {n : Gm} (hn : GOk n) {c : LC} {left : Lit → Bool} {ss : List TwS} (h : KeyTo n c left ss) (x : TwS) (hx : n.St x.1) (hc : 0 < c x.1) (hl : left (kl x.1) = true) : KeyTo n c (fun z => left z && !z.sameKey (kl x.1)) (ss ++ [x]) := by
  constructor
  · rw [List.map_append, List.map_cons, List.map_nil, List.nodup_append]
    refine ⟨h.1, by simp, fun a ha b hb e => ?_⟩
    simp at hb
    subst hb
    have := (h.2 a).1 ha
    rw [e, hl] at this
    exact absurd this.2.2 (by simp)
  · intro q
    rw [List.map_append, List.map_cons, List.map_nil, List.mem_append, List.mem_singleton, h.2 q]
    constructor
    · rintro (⟨h1, h2, h3⟩ | rfl)
      · exact ⟨h1, h2, by simp [h3]⟩
      · exact ⟨hx, hc, strike_self x.1 left⟩
    · rintro ⟨h1, h2, h3⟩
      by_cases e : q = x.1
      · exact .inr e
      · exact .inl ⟨h1, h2, by simpa only [strike_other hn hx h1 e left] using h3⟩
theorem KeyTo.last {n : Gm} {c : LC} {left : Lit → Bool} {ss : List TwS} (h : KeyTo n c left ss) (hl : ∀ k, left k = false) : Keys n c ss := ⟨h.1, fun q => by rw [h.2 q]; simp [hl]⟩
theorem Keys.few {n : Gm} (hn : GOk n) {c : LC} {ss : List TwS} (h : Keys n c ss) : ss.length ≤ n.all.length := by
  have h2 : ss.length = (ss.map (·.1)).length := by simp
  rw [h2]
  exact nodup_sub_le h.1 (fun q hq => (hn.mem q).2 ((h.2 q).1 hq).1)

set_option maxRecDepth 100000 in
set_option maxHeartbeats 2000000 in
theorem keys1_in (F : Fence) (k : Nat) (hF : F.fn 142) (hro : F.round = none) (hk : 1 ≤ k) (n : Gm) (l Bm b : Nat) (D : DD) (c : LC) (J Jx : List TwS → World → Prop)
    (hY : ∀ pre (x : TwS) W, J pre W → pre.length < Maps.size D → YieldAt F (k - 1) Try.prog l #[tw x.1] W fun e W' => (e = .returned (.bool true) ∧ J (pre ++ [x]) W' ∧ KeepsWalks W W') ∨ (e = .returned (.bool false) ∧ Jx (pre ++ [x]) W'))
    (W : World) (hJ : AbidesFrom W.heap.size J) (hm : W.cell? ⟨Bm, 0, none⟩ = some (.map (some b))) (hown : W.ownsMap Try.prog 54 (plainElem Try.prog 3) b n.all.length D) (hL : Hid (Lay n D c)) (hn : Hid (GOk n)) (h0 : J [] W) :
    CallsIn F k Try.prog 142 #[.func (.yield l) #[] #[], .pointer (some ⟨Bm, 0, none⟩)] W fun e W' => (∃ v, e = .returned v) ∧ ((∃ ss, Keys n c ss ∧ J ss W') ∨ (∃ pre : List TwS, True ∧ Jx pre W')) := by
  refine callsIn_of_wp Try.func142 rfl hF ?_ hro
  simp only [Try.ntmps142, List.size_toArray, List.length_cons, List.length_nil, Nat.reduceAdd, Nat.reduceSub, Array.replicate_succ, Array.replicate_zero, List.push_toArray, List.append_toArray, List.nil_append, List.cons_append]
  have hst0 := KeyTo.start hL.out
  have HLE0 := Lib.hid (show ∀ k, Maps.has D k = true → Maps.has D k = true from fun _ h => h)
  gi_wp2_with (first
    | (gi_at_range; refine wpListIn_range_own _ rfl _ 61 rfl 54 3 keyd Try.underlying61 _ b n.all.length D rfl hown ?_; intro w0 hrg0 hg0 hs0)
    | gi_in)
  go_frame
  have hJ0 : J [] w0 := hJ [] W w0 none h0 hg0 (fun r e => by cases e)
  clear hs0 hown hg0 h0
  gi_loopw [3] (fun _ wr => ∃ (left : Lit → Bool) (cnt : Nat) (ss : List TwS), Rg wr n b W.heap.size D left cnt ∧ ss.length + cnt ≤ Maps.size D ∧ KeyTo n c left ss ∧ Hid (∀ k, left k = true → Maps.has D k = true) ∧ J ss wr) (fun _ wr => wr.rangeLeft b W.heap.size)
  case atStart => exact ⟨_, _, [], hrg0, by simp, hst0, HLE0, hJ0⟩
  case round =>
    obtain ⟨left, cnt, ss, hrg, hcs, hKT, hle, hJs⟩ := hrel
    clear hrg0 hst0 HLE0 hJ0
    gi_wp2_with (first
      | (gi_at_next; refine wpListIn_next_ranges _ rfl _ rfl 54 keyd _ (fun x : Value => x) (Value.int .i64) (fun key _ _ => ⟨key, rfl⟩) invVal b W.heap.size n.all.length D left cnt rfl hrg ?_ ?_)
      | gi_in)
    · intro _ hl0
      have HL0 := Lib.hid (hKT.last hl0)
      clear hl0
      gi_wp2
      go_end0
      exact ⟨⟨_, rfl⟩, .inl ⟨ss, HL0.out, hJs⟩⟩
    · intro x v kk yd yp w1 cnt1 hkey hlk hv hat hrg1 hlt1 hg1 hs1 hen
      obtain ⟨q, hq, rfl, hcq⟩ := left_st hL.out (hle.out _ hlk)
      obtain rfl := key_is hn.out hq hkey
      have h9 := (hn.out.le9 hq)
      have hJ1 : J ss w1 := hJ ss wr w1 (some W.heap.size) hJs hg1 (fun r e => by cases e; exact ⟨Nat.le_refl _, hrg.iter_walk⟩)
      have HKS := Lib.hid (hKT.step hn.out ⟨q, h9⟩ hq hcq hlk)
      have HLE := Lib.hid (show ∀ z, (left z && !z.sameKey (kl q)) = true → Maps.has D z = true from fun z hz => hle.out z (by rw [Bool.and_eq_true] at hz; exact hz.1))
      have hzero : Blk (w1.alloc (.cells (twl []).toArray 54)) w1.heap.size 54 (twl []) := Blk.new _ _ (twl []) _ rfl
      have HS1 := Lib.hid hs1
      clear hs1 hat hKT hq hkey
      gi_wp2_with (first | (refine wpListIn_store_tower rfl _ _ rfl w1.heap.size [] q (by simp) h9 rfl rfl hzero ?_; intro w3 hbT3 hgr3; have hz3 := hbT3.lt) | (refine wpListIn_load_tower rfl _ rfl w1.heap.size q h9 rfl hbT3 ?_))
      have hg13 : w1.grownBy w3 none := by
        obtain ⟨a1, a2, a3, a4, a5⟩ := hgr3
        exact ⟨a1, a2, a3, by simp at a4; omega, fun k hk _ => (a5 k (by simp; omega) (by simp; omega)).trans (Below.heap_alloc w1 _ k hk)⟩
      have hJ3 : J ss w3 := hJ ss w1 w3 none hJ1 hg13 (fun r e => by cases e)
      have hrg3 := hrg1.kept hg13 (by simp) (by simp)
      obtain ⟨fn, tmps, assign, body, hy, hR⟩ := hY ss ⟨q, h9⟩ w3 hJ3 (by omega)
      dsimp only at hy
      clear hgr3 hJ1 hrg1 hg13 hzero
      rw [hy]
      gi_wp2
      refine hR.mono ?_
      rintro e W3 (⟨rfl, hJ4, hk4⟩ | ⟨rfl, hJx4⟩)
      · gi_wp2
        have hrg4 := hrg3.of_walks hk4
        go_roundw
        case rel => exact ⟨_, cnt1, ss ++ [⟨q, h9⟩], hrg4, by simp; omega, HKS.out, HLE, hJ4⟩
        case measure => rw [hrg4.left_eq, hrg.left_eq]; exact hlt1
      · gi_wp2
        refine bodyPost_ret (results_none rfl _ _ _) rfl ?_
        exact ⟨⟨_, rfl⟩, .inr ⟨_, trivial, hJx4⟩⟩

theorem keys_stops (F : Fence) (k : Nat) (hF : F.fn 142) (hro : F.round = none) (hk : 1 ≤ k) (n : Gm) (Bm b : Nat) (c : LC) (w : World) (hBm : Bm < w.heap.size)
    (hm : w.cell? ⟨Bm, 0, none⟩ = some (.map (some b))) (hl : Ly n w b c) (hn : Hid (GOk n)) :
    SeqStopsK F k Try.prog 142 #[.pointer (some ⟨Bm, 0, none⟩)] (fun x : TwS => #[tw x.1]) KeepsWalks (Keys n c) (fun _ => True) n.all.length w := fun l J Jx W hW hJ _ hY h0 => by
  obtain ⟨D, hown, hL⟩ := Ly.below hl hW (Nat.le_refl _)
  have hsz := Lay.size_le hn.out hL (hown.canon keyd)
  exact keys1_in F k hF hro hk n l Bm b D c J Jx (fun pre x W1 h1 h2 => hY pre x W1 h1 (by omega)) W hJ ((hW.cell (p := ⟨Bm, 0, none⟩) hBm).trans hm) hown (Lib.hid hL) hn h0
end Go.Proofs.Ytakgmcfpdbeajaa

namespace Go.Proofs.Ytakgmcfpdbeajaa
open Go Go.RowKit Go.Pan Go.Shelf

attribute [local go_sem] Oper.semAt_some

theorem wpListIn_build_tower {F : Fence} {n : Nat} {ops : Array Oper} {rest : List Oper} {o : Oper} {a : Act} {w : World} {Q : Exit → Act → World → Prop}
    (hg : o.guard = none) (x : Operand) (hop : o.op = Op.buildSlice 70 1 #[(0, x)]) (cs : List Value) (h9 : cs.length = 9) (hx : a.eval x = .agg cs.toArray)
    (h : wpListIn F n Try.prog ops Q rest (a.put o.dst (.slice (some ⟨w.heap.size, 0, none⟩) 1 1)) (w.alloc (.cells cs.toArray 54))) :
    wpListIn F n Try.prog ops Q (o :: rest) a w := by
  refine wpListIn_plain hg fun K hK => ?_
  have hrun := run_build_tower w cs h9
  unfold Oper.wpIn
  refine ⟨by simp [Oper.about, hop], ?_⟩
  rw [Oper.semAt_plain F _ _ (by rw [hop]; intro c hc; cases hc)]
  simp [execOp, hop, hx, hrun, Result.andThen]
  exact hK _ _ h

/-- the cells of towers, one behind the other -/
def flatT (ss : List TwS) : List Value := ss.flatMap fun x => twl x.1
theorem flatT_snoc (ss : List TwS) (x : TwS) : flatT (ss ++ [x]) = flatT ss ++ twl x.1 := by simp [flatT]
theorem news_tower {w : World} {b : Nat} {cs : List Value} {t : TypeId} (h : w.heap[b]? = some (.cells cs.toArray t (0, 0))) : ∀ j u, cs[j]? = some u → w.cell? ((⟨b, 0, none⟩ : Addr).add j) = some u := by
  intro j u hj
  have hadd : (⟨b, 0, none⟩ : Addr).add j = ⟨b, j, none⟩ := by unfold Addr.add; split <;> simp_all
  rw [hadd]
  simp [World.cell?, h, hj]

theorem mapsKeys_any (b : Nat) (w : World) :
    Calls Try.prog 128 #[.map (some b)] w fun e w' => e = .returned (.func (.func 142) #[] #[.pointer (some ⟨w.heap.size, 0, none⟩)]) ∧ w' = w.alloc (.cells #[.map (some b)] 61) := by
  go_enter Try.func128, Try.ntmps128
  go_wp2
  go_ret
  exact ⟨rfl, rfl⟩

set_option maxRecDepth 100000 in
set_option maxHeartbeats 4000000 in
theorem appendSeq_in (F : Fence) (k : Nat) (hF : F.fn 150) (hro : F.round = none) (hk : 3 ≤ k) (gf : Nat) (lb : Array Value) (hFg : F.fn gf) (eg : ∀ args w, (callFunc gf args).run Try.prog w = .ok (.enter gf args) w)
    (S : List TwS → Prop) (N : Nat) (hN : N ≤ 1000000) (w : World) (hseq : SeqStopsK F (k - 1) Try.prog gf lb (fun x : TwS => #[tw x.1]) KeepsWalks S (fun _ => True) N w) :
    CallsIn F k Try.prog 150 #[.slice none 0 0, .func (.func gf) #[] lb] w fun e w' => ∃ (v : Value) (ss : List TwS), e = .returned v ∧ S ss ∧ w'.ownsRow w.heap.size 54 9 v ss.length (flatT ss) ∧ (v = .slice none 0 0 ↔ ss = []) ∧ Below w.heap.size w w' := by
  have h1 : 1 ≤ k := by omega
  obtain ⟨i0, hi, hz0, hz1, hz2⟩ := info_parts infoTw
  refine callsIn_of_wp_marks Try.func150 rfl hF ?_ hro
  simp only [Try.ntmps150, List.size_toArray, List.length_cons, List.length_nil, Nat.reduceAdd, Nat.reduceSub, Array.replicate_succ, Array.replicate_zero, List.push_toArray, List.append_toArray, List.nil_append, List.cons_append]
  gi_wp2
  have bO := Boxed.new w 70 (.slice none 0 0)
  have hB0 : Below w.heap.size w (w.alloc (.cells #[.slice none 0 0] 70)) := (Below.refl _ w).alloc (Nat.le_refl _) _
  refine wpIn_rangeFunc_ownH hro h1 (gf := gf) (lb := lb) rfl hFg eg hseq walksK_t walksK_b hB0 (fun _ => rfl)
    (fun pre W => (∃ v, Boxed W w.heap.size 70 v ∧ W.ownsRow w.heap.size 54 9 v pre.length (flatT pre) ∧ (v = .slice none 0 0 ↔ pre = [])) ∧ Below w.heap.size w W)
    (fun _ _ _ => False)
    (OwnFrom.and (Own.from (holdsRow_own w.heap.size w.heap.size 70 54 9 (fun pre : List TwS => pre.length) flatT (fun pre v => v = .slice none 0 0 ↔ pre = [])) _) (ownFrom_below (Nat.le_refl _) (by simp)))
    (fun _ _ _ _ _ hs _ _ => hs)
    ⟨⟨_, bO, World.ownsRow_nil _ _ _ _, by simp⟩, hB0⟩
    (fun x a' W => ∃ g, w.heap.size < g ∧ Blk W g 54 (twl x.1) ∧ a' = { tmps := #[.slice none 0 0, .func (.func gf) #[] lb, .pointer (some ⟨w.heap.size, 0, none⟩), undef, .slice none 0 0, .pointer (some ⟨g, 0, none⟩), .func (.func gf) #[] lb, tw x.1, undef, undef, undef, undef, undef], defers := [] })
    (fun x a' _ X Y row hs hg hr => by
      obtain ⟨g, h1, h2, h3⟩ := hs
      refine ⟨g, h1, ?_, h3⟩
      unfold Blk at h2 ⊢
      refine (hg.block g (Array.getElem?_eq_some_iff.1 h2).1 (fun e => ?_)).trans h2
      obtain ⟨_, o, ho, hc⟩ := hr g e.symm
      rw [h2] at ho
      cases ho
      cases hc)
    ?assign ?body ?done ?stop
  case assign =>
    rintro l pre x W K ⟨⟨v, hv, hrow, hnil⟩, hB⟩ hK
    have hzero : Blk (W.alloc (.cells (twl []).toArray 54)) W.heap.size 54 (twl []) := Blk.new _ _ (twl []) _ rfl
    gi_wp2_with (refine wpListIn_store_tower rfl _ _ rfl W.heap.size [] x.1 (by simp) x.2 rfl rfl hzero ?_; intro w3 hbT3 hgr3)
    have hg13 : W.grownBy w3 none := by
      obtain ⟨a1, a2, a3, a4, a5⟩ := hgr3
      exact ⟨a1, a2, a3, by simp at a4; omega, fun k hk _ => (a5 k (by simp; omega) (by simp; omega)).trans (Below.heap_alloc W _ k hk)⟩
    exact hK _ _ (KeepsFrom.of_grownBy hg13 (fun j e => by cases e)) (KeepsWalks.of_grownBy hg13 (fun j o e => by cases e))
      ⟨⟨v, hv.kept hg13 (by simp), hrow.kept hg13 (by cases h : v.ownBlock with | none => exact .inl rfl | some g => exact .inr (by simp)), hnil⟩, hB.grown hg13 hB.size (fun k e => by cases e)⟩ ⟨W.heap.size, hv.lt, hbT3, rfl⟩
  case body =>
    rintro l pre x a' W hl ⟨r, hr⟩ ⟨⟨v, hv, hrow, hnil⟩, hB⟩ ⟨g, hg, hb, rfl⟩ hlt
    have hc := hv.cell
    have hbs := hB.size
    gi_wp2_with (first
      | (refine wpListIn_load_tower rfl _ rfl g x.1 x.2 rfl hb ?_)
      | (refine wpListIn_build_tower rfl _ rfl (twl x.1) (twl_length x.1 x.2) rfl ?_)
      | (gi_at_builtin; refine wpListIn_append_own _ rfl _ _ 70 rfl w.heap.size 54 i0 _ 9 72 Try.underlying70 hi hz0 hz1 hz2 rfl (by decide) _ _ _ rfl (hrow.alloc _) ⟨W.heap.size, 0, none⟩ 1 1 (twl x.1) rfl (twl_length x.1 x.2) (news_tower (World.alloc_heap_new W _)) (twl_one x.1) (by unfold maxLen; omega) (by omega) (by simp; omega) ?_; intro v' w1 hown' hgrow _; obtain ⟨g', cap', rfl⟩ := ownsRow_succ hown'; obtain ⟨hv1, hv2, hr2, hk2, hb2⟩ := hv.appended (by decide) hrow hbs (Nat.le_refl _) hown' hgrow; have hc1 := hv1.cell; have hf1 := hv1.frozen))
    exact ⟨hk2.from _, (hk2.walks), ⟨⟨_, hv2, by rw [flatT_snoc]; simpa using hr2, by simp⟩, hB.trans hb2⟩⟩
  case done =>
    rintro D ss W hD hS ⟨⟨v, hv, hrow, hnil⟩, hB⟩ hK
    have hc := hv.cell
    gi_wp2
    refine ⟨by simp, .inl ⟨_, _, rfl, run_takeDeferred hK, ?_⟩⟩
    exact ⟨_, results_tmp rfl _ _ _, v, ss, rfl, hS, ownsRow_putObj hrow _ hK rfl, hnil, hB.trans (belowK_b (w := w) (Nat.le_refl _) W D _ _ (by simp at hD; omega) hK rfl rfl)⟩
  case stop =>
    rintro D c pre W _ _ h _
    exact h.elim

set_option maxHeartbeats 1000000 in
theorem collect_in (F : Fence) (k : Nat) (hF8 : F.fn 140) (hF : F.fn 150) (hro : F.round = none) (hk : 4 ≤ k) (gf : Nat) (lb : Array Value) (hFg : F.fn gf) (eg : ∀ args w, (callFunc gf args).run Try.prog w = .ok (.enter gf args) w)
    (S : List TwS → Prop) (N : Nat) (hN : N ≤ 1000000) (w : World) (hseq : SeqStopsK F (k - 1 - 1) Try.prog gf lb (fun x : TwS => #[tw x.1]) KeepsWalks S (fun _ => True) N w) :
    CallsIn F k Try.prog 140 #[.func (.func gf) #[] lb] w fun e w' => ∃ (v : Value) (ss : List TwS), e = .returned v ∧ S ss ∧ w'.ownsRow w.heap.size 54 9 v ss.length (flatT ss) ∧ (v = .slice none 0 0 ↔ ss = []) ∧ Below w.heap.size w w' := by
  have h1 : 1 ≤ k := by omega
  have c := appendSeq_in F (k - 1) hF hro (by omega) gf lb hFg eg S N hN w hseq
  refine callsIn_of_wp Try.func140 rfl hF8 ?_ hro
  simp only [Try.ntmps140, List.size_toArray, List.length_cons, List.length_nil, Nat.reduceAdd, Nat.reduceSub, Array.replicate_succ, Array.replicate_zero, List.push_toArray, List.append_toArray, List.nil_append, List.cons_append]
  gi_wp2_with (gi_at_call 150; refine c.mono ?_; rintro e w' ⟨v, ss, rfl, hS, hrow, hnil, hb⟩)
  go_ret
  exact ⟨v, ss, rfl, hS, hrow, hnil, hb⟩

set_option maxHeartbeats 1000000 in
/-- the keys of a layer, collected -/
theorem collectKeys_any (n : Gm) (Bm b : Nat) (c : LC) (w : World) (hn : Hid (GOk n)) (hBm : Bm < w.heap.size) (hm : w.cell? ⟨Bm, 0, none⟩ = some (.map (some b))) (hl : Ly n w b c) :
    Calls Try.prog 140 #[.func (.func 142) #[] #[.pointer (some ⟨Bm, 0, none⟩)]] w fun e w' => ∃ (v : Value) (ss : List TwS), e = .returned v ∧ Keys n c ss ∧ w'.ownsRow w.heap.size 54 9 v ss.length (flatT ss) ∧ (v = .slice none 0 0 ↔ ss = []) ∧ Below w.heap.size w w' :=
  (callsIn_wide (n := 9)).1 (collect_in _ 9 trivial trivial rfl (by omega) _ _ trivial (enters_of Try.func142 (by kernel_rfl) rfl) (Keys n c) n.all.length (by have := hn.out.total; omega) w (keys_stops _ _ trivial rfl (by omega) n Bm b c w hBm hm hl hn))
end Go.Proofs.Ytakgmcfpdbeajaa
