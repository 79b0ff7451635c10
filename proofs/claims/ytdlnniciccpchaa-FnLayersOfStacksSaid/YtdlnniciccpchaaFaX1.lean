import Derived.Test.YtdlnniciccpchaaI2
import Derived.Test.YtdlnniciccpchaaTw
import Derived.Test.YtdlnniciccpchaaU4
import Derived.Test.YtdlnniciccpchaaS15
import Derived.Test.YtdlnniciccpchaaI9
import Derived.Test.YtdlnniciccpchaaS3
import Derived.Test.YtdlnniciccpchaaI4
import Derived.Test.YtdlnniciccpchaaN1
import Derived.Test.YtdlnniciccpchaaLayA
import Derived.Test.YtdlnniciccpchaaN9
import Derived.Test.YtdlnniciccpchaaGE
import Derived.Test.YtdlnniciccpchaaSS
import Derived.Deep.AppendLies
import Derived.RangeFuncNested
import Derived.RangeFuncLeaves
import Derived.Shelf.Abstract
import Derived.WalkKit
import Derived.OwnWalkIn
import Derived.TacticsInMore
import Derived.LoopNIn
import Derived.LoopIn
import Derived.Maps.OwnIn
import Derived.Maps.AppendAt
import Derived.Sort.MapsRangeIn
namespace Go.Proofs.Ytdlnniciccpchaa
open Go Go.RowKit Go.Pan

theorem infoTw : (Try.prog.info? 52).map (fun i => (i.zero, i.size, i.bytes)) = some (some (.agg (List.replicate 9 (iv 0)).toArray), 9, 72) := by kernel_rfl

theorem step_make_own {P : Program} {ops : Array Oper} {o : Oper} {a : Act} {w : World} {K : Act → World → Prop} {Q : Exit → Act → World → Prop} {E : Prop}
    (hg : o.guard = none) (l c : Operand) (t : TypeId) (hop : o.op = Op.makeSlice t l c)
    (base : Nat) (e : TypeId) (i : TypeInfo) (z : Value) (size : Nat) (h1 : P.underlying t = some (.slice e)) (h2 : P.info? e = some i) (h3 : i.zero = some z) (h4 : i.size = size)
    (kl kc : IntKind) (C : Int) (n : Nat) (hl : a.eval l = .int kl 0) (hc : a.eval c = .int kc C) (hC : C = (n : Int)) (b2 : i.bytes * n ≤ 281474976710656) (b3 : n ≤ maxLen) (b4 : base ≤ w.heap.size)
    (h : ∀ w', w'.ownsRow base e size (.slice (some ⟨w.heap.size, 0, none⟩) 0 n) 0 [] → w.grownBy w' none → K (a.put o.dst (.slice (some ⟨w.heap.size, 0, none⟩) 0 n)) w') :
    if Region.wanted o (yielded ops a.tmps) = true then Oper.wp P o a w K Q else E := by
  have hw : Region.wanted o (yielded ops a.tmps) = true := by simp [Region.wanted, hg]
  rw [if_pos hw]
  obtain ⟨w', hrun, r1, r2⟩ := run_make_own (P := P) w base t e i z size h1 h2 h3 h4 kl kc n b2 b3 b4
  subst hC
  unfold Oper.wp
  simp [execOp, hop, hl, hc, hrun, Result.andThen]
  exact h _ r1 r2

theorem fill9 : ∀ (B : Array Value) (_ : B.size = 9) (c0 c1 c2 c3 c4 c5 c6 c7 c8 : Value),
    (((((((((B.setIfInBounds 0 c0).setIfInBounds 1 c1).setIfInBounds 2 c2).setIfInBounds 3 c3).setIfInBounds 4 c4).setIfInBounds 5 c5).setIfInBounds 6 c6).setIfInBounds 7 c7).setIfInBounds 8 c8) = #[c0, c1, c2, c3, c4, c5, c6, c7, c8]
  | ⟨[b0, b1, b2, b3, b4, b5, b6, b7, b8]⟩, _, _, _, _, _, _, _, _, _, _ => by simp

theorem run_build_tower (w : World) : ∀ (cs : List Value) (_ : cs.length = 9),
    (Instr.buildSlice 94 1 #[(0, .agg cs.toArray)]).run Try.prog w = .ok (.slice (some ⟨w.heap.size, 0, none⟩) 1 1) (w.alloc (.cells cs.toArray 52))
  | [c0, c1, c2, c3, c4, c5, c6, c7, c8], _ => by
    obtain ⟨i0, hi, hz0, hz1, hz2⟩ := info_parts infoTw
    simp [Instr.buildSlice, run_underlying Try.underlying94, Go.sizeOf, typeInfo, hi, hz0, hz1, zeroValue, Instr.fill, newRow, Value.cells, List.zipIdx, Array.range]
    rw [fill9 _ (by simp [hz1])]

theorem step_build_tower {ops : Array Oper} {o : Oper} {a : Act} {w : World} {K : Act → World → Prop} {Q : Exit → Act → World → Prop} {E : Prop}
    (hg : o.guard = none) (x : Operand) (hop : o.op = Op.buildSlice 94 1 #[(0, x)]) (cs : List Value) (h9 : cs.length = 9) (hx : a.eval x = .agg cs.toArray)
    (h : K (a.put o.dst (.slice (some ⟨w.heap.size, 0, none⟩) 1 1)) (w.alloc (.cells cs.toArray 52))) :
    if Region.wanted o (yielded ops a.tmps) = true then Oper.wp Try.prog o a w K Q else E := by
  have hw : Region.wanted o (yielded ops a.tmps) = true := by simp [Region.wanted, hg]
  rw [if_pos hw]
  have hrun := run_build_tower w cs h9
  unfold Oper.wp
  simp [execOp, hop, hx, hrun, Result.andThen]
  exact h

theorem wpList_build_tower {ops : Array Oper} {rest : List Oper} {o : Oper} {a : Act} {w : World} {Q : Exit → Act → World → Prop}
    (hg : o.guard = none) (x : Operand) (hop : o.op = Op.buildSlice 94 1 #[(0, x)]) (cs : List Value) (h9 : cs.length = 9) (hx : a.eval x = .agg cs.toArray)
    (h : wpList Try.prog ops Q rest (a.put o.dst (.slice (some ⟨w.heap.size, 0, none⟩) 1 1)) (w.alloc (.cells cs.toArray 52))) :
    wpList Try.prog ops Q (o :: rest) a w := by
  refine wpList_plain hg fun K hK => ?_
  have hrun := run_build_tower w cs h9
  unfold Oper.wp
  simp [execOp, hop, hx, hrun, Result.andThen]
  exact hK _ _ h

end Go.Proofs.Ytdlnniciccpchaa

namespace Go.Pan
/-- the cells of towers, one behind the other -/
def tws (L : List (List Int)) : List Value := L.flatMap twl
theorem tws_nil : tws [] = [] := rfl
theorem tws_append (A B : List (List Int)) : tws (A ++ B) = tws A ++ tws B := by simp [tws]
theorem tws_one (q : List Int) : tws [q] = twl q := by simp [tws]
theorem tws_snoc (A : List (List Int)) (q : List Int) : tws (A ++ [q]) = tws A ++ twl q := by rw [tws_append, tws_one]
theorem tws_length : ∀ (L : List (List Int)), (∀ q ∈ L, q.length ≤ 9) → (tws L).length = L.length * 9
  | [], _ => rfl
  | q :: L, h => by
    rw [show q :: L = [q] ++ L from rfl, tws_append, tws_one, List.length_append, twl_length q (h q (List.mem_cons_self ..)), tws_length L (fun r hr => h r (List.mem_cons_of_mem _ hr))]
    simp only [List.length_append, List.length_cons, List.length_nil]
    omega
theorem tws_get : ∀ (L : List (List Int)) (i c : Nat) (hi : i < L.length), (∀ q ∈ L, q.length ≤ 9) → c < 9 → (tws L)[i * 9 + c]? = (twl L[i])[c]?
  | [], i, c, hi, _, _ => absurd hi (by simp)
  | q :: L, i, c, hi, h, hc => by
    have h9 := twl_length q (h q (List.mem_cons_self ..))
    have e : tws (q :: L) = twl q ++ tws L := by rw [show q :: L = [q] ++ L from rfl, tws_append, tws_one]
    rw [e]
    cases i with
    | zero =>
      rw [List.getElem?_append_left (by omega)]
      simp
    | succ i =>
      rw [List.getElem?_append_right (by omega), h9, show (i + 1) * 9 + c - 9 = i * 9 + c by omega]
      have := tws_get L i c (by simpa using hi) (fun r hr => h r (List.mem_cons_of_mem _ hr)) hc
      rw [this]
      rfl
theorem tws_one_cell (L : List (List Int)) : ∀ v ∈ tws L, v.oneCell' = true := by
  intro v hv
  obtain ⟨q, _, hq⟩ := List.mem_flatMap.1 hv
  simp only [twl, List.mem_map] at hq
  obtain ⟨x, _, rfl⟩ := hq
  rfl

end Go.Pan

namespace Go.Proofs.Ytdlnniciccpchaa
open Go Go.RowKit Go.Pan

end Go.Proofs.Ytdlnniciccpchaa

namespace Go.Proofs.Ytdlnniciccpchaa
open Go Go.RowKit Go.Pan

abbrev nilS : Value := .slice none 0 0
theorem ownsRow_of_blk {w : World} {B g n cap : Nat} {ty : TypeId} {cs hs : List Value} (h : Blk w g ty cs) (hB : B ≤ g) (hn : hs.length = n) (hnc : n ≤ cap) (hcm : cap ≤ maxLen) (hl : cs.length = cap) (ht : cs.take n = hs) : w.ownsRow B ty 1 (.slice (some ⟨g, 0, none⟩) n cap) n hs :=
  ⟨by omega, .inr ⟨g, cap, cs.toArray, rfl, hB, h, hnc, hcm, by simp [hl], by simpa using ht⟩⟩

theorem rowAt {w : World} {g off cap : Nat} {L : List (List Int)} (hv : Go.Pan.Own w 9 (.slice (some ⟨g, off, none⟩) L.length cap) L.length (tws L)) (h9 : ∀ q ∈ L, q.length ≤ 9) (k : Nat) (hk : k < L.length) (hcap : 0 < cap) :
    w.rangeAt g (off + k * 9) (twl L[k]) ∧ g < w.heap.size := by
  obtain ⟨g', off', he, hgl, hcell, _⟩ := hv.at hcap
  simp only [Option.some.injEq, Addr.mk.injEq, and_true] at he
  obtain ⟨rfl, rfl⟩ := he
  refine ⟨fun j x hx => ?_, hgl⟩
  have hj : j < 9 := by rw [← twl_length _ (h9 _ (List.getElem_mem hk))]; exact (List.getElem?_eq_some_iff.1 hx).1
  rw [Nat.add_assoc, hcell (k * 9 + j) (by omega), tws_get L k j hk h9 hj]
  exact hx

set_option maxHeartbeats 4000000 in
set_option maxRecDepth 100000 in
theorem lists_any (v : Value) (L : List (List Int)) (n : Nat) (w : World) (hv : Go.Pan.Own w 9 v L.length (tws L)) (hL : Hid (∀ q ∈ L, q.length = n ∧ n ≤ 9)) (hm : L.length ≤ 1048576) :
    Calls Try.prog 78 #[v, .int .i64 n] w fun e w' => ∃ r hs, e = .returned r ∧ SS w' w.heap.size w'.heap.size r hs L ∧ Below w.heap.size w w' := by
  obtain ⟨ad, cap, rfl, hcc, hcm, hnil⟩ := hv.shape
  obtain ⟨i0, hi, hz0, hz1, hz2⟩ := info_parts Try.info22
  have HV := Lib.hid hv
  obtain ⟨m, hml⟩ : ∃ m, L.length = m := ⟨_, rfl⟩
  have HML := Lib.hid hml
  rw [hml] at hm hcc
  rw [hml]
  clear hv hml
  go_enter Try.func78, Try.ntmps78
  go_wp2_with (at_make; refine wpList_make_full _ rfl _ _ 36 rfl w.heap.size 24 i0 nilS 1 Try.underlying36 hi hz0 hz1 _ _ _ _ m rfl rfl rfl rfl ?b1 ?b2 ?b3 ?_)
  case b1 => rw [hz2]; omega
  case b2 => unfold maxLen; omega
  case b3 => exact Nat.le_refl _
  intro w1 hown hgr
  have hb1 : Below w.heap.size w w1 := (Below.refl _ _).grown hgr (Nat.le_refl _) (by intro k hk; cases hk)
  have hbl : Blk w1 w.heap.size 24 ([] ++ List.replicate (m - 0) nilS) := by
    have := (Blk.of_row hown).1
    simpa [toList_madeCells_one] using this
  have hl1 := hbl.lt
  have HS0 := Lib.hid (show SS w1 w.heap.size w1.heap.size (.slice (some ⟨w.heap.size, 0, none⟩) 0 m) [] (L.take 0) from ⟨rfl, (Go.Pan.Own.of_row (ownsRow_of_blk (n := 0) (cap := m) (hs := []) hbl (Nat.le_refl _) rfl (Nat.zero_le _) (by unfold maxLen; omega) (by simp) rfl)).1, fun g hg => by simp [Value.ownBlock] at hg; omega, fun i u xs hu => by simp at hu, fun i j u u' _ hu => by simp at hu⟩)
  clear hi hz0 hz1 hz2 hown hgr
  go_wp2
  go_loopw [6, 7, 13] (fun _ _ i wr => ∃ (k : Nat) (hs : List Value), k ≤ m ∧ i = .int .i64 k ∧ hs.length = k ∧ Hid (SS wr w.heap.size wr.heap.size (.slice (some ⟨w.heap.size, 0, none⟩) k m) hs (L.take k)) ∧ Blk wr w.heap.size 24 (hs ++ List.replicate (m - k) nilS) ∧ Below w.heap.size w wr) (fun _ _ i _ => m - (intOf i).toNat)
  case atStart => exact ⟨0, [], Nat.zero_le _, rfl, rfl, HS0, hbl, hb1⟩
  case round =>
    obtain ⟨k, hs, hk, rfl, hhl, hS, hB, hbr⟩ := hrel
    clear HS0 hbl hb1
    by_cases hlt : k < m
    · have hlt' : (k : Int) < m := by omega
      have hkl : k < L.length := by rw [HML.out]; exact hlt
      have hmem := List.getElem_mem hkl
      have hq := hL.out _ hmem
      have hTK := List.take_succ_eq_append_getElem hkl
      have h9all : ∀ q ∈ L, q.length ≤ 9 := fun q hq => by have := hL.out q hq; omega
      obtain ⟨g, off, hadd, _, _, _⟩ := HV.out.at (by omega)
      subst hadd
      have hra := rowAt HV.out h9all k hkl (by omega)
      obtain ⟨q, hqe⟩ : ∃ q, L[k] = q := ⟨_, rfl⟩
      rw [hqe] at hra hq hTK
      have h9q : q.length ≤ 9 := by omega
      have HTK := Lib.hid hTK
      have h9t := twl_length _ h9q
      have hgl := hra.2
      have hrr : wr.rangeAt g (off + k * 9) (twl q) := range_below hra.1 hbr hgl
      have hsz : (Try.prog.info? 52).map (·.size) = some (twl q).length := by rw [Try.infoT, h9t]
      have hzero : Blk (wr.alloc (.cells (twl []).toArray 52)) wr.heap.size 52 (twl []) := Blk.new _ _ (twl []) _ rfl
      have cl := list_any q n
      have CL := Lib.hid (fun w => cl w hq.1 hq.2)
      have HHL := Lib.hid hhl
      have hsr := hbr.size
      have hlB := hB.lt
      clear cl hqe hmem hkl h9all hTK hra hq h9t hhl
      go_wp2_with (first | (refine wpList_load_mid rfl 52 _ rfl g (off + k * 9) rfl (twl q) _ hrr Try.underlying52 rfl hsz ?_) | (refine wpList_store_tower rfl _ _ rfl wr.heap.size [] q (by simp) h9q rfl rfl hzero ?_; intro w4 hbT4 hgr4; have hz4 := hbT4.lt) | (refine wpList_load_tower rfl _ rfl wr.heap.size q h9q rfl (by assumption) ?_))
      refine (CL.out w4).mono ?_
      rintro e w7 ⟨r7, rfl, ho7, hf7, hb7⟩
      obtain ⟨a7, c7, rfl, _, _, _⟩ := ho7.shape
      have hz4' := hgr4.size
      have hz7 := hb7.size
      have hzr : wr.heap.size < w4.heap.size := hz4
      have hB7 : Blk w7 w.heap.size 24 (hs ++ List.replicate (m - k) nilS) := ((hB.alloc _).grown hgr4 (by intro h; have := Option.some.inj h; omega)).below hb7 (by omega)
      have hbr4 := (hbr.alloc hsr (.cells (twl []).toArray 52)).grown hgr4 (by simp; omega) (by intro b hb; cases hb; exact hsr)
      have hbr7 := hbr4.trans (hb7.mono hbr4.size)
      have hHL := HHL.out
      have hset : (hs ++ List.replicate (m - k) nilS).set k (.slice a7 q.length c7) = (hs ++ [.slice a7 q.length c7]) ++ List.replicate (m - (k + 1)) nilS := by
        rw [List.set_append_right _ _ (by omega), hHL, Nat.sub_self, show m - k = (m - (k + 1)) + 1 by omega, List.replicate_succ, List.set_cons_zero, List.append_assoc]
        rfl
      have hB8 := hB7.set k (.slice a7 q.length c7)
      rw [hset] at hB8
      have hc7 := hB7.cell k
      rw [List.getElem?_append_right (by omega), hHL, Nat.sub_self, List.getElem?_replicate, if_pos (by omega)] at hc7
      have hf7' := hB7.frozen k
      have HI7 := Lib.hid (show In wr.heap.size w7.heap.size (.slice a7 q.length c7) from fun g hg => ⟨by have := hf7 g hg; omega, ho7.lt g hg⟩)
      have hgs : w7.grownBy (w7.setCell ⟨w.heap.size, k, none⟩ (.slice a7 q.length c7)) (some w.heap.size) := grownBy_setCell w7 w.heap.size k _
      have HS7 : SS w7 w.heap.size wr.heap.size (.slice (some ⟨w.heap.size, 0, none⟩) k m) hs (L.take k) := ((hS.out.below (below_new wr (.cells (twl []).toArray 52)) (Nat.le_refl _)).grown hgr4 (by simp) (by intro g hg; cases hg; right; exact Nat.le_refl _)).below hb7 (by omega)
      have hrow : (w7.setCell ⟨w.heap.size, k, none⟩ (.slice a7 q.length c7)).ownsRow w.heap.size 24 1 (.slice (some ⟨w.heap.size, 0, none⟩) (hs.length + 1) m) (hs.length + 1) (hs ++ [.slice a7 q.length c7]) :=
        ownsRow_of_blk hB8 (Nat.le_refl _) (by simp) (by omega) (by unfold maxLen; omega) (by simp; omega) (by rw [List.take_left' (by simp)])
      have hS8 := SS.app HS7 (by omega) ho7 HI7.out hrow hgs (.inl rfl) (by simp [World.setCell]; omega) (by omega)
      rw [← HTK.out, hHL] at hS8
      have HS8 := Lib.hid hS8
      have hbr8 := hbr7.setCell (p := ⟨w.heap.size, k, none⟩) (Nat.le_refl _) (.slice a7 q.length c7)
      have HL8 := Lib.hid (show (hs ++ [Value.slice a7 q.length c7]).length = k + 1 by simp [hHL])
      clear hS hB hgr4 hB7 hbr4 hbr7 hHL hset HI7 hgs HS7 hrow hS8 ho7 hf7 hb7 hbr hbT4 hrr hzero
      go_wp2
      go_roundw
      case rel => exact ⟨k + 1, _, by omega, by go_num, HL8.out, HS8, hB8, hbr8⟩
      case measure => simp [intOf] <;> omega
    · obtain rfl : k = m := by omega
      have HT := Lib.hid (show L.take k = L by rw [← HML.out]; exact List.take_length)
      have HF := Lib.hid (show SS wr w.heap.size wr.heap.size (.slice (some ⟨w.heap.size, 0, none⟩) k k) hs L by rw [← HT.out]; exact hS.out)
      clear hS hB
      go_wp2
      go_ret
      first | exact ⟨_, _, rfl, HF.out, hbr⟩ | exact ⟨_, rfl, ⟨_, HF.out⟩, hbr⟩

theorem tot_mStacksBefore (xs : List Int) : pre (mStacksBefore xs) (mStacksBefore xs).length ≤ 1048576 := by
  have h1 := pre_bound _ (mStacksBefore_rows xs)
  have h2 := mStacksBefore_length xs
  omega

end Go.Proofs.Ytdlnniciccpchaa

namespace Go.Proofs.Ytdlnniciccpchaa
open Go Go.RowKit Go.Pan

end Go.Proofs.Ytdlnniciccpchaa

namespace Go.Proofs.Ytdlnniciccpchaa
open Go Go.RowKit Go.Pan

/-- what the first k steps make of it -/
def StTo (st : List Int → Nat → List Int) (xs p : List Int) (k : Nat) : List Int := (p.take k).foldl (fun q j => st q j.toNat) xs
theorem StTo_step (st : List Int → Nat → List Int) (xs p : List Int) (k : Nat) (h : k < p.length) (j : Nat) (hj : p[k] = (j : Int)) : st (StTo st xs p k) j = StTo st xs p (k + 1) := by
  unfold StTo
  rw [List.take_succ_eq_append_getElem h, List.foldl_append, hj]
  simp
theorem StTo_turn (xs p : List Int) (k : Nat) : StTo turnL xs p k = PlayTo xs p k := by
  have : ∀ (q : List Int) (ys : List Int), q.foldl (fun r j => turnL r j.toNat) ys = playL ys q := by
    intro q
    induction q with
    | nil => intro ys; rfl
    | cons a q ih => intro ys; exact ih _
  exact this _ _
def twN (st : List Int → Nat → List Int) (xs p : List Int) (k : Nat) : List Value := (List.range k).flatMap fun j => twl (StTo st xs p j)
theorem twN_one (st : List Int → Nat → List Int) (xs p : List Int) : twN st xs p 1 = twl xs := by simp [twN, StTo]
theorem twN_succ (st : List Int → Nat → List Int) (xs p : List Int) (k : Nat) : twN st xs p (k + 1) = twN st xs p k ++ twl (StTo st xs p k) := by simp [twN, List.range_succ]



end Go.Proofs.Ytdlnniciccpchaa

namespace Go.Pan
open Go Go.RowKit
theorem SS.made {w : World} {B : Nat} {ty : TypeId} {v : Value} (h : w.ownsRow B ty 1 v 0 []) : SS w B w.heap.size v [] [] :=
  ⟨rfl, (Go.Pan.Own.of_row h).1, fun g hg => h.lt g hg, fun i u xs hu => by simp at hu, fun i j u u' _ hu => by simp at hu⟩

end Go.Pan

namespace Go.Proofs.Ytdlnniciccpchaa
open Go Go.RowKit Go.Pan

theorem twN_tws (xs p : List Int) (k : Nat) : twN turnL xs p k = tws (stkN xs p k) := by
  unfold twN tws stkN
  rw [List.flatMap_map]
  congr 1
  funext j
  rw [StTo_turn]

end Go.Proofs.Ytdlnniciccpchaa

namespace Go.Proofs.Ytdlnniciccpchaa
open Go Go.RowKit Go.Pan Go.Shelf

attribute [local go_sem] Oper.semAt_some

theorem wpListIn_store_row {F : Fence} {n : Nat} {P : Program} {ops : Array Oper} {rest : List Oper} {o : Oper} {a : Act} {w : World} {Q : Exit → Act → World → Prop} (hgd : o.guard = none) (ty : TypeId) (x y : Operand) (ho : o.op = .store ty x y)
    (g : Nat) (cells : Array Value) (hx : a.eval x = .pointer (some ⟨g, 0, none⟩)) (hy : a.eval y = .agg cells)
    (t : TypeId) (old : Array Value) (hg : w.heap[g]? = some (.cells old t (0, 0))) (hi : (P.info? ty).map (·.size) = some cells.size)
    (hold : old.size = cells.size) (h1 : cells.all (·.oneCell') = true)
    (h : wpListIn F n P ops Q rest (a.put o.dst undef) (w.setRow g cells)) : wpListIn F n P ops Q (o :: rest) a w := by
  refine wpListIn_plain hgd fun K hK => ?_
  unfold Oper.wpIn
  refine ⟨by simp [Oper.about, ho], ?_⟩
  rw [Oper.semAt_plain F _ _ (by rw [ho]; intro c hc; cases hc)]
  simp only [execOp, ho, hx, hy, Instr.storeAt, Instr.sureAddr, Sem.run_bind, Sem.run_pure, Result.andThen_ok, run_storeVar_row w g t ty old cells hg hi hold h1]
  exact hK _ _ h
theorem wpListIn_load_row {F : Fence} {n : Nat} {P : Program} {ops : Array Oper} {rest : List Oper} {o : Oper} {a : Act} {w : World} {Q : Exit → Act → World → Prop} (hgd : o.guard = none) (ty : TypeId) (x : Operand) (ho : o.op = .load ty x)
    (g : Nat) (hx : a.eval x = .pointer (some ⟨g, 0, none⟩)) (t : TypeId) (cs : Array Value) (fr : Nat × Nat) (d : TypeDesc) (hg : w.heap[g]? = some (.cells cs t fr))
    (hu : P.underlying ty = some d) (hd : (match d with | .struct _ | .array _ _ => true | _ => false) = true) (hi : (P.info? ty).map (·.size) = some cs.size)
    (h : wpListIn F n P ops Q rest (a.put o.dst (.agg cs)) w) : wpListIn F n P ops Q (o :: rest) a w := by
  refine wpListIn_plain hgd fun K hK => ?_
  unfold Oper.wpIn
  refine ⟨by simp [Oper.about, ho], ?_⟩
  rw [Oper.semAt_plain F _ _ (by rw [ho]; intro c hc; cases hc)]
  simp only [execOp, ho, hx, Instr.loadAt, Instr.sureAddr, Sem.run_bind, Sem.run_pure, Result.andThen_ok, run_loadVar_row w g t ty cs fr d hg hu hd hi]
  exact hK _ _ h
theorem wpListIn_load_tower {F : Fence} {n : Nat} {ops : Array Oper} {rest : List Oper} {o : Oper} {a : Act} {w : World} {Q : Exit → Act → World → Prop} (hgd : o.guard = none) (x : Operand) (ho : o.op = .load 52 x)
    (g : Nat) (xs : List Int) (h9 : xs.length ≤ 9) (hx : a.eval x = .pointer (some ⟨g, 0, none⟩)) (hg : Blk w g 52 (twl xs))
    (h : wpListIn F n Try.prog ops Q rest (a.put o.dst (tw xs)) w) : wpListIn F n Try.prog ops Q (o :: rest) a w :=
  wpListIn_load_row hgd 52 x ho g hx 52 _ _ _ hg Try.underlying52 rfl (by rw [Try.infoT]; simp [twl_length xs h9]) h
theorem wpListIn_store_tower {F : Fence} {n : Nat} {ops : Array Oper} {rest : List Oper} {o : Oper} {a : Act} {w : World} {Q : Exit → Act → World → Prop} (hgd : o.guard = none) (x y : Operand) (ho : o.op = .store 52 x y)
    (g : Nat) (xs ys : List Int) (hx9 : xs.length ≤ 9) (hy9 : ys.length ≤ 9) (hx : a.eval x = .pointer (some ⟨g, 0, none⟩)) (hy : a.eval y = tw ys) (hg : Blk w g 52 (twl xs))
    (h : ∀ w', Blk w' g 52 (twl ys) → w.grownBy w' (some g) → wpListIn F n Try.prog ops Q rest (a.put o.dst undef) w') : wpListIn F n Try.prog ops Q (o :: rest) a w := by
  have h1 := twl_length xs hx9
  have h2 := twl_length ys hy9
  refine wpListIn_store_row hgd 52 x y ho g (twl ys).toArray hx hy 52 _ hg (by rw [Try.infoT]; simp [h2]) (by simp [h1, h2]) (by simp [twl, Value.oneCell']) ?_
  exact h _ (hg.setRow (twl ys)) ⟨rfl, rfl, rfl, by simp [World.setRow], fun k _ hk => setRow_other w g k _ (fun e => hk (by rw [e]))⟩

theorem nodup_sub_le {α : Type} [DecidableEq α] : ∀ {l m : List α}, l.Nodup → (∀ x ∈ l, x ∈ m) → l.length ≤ m.length
  | [], _, _, _ => Nat.zero_le _
  | a :: l, m, h, hs => by
    obtain ⟨h1, h2⟩ := List.nodup_cons.1 h
    have h3 := hs a (by simp)
    have h4 := nodup_sub_le (l := l) (m := m.erase a) h2 (fun x hx => (List.mem_erase_of_ne (by rintro rfl; exact h1 hx)).2 (hs x (by simp [hx])))
    have h5 := List.length_pos_of_mem h3
    rw [List.length_erase_of_mem h3] at h4
    simp
    omega
/-- a stack as a tower -/
abbrev TwS := { q : List Int // q.length ≤ 9 }
/-- the keys that have come -/
def KeyTo (n : Gm) (c : LC) (left : Lit → Bool) (ss : List TwS) : Prop := (ss.map (·.1)).Nodup ∧ ∀ q, q ∈ ss.map (·.1) ↔ n.St q ∧ 0 < c q ∧ left (kl q) = false
def Keys (n : Gm) (c : LC) (ss : List TwS) : Prop := (ss.map (·.1)).Nodup ∧ ∀ q, q ∈ ss.map (·.1) ↔ n.St q ∧ 0 < c q
theorem KeyTo.start {n : Gm} {D : DD} {c : LC} (hL : Lay n D c) : KeyTo n c (Maps.has D) [] := ⟨by simp, fun q => by
  constructor
  · intro h; simp at h
  · rintro ⟨h1, h2, h3⟩
    rw [hL.has q h1, decide_eq_true h2] at h3
    cases h3⟩
theorem KeyTo.step {n : Gm} (hn : GOk n) {c : LC} {left : Lit → Bool} {ss : List TwS} (h : KeyTo n c left ss) (x : TwS) (hx : n.St x.1) (hc : 0 < c x.1) (hl : left (kl x.1) = true) : KeyTo n c (fun z => left z && !z.sameKey (kl x.1)) (ss ++ [x]) := by
  constructor
  · rw [List.map_append, List.map_cons, List.map_nil, List.nodup_append]
    refine ⟨h.1, by simp, fun a ha b hb e => ?_⟩
    simp at hb
    subst hb
    have := (h.2 a).1 ha
    rw [e, hl] at this
    exact absurd this.2.2 (by simp)
  · intro q
    rw [List.map_append, List.map_cons, List.map_nil, List.mem_append, List.mem_singleton, h.2 q]
    constructor
    · rintro (⟨h1, h2, h3⟩ | rfl)
      · exact ⟨h1, h2, by simp [h3]⟩
      · exact ⟨hx, hc, strike_self x.1 left⟩
    · rintro ⟨h1, h2, h3⟩
      by_cases e : q = x.1
      · exact .inr e
      · exact .inl ⟨h1, h2, by simpa only [strike_other hn hx h1 e left] using h3⟩
theorem KeyTo.last {n : Gm} {c : LC} {left : Lit → Bool} {ss : List TwS} (h : KeyTo n c left ss) (hl : ∀ k, left k = false) : Keys n c ss := ⟨h.1, fun q => by rw [h.2 q]; simp [hl]⟩
theorem Keys.few {n : Gm} (hn : GOk n) {c : LC} {ss : List TwS} (h : Keys n c ss) : ss.length ≤ n.all.length := by
  have h2 : ss.length = (ss.map (·.1)).length := by simp
  rw [h2]
  exact nodup_sub_le h.1 (fun q hq => (hn.mem q).2 ((h.2 q).1 hq).1)

set_option maxRecDepth 100000 in
set_option maxHeartbeats 2000000 in
theorem keys1_in (F : Fence) (k : Nat) (hF : F.fn 95) (hro : F.round = none) (hk : 1 ≤ k) (n : Gm) (l Bm b : Nat) (D : DD) (c : LC) (J Jx : List TwS → World → Prop)
    (hY : ∀ pre (x : TwS) W, J pre W → pre.length < Maps.size D → YieldAt F (k - 1) Try.prog l #[tw x.1] W fun e W' => (e = .returned (.bool true) ∧ J (pre ++ [x]) W' ∧ KeepsWalks W W') ∨ (e = .returned (.bool false) ∧ Jx (pre ++ [x]) W'))
    (W : World) (hJ : AbidesFrom W.heap.size J) (hm : W.cell? ⟨Bm, 0, none⟩ = some (.map (some b))) (hown : W.ownsMap Try.prog 52 (plainElem Try.prog 3) b n.all.length D) (hL : Hid (Lay n D c)) (hn : Hid (GOk n)) (h0 : J [] W) :
    CallsIn F k Try.prog 95 #[.func (.yield l) #[] #[], .pointer (some ⟨Bm, 0, none⟩)] W fun e W' => (∃ v, e = .returned v) ∧ ((∃ ss, Keys n c ss ∧ J ss W') ∨ (∃ pre : List TwS, True ∧ Jx pre W')) := by
  refine callsIn_of_wp Try.func95 rfl hF ?_ hro
  simp only [Try.ntmps95, List.size_toArray, List.length_cons, List.length_nil, Nat.reduceAdd, Nat.reduceSub, Array.replicate_succ, Array.replicate_zero, List.push_toArray, List.append_toArray, List.nil_append, List.cons_append]
  have hst0 := KeyTo.start hL.out
  have HLE0 := Lib.hid (show ∀ k, Maps.has D k = true → Maps.has D k = true from fun _ h => h)
  gi_wp2_with (first
    | (gi_at_range; refine wpListIn_range_own _ rfl _ 60 rfl 52 3 keyd Try.underlying60 _ b n.all.length D rfl hown ?_; intro w0 hrg0 hg0 hs0)
    | gi_in)
  go_frame
  have hJ0 : J [] w0 := hJ [] W w0 none h0 hg0 (fun r e => by cases e)
  clear hs0 hown hg0 h0
  gi_loopw [3] (fun _ wr => ∃ (left : Lit → Bool) (cnt : Nat) (ss : List TwS), Rg wr n b W.heap.size D left cnt ∧ ss.length + cnt ≤ Maps.size D ∧ KeyTo n c left ss ∧ Hid (∀ k, left k = true → Maps.has D k = true) ∧ J ss wr) (fun _ wr => wr.rangeLeft b W.heap.size)
  case atStart => exact ⟨_, _, [], hrg0, by simp, hst0, HLE0, hJ0⟩
  case round =>
    obtain ⟨left, cnt, ss, hrg, hcs, hKT, hle, hJs⟩ := hrel
    clear hrg0 hst0 HLE0 hJ0
    gi_wp2_with (first
      | (gi_at_next; refine wpListIn_next_ranges _ rfl _ rfl 52 keyd _ (fun x : Value => x) (Value.int .i64) (fun key _ _ => ⟨key, rfl⟩) invVal b W.heap.size n.all.length D left cnt rfl hrg ?_ ?_)
      | gi_in)
    · intro _ hl0
      have HL0 := Lib.hid (hKT.last hl0)
      clear hl0
      gi_wp2
      go_end0
      exact ⟨⟨_, rfl⟩, .inl ⟨ss, HL0.out, hJs⟩⟩
    · intro x v kk yd yp w1 cnt1 hkey hlk hv hat hrg1 hlt1 hg1 hs1 hen
      obtain ⟨q, hq, rfl, hcq⟩ := left_st hL.out (hle.out _ hlk)
      obtain rfl := key_is hn.out hq hkey
      have h9 := (hn.out.le9 hq)
      have hJ1 : J ss w1 := hJ ss wr w1 (some W.heap.size) hJs hg1 (fun r e => by cases e; exact ⟨Nat.le_refl _, hrg.iter_walk⟩)
      have HKS := Lib.hid (hKT.step hn.out ⟨q, h9⟩ hq hcq hlk)
      have HLE := Lib.hid (show ∀ z, (left z && !z.sameKey (kl q)) = true → Maps.has D z = true from fun z hz => hle.out z (by rw [Bool.and_eq_true] at hz; exact hz.1))
      have hzero : Blk (w1.alloc (.cells (twl []).toArray 52)) w1.heap.size 52 (twl []) := Blk.new _ _ (twl []) _ rfl
      have HS1 := Lib.hid hs1
      clear hs1 hat hKT hq hkey
      gi_wp2_with (first | (refine wpListIn_store_tower rfl _ _ rfl w1.heap.size [] q (by simp) h9 rfl rfl hzero ?_; intro w3 hbT3 hgr3; have hz3 := hbT3.lt) | (refine wpListIn_load_tower rfl _ rfl w1.heap.size q h9 rfl hbT3 ?_))
      have hg13 : w1.grownBy w3 none := by
        obtain ⟨a1, a2, a3, a4, a5⟩ := hgr3
        exact ⟨a1, a2, a3, by simp at a4; omega, fun k hk _ => (a5 k (by simp; omega) (by simp; omega)).trans (Below.heap_alloc w1 _ k hk)⟩
      have hJ3 : J ss w3 := hJ ss w1 w3 none hJ1 hg13 (fun r e => by cases e)
      have hrg3 := hrg1.kept hg13 (by simp) (by simp)
      obtain ⟨fn, tmps, assign, body, hy, hR⟩ := hY ss ⟨q, h9⟩ w3 hJ3 (by omega)
      dsimp only at hy
      clear hgr3 hJ1 hrg1 hg13 hzero
      rw [hy]
      gi_wp2
      refine hR.mono ?_
      rintro e W3 (⟨rfl, hJ4, hk4⟩ | ⟨rfl, hJx4⟩)
      · gi_wp2
        have hrg4 := hrg3.of_walks hk4
        go_roundw
        case rel => exact ⟨_, cnt1, ss ++ [⟨q, h9⟩], hrg4, by simp; omega, HKS.out, HLE, hJ4⟩
        case measure => rw [hrg4.left_eq, hrg.left_eq]; exact hlt1
      · gi_wp2
        refine bodyPost_ret (results_none rfl _ _ _) rfl ?_
        exact ⟨⟨_, rfl⟩, .inr ⟨_, trivial, hJx4⟩⟩

theorem keys_stops (F : Fence) (k : Nat) (hF : F.fn 95) (hro : F.round = none) (hk : 1 ≤ k) (n : Gm) (Bm b : Nat) (c : LC) (w : World) (hBm : Bm < w.heap.size)
    (hm : w.cell? ⟨Bm, 0, none⟩ = some (.map (some b))) (hl : Ly n w b c) (hn : Hid (GOk n)) :
    SeqStopsK F k Try.prog 95 #[.pointer (some ⟨Bm, 0, none⟩)] (fun x : TwS => #[tw x.1]) KeepsWalks (Keys n c) (fun _ => True) n.all.length w := fun l J Jx W hW hJ _ hY h0 => by
  obtain ⟨D, hown, hL⟩ := Ly.below hl hW (Nat.le_refl _)
  have hsz := Lay.size_le hn.out hL (hown.canon keyd)
  exact keys1_in F k hF hro hk n l Bm b D c J Jx (fun pre x W1 h1 h2 => hY pre x W1 h1 (by omega)) W hJ ((hW.cell (p := ⟨Bm, 0, none⟩) hBm).trans hm) hown (Lib.hid hL) hn h0

end Go.Proofs.Ytdlnniciccpchaa

namespace Go.Proofs.Ytdlnniciccpchaa
open Go Go.RowKit Go.Pan Go.Shelf

attribute [local go_sem] Oper.semAt_some

theorem wpListIn_build_tower {F : Fence} {n : Nat} {ops : Array Oper} {rest : List Oper} {o : Oper} {a : Act} {w : World} {Q : Exit → Act → World → Prop}
    (hg : o.guard = none) (x : Operand) (hop : o.op = Op.buildSlice 94 1 #[(0, x)]) (cs : List Value) (h9 : cs.length = 9) (hx : a.eval x = .agg cs.toArray)
    (h : wpListIn F n Try.prog ops Q rest (a.put o.dst (.slice (some ⟨w.heap.size, 0, none⟩) 1 1)) (w.alloc (.cells cs.toArray 52))) :
    wpListIn F n Try.prog ops Q (o :: rest) a w := by
  refine wpListIn_plain hg fun K hK => ?_
  have hrun := run_build_tower w cs h9
  unfold Oper.wpIn
  refine ⟨by simp [Oper.about, hop], ?_⟩
  rw [Oper.semAt_plain F _ _ (by rw [hop]; intro c hc; cases hc)]
  simp [execOp, hop, hx, hrun, Result.andThen]
  exact hK _ _ h

/-- the cells of towers, one behind the other -/
def flatT (ss : List TwS) : List Value := ss.flatMap fun x => twl x.1
theorem flatT_snoc (ss : List TwS) (x : TwS) : flatT (ss ++ [x]) = flatT ss ++ twl x.1 := by simp [flatT]
theorem news_tower {w : World} {b : Nat} {cs : List Value} {t : TypeId} (h : w.heap[b]? = some (.cells cs.toArray t (0, 0))) : ∀ j u, cs[j]? = some u → w.cell? ((⟨b, 0, none⟩ : Addr).add j) = some u := by
  intro j u hj
  have hadd : (⟨b, 0, none⟩ : Addr).add j = ⟨b, j, none⟩ := by unfold Addr.add; split <;> simp_all
  rw [hadd]
  simp [World.cell?, h, hj]

theorem mapsKeys_any (b : Nat) (w : World) :
    Calls Try.prog 80 #[.map (some b)] w fun e w' => e = .returned (.func (.func 95) #[] #[.pointer (some ⟨w.heap.size, 0, none⟩)]) ∧ w' = w.alloc (.cells #[.map (some b)] 60) := by
  go_enter Try.func80, Try.ntmps80
  go_wp2
  go_ret
  exact ⟨rfl, rfl⟩

set_option maxRecDepth 100000 in
set_option maxHeartbeats 4000000 in
theorem appendSeq_in (F : Fence) (k : Nat) (hF : F.fn 99) (hro : F.round = none) (hk : 3 ≤ k) (gf : Nat) (lb : Array Value) (hFg : F.fn gf) (eg : ∀ args w, (callFunc gf args).run Try.prog w = .ok (.enter gf args) w)
    (S : List TwS → Prop) (N : Nat) (hN : N ≤ 1000000) (w : World) (hseq : SeqStopsK F (k - 1) Try.prog gf lb (fun x : TwS => #[tw x.1]) KeepsWalks S (fun _ => True) N w) :
    CallsIn F k Try.prog 99 #[.slice none 0 0, .func (.func gf) #[] lb] w fun e w' => ∃ (v : Value) (ss : List TwS), e = .returned v ∧ S ss ∧ w'.ownsRow w.heap.size 52 9 v ss.length (flatT ss) ∧ (v = .slice none 0 0 ↔ ss = []) ∧ Below w.heap.size w w' := by
  have h1 : 1 ≤ k := by omega
  obtain ⟨i0, hi, hz0, hz1, hz2⟩ := info_parts infoTw
  refine callsIn_of_wp_marks Try.func99 rfl hF ?_ hro
  simp only [Try.ntmps99, List.size_toArray, List.length_cons, List.length_nil, Nat.reduceAdd, Nat.reduceSub, Array.replicate_succ, Array.replicate_zero, List.push_toArray, List.append_toArray, List.nil_append, List.cons_append]
  gi_wp2
  have bO := Boxed.new w 94 (.slice none 0 0)
  have hB0 : Below w.heap.size w (w.alloc (.cells #[.slice none 0 0] 94)) := (Below.refl _ w).alloc (Nat.le_refl _) _
  refine wpIn_rangeFunc_ownH hro h1 (gf := gf) (lb := lb) rfl hFg eg hseq walksK_t walksK_b hB0 (fun _ => rfl)
    (fun pre W => (∃ v, Boxed W w.heap.size 94 v ∧ W.ownsRow w.heap.size 52 9 v pre.length (flatT pre) ∧ (v = .slice none 0 0 ↔ pre = [])) ∧ Below w.heap.size w W)
    (fun _ _ _ => False)
    (OwnFrom.and (Own.from (holdsRow_own w.heap.size w.heap.size 94 52 9 (fun pre : List TwS => pre.length) flatT (fun pre v => v = .slice none 0 0 ↔ pre = [])) _) (ownFrom_below (Nat.le_refl _) (by simp)))
    (fun _ _ _ _ _ hs _ _ => hs)
    ⟨⟨_, bO, World.ownsRow_nil _ _ _ _, by simp⟩, hB0⟩
    (fun x a' W => ∃ g, w.heap.size < g ∧ Blk W g 52 (twl x.1) ∧ a' = { tmps := #[.slice none 0 0, .func (.func gf) #[] lb, .pointer (some ⟨w.heap.size, 0, none⟩), undef, .slice none 0 0, .pointer (some ⟨g, 0, none⟩), .func (.func gf) #[] lb, tw x.1, undef, undef, undef, undef, undef], defers := [] })
    (fun x a' _ X Y row hs hg hr => by
      obtain ⟨g, h1, h2, h3⟩ := hs
      refine ⟨g, h1, ?_, h3⟩
      unfold Blk at h2 ⊢
      refine (hg.block g (Array.getElem?_eq_some_iff.1 h2).1 (fun e => ?_)).trans h2
      obtain ⟨_, o, ho, hc⟩ := hr g e.symm
      rw [h2] at ho
      cases ho
      cases hc)
    ?assign ?body ?done ?stop
  case assign =>
    rintro l pre x W K ⟨⟨v, hv, hrow, hnil⟩, hB⟩ hK
    have hzero : Blk (W.alloc (.cells (twl []).toArray 52)) W.heap.size 52 (twl []) := Blk.new _ _ (twl []) _ rfl
    gi_wp2_with (refine wpListIn_store_tower rfl _ _ rfl W.heap.size [] x.1 (by simp) x.2 rfl rfl hzero ?_; intro w3 hbT3 hgr3)
    have hg13 : W.grownBy w3 none := by
      obtain ⟨a1, a2, a3, a4, a5⟩ := hgr3
      exact ⟨a1, a2, a3, by simp at a4; omega, fun k hk _ => (a5 k (by simp; omega) (by simp; omega)).trans (Below.heap_alloc W _ k hk)⟩
    exact hK _ _ (KeepsFrom.of_grownBy hg13 (fun j e => by cases e)) (KeepsWalks.of_grownBy hg13 (fun j o e => by cases e))
      ⟨⟨v, hv.kept hg13 (by simp), hrow.kept hg13 (by cases h : v.ownBlock with | none => exact .inl rfl | some g => exact .inr (by simp)), hnil⟩, hB.grown hg13 hB.size (fun k e => by cases e)⟩ ⟨W.heap.size, hv.lt, hbT3, rfl⟩
  case body =>
    rintro l pre x a' W hl ⟨r, hr⟩ ⟨⟨v, hv, hrow, hnil⟩, hB⟩ ⟨g, hg, hb, rfl⟩ hlt
    have hc := hv.cell
    have hbs := hB.size
    gi_wp2_with (first
      | (refine wpListIn_load_tower rfl _ rfl g x.1 x.2 rfl hb ?_)
      | (refine wpListIn_build_tower rfl _ rfl (twl x.1) (twl_length x.1 x.2) rfl ?_)
      | (gi_at_builtin; refine wpListIn_append_own _ rfl _ _ 94 rfl w.heap.size 52 i0 _ 9 72 Try.underlying94 hi hz0 hz1 hz2 rfl (by decide) _ _ _ rfl (hrow.alloc _) ⟨W.heap.size, 0, none⟩ 1 1 (twl x.1) rfl (twl_length x.1 x.2) (news_tower (World.alloc_heap_new W _)) (twl_one x.1) (by unfold maxLen; omega) (by omega) (by simp; omega) ?_; intro v' w1 hown' hgrow _; obtain ⟨g', cap', rfl⟩ := ownsRow_succ hown'; obtain ⟨hv1, hv2, hr2, hk2, hb2⟩ := hv.appended (by decide) hrow hbs (Nat.le_refl _) hown' hgrow; have hc1 := hv1.cell; have hf1 := hv1.frozen))
    exact ⟨hk2.from _, (hk2.walks), ⟨⟨_, hv2, by rw [flatT_snoc]; simpa using hr2, by simp⟩, hB.trans hb2⟩⟩
  case done =>
    rintro D ss W hD hS ⟨⟨v, hv, hrow, hnil⟩, hB⟩ hK
    have hc := hv.cell
    gi_wp2
    refine ⟨by simp, .inl ⟨_, _, rfl, run_takeDeferred hK, ?_⟩⟩
    exact ⟨_, results_tmp rfl _ _ _, v, ss, rfl, hS, ownsRow_putObj hrow _ hK rfl, hnil, hB.trans (belowK_b (w := w) (Nat.le_refl _) W D _ _ (by simp at hD; omega) hK rfl rfl)⟩
  case stop =>
    rintro D c pre W _ _ h _
    exact h.elim

set_option maxHeartbeats 1000000 in
theorem collect_in (F : Fence) (k : Nat) (hF8 : F.fn 93) (hF : F.fn 99) (hro : F.round = none) (hk : 4 ≤ k) (gf : Nat) (lb : Array Value) (hFg : F.fn gf) (eg : ∀ args w, (callFunc gf args).run Try.prog w = .ok (.enter gf args) w)
    (S : List TwS → Prop) (N : Nat) (hN : N ≤ 1000000) (w : World) (hseq : SeqStopsK F (k - 1 - 1) Try.prog gf lb (fun x : TwS => #[tw x.1]) KeepsWalks S (fun _ => True) N w) :
    CallsIn F k Try.prog 93 #[.func (.func gf) #[] lb] w fun e w' => ∃ (v : Value) (ss : List TwS), e = .returned v ∧ S ss ∧ w'.ownsRow w.heap.size 52 9 v ss.length (flatT ss) ∧ (v = .slice none 0 0 ↔ ss = []) ∧ Below w.heap.size w w' := by
  have h1 : 1 ≤ k := by omega
  have c := appendSeq_in F (k - 1) hF hro (by omega) gf lb hFg eg S N hN w hseq
  refine callsIn_of_wp Try.func93 rfl hF8 ?_ hro
  simp only [Try.ntmps93, List.size_toArray, List.length_cons, List.length_nil, Nat.reduceAdd, Nat.reduceSub, Array.replicate_succ, Array.replicate_zero, List.push_toArray, List.append_toArray, List.nil_append, List.cons_append]
  gi_wp2_with (gi_at_call 99; refine c.mono ?_; rintro e w' ⟨v, ss, rfl, hS, hrow, hnil, hb⟩)
  go_ret
  exact ⟨v, ss, rfl, hS, hrow, hnil, hb⟩

set_option maxHeartbeats 1000000 in
/-- the keys of a layer, collected -/
theorem collectKeys_any (n : Gm) (Bm b : Nat) (c : LC) (w : World) (hn : Hid (GOk n)) (hBm : Bm < w.heap.size) (hm : w.cell? ⟨Bm, 0, none⟩ = some (.map (some b))) (hl : Ly n w b c) :
    Calls Try.prog 93 #[.func (.func 95) #[] #[.pointer (some ⟨Bm, 0, none⟩)]] w fun e w' => ∃ (v : Value) (ss : List TwS), e = .returned v ∧ Keys n c ss ∧ w'.ownsRow w.heap.size 52 9 v ss.length (flatT ss) ∧ (v = .slice none 0 0 ↔ ss = []) ∧ Below w.heap.size w w' :=
  (callsIn_wide (n := 9)).1 (collect_in _ 9 trivial trivial rfl (by omega) _ _ trivial (enters_of Try.func95 (by kernel_rfl) rfl) (Keys n c) n.all.length (by have := hn.out.total; omega) w (keys_stops _ _ trivial rfl (by omega) n Bm b c w hBm hm hl hn))

end Go.Proofs.Ytdlnniciccpchaa

namespace Go.Pan
open Go

/-- lists held against each other -/
def cmpL : List Int → List Int → Int
  | [], [] => 0
  | [], _ :: _ => -1
  | _ :: _, [] => 1
  | x :: xs, y :: ys => if Lib.compareInt x y = 0 then cmpL xs ys else Lib.compareInt x y
def ltL (xs ys : List Int) : Bool := decide (cmpL xs ys < 0)
theorem compareInt_eq (x y : Int) : Lib.compareInt x y = if x < y then -1 else if y < x then 1 else 0 := rfl
theorem ltL_cons (x y : Int) (xs ys : List Int) : ltL (x :: xs) (y :: ys) = (decide (x < y) || (decide (x = y) && ltL xs ys)) := by
  unfold ltL
  simp only [cmpL, compareInt_eq]
  by_cases h1 : x < y
  · simp [h1]
  · by_cases h2 : y < x
    · have : x ≠ y := by omega
      simp [h1, h2, this]
    · have : x = y := by omega
      simp [this]
theorem ltL_irrefl (xs : List Int) : ltL xs xs = false := by
  induction xs with
  | nil => rfl
  | cons x xs ih => rw [ltL_cons, ih]; simp
theorem ltL_total : ∀ (xs ys : List Int), xs.length = ys.length → ltL xs ys = false → ltL ys xs = false → xs = ys
  | [], [], _, _, _ => rfl
  | [], _ :: _, h, _, _ => by simp at h
  | _ :: _, [], h, _, _ => by simp at h
  | x :: xs, y :: ys, h, h1, h2 => by
    rw [ltL_cons] at h1 h2
    simp only [Bool.or_eq_false_iff, decide_eq_false_iff_not, Bool.and_eq_false_iff] at h1 h2
    have e : x = y := by omega
    subst e
    have h3 : ltL xs ys = false := by rcases h1.2 with h | h; exact absurd rfl h; exact h
    have h4 : ltL ys xs = false := by rcases h2.2 with h | h; exact absurd rfl h; exact h
    rw [ltL_total xs ys (by simpa using h) h3 h4]
theorem ltL_trans : ∀ (xs ys zs : List Int), ltL xs ys = true → ltL ys zs = true → ltL xs zs = true
  | [], [], _, h, _ => by simp [ltL, cmpL] at h
  | _ :: _, [], _, h, _ => by simp [ltL, cmpL] at h
  | [], _ :: _, [], _, h => by simp [ltL, cmpL] at h
  | _ :: _, _ :: _, [], _, h => by simp [ltL, cmpL] at h
  | [], _ :: _, _ :: _, _, _ => by simp [ltL, cmpL]
  | x :: xs, y :: ys, z :: zs, h1, h2 => by
    rw [ltL_cons] at *
    simp only [Bool.or_eq_true, decide_eq_true_iff, Bool.and_eq_true] at *
    rcases h1 with h1 | ⟨h1, h3⟩
    · rcases h2 with h2 | ⟨h2, _⟩
      · left; omega
      · left; omega
    · rcases h2 with h2 | ⟨h2, h4⟩
      · left; omega
      · right; exact ⟨by omega, ltL_trans xs ys zs h3 h4⟩
theorem ltL_ntrans : ∀ (xs ys zs : List Int), ltL xs ys = false → ltL ys zs = false → ltL xs zs = false
  | [], [], [], _, _ => rfl
  | [], [], _ :: _, _, h => by simp [ltL, cmpL] at h
  | [], _ :: _, _, h, _ => by simp [ltL, cmpL] at h
  | _ :: _, [], [], _, _ => by simp [ltL, cmpL]
  | _ :: _, _, [], _, _ => by simp [ltL, cmpL]
  | _ :: _, [], _ :: _, _, h => by simp [ltL, cmpL] at h
  | x :: xs, y :: ys, z :: zs, h1, h2 => by
    rw [ltL_cons] at *
    simp only [Bool.or_eq_false_iff, decide_eq_false_iff_not, Bool.and_eq_false_iff] at *
    refine ⟨by omega, ?_⟩
    by_cases e : x = z
    · right
      have e1 : x = y := by omega
      have e2 : y = z := by omega
      have h3 : ltL xs ys = false := by rcases h1.2 with h | h; exact absurd e1 h; exact h
      have h4 : ltL ys zs = false := by rcases h2.2 with h | h; exact absurd e2 h; exact h
      exact ltL_ntrans xs ys zs h3 h4
    · left; exact e
theorem ltL_pad (xs ys r : List Int) (h : xs.length = ys.length) : ltL (xs ++ r) (ys ++ r) = ltL xs ys := by
  induction xs generalizing ys with
  | nil =>
    obtain rfl := List.eq_nil_of_length_eq_zero h.symm
    rw [List.nil_append, ltL_irrefl]
    rfl
  | cons x xs ih =>
    cases ys with
    | nil => simp at h
    | cons y ys => rw [List.cons_append, List.cons_append, ltL_cons, ltL_cons, ih ys (by simpa using h)]
/-- the nine numbers of a tower -/
def pad9 (q : List Int) : List Int := q ++ List.replicate (9 - q.length) 0
theorem pad9_length {q : List Int} (h : q.length ≤ 9) : (pad9 q).length = 9 := by simp [pad9]; omega
theorem ltL_pad9 {xs ys : List Int} (h : xs.length = ys.length) : ltL (pad9 xs) (pad9 ys) = ltL xs ys := by
  unfold pad9
  rw [h]
  exact ltL_pad xs ys _ h
/-- sorted lists of the same things are the same -/
theorem sorted_eq : ∀ {a b : List (List Int)}, a.Pairwise (fun x y => ltL x y = true) → b.Pairwise (fun x y => ltL x y = true) → (∀ q, q ∈ a ↔ q ∈ b) → a = b
  | [], [], _, _, _ => rfl
  | [], y :: b, _, _, h => by have := (h y).2 (by simp); simp at this
  | x :: a, [], _, _, h => by have := (h x).1 (by simp); simp at this
  | x :: a, y :: b, ha, hb, h => by
    obtain ⟨ha1, ha2⟩ := List.pairwise_cons.1 ha
    obtain ⟨hb1, hb2⟩ := List.pairwise_cons.1 hb
    have e : x = y := by
      have h1 := (h x).1 (by simp)
      have h2 := (h y).2 (by simp)
      rcases List.mem_cons.1 h1 with h1 | h1
      · exact h1
      · rcases List.mem_cons.1 h2 with h2 | h2
        · exact h2.symm
        · have h3 := ltL_trans _ _ _ (hb1 x h1) (ha1 y h2)
          rw [ltL_irrefl] at h3
          cases h3
    subst e
    rw [sorted_eq ha2 hb2 (fun q => by
      have hq := h q
      constructor
      · intro hm
        rcases List.mem_cons.1 (hq.1 (List.mem_cons_of_mem _ hm)) with e | e
        · subst e
          have := ha1 q hm
          rw [ltL_irrefl] at this
          cases this
        · exact e
      · intro hm
        rcases List.mem_cons.1 (hq.2 (List.mem_cons_of_mem _ hm)) with e | e
        · subst e
          have := hb1 q hm
          rw [ltL_irrefl] at this
          cases this
        · exact e)]

end Go.Pan

namespace Go.Proofs.Ytdlnniciccpchaa
open Go Go.RowKit Go.Pan Go.Shelf

theorem twl_pad (q : List Int) : twl q = (pad9 q).map iv := rfl

set_option maxRecDepth 100000 in
set_option maxHeartbeats 800000 in
theorem slCompare_any (g1 g2 : Nat) (p q : List Int) (hp : p.length ≤ 9) (hq : q.length ≤ 9) (w : World) (h1 : w.rangeAt g1 0 (twl p)) (h2 : w.rangeAt g2 0 (twl q)) :
    Calls Try.prog 96 #[.slice (some ⟨g1, 0, none⟩) 9 9, .slice (some ⟨g2, 0, none⟩) 9 9] w fun e w' => e = .returned (.int .i64 (cmpL (pad9 p) (pad9 q))) ∧ w = w' := by
  have HP := Lib.hid (pad9_length hp)
  have HQ := Lib.hid (pad9_length hq)
  have H1 := Lib.hid h1
  have H2 := Lib.hid h2
  clear h1 h2 hp hq
  obtain ⟨xs, hxs⟩ : ∃ xs, pad9 p = xs := ⟨_, rfl⟩
  obtain ⟨ys, hys⟩ : ∃ ys, pad9 q = ys := ⟨_, rfl⟩
  rw [twl_pad, hxs] at H1
  rw [twl_pad, hys] at H2
  rw [hxs] at HP ⊢
  rw [hys] at HQ ⊢
  clear hxs hys
  have HC0 := Lib.hid (show cmpL xs ys = cmpL (xs.drop 0) (ys.drop 0) from rfl)
  go_enter Try.func96, Try.ntmps96
  go_wp2
  go_loop [5, 6, 7, 8, 11] (fun _ _ _ _ i => ∃ k : Nat, k ≤ 9 ∧ i = .int .i64 k ∧ Hid (cmpL xs ys = cmpL (xs.drop k) (ys.drop k))) (fun _ _ _ _ i => 9 - (intOf i).toNat)
  case atStart => exact ⟨0, by omega, rfl, HC0⟩
  case round =>
    obtain ⟨k, hk, rfl, HC⟩ := hrel
    clear HC0
    by_cases hlt : k < 9
    · have hkx : k < xs.length := by have := HP.out; omega
      have hky : k < ys.length := by have := HQ.out; omega
      have hcx : w.cell? ⟨g1, k, none⟩ = some (iv xs[k]) := by have := H1.out k (iv xs[k]) (by rw [List.getElem?_map, List.getElem?_eq_getElem hkx]; rfl); rwa [Nat.zero_add] at this
      have hcy : w.cell? ⟨g2, k, none⟩ = some (iv ys[k]) := by have := H2.out k (iv ys[k]) (by rw [List.getElem?_map, List.getElem?_eq_getElem hky]; rfl); rwa [Nat.zero_add] at this
      have HD := Lib.hid (show cmpL xs ys = if Lib.compareInt xs[k] ys[k] = 0 then cmpL (xs.drop (k + 1)) (ys.drop (k + 1)) else Lib.compareInt xs[k] ys[k] by
        rw [HC.out, List.drop_eq_getElem_cons hkx, List.drop_eq_getElem_cons hky]; rfl)
      obtain ⟨x, hx⟩ : ∃ x, xs[k] = x := ⟨_, rfl⟩
      obtain ⟨y, hy⟩ : ∃ y, ys[k] = y := ⟨_, rfl⟩
      rw [hx] at hcx HD
      rw [hy] at hcy HD
      have hlt' : (k : Int) < 9 := by omega
      have c := fun W => AnyG.cmp_Compare_int cmpT x y W
      change ∀ W, Calls Try.prog 102 _ _ _ at c
      obtain ⟨z, hz⟩ : ∃ z, Lib.compareInt x y = z := ⟨_, rfl⟩
      rw [hz] at HD
      simp only [hz] at c
      clear hx hy HC hz
      go_wp2_with fail
      refine (c _).mono ?_
      rintro e w1 ⟨rfl, rfl⟩
      by_cases h0 : z = 0
      · have HE := Lib.hid (show cmpL xs ys = cmpL (xs.drop (k + 1)) (ys.drop (k + 1)) by rw [HD.out, if_pos h0])
        subst h0
        go_wp2
        go_round
        case rel => exact ⟨k + 1, by omega, by go_num, HE⟩
        case measure => simp [intOf] <;> omega
      · have HE := Lib.hid (show cmpL xs ys = z by rw [HD.out, if_neg h0])
        have hne : (z != 0) = true := by simp [h0]
        go_wp2
        go_ret
        exact ⟨by rw [HE.out]; rfl, rfl⟩
    · obtain rfl : k = 9 := by omega
      have HE := Lib.hid (show cmpL xs ys = 0 by rw [HC.out, List.drop_of_length_le (by have := HP.out; omega), List.drop_of_length_le (by have := HQ.out; omega)]; rfl)
      go_wp2
      go_ret
      exact ⟨by rw [HE.out]; rfl, rfl⟩

theorem slCompare_quiet (g1 g2 : Nat) (p q : List Int) (hp : p.length ≤ 9) (hq : q.length ≤ 9) (w : World) (h1 : w.rangeAt g1 0 (twl p)) (h2 : w.rangeAt g2 0 (twl q)) (m : Nat) :
    Calls Try.prog 96 #[.slice (some ⟨g1, 0, none⟩) 9 9, .slice (some ⟨g2, 0, none⟩) 9 9] (w.drewN m) fun e w' => e = .returned (.int .i64 (cmpL (pad9 p) (pad9 q))) ∧ ∃ n, w' = w.drewN n :=
  (slCompare_any g1 g2 p q hp hq (w.drewN m) h1 h2).mono fun _ _ ⟨he, hw⟩ => ⟨he, m, hw.symm⟩

set_option maxHeartbeats 800000 in
theorem compareTowers_any (p q : List Int) (hp : p.length ≤ 9) (hq : q.length ≤ 9) (W : World) :
    Calls Try.prog 81 #[tw p, tw q] W fun e w' => e = .returned (.int .i64 (cmpL (pad9 p) (pad9 q))) ∧ ∃ n os, w' = Sort.grow (W.drewN n) os := by
  have hb1 : Blk ((W.alloc (.cells (twl p).toArray 52)).alloc (.cells (twl q).toArray 52)) W.heap.size 52 (twl p) := (Blk.new W _ (twl p) _ rfl).alloc _
  have hb2 : Blk ((W.alloc (.cells (twl p).toArray 52)).alloc (.cells (twl q).toArray 52)) (W.heap.size + 1) 52 (twl q) := by have := Blk.new (W.alloc (.cells (twl p).toArray 52)) 52 (twl q) _ rfl; simpa using this
  have c := fun m => slCompare_quiet W.heap.size (W.heap.size + 1) p q hp hq _ hb1.range hb2.range m
  have HW := Lib.hid (show (W.alloc (.cells (twl p).toArray 52)).alloc (.cells (twl q).toArray 52) = Sort.grow W #[.cells (twl p).toArray 52, .cells (twl q).toArray 52] by rw [Sort.alloc_eq_grow, Sort.alloc_eq_grow, Sort.grow_grow]; rfl)
  obtain ⟨z, hz⟩ : ∃ z, cmpL (pad9 p) (pad9 q) = z := ⟨_, rfl⟩
  simp only [hz] at c
  rw [hz]
  clear hb1 hb2 hz
  go_enter Try.func81, Try.ntmps81
  go_upto_region 1 with fail
  go_quiet ((go_at_call 96; exact c _))
  go_wp2
  go_ret
  rw [HW.out]
  exact ⟨rfl, nq, _, rfl⟩

end Go.Proofs.Ytdlnniciccpchaa

namespace Go.Proofs.Ytdlnniciccpchaa
open Go Go.RowKit Go.Pan Go.Shelf

instance : Inhabited TwS := ⟨⟨[], by simp⟩⟩

theorem flatT_length (ss : List TwS) : (flatT ss).length = ss.length * 9 := by
  induction ss with
  | nil => rfl
  | cons x ss ih =>
    have e : flatT (x :: ss) = twl x.1 ++ flatT ss := rfl
    rw [e, List.length_append, twl_length x.1 x.2, ih, List.length_cons]
    omega
theorem flatT_get : ∀ (ss : List TwS) (i c : Nat) (hi : i < ss.length), c < 9 → (flatT ss)[i * 9 + c]? = (twl (ss[i]).1)[c]?
  | x :: ss, 0, c, _, hc => by
    have e : flatT (x :: ss) = twl x.1 ++ flatT ss := rfl
    have hl := twl_length x.1 x.2
    rw [e, List.getElem?_append_left (by omega)]
    simp
  | x :: ss, i + 1, c, hi, hc => by
    have e : flatT (x :: ss) = twl x.1 ++ flatT ss := rfl
    have hl := twl_length x.1 x.2
    have hi' : i < ss.length := by simpa using hi
    rw [e, List.getElem?_append_right (by omega), hl, show (i + 1) * 9 + c - 9 = i * 9 + c by omega, flatT_get ss i c hi' hc]
    simp

/-- how a tower lies in a row -/
def encT (x : TwS) : List Value := twl x.1
theorem encT_length (x : TwS) : (encT x).length = 9 := twl_length x.1 x.2
theorem holds_of_row {w : World} {base g cap : Nat} {ss : List TwS} (h : w.ownsRow base 52 9 (.slice (some ⟨g, 0, none⟩) ss.length cap) ss.length (flatT ss)) :
    Sort.HoldsK encT 9 w g 0 ss.toArray ∧ g < w.heap.size ∧ base ≤ g := by
  rcases h.2 with ⟨h0, _⟩ | ⟨g', cap', cur, he, hb, hg, hn, hm, hsz, ht⟩
  · cases h0
  · simp only [Value.slice.injEq, Option.some.injEq, Addr.mk.injEq, and_true, true_and] at he
    obtain ⟨rfl, rfl⟩ := he
    refine ⟨fun j hj => ?_, (Array.getElem?_eq_some_iff.1 hg).1, hb⟩
    have hj' : j < ss.length * 9 := by simpa using hj
    have hi : j / 9 < ss.length := by omega
    have hc : j % 9 < 9 := by omega
    have e1 : (flatT ss)[j]? = (twl (ss[j / 9]).1)[j % 9]? := by rw [← flatT_get ss (j / 9) (j % 9) hi hc]; congr 1; omega
    have hl := twl_length (ss[j / 9]).1 (ss[j / 9]).2
    have e2 : cur[j]? = some ((twl (ss[j / 9]).1)[j % 9]'(by omega)) := by
      rw [← List.getElem?_eq_getElem, ← e1, ← ht, List.getElem?_take, if_pos hj', Array.getElem?_toList]
    constructor
    · rw [Sort.get_flatK _ _ _ _ (by simpa using hj')]
      have e3 : ss.toArray[j / 9]! = ss[j / 9] := by simp [hi]
      rw [e3]
      unfold encT
      simp only [World.cell?, hg, Nat.zero_add]
      simp [e2, id, hl, hc]
    · simp [World.frozen?, hg]
theorem grownBy_sortK (w : World) (blk off n : Nat) (d' : Array TwS) (os : Array Obj) : w.grownBy (sortWorldK encT 9 w blk off n d' os) (some blk) := by
  refine ⟨rfl, rfl, rfl, ?_, fun j hj hne => ?_⟩
  · unfold sortWorldK
    rw [Sort.size_grow, Sort.size_putRowK]
    exact Nat.le_add_right _ _
  · unfold sortWorldK
    have h1 : j < (Sort.putRowK encT 9 (Sort.ahead w n) blk off d').heap.size := by rw [Sort.size_putRowK]; exact hj
    rw [Sort.heap_grow_old _ _ h1]
    show (w.heap.modify blk _)[j]? = _
    rw [Array.getElem?_modify, if_neg (fun e => hne (by rw [e]))]
theorem ltT (x y : TwS) : ltOf (fun x y : TwS => cmpL (pad9 x.1) (pad9 y.1)) x y = ltL (pad9 x.1) (pad9 y.1) := rfl
theorem swoT : Sort.SWO (ltOf fun x y : TwS => cmpL (pad9 x.1) (pad9 y.1)) where
  irrefl _ := ltL_irrefl _
  trans _ _ _ h1 h2 := ltL_trans _ _ _ h1 h2
  ntrans _ _ _ h1 h2 := ltL_ntrans _ _ _ h1 h2
/-- sorted towers -/
def SortT (ts : List TwS) : Prop := ts.Pairwise fun x y => ltL (pad9 y.1) (pad9 x.1) = false

set_option maxHeartbeats 1000000 in
set_option maxRecDepth 100000 in
theorem sortTowers_any (w : World) (base g cap : Nat) (ss : List TwS) (hl : ss.length ≤ 1000000) (hrow : w.ownsRow base 52 9 (.slice (some ⟨g, 0, none⟩) ss.length cap) ss.length (flatT ss)) :
    Calls Try.prog 94 #[.slice (some ⟨g, 0, none⟩) ss.length cap, .func (.func 81) #[] #[]] w fun e w' => e = .returned (.tuple #[]) ∧
      ∃ ts : List TwS, ts.Perm ss ∧ SortT ts ∧ (∀ (i : Nat) (hi : i < ts.length), w'.rangeAt g (i * 9) (twl (ts[i]).1)) ∧ w.grownBy w' (some g) := by
  obtain ⟨hH, hg, _⟩ := holds_of_row hrow
  have eg : ∀ args w, (callFunc 81 args).run Try.prog w = .ok (.enter 81 args) w := enters_of Try.func81 (by kernel_rfl) rfl
  have hcmp : CmpLays Try.prog 81 #[] encT 9 (fun x y : TwS => cmpL (pad9 x.1) (pad9 y.1)) g 0 ss.toArray.size w := fun m os dk _ x y => compareTowers_any x.1 y.1 x.2 y.2 _
  have hcon := AnyQ.slices_SortFunc sortT 9 Try.isAgg52 Try.sizeOf52 encT encT_length (fun x v hv => twl_one x.1 v hv) (fun x y => cmpL (pad9 x.1) (pad9 y.1)) swoT 81 #[] g 0 cap ss.toArray w eg hcmp hH hg (by simp; omega)
  change Calls Try.prog 94 _ _ _ at hcon
  refine hcon.mono ?_
  rintro e w' ⟨rfl, d', n, os, hp, hs, rfl⟩
  have hsz : d'.size = ss.length := by simpa using hp.1
  refine ⟨rfl, d'.toList, ?_, ?_, fun i hi => ?_, grownBy_sortK w g 0 n d' os⟩
  · have h1 := hp.2.2
    have e1 : d'.extract 0 ss.toArray.size = d' := by
      have : ss.toArray.size = d'.size := by simp [hsz]
      rw [this]
      simp
    have e2 : ss.toArray.extract 0 ss.toArray.size = ss.toArray := by simp
    rw [e1, e2] at h1
    simpa using h1
  · refine List.pairwise_iff_getElem.2 fun i j hi hj hij => ?_
    have hi' : i < d'.size := by simpa using hi
    have hj' : j < d'.size := by simpa using hj
    have h1 := hs i j (Nat.zero_le _) hij (by simp; omega)
    rw [ltT, getElem!_pos d' i hi', getElem!_pos d' j hj'] at h1
    simpa using h1
  · have hi' : i < d'.size := by simpa using hi
    have h2 : Sort.HoldsK encT 9 (sortWorldK encT 9 w g 0 n d' os) g 0 d' := holdsK_sortWorldK_c encT 9 w g 0 ss.toArray d' n os hH hg (by simp [hsz])
    intro c v hv
    have hc : c < 9 := by have := (List.getElem?_eq_some_iff.1 hv).1; rw [twl_length _ (d'.toList[i]).2] at this; exact this
    have h3 := (h2.cell hi' hc).1
    rw [Nat.zero_add, getElem!_pos d' i hi'] at h3
    rw [h3]
    have h4 : (encT d'[i])[c]? = some v := by simpa [encT] using hv
    have hcl : c < (encT d'[i]).length := by rw [encT_length]; exact hc
    rw [List.getElem?_eq_getElem hcl] at h4
    rw [getElem!_pos _ c hcl]
    exact h4

theorem Keys.perm {n : Gm} {c : LC} {ss ts : List TwS} (h : Keys n c ss) (hp : ts.Perm ss) : Keys n c ts :=
  ⟨(hp.map _).nodup_iff.2 h.1, fun q => by rw [(hp.map _).mem_iff]; exact h.2 q⟩
theorem Keys.sorted {n : Gm} (hn : GOk n) {c : LC} {ts : List TwS} (h : Keys n c ts) (hs : SortT ts) : (ts.map (·.1)).Pairwise fun x y => ltL x y = true := by
  rw [List.pairwise_map]
  have h1 : ts.Pairwise fun x y => x.1 ≠ y.1 := List.pairwise_map.1 h.1
  refine (List.Pairwise.and hs h1).imp_of_mem fun {x y} hx hy hxy => ?_
  have hlx := hn.length _ ((h.2 x.1).1 (List.mem_map.2 ⟨x, hx, rfl⟩)).1
  have hly := hn.length _ ((h.2 y.1).1 (List.mem_map.2 ⟨y, hy, rfl⟩)).1
  have hl : x.1.length = y.1.length := by omega
  have h2 := hxy.1
  rw [ltL_pad9 hl.symm] at h2
  cases h3 : ltL x.1 y.1 with
  | true => rfl
  | false => exact absurd (ltL_total _ _ hl h3 h2) hxy.2

set_option maxHeartbeats 1000000 in
set_option maxRecDepth 100000 in
theorem sortedKeys_any (n : Gm) (Bm b : Nat) (c : LC) (w : World) (hn : Hid (GOk n)) (hBm : Bm < w.heap.size) (hm : w.cell? ⟨Bm, 0, none⟩ = some (.map (some b))) (hl : Ly n w b c) (hne : ∃ q, n.St q ∧ 0 < c q) :
    Calls Try.prog 79 #[.func (.func 95) #[] #[.pointer (some ⟨Bm, 0, none⟩)], .func (.func 81) #[] #[]] w fun e w' => ∃ (g cap : Nat) (ts : List TwS),
      e = .returned (.slice (some ⟨g, 0, none⟩) ts.length cap) ∧ Keys n c ts ∧ SortT ts ∧ (∀ (i : Nat) (hi : i < ts.length), w'.rangeAt g (i * 9) (twl (ts[i]).1)) ∧ w.heap.size ≤ g ∧ g < w'.heap.size ∧ Below w.heap.size w w' := by
  have c1 := collectKeys_any n Bm b c w hn hBm hm hl
  have HNE := Lib.hid hne
  clear hm hl hne
  go_enter Try.func79, Try.ntmps79
  go_wp2_with fail
  refine c1.mono ?_
  rintro e w1 ⟨v, ss, rfl, hK, hrow, hnil, hb1⟩
  clear c1
  have hss : ss ≠ [] := by
    rintro rfl
    obtain ⟨q, h1, h2⟩ := HNE.out
    have := (hK.2 q).2 ⟨h1, h2⟩
    simp at this
  have hlen : ss.length ≤ 1000000 := by have h1 := hK.few hn.out; have h2 := hn.out.total; omega
  obtain ⟨g, cap, rfl⟩ : ∃ g cap, v = .slice (some ⟨g, 0, none⟩) ss.length cap := by
    rcases hrow.2 with ⟨h0, _⟩ | ⟨g', cap', cur, he, _⟩
    · exact absurd (hnil.1 h0) hss
    · exact ⟨g', cap', he⟩
  obtain ⟨_, hgl, hgb⟩ := holds_of_row hrow
  have HK := Lib.hid hK
  have HS := Lib.hid hss
  have c2 := sortTowers_any w1 _ g cap ss hlen hrow
  clear hK hrow hnil hss
  go_wp2_with fail
  refine c2.mono ?_
  rintro e w2 ⟨rfl, ts, hp, hs, hr, hg2⟩
  clear c2
  have HL := Lib.hid (show ts.length = ss.length from hp.length_eq)
  have HKT := Lib.hid (HK.out.perm hp)
  have HST := Lib.hid hs
  have HR := Lib.hid hr
  have hb2 := hb1.grown hg2 hb1.size (by intro k hk; cases hk; exact hgb)
  have hgl2 := Nat.lt_of_lt_of_le hgl hg2.size
  clear hp hs hr hg2
  go_wp2
  go_ret
  exact ⟨g, cap, ts, by rw [HL.out]; rfl, HKT.out, HST.out, HR.out, hgb, hgl2, hb2⟩

theorem range_grown {w w' : World} {g o : Nat} {cs : List Value} {row : Option Nat} (h : w.rangeAt g o cs) (hg : w.grownBy w' row) (hl : g < w.heap.size) (hne : row ≠ some g) : w'.rangeAt g o cs := fun j v hv => by
  have e : w'.heap[g]? = w.heap[g]? := hg.block g hl (fun e => hne e.symm)
  have := h j v hv
  simpa [World.cell?, e] using this

set_option maxHeartbeats 4000000 in
set_option maxRecDepth 100000 in
theorem listsR_any (g cap : Nat) (L : List (List Int)) (n : Nat) (w : World) (hR : Hid (∀ k (hk : k < L.length), w.rangeAt g (k * 9) (twl (L[k])))) (hgw : g < w.heap.size) (hL : Hid (∀ q ∈ L, q.length = n ∧ n ≤ 9)) (hm : L.length ≤ 1048576) :
    Calls Try.prog 78 #[.slice (some ⟨g, 0, none⟩) L.length cap, .int .i64 n] w fun e w' => ∃ r hs, e = .returned r ∧ SS w' w.heap.size w'.heap.size r hs L ∧ Below w.heap.size w w' := by
  obtain ⟨i0, hi, hz0, hz1, hz2⟩ := info_parts Try.info22
  obtain ⟨m, hml⟩ : ∃ m, L.length = m := ⟨_, rfl⟩
  have HML := Lib.hid hml
  rw [hml] at hm
  rw [hml]
  clear hml
  go_enter Try.func78, Try.ntmps78
  go_wp2_with (at_make; refine wpList_make_full _ rfl _ _ 36 rfl w.heap.size 24 i0 nilS 1 Try.underlying36 hi hz0 hz1 _ _ _ _ m rfl rfl rfl rfl ?b1 ?b2 ?b3 ?_)
  case b1 => rw [hz2]; omega
  case b2 => unfold maxLen; omega
  case b3 => exact Nat.le_refl _
  intro w1 hown hgr
  have hb1 : Below w.heap.size w w1 := (Below.refl _ _).grown hgr (Nat.le_refl _) (by intro k hk; cases hk)
  have hbl : Blk w1 w.heap.size 24 ([] ++ List.replicate (m - 0) nilS) := by
    have := (Blk.of_row hown).1
    simpa [toList_madeCells_one] using this
  have hl1 := hbl.lt
  have HS0 := Lib.hid (show SS w1 w.heap.size w1.heap.size (.slice (some ⟨w.heap.size, 0, none⟩) 0 m) [] (L.take 0) from ⟨rfl, (Go.Pan.Own.of_row (ownsRow_of_blk (n := 0) (cap := m) (hs := []) hbl (Nat.le_refl _) rfl (Nat.zero_le _) (by unfold maxLen; omega) (by simp) rfl)).1, fun g hg => by simp [Value.ownBlock] at hg; omega, fun i u xs hu => by simp at hu, fun i j u u' _ hu => by simp at hu⟩)
  clear hi hz0 hz1 hz2 hown hgr
  go_wp2
  go_loopw [6, 7, 13] (fun _ _ i wr => ∃ (k : Nat) (hs : List Value), k ≤ m ∧ i = .int .i64 k ∧ hs.length = k ∧ Hid (SS wr w.heap.size wr.heap.size (.slice (some ⟨w.heap.size, 0, none⟩) k m) hs (L.take k)) ∧ Blk wr w.heap.size 24 (hs ++ List.replicate (m - k) nilS) ∧ Below w.heap.size w wr) (fun _ _ i _ => m - (intOf i).toNat)
  case atStart => exact ⟨0, [], Nat.zero_le _, rfl, rfl, HS0, hbl, hb1⟩
  case round =>
    obtain ⟨k, hs, hk, rfl, hhl, hS, hB, hbr⟩ := hrel
    clear HS0 hbl hb1
    by_cases hlt : k < m
    · have hlt' : (k : Int) < m := by omega
      have hkl : k < L.length := by rw [HML.out]; exact hlt
      have hmem := List.getElem_mem hkl
      have hq := hL.out _ hmem
      have hTK := List.take_succ_eq_append_getElem hkl
      have h9all : ∀ q ∈ L, q.length ≤ 9 := fun q hq => by have := hL.out q hq; omega
      have hra := And.intro (hR.out k hkl) hgw
      obtain ⟨q, hqe⟩ : ∃ q, L[k] = q := ⟨_, rfl⟩
      rw [hqe] at hra hq hTK
      have h9q : q.length ≤ 9 := by omega
      have HTK := Lib.hid hTK
      have h9t := twl_length _ h9q
      have hgl := hra.2
      have hrr : wr.rangeAt g (k * 9) (twl q) := range_below hra.1 hbr hgl
      have hsz : (Try.prog.info? 52).map (·.size) = some (twl q).length := by rw [Try.infoT, h9t]
      have hzero : Blk (wr.alloc (.cells (twl []).toArray 52)) wr.heap.size 52 (twl []) := Blk.new _ _ (twl []) _ rfl
      have cl := list_any q n
      have CL := Lib.hid (fun w => cl w hq.1 hq.2)
      have HHL := Lib.hid hhl
      have hsr := hbr.size
      have hlB := hB.lt
      clear cl hqe hmem hkl h9all hTK hra hq h9t hhl
      go_wp2_with (first | (refine wpList_load_mid rfl 52 _ rfl g (k * 9) rfl (twl q) _ hrr Try.underlying52 rfl hsz ?_) | (refine wpList_store_tower rfl _ _ rfl wr.heap.size [] q (by simp) h9q rfl rfl hzero ?_; intro w4 hbT4 hgr4; have hz4 := hbT4.lt) | (refine wpList_load_tower rfl _ rfl wr.heap.size q h9q rfl (by assumption) ?_))
      refine (CL.out w4).mono ?_
      rintro e w7 ⟨r7, rfl, ho7, hf7, hb7⟩
      obtain ⟨a7, c7, rfl, _, _, _⟩ := ho7.shape
      have hz4' := hgr4.size
      have hz7 := hb7.size
      have hzr : wr.heap.size < w4.heap.size := hz4
      have hB7 : Blk w7 w.heap.size 24 (hs ++ List.replicate (m - k) nilS) := ((hB.alloc _).grown hgr4 (by intro h; have := Option.some.inj h; omega)).below hb7 (by omega)
      have hbr4 := (hbr.alloc hsr (.cells (twl []).toArray 52)).grown hgr4 (by simp; omega) (by intro b hb; cases hb; exact hsr)
      have hbr7 := hbr4.trans (hb7.mono hbr4.size)
      have hHL := HHL.out
      have hset : (hs ++ List.replicate (m - k) nilS).set k (.slice a7 q.length c7) = (hs ++ [.slice a7 q.length c7]) ++ List.replicate (m - (k + 1)) nilS := by
        rw [List.set_append_right _ _ (by omega), hHL, Nat.sub_self, show m - k = (m - (k + 1)) + 1 by omega, List.replicate_succ, List.set_cons_zero, List.append_assoc]
        rfl
      have hB8 := hB7.set k (.slice a7 q.length c7)
      rw [hset] at hB8
      have hc7 := hB7.cell k
      rw [List.getElem?_append_right (by omega), hHL, Nat.sub_self, List.getElem?_replicate, if_pos (by omega)] at hc7
      have hf7' := hB7.frozen k
      have HI7 := Lib.hid (show In wr.heap.size w7.heap.size (.slice a7 q.length c7) from fun g hg => ⟨by have := hf7 g hg; omega, ho7.lt g hg⟩)
      have hgs : w7.grownBy (w7.setCell ⟨w.heap.size, k, none⟩ (.slice a7 q.length c7)) (some w.heap.size) := grownBy_setCell w7 w.heap.size k _
      have HS7 : SS w7 w.heap.size wr.heap.size (.slice (some ⟨w.heap.size, 0, none⟩) k m) hs (L.take k) := ((hS.out.below (below_new wr (.cells (twl []).toArray 52)) (Nat.le_refl _)).grown hgr4 (by simp) (by intro g hg; cases hg; right; exact Nat.le_refl _)).below hb7 (by omega)
      have hrow : (w7.setCell ⟨w.heap.size, k, none⟩ (.slice a7 q.length c7)).ownsRow w.heap.size 24 1 (.slice (some ⟨w.heap.size, 0, none⟩) (hs.length + 1) m) (hs.length + 1) (hs ++ [.slice a7 q.length c7]) :=
        ownsRow_of_blk hB8 (Nat.le_refl _) (by simp) (by omega) (by unfold maxLen; omega) (by simp; omega) (by rw [List.take_left' (by simp)])
      have hS8 := SS.app HS7 (by omega) ho7 HI7.out hrow hgs (.inl rfl) (by simp [World.setCell]; omega) (by omega)
      rw [← HTK.out, hHL] at hS8
      have HS8 := Lib.hid hS8
      have hbr8 := hbr7.setCell (p := ⟨w.heap.size, k, none⟩) (Nat.le_refl _) (.slice a7 q.length c7)
      have HL8 := Lib.hid (show (hs ++ [Value.slice a7 q.length c7]).length = k + 1 by simp [hHL])
      clear hS hB hgr4 hB7 hbr4 hbr7 hHL hset HI7 hgs HS7 hrow hS8 ho7 hf7 hb7 hbr hbT4 hrr hzero
      go_wp2
      go_roundw
      case rel => exact ⟨k + 1, _, by omega, by go_num, HL8.out, HS8, hB8, hbr8⟩
      case measure => simp [intOf] <;> omega
    · obtain rfl : k = m := by omega
      have HT := Lib.hid (show L.take k = L by rw [← HML.out]; exact List.take_length)
      have HF := Lib.hid (show SS wr w.heap.size wr.heap.size (.slice (some ⟨w.heap.size, 0, none⟩) k k) hs L by rw [← HT.out]; exact hS.out)
      clear hS hB
      go_wp2
      go_ret
      first | exact ⟨_, _, rfl, HF.out, hbr⟩ | exact ⟨_, rfl, ⟨_, HF.out⟩, hbr⟩

set_option maxHeartbeats 3200000 in
set_option maxRecDepth 100000 in
/-- the stacks of a layer in order -/
theorem stacks_any (n : Gm) (b : Nat) (c : LC) (m : Nat) (w : World) (hn : Hid (GOk n)) (hl : Ly n w b c) (hne : ∃ q, n.St q ∧ 0 < c q) (hm : Hid (n.len = m)) (h9 : m ≤ 9) :
    Calls Try.prog 52 #[.map (some b), .int .i64 m] w fun e w' => ∃ r hs L, e = .returned r ∧ SS w' w.heap.size w'.heap.size r hs L ∧ L.Pairwise (fun x y => ltL x y = true) ∧ (∀ q, q ∈ L ↔ n.St q ∧ 0 < c q) ∧ Below w.heap.size w w' := by
  have HLY := Lib.hid hl
  have HNE := Lib.hid hne
  clear hl hne
  go_enter Try.func52, Try.ntmps52
  go_wp2_with fail
  refine (mapsKeys_any b w).mono ?_
  rintro e w2 ⟨rfl, hw2⟩
  have hb12 : Below w.heap.size w w2 := by rw [hw2]; exact below_new w _
  have hz2 : w2.heap.size = w.heap.size + 1 := by rw [hw2]; simp
  have hBm : w.heap.size < w2.heap.size := by omega
  have hcm : w2.cell? ⟨w.heap.size, 0, none⟩ = some (.map (some b)) := by rw [hw2]; exact (Boxed.new w _ (.map (some b))).cell
  have hl2 := HLY.out.below hb12 (Nat.le_refl _)
  clear hw2
  go_wp2_with fail
  refine (sortedKeys_any n w.heap.size b c w2 hn hBm hcm hl2 HNE.out).mono ?_
  rintro e w3 ⟨g, cap, ts, rfl, hK, hST, hR, hgB, hgl, hb23⟩
  have hb13 := hb12.trans (hb23.mono hb12.size)
  have HK := Lib.hid hK
  have HSD := Lib.hid (hK.sorted hn.out hST)
  have htl : ts.length ≤ 1000000 := by have h1 := hK.few hn.out; have h2 := hn.out.total; omega
  obtain ⟨L, hLe⟩ : ∃ L, ts.map (·.1) = L := ⟨_, rfl⟩
  have hLl : ts.length = L.length := by rw [← hLe, List.length_map]
  have HQ := Lib.hid (show ∀ q ∈ L, q.length = m ∧ m ≤ 9 from fun q hq => ⟨by
    rw [← hm.out]
    rw [← hLe] at hq
    exact hn.out.length _ ((hK.2 q).1 hq).1, h9⟩)
  have HR := Lib.hid (show ∀ k (hk : k < L.length), w3.rangeAt g (k * 9) (twl (L[k])) from fun k hk => by
    have h := hR k (by rw [hLl]; exact hk)
    have e : (ts[k]'(by rw [hLl]; exact hk)).1 = L[k] := by subst hLe; simp
    rw [e] at h
    exact h)
  have HLE := Lib.hid hLe
  rw [hLl] at htl ⊢
  clear hb12 hb23 hcm hl2 hK hST hR hBm hLe hLl
  go_wp2_with fail
  refine (listsR_any g cap L m w3 HR hgl HQ (by omega)).mono ?_
  rintro e w4 ⟨r, hs, rfl, hS, hb4⟩
  have HS := Lib.hid (hS.mono hb13.size (Nat.le_refl _))
  have hB := hb13.trans (hb4.mono hb13.size)
  clear hS
  go_wp2
  go_ret
  exact ⟨r, hs, L, rfl, HS.out, by rw [← HLE.out]; exact HSD.out, fun q => by rw [← HLE.out]; exact HK.out.2 q, hB⟩

end Go.Proofs.Ytdlnniciccpchaa

namespace Go.Pan
theorem ltL_app (bs a b : List Int) : ltL (bs ++ a) (bs ++ b) = ltL a b := by
  induction bs with
  | nil => rfl
  | cons x bs ih => rw [List.cons_append, List.cons_append, ltL_cons, ih]; simp
/-- all stacks stand in order -/
theorem permsL_sorted (n : Nat) : ∀ (f : Nat) (bs : List Int), (permsL n f bs).Pairwise fun x y => ltL x y = true
  | 0, _ => by simp [permsL]
  | f + 1, bs => by
    rw [permsL, List.pairwise_flatMap]
    refine ⟨fun x _ => permsL_sorted n f _, (freeL_rising n bs).imp_of_mem fun {a b} _ _ hab x hx y hy => ?_⟩
    obtain ⟨s, rfl, _⟩ := permsL_mem hx
    obtain ⟨t, rfl, _⟩ := permsL_mem hy
    rw [List.append_assoc, List.append_assoc, ltL_app, List.singleton_append, List.singleton_append, ltL_cons]
    simp [hab]
theorem allS_sorted (n : Nat) : (allS n).Pairwise fun x y => ltL x y = true := permsL_sorted n n []
theorem allS_un (m : Nat) : allS m = (List.range (fact m)).map (unrank m) := by
  apply List.ext_getElem (by simp [allS_length])
  intro i h1 h2
  have hi : i < fact m := by simpa using h2
  have h := unrank_get hi
  rw [List.getElem?_eq_getElem h1] at h
  simpa using Option.some.inj h
/-- rows and how many numbers they have -/
theorem pre_le {xss : List (List Int)} {c k : Nat} (h1 : xss.length ≤ c) (h2 : ∀ xs ∈ xss, xs.length ≤ k) : pre xss xss.length ≤ c * k := by
  unfold pre
  rw [List.take_length]
  have h := sum_le xss List.length k h2
  exact Nat.le_trans h (Nat.mul_le_mul_right k h1)
/-- the greatest distance -/
def peccN (m : Nat) : Nat := gecc (pG m) (ramp 1 m)
/-- the stacks that are so far -/
def worstS (m : Nat) : List (List Int) := (allS m).filter fun q => decide (far m (ramp 1 m) q = peccN m)
theorem worstS_sorted (m : Nat) : (worstS m).Pairwise fun x y => ltL x y = true := (allS_sorted m).filter _
theorem mem_worstS {m : Nat} (hm : Cnt m) (h7 : m ≤ 7) {q : List Int} : q ∈ worstS m ↔ (pG m).St q ∧ 0 < gnearC (pG m) (ramp 1 m) (peccN m) q := by
  have hO := pG_ok hm h7
  unfold worstS
  rw [List.mem_filter, mem_allS hm.pos hm.le]
  constructor
  · rintro ⟨h1, h2⟩
    exact ⟨h1, (gnearC_pos hO hm.home h1).2 (by rw [pfar]; exact of_decide_eq_true h2)⟩
  · rintro ⟨h1, h2⟩
    have h3 := (gnearC_pos hO hm.home h1).1 h2
    rw [pfar] at h3
    exact ⟨h1, decide_eq_true h3⟩
theorem worstS_len {m : Nat} (h7 : m ≤ 7) : (worstS m).length ≤ 5040 := by
  have h1 : (worstS m).length ≤ (allS m).length := List.length_filter_le _ _
  rw [allS_length] at h1
  have h2 := fact_mono h7
  have h3 : fact 7 = 5040 := rfl
  omega
theorem worstS_rows {m : Nat} (hm : Cnt m) : ∀ xs ∈ worstS m, xs.length ≤ 9 := fun xs hx => by
  have h1 := (mem_allS hm.pos hm.le).1 (List.mem_filter.1 hx).1
  have := h1.2
  have := hm.le
  omega
/-- among the first i ranks -/
def maxTo (d : Nat → Nat) (i : Nat) : Nat := gmaxN ((List.range i).map d)
theorem maxTo_zero (d : Nat → Nat) : maxTo d 0 = 0 := rfl
theorem maxTo_succ (d : Nat → Nat) (i : Nat) : maxTo d (i + 1) = max (maxTo d i) (d i) := by
  unfold maxTo
  rw [List.range_succ, List.map_append]
  exact gmaxN_snoc _ _
theorem maxTo_le {d : Nat → Nat} {i M : Nat} (h : ∀ r, r < i → d r ≤ M) : maxTo d i ≤ M := by
  induction i with
  | zero => exact Nat.zero_le _
  | succ i ih =>
    rw [maxTo_succ]
    exact Nat.max_le.2 ⟨ih fun r hr => h r (by omega), h i (by omega)⟩
def pickTo (d : Nat → Nat) (u : Nat → List Int) (E i : Nat) : List (List Int) := ((List.range i).filter fun r => decide (d r = E)).map u
theorem pickTo_yes {d : Nat → Nat} {u : Nat → List Int} {E i : Nat} (h : d i = E) : pickTo d u E (i + 1) = pickTo d u E i ++ [u i] := by
  unfold pickTo
  rw [List.range_succ, List.filter_append]
  simp [h]
theorem pickTo_no {d : Nat → Nat} {u : Nat → List Int} {E i : Nat} (h : d i ≠ E) : pickTo d u E (i + 1) = pickTo d u E i := by
  unfold pickTo
  rw [List.range_succ, List.filter_append]
  simp [h]
theorem pickTo_length (d : Nat → Nat) (u : Nat → List Int) (E i : Nat) : (pickTo d u E i).length ≤ i := by
  unfold pickTo
  rw [List.length_map]
  have := List.length_filter_le (fun r => decide (d r = E)) (List.range i)
  simpa using this
theorem pmax_all (m : Nat) : maxTo (dS m) (fact m) = peccN m := by
  unfold maxTo peccN gecc
  show _ = gmaxN ((allS m).map (gfar (pG m) (ramp 1 m)))
  rw [allS_un, List.map_map]
  congr 1
  exact List.map_congr_left fun r _ => (pfar m _ _).symm
theorem ppick_all (m : Nat) : pickTo (dS m) (unrank m) (peccN m) (fact m) = worstS m := by
  unfold pickTo worstS
  rw [allS_un, List.filter_map]
  rfl
def mWorstStacks (n : Int) : List (List Int) := if inB n 1 7 = true then worstS n.toNat else []
theorem inB_seven {n : Int} (h : inB n 1 7 = true) : ∃ m : Nat, n = (m : Int) ∧ Cnt m ∧ m ≤ 7 := by
  have := inB_iff.1 h
  exact ⟨n.toNat, by omega, ⟨by omega, by omega⟩, by omega⟩
theorem len_mWorstStacks (n : Int) : (mWorstStacks n).length ≤ 1048576 := by
  unfold mWorstStacks
  split
  · rename_i h
    obtain ⟨m, rfl, hm, h7⟩ := inB_seven h
    have := worstS_len h7
    rw [Int.toNat_natCast]; omega
  · simp
theorem rows_mWorstStacks (n : Int) : ∀ xs ∈ mWorstStacks n, xs.length ≤ 1048576 := by
  unfold mWorstStacks
  split
  · rename_i h
    obtain ⟨m, rfl, hm, h7⟩ := inB_seven h
    intro xs hx
    rw [Int.toNat_natCast] at hx
    have := worstS_rows hm xs hx
    omega
  · intro xs hx; cases hx
theorem tot_mWorstStacks (n : Int) : pre (mWorstStacks n) (mWorstStacks n).length ≤ 1048576 := by
  unfold mWorstStacks
  split
  · rename_i h
    obtain ⟨m, rfl, hm, h7⟩ := inB_seven h
    rw [Int.toNat_natCast]
    have := pre_le (worstS_len h7) (worstS_rows hm)
    omega
  · simp [pre]

end Go.Pan
