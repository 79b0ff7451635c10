import Derived.Test.YtmlikchhkblohaaF8
import Derived.Test.YtmlikchhkblohaaU8
import Derived.Test.YtmlikchhkblohaaU19
import Derived.Test.YtmlikchhkblohaaTwB
namespace Go.Pan
open Go Go.RowKit
theorem Blk.turnedF {w w' : World} {g B : Nat} {ty : TypeId} {cs : List Value} {row : Option Nat} (h : Blk w g ty cs) (hg : w.grownBy w' row) (hr : ∀ r, row = some r → B ≤ r ∧ ∃ o : Obj, w.heap[r]? = some o ∧ o.isCells = false) : Blk w' g ty cs := by
  unfold Blk at h ⊢
  refine (hg.block g (Array.getElem?_eq_some_iff.1 h).1 (fun e => ?_)).trans h
  obtain ⟨_, o, ho, hc⟩ := hr g e.symm
  rw [h] at ho
  cases ho
  cases hc
theorem Own.turnedF {w w' : World} {sz n B : Nat} {v : Value} {cs : List Value} {row : Option Nat} (h : Go.Pan.Own w sz v n cs) (hg : w.grownBy w' row) (hr : ∀ r, row = some r → B ≤ r ∧ ∃ o : Obj, w.heap[r]? = some o ∧ o.isCells = false) : Go.Pan.Own w' sz v n cs := by
  refine h.grown hg fun g hv e => ?_
  obtain ⟨_, o, ho, hc⟩ := hr g e
  obtain ⟨ad, cap, rfl, _, _, _, _, hk⟩ := h
  cases ad with
  | none => simp [Value.ownBlock] at hv
  | some a =>
    simp [Value.ownBlock] at hv
    obtain ⟨_, cur, ty, hh, _⟩ := hk a rfl
    rw [hv, ho] at hh
    cases hh
    cases hc
theorem towF_vals : ∀ (L : List (List Int)), (∀ q ∈ L, q.length ≤ 9) → (towL L).map (·.1) = L
  | [], _ => rfl
  | q :: L, h => by
    have h1 := towF_vals L (fun r hr => h r (List.mem_cons_of_mem _ hr))
    have h2 := mkU_val (h q (List.mem_cons_self ..))
    simp only [towL, List.map_cons, List.map_map] at h1 ⊢
    rw [h2]
    congr 1
def mapU (pre : List TwU) : List (List Int) := pre.map (·.1)
theorem mapU_snoc (pre : List TwU) (x : TwU) : mapU (pre ++ [x]) = mapU pre ++ [x.1] := by simp [mapU]
/-- the homes' block -/
def FtH (h : Nat) (A : World) (g : Nat) : Prop := ∃ n c, A.cell? ⟨h, 0, none⟩ = some (.slice (some ⟨g, 0, none⟩) n c)
/-- stepLevels' cells -/
def HmI (h D : Nat) (w : World) (pre : List TwU) (W : World) : Prop := ∃ r, Blk W h 79 [r] ∧ W.ownsRow (D + 2) 86 9 r pre.length (tws (mapU pre)) ∧ Below h w W ∧ ∀ x ∈ pre, homeB x.1 = true
theorem FtH.keep {h D : Nat} (hh : h < D) : ∀ A A' g, Below D A A' → FtH h A' g → FtH h A g := fun A A' g hb ⟨n, c, e⟩ => by
  have e2 : A'.cell? ⟨h, 0, none⟩ = A.cell? ⟨h, 0, none⟩ := by simp [World.cell?, hb.block h hh]
  exact ⟨n, c, e2 ▸ e⟩
theorem HmI.at {h D : Nat} {w W : World} {pre : List TwU} {g : Nat} (H : HmI h D w pre W) (hf : FtH h W g) : D + 2 ≤ g ∧ g < W.heap.size := by
  obtain ⟨r, hb, hr, _, _⟩ := H
  obtain ⟨n, c, e⟩ := hf
  have hc := hb.cell 0
  simp only [List.getElem?_cons_zero] at hc
  rw [e] at hc
  cases hc
  rcases hr.2 with ⟨h, _⟩ | ⟨g', cap, cur, hv, h1, h2, _⟩
  · cases h
  · simp only [Value.slice.injEq, Option.some.injEq, Addr.mk.injEq] at hv
    obtain ⟨⟨rfl, _⟩, _⟩ := hv
    exact ⟨h1, (Array.getElem?_eq_some_iff.1 h2).1⟩
theorem HmI.kept {h D : Nat} {w W W' : World} {pre : List TwU} (H : HmI h D w pre W) (hh : h < D) (hp : PS (FtH h) D W W') : HmI h D w pre W' := by
  obtain ⟨r, hb, hr, hw, hx⟩ := H
  refine ⟨r, hb.below hp.1 hh, ⟨hr.1, ?_⟩, hw.trans (hp.1.mono (by omega)), hx⟩
  rcases hr.2 with hn | ⟨g, cap, cur, rfl, h1, h2, rest⟩
  · exact .inl hn
  · have hl := (Array.getElem?_eq_some_iff.1 h2).1
    have hc := hb.cell 0
    simp only [List.getElem?_cons_zero] at hc
    exact .inr ⟨g, cap, cur, rfl, h1, (hp.2 g hl ⟨_, _, hc⟩).trans h2, rest⟩
theorem HmI.turned {h D B : Nat} {w W W' : World} {pre : List TwU} {row : Option Nat} (H : HmI h D w pre W) (hg : W.grownBy W' row) (hB : h ≤ B) (hr : ∀ r, row = some r → B ≤ r ∧ ∃ o : Obj, W.heap[r]? = some o ∧ o.isCells = false) : HmI h D w pre W' := by
  obtain ⟨r, hb, ho, hw, hx⟩ := H
  refine ⟨r, hb.turnedF hg hr, ho.kept hg ?_, hw.grown hg (by have := hw.size; have := hb.lt; omega) (fun k e => Nat.le_trans hB (hr k e).1), hx⟩
  rcases ho.2 with ⟨rfl, _⟩ | ⟨g, cap, cur, rfl, h1, h2, _⟩
  · exact .inl rfl
  · refine .inr fun e => ?_
    obtain ⟨_, o, ho2, hc⟩ := hr g e.symm
    rw [h2] at ho2
    cases ho2
    cases hc
/-- .. behind the stack that is not home -/
def HmX (h D : Nat) (w : World) (c : Code) (pre : List TwU) (W : World) : Prop := c = .exit 0 ∧ ∃ (p : List TwU) (x : TwU), pre = p ++ [x] ∧ homeB x.1 = false ∧ HmI h D w p W

end Go.Pan

namespace Go.Proofs.Ytmlikchhkblohaa
open Go Go.RowKit Go.Pan Go.Shelf

attribute [local go_sem] Oper.semAt_some

theorem callsIn_roundF {l n : Nat} {P : Program} {f : FuncId} {args : Array Value} {w : World} {R : Ending → World → Prop} (h : Calls P f args w R) : CallsIn (Fence.wide.inRound l) n P f args w R := (callsIn_wide (n := n)).2 h
theorem wpListIn_build_tower {F : Fence} {n : Nat} {ops : Array Oper} {rest : List Oper} {o : Oper} {a : Act} {w : World} {Q : Exit → Act → World → Prop}
    (hg : o.guard = none) (x : Operand) (hop : o.op = Op.buildSlice 79 1 #[(0, x)]) (cs : List Value) (h9 : cs.length = 9) (hx : a.eval x = .agg cs.toArray)
    (h : wpListIn F n Try.prog ops Q rest (a.put o.dst (.slice (some ⟨w.heap.size, 0, none⟩) 1 1)) (w.alloc (.cells cs.toArray 86))) :
    wpListIn F n Try.prog ops Q (o :: rest) a w := by
  refine wpListIn_plain hg fun K hK => ?_
  have hrun := run_build_tower w cs h9
  unfold Oper.wpIn
  refine ⟨by simp [Oper.about, hop], ?_⟩
  rw [Oper.semAt_plain F _ _ (by rw [hop]; intro c hc; cases hc)]
  simp [execOp, hop, hx, hrun, Result.andThen]
  exact hK _ _ h
theorem LvOk_turned {w w' : World} {B d : Nat} {v : Value} {hs : List Value} {L : List (List Int)} {row : Option Nat} (h : LvOk w v hs L d) (hg : w.grownBy w' row) (hr : ∀ r, row = some r → B ≤ r ∧ ∃ o : Obj, w.heap[r]? = some o ∧ o.isCells = false) : LvOk w' v hs L d :=
  ⟨h.len, h.own.turnedF hg hr, fun i u hu => ⟨(h.row i u hu).1.turnedF hg hr, (h.row i u hu).2⟩⟩
theorem split_home {P : List Int → Bool} : ∀ (p A : List (List Int)) (x : List Int) (r B : List (List Int)), p ++ x :: r = A ++ B → (∀ q ∈ p, P q = true) → P x = false → (∀ q ∈ A, P q = true) → (∀ q ∈ B, P q = false) → p = A
  | [], [], _, _, _, _, _, _, _, _ => rfl
  | [], a :: A, x, r, B, e, _, hx, hA, _ => by
    simp only [List.nil_append, List.cons_append, List.cons.injEq] at e
    have := hA a (List.mem_cons_self ..)
    rw [← e.1, hx] at this
    cases this
  | q :: p, [], x, r, B, e, hp, _, _, hB => by
    simp only [List.nil_append, List.cons_append] at e
    have h1 := hp q (List.mem_cons_self ..)
    have h2 := hB q (by rw [← e]; exact List.mem_cons_self ..)
    rw [h1] at h2
    cases h2
  | q :: p, a :: A, x, r, B, e, hp, hx, hA, hB => by
    simp only [List.cons_append, List.cons.injEq] at e
    rw [e.1, split_home p A x r B e.2 (fun z hz => hp z (List.mem_cons_of_mem _ hz)) hx (fun z hz => hA z (List.mem_cons_of_mem _ hz)) hB]

theorem areAnyF_any (a b : Int) (w : World) :
    Calls Try.prog 153 #[.int .i64 a, .int .i64 b] w fun e w' => e = .returned (.bool (anyMay a b)) ∧ w = w' := by
  go_enter Try.func153, Try.ntmps153
  go_wp2
  go_ret
  exact ⟨rfl, rfl⟩
theorem anyF_calls : Hid (∀ (a b : Int) (u : World), -1048576 ≤ a → a ≤ 1048576 → -1048576 ≤ b → b ≤ 1048576 → Calls Try.prog 153 #[.int .i64 a, .int .i64 b] u fun e w' => e = .returned (.bool (anyMay a b)) ∧ u = w') :=
  Lib.hid fun a b u _ _ _ _ => areAnyF_any a b u

set_option maxRecDepth 100000 in
set_option maxHeartbeats 8000000 in
theorem stepLevels_any (m : Nat) (w : World) (h1 : 1 ≤ m) (h8 : m ≤ 8) :
    Calls Try.prog 99 #[.int .i64 m] w fun e w' => ∃ r hs, e = .returned (.tuple #[r, .bool true]) ∧ LvOk w' r hs (homesL m) (levF 60 (homesL m)) ∧ Below w.heap.size w w' := by
  have h9 : m ≤ 9 := by omega
  have HG := Lib.hid (show ∀ q ∈ allL m, Pan.Good q ∧ q.length = m from fun q hq => allL_good h1 h9 hq)
  have HGH := Lib.hid (show GoodAll m (homesL m) ∧ (homesL m).Nodup from ⟨homes_good h1 h9, homes_nodup⟩)
  have HAH := Lib.hid (allL_homes h1)
  have hq1 : ¬ ((m : Int) < 1) := by omega
  have hq8 : ¬ ((8 : Int) < (m : Int)) := by omega
  clear h1 h8
  refine callsIn_wide.1 (callsIn_of_wp_marks (F := Fence.wide) (n := 9) Try.func99 rfl trivial ?_ rfl)
  simp only [Try.ntmps99, List.size_toArray, List.length_cons, List.length_nil, Nat.reduceAdd, Nat.reduceSub, Array.replicate_succ, Array.replicate_zero, List.push_toArray, List.append_toArray, List.nil_append, List.cons_append]
  have hbw : Below w.heap.size w (w.alloc (.cells #[.slice none 0 0] 79)) := (Below.refl _ w).alloc (Nat.le_refl _) _
  have hbx : Blk (w.alloc (.cells #[.slice none 0 0] 79)) w.heap.size 79 [.slice none 0 0] := Blk.new w 79 [.slice none 0 0] _ rfl
  gi_wp2_with fail
  refine ⟨trivial, (callsIn_wide.2 (towersOf_any (m : Int) 153 _)).mono ?_⟩
  rintro e w2 ⟨rfl, hc1, hc2, hsz, hb2⟩
  simp only [World.size_alloc] at hc1 hc2 hsz hb2
  have hI2 : HmI w.heap.size w2.heap.size w [] w2 := ⟨_, hbx.below hb2 (by omega), World.ownsRow_nil _ _ _ _, hbw.trans (hb2.mono (by omega)), fun x hx => by cases hx⟩
  have hseq := towers_foot 153 anyMay m h9 (enters_of Try.func153 (by kernel_rfl) rfl) anyF_calls (w.heap.size + 1) (w.heap.size + 1 + 1) w2 (by omega) (by omega) hc1 hc2
  clear hc1 hc2 hbx hbw hb2
  gi_wp2_with fail
  refine wpIn_rangeFunc_foot rfl (by omega) (gf := 182) rfl trivial (enters_of Try.func182 (by kernel_rfl) rfl) hseq (Below.refl _ _) (fun _ => rfl)
    (HmI w.heap.size w2.heap.size w) (HmX w.heap.size w2.heap.size w) (FtH w.heap.size) (FtH.keep (by omega)) (fun s A g hI hf => hI.at hf) (fun s A A' hI hp => hI.kept (by omega) hp)
    (fun c s X Y row hs hg hr => by obtain ⟨h1, p, x, h2, h3, h4⟩ := hs; exact ⟨h1, p, x, h2, h3, h4.turned hg (by omega) hr⟩) hI2
    (fun x a' W => ∃ g, Blk W g 86 (twl x.1) ∧ a' = { tmps := #[.int .i64 m, undef, .slice none 0 0, .bool false, .pointer (some ⟨w.heap.size, 0, none⟩), .pointer (some ⟨g, 0, none⟩), .int .i64 m, .bool false, .bool false, .int .i64 m, .bool false, .bool false, .int .i64 m, .func (.func 182) #[] #[.pointer (some ⟨w.heap.size + 1, 0, none⟩), .pointer (some ⟨w.heap.size + 1 + 1, 0, none⟩)], tw x.1, undef, undef, undef, undef, undef, undef, undef, undef, undef], defers := [] })
    (fun x a' _ X Y row hs hg hr => by obtain ⟨g, h2, h3⟩ := hs; exact ⟨g, h2.turnedF hg hr, h3⟩) ?assign ?body ?done ?stop
  case assign =>
    rintro l pre x W K hI hK
    have hzero : Blk (W.alloc (.cells (twl []).toArray 86)) W.heap.size 86 (twl []) := Blk.new _ _ (twl []) _ rfl
    clear hI hseq hI2
    gi_wp2_with (refine wpListIn_store_tow rfl _ _ rfl W.heap.size [] x.1 (by simp) x.2 rfl rfl hzero ?_; intro w3 hbT3 hgr3)
    have hg13 : W.grownBy w3 none := by
      obtain ⟨a1, a2, a3, a4, a5⟩ := hgr3
      exact ⟨a1, a2, a3, by simp at a4; omega, fun k hk _ => (a5 k (by simp; omega) (by simp; omega)).trans (Below.heap_alloc W _ k hk)⟩
    exact hK _ _ hg13 ⟨W.heap.size, hbT3, rfl⟩
  case body =>
    rintro l pre x r0 a' W hl hI ⟨g, hbg, rfl⟩ hlt hlen
    have hhD : w.heap.size < w2.heap.size := by omega
    clear hsz
    have hPL : pre.length ≤ 387420489 := by
      have h1 := congrArg List.length hlen
      rw [List.length_append, List.length_cons] at h1
      have h2 : (towL (growL anyMay m m [])).length = (growL anyMay m m []).length := by simp [towL]
      have h3 := Nat.le_trans (growL_length anyMay m h9 m []) (pow9_le m h9)
      omega
    clear hlen hseq hI2
    have cH := isHome_any x.1 W x.2
    cases hh : homeB x.1 with
    | false =>
      rw [hh] at cH
      have HH := Lib.hid hh
      clear hh
      gi_wp2_with (refine wpListIn_load_tow rfl _ rfl g x.1 x.2 rfl hbg ?_)
      refine ⟨trivial, (callsIn_roundF cH).mono ?_⟩
      rintro e w4 ⟨rfl, hb4⟩
      have kf4 := KeepsFrom.of_grownBy (B := w2.heap.size) (show W.grownBy w4 none from ⟨hb4.os, hb4.tape, hb4.output, hb4.size, fun k hk _ => hb4.block k hk⟩) (fun j e => by cases e)
      have hI4 := hI.kept (by omega) (PS.below (Ft := FtH w.heap.size) (B := w2.heap.size) hb4 (by omega))
      clear cH hb4 hI hbg
      gi_wp2
      exact ⟨kf4, rfl, pre, x, rfl, HH.out, hI4⟩
    | true =>
      rw [hh] at cH
      have HH := Lib.hid hh
      have HT9 := Lib.hid (twl_length x.1 x.2)
      obtain ⟨i0, hi, hz0, hz1, hz2⟩ := info_parts infoTw
      have HI := Lib.hid hi
      have HZ0 := Lib.hid hz0
      have HZ1 := Lib.hid hz1
      have HZ2 := Lib.hid hz2
      clear hh hi hz0 hz1 hz2
      gi_wp2_with (refine wpListIn_load_tow rfl _ rfl g x.1 x.2 rfl hbg ?_)
      refine ⟨trivial, (callsIn_roundF cH).mono ?_⟩
      rintro e w4 ⟨rfl, hb4⟩
      have kf4 := KeepsFrom.of_grownBy (B := w2.heap.size) (show W.grownBy w4 none from ⟨hb4.os, hb4.tape, hb4.output, hb4.size, fun k hk _ => hb4.block k hk⟩) (fun j e => by cases e)
      have hU4 := UpF.below (Ft := FtH w.heap.size) (B := w2.heap.size + 2) (FtH.keep (by omega)) hb4 (Nat.le_refl _) (by omega)
      obtain ⟨r, hbr, hrow, hww, hxx⟩ := hI.kept (by omega) (PS.below (Ft := FtH w.heap.size) (B := w2.heap.size) hb4 (by omega))
      have hcr := hbr.cell 0
      simp only [List.getElem?_cons_zero] at hcr
      have hbg4 := hbg.below hb4 hbg.lt
      have hsz4 := hb4.size
      have hlr := hbr.lt
      clear cH hb4 hI hbg
      gi_wp2_with (first
        | (refine wpListIn_load_tow rfl _ rfl g x.1 x.2 rfl hbg4 ?_)
        | (refine wpListIn_build_tower rfl _ rfl (twl x.1) HT9.out rfl ?_)
        | (refine wpListIn_append_own_at _ rfl _ _ 79 rfl (w2.heap.size + 2) 86 i0 _ 9 72 Try.underlying79 HI.out HZ0.out HZ1.out HZ2.out rfl (by omega) r pre.length (tws (mapU pre)) rfl (hrow.alloc _) ⟨w4.heap.size, 0, none⟩ 1 1 (twl x.1) rfl (by rw [HT9.out]) (World.news_of_block (heap_alloc_new _ _)) (twl_one _) (by unfold maxLen; omega) (by omega) (by simp; omega) ?_))
      intro v6 w6 hown6 hgr6 _ hat6
      obtain ⟨g6, c6, rfl, hg6, hl6⟩ := hown6.form (by omega)
      have hz6 := hgr6.size
      have hz5 : (w4.alloc (.cells (twl x.1).toArray 86)).heap.size = w4.heap.size + 1 := by simp
      have hrow5 := hrow.alloc (.cells (twl x.1).toArray 86)
      have hbr5 := hbr.alloc (.cells (twl x.1).toArray 86)
      obtain ⟨w5, hw5⟩ : ∃ w5, w4.alloc (.cells (twl x.1).toArray 86) = w5 := ⟨_, rfl⟩
      rw [hw5] at hgr6 hz6 hz5 hrow5 hbr5
      have hrb : ∀ k, r.ownBlock = some k → w2.heap.size + 2 ≤ k ∧ FtH w.heap.size w5 k ∧ ∃ cur ty fr, w5.heap[k]? = some (.cells cur ty fr) := fun k hk => by
        rcases hrow5.2 with ⟨h, _⟩ | ⟨g', cap, cur, hv, h1, h2, _⟩
        · rw [h] at hk; simp [Value.ownBlock] at hk
        · rw [hv] at hk
          simp only [Value.ownBlock, Option.some.injEq] at hk
          subst hk
          have hc := hbr5.cell 0
          simp only [List.getElem?_cons_zero] at hc
          exact ⟨h1, ⟨_, _, by rw [hc, hv]⟩, _, _, _, h2⟩
      have hb5 : Below w4.heap.size w4 w5 := by rw [← hw5]; exact below_new w4 _
      have kf5 : KeepsFrom w2.heap.size w4 w5 := KeepsFrom.of_grownBy (show w4.grownBy w5 none from ⟨hb5.os, hb5.tape, hb5.output, hb5.size, fun k hk _ => hb5.block k hk⟩) (fun j e => by cases e)
      have kf6 : KeepsFrom w2.heap.size w5 w6 := ⟨hgr6.size, fun k o hk ho hc => (hgr6.block k (Array.getElem?_eq_some_iff.1 ho).1 (fun e => by
        obtain ⟨_, _, cur, ty, fr, h⟩ := hrb k e.symm
        rw [h] at ho
        cases ho
        cases hc)).trans ho⟩
      have g7 := grownBy_setCell w6 w.heap.size 0 (.slice (some ⟨g6, 0, none⟩) (pre.length + 1) c6)
      have kf7 := KeepsFrom.of_grownBy (B := w2.heap.size) g7 (fun j e => by cases e; omega)
      have hbr6 : Blk w6 w.heap.size 79 [r] := hbr5.grown hgr6 (fun e => by have := (hrb _ e).1; omega)
      have hbr7 : Blk (w6.setCell ⟨w.heap.size, 0, none⟩ (.slice (some ⟨g6, 0, none⟩) (pre.length + 1) c6)) w.heap.size 79 [.slice (some ⟨g6, 0, none⟩) (pre.length + 1) c6] := by simpa using hbr6.set 0 (.slice (some ⟨g6, 0, none⟩) (pre.length + 1) c6)
      have hU7 : UpF (FtH w.heap.size) (w2.heap.size + 2) w5 (w6.setCell ⟨w.heap.size, 0, none⟩ (.slice (some ⟨g6, 0, none⟩) (pre.length + 1) c6)) := ⟨by rw [show (w6.setCell ⟨w.heap.size, 0, none⟩ (.slice (some ⟨g6, 0, none⟩) (pre.length + 1) c6)).heap.size = w6.heap.size by simp [World.setCell]]; exact hz6, fun k h1 h2 h3 => by
        have hne : ¬ r.ownBlock = some k := fun e => h3 (hrb k e).2.1
        refine ⟨(heap_setCell_other w6 ⟨w.heap.size, 0, none⟩ k _ (by simp; omega)).trans (hgr6.block k h2 (fun e => hne e.symm)), fun hf => ?_⟩
        obtain ⟨n', c', e⟩ := hf
        have hc := hbr7.cell 0
        simp only [List.getElem?_cons_zero] at hc
        rw [hc] at e
        simp only [Option.some.injEq, Value.slice.injEq, Addr.mk.injEq] at e
        obtain ⟨⟨rfl, _⟩, _⟩ := e
        simp only [Value.ownBlock, Option.some.injEq] at hat6
        rcases hat6 with h | h
        · exact hne h.symm
        · omega⟩
      have hU5 := UpF.below (Ft := FtH w.heap.size) (B := w2.heap.size + 2) (FtH.keep (by omega)) hb5 (Nat.le_refl _) (by omega)
      have hB7 := ((hww.trans (hb5.mono (by omega))).grown hgr6 (by omega) (fun k e => by have := (hrb k e).1; omega)).setCell (p := ⟨w.heap.size, 0, none⟩) (Nat.le_refl _) (.slice (some ⟨g6, 0, none⟩) (pre.length + 1) c6)
      have hrow7 : (w6.setCell ⟨w.heap.size, 0, none⟩ (.slice (some ⟨g6, 0, none⟩) (pre.length + 1) c6)).ownsRow (w2.heap.size + 2) 86 9 (.slice (some ⟨g6, 0, none⟩) (pre.length + 1) c6) (pre ++ [x]).length (tws (mapU (pre ++ [x]))) := by
        rw [List.length_append, List.length_singleton, mapU_snoc, tws_append, tws_one]
        exact hown6.kept g7 (.inr (by simp [Value.ownBlock]; omega))
      have HI7 : HmI w.heap.size w2.heap.size w (pre ++ [x]) (w6.setCell ⟨w.heap.size, 0, none⟩ (.slice (some ⟨g6, 0, none⟩) (pre.length + 1) c6)) := ⟨_, hbr7, hrow7, hB7, fun y hy => by
        rcases List.mem_append.1 hy with h | h
        · exact hxx y h
        · rw [List.mem_singleton] at h; rw [h]; exact HH.out⟩
      have KF := Lib.hid (((kf4.trans kf5).trans kf6).trans kf7)
      have UF := Lib.hid ((hU4.trans hU5).trans hU7)
      have HI7 := Lib.hid HI7
      have hc6 := hbr6.cell 0
      simp only [List.getElem?_cons_zero] at hc6
      have hf6 := hbr6.frozen 0
      clear hrow hbr hww hxx hcr hbg4 hown6 hgr6 hat6 hrow5 hbr5 hrb hb5 kf4 kf5 kf6 kf7 g7 hbr6 hbr7 hU4 hU5 hU7 hB7 hrow7
      gi_wp2
      exact ⟨KF.out, UF.out, HI7.out⟩
  case done =>
    rintro D W hD ⟨r, hbr, hrow, hww, hxx⟩ hK
    obtain ⟨B, hB, hA1, hA2⟩ := HAH.out
    have hvals : mapU (towL (growL anyMay m m [])) = allL m := towF_vals _ (fun q hq => by have := (HG.out q hq).2; omega)
    have hBn : B = [] := by
      cases B with
      | nil => rfl
      | cons q B =>
        exfalso
        have hq : q ∈ mapU (towL (growL anyMay m m [])) := by rw [hvals, hB]; simp
        obtain ⟨x, hx, rfl⟩ := List.mem_map.1 hq
        exact hA2 _ (List.mem_cons_self ..) (of_decide_eq_true (hxx x hx))
    have hH : mapU (towL (growL anyMay m m [])) = homesL m := by rw [hvals, hB, hBn, List.append_nil]
    have hlen : (towL (growL anyMay m m [])).length = (homesL m).length := by rw [← hH]; simp [mapU]
    clear hBn
    have hown : Go.Pan.Own W 9 r (homesL m).length (tws (homesL m)) := by
      have := (Go.Pan.Own.of_row hrow).1
      rw [hH] at this
      rw [← hlen]
      exact this
    have HO := Lib.hid hown
    have hcr := hbr.cell 0
    simp only [List.getElem?_cons_zero] at hcr
    have hDlt : D < W.heap.size := (Array.getElem?_eq_some_iff.1 hK).1
    have hDw : w.heap.size ≤ D := by omega
    have hzw := hww.size
    clear hown hbr hrow hxx hseq hI2 hsz hvals hH hlen hB hA1 hA2
    gi_wp2_with fail
    refine ⟨trivial, (callsIn_wide.2 (levels_any r (homesL m) m W HO.out HGH)).mono ?_⟩
    rintro e w5 ⟨r5, hs5, rfl, hL5, hb5⟩
    have hK5 := (hb5.block D hDlt).trans hK
    have hBB := hww.trans (hb5.mono hzw)
    have HL5 := Lib.hid hL5
    have gp := fun o' => grownBy_putObj' w5 D o'
    have hrow : ∀ r, some D = some r → 0 ≤ r ∧ ∃ o : Obj, w5.heap[r]? = some o ∧ o.isCells = false := fun r e => by cases e; exact ⟨Nat.zero_le _, _, hK5, rfl⟩
    clear hL5 hb5 hww hcr HO
    gi_wp2
    refine ⟨by simp, .inl ⟨_, _, rfl, run_takeDeferred hK5, ?_⟩⟩
    exact ⟨_, results_tmp2 rfl _ _ _, r5, hs5, rfl, LvOk_turned HL5.out (gp _) hrow, hBB.trans (belowK_b (w := w) (Nat.le_refl _) w5 D _ _ hDw hK5 rfl rfl)⟩
  case stop =>
    rintro D c pre W hD ⟨r0, hr0⟩ ⟨rfl, p, x, rfl, hx, r, hbr, hrow, hww, hxx⟩ hK
    obtain ⟨B, hB, hA1, hA2⟩ := HAH.out
    have hvals : mapU (towL (growL anyMay m m [])) = allL m := towF_vals _ (fun q hq => by have := (HG.out q hq).2; omega)
    have hH : mapU p = homesL m := by
      refine split_home (P := homeB) (mapU p) (homesL m) x.1 (mapU r0) B ?_ (fun q hq => by obtain ⟨y, hy, rfl⟩ := List.mem_map.1 hq; exact hxx y hy) hx (fun q hq => decide_eq_true (hA1 q hq)) (fun q hq => decide_eq_false (hA2 q hq))
      rw [← hB, ← hvals, hr0]
      simp [mapU]
    have hlen : p.length = (homesL m).length := by rw [← hH]; simp [mapU]
    clear hr0 hx
    have hown : Go.Pan.Own W 9 r (homesL m).length (tws (homesL m)) := by
      have := (Go.Pan.Own.of_row hrow).1
      rw [hH] at this
      rw [← hlen]
      exact this
    have HO := Lib.hid hown
    have hcr := hbr.cell 0
    simp only [List.getElem?_cons_zero] at hcr
    have hDlt : D < W.heap.size := (Array.getElem?_eq_some_iff.1 hK).1
    have hDw : w.heap.size ≤ D := by omega
    have hzw := hww.size
    clear hown hbr hrow hxx hseq hI2 hsz hvals hH hlen hB hA1 hA2
    gi_wp2_with fail
    refine ⟨trivial, (callsIn_wide.2 (levels_any r (homesL m) m W HO.out HGH)).mono ?_⟩
    rintro e w5 ⟨r5, hs5, rfl, hL5, hb5⟩
    have hK5 := (hb5.block D hDlt).trans hK
    have hBB := hww.trans (hb5.mono hzw)
    have HL5 := Lib.hid hL5
    have gp := fun o' => grownBy_putObj' w5 D o'
    have hrow : ∀ r, some D = some r → 0 ≤ r ∧ ∃ o : Obj, w5.heap[r]? = some o ∧ o.isCells = false := fun r e => by cases e; exact ⟨Nat.zero_le _, _, hK5, rfl⟩
    clear hL5 hb5 hww hcr HO
    gi_wp2
    refine ⟨by simp, .inl ⟨_, _, rfl, run_takeDeferred hK5, ?_⟩⟩
    exact ⟨_, results_tmp2 rfl _ _ _, r5, hs5, rfl, LvOk_turned HL5.out (gp _) hrow, hBB.trans (belowK_b (w := w) (Nat.le_refl _) w5 D _ _ hDw hK5 rfl rfl)⟩

end Go.Proofs.Ytmlikchhkblohaa

