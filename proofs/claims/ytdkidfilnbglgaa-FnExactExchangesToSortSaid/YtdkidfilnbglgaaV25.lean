import Derived.Test.YtdkidfilnbglgaaQ7
import Derived.Test.YtdkidfilnbglgaaS15
namespace Go.Pan
open Go Go.RowKit
/-- the numbers before, as far as the first k of the stack tell them -/
def bforeTo (xs : List Int) (k : Nat) : List Int := (List.range (xs.length + 1)).map fun (y : Nat) => if xs.idxOf ((y : Int) + 1) < k then extD xs (xs.idxOf ((y : Int) + 1)) else 0
theorem bforeTo_length (xs : List Int) (k : Nat) : (bforeTo xs k).length = xs.length + 1 := by simp [bforeTo]
theorem bforeTo_zero (xs : List Int) : bforeTo xs 0 = List.replicate (xs.length + 1) 0 := by
  simp only [bforeTo, Nat.not_lt_zero, if_false]
  rw [List.map_const', List.length_range]
theorem bforeTo_set {xs : List Int} (hg : Good xs) {k p : Nat} (hp : p ≤ xs.length) (h : xs.idxOf ((p : Int) + 1) = k) : (bforeTo xs k).set p (extD xs k) = bforeTo xs (k + 1) := by
  apply List.ext_getElem (by simp [bforeTo])
  intro i h1 h2
  have hi : i < xs.length + 1 := by simpa [bforeTo] using h2
  simp only [bforeTo, List.getElem_set, List.getElem_map, List.getElem_range]
  by_cases e : p = i
  · subst e; rw [if_pos rfl, h, if_pos (by omega)]
  · rw [if_neg e]
    have hne : xs.idxOf ((i : Int) + 1) ≠ k := fun e2 => e (idx_inj hg hp (by omega) (by rw [h, e2]))
    by_cases h3 : xs.idxOf ((i : Int) + 1) < k
    · rw [if_pos h3, if_pos (by omega)]
    · rw [if_neg h3, if_neg (by omega)]
def bforeL (xs : List Int) : List Int := (List.range (xs.length + 1)).map fun (y : Nat) => ((bfN xs y : Nat) : Int)
theorem bforeL_length (xs : List Int) : (bforeL xs).length = xs.length + 1 := by simp [bforeL]
theorem bforeL_get {xs : List Int} {y : Nat} (h : y < xs.length + 1) : (bforeL xs)[y]? = some ((bfN xs y : Nat) : Int) := by simp [bforeL, h]
theorem bforeTo_all {xs : List Int} (hg : Good xs) : bforeTo xs (xs.length + 1) = bforeL xs := by
  unfold bforeTo bforeL
  refine List.map_congr_left fun y _ => ?_
  rw [if_pos (by have := idx_le xs ((y : Int) + 1); omega), bf_cast hg]
theorem extD_get {xs : List Int} {k : Nat} (h : k < xs.length) : extD xs (k + 1) = xs[k] := by
  unfold extD below
  rw [if_neg (by omega), Nat.add_sub_cancel, if_pos h, List.getD_eq_getElem?_getD, List.getElem?_eq_getElem h, Option.getD_some]
/-- which numbers are in a cycle, the j first of the cycle of x being told -/
def dnL (xs : List Int) (k j : Nat) : List Bool := (List.range (xs.length + 1)).map fun y => inSome (cycsTo (bfN xs) (xs.length + 1) k) y || decide (y ∈ cycTo (bfN xs) k j)
theorem dnL_length (xs : List Int) (k j : Nat) : (dnL xs k j).length = xs.length + 1 := by simp [dnL]
theorem dnL_get {xs : List Int} {k j y : Nat} (h : y < xs.length + 1) : (dnL xs k j)[y]? = some (inSome (cycsTo (bfN xs) (xs.length + 1) k) y || decide (y ∈ cycTo (bfN xs) k j)) := by simp [dnL, h]
theorem dnL_zero (xs : List Int) : dnL xs 0 0 = List.replicate (xs.length + 1) false := by
  have : dnL xs 0 0 = (List.range (xs.length + 1)).map fun _ => false := List.map_congr_left fun y _ => by simp [inSome, cycsTo, cycTo]
  rw [this, List.map_const', List.length_range]
theorem dnL_set (xs : List Int) (k j : Nat) : (dnL xs k j).set (itN (bfN xs) j k) true = dnL xs k (j + 1) := by
  apply List.ext_getElem (by simp [dnL])
  intro i h1 h2
  simp only [dnL, List.getElem_set, List.getElem_map, List.getElem_range, cycTo_succ]
  by_cases e : itN (bfN xs) j k = i
  · rw [if_pos e, e]; simp
  · rw [if_neg e]
    have e' : ¬ i = itN (bfN xs) j k := fun h => e h.symm
    simp [e']
theorem cycTo_zero (f : Nat → Nat) (x : Nat) : cycTo f x 0 = [] := rfl
section
variable {xs : List Int} (hg : Good xs) {k : Nat} (hk : k < xs.length + 1)
include hg hk
/-- what the search meets on the way -/
theorem dn_at {j : Nat} (hj : j ≤ per (bfN xs) (xs.length + 1) k) :
    (inSome (cycsTo (bfN xs) (xs.length + 1) k) (itN (bfN xs) j k) || decide (itN (bfN xs) j k ∈ cycTo (bfN xs) k j)) = (inSome (cycsTo (bfN xs) (xs.length + 1) k) k || decide (j = per (bfN xs) (xs.length + 1) k)) := by
  have hf := bf_onto hg
  rw [← inSome_rl hf (Nat.le_of_lt hk) hk ⟨j, rfl⟩]
  congr 1
  have hp := per_spec hf hk
  rw [decide_eq_decide]
  constructor
  · intro h
    apply Classical.byContradiction
    intro hne
    have hnd := cycTo_nodup hf hk (k := j + 1) (by omega)
    rw [cycTo_succ] at hnd
    exact (List.nodup_append.1 hnd).2.2 _ h _ (List.mem_singleton.2 rfl) rfl
  · intro e
    rw [e, hp.2.2.1]
    exact mem_cycTo.2 ⟨0, by omega, rfl⟩
theorem dn_old (h : inSome (cycsTo (bfN xs) (xs.length + 1) k) k = true) : dnL xs k 0 = dnL xs (k + 1) 0 := by
  have _ := hg
  have _ := hk
  unfold dnL
  rw [cycsTo_yes h]
  rfl
theorem dn_new (h : inSome (cycsTo (bfN xs) (xs.length + 1) k) k = false) : dnL xs k (per (bfN xs) (xs.length + 1) k) = dnL xs (k + 1) 0 := by
  have _ := hg
  have _ := hk
  unfold dnL
  refine List.map_congr_left fun y _ => ?_
  rw [cycsTo_no h, cycTo_zero]
  simp [inSome, cycL]
end
theorem castL_length (l : List Nat) : (castL l).length = l.length := by simp [castL]
end Go.Pan
namespace Go.Proofs.Ytdkidfilnbglgaa
open Go Go.RowKit Go.Pan

set_option maxRecDepth 100000 in
set_option maxHeartbeats 1600000 in
theorem bkBefore_any (v : Value) (xs : List Int) (w : World) (hv : OwnI w v xs) (hg : Hid (Pan.Good xs)) :
    Calls Try.prog 168 #[v] w fun e w' => ∃ g c, e = .returned (.slice (some ⟨g, 0, none⟩) (xs.length + 1) c) ∧ OwnI w' (.slice (some ⟨g, 0, none⟩) (xs.length + 1) c) (bforeL xs) ∧ w.heap.size ≤ g ∧ Below w.heap.size w w' := by
  obtain ⟨ad, cap, rfl, hc, _, _⟩ := hv.shape
  have h9 := hg.out.le9
  obtain ⟨i0, hif, hz0, hz1, hz2⟩ := info_parts Try.info3
  have HV := Lib.hid hv
  clear hv
  go_enter Try.func168, Try.ntmps168
  go_wp2_with (at_make; refine wpList_make_full _ rfl _ _ 22 rfl w.heap.size 3 i0 (.int .i64 0) 1 Try.underlying22 hif hz0 hz1 _ _ _ _ (xs.length + 1) rfl rfl rfl rfl ?b1 ?b2 ?b3 ?_)
  case b1 => rw [hz2]; omega
  case b2 => unfold maxLen; omega
  case b3 => exact Nat.le_refl _
  intro w1 hown hgr
  have ho0 : OwnI w1 (.slice (some ⟨w.heap.size, 0, none⟩) (xs.length + 1) (xs.length + 1)) (bforeTo xs 0) := by rw [bforeTo_zero]; exact OwnI.of_made hown
  have hb1 : Below w.heap.size w w1 := (Below.refl _ _).grown hgr (Nat.le_refl _) (by intro k hk; cases hk)
  clear hown hgr hif hz0 hz1 hz2
  go_wp2
  go_loopw [4, 6, 13] (fun v4 _ v13 wr => ∃ k : Nat, k ≤ xs.length ∧ v13 = .int .i64 k ∧ v4 = .int .i64 (extD xs k) ∧ OwnI wr (.slice (some ⟨w.heap.size, 0, none⟩) (xs.length + 1) (xs.length + 1)) (bforeTo xs k) ∧ Below w.heap.size w wr) (fun _ _ v13 _ => xs.length - (intOf v13).toNat)
  case atStart => exact ⟨0, Nat.zero_le _, rfl, rfl, ho0, hb1⟩
  case round =>
    obtain ⟨k, hk, rfl, rfl, ho, hbr⟩ := hrel
    clear ho0 hb1
    by_cases hlt : k < xs.length
    · obtain ⟨g, off, rfl, hgl, hcell, _⟩ := (HV.out.below hbr (Nat.le_refl _)).at (by omega)
      have hck := hcell k (by omega)
      rw [List.getElem?_map, List.getElem?_eq_getElem hlt] at hck
      have hbd := hg.out.2.2.1 _ (List.getElem_mem hlt)
      have hEX := Lib.hid (extD_get hlt)
      have hidx := idx_of hg.out hlt
      obtain ⟨p, hp⟩ : ∃ p : Nat, xs[k] = (p : Int) + 1 := ⟨(xs[k] - 1).toNat, by omega⟩
      rw [hp] at hck hEX hidx hbd
      have hpl : p < xs.length := by omega
      have hck' : wr.cell? ⟨g, off + k, none⟩ = some (.int .i64 ((p : Int) + 1)) := hck
      have hst := (OwnI.cellAt ho p (by rw [bforeTo_length]; omega)).2.2 (extD xs k)
      have hfz := (OwnI.cellAt ho p (by rw [bforeTo_length]; omega)).2.1
      have hcp := (OwnI.cellAt ho p (by rw [bforeTo_length]; omega)).1
      rw [bforeTo_set hg.out (by omega) hidx] at hst
      have HST := Lib.hid hst
      have hb2 := hbr.setCell (p := ⟨w.heap.size, p, none⟩) (Nat.le_refl _) (iv (extD xs k))
      have hw1 : IntKind.i64.wrap ((p : Int) + 1 - 1) = (p : Int) := by rw [Int.add_sub_cancel]; exact IntWalk.i64_in _ (by omega)
      have hw3 : (p : Int) < ((xs.length + 1 : Nat) : Int) := by omega
      have hkl : (k : Int) < xs.length := by omega
      obtain ⟨E, hE⟩ : ∃ E, extD xs k = E := ⟨_, rfl⟩
      rw [hE] at HST hb2 ⊢
      obtain ⟨old, hold⟩ : ∃ u, wr.cell? ⟨w.heap.size, p, none⟩ = some u := ⟨_, hcp⟩
      clear hcp
      clear hcell hck hst ho hbr hidx hp hbd hE
      go_wp2
      go_roundw
      case rel => exact ⟨k + 1, by omega, by go_num, by rw [hEX.out], HST.out, hb2⟩
      case measure => simp [intOf] <;> omega
    · obtain rfl : k = xs.length := by omega
      have hst := (OwnI.cellAt ho xs.length (by rw [bforeTo_length]; omega)).2.2 (extD xs xs.length)
      have hfz := (OwnI.cellAt ho xs.length (by rw [bforeTo_length]; omega)).2.1
      have hcp := (OwnI.cellAt ho xs.length (by rw [bforeTo_length]; omega)).1
      rw [bforeTo_set hg.out (Nat.le_refl _) (idx_last hg.out), bforeTo_all hg.out] at hst
      have HST := Lib.hid hst
      have hb2 := hbr.setCell (p := ⟨w.heap.size, xs.length, none⟩) (Nat.le_refl _) (iv (extD xs xs.length))
      have hw3 : (xs.length : Int) < ((xs.length + 1 : Nat) : Int) := by omega
      have hge : ¬ ((xs.length : Int) < (xs.length : Int)) := by omega
      obtain ⟨old, hold⟩ : ∃ u, wr.cell? ⟨w.heap.size, xs.length, none⟩ = some u := ⟨_, hcp⟩
      clear hst hcp ho
      go_wp2
      go_ret
      exact ⟨_, _, rfl, HST.out, Nat.le_refl _, hb2⟩

theorem gb_set {a w : World} {g : Nat} (h : a.grownBy w (some g)) (j : Nat) (u : Value) : a.grownBy (w.setCell ⟨g, j, none⟩ u) (some g) :=
  ⟨h.os, h.tape, h.output, by simpa using h.size, fun k hk hne => (heap_setCell_other w ⟨g, j, none⟩ k u (fun e => hne (by rw [e]))).trans (h.block k hk hne)⟩
theorem gb_below {a w w' : World} {g N : Nat} (h : a.grownBy w (some g)) (hb : Below N w w') (hN : a.heap.size ≤ N) : a.grownBy w' (some g) :=
  ⟨hb.os.trans h.os, hb.tape.trans h.tape, hb.output.trans h.output, Nat.le_trans h.size hb.size, fun k hk hne => (hb.block k (Nat.lt_of_lt_of_le hk hN)).trans (h.block k hk hne)⟩
theorem gb_alloc {a w : World} {g : Nat} (h : a.grownBy w (some g)) (ob : Obj) : a.grownBy (w.alloc ob) (some g) :=
  ⟨h.os, h.tape, h.output, Nat.le_trans h.size (by simp), fun k hk hne => (Below.heap_alloc w ob k (Nat.lt_of_lt_of_le hk h.size)).trans (h.block k hk hne)⟩
theorem Try.infoBo : (Try.prog.info? 4).map (fun i => (i.zero, i.size, i.bytes)) = some (some (.bool false), 1, 1) := by kernel_rfl

theorem SS.gb {w w' : World} {B : Nat} {v : Value} {hs : List Value} {xss : List (List Int)} {row : Option Nat} (h : SS w B w.heap.size v hs xss) (hg : w.grownBy w' row) (hne : ∀ g, row = some g → g < B) : SS w' B w'.heap.size v hs xss :=
  (h.grown hg (Nat.le_refl _) fun g e => .inl (hne g e)).mono (Nat.le_refl _) hg.size
/-- how far the search goes -/
def stopJ (xs : List Int) (k : Nat) : Nat := if inSome (cycsTo (bfN xs) (xs.length + 1) k) k = true then 0 else per (bfN xs) (xs.length + 1) k
theorem stopJ_at {xs : List Int} (hg : Pan.Good xs) {k j : Nat} (hk : k < xs.length + 1) (hj : j ≤ stopJ xs k) : (dnL xs k j)[itN (bfN xs) j k]? = some (decide (j = stopJ xs k)) := by
  have hf := bf_onto hg
  rw [dnL_get (hf.it hk j)]
  cases h : inSome (cycsTo (bfN xs) (xs.length + 1) k) k with
  | true =>
    have h0 : stopJ xs k = 0 := if_pos h
    obtain rfl : j = 0 := by omega
    rw [dn_at hg hk (Nat.zero_le _), h, h0]
    rfl
  | false =>
    have h0 : stopJ xs k = per (bfN xs) (xs.length + 1) k := if_neg (by rw [h]; exact Bool.false_ne_true)
    rw [dn_at hg hk (by omega), h, h0, Bool.false_or]
theorem stopJ_le {xs : List Int} (hg : Pan.Good xs) {k : Nat} (hk : k < xs.length + 1) : stopJ xs k ≤ 10 := by
  have := (per_spec (bf_onto hg) hk).2.1
  have := hg.le9
  unfold stopJ
  split <;> omega

def lenV : Value → Nat
  | .slice _ n _ => n
  | _ => 0

set_option maxRecDepth 100000 in
set_option maxHeartbeats 3200000 in
theorem bkCycles_any (v : Value) (xs : List Int) (w : World) (hv : OwnI w v xs) (hg : Hid (Pan.Good xs)) :
    Calls Try.prog 130 #[v] w fun e w' => ∃ r hs, e = .returned r ∧ SS w' w.heap.size w'.heap.size r hs (cyclesL xs) ∧ Below w.heap.size w w' := by
  obtain ⟨ad, cap, rfl, hc, _, _⟩ := hv.shape
  have h9 := hg.out.le9
  obtain ⟨i0, hif, hz0, hz1, hz2⟩ := info_parts Try.infoBo
  obtain ⟨i1, hi, hs0, hs1, hs2⟩ := info_parts Try.info22
  have HI := Lib.hid hi
  have HS0 := Lib.hid hs0
  have HS1 := Lib.hid hs1
  have HS2 := Lib.hid hs2
  clear hi hs0 hs1 hs2
  go_enter Try.func130, Try.ntmps130
  go_wp2_with fail
  refine (bkBefore_any _ xs _ hv hg).mono ?_
  rintro e w1 ⟨gB, cB, rfl, hB, hgB, hb1⟩
  have hs1 := hb1.size
  have hgl := hB.lt _ rfl
  clear hv
  go_wp2_with (at_make; refine wpList_make_full _ rfl _ _ 140 rfl w1.heap.size 4 i0 (.bool false) 1 Try.underlying140 hif hz0 hz1 _ _ _ _ (xs.length + 1) rfl rfl rfl rfl ?b1 ?b2 ?b3 ?_)
  case b1 => rw [hz2]; omega
  case b2 => unfold maxLen; omega
  case b3 => exact Nat.le_refl _
  intro w2 hown hgr
  obtain ⟨gD, hgD⟩ : ∃ x, w1.heap.size = x := ⟨_, rfl⟩
  have hD0 : Blk w2 gD 4 ((dnL xs 0 0).map Value.bool) := by
    have := (Blk.of_row hown).1
    rw [hgD] at this
    rw [dnL_zero, List.map_replicate]
    simpa [toList_madeCells_one] using this
  have hDl := hD0.lt
  have hB2 : OwnI w2 (.slice (some ⟨gB, 0, none⟩) (xs.length + 1) cB) (bforeL xs) := Own.grown hB hgr (fun g _ h => by cases h)
  have hb2 : Below w.heap.size w w2 := hb1.grown hgr hs1 (by intro k hk; cases hk)
  have hs12 := hgr.size
  have hgBD : gB < gD := by have : gB < w1.heap.size := hgl; omega
  have hwD : w.heap.size ≤ gD := by omega
  rw [hgD]
  clear hown hgr hif hz0 hz1 hz2 hB hb1 hgl hgD
  obtain ⟨N0, hN0⟩ : ∃ x, w2.heap.size = x := ⟨_, rfl⟩
  rw [hN0] at hDl
  go_wp2
  go_loopw [5, 6, 7, 8, 16] (fun v5 _ _ _ v16 wr => ∃ (k : Nat) (oa : Option Addr) (cp : Nat) (hs : List Value), k ≤ xs.length + 1 ∧ v16 = .int .i64 k ∧ v5 = .slice oa (cycsTo (bfN xs) (xs.length + 1) k).length cp ∧ hs.length = (cycsTo (bfN xs) (xs.length + 1) k).length ∧ SS wr N0 wr.heap.size v5 hs ((cycsTo (bfN xs) (xs.length + 1) k).map castL) ∧ wr.ownsRow N0 22 1 v5 (cycsTo (bfN xs) (xs.length + 1) k).length hs ∧ Blk wr gD 4 ((dnL xs k 0).map Value.bool) ∧ OwnI wr (.slice (some ⟨gB, 0, none⟩) (xs.length + 1) cB) (bforeL xs) ∧ Below w.heap.size w wr ∧ N0 ≤ wr.heap.size) (fun _ _ _ _ v16 _ => xs.length + 1 - (intOf v16).toNat)
  case atStart => exact ⟨0, none, 0, [], Nat.zero_le _, rfl, rfl, rfl, SS.nil _ _ _, World.ownsRow_nil _ _ _ _, hD0, hB2, hb2, by omega⟩
  case round =>
    obtain ⟨k, oa, cp, hs, hk, rfl, rfl, hhl, hS, hown, hD, hBf, hbr, hNr⟩ := hrel
    clear hD0 hB2 hb2
    by_cases hlt : k < xs.length + 1
    · have hlt' : (k : Int) < ((xs.length + 1 : Nat) : Int) := by omega
      have HAT := Lib.hid (fun j (hj : j ≤ stopJ xs k) => stopJ_at hg.out hlt hj)
      have HJ := stopJ_le hg.out hlt
      have HIT := Lib.hid (fun j => (bf_onto hg.out).it hlt j)
      obtain ⟨wo, hwo⟩ : ∃ x, wr = x := ⟨_, rfl⟩
      rw [hwo] at hS hown hD hBf hbr hNr ⊢
      clear hwo
      have HSS := Lib.hid hS
      have HOW := Lib.hid hown
      have HBF := Lib.hid hBf
      clear hS hown hBf
      go_wp2
      rw [show decide ((k : Int) < (xs.length : Int) + 1) = true from decide_eq_true (by omega)]
      go_loopw [7, 8] (fun v7 v8 wi => ∃ j : Nat, j ≤ stopJ xs k ∧ v8 = .int .i64 (itN (bfN xs) j k : Nat) ∧ OwnI wi v7 (castL (cycTo (bfN xs) k j)) ∧ From wo.heap.size v7 ∧ Blk wi gD 4 ((dnL xs k j).map Value.bool) ∧ wo.grownBy wi (some gD)) (fun v7 _ _ => stopJ xs k - lenV v7)
      case atStart => exact ⟨0, Nat.zero_le _, rfl, OwnI.nil _, From.nil _ _ _, hD, World.grownBy.refl _ _⟩
      case round =>
        obtain ⟨j, hj, rfl, ho, hf, hDi, hgr⟩ := hrel
        clear hD
        have hcd : wr.cell? ⟨gD, itN (bfN xs) j k, none⟩ = some (.bool (decide (j = stopJ xs k))) := (hDi.cell (itN (bfN xs) j k)).trans (by rw [List.getElem?_map, HAT.out j hj]; rfl)
        have hfz := hDi.frozen (itN (bfN xs) j k)
        have hxl := HIT.out j
        have hBi := Own.grown HBF.out hgr (fun g hg h => by simp [Value.ownBlock] at hg; simp at h; omega)
        obtain ⟨hcb, _, _⟩ := OwnI.cellAt hBi (itN (bfN xs) j k) (by rw [bforeL_length]; exact hxl)
        have hbg := bforeL_get hxl
        rw [List.getElem?_eq_getElem (by rw [bforeL_length]; exact hxl)] at hbg
        rw [Option.some.inj hbg] at hcb
        have hcb : wr.cell? ⟨gB, itN (bfN xs) j k, none⟩ = some (.int .i64 ((itN (bfN xs) (j + 1) k : Nat) : Int)) := hcb
        have HCS := Lib.hid (cycTo_succ (bfN xs) k j)
        have hDs := hDi.set (itN (bfN xs) j k) (.bool true)
        rw [← List.map_set (f := Value.bool) (a := true), dnL_set] at hDs
        have hgs := gb_set hgr (itN (bfN xs) j k) (.bool true)
        have hxl' : ((itN (bfN xs) j k : Nat) : Int) < ((xs.length + 1 : Nat) : Int) := by omega
        have hlC : (castL (cycTo (bfN xs) k j)).length = j := by rw [castL_length, cycTo_length]
        obtain ⟨x, hx⟩ : ∃ x, itN (bfN xs) j k = x := ⟨_, rfl⟩
        have HXE := Lib.hid (show bfN xs x = itN (bfN xs) (j + 1) k by rw [← hx]; rfl)
        obtain ⟨a7, c7, rfl, _, _, _⟩ := ho.shape
        have HOC := Lib.hid ho
        rw [hlC] at ho ⊢
        rw [hlC] at hf
        have hoD : (Value.slice oa (cycsTo (bfN xs) (xs.length + 1) k).length cp).ownBlock ≠ some gD := fun h => by have := HSS.out.inn gD h; omega
        have hoB : (Value.slice oa (cycsTo (bfN xs) (xs.length + 1) k).length cp).ownBlock ≠ some gB := fun h => by have := HSS.out.inn gB h; omega
        rw [hx] at hcd hfz hxl hcb hDs hgs hxl'
        rw [hx] at HCS
        rw [hx]
        clear hbg hx
        by_cases hjJ : j = stopJ xs k
        · rw [decide_eq_true hjJ] at hcd
          have hS1 := SS.gb HSS.out hgr (by intro g h; simp at h; omega)
          have hown1 := HOW.out.kept hgr (.inr hoD)
          have hbr1 : Below w.heap.size w wr := hbr.grown hgr hbr.size (by intro g h; simp at h; omega)
          cases hin : inSome (cycsTo (bfN xs) (xs.length + 1) k) k with
          | true =>
            have h0 : stopJ xs k = 0 := if_pos hin
            obtain rfl : j = 0 := by omega
            have hCY := cycsTo_yes hin
            rw [dn_old hg.out hlt hin] at hDi
            have HR := Lib.hid (show _ ∧ _ ∧ _ from ⟨hS1, hown1, hDi⟩)
            have HBI := Lib.hid hBi
            have hns := hgr.size
            clear hS1 hown1 hDi hDs hgs hBi HAT HIT hj hjJ h0 hin
            go_wp2
            go_roundw
            case rel => exact ⟨k + 1, oa, cp, hs, by omega, by go_num, by rw [hCY], by rw [hCY]; exact hhl, by rw [hCY]; exact HR.out.1, by rw [hCY]; exact HR.out.2.1, HR.out.2.2, HBI.out, hbr1, by omega⟩
            case measure => simp [intOf] <;> omega
          | false =>
            have h0 : stopJ xs k = per (bfN xs) (xs.length + 1) k := if_neg (by rw [hin]; exact Bool.false_ne_true)
            have hper := (per_spec (bf_onto hg.out) hlt).1
            have hCY := cycsTo_no hin
            have hjp : j = per (bfN xs) (xs.length + 1) k := by omega
            have HCYC := Lib.hid (show castL (cycTo (bfN xs) k j) = castL (cycL (bfN xs) (xs.length + 1) k) by rw [hjp]; rfl)
            have hDi2 := hDi
            rw [hjp, dn_new hg.out hlt hin] at hDi2
            have hns := hgr.size
            have hj1 : (0 : Int) < (j : Int) := by omega
            have HDI := Lib.hid hDi2
            have HBI := Lib.hid hBi
            have HI4 := Lib.hid (show In wo.heap.size (wr.heap.size + 1) (.slice a7 j c7) from fun g hg => ⟨hf g hg, Nat.lt_succ_of_lt (Own.lt ho g hg)⟩)
            have HS4 := Lib.hid ((HSS.out.grown hgr (Nat.le_refl _) (by intro g h; simp at h; omega)).below (below_new wr (.cells #[.slice a7 j c7] 22)) hns)
            have HO4 := Lib.hid (ho.alloc (.cells #[.slice a7 j c7] 22))
            have hcl10 : (cycsTo (bfN xs) (xs.length + 1) k).length ≤ 10 := by have := cycsTo_length (bf_onto hg.out) k; omega
            have HHL := Lib.hid hhl
            clear hDi hDi2 hDs hgs hBi HAT HIT hj hS1 hin hjp hper hjJ h0
            go_wp2_with (at_builtin; refine wpList_append_lies _ rfl _ _ 47 rfl N0 22 i1 _ 1 24 Try.underlying47 HI.out HS0.out HS1.out HS2.out rfl (by omega) (.slice oa (cycsTo (bfN xs) (xs.length + 1) k).length cp) (cycsTo (bfN xs) (xs.length + 1) k).length hs rfl (hown1.alloc _) _ 1 1 [.slice a7 j c7] rfl (by simp) (World.news_of_block (heap_alloc_new _ _)) (by simp [Value.oneCell']) (by omega) (by unfold maxLen; omega) (by omega) (by simp; omega) (wr.heap.size + 1) (by simp) ?_)
            intro g6 cap6 w6 hown6 hgr6 hat6 hlt6
            have hS6 := SS.app (cap := cap6) HS4.out (by simp; omega) HO4.out (by simpa using HI4.out) (by rw [HHL.out]; exact hown6) hgr6 (by simpa using hat6) hlt6 hNr
            have hCl : (cycsTo (bfN xs) (xs.length + 1) (k + 1)).length = (cycsTo (bfN xs) (xs.length + 1) k).length + 1 := by rw [hCY]; simp
            have hCm : (cycsTo (bfN xs) (xs.length + 1) (k + 1)).map castL = (cycsTo (bfN xs) (xs.length + 1) k).map castL ++ [castL (cycTo (bfN xs) k j)] := by rw [hCY, List.map_append, HCYC.out]; rfl
            rw [← hCm, HHL.out, ← hCl] at hS6
            rw [← hCl] at hown6
            have hB6 := (hbr1.alloc hbr1.size (.cells #[.slice a7 j c7] 22)).grown hgr6 (by simp; omega) (fun b hb => by have := (HSS.out.inn b hb).1; omega)
            have hD6 := (HDI.out.alloc (.cells #[.slice a7 j c7] 22)).grown hgr6 hoD
            have hBf6 := Own.grown (HBI.out.alloc (.cells #[.slice a7 j c7] 22)) hgr6 (fun g hg h => by simp [Value.ownBlock] at hg; subst hg; exact hoB h)
            have hsz6 := hgr6.size
            have HR6 := Lib.hid (show _ ∧ _ ∧ _ ∧ _ ∧ _ from ⟨hS6, hown6, hD6, hBf6, hB6⟩)
            have HL6 := Lib.hid (show (hs ++ [Value.slice a7 j c7]).length = (cycsTo (bfN xs) (xs.length + 1) (k + 1)).length by rw [List.length_append, HHL.out, hCl]; rfl)
            have HN6 := Lib.hid (show N0 ≤ w6.heap.size by simp at hsz6; omega)
            have HCL := Lib.hid hCl
            clear hS6 hown6 hD6 hBf6 hB6 hgr6 hat6 hCm hsz6 hown1 hCl
            go_wp2
            go_roundw
            case rel => exact ⟨k + 1, some ⟨g6, 0, none⟩, cap6, _, by omega, by go_num, by rw [HCL.out], HL6.out, by rw [← HCL.out]; exact HR6.out.1, by rw [← HCL.out]; exact HR6.out.2.1, HR6.out.2.2.1, HR6.out.2.2.2.1, HR6.out.2.2.2.2, HN6.out⟩
            case measure => simp [intOf] <;> omega
        · rw [decide_eq_false hjJ] at hcd
          have hgs2 := gb_alloc hgs (.cells #[.int .i64 (x : Nat)] 3)
          have hos := (Own.grown HOC.out (gb_set (World.grownBy.refl wr (some gD)) x (.bool true)) (fun g hg h => by have := hf g (by rw [← hlC]; exact hg); simp at h; omega)).alloc (.cells #[.int .i64 (x : Nat)] 3)
          have hsz : wo.heap.size ≤ (wr.setCell ⟨gD, x, none⟩ (.bool true)).heap.size := hgs.size
          have HDS := Lib.hid (hDs.alloc (.cells #[.int .i64 (x : Nat)] 3))
          have HGS := Lib.hid hgs2
          clear hDs hgs hgs2 hBi
          rw [hlC] at hos
          have HOS := Lib.hid (show OwnI ((wr.setCell ⟨gD, x, none⟩ (.bool true)).alloc (.cells #[.int .i64 (x : Nat)] 3)) (.slice a7 j c7) (castL (cycTo (bfN xs) k j)) from by unfold OwnI; rw [hlC]; exact hos)
          clear hos
          go_wp2_with (at_builtin; refine wpList_app1 Try.intSl rfl _ _ rfl _ (castL (cycTo (bfN xs) k j)) rfl HOS.out wo.heap.size hf wr.heap.size (x : Nat) rfl ?c1 _ (Below.refl _ _) ?c2 (by omega) ?_)
          case c1 => simp [go_sem]
          case c2 => have := hgr.size; simp; omega
          intro v3 w3 ho3 hf3 hb3 _
          have HD3 := Lib.hid (HDS.out.below hb3 (by omega))
          have HG3 := Lib.hid (gb_below HGS.out hb3 (Nat.le_refl _))
          have hB3 := Own.grown HBF.out HG3.out (fun g hg h => by simp [Value.ownBlock] at hg; simp at h; omega)
          obtain ⟨hcb3, _, _⟩ := OwnI.cellAt hB3 x (by rw [bforeL_length]; exact hxl)
          have hbg := bforeL_get hxl
          rw [List.getElem?_eq_getElem (by rw [bforeL_length]; exact hxl)] at hbg
          rw [Option.some.inj hbg, HXE.out] at hcb3
          replace hcb3 : w3.cell? ⟨gB, x, none⟩ = some (.int .i64 ((itN (bfN xs) (j + 1) k : Nat) : Int)) := hcb3
          have hC3 : castL (cycTo (bfN xs) k j) ++ [(x : Int)] = castL (cycTo (bfN xs) k (j + 1)) := by rw [HCS.out]; simp [castL]
          rw [hC3] at ho3
          obtain ⟨a3, c3, rfl, _, _, _⟩ := ho3.shape
          have hl3 : (castL (cycTo (bfN xs) k (j + 1))).length = j + 1 := by rw [castL_length, cycTo_length]
          have HO3 := Lib.hid ho3
          have HF3 := Lib.hid hf3
          have HLV := Lib.hid (show lenV (Value.slice a3 (castL (cycTo (bfN xs) k (j + 1))).length c3) = j + 1 from hl3)
          clear ho3 hf3 hbg hB3 hC3 HAT HIT
          go_wp2
          go_roundw
          case rel => exact ⟨j + 1, by omega, rfl, HO3.out, HF3.out, HD3.out, HG3.out⟩
          case measure => show stopJ xs k - lenV (Value.slice a3 (castL (cycTo (bfN xs) k (j + 1))).length c3) < _; rw [HLV.out]; show _ < stopJ xs k - j; omega
    · obtain rfl : k = xs.length + 1 := by omega
      have hge : ¬ (((xs.length + 1 : Nat) : Int) < ((xs.length + 1 : Nat) : Int)) := by omega
      go_wp2
      go_ret
      exact ⟨_, rfl, ⟨hs, hS.mono (by omega) (Nat.le_refl _)⟩, hbr⟩
end Go.Proofs.Ytdkidfilnbglgaa
