import Derived.Test.YtocccocpacohaaaI5
import Derived.Test.YtocccocpacohaaaS13
namespace Go.Pan
open Go Go.RowKit
abbrev uv (x : Int) : Value := .int .u8 x
def OwnU (w : World) (v : Value) (ys : List Int) : Prop := Own w 1 v ys.length (ys.map uv)
theorem OwnU.of_made {w : World} {B n : Nat} {e : TypeId} {v : Value} (h : w.ownsRow B e 1 v n (madeCells #[Value.int .u8 0] n).toList) : OwnU w v (List.replicate n 0) := by
  have h1 := (Own.of_row h).1
  rw [toList_madeCells_one] at h1
  unfold OwnU
  rw [List.length_replicate, List.map_replicate]
  exact h1
theorem OwnU.cellAt {w : World} {g n cap : Nat} {ys : List Int} (h : OwnU w (.slice (some ⟨g, 0, none⟩) n cap) ys) (j : Nat) (hj : j < ys.length) :
    w.cell? ⟨g, j, none⟩ = some (uv ys[j]) ∧ w.frozen? ⟨g, j, none⟩ = false ∧ ∀ u : Int, OwnU (w.setCell ⟨g, j, none⟩ (uv u)) (.slice (some ⟨g, 0, none⟩) n cap) (ys.set j u) := by
  obtain ⟨ad, cap', hv, h1, h2, h3⟩ := Own.shape h
  simp only [Value.slice.injEq] at hv
  obtain ⟨_, rfl, rfl⟩ := hv
  obtain ⟨g', off, e, hg, hc, hf⟩ := Own.at h (by omega)
  simp only [Option.some.injEq, Addr.mk.injEq, and_true] at e
  obtain ⟨rfl, rfl⟩ := e
  have hcj := hc j (by omega)
  rw [Nat.zero_add, List.getElem?_map, List.getElem?_eq_getElem hj] at hcj
  refine ⟨hcj, hf j, fun u => ?_⟩
  have hs := Own.stored h j (by omega) (uv u)
  unfold OwnU
  rw [List.length_set, List.map_set]
  rw [Nat.zero_add] at hs
  exact hs
/-- the digits' numbers -/
def dgs (xs : List Int) : List Int := xs.map fun x => 48 + x
theorem dgs_length (xs : List Int) : (dgs xs).length = xs.length := by simp [dgs]
end Go.Pan
namespace Go.Proofs.Ytocccocpacohaaa
open Go Go.RowKit Go.Pan

theorem infoU8 : (Try.prog.info? 5).map (fun i => (i.zero, i.size, i.bytes)) = some (some (.int .u8 0), 1, 1) := by kernel_rfl

set_option maxHeartbeats 800000 in
theorem StackText_any (v : Value) (xs : List Int) (w : World) (hv : OwnI w v xs) (hn : xs.length ≤ 1048576) :
    Calls Try.prog 67 #[v] w fun e w' => e = .returned (.tuple #[.string (mText xs), .bool (goodB xs)]) ∧ Below w.heap.size w w' := by
  obtain ⟨ad, cap, rfl, hc, _, _⟩ := hv.shape
  have c := IsStack_any _ xs w hv hn
  cases hg : goodB xs with
  | true =>
    have hG := goodB_iff.1 hg
    have HM := Lib.hid (show mText xs = tb xs from if_pos hg)
    have HP := Lib.hid (show ∀ x ∈ xs, 1 ≤ x ∧ x ≤ 9 from fun x hx => by have := hG.2.2.1 x hx; have := hG.le9; omega)
    rw [hg] at c
    have HG := Lib.hid hg
    clear hg hG
    obtain ⟨i0, hi, hz0, hz1, hz2⟩ := info_parts infoU8
    go_enter Try.func67, Try.ntmps67
    go_wp2_with fail
    refine c.mono ?_
    rintro e w0 ⟨rfl, hb0⟩
    have hv0 := hv.same hb0
    have hs0 := hb0.size
    clear hv c
    go_wp2_with (at_make; refine wpList_make_full _ rfl _ _ 66 rfl w0.heap.size 5 i0 (.int .u8 0) 1 Try.underlying66 hi hz0 hz1 _ _ _ _ xs.length rfl rfl rfl rfl ?b1 ?b2 ?b3 ?_)
    case b1 => rw [hz2]; omega
    case b2 => unfold maxLen; omega
    case b3 => exact Nat.le_refl _
    intro w1 hown hgrow
    have ho0 : OwnU w1 (.slice (some ⟨w0.heap.size, 0, none⟩) xs.length xs.length) (fillTo (dgs xs) 0) := by rw [fillTo_zero, dgs_length]; exact OwnU.of_made hown
    have hb1 : Below w0.heap.size w0 w1 := (Below.refl _ _).grown hgrow (Nat.le_refl _) (by intro k hk; cases hk)
    clear hi hz0 hz1 hz2 hgrow hown
    go_wp2
    go_loopw [5, 6, 15] (fun _ _ i wr => ∃ k : Nat, k ≤ xs.length ∧ i = .int .i64 k ∧ OwnU wr (.slice (some ⟨w0.heap.size, 0, none⟩) xs.length xs.length) (fillTo (dgs xs) k) ∧ Below w0.heap.size w0 wr) (fun _ _ i _ => xs.length - (intOf i).toNat)
    case atStart => exact ⟨0, Nat.zero_le _, rfl, ho0, hb1⟩
    case round =>
      obtain ⟨k, hk, rfl, ho, hbr⟩ := hrel
      clear ho0 hb1
      by_cases hlt : k < xs.length
      · obtain ⟨g, off, rfl, hgl, hcell, hf⟩ := hv0.at (by omega)
        have hck := hcell k (by omega)
        rw [List.getElem?_map, List.getElem?_eq_getElem hlt] at hck
        have hc1 := (hbr.cell (p := ⟨g, off + k, none⟩) hgl).trans hck
        obtain ⟨hd, hfd, hst⟩ := OwnU.cellAt ho k (by rw [fillTo_length _ _ (by rw [dgs_length]; omega), dgs_length]; exact hlt)
        have hst := hst (48 + xs[k])
        rw [fillTo_step (dgs xs) k (by rw [dgs_length]; exact hlt) (48 + xs[k]) (by simp [dgs])] at hst
        have hb2 := hbr.setCell (p := ⟨w0.heap.size, k, none⟩) (Nat.le_refl _) (uv (48 + xs[k]))
        obtain ⟨hx1, hx2⟩ := HP.out _ (List.getElem_mem hlt)
        clear hcell hf hck hv0 ho hbr
        go_wp2
        go_roundw
        case rel => exact ⟨k + 1, by omega, by go_num, hst, hb2⟩
        case measure => simp [intOf] <;> omega
      · obtain rfl : k = xs.length := by omega
        have ho2 : OwnU wr (.slice (some ⟨w0.heap.size, 0, none⟩) xs.length xs.length) (dgs xs) := by have h := fillTo_all (dgs xs); rw [dgs_length] at h; rw [← h]; exact ho
        have HC := Lib.hid (show ∀ j (hj : j < (tx xs).length), wr.cell? ((⟨w0.heap.size, 0, none⟩ : Addr).add j) = some (.int .u8 ((tx xs)[j].toNat : Int)) from fun j hj => by
          have hj' : j < xs.length := by rw [← tx_length xs]; exact hj
          rw [tx_get xs j hj HP.out, Addr.add_lit, Nat.zero_add, (OwnU.cellAt ho2 j (by rw [dgs_length]; exact hj')).1]
          simp [dgs])
        have HL := Lib.hid (tx_length xs).symm
        clear ho ho2 hv0
        go_wp2_with (refine wpList_convBytes rfl 66 9 _ 5 rfl Try.underlying66 Try.underlying5 Try.underlying9 ⟨w0.heap.size, 0, none⟩ xs.length xs.length (tx xs) rfl HL.out HC.out ?_)
        go_wp2
        go_ret2
        exact ⟨by rw [HM.out]; rfl, hb0.trans (hbr.mono hs0)⟩
  | false =>
    have HM := Lib.hid (show mText xs = ByteArray.empty from if_neg (by rw [hg]; exact Bool.false_ne_true))
    rw [hg] at c
    have HG := Lib.hid hg
    clear hg
    go_enter Try.func67, Try.ntmps67
    go_wp2_with fail
    refine c.mono ?_
    rintro e w1 ⟨rfl, hb1⟩
    clear hv c
    go_wp2
    go_ret2
    exact ⟨by rw [HM.out]; rfl, hb1⟩

end Go.Proofs.Ytocccocpacohaaa
