import Derived.Test.YtpclomokljgphaaDoorI20
import Derived.Test.YtpclomokljgphaaDoorS33
import Derived.Test.YtpclomokljgphaaDoorTwB
import Derived.Test.YtpclomokljgphaaDoorLayB
namespace Go.Pan
open Go Go.RowKit
theorem itoa_dig {x : Int} (h : (1 ≤ x ∧ x ≤ 9) ∨ (1 ≤ -x ∧ -x ≤ 9)) : Lib.itoa x = dig x := by
  unfold Lib.itoa dig
  by_cases hx : x < 0
  · rw [if_pos hx, if_pos hx, Lib.decDigits_one (by omega)]
    simp only [tx, List.map_cons, List.map_nil]
    rw [show 48 + x.natAbs = (48 + -x).toNat by omega]
  · rw [if_neg hx, if_neg hx, Lib.decDigits_one (by omega)]
    simp only [tx, List.map_cons, List.map_nil]
    rw [show 48 + x.toNat = (48 + x).toNat by omega]
theorem btx_succ (xs : List Int) (k : Nat) (h : k < xs.length) : btx (xs.take (k + 1)) = btx (xs.take k) ++ dig xs[k] := by
  rw [List.take_succ_eq_append_getElem h, btx_append]
  simp [btx]
theorem dig_pos (x : Int) : 0 < (dig x).length := by
  unfold dig
  split <;> simp [tx_length]
theorem btx_pos : ∀ {xs : List Int}, 0 < xs.length → 0 < (btx xs).length
  | [], h => absurd h (by simp)
  | x :: xs, _ => by
    rw [show x :: xs = [x] ++ xs from rfl, btx_append]
    have := dig_pos x
    simp [btx]
    omega
end Go.Pan
namespace Go.Proofs.YtpclomokljgphaaDoor
open Go Go.RowKit Go.Pan

theorem infoB8 : (Tryd.prog.info? 5).map (fun i => (i.zero, i.size, i.bytes)) = some (some (.int .u8 0), 1, 1) := by kernel_rfl

theorem appendInt_any (B n : Nat) (x : Int) (h0 : -9223372036854775808 ≤ x) (h1 : x ≤ 9223372036854775807) (sv : Value) (cs : List Value) (w : World) (hown : w.ownsRow B 5 1 sv n cs) (hBw : B ≤ w.heap.size) (hl : n + 21 ≤ 140737488355328)
    (ht : Lib.TabBelow Tryd.prog B w "internal/strconv.uint64pow10" .u64 Lib.pow10Tab) :
    Calls Tryd.prog 11 #[sv, .int .i64 x, .int .i64 10] w fun e w' => ∃ v', e = .returned v' ∧ w'.ownsRow B 5 1 v' (n + (Lib.itoa x).length) (cs ++ Lib.byteCells (Lib.itoa x)) ∧ Below B w w' :=
  (Any.strconv_AppendInt_10 YtpclomokljgphaaDoor.aiT B n x h0 h1 sv cs w hown hBw hl ht).mono fun _ _ ⟨v', he, ho, hb, _⟩ => ⟨v', he, ho, hb⟩

set_option maxHeartbeats 4000000 in
theorem BurntText_any (v : Value) (xs : List Int) (w : World) (hv : OwnI w v xs) (hn : xs.length ≤ 1048576) (hw : Wf64 xs) (ht : Hid (Lib.TabBelow Tryd.prog w.heap.size w "internal/strconv.uint64pow10" .u64 Lib.pow10Tab)) :
    Calls Tryd.prog 6 #[v] w fun e w' => e = .returned (.tuple #[.string (mBurntText xs), .bool (burntB xs)]) ∧ Below w.heap.size w w' := by
  obtain ⟨ad, cap, rfl, hc, _, _⟩ := hv.shape
  have c := IsBurnt_any _ xs w hv hn hw
  have HV := Lib.hid hv
  cases hg : burntB xs with
  | true =>
    have hG := burntB_iff.1 hg
    have HM := Lib.hid (show mBurntText xs = btb xs from if_pos hg)
    have h9 : xs.length ≤ 9 := by have := hG.2.1; simpa [absL] using this
    have hp0 : 0 < xs.length := by have := hG.1; simp only [absL, List.length_map] at this; omega
    have HP := Lib.hid (absL_digits hG)
    rw [hg] at c
    obtain ⟨i0, hi, hz0, hz1, hz2⟩ := info_parts infoB8
    have HI := Lib.hid hi
    have HZ0 := Lib.hid hz0
    have HZ1 := Lib.hid hz1
    have HZ2 := Lib.hid hz2
    have hm2 : IntKind.i64.wrap (2 * (xs.length : Int)) = 2 * (xs.length : Int) := by rw [IntKind.wrap_i64]; omega
    clear hg hG hw hi hz0 hz1 hz2
    go_enter Tryd.func6, Tryd.ntmps6
    go_wp2_with fail
    refine c.mono ?_
    rintro e w0 ⟨rfl, hb0⟩
    have hv0 := hv.same hb0
    have hs0 := hb0.size
    clear hv c
    go_wp2_with (at_make; refine wpList_make_own _ rfl _ _ 29 rfl w.heap.size 5 i0 _ 1 Tryd.underlying29 HI.out HZ0.out HZ1.out _ _ _ (2 * xs.length) rfl rfl (by first | rfl | simp | omega) (by rw [HZ2.out]; omega) (by unfold maxLen; omega) hs0 ?_)
    intro w1 hown hgr
    have hb1 : Below w.heap.size w w1 := hb0.grown hgr hs0 (by intro k hk; cases hk)
    have hv1 : OwnI w1 (.slice ad xs.length cap) xs := hv0.grown hgr (by intro g _ e; cases e)
    have hO0 : Hid (w1.ownsRow w.heap.size 5 1 (.slice (some ⟨w0.heap.size, 0, none⟩) 0 (2 * xs.length)) (btx (xs.take 0)).length (Lib.byteCells (btx (xs.take 0)))) := Lib.hid hown
    have hT1 := Lib.hid (ht.out.on hb1)
    clear hown hgr hb0
    go_wp2
    go_loopw [4, 6, 16] (fun o _ i wr => ∃ k : Nat, k ≤ xs.length ∧ i = .int .i64 k ∧ Hid (wr.ownsRow w.heap.size 5 1 o (btx (xs.take k)).length (Lib.byteCells (btx (xs.take k)))) ∧ Below w.heap.size w wr) (fun _ _ i _ => xs.length - (intOf i).toNat)
    case atStart => exact ⟨0, Nat.zero_le _, rfl, hO0, hb1⟩
    case round =>
      obtain ⟨k, hk, rfl, hO, hbr⟩ := hrel
      clear hO0
      by_cases hlt : k < xs.length
      · obtain ⟨g, off, rfl, hgl, hcell, hf⟩ := hv1.at (by omega)
        have hck := hcell k (by omega)
        rw [List.getElem?_map, List.getElem?_eq_getElem hlt] at hck
        have hx := HP.out _ (List.getElem_mem hlt)
        have hbs := btx_succ xs k hlt
        have hbl := btx_length (xs.take k)
        rw [List.length_take] at hbl
        obtain ⟨x, hxe⟩ : ∃ x, xs[k] = x := ⟨_, rfl⟩
        rw [hxe] at hck hx hbs
        have hgw : g < w.heap.size := by
          obtain ⟨g', off', he, hg', _, _⟩ := HV.out.at (by omega)
          simp only [Option.some.injEq, Addr.mk.injEq] at he
          rw [he.1]; exact hg'
        have hcw : w.cell? ⟨g, off + k, none⟩ = some (iv x) := by
          obtain ⟨g', off', he, hg', hc', _⟩ := HV.out.at (by omega)
          simp only [Option.some.injEq, Addr.mk.injEq, and_true] at he
          obtain ⟨rfl, rfl⟩ := he
          rw [hc' k (by omega), List.getElem?_map, List.getElem?_eq_getElem hlt, hxe]; rfl
        have hc1 := (hbr.cell (p := ⟨g, off + k, none⟩) hgw).trans hcw
        obtain ⟨T, hT⟩ : ∃ T, btx (xs.take k) = T := ⟨_, rfl⟩
        rw [hT] at hO hbs hbl
        have HS := Lib.hid (show btx (xs.take (k + 1)) = T ++ Lib.itoa x by rw [hbs, itoa_dig hx])
        have hTb := ht.out.on hbr
        have cA := appendInt_any w.heap.size T.length x (by omega) (by omega) u4 (Lib.byteCells T) wr hO.out hbr.size (by omega) hTb
        have CA := Lib.hid cA
        clear hcell hf hck hx hbs hbl hxe hcw hT hO hTb cA
        go_wp2_with fail
        refine CA.out.mono ?_
        rintro e w5 ⟨v5, rfl, ho5, hb5⟩
        have HO5 := Lib.hid (show w5.ownsRow w.heap.size 5 1 v5 (btx (xs.take (k + 1))).length (Lib.byteCells (btx (xs.take (k + 1)))) by rw [HS.out, List.length_append, Lib.byteCells_append]; exact ho5)
        have hB5 := hbr.trans hb5
        clear CA ho5 hbr hb5
        go_wp2
        go_roundw
        case rel => exact ⟨k + 1, by omega, by go_num, HO5, hB5⟩
        case measure => simp [intOf] <;> omega
      · obtain rfl : k = xs.length := by omega
        have hO2 := hO.out
        rw [List.take_length] at hO2
        obtain ⟨g5, c5, hv5, _, _⟩ := hO2.form (btx_pos hp0)
        subst hv5
        obtain ⟨T, hT⟩ : ∃ T, btx xs = T := ⟨_, rfl⟩
        rw [hT] at hO2
        have HM2 := Lib.hid (show mBurntText xs = ⟨T.toArray⟩ by rw [HM.out, ← hT]; rfl)
        have HC := Lib.hid (show ∀ j (hj : j < T.length), wr.cell? ((⟨g5, 0, none⟩ : Addr).add j) = some (.int .u8 (T[j].toNat : Int)) from fun j hj => by
          have ho := (Go.Pan.Own.of_row hO2).1
          obtain ⟨ad', cap', he, hle, _, _⟩ := ho.shape
          simp only [Value.slice.injEq, true_and] at he
          obtain ⟨_, rfl⟩ := he
          obtain ⟨g', off', he, _, hc', _⟩ := ho.at (by omega)
          simp only [Option.some.injEq, Addr.mk.injEq, and_true] at he
          obtain ⟨rfl, rfl⟩ := he
          rw [Addr.add_lit, hc' j (by omega)]
          simp [Lib.byteCells, hj])
        rw [hT]
        clear hO hO2 hT
        go_wp2_with (refine wpList_convBytes rfl 29 9 _ 5 rfl Tryd.underlying29 Tryd.underlying5 Tryd.underlying9 ⟨g5, 0, none⟩ T.length c5 T rfl rfl HC.out ?_)
        go_wp2
        go_ret2
        exact ⟨by rw [HM2.out]; rfl, hbr⟩
  | false =>
    have HM := Lib.hid (show mBurntText xs = ByteArray.empty from if_neg (by rw [hg]; exact Bool.false_ne_true))
    rw [hg] at c
    clear hg
    go_enter Tryd.func6, Tryd.ntmps6
    go_wp2_with fail
    refine c.mono ?_
    rintro e w1 ⟨rfl, hb1⟩
    clear hv c
    go_wp2
    go_ret2
    exact ⟨by rw [HM.out]; rfl, hb1⟩
end Go.Proofs.YtpclomokljgphaaDoor
