import Derived.Test.YtocccocpacohaaaS4
import Derived.Laws.IdiomStrings
import Derived.Laws.Concat
namespace Go.Pan
open Go Go.RowKit
/-- the bytes of the digits -/
def tx (xs : List Int) : List UInt8 := xs.map fun x => UInt8.ofNat (48 + x).toNat
def tb (xs : List Int) : ByteArray := ⟨(tx xs).toArray⟩
theorem tx_length (xs : List Int) : (tx xs).length = xs.length := by simp [tx]
theorem tb_size (xs : List Int) : (tb xs).size = xs.length := by simp [tb, ByteArray.size, tx]
theorem tb_append (xs ys : List Int) : tb xs ++ tb ys = tb (xs ++ ys) := by
  unfold tb
  rw [ByteArray.mk_append_mk]
  simp [tx]
theorem tb_succ (xs : List Int) (k : Nat) (h : k < xs.length) : tb (xs.take k) ++ tb [xs[k]] = tb (xs.take (k + 1)) := by
  rw [tb_append, List.take_succ_eq_append_getElem h]
theorem tx_get (xs : List Int) (j : Nat) (hj : j < (tx xs).length) (h : ∀ x ∈ xs, 1 ≤ x ∧ x ≤ 9) : ((tx xs)[j].toNat : Int) = 48 + xs[j]'(by rw [← tx_length xs]; exact hj) := by
  have hj' : j < xs.length := by rw [← tx_length xs]; exact hj
  have hx := h _ (List.getElem_mem hj')
  simp only [tx, List.getElem_map]
  rw [UInt8.toNat_ofNat']
  omega
def mText (xs : List Int) : ByteArray := if goodB xs = true then tb xs else ByteArray.empty

/-- 'string(b)' of bytes that lie in one block -/
theorem wpList_convBytes {P : Program} {w : World} {ops : Array Oper} {rest : List Oper} {o : Oper} {a : Act} {Q : Exit → Act → World → Prop} (hgd : o.guard = none) (src dst : TypeId) (x : Operand) (e : TypeId)
    (ho : o.op = .convert src dst x) (hs : P.underlying src = some (.slice e)) (he : P.underlying e = some (.int .u8)) (hd : P.underlying dst = some .string)
    (ad : Addr) (n cap : Nat) (l : List UInt8) (hx : a.eval x = .slice (some ad) n cap) (hn : n = l.length)
    (hc : ∀ j (hj : j < l.length), w.cell? (ad.add j) = some (.int .u8 (l[j].toNat : Int)))
    (h : wpList P ops Q rest (a.put o.dst (.string ⟨l.toArray⟩)) w) : wpList P ops Q (o :: rest) a w := by
  subst hn
  have hrun := run_convert_bytes_back w src dst e ad cap l hs he hd hc
  refine wpList_plain hgd fun K hK => ?_
  unfold Oper.wp
  simp [execOp, ho, hx, hrun, Result.andThen]
  exact hK _ _ h

theorem run_addB (P : Program) (w : World) (t : TypeId) (a b c : ByteArray) (e : a ++ b = c) (h : a.size + b.size ≤ 1048576) : (binOp .add t (.string a) (.string b)).run P w = .ok (.string c) w := by
  have := run_string_add_sum (P := P) w a b (by omega)
  simp [binOp, this, e]
end Go.Pan
namespace Go.Proofs.Ytocccocpacohaaa
open Go Go.RowKit Go.Pan

set_option maxHeartbeats 400000 in
theorem l1Num_any (n : Int) (h1 : 1 ≤ n) (h9 : n ≤ 9) (w : World) :
    Calls Try.prog 102 #[.int .i64 n] w fun e w' => e = .returned (.string (tb [n])) ∧ Below w.heap.size w w' := by
  have HT := Lib.hid (tx_get [n] 0 (by simp [tx]) (by simpa using ⟨h1, h9⟩))
  have h10 : n < 10 := by omega
  go_enter Try.func102, Try.ntmps102
  go_wp2_with (refine wpList_convBytes rfl 66 9 _ 5 rfl Try.underlying66 Try.underlying5 Try.underlying9 ⟨w.heap.size, 0, none⟩ 1 1 (tx [n]) rfl rfl ?c0 ?_)
  case c0 =>
    intro j hj
    obtain rfl : j = 0 := by rw [tx_length] at hj; simp at hj; exact hj
    rw [HT.out]
    simp [go_sem]
    first | done | omega
  go_wp2
  go_ret
  exact ⟨rfl, below_new _ _⟩

set_option maxHeartbeats 400000 in
theorem stText_any (v : Value) (xs : List Int) (w : World) (hv : OwnI w v xs) (hn : xs.length ≤ 1048576) (hp : ∀ x ∈ xs, 1 ≤ x ∧ x ≤ 9) :
    Calls Try.prog 98 #[v] w fun e w' => e = .returned (.string (tb xs)) ∧ Below w.heap.size w w' := by
  obtain ⟨ad, cap, rfl, hc, _, _⟩ := hv.shape
  have HP := Lib.hid hp
  clear hp
  go_enter Try.func98, Try.ntmps98
  go_wp2
  go_loopw [3, 5, 8] (fun o _ i wr => ∃ k : Nat, k ≤ xs.length ∧ i = .int .i64 k ∧ o = .string (tb (xs.take k)) ∧ Below w.heap.size w wr) (fun _ _ i _ => xs.length - (intOf i).toNat)
  case atStart => exact ⟨0, Nat.zero_le _, rfl, rfl, Below.refl _ _⟩
  case round =>
    obtain ⟨k, hk, rfl, rfl, hbr⟩ := hrel
    by_cases hlt : k < xs.length
    · obtain ⟨g, off, rfl, hgl, hcell, hf⟩ := hv.at (by omega)
      have hck := hcell k (by omega)
      rw [List.getElem?_map, List.getElem?_eq_getElem hlt] at hck
      have hc1 := (hbr.cell (p := ⟨g, off + k, none⟩) hgl).trans hck
      have hx := HP.out _ (List.getElem_mem hlt)
      have HA := Lib.hid (tb_succ xs k hlt)
      have HZ := Lib.hid (show (tb (xs.take k)).size + (tb [xs[k]]).size ≤ 1048576 by rw [tb_size, tb_size, List.length_take]; simp; omega)
      have hA := HA.out
      have hZ := HZ.out
      clear hcell hf hck hv
      go_wp2_with fail
      refine (l1Num_any _ hx.1 hx.2 _).mono ?_
      rintro e w1 ⟨rfl, hb1⟩
      have hb2 := hbr.trans (hb1.mono hbr.size)
      clear hx hc1 hb1 hbr
      go_wp2
      go_roundw
      case rel => exact ⟨k + 1, by omega, by go_num, rfl, hb2⟩
      case measure => simp [intOf] <;> omega
    · obtain rfl : k = xs.length := by omega
      have HE := Lib.hid (show tb (xs.take xs.length) = tb xs by rw [List.take_length])
      clear hv
      go_wp2
      go_ret
      exact ⟨by rw [HE.out]; rfl, hbr⟩

set_option maxHeartbeats 400000 in
theorem sStackText_any (v : Value) (xs : List Int) (w : World) (hv : OwnI w v xs) (hn : xs.length ≤ 1048576) :
    Calls Try.prog 66 #[v] w fun e w' => e = .returned (.tuple #[.string (mText xs), .bool (goodB xs)]) ∧ Below w.heap.size w w' := by
  obtain ⟨ad, cap, rfl, hc, _, _⟩ := hv.shape
  have c := stGood_any _ xs w hv hn
  cases hg : goodB xs with
  | true =>
    have hG := goodB_iff.1 hg
    have HM := Lib.hid (show mText xs = tb xs from if_pos hg)
    have HP := Lib.hid (show ∀ x ∈ xs, 1 ≤ x ∧ x ≤ 9 from fun x hx => by have := hG.2.2.1 x hx; have := hG.le9; omega)
    rw [hg] at c
    have HG := Lib.hid hg
    clear hg hG
    go_enter Try.func66, Try.ntmps66
    go_wp2_with fail
    refine c.mono ?_
    rintro e w1 ⟨rfl, hb1⟩
    have hv1 := hv.same hb1
    clear hv c
    go_wp2_with fail
    refine (stText_any _ xs _ hv1 hn HP.out).mono ?_
    rintro e w2 ⟨rfl, hb2⟩
    clear hv1
    go_wp2
    go_ret2
    exact ⟨by rw [HM.out]; rfl, hb1.trans (hb2.mono hb1.size)⟩
  | false =>
    have HM := Lib.hid (show mText xs = ByteArray.empty from if_neg (by rw [hg]; exact Bool.false_ne_true))
    rw [hg] at c
    have HG := Lib.hid hg
    clear hg
    go_enter Try.func66, Try.ntmps66
    go_wp2_with fail
    refine c.mono ?_
    rintro e w1 ⟨rfl, hb1⟩
    clear hv c
    go_wp2
    go_ret2
    exact ⟨by rw [HM.out]; rfl, hb1⟩

end Go.Proofs.Ytocccocpacohaaa
