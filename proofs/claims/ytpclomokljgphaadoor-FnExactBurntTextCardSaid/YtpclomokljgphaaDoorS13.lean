import Derived.Test.YtpclomokljgphaaDoorS4
import Derived.Laws.IdiomStrings
import Derived.Laws.Concat
namespace Go.Pan
open Go Go.RowKit
/-- the bytes of the digits -/
def tx (xs : List Int) : List UInt8 := xs.map fun x => UInt8.ofNat (48 + x).toNat
def tb (xs : List Int) : ByteArray := ⟨(tx xs).toArray⟩
theorem tx_length (xs : List Int) : (tx xs).length = xs.length := by simp [tx]
theorem tb_size (xs : List Int) : (tb xs).size = xs.length := by simp [tb, ByteArray.size, tx]
theorem tb_append (xs ys : List Int) : tb xs ++ tb ys = tb (xs ++ ys) := by
  unfold tb
  rw [ByteArray.mk_append_mk]
  simp [tx]
theorem tb_succ (xs : List Int) (k : Nat) (h : k < xs.length) : tb (xs.take k) ++ tb [xs[k]] = tb (xs.take (k + 1)) := by
  rw [tb_append, List.take_succ_eq_append_getElem h]
theorem tx_get (xs : List Int) (j : Nat) (hj : j < (tx xs).length) (h : ∀ x ∈ xs, 1 ≤ x ∧ x ≤ 9) : ((tx xs)[j].toNat : Int) = 48 + xs[j]'(by rw [← tx_length xs]; exact hj) := by
  have hj' : j < xs.length := by rw [← tx_length xs]; exact hj
  have hx := h _ (List.getElem_mem hj')
  simp only [tx, List.getElem_map]
  rw [UInt8.toNat_ofNat']
  omega
def mText (xs : List Int) : ByteArray := if goodB xs = true then tb xs else ByteArray.empty

/-- 'string(b)' of bytes that lie in one block -/
theorem wpList_convBytes {P : Program} {w : World} {ops : Array Oper} {rest : List Oper} {o : Oper} {a : Act} {Q : Exit → Act → World → Prop} (hgd : o.guard = none) (src dst : TypeId) (x : Operand) (e : TypeId)
    (ho : o.op = .convert src dst x) (hs : P.underlying src = some (.slice e)) (he : P.underlying e = some (.int .u8)) (hd : P.underlying dst = some .string)
    (ad : Addr) (n cap : Nat) (l : List UInt8) (hx : a.eval x = .slice (some ad) n cap) (hn : n = l.length)
    (hc : ∀ j (hj : j < l.length), w.cell? (ad.add j) = some (.int .u8 (l[j].toNat : Int)))
    (h : wpList P ops Q rest (a.put o.dst (.string ⟨l.toArray⟩)) w) : wpList P ops Q (o :: rest) a w := by
  subst hn
  have hrun := run_convert_bytes_back w src dst e ad cap l hs he hd hc
  refine wpList_plain hgd fun K hK => ?_
  unfold Oper.wp
  simp [execOp, ho, hx, hrun, Result.andThen]
  exact hK _ _ h

theorem run_addB (P : Program) (w : World) (t : TypeId) (a b c : ByteArray) (e : a ++ b = c) (h : a.size + b.size ≤ 1048576) : (binOp .add t (.string a) (.string b)).run P w = .ok (.string c) w := by
  have := run_string_add_sum (P := P) w a b (by omega)
  simp [binOp, this, e]
end Go.Pan
namespace Go.Proofs.YtpclomokljgphaaDoor
open Go Go.RowKit Go.Pan

set_option maxHeartbeats 400000 in
theorem l1Num_any (n : Int) (h1 : 1 ≤ n) (h9 : n ≤ 9) (w : World) :
    Calls Tryd.prog 22 #[.int .i64 n] w fun e w' => e = .returned (.string (tb [n])) ∧ Below w.heap.size w w' := by
  have HT := Lib.hid (tx_get [n] 0 (by simp [tx]) (by simpa using ⟨h1, h9⟩))
  have h10 : n < 10 := by omega
  go_enter Tryd.func22, Tryd.ntmps22
  go_wp2_with (refine wpList_convBytes rfl 29 9 _ 5 rfl Tryd.underlying29 Tryd.underlying5 Tryd.underlying9 ⟨w.heap.size, 0, none⟩ 1 1 (tx [n]) rfl rfl ?c0 ?_)
  case c0 =>
    intro j hj
    obtain rfl : j = 0 := by rw [tx_length] at hj; simp at hj; exact hj
    rw [HT.out]
    simp [go_sem]
    first | done | omega
  go_wp2
  go_ret
  exact ⟨rfl, below_new _ _⟩

end Go.Proofs.YtpclomokljgphaaDoor
