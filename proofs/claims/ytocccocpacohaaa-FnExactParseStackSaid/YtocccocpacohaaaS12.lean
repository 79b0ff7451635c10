import Derived.Test.YtocccocpacohaaaS4
namespace Go.Pan
/-- the numbers of a text's digits, whatever its bytes are -/
def dig (s : ByteArray) : List Int := s.data.toList.map fun b => (b.toNat : Int) - 48
theorem dig_length (s : ByteArray) : (dig s).length = s.size := by simp [dig]
theorem dig_get (s : ByteArray) (k : Nat) (h : k < s.size) : (dig s)[k]'(by rw [dig_length]; exact h) = (s[k].toNat : Int) - 48 := by simp [dig]; rfl
theorem dig_succ (s : ByteArray) (k : Nat) (h : k < s.size) : (dig s).take k ++ [(s[k].toNat : Int) - 48] = (dig s).take (k + 1) := by
  rw [List.take_succ_eq_append_getElem (by rw [dig_length]; exact h), dig_get s k h]
def mParseStack (s : ByteArray) : List Int := if goodB (dig s) = true then dig s else []
theorem len_mParseStack (s : ByteArray) : (mParseStack s).length ≤ 1048576 := by
  unfold mParseStack
  split
  · rename_i h; have := (goodB_iff.1 h).le9; omega
  · simp
theorem dig_bad (s : ByteArray) (k : Nat) (h : k < s.size) (hb : (s[k].toNat : Int) < 49 ∨ 57 < (s[k].toNat : Int)) : goodB (dig s) = false := by
  refine decide_eq_false fun hg => ?_
  have h1 := hg.2.2.1 _ (List.getElem_mem (show k < (dig s).length by rw [dig_length]; exact h))
  have h9 := hg.le9
  rw [dig_get s k h] at h1
  omega
end Go.Pan
namespace Go.Proofs.Ytocccocpacohaaa
open Go Go.RowKit Go.Pan

def IfGood (s : ByteArray) (w : World) (r : Value) : Prop := goodB (dig s) = true → OwnI w r (dig s)
theorem IfGood.no {s : ByteArray} {w : World} {r : Value} (h : goodB (dig s) = false) : IfGood s w r := fun e => by rw [h] at e; cases e
theorem IfGood.yes {s : ByteArray} {w : World} {r : Value} (h : OwnI w r (dig s)) : IfGood s w r := fun _ => h
theorem IfGood.get {s : ByteArray} {w : World} {r : Value} (h : IfGood s w r) (e : goodB (dig s) = true) : OwnI w r (dig s) := h e

set_option maxHeartbeats 800000 in
theorem sParseStack_any (s : ByteArray) (w : World) (hs : s.size ≤ 1048576) :
    Calls Try.prog 68 #[.string s] w fun e w' => ∃ r, e = .returned (.tuple #[r, .bool (goodB (dig s))]) ∧ OwnI w' r (mParseStack s) ∧ From w.heap.size r ∧ Below w.heap.size w w' := by
  have hc : Calls Try.prog 99 #[.string s] w fun e w' => ∃ r, e = .returned (.tuple #[r, .bool (goodB (dig s))]) ∧ IfGood s w' r ∧ From w.heap.size r ∧ Below w.heap.size w w' := by
    by_cases h9 : s.size ≤ 9
    · have h9i : (s.size : Int) ≤ 9 := by omega
      go_enter Try.func99, Try.ntmps99
      go_wp2
      go_loopw [4, 5] (fun o i wr => ∃ k : Nat, k ≤ s.size ∧ i = .int .i64 k ∧ OwnI wr o ((dig s).take k) ∧ From w.heap.size o ∧ Below w.heap.size w wr) (fun _ i _ => s.size - (intOf i).toNat)
      case atStart => exact ⟨0, Nat.zero_le _, rfl, by simpa using OwnI.nil w, From.nil _ _ _, Below.refl _ _⟩
      case round =>
        obtain ⟨k, hk, rfl, ho, hf, hbr⟩ := hrel
        by_cases hlt : k < s.size
        · have hlen : ((dig s).take k).length ≤ 1048576 := by rw [List.length_take]; omega
          by_cases hlo : (s[k].toNat : Int) < 49
          · have HD := Lib.hid (dig_bad s k hlt (.inl hlo))
            go_wp2
            go_ret2
            exact ⟨_, by rw [HD.out]; rfl, IfGood.no HD.out, From.nil _ _ _, hbr⟩
          · by_cases hhi : 57 < (s[k].toNat : Int)
            · have HD := Lib.hid (dig_bad s k hlt (.inr hhi))
              have hlo' : 49 ≤ (s[k].toNat : Int) := by omega
              go_wp2
              go_ret2
              exact ⟨_, by rw [HD.out]; rfl, IfGood.no HD.out, From.nil _ _ _, hbr⟩
            · have hlo' : 49 ≤ (s[k].toNat : Int) := by omega
              have hhi' : (s[k].toNat : Int) ≤ 57 := by omega
              have HS := Lib.hid (dig_succ s k hlt)
              clear hlo hhi
              go_wp2_with (at_builtin; refine wpList_app1 Try.intSl rfl _ _ rfl _ ((dig s).take k) rfl (ho.alloc _) w.heap.size hf wr.heap.size ((s[k].toNat : Int) - 48) rfl ?c1 w (hbr.alloc hbr.size _) ?c2 hlen ?_)
              case c1 => simp [go_sem]
              case c2 => simp; exact Nat.le_succ_of_le hbr.size
              intro v' w1 ho' hf' hb' _
              rw [HS.out] at ho'
              clear HS ho hf hbr
              go_wp2
              go_roundw
              case rel => exact ⟨k + 1, by omega, by go_num, ho', hf', hb'⟩
              case measure => simp [intOf] <;> omega
        · obtain rfl : k = s.size := by omega
          have ho2 : OwnI wr u4 (dig s) := by have := ho; rwa [List.take_of_length_le (by rw [dig_length]; exact Nat.le_refl _)] at this
          clear ho
          go_wp2_with fail
          refine (stGood_any _ _ _ ho2 (by rw [dig_length]; exact hs)).mono ?_
          rintro e w2 ⟨rfl, hb2⟩
          go_wp2
          go_ret2
          exact ⟨_, rfl, IfGood.yes (ho2.same hb2), hf, hbr.trans (hb2.mono hbr.size)⟩
    · have h9i : (9 : Int) < (s.size : Int) := by omega
      have HD := Lib.hid (show goodB (dig s) = false from decide_eq_false fun hg => by have := hg.le9; rw [dig_length] at this; omega)
      go_enter Try.func99, Try.ntmps99
      go_wp2
      go_ret2
      exact ⟨_, by rw [HD.out]; rfl, IfGood.no HD.out, From.nil _ _ _, Below.refl _ _⟩
  have HM1 := Lib.hid (fun (h : goodB (dig s) = true) => show mParseStack s = dig s from if_pos h)
  have HM2 := Lib.hid (fun (h : goodB (dig s) = false) => show mParseStack s = [] from if_neg (by rw [h]; exact Bool.false_ne_true))
  cases hg : goodB (dig s) with
  | true =>
    rw [hg] at hc
    have HG := Lib.hid hg
    clear hg
    go_enter Try.func68, Try.ntmps68
    go_wp2_with fail
    refine hc.mono ?_
    rintro e w1 ⟨r, rfl, ho, hf, hb⟩
    have ho1 := ho.get HG.out
    clear hc ho
    go_wp2
    go_ret2
    exact ⟨_, rfl, by rw [HM1.out HG.out]; exact ho1, hf, hb⟩
  | false =>
    rw [hg] at hc
    have HG := Lib.hid hg
    clear hg
    go_enter Try.func68, Try.ntmps68
    go_wp2_with fail
    refine hc.mono ?_
    rintro e w1 ⟨r, rfl, ho, hf, hb⟩
    clear hc ho
    go_wp2
    go_ret2
    exact ⟨_, rfl, by rw [HM2.out HG.out]; exact OwnI.nil _, From.nil _ _ _, hb⟩

end Go.Proofs.Ytocccocpacohaaa
