import Derived.Test.YtmlikchhkblohaaU4
import Derived.Test.YtmlikchhkblohaaTwB
import Derived.Test.YtmlikchhkblohaaS15
namespace Go.Pan
/-- the cells of towers, one behind the other -/
def tws (L : List (List Int)) : List Value := L.flatMap twl
theorem tws_nil : tws [] = [] := rfl
theorem tws_append (A B : List (List Int)) : tws (A ++ B) = tws A ++ tws B := by simp [tws]
theorem tws_one (q : List Int) : tws [q] = twl q := by simp [tws]
theorem tws_snoc (A : List (List Int)) (q : List Int) : tws (A ++ [q]) = tws A ++ twl q := by rw [tws_append, tws_one]
theorem tws_length : ∀ (L : List (List Int)), (∀ q ∈ L, q.length ≤ 9) → (tws L).length = L.length * 9
  | [], _ => rfl
  | q :: L, h => by
    rw [show q :: L = [q] ++ L from rfl, tws_append, tws_one, List.length_append, twl_length q (h q (List.mem_cons_self ..)), tws_length L (fun r hr => h r (List.mem_cons_of_mem _ hr))]
    simp only [List.length_append, List.length_cons, List.length_nil]
    omega
theorem tws_get : ∀ (L : List (List Int)) (i c : Nat) (hi : i < L.length), (∀ q ∈ L, q.length ≤ 9) → c < 9 → (tws L)[i * 9 + c]? = (twl L[i])[c]?
  | [], i, c, hi, _, _ => absurd hi (by simp)
  | q :: L, i, c, hi, h, hc => by
    have h9 := twl_length q (h q (List.mem_cons_self ..))
    have e : tws (q :: L) = twl q ++ tws L := by rw [show q :: L = [q] ++ L from rfl, tws_append, tws_one]
    rw [e]
    cases i with
    | zero =>
      rw [List.getElem?_append_left (by omega)]
      simp
    | succ i =>
      rw [List.getElem?_append_right (by omega), h9, show (i + 1) * 9 + c - 9 = i * 9 + c by omega]
      have := tws_get L i c (by simpa using hi) (fun r hr => h r (List.mem_cons_of_mem _ hr)) hc
      rw [this]
      rfl
theorem tws_one_cell (L : List (List Int)) : ∀ v ∈ tws L, v.oneCell' = true := by
  intro v hv
  obtain ⟨q, _, hq⟩ := List.mem_flatMap.1 hv
  simp only [twl, List.mem_map] at hq
  obtain ⟨x, _, rfl⟩ := hq
  rfl

end Go.Pan

namespace Go.Proofs.Ytmlikchhkblohaa
open Go Go.RowKit Go.Pan

set_option maxHeartbeats 4000000 in
set_option maxRecDepth 100000 in
theorem before_any (xs : List Int) (w : World) (hG : Hid (Pan.Good xs)) :
    Calls Try.prog 147 #[tw xs] w fun e w' => ∃ r, e = .returned r ∧ Own w' 9 r (befL xs).length (tws (befL xs)) ∧ From w.heap.size r ∧ Below w.heap.size w w' := by
  have h9 := hG.out.le9
  obtain ⟨i0, hi, hz0, hz1, hz2⟩ := info_parts infoTw
  have HI := Lib.hid hi
  have HZ0 := Lib.hid hz0
  have HZ1 := Lib.hid hz1
  have HZ2 := Lib.hid hz2
  obtain ⟨W, hW⟩ : ∃ W, W = w.alloc (.cells (twl xs).toArray 86) := ⟨_, rfl⟩
  have hbx : Blk W w.heap.size 86 (twl xs) := by rw [hW]; exact Blk.new w _ (twl xs) _ rfl
  have hb0 : Below w.heap.size w W := by rw [hW]; exact below_new w _
  have hlW := hbx.lt
  have HW := Lib.hid hW
  have HF := Lib.hid (befTo_nine h9)
  have HO0 := Lib.hid (show Own W 9 (.slice none 0 0) (befTo xs 1).length (tws (befTo xs 1)) by rw [befTo_one]; exact Own.nil W 9)
  clear hi hz0 hz1 hz2 hW
  go_enter Try.func147, Try.ntmps147
  go_wp2
  rw [← HW.out]
  go_loopw [3, 4] (fun o i wr => ∃ k : Nat, 1 ≤ k ∧ k ≤ 9 ∧ i = .int .i64 ((k : Int) + 1) ∧ Hid (Own wr 9 o (befTo xs k).length (tws (befTo xs k))) ∧ From (w.heap.size + 1) o ∧ Blk wr w.heap.size 86 (twl xs) ∧ Below w.heap.size w wr) (fun _ i _ => 10 - (intOf i).toNat)
  case atStart => exact ⟨1, Nat.le_refl _, by omega, rfl, HO0, From.nil _ _ _, hbx, hb0⟩
  case round =>
    obtain ⟨k, hk1, hk, rfl, hO, hf, hbT, hbr⟩ := hrel
    clear hbx hb0 HO0
    by_cases hlt : k < 9
    · have hlt' : (k : Int) + 1 ≤ 9 := by omega
      have hlen := befTo_length xs k
      have hck := (hbT.cell k).trans ((twl_at (xs := xs) (i := k) hlt).resolve_right (by omega))
      cases hb : befB xs k with
      | true =>
        have hat := (befB_at hb).2
        have hkl := befB_lt hb
        have HN1 := Lib.hid (befTo_yes hb)
        rw [hat] at hck
        have he : (((k : Int) + 1) == ((k : Int) + 1)) = true := by simp
        have hul : (turnL xs (k + 1)).length ≤ 9 := by rw [turnL_length]; exact h9
        have HUL := Lib.hid (twl_length _ hul)
        have c5 := turned_any xs (k + 1) wr h9 (by omega)
        have hk64 : ((k + 1 : Nat) : Int) = (k : Int) + 1 := by omega
        rw [hk64] at c5
        have HA2 := Lib.hid (show Value.ownBlock u3 ≠ some w.heap.size from fun e => by have := hf _ e; omega)
        obtain ⟨n, hn⟩ : ∃ n, (befTo xs k).length = n := ⟨_, rfl⟩
        have HNL := Lib.hid (show (befTo xs (k + 1)).length = n + 1 by rw [HN1.out, List.length_append, hn]; rfl)
        have HNT := Lib.hid (show tws (befTo xs (k + 1)) = tws (befTo xs k) ++ twl (turnL xs (k + 1)) by rw [HN1.out, tws_snoc])
        rw [hn] at hO hlen
        clear hb hat hul hk64 hn
        go_wp2_with (first | (refine wpList_load_tower rfl _ rfl w.heap.size xs h9 rfl hbT ?_))
        refine c5.mono ?_
        rintro e w5 ⟨rfl, hb5⟩
        have hbT5 := hbT.below hb5 hbT.lt
        have hO5 := Lib.hid (hO.out.same hb5)
        have hB5 := hbr.trans (hb5.mono hbr.size)
        have hz5 := hbT5.lt
        clear hb5 hO hbr hbT c5 hck
        go_wp2_with (first | (refine wpList_build_tower rfl _ rfl (twl (turnL xs (k + 1))) HUL.out rfl ?_) | (at_builtin; refine wpList_append_Own _ rfl _ _ 79 rfl 86 i0 _ 9 72 Try.underlying79 HI.out HZ0.out HZ1.out HZ2.out rfl (by omega) u3 n (tws (befTo xs k)) rfl (hO5.out.alloc _) (w.heap.size + 1) hf _ 1 1 (twl (turnL xs (k + 1))) rfl (by rw [HUL.out]) (World.news_of_block (heap_alloc_new _ _)) (twl_one _) (by simp; omega) (by unfold maxLen; omega) (by omega) ?_))
        intro v6 w6 ho6 hf6 hgr6
        have hbT6 := (hbT5.alloc _).grown hgr6 HA2.out
        have hB6 := (hB5.alloc (Nat.le_of_lt hz5) _).grown hgr6 (by simp; omega) (fun b hb => Nat.le_of_succ_le (hf b hb))
        have HO6 := Lib.hid (show Own w6 9 v6 (befTo xs (k + 1)).length (tws (befTo xs (k + 1))) by rw [HNL.out, HNT.out]; exact ho6)
        clear hO5 hB5 hbT5 hgr6 ho6
        go_wp2
        go_roundw
        case rel => exact ⟨k + 1, by omega, by omega, by go_num, HO6, hf6, hbT6, hB6⟩
        case measure => simp [intOf] <;> omega
      | false =>
        have HN1 := Lib.hid (befTo_no hb)
        obtain ⟨x, hx⟩ : ∃ x, xs.getD k 0 = x := ⟨_, rfl⟩
        rw [hx] at hck
        have he : (x == ((k : Int) + 1)) = false := by
          unfold befB at hb
          have := of_decide_eq_false hb
          rw [beq_eq_false_iff_ne]
          intro e
          exact this ⟨hk1, by rw [hx]; exact e⟩
        clear hb hx
        go_wp2
        go_roundw
        case rel => exact ⟨k + 1, by omega, by omega, by go_num, Lib.hid (by rw [HN1.out]; exact hO.out), hf, hbT, hbr⟩
        case measure => simp [intOf] <;> omega
    · obtain rfl : k = 9 := by omega
      have HO := Lib.hid (show Own wr 9 u3 (befL xs).length (tws (befL xs)) by rw [← HF.out]; exact hO.out)
      clear hO
      go_wp2
      go_ret
      exact ⟨_, rfl, HO.out, fun b hb => Nat.le_of_succ_le (hf b hb), hbr⟩

end Go.Proofs.Ytmlikchhkblohaa

