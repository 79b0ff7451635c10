import Derived.Test.YtfcbaegkppkfkaaI1
import Derived.Test.YtfcbaegkppkfkaaS3
import Derived.BigRegion
import Derived.Outline
namespace Go.Proofs.Ytfcbaegkppkfkaa
open Go Go.RowKit Go.Pan

theorem mid_set {α : Type} (pre X post : List α) (k : Nat) (u : α) (h : k < X.length) : (pre ++ X ++ post).set (pre.length + k) u = pre ++ X.set k u ++ post := by
  rw [List.append_assoc, List.set_append_right _ _ (by omega), Nat.add_sub_cancel_left, List.set_append_left _ _ h, List.append_assoc]
theorem mid_get {α : Type} (pre X post : List α) (k : Nat) (h : k < X.length) : (pre ++ X ++ post)[pre.length + k]? = some X[k] := by
  rw [List.append_assoc, List.getElem?_append_right (by omega), Nat.add_sub_cancel_left, List.getElem?_append_left h, List.getElem?_eq_getElem h]

theorem Own.blk {w : World} {ad : Option Addr} {n cap : Nat} {xs : List Int} (h : Own w 1 (.slice ad n cap) n (xs.map iv)) (hc : 0 < cap) :
    ∃ g off ty pre post, ad = some ⟨g, off, none⟩ ∧ Blk w g ty (pre ++ xs.map iv ++ post) ∧ pre.length = off ∧ off + cap ≤ (pre ++ xs.map iv ++ post).length := by
  obtain ⟨ad', cap', hv, h1, h2, h3, h4, h⟩ := h
  simp only [Value.slice.injEq, true_and] at hv
  obtain ⟨rfl, rfl⟩ := hv
  cases ad with
  | none => have := h4 rfl; omega
  | some a =>
    obtain ⟨hs, cur, ty, hh, r, hcc⟩ := h a rfl
    obtain ⟨g, off, sp⟩ := a
    simp only at hs hh r hcc
    subst hs
    have hmid : (cur.toList.drop off).take n = xs.map iv := by
      apply List.ext_getElem?
      intro j
      rw [List.getElem?_take, List.getElem?_drop]
      by_cases hj : j < n
      · rw [if_pos hj]
        have := hcc j (by omega)
        rw [← this]
        simp
      · rw [if_neg hj, List.getElem?_eq_none (by rw [h1]; omega)]
    have hall : cur.toList.take off ++ xs.map iv ++ cur.toList.drop (off + n) = cur.toList := by
      rw [← hmid, List.append_assoc, ← List.drop_drop, List.take_append_drop, List.take_append_drop]
    refine ⟨g, off, ty, cur.toList.take off, cur.toList.drop (off + n), rfl, ?_, ?_, ?_⟩
    · unfold Blk; rw [hall]; exact hh
    · rw [List.length_take, Array.length_toList]; omega
    · rw [hall, Array.length_toList]; omega

theorem Own.of_blk {w : World} {g off n cap : Nat} {ty : TypeId} {pre post : List Value} {xs : List Int} (h : Blk w g ty (pre ++ xs.map iv ++ post)) (ho : pre.length = off) (hn : xs.length = n) (hc : n ≤ cap) (hm : cap ≤ maxLen) (hl : off + cap ≤ (pre ++ xs.map iv ++ post).length) :
    Own w 1 (.slice (some ⟨g, off, none⟩) n cap) n (xs.map iv) := by
  subst ho
  subst hn
  refine ⟨_, cap, rfl, by simp, hc, hm, by simp, fun a ha => ?_⟩
  cases ha
  refine ⟨rfl, _, ty, h, by simpa using hl, fun j hj => ?_⟩
  simp only [List.getElem?_toArray]
  rw [List.append_assoc, List.getElem?_append_right (by omega), Nat.add_sub_cancel_left, List.getElem?_append_left (by simpa using hj)]

/-- 'slices.Clip' -/
theorem Clip_any (v : Value) (xs : List Int) (w : World) (hv : OwnI w v xs) :
    Calls Try.prog 55 #[v] w fun e w' => ∃ r, e = .returned r ∧ OwnI w r xs ∧ r.ownBlock = v.ownBlock ∧ w = w' := by
  obtain ⟨ad, cap, rfl, hc, hm, hnil⟩ := hv.shape
  go_enter Try.func55, Try.ntmps55
  go_wp2
  go_ret
  exact ⟨.slice ad xs.length xs.length, rfl, Own.clip hv, by cases ad <;> rfl, rfl⟩

theorem splice_twl (xs : List Int) (_h : xs.length ≤ 9) : splice (twl []) 0 (xs.map iv) = twl xs := by
  unfold splice twl
  simp only [List.take_zero, List.nil_append, List.length_nil, Nat.sub_zero, List.length_map, Nat.zero_add, List.map_append, List.map_replicate, List.drop_replicate]

theorem Try.infoI : (Try.prog.info? 3).map (·.size) = some 1 := by kernel_rfl

theorem tw_mid (xs : List Int) (k : Nat) (hk : k ≤ xs.length) :
    twl xs = [] ++ (xs.take k).map iv ++ (twl xs).drop k ∧ [] ++ (xs.take k).reverse.map iv ++ (twl xs).drop k = twl (turnL xs k) := by
  constructor
  · conv => lhs; rw [← List.take_append_drop k (twl xs)]
    rw [List.nil_append]
    congr 1
    unfold twl
    rw [← List.map_take, List.take_append_of_le_length hk]
  · unfold twl
    rw [List.nil_append, ← List.map_drop, ← List.map_append, turnL_length, List.drop_append_of_le_length hk, ← List.append_assoc]
    rfl

theorem splice_made (xs : List Int) : splice (List.replicate xs.length (iv 0)) 0 (xs.map iv) = xs.map iv := by
  unfold splice
  simp

end Go.Proofs.Ytfcbaegkppkfkaa

