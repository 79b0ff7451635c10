import Derived.Test.YtfcbaegkppkfkaaMc
import Derived.Test.YtfcbaegkppkfkaaWV
namespace Go.Pan
/-- the numbers seen, as bits -/
def mskN : List Int → Nat
  | [] => 0
  | x :: P => 2 ^ x.toNat ||| mskN P
theorem mskN_snoc (P : List Int) (x : Int) : mskN (P ++ [x]) = mskN P ||| 2 ^ x.toNat := by
  induction P with
  | nil => simp [mskN]
  | cons y P ih => rw [List.cons_append, mskN, ih, mskN, Nat.or_assoc]
theorem mskN_bit (P : List Int) (i : Nat) : (mskN P).testBit i = decide (∃ x ∈ P, x.toNat = i) := by
  induction P with
  | nil => simp [mskN]
  | cons x P ih =>
    rw [mskN, Nat.testBit_or, ih, Nat.testBit_two_pow]
    by_cases h : x.toNat = i
    · simp [h]
    · simp [h]
theorem mskN_lt (P : List Int) (h : ∀ x ∈ P, x ≤ 9) : mskN P < 1024 := by
  induction P with
  | nil => simp [mskN]
  | cons x P ih =>
    have h1 := ih fun y hy => h y (by simp [hy])
    have h2 := h x (by simp)
    have h3 : 2 ^ x.toNat < 2 ^ 10 := Nat.pow_lt_pow_right (by omega) (by omega)
    exact Nat.or_lt_two_pow (n := 10) h3 h1
theorem mskN_div (P : List Int) {x : Int} (h0 : 0 ≤ x) (hp : ∀ y ∈ P, 0 ≤ y) : (mskN P / 2 ^ x.toNat % 2 = 1) ↔ x ∈ P := by
  have h := mskN_bit P x.toNat
  rw [Nat.testBit_eq_decide_div_mod_eq] at h
  have h2 := decide_eq_decide.1 h
  rw [h2]
  constructor
  · rintro ⟨y, hy, e⟩
    have := hp y hy
    have e2 : y = x := by omega
    rw [← e2]; exact hy
  · intro h; exact ⟨x, h, rfl⟩
/-- the numbers seen are in range and no two the same -/
def GPr (T : Nat) (P : List Int) : Prop := (∀ y ∈ P, 1 ≤ y ∧ y ≤ (T : Int)) ∧ P.Nodup
theorem flat_pre (R : List (List Int)) {k j : Nat} (hk : k < R.length) (hj : j < R[k].length) : ∃ rest, ((R.take k).flatten ++ R[k].take j) ++ R[k][j] :: rest = R.flatten := by
  refine ⟨R[k].drop (j + 1) ++ (R.drop (k + 1)).flatten, ?_⟩
  have h1 : R.flatten = (R.take k).flatten ++ (R[k] ++ (R.drop (k + 1)).flatten) := by
    conv => lhs; rw [← List.take_append_drop k R, List.drop_eq_getElem_cons hk, List.flatten_append, List.flatten_cons]
  have h2 : R[k].take j ++ (R[k][j] :: R[k].drop (j + 1)) = R[k] := by rw [← List.drop_eq_getElem_cons hj, List.take_append_drop]
  have h3 : R[k] ++ (R.drop (k + 1)).flatten = (R[k].take j ++ (R[k][j] :: R[k].drop (j + 1))) ++ (R.drop (k + 1)).flatten := by rw [h2]
  rw [h1, h3]
  simp only [List.append_assoc, List.cons_append]
theorem flat_len (R : List (List Int)) : R.flatten.length = pre R R.length := by
  unfold pre
  rw [List.take_length, List.length_flatten]
theorem bad_range {R : List (List Int)} {x : Int} (hx : x ∈ R.flatten) (h : ¬ (1 ≤ x ∧ x ≤ (pre R R.length : Nat))) : goodB R.flatten = false := by
  unfold goodB
  rw [decide_eq_false]
  intro hg
  have := hg.2.2.1 x hx
  rw [flat_len] at this
  exact h this
theorem bad_twice {R : List (List Int)} {P rest : List Int} {x : Int} (h : P ++ x :: rest = R.flatten) (hx : x ∈ P) : goodB R.flatten = false := by
  unfold goodB
  rw [decide_eq_false]
  intro hg
  have hn := hg.2.2.2
  rw [← h, List.nodup_append] at hn
  exact hn.2.2 x hx x (by simp) rfl
theorem few_all {R : List (List Int)} (hs : shpB (lensL R) = true) : pre R R.length ≤ 9 := by
  have h0 := of_decide_eq_true hs
  have hsum : (lensL R).sum = (pre R R.length : Nat) := by
    unfold pre lensL
    rw [List.take_length]
    clear hs h0
    induction R with
    | nil => rfl
    | cons a l ih => simp at ih ⊢; omega
  have := h0.2.2.2.2
  omega
theorem good_all {R : List (List Int)} (hs : shpB (lensL R) = true) (h : GPr (pre R R.length) R.flatten) : goodB R.flatten = true := by
  have h0 := of_decide_eq_true hs
  have hp : 1 ≤ pre R R.length := by
    have h1 : 0 < R.length := by have := h0.1; rw [lensL_length] at this; omega
    have h2 := h0.2.2.1 (R[0].length : Int) (List.mem_map.2 ⟨R[0], List.getElem_mem h1, rfl⟩)
    have h3 := row_le_all R 0 h1
    omega
  have h9 : pre R R.length ≤ 9 := few_all hs
  exact goodB_iff.2 ⟨by rw [flat_len]; exact hp, by rw [flat_len]; exact h9, fun x hx => by rw [flat_len]; exact h.1 x hx, h.2⟩

end Go.Pan

namespace Go.Proofs.Ytfcbaegkppkfkaa
open Go Go.RowKit Go.Pan

theorem run_shrX {P : Program} (M : Nat) (x : Int) (u : World) (h0 : 0 ≤ x) (h9 : x ≤ 9) : (Op.shift .shr .i64 (M : Int) .i64 x).run P u = .ok (.int .i64 ((M / 2 ^ x.toNat : Nat) : Int)) u := by
  unfold Op.shift
  have h1 : ¬ x < 0 := by omega
  have h2 : min x.toNat (IntKind.bits .i64) = x.toNat := by
    have : IntKind.bits .i64 = 64 := rfl
    omega
  simp only [if_neg h1, h2, Sem.run_pure]
  congr 2
  obtain ⟨n, rfl⟩ : ∃ n : Nat, x = n := ⟨x.toNat, by omega⟩
  have hn : n ≤ 9 := by omega
  rw [Int.toNat_natCast]
  have e : ((2 : Int) ^ n) = ((2 ^ n : Nat) : Int) := by push_cast; rfl
  rw [e, Int.fdiv_eq_ediv_of_nonneg _ (Int.natCast_nonneg _)]
  congr 1
theorem run_shlX {P : Program} (x : Int) (u : World) (h0 : 0 ≤ x) (h9 : x ≤ 9) : (Op.shift .shl .i64 1 .i64 x).run P u = .ok (.int .i64 ((2 ^ x.toNat : Nat) : Int)) u := by
  unfold Op.shift
  have h1 : ¬ x < 0 := by omega
  have h2 : min x.toNat (IntKind.bits .i64) = x.toNat := by
    have : IntKind.bits .i64 = 64 := rfl
    omega
  simp only [if_neg h1, h2, Sem.run_pure]
  congr 2
  obtain ⟨n, rfl⟩ : ∃ n : Nat, x = n := ⟨x.toNat, by omega⟩
  have : n ≤ 9 := by omega
  rw [Int.toNat_natCast]
  rcases n with _ | _ | _ | _ | _ | _ | _ | _ | _ | _ | n <;> first | rfl | omega
theorem run_orX {P : Program} (a b : Nat) (u : World) (ha : a < 1024) (hb : b < 1024) : (Op.intBits .or .i64 (a : Int) (b : Int)).run P u = .ok (.int .i64 ((a ||| b : Nat) : Int)) u := by
  have h := Nat.or_lt_two_pow (n := 10) ha hb
  have e : ((BitVec.ofInt (IntKind.bits .i64) (a : Int)) ||| (BitVec.ofInt (IntKind.bits .i64) (b : Int))).toNat = (a ||| b) := by
    show ((BitVec.ofInt 64 (a : Int)) ||| (BitVec.ofInt 64 (b : Int))).toNat = (a ||| b)
    rw [BitVec.toNat_or, BitVec.toNat_ofInt, BitVec.toNat_ofInt]
    congr 1 <;> omega
  simp only [Op.intBits, Sem.run_pure, e]
  congr 2
  exact IntWalk.i64_in _ (by omega)

end Go.Proofs.Ytfcbaegkppkfkaa
