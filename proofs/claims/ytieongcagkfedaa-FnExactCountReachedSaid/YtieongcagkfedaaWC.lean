import Derived.Test.YtieongcagkfedaaTIn
import Derived.Test.YtieongcagkfedaaS2
import Derived.Test.YtieongcagkfedaaV2
import Derived.Test.YtieongcagkfedaaSl
import Derived.Deep.DeepCutAuto
namespace Go.Pan
-- insertions
def delL (xs : List Int) (a : Nat) : List Int := xs.take a ++ xs.drop (a + 1)
theorem delL_length {xs : List Int} {a : Nat} (h : a < xs.length) : (delL xs a).length = xs.length - 1 := by unfold delL; simp; omega
def insL (xs : List Int) (a b : Nat) : List Int := (delL xs a).take b ++ [xs.getD a 0] ++ (delL xs a).drop b
theorem insL_length {xs : List Int} {a b : Nat} (h : a < xs.length) : (insL xs a b).length = xs.length := by
  have := delL_length h
  unfold insL
  simp
  omega
theorem insL_perm {xs : List Int} {a b : Nat} (h : a < xs.length) : (insL xs a b).Perm xs := by
  have h1 : (insL xs a b).Perm ([xs.getD a 0] ++ (delL xs a)) := by
    unfold insL
    have h2 := (List.perm_append_comm (l₁ := (delL xs a).take b) (l₂ := [xs.getD a 0])).append_right ((delL xs a).drop b)
    rw [List.append_assoc [xs.getD a 0], List.take_append_drop] at h2
    exact h2
  have h3 : xs = xs.take a ++ ([xs.getD a 0] ++ xs.drop (a + 1)) := by
    rw [getD_eq h, List.singleton_append, List.getElem_cons_drop, List.take_append_drop]
  refine h1.trans ?_
  have h4 : ([xs.getD a 0] ++ delL xs a).Perm (xs.take a ++ ([xs.getD a 0] ++ xs.drop (a + 1))) := by
    unfold delL
    rw [← List.append_assoc, ← List.append_assoc]
    exact (List.perm_append_comm).append_right _
  rw [← h3] at h4
  exact h4
def insT (xs : List Int) (p : Int × Int) : List Int := insL xs (p.1 - 1).toNat (p.2 - 1).toNat
def insB (n : Int) (p : Int × Int) : Bool := inB p.1 1 n && inB p.2 1 n
theorem insB_iff {n : Int} {p : Int × Int} : insB n p = true ↔ 1 ≤ p.1 ∧ p.1 ≤ n ∧ 1 ≤ p.2 ∧ p.2 ≤ n := by
  simp only [insB, Bool.and_eq_true, inB_iff]
  omega
theorem insT_perm {xs : List Int} {p : Int × Int} (h : insB xs.length p = true) : (insT xs p).Perm xs := insL_perm (by have := insB_iff.1 h; omega)
theorem insT_length {xs : List Int} {n : Int} {p : Int × Int} (h : insB n p = true) (hn : (xs.length : Int) = n) : (insT xs p).length = xs.length := (insT_perm (by rw [hn]; exact h)).length_eq
def playI (xs : List Int) (l : List (Int × Int)) : List Int := l.foldl insT xs
theorem playI_snoc (xs : List Int) (l : List (Int × Int)) (p : Int × Int) : playI xs (l ++ [p]) = insT (playI xs l) p := by simp [playI]
theorem playI_take_succ (xs : List Int) (l : List (Int × Int)) (k : Nat) (h : k < l.length) : playI xs (l.take (k + 1)) = insT (playI xs (l.take k)) l[k] := by
  rw [List.take_succ_eq_append_getElem h, playI_snoc]
def Inss (n : Int) (l : List (Int × Int)) : Prop := ∀ p ∈ l, insB n p = true
theorem playI_perm {n : Int} : ∀ (l : List (Int × Int)) (xs : List Int), (xs.length : Int) = n → Inss n l → (playI xs l).Perm xs
  | [], _, _, _ => List.Perm.refl _
  | p :: l, xs, hn, h => by
    have h1 := insT_perm (xs := xs) (p := p) (by rw [hn]; exact h p (List.mem_cons_self))
    exact (playI_perm l (insT xs p) (by rw [h1.length_eq]; exact hn) (fun q hq => h q (List.mem_cons_of_mem _ hq))).trans h1
theorem playI_length {l : List (Int × Int)} {xs : List Int} (h : Inss xs.length l) : (playI xs l).length = xs.length := (playI_perm l xs rfl h).length_eq
instance (n : Int) (l : List (Int × Int)) : Decidable (Inss n l) := by unfold Inss; infer_instance
def inssB (n : Int) (l : List (Int × Int)) : Bool := decide (Inss n l)
theorem inssB_iff {n : Int} {l : List (Int × Int)} : inssB n l = true ↔ Inss n l := by simp [inssB]
theorem Inss.snoc {n : Int} {l : List (Int × Int)} {p : Int × Int} (h : Inss n l) (hp : insB n p = true) : Inss n (l ++ [p]) := fun q hq => by
  rcases List.mem_append.1 hq with h1 | h1
  · exact h q h1
  · obtain rfl := List.mem_singleton.1 h1; exact hp
-- what the functions return
def okMove (xs : List Int) (p : Int × Int) : Bool := goodB xs && insB xs.length p
def mMoveOne (xs : List Int) (p : Int × Int) : List Int := if okMove xs p = true then insT xs p else []
def okMoves (xs : List Int) (l : List (Int × Int)) : Bool := goodB xs && (decide ((l.length : Int) ≤ 40) && inssB xs.length l)
def mPlayMoves (xs : List Int) (l : List (Int × Int)) : List Int := if okMoves xs l = true then playI xs l else []
theorem len_mMoveOne (xs : List Int) (p : Int × Int) : (mMoveOne xs p).length ≤ 1048576 := by
  unfold mMoveOne
  split
  · rename_i h
    simp only [okMove, Bool.and_eq_true, goodB_iff] at h
    rw [insT_length h.2 rfl]; have := h.1.le9; omega
  · simp
theorem len_mPlayMoves (xs : List Int) (l : List (Int × Int)) : (mPlayMoves xs l).length ≤ 1048576 := by
  unfold mPlayMoves
  split
  · rename_i h
    simp only [okMoves, Bool.and_eq_true, goodB_iff, inssB_iff] at h
    rw [playI_length h.2.2]; have := h.1.le9; omega
  · simp

end Go.Pan

namespace Go.Proofs.Ytieongcagkfedaa
open Go Go.RowKit Go.Pan

theorem OwnI.take0 {w : World} {ad : Option Addr} {cap a : Nat} {xs T : List Int} (h : OwnI w (.slice ad xs.length cap) xs) (hT : xs.take a = T) (ha : a ≤ xs.length) : OwnI w (.slice ad a cap) T := by
  subst hT
  exact OwnI.take h ha

theorem okMoves_bad {xs : List Int} {l : List (Int × Int)} {k : Nat} (hk : k < l.length) (h : insB xs.length l[k] = false) : okMoves xs l = false := by
  unfold okMoves
  have : inssB xs.length l = false := by
    cases hs : inssB xs.length l with
    | false => rfl
    | true => have := inssB_iff.1 hs _ (List.getElem_mem hk); rw [h] at this; cases this
  rw [this, Bool.and_false, Bool.and_false]
theorem okMoves_all {xs : List Int} {l : List (Int × Int)} (hg : goodB xs = true) (h40 : (l.length : Int) ≤ 40) (h : Inss xs.length (l.take l.length)) : okMoves xs l = true := by
  rw [List.take_length] at h
  unfold okMoves
  rw [hg, decide_eq_true h40, inssB_iff.2 h]
  rfl
theorem inss_take_succ {n : Int} {l : List (Int × Int)} {k : Nat} (hk : k < l.length) (h : Inss n (l.take k)) (hp : insB n l[k] = true) : Inss n (l.take (k + 1)) := by
  rw [List.take_succ_eq_append_getElem hk]
  exact h.snoc hp

end Go.Proofs.Ytieongcagkfedaa

