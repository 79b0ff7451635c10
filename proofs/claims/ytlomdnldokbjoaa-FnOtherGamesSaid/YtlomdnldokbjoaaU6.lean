import Derived.Test.YtlomdnldokbjoaaU4
import Derived.Test.YtlomdnldokbjoaaTwB
import Derived.Test.YtlomdnldokbjoaaS15
namespace Go.Pan
/-- the cells of towers, one behind the other -/
def tws (L : List (List Int)) : List Value := L.flatMap twl
theorem tws_nil : tws [] = [] := rfl
theorem tws_append (A B : List (List Int)) : tws (A ++ B) = tws A ++ tws B := by simp [tws]
theorem tws_one (q : List Int) : tws [q] = twl q := by simp [tws]
theorem tws_snoc (A : List (List Int)) (q : List Int) : tws (A ++ [q]) = tws A ++ twl q := by rw [tws_append, tws_one]
theorem tws_length : ∀ (L : List (List Int)), (∀ q ∈ L, q.length ≤ 9) → (tws L).length = L.length * 9
  | [], _ => rfl
  | q :: L, h => by
    rw [show q :: L = [q] ++ L from rfl, tws_append, tws_one, List.length_append, twl_length q (h q (List.mem_cons_self ..)), tws_length L (fun r hr => h r (List.mem_cons_of_mem _ hr))]
    simp only [List.length_append, List.length_cons, List.length_nil]
    omega
theorem tws_get : ∀ (L : List (List Int)) (i c : Nat) (hi : i < L.length), (∀ q ∈ L, q.length ≤ 9) → c < 9 → (tws L)[i * 9 + c]? = (twl L[i])[c]?
  | [], i, c, hi, _, _ => absurd hi (by simp)
  | q :: L, i, c, hi, h, hc => by
    have h9 := twl_length q (h q (List.mem_cons_self ..))
    have e : tws (q :: L) = twl q ++ tws L := by rw [show q :: L = [q] ++ L from rfl, tws_append, tws_one]
    rw [e]
    cases i with
    | zero =>
      rw [List.getElem?_append_left (by omega)]
      simp
    | succ i =>
      rw [List.getElem?_append_right (by omega), h9, show (i + 1) * 9 + c - 9 = i * 9 + c by omega]
      have := tws_get L i c (by simpa using hi) (fun r hr => h r (List.mem_cons_of_mem _ hr)) hc
      rw [this]
      rfl
theorem tws_one_cell (L : List (List Int)) : ∀ v ∈ tws L, v.oneCell' = true := by
  intro v hv
  obtain ⟨q, _, hq⟩ := List.mem_flatMap.1 hv
  simp only [twl, List.mem_map] at hq
  obtain ⟨x, _, rfl⟩ := hq
  rfl

end Go.Pan

namespace Go.Proofs.Ytlomdnldokbjoaa
open Go Go.RowKit Go.Pan

end Go.Proofs.Ytlomdnldokbjoaa

