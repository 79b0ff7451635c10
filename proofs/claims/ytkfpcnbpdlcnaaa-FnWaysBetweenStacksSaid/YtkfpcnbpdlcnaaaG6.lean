import Derived.Test.YtkfpcnbpdlcnaaaG5
namespace Go.Pan
def negL (n k : Nat) : List Int := List.replicate k (-1) ++ List.replicate (fact n - k) 0
theorem negL_zero (n : Nat) : negL n 0 = List.replicate (fact n) 0 := by simp [negL]
theorem negL_all (n : Nat) : negL n (fact n) = List.replicate (fact n) (-1) := by simp [negL]
theorem negL_step (n k : Nat) (h : k < fact n) : (negL n k).set k (-1) = negL n (k + 1) := by
  apply List.ext_getElem (by simp [negL]; omega)
  intro i h1 h2
  have hl : i < fact n := by simp [negL] at h1; omega
  simp only [negL, List.getElem_set, List.getElem_append, List.length_replicate, List.getElem_replicate]
  by_cases e : k = i
  · subst e; simp
  · rw [if_neg e]
    by_cases h3 : i < k
    · rw [dif_pos h3, dif_pos (by omega)]
    · rw [dif_neg h3, dif_neg (by omega)]
theorem Fl_start {n : Nat} (hn : Cnt n) : (List.replicate (fact n) (-1 : Int)).set 0 0 = Fl n [0] := by
  apply List.ext_getElem (by simp [Fl])
  intro i h1 h2
  simp only [List.getElem_set, List.getElem_replicate, Fl, List.getElem_map, List.getElem_range, List.mem_singleton]
  by_cases e : 0 = i
  · subst e; simp [dS_zero hn]
  · have e' : ¬ i = 0 := by omega
    rw [if_neg e, if_neg e']
theorem Xl_start {n : Nat} (hn : Cnt n) : (List.replicate (fact n) ([] : List Int)).set 0 (ramp 1 n) = Xl n [0] := by
  apply List.ext_getElem (by simp [Xl])
  intro i h1 h2
  simp only [List.getElem_set, List.getElem_replicate, Xl, List.getElem_map, List.getElem_range, List.mem_singleton]
  by_cases e : 0 = i
  · subst e; simp [un_zero hn]
  · have e' : ¬ i = 0 := by omega
    rw [if_neg e, if_neg e']

end Go.Pan

