import Derived.Test.YticpdlgnaphnkaaTw
import Derived.Test.YticpdlgnaphnkaaG7
import Derived.Maps.RangeWalk
import Derived.Maps.OwnSet
import Derived.Maps.OwnOps
import Derived.WideKeyArr2
import Derived.WideKeyEntry
import Derived.Deep.RegionLaw
namespace Go.Pan
open Go Go.RowKit

section
open Go.ChangeShapes Go.WideShapes Go.MapKept Go.ChangeMaps Go.WideElems
variable {H : Type} {P : Program} {w : World} {t k e : TypeId} {b m : Nat} {D : DataW H}
/-- 'm[k] op= v': the entry is found or laid, and stored into later -/
theorem owns_entry {q : IntKind} (h : w.ownsMap P k (plainElem P e) b m D) (K0 : Go.WideMaps.KeyLaw P k) (ht : P.underlying t = some (.map k e)) (he : P.underlying e = some (.int q)) (hz : ∀ u : World, (zeroValue e).run P u = .ok (.int q 0) u)
    (hm : m + 1 < maxLen) {key : Value} {kl : Lit} (hkey : keyOf P k key = some kl) :
    ∃ (c : Int) (st : Nat) (w1 : World), (Instr.mapEntry t (.map (some b)) key).run P w = .ok (.tuple #[.int q c, goInt st]) w1 ∧ D.atKey kl (.lit (.int q 0)) = .lit (.int q c) ∧ (Lit.int q c).wf = true ∧
      w1.ownsMap P k (plainElem P e) b (m + 1) (D.put kl (.lit (.int q c))) ∧ w.grownBy w1 (some b) ∧ w1.heap.size = w.heap.size ∧
      ∀ (w2 : World) (x : Int), w2.heap[b]? = w1.heap[b]? → (Lit.int q x).wf = true → ∃ w3, (Instr.entryStore t (.map (some b)) (goInt st) (.int q x)).run P w2 = .ok () w3 ∧
        w3.ownsMap P k (plainElem P e) b (m + 1) (D.put kl (.lit (.int q x))) ∧ w2.grownBy w3 (some b) ∧ w3.heap.size = w2.heap.size := by
  have KK : Maps.Keyed P k := Maps.Keyed.of_law K0
  have hw0 : (Lit.int q 0).wf = true := by cases q <;> decide
  obtain ⟨c, hlk, hat, hwc⟩ := h.lookup_int KK ht he (hz w) hkey
  have h0 := h
  obtain ⟨es, clock, hb, F, hs, hD⟩ := h0
  have hupd : ∀ x : Int, (Lit.int q x).wf = true → ∃ w', (Instr.mapUpdate t (.map (some b)) key (.int q x)).run P w = .ok () w' ∧ w'.ownsMap P k (plainElem P e) b (m + 1) (D.put kl (.lit (.int q x))) ∧ w.grownBy w' (some b) :=
    fun x hx => h.update KK ht (by omega) hkey (plainElem_int he hx)
  obtain ⟨v0, st, es1, clock1, hrun, hv0, hst⟩ := entry_then_store K0 ht hz hb F hkey
  -- what mapEntry yields is what is looked up
  have hsame : v0 = .int q c ∧ ∃ w', (Instr.mapUpdate t (.map (some b)) key (.int q c)).run P w = .ok () w' ∧ w' = setBlock w b (.map es1 clock1) := by
    rcases K0.find w hkey es.toList F.keys with ⟨f1, f2⟩ | ⟨j, e0, f1, f2, f3⟩
    · have hv : v0 = .int q 0 := by
        rcases hv0 with ⟨e0, he0, hk0, _⟩ | ⟨_, hz0⟩
        · exact absurd hk0 (f2 e0 he0)
        · exact hz0
      have hl : (Instr.lookup t (.map (some b)) key false).run P w = .ok (.int q 0) w := by
        simp [Instr.lookup, run_underlying ht, MapKept.run_getObj_map hb, K0.check w es.isEmpty hkey, f1, hz, Result.andThen]
      rw [hl] at hlk
      simp only [Result.ok.injEq, Value.int.injEq, and_true, true_and] at hlk
      subst hlk
      refine ⟨hv, _, by simp [Instr.mapUpdate, run_underlying ht, MapKept.run_getObj_map hb, K0.check w false hkey, f1, MapKept.run_setObj_map _ hb, Result.andThen]; rfl, ?_⟩
      have : (Instr.mapEntry t (.map (some b)) key).run P w = .ok (.tuple #[.int q 0, goInt clock]) (setBlock w b (.map (es.push ⟨key, .int q 0, clock⟩) (clock + 1))) := by
        simp [Instr.mapEntry, run_underlying ht, MapKept.run_getObj_map hb, K0.check w false hkey, f1, hz, MapKept.run_setObj_map _ hb, Result.andThen, setBlock]
      rw [this] at hrun
      simp only [Result.ok.injEq] at hrun
      exact hrun.2
    · have hj : es[j]? = some e0 := by simpa using f2
      have hself : es.modify j (fun e => { e with key := key }) = es := by
        apply Array.ext'
        rw [Array.toList_modify, modify_eq_set _ _ _ _ f2]
        have : ({ e0 with key := key } : MapEntry) = e0 := by rw [← f3]
        rw [this]
        exact set_self _ _ _ f2
      have hme : (Instr.mapEntry t (.map (some b)) key).run P w = .ok (.tuple #[e0.val, goInt e0.born]) (setBlock w b (.map es clock)) := by
        simp [Instr.mapEntry, run_underlying ht, MapKept.run_getObj_map hb, K0.check w false hkey, f1, hj, f3, K0.stays w hkey, hself, MapKept.run_setObj_map _ hb, Result.andThen, setBlock]
      rw [hme] at hrun
      simp only [Result.ok.injEq, Value.tuple.injEq, Array.mk.injEq, List.cons.injEq] at hrun
      have hl : (Instr.lookup t (.map (some b)) key false).run P w = .ok e0.val w := by
        simp [Instr.lookup, run_underlying ht, MapKept.run_getObj_map hb, K0.check w es.isEmpty hkey, f1, hj, Result.andThen]
      rw [hl] at hlk
      simp only [Result.ok.injEq, and_true] at hlk
      refine ⟨by rw [← hrun.1.1, hlk], _, by simp [Instr.mapUpdate, run_underlying ht, MapKept.run_getObj_map hb, K0.check w false hkey, f1, hj, f3, K0.stays w hkey, MapKept.run_setObj_map _ hb, Result.andThen]; rfl, ?_⟩
      rw [← hrun.2]
      have hmod : es.modify j (fun e' => { e' with key := key, val := .int q c }) = es := by
        apply Array.ext'
        rw [Array.toList_modify, modify_eq_set _ _ _ _ f2]
        have : ({ e0 with key := key, val := .int q c } : MapEntry) = e0 := by rw [← f3, ← hlk]
        rw [this]
        exact set_self _ _ _ f2
      unfold setBlock
      rw [hmod]
  obtain ⟨rfl, w', hup, hw'⟩ := hsame
  obtain ⟨w'', hup2, ho2, hg2⟩ := hupd c hwc
  rw [hup2] at hup
  simp only [Result.ok.injEq, true_and] at hup
  subst hup
  subst hw'
  have hsz : (setBlock w b (.map es1 clock1)).heap.size = w.heap.size := by simp [setBlock]
  refine ⟨c, st, _, hrun, hat, hwc, ho2, hg2, hsz, fun w2 x hw2 hx => ?_⟩
  rw [heap_setBlock_same hb] at hw2
  obtain ⟨es', clock', hsr, hur⟩ := hst w2 (.int q x) hw2
  obtain ⟨w3, hup3, ho3, hg3⟩ := hupd x hx
  rw [hur] at hup3
  simp only [Result.ok.injEq, true_and] at hup3
  subst hup3
  refine ⟨_, hsr, ?_, ⟨rfl, rfl, rfl, by simp [setBlock], fun i _ hi => heap_setBlock_other hw2 _ (fun e => hi (by rw [e]))⟩, by simp [setBlock]⟩
  obtain ⟨es3, clock3, hb3, r⟩ := ho3
  rw [heap_setBlock_same hb] at hb3
  exact ⟨es3, clock3, by rw [heap_setBlock_same hw2]; exact hb3, r⟩
end
end Go.Pan
