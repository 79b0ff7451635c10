import Derived.Test.YtieongcagkfedaaTw
import Derived.Test.YtieongcagkfedaaKl
import Derived.Test.YtieongcagkfedaaGA
import Derived.Test.YtieongcagkfedaaI1
import Derived.Test.YtieongcagkfedaaI2
import Derived.Maps.RangeWalk
import Derived.Maps.OwnSet
import Derived.Maps.OwnOps
import Derived.WideKeyArr2
import Derived.WideKeyEntry
import Derived.Deep.RegionLaw
import Derived.Maps.Ext
import Derived.Deep.DeepCutAuto
import Derived.IntWalk
namespace Go.Pan
open Go Go.RowKit

section
open Go.ChangeShapes Go.WideShapes Go.MapKept Go.ChangeMaps Go.WideElems
variable {H : Type} {P : Program} {w : World} {t k e : TypeId} {b m : Nat} {D : DataW H}
/-- 'm[k] op= v': the entry is found or laid, and stored into later -/
theorem owns_entry {q : IntKind} (h : w.ownsMap P k (plainElem P e) b m D) (K0 : Go.WideMaps.KeyLaw P k) (ht : P.underlying t = some (.map k e)) (he : P.underlying e = some (.int q)) (hz : ∀ u : World, (zeroValue e).run P u = .ok (.int q 0) u)
    (hm : m + 1 < maxLen) {key : Value} {kl : Lit} (hkey : keyOf P k key = some kl) :
    ∃ (c : Int) (st : Nat) (w1 : World), (Instr.mapEntry t (.map (some b)) key).run P w = .ok (.tuple #[.int q c, goInt st]) w1 ∧ D.atKey kl (.lit (.int q 0)) = .lit (.int q c) ∧ (Lit.int q c).wf = true ∧
      w1.ownsMap P k (plainElem P e) b (m + 1) (D.put kl (.lit (.int q c))) ∧ w.grownBy w1 (some b) ∧ w1.heap.size = w.heap.size ∧
      ∀ (w2 : World) (x : Int), w2.heap[b]? = w1.heap[b]? → (Lit.int q x).wf = true → ∃ w3, (Instr.entryStore t (.map (some b)) (goInt st) (.int q x)).run P w2 = .ok () w3 ∧
        w3.ownsMap P k (plainElem P e) b (m + 1) (D.put kl (.lit (.int q x))) ∧ w2.grownBy w3 (some b) ∧ w3.heap.size = w2.heap.size := by
  have KK : Maps.Keyed P k := Maps.Keyed.of_law K0
  have hw0 : (Lit.int q 0).wf = true := by cases q <;> decide
  obtain ⟨c, hlk, hat, hwc⟩ := h.lookup_int KK ht he (hz w) hkey
  have h0 := h
  obtain ⟨es, clock, hb, F, hs, hD⟩ := h0
  have hupd : ∀ x : Int, (Lit.int q x).wf = true → ∃ w', (Instr.mapUpdate t (.map (some b)) key (.int q x)).run P w = .ok () w' ∧ w'.ownsMap P k (plainElem P e) b (m + 1) (D.put kl (.lit (.int q x))) ∧ w.grownBy w' (some b) :=
    fun x hx => h.update KK ht (by omega) hkey (plainElem_int he hx)
  obtain ⟨v0, st, es1, clock1, hrun, hv0, hst⟩ := entry_then_store K0 ht hz hb F hkey
  -- what mapEntry yields is what is looked up
  have hsame : v0 = .int q c ∧ ∃ w', (Instr.mapUpdate t (.map (some b)) key (.int q c)).run P w = .ok () w' ∧ w' = setBlock w b (.map es1 clock1) := by
    rcases K0.find w hkey es.toList F.keys with ⟨f1, f2⟩ | ⟨j, e0, f1, f2, f3⟩
    · have hv : v0 = .int q 0 := by
        rcases hv0 with ⟨e0, he0, hk0, _⟩ | ⟨_, hz0⟩
        · exact absurd hk0 (f2 e0 he0)
        · exact hz0
      have hl : (Instr.lookup t (.map (some b)) key false).run P w = .ok (.int q 0) w := by
        simp [Instr.lookup, run_underlying ht, MapKept.run_getObj_map hb, K0.check w es.isEmpty hkey, f1, hz, Result.andThen]
      rw [hl] at hlk
      simp only [Result.ok.injEq, Value.int.injEq, and_true, true_and] at hlk
      subst hlk
      refine ⟨hv, _, by simp [Instr.mapUpdate, run_underlying ht, MapKept.run_getObj_map hb, K0.check w false hkey, f1, MapKept.run_setObj_map _ hb, Result.andThen]; rfl, ?_⟩
      have : (Instr.mapEntry t (.map (some b)) key).run P w = .ok (.tuple #[.int q 0, goInt clock]) (setBlock w b (.map (es.push ⟨key, .int q 0, clock⟩) (clock + 1))) := by
        simp [Instr.mapEntry, run_underlying ht, MapKept.run_getObj_map hb, K0.check w false hkey, f1, hz, MapKept.run_setObj_map _ hb, Result.andThen, setBlock]
      rw [this] at hrun
      simp only [Result.ok.injEq] at hrun
      exact hrun.2
    · have hj : es[j]? = some e0 := by simpa using f2
      have hself : es.modify j (fun e => { e with key := key }) = es := by
        apply Array.ext'
        rw [Array.toList_modify, modify_eq_set _ _ _ _ f2]
        have : ({ e0 with key := key } : MapEntry) = e0 := by rw [← f3]
        rw [this]
        exact set_self _ _ _ f2
      have hme : (Instr.mapEntry t (.map (some b)) key).run P w = .ok (.tuple #[e0.val, goInt e0.born]) (setBlock w b (.map es clock)) := by
        simp [Instr.mapEntry, run_underlying ht, MapKept.run_getObj_map hb, K0.check w false hkey, f1, hj, f3, K0.stays w hkey, hself, MapKept.run_setObj_map _ hb, Result.andThen, setBlock]
      rw [hme] at hrun
      simp only [Result.ok.injEq, Value.tuple.injEq, Array.mk.injEq, List.cons.injEq] at hrun
      have hl : (Instr.lookup t (.map (some b)) key false).run P w = .ok e0.val w := by
        simp [Instr.lookup, run_underlying ht, MapKept.run_getObj_map hb, K0.check w es.isEmpty hkey, f1, hj, Result.andThen]
      rw [hl] at hlk
      simp only [Result.ok.injEq, and_true] at hlk
      refine ⟨by rw [← hrun.1.1, hlk], _, by simp [Instr.mapUpdate, run_underlying ht, MapKept.run_getObj_map hb, K0.check w false hkey, f1, hj, f3, K0.stays w hkey, MapKept.run_setObj_map _ hb, Result.andThen]; rfl, ?_⟩
      rw [← hrun.2]
      have hmod : es.modify j (fun e' => { e' with key := key, val := .int q c }) = es := by
        apply Array.ext'
        rw [Array.toList_modify, modify_eq_set _ _ _ _ f2]
        have : ({ e0 with key := key, val := .int q c } : MapEntry) = e0 := by rw [← f3, ← hlk]
        rw [this]
        exact set_self _ _ _ f2
      unfold setBlock
      rw [hmod]
  obtain ⟨rfl, w', hup, hw'⟩ := hsame
  obtain ⟨w'', hup2, ho2, hg2⟩ := hupd c hwc
  rw [hup2] at hup
  simp only [Result.ok.injEq, true_and] at hup
  subst hup
  subst hw'
  have hsz : (setBlock w b (.map es1 clock1)).heap.size = w.heap.size := by simp [setBlock]
  refine ⟨c, st, _, hrun, hat, hwc, ho2, hg2, hsz, fun w2 x hw2 hx => ?_⟩
  rw [heap_setBlock_same hb] at hw2
  obtain ⟨es', clock', hsr, hur⟩ := hst w2 (.int q x) hw2
  obtain ⟨w3, hup3, ho3, hg3⟩ := hupd x hx
  rw [hur] at hup3
  simp only [Result.ok.injEq, true_and] at hup3
  subst hup3
  refine ⟨_, hsr, ?_, ⟨rfl, rfl, rfl, by simp [setBlock], fun i _ hi => heap_setBlock_other hw2 _ (fun e => hi (by rw [e]))⟩, by simp [setBlock]⟩
  obtain ⟨es3, clock3, hb3, r⟩ := ho3
  rw [heap_setBlock_same hb] at hb3
  exact ⟨es3, clock3, by rw [heap_setBlock_same hw2]; exact hb3, r⟩
end

end Go.Pan

namespace Go.Proofs.Ytieongcagkfedaa
open Go Go.RowKit Go.Pan

theorem _root_.Go.Pan.GOk.le9 {n : Gm} (hn : GOk n) {q : List Int} (hq : n.St q) : q.length ≤ 9 := by rw [hn.length q hq]; exact hn.len9
theorem key_tw {n : Gm} (hn : GOk n) {q : List Int} (h : n.St q) : keyOf Try.prog 65 (tw q) = some (kl q) := by
  refine key9 (q ++ List.replicate (9 - q.length) 0) (by have := hn.le9 h; simp; omega) fun x hx => ?_
  rcases List.mem_append.1 hx with hx | hx
  · have := hn.small q h x hx
    exact small_wf (by omega) (by omega)
  · rw [List.mem_replicate] at hx
    rw [hx.2]
    exact small_wf (by omega) (by omega)
theorem tw_inj {n : Gm} (hn : GOk n) {q p : List Int} (hq : n.St q) (hp : n.St p) (h : tw q = tw p) : q = p := by
  simp only [tw, twl, Value.agg.injEq, Array.mk.injEq] at h
  have h2 := List.map_inj_right (f := iv) (fun a b e => by simpa [iv] using e) |>.1 h
  exact (twl_inj (by rw [hn.length q hq, hn.length p hp])).1 h2
theorem kl_inj {n : Gm} (hn : GOk n) {q p : List Int} (hq : n.St q) (hp : n.St p) (h : kl q = kl p) : q = p :=
  tw_inj hn hq hp (klaw.inj (key_tw hn hq) (by rw [h]; exact key_tw hn hp))

/-- the map D is the layer c -/
structure Lay (n : Gm) (D : DD) (c : LC) : Prop where
  has : ∀ q, n.St q → Maps.has D (kl q) = decide (0 < c q)
  val : ∀ q, n.St q → 0 < c q → ∀ z, D.atKey (kl q) z = .lit (.int .i64 (c q))
  keys : ∀ k, Maps.has D k = true → ∃ q, n.St q ∧ k = kl q
theorem Lay.congr {n : Gm} {D : DD} {c o : LC} (h : Lay n D c) (e : GEq n c o) : Lay n D o :=
  ⟨fun q hq => by rw [← e q hq]; exact h.has q hq, fun q hq hp => by rw [← e q hq] at hp ⊢; exact h.val q hq hp, h.keys⟩
theorem Lay.at0 {n : Gm} {D : DD} {c : LC} (h : Lay n D c) {q : List Int} (hq : n.St q) : D.atKey (kl q) (.lit (.int .i64 0)) = .lit (.int .i64 (c q)) := by
  by_cases hp : 0 < c q
  · exact h.val q hq hp _
  · have hz : c q = 0 := by omega
    have hh := h.has q hq
    rw [decide_eq_false hp] at hh
    rw [Maps.atKey_of_not_has hh, hz]
    rfl
theorem Lay.empty (n : Gm) : Lay n (.map []) (fun _ => 0) := ⟨fun q _ => rfl, fun q _ h => by omega, fun k h => by cases h⟩
theorem Lay.put {n : Gm} (hn : GOk n) {D : DD} {c : LC} (h : Lay n D c) (hD : Maps.IsMap D) {q : List Int} (hq : n.St q) (x : Nat) (hx : 0 < x) : Lay n (D.put (kl q) (.lit (.int .i64 x))) (fun p => if p = q then x else c p) := by
  refine ⟨fun p hp => ?_, fun p hp hpos z => ?_, fun k hk => ?_⟩
  · by_cases e : p = q
    · subst e; rw [Maps.has_put_same hD (kl_key _), if_pos rfl, decide_eq_true hx]
    · rw [Maps.has_put_other (fun e' => e (kl_inj hn hp hq e')), if_neg e]; exact h.has p hp
  · by_cases e : p = q
    · subst e; rw [Maps.atKey_put_same hD (kl_key _), if_pos rfl]
    · rw [if_neg e] at hpos
      rw [Maps.atKey_put_other (fun e' => e (kl_inj hn hp hq e')), if_neg e]
      exact h.val p hp hpos z
  · by_cases e : k = kl q
    · exact ⟨q, hq, e⟩
    · rw [Maps.has_put_other e] at hk; exact h.keys k hk
theorem Lay.del {n : Gm} (hn : GOk n) {D : DD} {c : LC} (h : Lay n D c) {q : List Int} (hq : n.St q) : Lay n (D.del (kl q)) (fun p => if p = q then 0 else c p) := by
  refine ⟨fun p hp => ?_, fun p hp hpos z => ?_, fun k hk => ?_⟩
  · by_cases e : p = q
    · subst e; rw [Maps.has_del_same, if_pos rfl]; rfl
    · rw [Maps.has_del_other (fun e' => e (kl_inj hn hp hq e')), if_neg e]; exact h.has p hp
  · by_cases e : p = q
    · subst e; rw [if_pos rfl] at hpos; omega
    · rw [if_neg e] at hpos
      rw [Maps.atKey_del_other (fun e' => e (kl_inj hn hp hq e')), if_neg e]
      exact h.val p hp hpos z
  · by_cases e : k = kl q
    · exact ⟨q, hq, e⟩
    · rw [Maps.has_del_other e] at hk; exact h.keys k hk
theorem all_idx {n : Gm} {q p : List Int} (hq : q ∈ n.all) (h : n.all.idxOf q = n.all.idxOf p) : q = p := by
  have h1 := List.idxOf_lt_length_of_mem hq
  have h2 := List.getElem_idxOf h1
  have h3 : n.all.idxOf p < n.all.length := by rw [← h]; exact h1
  have h4 := List.getElem_idxOf h3
  rw [← h2, ← h4]
  congr 1
open Classical in
noncomputable def keyRank (n : Gm) (k : Lit) : Int := if h : ∃ q, n.St q ∧ k = kl q then (n.all.idxOf (Classical.choose h) : Int) else -1
theorem keyRank_kl {n : Gm} (hn : GOk n) {q : List Int} (hq : n.St q) : keyRank n (kl q) = n.all.idxOf q := by
  have h : ∃ p, n.St p ∧ kl q = kl p := ⟨q, hq, rfl⟩
  unfold keyRank
  rw [dif_pos h]
  have hs := Classical.choose_spec h
  rw [← kl_inj hn hq hs.1 hs.2]
/-- a map has as many keys as there are stacks in its layer -/
theorem Lay.size {n : Gm} (hn : GOk n) {D : DD} {c : LC} (h : Lay n D c) (hD : Maps.Canon D) : Maps.size D = n.all.countP (fun q => decide (0 < c q)) := by
  obtain ⟨es, rfl, hp, hk⟩ := hD
  have hap := Maps.apart_of_rising hp
  have hst : ∀ p ∈ es, ∃ q, n.St q ∧ p.1 = kl q ∧ 0 < c q := fun p hp' => by
    have hh : Maps.has (.map es : DD) p.1 = true := by
      rw [Maps.has_eq, List.any_eq_true]
      exact ⟨p, hp', WideAt.sameKey_self (hk p hp')⟩
    obtain ⟨q, hq, e⟩ := h.keys p.1 hh
    rw [e, h.has q hq] at hh
    exact ⟨q, hq, e, of_decide_eq_true hh⟩
  have hA : (es.map fun p => keyRank n p.1).Nodup := by
    refine List.pairwise_map.2 (List.Pairwise.imp_of_mem (fun {a b} ha hb hab e => ?_) hap)
    obtain ⟨qa, ha1, ha2, _⟩ := hst a ha
    obtain ⟨qb, hb1, hb2, _⟩ := hst b hb
    rw [ha2, hb2, keyRank_kl hn ha1, keyRank_kl hn hb1] at e
    exact hab (by rw [ha2, hb2, all_idx (p := qb) ((hn.mem qa).2 ha1) (by omega)])
  have hB : ((n.all.filter fun q => decide (0 < c q)).map fun q => (n.all.idxOf q : Int)).Nodup := by
    refine List.pairwise_map.2 (List.Pairwise.imp_of_mem (fun {a b} ha hb hab e => ?_) (hn.nodup.filter _))
    exact hab (all_idx (p := b) (List.mem_filter.1 ha).1 (by omega))
  have h1 := length_le_of_nodup_subset _ ((n.all.filter fun q => decide (0 < c q)).map fun q => (n.all.idxOf q : Int)) hA (fun x hx => by
    simp only [List.mem_map] at hx
    obtain ⟨p, hp', rfl⟩ := hx
    obtain ⟨q, hq, e, hc⟩ := hst p hp'
    rw [e, keyRank_kl hn hq]
    exact List.mem_map.2 ⟨q, List.mem_filter.2 ⟨(hn.mem q).2 hq, decide_eq_true hc⟩, rfl⟩)
  have h2 := length_le_of_nodup_subset _ (es.map fun p => keyRank n p.1) hB (fun x hx => by
    simp only [List.mem_map] at hx
    obtain ⟨q, hq', rfl⟩ := hx
    obtain ⟨hq1, hq2⟩ := List.mem_filter.1 hq'
    have hq := (hn.mem q).1 hq1
    have hh := h.has q hq
    rw [hq2, Maps.has_eq, List.any_eq_true] at hh
    obtain ⟨p, hp', hs⟩ := hh
    have e := WideAt.sameKey_eq hs
    exact List.mem_map.2 ⟨p, hp', by rw [e, keyRank_kl hn hq]⟩)
  simp only [List.length_map] at h1 h2
  rw [Maps.size_eq, List.countP_eq_length_filter]
  omega
theorem Lay.size_le {n : Gm} (hn : GOk n) {D : DD} {c : LC} (h : Lay n D c) (hD : Maps.Canon D) : Maps.size D ≤ n.all.length := by
  rw [h.size hn hD]
  exact List.countP_le_length
theorem tight {w : World} {b m : Nat} {D : DD} (h : w.ownsMap Try.prog 65 (plainElem Try.prog 3) b m D) : w.ownsMap Try.prog 65 (plainElem Try.prog 3) b (Maps.size D) D := by
  obtain ⟨es, clock, hb, F, hs, rfl⟩ := h
  exact ⟨es, clock, hb, F, by simp [Maps.size, length_sorted], rfl⟩
/-- block b is a layer -/
def Ly (n : Gm) (w : World) (b : Nat) (c : LC) : Prop := ∃ D : DD, w.ownsMap Try.prog 65 (plainElem Try.prog 3) b n.all.length D ∧ Lay n D c
theorem Ly.of {n : Gm} (hn : GOk n) {w : World} {b m : Nat} {D : DD} {c : LC} (h : w.ownsMap Try.prog 65 (plainElem Try.prog 3) b m D) (hl : Lay n D c) : Ly n w b c :=
  ⟨D, (tight h).mono (hl.size_le hn (h.canon keyd)), hl⟩
theorem Ly.congr {n : Gm} {w : World} {b : Nat} {c o : LC} (h : Ly n w b c) (e : GEq n c o) : Ly n w b o := by
  obtain ⟨D, h1, h2⟩ := h
  exact ⟨D, h1, h2.congr e⟩
theorem Ly.lt {n : Gm} {w : World} {b : Nat} {c : LC} (h : Ly n w b c) : b < w.heap.size := by
  obtain ⟨D, h1, _⟩ := h
  exact h1.lt
theorem Ly.kept {n : Gm} {w w' : World} {b : Nat} {c : LC} (h : Ly n w b c) (hk : w'.heap[b]? = w.heap[b]?) : Ly n w' b c := by
  obtain ⟨D, ⟨es, clock, hb, F, hs, hD⟩, h2⟩ := h
  exact ⟨D, ⟨es, clock, hk.trans hb, F, hs, hD⟩, h2⟩
theorem Ly.below {n : Gm} {w w' : World} {b N : Nat} {c : LC} (h : Ly n w b c) (hb : Below N w w') (hN : w.heap.size ≤ N) : Ly n w' b c := h.kept (hb.block b (Nat.lt_of_lt_of_le h.lt hN))
theorem Ly.grown {n : Gm} {w w' : World} {b : Nat} {row : Option Nat} {c : LC} (h : Ly n w b c) (hg : w.grownBy w' row) (hne : row ≠ some b) : Ly n w' b c := h.kept (hg.block b h.lt (fun e => hne e.symm))

end Go.Proofs.Ytieongcagkfedaa

namespace Go.Proofs.Ytieongcagkfedaa
open Go Go.RowKit Go.Pan

theorem left_st {n : Gm} {D : DD} {c : LC} (hL : Lay n D c) {k : Lit} (h : Maps.has D k = true) : ∃ q, n.St q ∧ k = kl q ∧ 0 < c q := by
  obtain ⟨q, hq, rfl⟩ := hL.keys k h
  rw [hL.has q hq] at h
  exact ⟨q, hq, rfl, of_decide_eq_true h⟩
theorem key_is {n : Gm} (hn : GOk n) {x : Value} {q : List Int} (hq : n.St q) (h : keyOf Try.prog 65 x = some (kl q)) : x = tw q := klaw.inj h (key_tw hn hq)
theorem strike_other {n : Gm} (hn : GOk n) {q p : List Int} (hq : n.St q) (hp : n.St p) (h : p ≠ q) (left : Lit → Bool) : (left (kl p) && !(kl p).sameKey (kl q)) = left (kl p) := by
  rw [Maps.sameKey_ne (fun e => h (kl_inj hn hp hq e))]
  simp
theorem strike_self (q : List Int) (left : Lit → Bool) : (left (kl q) && !(kl q).sameKey (kl q)) = false := by
  rw [WideAt.sameKey_self (kl_key q)]
  simp
abbrev Rg (w : World) (n : Gm) (b r : Nat) (D : DD) (left : Lit → Bool) (cnt : Nat) : Prop := w.ranges Try.prog 65 (plainElem Try.prog 3) b r n.all.length D left cnt
theorem invVal (v : Value) (y : DD × List MemPlace) (h : plainElem Try.prog 3 v = some y) : ∃ x : Int, v = .int .i64 x := by
  obtain ⟨a, e, _⟩ := plainElem_int_inv Try.underlying3 h
  exact ⟨a, e⟩
theorem Below.gr {w w' : World} (h : Below w.heap.size w w') : w.grownBy w' none := ⟨h.os, h.tape, h.output, h.size, fun k hk _ => h.block k hk⟩

def MeetR (n : Gm) (c o : LC) (r : Bool) : Prop := r = true ↔ gmeetC n c o
def MeetTo (n : Gm) (c o : LC) (left : Lit → Bool) : Prop := ∀ q, n.St q → 0 < c q → left (kl q) = false → ¬ 0 < o q

def KeepTo (n : Gm) (c o : LC) (left : Lit → Bool) (c' : LC) : Prop := ∀ q, n.St q → c' q = if left (kl q) = true then c q else keepC c o q

def DropTo (n : Gm) (c o : LC) (left : Lit → Bool) (c' : LC) : Prop := ∀ q, n.St q → c' q = if left (kl q) = true then c q else dropC c o q



end Go.Proofs.Ytieongcagkfedaa

