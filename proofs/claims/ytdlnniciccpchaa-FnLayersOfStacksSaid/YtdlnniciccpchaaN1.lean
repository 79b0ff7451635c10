import Derived.Test.YtdlnniciccpchaaTw
import Derived.Test.YtdlnniciccpchaaKl
import Derived.Test.YtdlnniciccpchaaGA
import Derived.Test.YtdlnniciccpchaaI1
import Derived.Test.YtdlnniciccpchaaI2
import Derived.Maps.RangeWalk
import Derived.Maps.OwnSet
import Derived.Maps.OwnOps
import Derived.WideKeyArr2
import Derived.WideKeyEntry
import Derived.Deep.RegionLaw
import Derived.Maps.Ext
import Derived.Deep.DeepCutAuto
import Derived.IntWalk
namespace Go.Pan
open Go Go.RowKit

section
open Go.ChangeShapes Go.WideShapes Go.MapKept Go.ChangeMaps Go.WideElems
variable {H : Type} {P : Program} {w : World} {t k e : TypeId} {b m : Nat} {D : DataW H}
/-- 'm[k] op= v': the entry is found or laid, and stored into later -/
theorem owns_entry {q : IntKind} (h : w.ownsMap P k (plainElem P e) b m D) (K0 : Go.WideMaps.KeyLaw P k) (ht : P.underlying t = some (.map k e)) (he : P.underlying e = some (.int q)) (hz : ∀ u : World, (zeroValue e).run P u = .ok (.int q 0) u)
    (hm : m + 1 < maxLen) {key : Value} {kl : Lit} (hkey : keyOf P k key = some kl) :
    ∃ (c : Int) (st : Nat) (w1 : World), (Instr.mapEntry t (.map (some b)) key).run P w = .ok (.tuple #[.int q c, goInt st]) w1 ∧ D.atKey kl (.lit (.int q 0)) = .lit (.int q c) ∧ (Lit.int q c).wf = true ∧
      w1.ownsMap P k (plainElem P e) b (m + 1) (D.put kl (.lit (.int q c))) ∧ w.grownBy w1 (some b) ∧ w1.heap.size = w.heap.size ∧
      ∀ (w2 : World) (x : Int), w2.heap[b]? = w1.heap[b]? → (Lit.int q x).wf = true → ∃ w3, (Instr.entryStore t (.map (some b)) (goInt st) (.int q x)).run P w2 = .ok () w3 ∧
        w3.ownsMap P k (plainElem P e) b (m + 1) (D.put kl (.lit (.int q x))) ∧ w2.grownBy w3 (some b) ∧ w3.heap.size = w2.heap.size := by
  have KK : Maps.Keyed P k := Maps.Keyed.of_law K0
  have hw0 : (Lit.int q 0).wf = true := by cases q <;> decide
  obtain ⟨c, hlk, hat, hwc⟩ := h.lookup_int KK ht he (hz w) hkey
  have h0 := h
  obtain ⟨es, clock, hb, F, hs, hD⟩ := h0
  have hupd : ∀ x : Int, (Lit.int q x).wf = true → ∃ w', (Instr.mapUpdate t (.map (some b)) key (.int q x)).run P w = .ok () w' ∧ w'.ownsMap P k (plainElem P e) b (m + 1) (D.put kl (.lit (.int q x))) ∧ w.grownBy w' (some b) :=
    fun x hx => h.update KK ht (by omega) hkey (plainElem_int he hx)
  obtain ⟨v0, st, es1, clock1, hrun, hv0, hst⟩ := entry_then_store K0 ht hz hb F hkey
  -- what mapEntry yields is what is looked up
  have hsame : v0 = .int q c ∧ ∃ w', (Instr.mapUpdate t (.map (some b)) key (.int q c)).run P w = .ok () w' ∧ w' = setBlock w b (.map es1 clock1) := by
    rcases K0.find w hkey es.toList F.keys with ⟨f1, f2⟩ | ⟨j, e0, f1, f2, f3⟩
    · have hv : v0 = .int q 0 := by
        rcases hv0 with ⟨e0, he0, hk0, _⟩ | ⟨_, hz0⟩
        · exact absurd hk0 (f2 e0 he0)
        · exact hz0
      have hl : (Instr.lookup t (.map (some b)) key false).run P w = .ok (.int q 0) w := by
        simp [Instr.lookup, run_underlying ht, MapKept.run_getObj_map hb, K0.check w es.isEmpty hkey, f1, hz, Result.andThen]
      rw [hl] at hlk
      simp only [Result.ok.injEq, Value.int.injEq, and_true, true_and] at hlk
      subst hlk
      refine ⟨hv, _, by simp [Instr.mapUpdate, run_underlying ht, MapKept.run_getObj_map hb, K0.check w false hkey, f1, MapKept.run_setObj_map _ hb, Result.andThen]; rfl, ?_⟩
      have : (Instr.mapEntry t (.map (some b)) key).run P w = .ok (.tuple #[.int q 0, goInt clock]) (setBlock w b (.map (es.push ⟨key, .int q 0, clock⟩) (clock + 1))) := by
        simp [Instr.mapEntry, run_underlying ht, MapKept.run_getObj_map hb, K0.check w false hkey, f1, hz, MapKept.run_setObj_map _ hb, Result.andThen, setBlock]
      rw [this] at hrun
      simp only [Result.ok.injEq] at hrun
      exact hrun.2
    · have hj : es[j]? = some e0 := by simpa using f2
      have hself : es.modify j (fun e => { e with key := key }) = es := by
        apply Array.ext'
        rw [Array.toList_modify, modify_eq_set _ _ _ _ f2]
        have : ({ e0 with key := key } : MapEntry) = e0 := by rw [← f3]
        rw [this]
        exact set_self _ _ _ f2
      have hme : (Instr.mapEntry t (.map (some b)) key).run P w = .ok (.tuple #[e0.val, goInt e0.born]) (setBlock w b (.map es clock)) := by
        simp [Instr.mapEntry, run_underlying ht, MapKept.run_getObj_map hb, K0.check w false hkey, f1, hj, f3, K0.stays w hkey, hself, MapKept.run_setObj_map _ hb, Result.andThen, setBlock]
      rw [hme] at hrun
      simp only [Result.ok.injEq, Value.tuple.injEq, Array.mk.injEq, List.cons.injEq] at hrun
      have hl : (Instr.lookup t (.map (some b)) key false).run P w = .ok e0.val w := by
        simp [Instr.lookup, run_underlying ht, MapKept.run_getObj_map hb, K0.check w es.isEmpty hkey, f1, hj, Result.andThen]
      rw [hl] at hlk
      simp only [Result.ok.injEq, and_true] at hlk
      refine ⟨by rw [← hrun.1.1, hlk], _, by simp [Instr.mapUpdate, run_underlying ht, MapKept.run_getObj_map hb, K0.check w false hkey, f1, hj, f3, K0.stays w hkey, MapKept.run_setObj_map _ hb, Result.andThen]; rfl, ?_⟩
      rw [← hrun.2]
      have hmod : es.modify j (fun e' => { e' with key := key, val := .int q c }) = es := by
        apply Array.ext'
        rw [Array.toList_modify, modify_eq_set _ _ _ _ f2]
        have : ({ e0 with key := key, val := .int q c } : MapEntry) = e0 := by rw [← f3, ← hlk]
        rw [this]
        exact set_self _ _ _ f2
      unfold setBlock
      rw [hmod]
  obtain ⟨rfl, w', hup, hw'⟩ := hsame
  obtain ⟨w'', hup2, ho2, hg2⟩ := hupd c hwc
  rw [hup2] at hup
  simp only [Result.ok.injEq, true_and] at hup
  subst hup
  subst hw'
  have hsz : (setBlock w b (.map es1 clock1)).heap.size = w.heap.size := by simp [setBlock]
  refine ⟨c, st, _, hrun, hat, hwc, ho2, hg2, hsz, fun w2 x hw2 hx => ?_⟩
  rw [heap_setBlock_same hb] at hw2
  obtain ⟨es', clock', hsr, hur⟩ := hst w2 (.int q x) hw2
  obtain ⟨w3, hup3, ho3, hg3⟩ := hupd x hx
  rw [hur] at hup3
  simp only [Result.ok.injEq, true_and] at hup3
  subst hup3
  refine ⟨_, hsr, ?_, ⟨rfl, rfl, rfl, by simp [setBlock], fun i _ hi => heap_setBlock_other hw2 _ (fun e => hi (by rw [e]))⟩, by simp [setBlock]⟩
  obtain ⟨es3, clock3, hb3, r⟩ := ho3
  rw [heap_setBlock_same hb] at hb3
  exact ⟨es3, clock3, by rw [heap_setBlock_same hw2]; exact hb3, r⟩
end

end Go.Pan

namespace Go.Proofs.Ytdlnniciccpchaa
open Go Go.RowKit Go.Pan

theorem _root_.Go.Pan.GOk.le9 {n : Gm} (hn : GOk n) {q : List Int} (hq : n.St q) : q.length ≤ 9 := by rw [hn.length q hq]; exact hn.len9
theorem key_tw {n : Gm} (hn : GOk n) {q : List Int} (h : n.St q) : keyOf Try.prog 52 (tw q) = some (kl q) := by
  refine key9 (q ++ List.replicate (9 - q.length) 0) (by have := hn.le9 h; simp; omega) fun x hx => ?_
  rcases List.mem_append.1 hx with hx | hx
  · have := hn.small q h x hx
    exact small_wf (by omega) (by omega)
  · rw [List.mem_replicate] at hx
    rw [hx.2]
    exact small_wf (by omega) (by omega)
theorem tw_inj {n : Gm} (hn : GOk n) {q p : List Int} (hq : n.St q) (hp : n.St p) (h : tw q = tw p) : q = p := by
  simp only [tw, twl, Value.agg.injEq, Array.mk.injEq] at h
  have h2 := List.map_inj_right (f := iv) (fun a b e => by simpa [iv] using e) |>.1 h
  exact (twl_inj (by rw [hn.length q hq, hn.length p hp])).1 h2
theorem kl_inj {n : Gm} (hn : GOk n) {q p : List Int} (hq : n.St q) (hp : n.St p) (h : kl q = kl p) : q = p :=
  tw_inj hn hq hp (klaw.inj (key_tw hn hq) (by rw [h]; exact key_tw hn hp))

/-- the map D is the layer c -/
structure Lay (n : Gm) (D : DD) (c : LC) : Prop where
  has : ∀ q, n.St q → Maps.has D (kl q) = decide (0 < c q)
  val : ∀ q, n.St q → 0 < c q → ∀ z, D.atKey (kl q) z = .lit (.int .i64 (c q))
  keys : ∀ k, Maps.has D k = true → ∃ q, n.St q ∧ k = kl q
theorem Lay.congr {n : Gm} {D : DD} {c o : LC} (h : Lay n D c) (e : GEq n c o) : Lay n D o :=
  ⟨fun q hq => by rw [← e q hq]; exact h.has q hq, fun q hq hp => by rw [← e q hq] at hp ⊢; exact h.val q hq hp, h.keys⟩
theorem Lay.at0 {n : Gm} {D : DD} {c : LC} (h : Lay n D c) {q : List Int} (hq : n.St q) : D.atKey (kl q) (.lit (.int .i64 0)) = .lit (.int .i64 (c q)) := by
  by_cases hp : 0 < c q
  · exact h.val q hq hp _
  · have hz : c q = 0 := by omega
    have hh := h.has q hq
    rw [decide_eq_false hp] at hh
    rw [Maps.atKey_of_not_has hh, hz]
    rfl
theorem Lay.empty (n : Gm) : Lay n (.map []) (fun _ => 0) := ⟨fun q _ => rfl, fun q _ h => by omega, fun k h => by cases h⟩
theorem Lay.put {n : Gm} (hn : GOk n) {D : DD} {c : LC} (h : Lay n D c) (hD : Maps.IsMap D) {q : List Int} (hq : n.St q) (x : Nat) (hx : 0 < x) : Lay n (D.put (kl q) (.lit (.int .i64 x))) (fun p => if p = q then x else c p) := by
  refine ⟨fun p hp => ?_, fun p hp hpos z => ?_, fun k hk => ?_⟩
  · by_cases e : p = q
    · subst e; rw [Maps.has_put_same hD (kl_key _), if_pos rfl, decide_eq_true hx]
    · rw [Maps.has_put_other (fun e' => e (kl_inj hn hp hq e')), if_neg e]; exact h.has p hp
  · by_cases e : p = q
    · subst e; rw [Maps.atKey_put_same hD (kl_key _), if_pos rfl]
    · rw [if_neg e] at hpos
      rw [Maps.atKey_put_other (fun e' => e (kl_inj hn hp hq e')), if_neg e]
      exact h.val p hp hpos z
  · by_cases e : k = kl q
    · exact ⟨q, hq, e⟩
    · rw [Maps.has_put_other e] at hk; exact h.keys k hk
theorem Lay.del {n : Gm} (hn : GOk n) {D : DD} {c : LC} (h : Lay n D c) {q : List Int} (hq : n.St q) : Lay n (D.del (kl q)) (fun p => if p = q then 0 else c p) := by
  refine ⟨fun p hp => ?_, fun p hp hpos z => ?_, fun k hk => ?_⟩
  · by_cases e : p = q
    · subst e; rw [Maps.has_del_same, if_pos rfl]; rfl
    · rw [Maps.has_del_other (fun e' => e (kl_inj hn hp hq e')), if_neg e]; exact h.has p hp
  · by_cases e : p = q
    · subst e; rw [if_pos rfl] at hpos; omega
    · rw [if_neg e] at hpos
      rw [Maps.atKey_del_other (fun e' => e (kl_inj hn hp hq e')), if_neg e]
      exact h.val p hp hpos z
  · by_cases e : k = kl q
    · exact ⟨q, hq, e⟩
    · rw [Maps.has_del_other e] at hk; exact h.keys k hk
theorem all_idx {n : Gm} {q p : List Int} (hq : q ∈ n.all) (h : n.all.idxOf q = n.all.idxOf p) : q = p := by
  have h1 := List.idxOf_lt_length_of_mem hq
  have h2 := List.getElem_idxOf h1
  have h3 : n.all.idxOf p < n.all.length := by rw [← h]; exact h1
  have h4 := List.getElem_idxOf h3
  rw [← h2, ← h4]
  congr 1
open Classical in
noncomputable def keyRank (n : Gm) (k : Lit) : Int := if h : ∃ q, n.St q ∧ k = kl q then (n.all.idxOf (Classical.choose h) : Int) else -1
theorem keyRank_kl {n : Gm} (hn : GOk n) {q : List Int} (hq : n.St q) : keyRank n (kl q) = n.all.idxOf q := by
  have h : ∃ p, n.St p ∧ kl q = kl p := ⟨q, hq, rfl⟩
  unfold keyRank
  rw [dif_pos h]
  have hs := Classical.choose_spec h
  rw [← kl_inj hn hq hs.1 hs.2]
/-- a map has as many keys as there are stacks in its layer -/
theorem Lay.size {n : Gm} (hn : GOk n) {D : DD} {c : LC} (h : Lay n D c) (hD : Maps.Canon D) : Maps.size D = n.all.countP (fun q => decide (0 < c q)) := by
  obtain ⟨es, rfl, hp, hk⟩ := hD
  have hap := Maps.apart_of_rising hp
  have hst : ∀ p ∈ es, ∃ q, n.St q ∧ p.1 = kl q ∧ 0 < c q := fun p hp' => by
    have hh : Maps.has (.map es : DD) p.1 = true := by
      rw [Maps.has_eq, List.any_eq_true]
      exact ⟨p, hp', WideAt.sameKey_self (hk p hp')⟩
    obtain ⟨q, hq, e⟩ := h.keys p.1 hh
    rw [e, h.has q hq] at hh
    exact ⟨q, hq, e, of_decide_eq_true hh⟩
  have hA : (es.map fun p => keyRank n p.1).Nodup := by
    refine List.pairwise_map.2 (List.Pairwise.imp_of_mem (fun {a b} ha hb hab e => ?_) hap)
    obtain ⟨qa, ha1, ha2, _⟩ := hst a ha
    obtain ⟨qb, hb1, hb2, _⟩ := hst b hb
    rw [ha2, hb2, keyRank_kl hn ha1, keyRank_kl hn hb1] at e
    exact hab (by rw [ha2, hb2, all_idx (p := qb) ((hn.mem qa).2 ha1) (by omega)])
  have hB : ((n.all.filter fun q => decide (0 < c q)).map fun q => (n.all.idxOf q : Int)).Nodup := by
    refine List.pairwise_map.2 (List.Pairwise.imp_of_mem (fun {a b} ha hb hab e => ?_) (hn.nodup.filter _))
    exact hab (all_idx (p := b) (List.mem_filter.1 ha).1 (by omega))
  have h1 := length_le_of_nodup_subset _ ((n.all.filter fun q => decide (0 < c q)).map fun q => (n.all.idxOf q : Int)) hA (fun x hx => by
    simp only [List.mem_map] at hx
    obtain ⟨p, hp', rfl⟩ := hx
    obtain ⟨q, hq, e, hc⟩ := hst p hp'
    rw [e, keyRank_kl hn hq]
    exact List.mem_map.2 ⟨q, List.mem_filter.2 ⟨(hn.mem q).2 hq, decide_eq_true hc⟩, rfl⟩)
  have h2 := length_le_of_nodup_subset _ (es.map fun p => keyRank n p.1) hB (fun x hx => by
    simp only [List.mem_map] at hx
    obtain ⟨q, hq', rfl⟩ := hx
    obtain ⟨hq1, hq2⟩ := List.mem_filter.1 hq'
    have hq := (hn.mem q).1 hq1
    have hh := h.has q hq
    rw [hq2, Maps.has_eq, List.any_eq_true] at hh
    obtain ⟨p, hp', hs⟩ := hh
    have e := WideAt.sameKey_eq hs
    exact List.mem_map.2 ⟨p, hp', by rw [e, keyRank_kl hn hq]⟩)
  simp only [List.length_map] at h1 h2
  rw [Maps.size_eq, List.countP_eq_length_filter]
  omega
theorem Lay.size_le {n : Gm} (hn : GOk n) {D : DD} {c : LC} (h : Lay n D c) (hD : Maps.Canon D) : Maps.size D ≤ n.all.length := by
  rw [h.size hn hD]
  exact List.countP_le_length
theorem tight {w : World} {b m : Nat} {D : DD} (h : w.ownsMap Try.prog 52 (plainElem Try.prog 3) b m D) : w.ownsMap Try.prog 52 (plainElem Try.prog 3) b (Maps.size D) D := by
  obtain ⟨es, clock, hb, F, hs, rfl⟩ := h
  exact ⟨es, clock, hb, F, by simp [Maps.size, length_sorted], rfl⟩
/-- block b is a layer -/
def Ly (n : Gm) (w : World) (b : Nat) (c : LC) : Prop := ∃ D : DD, w.ownsMap Try.prog 52 (plainElem Try.prog 3) b n.all.length D ∧ Lay n D c
theorem Ly.of {n : Gm} (hn : GOk n) {w : World} {b m : Nat} {D : DD} {c : LC} (h : w.ownsMap Try.prog 52 (plainElem Try.prog 3) b m D) (hl : Lay n D c) : Ly n w b c :=
  ⟨D, (tight h).mono (hl.size_le hn (h.canon keyd)), hl⟩
theorem Ly.congr {n : Gm} {w : World} {b : Nat} {c o : LC} (h : Ly n w b c) (e : GEq n c o) : Ly n w b o := by
  obtain ⟨D, h1, h2⟩ := h
  exact ⟨D, h1, h2.congr e⟩
theorem Ly.lt {n : Gm} {w : World} {b : Nat} {c : LC} (h : Ly n w b c) : b < w.heap.size := by
  obtain ⟨D, h1, _⟩ := h
  exact h1.lt
theorem Ly.kept {n : Gm} {w w' : World} {b : Nat} {c : LC} (h : Ly n w b c) (hk : w'.heap[b]? = w.heap[b]?) : Ly n w' b c := by
  obtain ⟨D, ⟨es, clock, hb, F, hs, hD⟩, h2⟩ := h
  exact ⟨D, ⟨es, clock, hk.trans hb, F, hs, hD⟩, h2⟩
theorem Ly.below {n : Gm} {w w' : World} {b N : Nat} {c : LC} (h : Ly n w b c) (hb : Below N w w') (hN : w.heap.size ≤ N) : Ly n w' b c := h.kept (hb.block b (Nat.lt_of_lt_of_le h.lt hN))
theorem Ly.grown {n : Gm} {w w' : World} {b : Nat} {row : Option Nat} {c : LC} (h : Ly n w b c) (hg : w.grownBy w' row) (hne : row ≠ some b) : Ly n w' b c := h.kept (hg.block b h.lt (fun e => hne e.symm))

end Go.Proofs.Ytdlnniciccpchaa

namespace Go.Proofs.Ytdlnniciccpchaa
open Go Go.RowKit Go.Pan

set_option maxHeartbeats 1600000 in
set_option maxRecDepth 100000 in
theorem lhas_any (n : Gm) (b : Nat) (c : LC) (q : List Int) (w : World) (hn : Hid (GOk n)) (hl : Ly n w b c) (hq : n.St q) :
    Calls Try.prog 84 #[.map (some b), tw q] w fun e w' => e = .returned (.bool (decide (0 < c q))) ∧ Below w.heap.size w w' := by
  obtain ⟨D, hown, hL⟩ := hl
  have hkey := key_tw hn.out hq
  have h9 := (hn.out.le9 hq)
  have HH := Lib.hid (hL.has q hq)
  have hbx : Blk (w.alloc (.cells (twl q).toArray 52)) w.heap.size 52 (twl q) := Blk.new w _ (twl q) _ rfl
  have hB0 : Below w.heap.size w (w.alloc (.cells (twl q).toArray 52)) := below_new w _
  have ho : (w.alloc (.cells (twl q).toArray 52)).ownsMap Try.prog 52 (plainElem Try.prog 3) b n.all.length D := hown.alloc _
  clear hL hown
  go_enter Try.func84, Try.ntmps84
  go_wp2_with (first | (refine wpList_load_tower rfl _ rfl w.heap.size q h9 rfl hbx ?_) | (at_lookup; refine wpList_lookup_own_ok_int _ rfl _ _ 60 rfl 52 3 .i64 keyd Try.underlying60 Try.underlying3 (zeroI _) b n.all.length D rfl ho _ (kl q) rfl hkey ?_; intro c0 _ _))
  go_ret
  exact ⟨by rw [← HH.out]; rfl, hB0⟩

theorem left_st {n : Gm} {D : DD} {c : LC} (hL : Lay n D c) {k : Lit} (h : Maps.has D k = true) : ∃ q, n.St q ∧ k = kl q ∧ 0 < c q := by
  obtain ⟨q, hq, rfl⟩ := hL.keys k h
  rw [hL.has q hq] at h
  exact ⟨q, hq, rfl, of_decide_eq_true h⟩
theorem key_is {n : Gm} (hn : GOk n) {x : Value} {q : List Int} (hq : n.St q) (h : keyOf Try.prog 52 x = some (kl q)) : x = tw q := klaw.inj h (key_tw hn hq)
theorem strike_other {n : Gm} (hn : GOk n) {q p : List Int} (hq : n.St q) (hp : n.St p) (h : p ≠ q) (left : Lit → Bool) : (left (kl p) && !(kl p).sameKey (kl q)) = left (kl p) := by
  rw [Maps.sameKey_ne (fun e => h (kl_inj hn hp hq e))]
  simp
theorem strike_self (q : List Int) (left : Lit → Bool) : (left (kl q) && !(kl q).sameKey (kl q)) = false := by
  rw [WideAt.sameKey_self (kl_key q)]
  simp
abbrev Rg (w : World) (n : Gm) (b r : Nat) (D : DD) (left : Lit → Bool) (cnt : Nat) : Prop := w.ranges Try.prog 52 (plainElem Try.prog 3) b r n.all.length D left cnt
theorem invVal (v : Value) (y : DD × List MemPlace) (h : plainElem Try.prog 3 v = some y) : ∃ x : Int, v = .int .i64 x := by
  obtain ⟨a, e, _⟩ := plainElem_int_inv Try.underlying3 h
  exact ⟨a, e⟩
theorem Below.gr {w w' : World} (h : Below w.heap.size w w') : w.grownBy w' none := ⟨h.os, h.tape, h.output, h.size, fun k hk _ => h.block k hk⟩

def MeetR (n : Gm) (c o : LC) (r : Bool) : Prop := r = true ↔ gmeetC n c o
def MeetTo (n : Gm) (c o : LC) (left : Lit → Bool) : Prop := ∀ q, n.St q → 0 < c q → left (kl q) = false → ¬ 0 < o q

set_option maxHeartbeats 1600000 in
set_option maxRecDepth 100000 in
theorem lmeets_any (n : Gm) (b b2 : Nat) (c o : LC) (w : World) (hn : Hid (GOk n)) (hl : Ly n w b c) (ho : Ly n w b2 o) :
    Calls Try.prog 91 #[.map (some b), .map (some b2)] w fun e w' => ∃ r : Bool, e = .returned (.bool r) ∧ MeetR n c o r ∧ Below w.heap.size w w' := by
  obtain ⟨D, hown, hL⟩ := hl
  go_enter Try.func91, Try.ntmps91
  go_wp2_with (at_range; refine wpList_range_own _ rfl _ 60 rfl 52 3 keyd Try.underlying60 _ b n.all.length D rfl hown ?_; intro w0 hrg0 hg0 hs0)
  go_frame
  have hB0 : Below w.heap.size w w0 := (Below.refl _ _).grown hg0 (Nat.le_refl _) (by intro k hk; cases hk)
  have hst0 : MeetTo n c o (Maps.has D) := fun q hq hc hf => by rw [hL.has q hq, decide_eq_true hc] at hf; cases hf
  have hle0 : ∀ k, Maps.has D k = true → Maps.has D k = true := fun _ h => h
  have HL := Lib.hid hL
  have HLE0 := Lib.hid hle0
  clear hs0 hL hle0 hown hg0
  go_loopw [5] (fun _ wr => ∃ left cnt, Rg wr n b w.heap.size D left cnt ∧ MeetTo n c o left ∧ Hid (∀ k, left k = true → Maps.has D k = true) ∧ Below w.heap.size w wr) (fun _ wr => wr.rangeLeft b w.heap.size)
  case atStart => exact ⟨_, _, hrg0, hst0, HLE0, hB0⟩
  case round =>
    obtain ⟨left, cnt, hrg, hmt, hle, hB⟩ := hrel
    clear hrg0 hst0 HLE0 hB0
    go_wp2_with (at_next; refine wpList_next_ranges _ rfl _ rfl 52 keyd _ (fun x : Value => x) (Value.int .i64) (fun key _ _ => ⟨key, rfl⟩) invVal b w.heap.size n.all.length D left cnt rfl hrg ?_ ?_)
    · intro _ hl0
      have HL0 := Lib.hid hl0
      clear hl0
      go_wp2
      go_ret
      refine ⟨false, rfl, Iff.intro (fun h => (by cases h)) (fun h => ?_), hB⟩
      obtain ⟨q, hq, h1, h2⟩ := h
      exact absurd h2 (hmt q hq h1 (HL0.out _))
    · intro x v k yd yp w1 cnt1 hkey hlk hv hat hrg1 hlt1 hg1 hs1 hen
      obtain ⟨q, hq, rfl, hcq⟩ := left_st HL.out (hle.out _ hlk)
      obtain rfl := key_is hn.out hq hkey
      have h9 := (hn.out.le9 hq)
      have hsr := hB.size
      have hB1 := hB.grown hg1 hsr (by intro k hk; cases hk; exact Nat.le_refl _)
      have hzero : Blk (w1.alloc (.cells (twl []).toArray 52)) w1.heap.size 52 (twl []) := Blk.new _ _ (twl []) _ rfl
      have hs1' : w.heap.size ≤ w1.heap.size := hB1.size
      have HS1 := Lib.hid hs1
      clear hs1 hB hg1 hat
      go_wp2_with (first | (refine wpList_store_tower rfl _ _ rfl w1.heap.size [] q (by simp) h9 rfl rfl hzero ?_; intro w3 hbT3 hgr3; have hz3 := hbT3.lt) | (refine wpList_load_tower rfl _ rfl w1.heap.size q h9 rfl hbT3 ?_))
      have hB3 := (hB1.alloc hs1' (.cells (twl []).toArray 52)).grown hgr3 (by simp; omega) (by intro k hk; cases hk; exact hs1')
      have hrg3 := ((hrg1.alloc (.cells (twl []).toArray 52)).kept hgr3 (by have := hrg1.owns.lt; simp; omega) (by have := hrg1.lt; simp; omega))
      have hsb := hrg1.owns.lt
      have hs3 := hB3.size
      clear hB1 hzero hgr3 hrg1
      refine (lhas_any n b2 o q _ hn (ho.below hB3 (Nat.le_refl _)) hq).mono ?_
      rintro e w4 ⟨rfl, hb4⟩
      have hB4 := hB3.trans (hb4.mono hs3)
      have hrg4 := hrg3.kept (Below.gr hb4) (by simp) (by simp)
      have HQ := Lib.hid hq
      clear hq hB3 hrg3 hb4 hbT3
      by_cases hoq : 0 < o q
      · have HD := Lib.hid (decide_eq_true hoq)
        rw [HD.out]
        have HM := Lib.hid (show gmeetC n c o from ⟨q, HQ.out, hcq, hoq⟩)
        clear hoq hmt
        go_wp2
        go_ret
        exact ⟨true, rfl, Iff.intro (fun _ => HM.out) (fun _ => rfl), hB4⟩
      · have HD := Lib.hid (decide_eq_false hoq)
        rw [HD.out]
        have HN := Lib.hid (show MeetTo n c o (fun z => left z && !z.sameKey (kl q)) from fun p hp h1 h2 => by
          by_cases e : p = q
          · rw [e]; exact hoq
          · exact hmt p hp h1 (by simpa only [strike_other hn.out HQ.out hp e left] using h2))
        have HLE := Lib.hid (show ∀ k, (left k && !k.sameKey (kl q)) = true → Maps.has D k = true from fun k hk => hle.out k (by rw [Bool.and_eq_true] at hk; exact hk.1))
        clear hoq hmt
        go_wp2
        go_roundw
        case rel => exact ⟨_, _, hrg4, HN.out, HLE, hB4⟩
        case measure => rw [hrg4.left_eq, hrg.left_eq]; omega

def KeepTo (n : Gm) (c o : LC) (left : Lit → Bool) (c' : LC) : Prop := ∀ q, n.St q → c' q = if left (kl q) = true then c q else keepC c o q

set_option maxHeartbeats 1600000 in
set_option maxRecDepth 100000 in
theorem lkeep_any (n : Gm) (b b2 : Nat) (c o : LC) (w : World) (hn : Hid (GOk n)) (hl : Ly n w b c) (ho : Ly n w b2 o) (hne : b ≠ b2) :
    Calls Try.prog 75 #[.map (some b), .map (some b2)] w fun e w' => e = .returned (.tuple #[]) ∧ Ly n w' b (keepC c o) ∧ w.grownBy w' (some b) := by
  obtain ⟨D0, hown, hL0⟩ := hl
  go_enter Try.func75, Try.ntmps75
  go_wp2_with (at_range; refine wpList_range_own _ rfl _ 60 rfl 52 3 keyd Try.underlying60 _ b n.all.length D0 rfl hown ?_; intro w0 hrg0 hg0 hs0)
  go_frame
  have hG0 : w.grownBy w0 (some b) := hg0.but _
  have hst0 : KeepTo n c o (Maps.has D0) c := fun q hq => by
    by_cases hc : 0 < c q
    · rw [if_pos (by rw [hL0.has q hq, decide_eq_true hc])]
    · rw [if_neg (by rw [hL0.has q hq, decide_eq_false hc]; exact Bool.false_ne_true)]
      unfold keepC
      split <;> omega
  have HL0 := Lib.hid hL0
  have HLE0 := Lib.hid (show ∀ k, Maps.has D0 k = true → Maps.has D0 k = true from fun _ h => h)
  clear hs0 hL0 hown hg0
  go_loopw [4] (fun _ wr => ∃ left cnt D c', Rg wr n b w.heap.size D left cnt ∧ KeepTo n c o left c' ∧ Hid (Lay n D c') ∧ Hid (∀ k, left k = true → Maps.has D k = true) ∧ w.grownBy wr (some b)) (fun _ wr => wr.rangeLeft b w.heap.size)
  case atStart => exact ⟨_, _, D0, c, hrg0, hst0, HL0, HLE0, hG0⟩
  case round =>
    obtain ⟨left, cnt, D, c', hrg, hkt, hL, hle, hG⟩ := hrel
    clear hrg0 hst0 HLE0 hG0 HL0
    go_wp2_with (at_next; refine wpList_next_ranges _ rfl _ rfl 52 keyd _ (fun x : Value => x) (Value.int .i64) (fun key _ _ => ⟨key, rfl⟩) invVal b w.heap.size n.all.length D left cnt rfl hrg ?_ ?_)
    · intro _ hl0
      have HE := Lib.hid (show Ly n wr b (keepC c o) from ⟨D, hrg.owns, hL.out.congr (fun q hq => by rw [hkt q hq, if_neg (by rw [hl0]; exact Bool.false_ne_true)])⟩)
      clear hl0
      go_wp2
      go_end0
      exact ⟨rfl, HE.out, hG⟩
    · intro x v k yd yp w1 cnt1 hkey hlk hv hat hrg1 hlt1 hg1 hs1 hen
      obtain ⟨q, hq, rfl, hcq⟩ := left_st hL.out (hle.out _ hlk)
      obtain rfl := key_is hn.out hq hkey
      have HCQ := Lib.hid (show c' q = c q by rw [hkt q hq, if_pos hlk])
      have h9 := (hn.out.le9 hq)
      have hsr := hG.size
      have hG1 := hG.andThen hg1 (by intro j hj; cases hj; exact .inl (Nat.le_refl _))
      have hzero : Blk (w1.alloc (.cells (twl []).toArray 52)) w1.heap.size 52 (twl []) := Blk.new _ _ (twl []) _ rfl
      have hs1' : w.heap.size ≤ w1.heap.size := hG1.size
      have HS1 := Lib.hid hs1
      have hbl := hrg1.owns.lt
      clear hs1 hG hg1 hat
      go_wp2_with (first | (refine wpList_store_tower rfl _ _ rfl w1.heap.size [] q (by simp) h9 rfl rfl hzero ?_; intro w3 hbT3 hgr3; have hz3 := hbT3.lt) | (refine wpList_load_tower rfl _ rfl w1.heap.size q h9 rfl hbT3 ?_))
      have hG3 := (hG1.andThen (World.grownBy_alloc w1 (.cells (twl []).toArray 52) none) (by intro j hj; cases hj)).andThen hgr3 (by intro j hj; cases hj; exact .inl hs1')
      have hrg3 := ((hrg1.alloc (.cells (twl []).toArray 52)).kept hgr3 (by simp; omega) (by have := hrg1.lt; simp; omega))
      clear hG1 hzero hgr3 hrg1
      refine (lhas_any n b2 o q _ hn (ho.grown hG3 (by simpa using hne)) hq).mono ?_
      rintro e w4 ⟨rfl, hb4⟩
      have hG4 := hG3.andThen (Below.gr hb4) (by intro j hj; cases hj)
      have hrg4 := hrg3.kept (Below.gr hb4) (by simp) (by simp)
      have hbT4 := hbT3.below hb4 hz3
      have HQ := Lib.hid hq
      clear hq hG3 hrg3 hb4 hbT3
      by_cases hoq : 0 < o q
      · have HD := Lib.hid (decide_eq_true hoq)
        rw [HD.out]
        have HN := Lib.hid (show KeepTo n c o (fun z => left z && !z.sameKey (kl q)) c' from fun p hp => by
          by_cases e : p = q
          · subst e
            rw [if_neg (by simp only [strike_self]; exact Bool.false_ne_true), HCQ.out]
            unfold keepC
            rw [if_pos hoq]
          · simp only [strike_other hn.out HQ.out hp e left]
            exact hkt p hp)
        have HLE := Lib.hid (show ∀ k, (left k && !k.sameKey (kl q)) = true → Maps.has D k = true from fun k hk => hle.out k (by rw [Bool.and_eq_true] at hk; exact hk.1))
        clear hoq hkt
        go_wp2
        go_roundw
        case rel => exact ⟨_, _, D, c', hrg4, HN.out, hL, HLE, hG4⟩
        case measure => rw [hrg4.left_eq, hrg.left_eq]; omega
      · have HD := Lib.hid (decide_eq_false hoq)
        rw [HD.out]
        have HN := Lib.hid (show KeepTo n c o (fun z => left z && !z.sameKey (kl q)) (fun p => if p = q then 0 else c' p) from fun p hp => by
          show (if p = q then 0 else c' p) = if (left (kl p) && !(kl p).sameKey (kl q)) = true then c p else keepC c o p
          by_cases e : p = q
          · subst e
            rw [if_pos rfl, if_neg (by simp only [strike_self]; exact Bool.false_ne_true)]
            unfold keepC
            rw [if_neg hoq]
          · rw [if_neg e]
            simp only [strike_other hn.out HQ.out hp e left]
            exact hkt p hp)
        have HLY := Lib.hid (hL.out.del hn.out HQ.out)
        have HLE := Lib.hid (show ∀ k, (left k && !k.sameKey (kl q)) = true → Maps.has (D.del (kl q)) k = true from fun k hk => by
          rw [Bool.and_eq_true] at hk
          have hne' : k ≠ kl q := fun e => by rw [e, WideAt.sameKey_self (kl_key q)] at hk; simp at hk
          rw [Maps.has_del_other hne']
          exact hle.out k hk.1)
        clear hoq hkt
        go_wp2_with (first | (refine wpList_load_tower rfl _ rfl w1.heap.size q h9 rfl hbT4 ?_) | (at_delete; refine wpList_delete_ranges _ rfl _ _ 60 52 rfl 3 keyd Try.underlying60 _ b w.heap.size n.all.length D _ _ rfl hrg4 _ (kl q) rfl hkey ?_; intro w5 cnt5 hrg5 hle5 hturn; go_frame))
        rw [Maps.strike_twice] at hrg5
        have hG5 := hG4.andThen hturn.grown (by intro j hj; cases hj; exact .inr rfl)
        go_roundw
        case rel => exact ⟨_, _, _, _, hrg5, HN.out, HLY, HLE, hG5⟩
        case measure => rw [hrg5.left_eq, hrg.left_eq]; omega

def DropTo (n : Gm) (c o : LC) (left : Lit → Bool) (c' : LC) : Prop := ∀ q, n.St q → c' q = if left (kl q) = true then c q else dropC c o q

set_option maxHeartbeats 1600000 in
set_option maxRecDepth 100000 in
theorem ldrop_any (n : Gm) (b b2 : Nat) (c o : LC) (w : World) (hn : Hid (GOk n)) (hl : Ly n w b c) (ho : Ly n w b2 o) (hne : b ≠ b2) :
    Calls Try.prog 103 #[.map (some b), .map (some b2)] w fun e w' => e = .returned (.tuple #[]) ∧ Ly n w' b (dropC c o) ∧ w.grownBy w' (some b) := by
  obtain ⟨D0, hown, hL0⟩ := hl
  obtain ⟨D2, hown2, hL2⟩ := ho
  have hb0 := hown.lt
  go_enter Try.func103, Try.ntmps103
  go_wp2_with (at_range; refine wpList_range_own _ rfl _ 60 rfl 52 3 keyd Try.underlying60 _ b2 n.all.length D2 rfl hown2 ?_; intro w0 hrg0 hg0 hs0)
  go_frame
  have hG0 : w.grownBy w0 (some b) := hg0.but _
  have hst0 : Hid (∀ q, n.St q → 0 < o q → Maps.has D2 (kl q) = true) := Lib.hid (fun q hq ho => by rw [hL2.has q hq, decide_eq_true ho])
  have hown0 := hown.kept hg0 (by simp)
  have HL0 := Lib.hid hL0
  have HL2 := Lib.hid hL2
  have HLE0 := Lib.hid (show ∀ k, Maps.has D2 k = true → Maps.has D2 k = true from fun _ h => h)
  have hst1 : Hid (∀ q, n.St q → c q = if 0 < o q ∧ Maps.has D2 (kl q) = false then 0 else c q) := Lib.hid (fun q hq => by
    by_cases ho : 0 < o q
    · rw [if_neg (fun h => by rw [hL2.has q hq, decide_eq_true ho] at h; cases h.2)]
    · rw [if_neg (fun h => ho h.1)])
  clear hs0 hL0 hL2 hown hown2 hg0 hst0
  go_loopw [4] (fun _ wr => ∃ left cnt D c', Rg wr n b2 w.heap.size D2 left cnt ∧ wr.ownsMap Try.prog 52 (plainElem Try.prog 3) b n.all.length D ∧ Hid (∀ q, n.St q → c' q = if 0 < o q ∧ left (kl q) = false then 0 else c q) ∧ Hid (Lay n D c') ∧ Hid (∀ k, left k = true → Maps.has D2 k = true) ∧ w.grownBy wr (some b)) (fun _ wr => wr.rangeLeft b2 w.heap.size)
  case atStart => exact ⟨_, _, D0, c, hrg0, hown0, hst1, HL0, HLE0, hG0⟩
  case round =>
    obtain ⟨left, cnt, D, c', hrg, hownr, hkt, hL, hle, hG⟩ := hrel
    clear hrg0 hst1 HLE0 hG0 HL0 hown0
    go_wp2_with (at_next; refine wpList_next_ranges _ rfl _ rfl 52 keyd _ (fun x : Value => x) (Value.int .i64) (fun key _ _ => ⟨key, rfl⟩) invVal b2 w.heap.size n.all.length D2 left cnt rfl hrg ?_ ?_)
    · intro _ hl0
      have HE := Lib.hid (show Ly n wr b (dropC c o) from ⟨D, hownr, hL.out.congr (fun q hq => by
        rw [hkt.out q hq, hl0]
        unfold dropC
        by_cases ho : 0 < o q
        · rw [if_pos ⟨ho, rfl⟩, if_pos ho]
        · rw [if_neg (fun h => ho h.1), if_neg ho])⟩)
      clear hl0
      go_wp2
      go_end0
      exact ⟨rfl, HE.out, hG⟩
    · intro x v k yd yp w1 cnt1 hkey hlk hv hat hrg1 hlt1 hg1 hs1 hen
      obtain ⟨q, hq, rfl, hoq⟩ := left_st HL2.out (hle.out _ hlk)
      obtain rfl := key_is hn.out hq hkey
      have h9 := (hn.out.le9 hq)
      have hsr := hG.size
      have hbl := hownr.lt
      have hG1 := hG.andThen hg1 (by intro j hj; cases hj; exact .inl (Nat.le_refl _))
      have hrne : w.heap.size ≠ b := by omega
      have hown1 := hownr.kept hg1 (by simpa using hrne.symm)
      have hzero : Blk (w1.alloc (.cells (twl []).toArray 52)) w1.heap.size 52 (twl []) := Blk.new _ _ (twl []) _ rfl
      have hs1' : w.heap.size ≤ w1.heap.size := hG1.size
      have HS1 := Lib.hid hs1
      have hbl1 : b < w1.heap.size := hown1.lt
      have hbl2 := hrg1.owns.lt
      have hrl := hrg1.lt
      clear hs1 hG hg1 hat
      go_wp2_with (first | (refine wpList_store_tower rfl _ _ rfl w1.heap.size [] q (by simp) h9 rfl rfl hzero ?_; intro w3 hbT3 hgr3; have hz3 := hbT3.lt; have hown3 := ((hown1.alloc (.cells (twl []).toArray 52)).kept hgr3 (by simp; omega))) | (refine wpList_load_tower rfl _ rfl w1.heap.size q h9 rfl hbT3 ?_) | (at_delete; refine wpList_delete_own _ rfl _ _ 60 52 rfl 3 keyd Try.underlying60 _ b n.all.length D rfl hown3 _ (kl q) rfl hkey ?_; intro w5 hown5 hturn; go_frame))
      have hG3 := (hG1.andThen (World.grownBy_alloc w1 (.cells (twl []).toArray 52) none) (by intro j hj; cases hj)).andThen hgr3 (by intro j hj; cases hj; exact .inl hs1')
      have hrg3 := ((hrg1.alloc (.cells (twl []).toArray 52)).kept hgr3 (by simp; omega) (by simp; omega))
      have hG5 := hG3.andThen hturn.grown (by intro j hj; cases hj; exact .inr rfl)
      have hrg5 := hrg3.kept hturn.grown (by simpa using hne.symm) (by simpa using hrne)
      have HQ := Lib.hid hq
      have HN := Lib.hid (show ∀ p, n.St p → (fun p => if p = q then 0 else c' p) p = if 0 < o p ∧ (left (kl p) && !(kl p).sameKey (kl q)) = false then 0 else c p from fun p hp => by
        show (if p = q then 0 else c' p) = _
        by_cases e : p = q
        · subst e
          rw [if_pos rfl, if_pos ⟨hoq, strike_self p left⟩]
        · rw [if_neg e, strike_other hn.out HQ.out hp e left]
          exact hkt.out p hp)
      have HLY := Lib.hid (hL.out.del hn.out HQ.out)
      have HLE := Lib.hid (show ∀ k, (left k && !k.sameKey (kl q)) = true → Maps.has D2 k = true from fun k hk => hle.out k (by rw [Bool.and_eq_true] at hk; exact hk.1))
      clear hG1 hzero hgr3 hrg1 hG3 hrg3 hq
      go_roundw
      case rel => exact ⟨_, _, _, _, hrg5, hown5, HN, HLY, HLE, hG5⟩
      case measure => rw [hrg5.left_eq, hrg.left_eq]; omega


end Go.Proofs.Ytdlnniciccpchaa

