import Derived.Test.YticpdlgnaphnkaaK1
import Derived.Test.YticpdlgnaphnkaaI1
import Derived.Test.YticpdlgnaphnkaaI2
import Derived.Maps.Ext
namespace Go.Proofs.Yticpdlgnaphnkaa
open Go Go.RowKit Go.Pan

theorem arrK : WideMaps.ArrKey Try.prog 54 3 9 := ⟨Try.underlying54, by kernel_rfl, by kernel_rfl, by kernel_rfl⟩
theorem klaw : WideMaps.KeyLaw Try.prog 54 := arrK.law
theorem keyd : Maps.Keyed Try.prog 54 := Maps.Keyed.of_law klaw
theorem typesPos : ∃ m, Try.prog.types.size = m + 1 := ⟨Try.prog.types.size - 1, by have : 0 < Try.prog.types.size := of_decide_eq_true (by kernel_rfl); omega⟩
theorem zeroI (w : World) : (zeroValue 3).run Try.prog w = .ok (.int .i64 0) w := by kernel_rfl

/-- how a tower of nine numbers reads as a key -/
def kl9 (zs : List Int) : Lit := .string (keyBytes (zs.map fun x => .int .i64 x))
theorem key9 (zs : List Int) (h9 : zs.length = 9) (hb : ∀ x ∈ zs, (Lit.int .i64 x).wf = true) : keyOf Try.prog 54 (.agg (zs.map iv).toArray) = some (kl9 zs) := by
  have hkt := arrK.keyType typesPos
  obtain ⟨m, hm⟩ := typesPos
  have hu := arrK.hu
  have hsz := arrK.size
  have hone := arrK.one
  match zs, h9, hb with
  | [a0, a1, a2, a3, a4, a5, a6, a7, a8], _, hb =>
    simp only [List.mem_cons, List.not_mem_nil, or_false, forall_eq_or_imp, forall_eq] at hb
    obtain ⟨b0, b1, b2, b3, b4, b5, b6, b7, b8⟩ := hb
    unfold keyOf
    simp only [hu]
    rw [if_pos (by simp [hkt, Value.formed, hu, hsz]), hm]
    unfold Program.keyLits
    simp only [hu, Value.cells]
    rw [if_pos (by rw [hsz]; rfl), show List.range 9 = [0, 1, 2, 3, 4, 5, 6, 7, 8] from rfl]
    simp only [List.mapM_cons, List.mapM_nil]
    simp [hone, Program.keyLits, Try.underlying3, b0, b1, b2, b3, b4, b5, b6, b7, b8, kl9]
/-- a stack's key -/
def kl (q : List Int) : Lit := kl9 (q ++ List.replicate (9 - q.length) 0)
theorem small_wf {x : Int} (h1 : -1000000000000000 ≤ x) (h2 : x ≤ 1000000000000000) : (Lit.int .i64 x).wf = true := WalkArith.wf_i64 (by omega)
theorem key_tw {n : Nat} {q : List Int} (h : St n q) : keyOf Try.prog 54 (tw q) = some (kl q) := by
  refine key9 (q ++ List.replicate (9 - q.length) 0) (by have := h.1.le9; simp; omega) fun x hx => ?_
  rcases List.mem_append.1 hx with hx | hx
  · have := h.1.2.2.1 x hx
    have := h.1.le9
    exact small_wf (by omega) (by omega)
  · rw [List.mem_replicate] at hx
    rw [hx.2]
    exact small_wf (by omega) (by omega)
theorem tw_inj {n : Nat} {q p : List Int} (hq : St n q) (hp : St n p) (h : tw q = tw p) : q = p := by
  simp only [tw, twl, Value.agg.injEq, Array.mk.injEq] at h
  have h2 := List.map_inj_right (f := iv) (fun a b e => by simpa [iv] using e) |>.1 h
  exact (twl_inj (by rw [hq.2, hp.2])).1 h2
theorem kl_inj {n : Nat} {q p : List Int} (hq : St n q) (hp : St n p) (h : kl q = kl p) : q = p :=
  tw_inj hq hp (klaw.inj (key_tw hq) (by rw [h]; exact key_tw hp))
theorem kl_key (q : List Int) : WideAt.IsKeyLit (kl q) := trivial

abbrev DD := DataW Unit
/-- the map D is the layer c -/
structure Lay (n : Nat) (D : DD) (c : LC) : Prop where
  has : ∀ q, St n q → Maps.has D (kl q) = decide (0 < c q)
  val : ∀ q, St n q → 0 < c q → ∀ z, D.atKey (kl q) z = .lit (.int .i64 (c q))
  keys : ∀ k, Maps.has D k = true → ∃ q, St n q ∧ k = kl q
theorem Lay.congr {n : Nat} {D : DD} {c o : LC} (h : Lay n D c) (e : EqC n c o) : Lay n D o :=
  ⟨fun q hq => by rw [← e q hq]; exact h.has q hq, fun q hq hp => by rw [← e q hq] at hp ⊢; exact h.val q hq hp, h.keys⟩
theorem Lay.at0 {n : Nat} {D : DD} {c : LC} (h : Lay n D c) {q : List Int} (hq : St n q) : D.atKey (kl q) (.lit (.int .i64 0)) = .lit (.int .i64 (c q)) := by
  by_cases hp : 0 < c q
  · exact h.val q hq hp _
  · have hz : c q = 0 := by omega
    have hh := h.has q hq
    rw [decide_eq_false hp] at hh
    rw [Maps.atKey_of_not_has hh, hz]
    rfl
theorem Lay.empty (n : Nat) : Lay n (.map []) (fun _ => 0) := ⟨fun q _ => rfl, fun q _ h => by omega, fun k h => by cases h⟩
theorem Lay.put {n : Nat} {D : DD} {c : LC} (h : Lay n D c) (hD : Maps.IsMap D) {q : List Int} (hq : St n q) (x : Nat) (hx : 0 < x) : Lay n (D.put (kl q) (.lit (.int .i64 x))) (fun p => if p = q then x else c p) := by
  refine ⟨fun p hp => ?_, fun p hp hpos z => ?_, fun k hk => ?_⟩
  · by_cases e : p = q
    · subst e; rw [Maps.has_put_same hD (kl_key _), if_pos rfl, decide_eq_true hx]
    · rw [Maps.has_put_other (fun e' => e (kl_inj hp hq e')), if_neg e]; exact h.has p hp
  · by_cases e : p = q
    · subst e; rw [Maps.atKey_put_same hD (kl_key _), if_pos rfl]
    · rw [if_neg e] at hpos
      rw [Maps.atKey_put_other (fun e' => e (kl_inj hp hq e')), if_neg e]
      exact h.val p hp hpos z
  · by_cases e : k = kl q
    · exact ⟨q, hq, e⟩
    · rw [Maps.has_put_other e] at hk; exact h.keys k hk
theorem Lay.del {n : Nat} {D : DD} {c : LC} (h : Lay n D c) {q : List Int} (hq : St n q) : Lay n (D.del (kl q)) (fun p => if p = q then 0 else c p) := by
  refine ⟨fun p hp => ?_, fun p hp hpos z => ?_, fun k hk => ?_⟩
  · by_cases e : p = q
    · subst e; rw [Maps.has_del_same, if_pos rfl]; rfl
    · rw [Maps.has_del_other (fun e' => e (kl_inj hp hq e')), if_neg e]; exact h.has p hp
  · by_cases e : p = q
    · subst e; rw [if_pos rfl] at hpos; omega
    · rw [if_neg e] at hpos
      rw [Maps.atKey_del_other (fun e' => e (kl_inj hp hq e')), if_neg e]
      exact h.val p hp hpos z
  · by_cases e : k = kl q
    · exact ⟨q, hq, e⟩
    · rw [Maps.has_del_other e] at hk; exact h.keys k hk
open Classical in
noncomputable def keyRank (n : Nat) (k : Lit) : Int := if h : ∃ q, St n q ∧ k = kl q then (rankL (Classical.choose h) : Int) else -1
theorem keyRank_kl {n : Nat} {q : List Int} (hq : St n q) : keyRank n (kl q) = rankL q := by
  have h : ∃ p, St n p ∧ kl q = kl p := ⟨q, hq, rfl⟩
  unfold keyRank
  rw [dif_pos h]
  have hs := Classical.choose_spec h
  rw [← kl_inj hq hs.1 hs.2]
/-- a map has as many keys as there are stacks in its layer -/
theorem Lay.size {n : Nat} (hn : Cnt n) {D : DD} {c : LC} (h : Lay n D c) (hD : Maps.Canon D) : Maps.size D = (allS n).countP (fun q => decide (0 < c q)) := by
  obtain ⟨es, rfl, hp, hk⟩ := hD
  have hap := Maps.apart_of_rising hp
  have hst : ∀ p ∈ es, ∃ q, St n q ∧ p.1 = kl q ∧ 0 < c q := fun p hp' => by
    have hh : Maps.has (.map es : DD) p.1 = true := by
      rw [Maps.has_eq, List.any_eq_true]
      exact ⟨p, hp', WideAt.sameKey_self (hk p hp')⟩
    obtain ⟨q, hq, e⟩ := h.keys p.1 hh
    rw [e, h.has q hq] at hh
    exact ⟨q, hq, e, of_decide_eq_true hh⟩
  have hA : (es.map fun p => keyRank n p.1).Nodup := by
    refine List.pairwise_map.2 (List.Pairwise.imp_of_mem (fun {a b} ha hb hab e => ?_) hap)
    obtain ⟨qa, ha1, ha2, _⟩ := hst a ha
    obtain ⟨qb, hb1, hb2, _⟩ := hst b hb
    rw [ha2, hb2, keyRank_kl ha1, keyRank_kl hb1] at e
    exact hab (by rw [ha2, hb2, rankL_inj hn.pos hn.le ha1 hb1 (by omega)])
  have hB : (((allS n).filter fun q => decide (0 < c q)).map fun q => (rankL q : Int)).Nodup := by
    refine List.pairwise_map.2 (List.Pairwise.imp_of_mem (fun {a b} ha hb hab e => ?_) ((allS_nodup n).filter _))
    have ha1 := (mem_allS hn.pos hn.le).1 (List.mem_filter.1 ha).1
    have hb1 := (mem_allS hn.pos hn.le).1 (List.mem_filter.1 hb).1
    exact hab (rankL_inj hn.pos hn.le ha1 hb1 (by omega))
  have h1 := length_le_of_nodup_subset _ (((allS n).filter fun q => decide (0 < c q)).map fun q => (rankL q : Int)) hA (fun x hx => by
    simp only [List.mem_map] at hx
    obtain ⟨p, hp', rfl⟩ := hx
    obtain ⟨q, hq, e, hc⟩ := hst p hp'
    rw [e, keyRank_kl hq]
    exact List.mem_map.2 ⟨q, List.mem_filter.2 ⟨(mem_allS hn.pos hn.le).2 hq, decide_eq_true hc⟩, rfl⟩)
  have h2 := length_le_of_nodup_subset _ (es.map fun p => keyRank n p.1) hB (fun x hx => by
    simp only [List.mem_map] at hx
    obtain ⟨q, hq', rfl⟩ := hx
    obtain ⟨hq1, hq2⟩ := List.mem_filter.1 hq'
    have hq := (mem_allS hn.pos hn.le).1 hq1
    have hh := h.has q hq
    rw [hq2, Maps.has_eq, List.any_eq_true] at hh
    obtain ⟨p, hp', hs⟩ := hh
    have e := WideAt.sameKey_eq hs
    exact List.mem_map.2 ⟨p, hp', by rw [e, keyRank_kl hq]⟩)
  simp only [List.length_map] at h1 h2
  rw [Maps.size_eq, List.countP_eq_length_filter]
  omega
theorem Lay.size_le {n : Nat} (hn : Cnt n) {D : DD} {c : LC} (h : Lay n D c) (hD : Maps.Canon D) : Maps.size D ≤ fact n := by
  rw [h.size hn hD, ← allS_length n]
  exact List.countP_le_length
theorem tight {w : World} {b m : Nat} {D : DD} (h : w.ownsMap Try.prog 54 (plainElem Try.prog 3) b m D) : w.ownsMap Try.prog 54 (plainElem Try.prog 3) b (Maps.size D) D := by
  obtain ⟨es, clock, hb, F, hs, rfl⟩ := h
  exact ⟨es, clock, hb, F, by simp [Maps.size, length_sorted], rfl⟩
/-- block b is a layer -/
def Ly (n : Nat) (w : World) (b : Nat) (c : LC) : Prop := ∃ D : DD, w.ownsMap Try.prog 54 (plainElem Try.prog 3) b (fact n) D ∧ Lay n D c
theorem Ly.of {n : Nat} (hn : Cnt n) {w : World} {b m : Nat} {D : DD} {c : LC} (h : w.ownsMap Try.prog 54 (plainElem Try.prog 3) b m D) (hl : Lay n D c) : Ly n w b c :=
  ⟨D, (tight h).mono (hl.size_le hn (h.canon keyd)), hl⟩
theorem Ly.congr {n : Nat} {w : World} {b : Nat} {c o : LC} (h : Ly n w b c) (e : EqC n c o) : Ly n w b o := by
  obtain ⟨D, h1, h2⟩ := h
  exact ⟨D, h1, h2.congr e⟩
theorem Ly.lt {n : Nat} {w : World} {b : Nat} {c : LC} (h : Ly n w b c) : b < w.heap.size := by
  obtain ⟨D, h1, _⟩ := h
  exact h1.lt
theorem Ly.kept {n : Nat} {w w' : World} {b : Nat} {c : LC} (h : Ly n w b c) (hk : w'.heap[b]? = w.heap[b]?) : Ly n w' b c := by
  obtain ⟨D, ⟨es, clock, hb, F, hs, hD⟩, h2⟩ := h
  exact ⟨D, ⟨es, clock, hk.trans hb, F, hs, hD⟩, h2⟩
theorem Ly.below {n : Nat} {w w' : World} {b N : Nat} {c : LC} (h : Ly n w b c) (hb : Below N w w') (hN : w.heap.size ≤ N) : Ly n w' b c := h.kept (hb.block b (Nat.lt_of_lt_of_le h.lt hN))
theorem Ly.grown {n : Nat} {w w' : World} {b : Nat} {row : Option Nat} {c : LC} (h : Ly n w b c) (hg : w.grownBy w' row) (hne : row ≠ some b) : Ly n w' b c := h.kept (hg.block b h.lt (fun e => hne e.symm))
end Go.Proofs.Yticpdlgnaphnkaa
