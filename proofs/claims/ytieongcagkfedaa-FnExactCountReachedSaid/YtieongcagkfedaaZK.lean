import Derived.Test.YtieongcagkfedaaN4
import Derived.Test.YtieongcagkfedaaWD
import Derived.Test.YtieongcagkfedaaGE
import Derived.Test.YtieongcagkfedaaG5
import Derived.Test.YtieongcagkfedaaV2
import Derived.Test.YtieongcagkfedaaS15
import Derived.Test.YtieongcagkfedaaS21
import Derived.OpenShut
import Derived.Deep.RegionWith
namespace Go.Proofs.Ytieongcagkfedaa
open Go Go.RowKit Go.Pan

-- layers as sets: which stacks are reached; how many lists of turns reach them is not told
/-- the map D has just the stacks of S as its keys -/
structure LayZ (n : Gm) (D : DD) (S : List Int → Prop) : Prop where
  has : ∀ q, n.St q → (Maps.has D (kl q) = true ↔ S q)
  val : ∀ q, n.St q → ∃ v : Int, D.atKey (kl q) (.lit (.int .i64 0)) = .lit (.int .i64 v)
  keys : ∀ k, Maps.has D k = true → ∃ q, n.St q ∧ k = kl q
theorem LayZ.congr {n : Gm} {D : DD} {S T : List Int → Prop} (h : LayZ n D S) (e : ∀ q, n.St q → (S q ↔ T q)) : LayZ n D T :=
  ⟨fun q hq => (h.has q hq).trans (e q hq), h.val, h.keys⟩
theorem LayZ.empty (n : Gm) : LayZ n (.map []) (fun _ => False) :=
  ⟨fun q _ => Iff.intro (fun h : Maps.has (.map [] : DD) (kl q) = true => by cases h) (fun h : False => h.elim), fun q _ => ⟨0, Maps.atKey_of_not_has rfl _⟩, fun k h => by cases h⟩
theorem LayZ.put {n : Gm} (hn : GOk n) {D : DD} {S : List Int → Prop} (h : LayZ n D S) (hD : Maps.IsMap D) {q : List Int} (hq : n.St q) (x : Int) : LayZ n (D.put (kl q) (.lit (.int .i64 x))) (fun p => p = q ∨ S p) := by
  refine ⟨fun p hp => ?_, fun p hp => ?_, fun k hk => ?_⟩
  · by_cases e : p = q
    · subst e; rw [Maps.has_put_same hD (kl_key _)]; simp
    · rw [Maps.has_put_other (fun e' => e (kl_inj hn hp hq e'))]
      exact (h.has p hp).trans ⟨.inr, fun h => h.elim (fun h => absurd h e) id⟩
  · by_cases e : p = q
    · subst e; exact ⟨x, Maps.atKey_put_same hD (kl_key _) _ _⟩
    · rw [Maps.atKey_put_other (fun e' => e (kl_inj hn hp hq e'))]; exact h.val p hp
  · by_cases e : k = kl q
    · exact ⟨q, hq, e⟩
    · rw [Maps.has_put_other e] at hk; exact h.keys k hk
theorem LayZ.size {n : Gm} (hn : GOk n) {D : DD} {S : List Int → Prop} (h : LayZ n D S) (hD : Maps.Canon D) (l : List (List Int)) (hl : l.Nodup) (hm : ∀ q, q ∈ l ↔ n.St q ∧ S q) : Maps.size D = l.length := by
  obtain ⟨es, rfl, hp, hk⟩ := hD
  have hap := Maps.apart_of_rising hp
  have hst : ∀ p ∈ es, ∃ q, n.St q ∧ p.1 = kl q ∧ S q := fun p hp' => by
    have hh : Maps.has (.map es : DD) p.1 = true := by
      rw [Maps.has_eq, List.any_eq_true]
      exact ⟨p, hp', WideAt.sameKey_self (hk p hp')⟩
    obtain ⟨q, hq, e⟩ := h.keys p.1 hh
    rw [e] at hh
    exact ⟨q, hq, e, (h.has q hq).1 hh⟩
  have hA : (es.map fun p => keyRank n p.1).Nodup := by
    refine List.pairwise_map.2 (List.Pairwise.imp_of_mem (fun {a b} ha hb hab e => ?_) hap)
    obtain ⟨qa, ha1, ha2, _⟩ := hst a ha
    obtain ⟨qb, hb1, hb2, _⟩ := hst b hb
    rw [ha2, hb2, keyRank_kl hn ha1, keyRank_kl hn hb1] at e
    exact hab (by rw [ha2, hb2, all_idx (p := qb) ((hn.mem qa).2 ha1) (by omega)])
  have hB : (l.map fun q => (n.all.idxOf q : Int)).Nodup := by
    refine List.pairwise_map.2 (List.Pairwise.imp_of_mem (fun {a b} ha hb hab e => ?_) hl)
    exact hab (all_idx (p := b) ((hn.mem a).2 ((hm a).1 ha).1) (by omega))
  have h1 := length_le_of_nodup_subset _ (l.map fun q => (n.all.idxOf q : Int)) hA (fun x hx => by
    simp only [List.mem_map] at hx
    obtain ⟨p, hp', rfl⟩ := hx
    obtain ⟨q, hq, e, hc⟩ := hst p hp'
    rw [e, keyRank_kl hn hq]
    exact List.mem_map.2 ⟨q, (hm q).2 ⟨hq, hc⟩, rfl⟩)
  have h2 := length_le_of_nodup_subset _ (es.map fun p => keyRank n p.1) hB (fun x hx => by
    simp only [List.mem_map] at hx
    obtain ⟨q, hq', rfl⟩ := hx
    obtain ⟨hq, hS⟩ := (hm q).1 hq'
    have hh := (h.has q hq).2 hS
    rw [Maps.has_eq, List.any_eq_true] at hh
    obtain ⟨p, hp', hs⟩ := hh
    have e := WideAt.sameKey_eq hs
    exact List.mem_map.2 ⟨p, hp', by rw [e, keyRank_kl hn hq]⟩)
  simp only [List.length_map] at h1 h2
  rw [Maps.size_eq]
  omega
open Classical in
theorem LayZ.size_le {n : Gm} (hn : GOk n) {D : DD} {S : List Int → Prop} (h : LayZ n D S) (hD : Maps.Canon D) : Maps.size D ≤ n.all.length := by
  rw [h.size hn hD (n.all.filter fun q => decide (S q)) (hn.nodup.filter _) (fun q => by rw [List.mem_filter, hn.mem, decide_eq_true_eq])]
  exact List.length_filter_le _ _
/-- block b is a layer, as a set -/
def LyZ (n : Gm) (w : World) (b : Nat) (S : List Int → Prop) : Prop := ∃ D : DD, w.ownsMap Try.prog 65 (plainElem Try.prog 3) b n.all.length D ∧ LayZ n D S
theorem LyZ.of {n : Gm} (hn : GOk n) {w : World} {b m : Nat} {D : DD} {S : List Int → Prop} (h : w.ownsMap Try.prog 65 (plainElem Try.prog 3) b m D) (hl : LayZ n D S) : LyZ n w b S :=
  ⟨D, (tight h).mono (hl.size_le hn (h.canon keyd)), hl⟩
theorem leftZ {n : Gm} {D : DD} {S : List Int → Prop} (hL : LayZ n D S) {k : Lit} (h : Maps.has D k = true) : ∃ q, n.St q ∧ k = kl q ∧ S q := by
  obtain ⟨q, hq, rfl⟩ := hL.keys k h
  exact ⟨q, hq, rfl, (hL.has q hq).1 h⟩

/-- what the stacks of S that are no more left lead to -/
def dnZ (n : Gm) (mv : List Int → Nat → List Int) (m : Nat) (S : List Int → Prop) (left : Lit → Bool) (y : List Int) : Prop :=
  ∃ x, n.St x ∧ S x ∧ left (kl x) = false ∧ ∃ p, 1 ≤ p ∧ p ≤ m ∧ mv x p = y
/-- .. and what q leads to by the first i -/
def dnZi (n : Gm) (mv : List Int → Nat → List Int) (m : Nat) (S : List Int → Prop) (left : Lit → Bool) (q : List Int) (i : Nat) (y : List Int) : Prop :=
  dnZ n mv m S left y ∨ ∃ p, 1 ≤ p ∧ p ≤ i ∧ mv q p = y
/-- the stacks behind -/
def behZ (n : Gm) (mv : List Int → Nat → List Int) (m : Nat) (S : List Int → Prop) (y : List Int) : Prop := ∃ x, n.St x ∧ S x ∧ ∃ p, 1 ≤ p ∧ p ≤ m ∧ mv x p = y
theorem dnZ_strike {n : Gm} (hn : GOk n) {mv : List Int → Nat → List Int} {m : Nat} {S : List Int → Prop} {left : Lit → Bool} {q : List Int} (hq : n.St q) (hS : S q) (hl : left (kl q) = true) (y : List Int) :
    dnZi n mv m S left q m y ↔ dnZ n mv m S (fun z => left z && !z.sameKey (kl q)) y := by
  constructor
  · rintro (⟨x, hx, hSx, hlx, hp⟩ | ⟨p, h1, h2, h3⟩)
    · exact ⟨x, hx, hSx, by show (left (kl x) && !(kl x).sameKey (kl q)) = false; rw [hlx]; rfl, hp⟩
    · exact ⟨q, hq, hS, strike_self q left, p, h1, h2, h3⟩
  · rintro ⟨x, hx, hSx, hlx, hp⟩
    by_cases e : x = q
    · subst e
      obtain ⟨p, h⟩ := hp
      exact .inr ⟨p, h⟩
    · exact .inl ⟨x, hx, hSx, by rw [← hlx]; exact (strike_other hn hq hx e left).symm, hp⟩

/-- what the layers ask of books that are lent -/
structure ZP (n : Gm) (mv : List Int → Nat → List Int) (m : Nat) (pt : TypeId) (pv : Value) (FT FD : FuncId) : Prop where
  mT : ∀ u : World, Sem.run Try.prog (method 247 pt pv "loop.example/g01221/impl.turns") u = .ok (FT, pv) u
  mD : ∀ u : World, Sem.run Try.prog (method 247 pt pv "loop.example/g01221/impl.turned") u = .ok (FD, pv) u
  cT : ∀ (args : Array Value) (u : World), (callFunc FT args).run Try.prog u = .ok (.enter FT args) u
  cD : ∀ (args : Array Value) (u : World), (callFunc FD args).run Try.prog u = .ok (.enter FD args) u
  turns : ∀ u : World, Calls Try.prog FT #[pv] u fun e w' => ∃ r, e = .returned r ∧ OwnI w' r (ramp 1 m) ∧ From u.heap.size r ∧ Below u.heap.size u w'
  turned : ∀ (q : List Int) (p : Nat) (u : World), n.St q → 1 ≤ p → p ≤ m → Calls Try.prog FD #[pv, tw q, .int .i64 p] u fun e w' => e = .returned (tw (mv q p)) ∧ Below u.heap.size u w'
  st : ∀ (q : List Int) (p : Nat), n.St q → 1 ≤ p → p ≤ m → n.St (mv q p)

set_option maxHeartbeats 4000000 in
set_option maxRecDepth 100000 in
theorem zbehind_any (n : Gm) (mv : List Int → Nat → List Int) (m : Nat) (pt : TypeId) (pv : Value) (FT FD : FuncId) (b : Nat) (S : List Int → Prop) (w : World) (hn : Hid (GOk n)) (hP : Hid (ZP n mv m pt pv FT FD)) (hl : LyZ n w b S) (hks : m ≤ 1000) :
    Calls Try.prog 132 #[.map (some b), .iface pt pv] w fun e w' => ∃ b', e = .returned (.map (some b')) ∧ LyZ n w' b' (behZ n mv m S) ∧ w.heap.size ≤ b' ∧ Below w.heap.size w w' := by
  obtain ⟨D, hown, hL⟩ := hl
  have hmm := @run_makeMap Try.prog
  have hmk : (w.alloc (.map #[] 0)).ownsMap Try.prog 65 (plainElem (H := Unit) Try.prog 3) w.heap.size 0 (.map []) := World.ownsMap_made _ _ _ _
  have hown1 := hown.alloc (.map #[] 0)
  have hbl := hown.lt
  have HL := Lib.hid hL
  obtain ⟨kz, hkz⟩ : ∃ kz, ramp 1 m = kz := ⟨_, rfl⟩
  have hkl : kz.length = m := by rw [← hkz, ramp_length]
  have HKA := Lib.hid (show ∀ (i : Nat) (h : i < kz.length), kz[i] = ((i + 1 : Nat) : Int) by subst hkz; intro i h; rw [ramp_get _ _ _ (by rw [ramp_length] at h; exact h)]; omega)
  have HKL := Lib.hid hkl
  have hkz3 : kz.length ≤ 1000 := by omega
  have hmT := hP.out.mT
  have hcT := hP.out.cT
  have hmD := hP.out.mD
  have hcD := hP.out.cD
  have hBa : Below w.heap.size w (w.alloc (.map #[] 0)) := (Below.refl w.heap.size w).alloc (Nat.le_refl _) (.map #[] 0)
  have HKZ := Lib.hid hkz
  have hsa : w.heap.size + 1 ≤ (w.alloc (.map #[] 0)).heap.size := by simp
  clear hown hL hkz hkl
  go_enter Try.func132, Try.ntmps132
  go_wp2_with fail
  refine (hP.out.turns _).mono ?_
  rintro e wt ⟨rt, rfl, hot, hft, hbt⟩
  rw [HKZ.out] at hot
  have hmk1 := hmk.kept (grown_of_below hbt none) (by simp)
  have hown2 := hown1.kept (grown_of_below hbt none) (by simp)
  have hBt := hBa.trans (hbt.mono (by simp))
  have hszt := Nat.le_trans hsa hbt.size
  have hft2 : ∀ g, rt.ownBlock = some g → w.heap.size + 1 ≤ g := fun g hg => Nat.le_trans hsa (hft g hg)
  clear hmk hown1 hbt hBa hft hsa
  go_wp2_with (at_range; refine wpList_range_own _ rfl _ 81 rfl 65 3 keyd Try.underlying81 _ b n.all.length D rfl hown2 ?_; intro w0 hrg0 hg0 hs0)
  go_frame
  obtain ⟨r, hr⟩ : ∃ r, wt.heap.size = r := ⟨_, rfl⟩
  have hrb1 : w.heap.size + 1 ≤ r := by rw [← hr]; exact hszt
  rw [hr] at hrg0 ⊢
  have hB0 : Below w.heap.size w w0 := hBt.grown hg0 hBt.size (by intro k hk; cases hk)
  have hmk0 := (hmk1.kept hg0 (by simp)).mono (Nat.zero_le n.all.length)
  have hot0 : OwnI w0 rt kz := Own.grown hot hg0 (by intro g hg e; cases e)
  have HFT := Lib.hid (show ∀ g, rt.ownBlock = some g → w.heap.size + 1 ≤ g ∧ g < r from fun g hg => ⟨hft2 g hg, by rw [← hr]; exact hot.lt g hg⟩)
  have hrb : r ≠ w.heap.size := by omega
  have HLE0 := Lib.hid (show ∀ k, Maps.has D k = true → Maps.has D k = true from fun _ h => h)
  have HM0 := Lib.hid (show LayZ n (.map []) (dnZ n mv m S (Maps.has D)) from (LayZ.empty n).congr (fun y hy => ⟨fun h => h.elim, fun ⟨x, hx, hSx, hlx, _⟩ => by
    rw [(HL.out.has x hx).2 hSx] at hlx
    cases hlx⟩))
  have HRV := Lib.hid hr
  obtain ⟨adt, capt, rfl, hct, _, _⟩ := hot0.shape
  clear hr hs0 hg0 hmk1 hown2 hot hft2 hszt hBt
  go_loopw [7, 8, 10, 21, 22, 23] (fun _ _ _ _ _ _ wr => ∃ left cnt D', Rg wr n b r D left cnt ∧ wr.ownsMap Try.prog 65 (plainElem Try.prog 3) w.heap.size n.all.length D' ∧ OwnI wr (.slice adt kz.length capt) kz ∧ Hid (LayZ n D' (dnZ n mv m S left)) ∧ Hid (∀ k, left k = true → Maps.has D k = true) ∧ Below w.heap.size w wr) (fun _ _ _ _ _ _ wr => wr.rangeLeft b r)
  case atStart => exact ⟨_, _, _, hrg0, hmk0, hot0, HM0, HLE0, hB0⟩
  case round =>
    obtain ⟨left, cnt, D', hrg, hout, hot, hLY, hle, hB⟩ := hrel
    clear hrg0 hmk0 HM0 HLE0 hB0 hot0
    go_wp2_with (at_next; refine wpList_next_ranges _ rfl _ rfl 65 keyd _ (fun x : Value => x) (Value.int .i64) (fun key _ _ => ⟨key, rfl⟩) invVal b r n.all.length D left cnt rfl hrg ?_ ?_)
    · intro _ hl0
      have HE := Lib.hid (show LyZ n wr w.heap.size (behZ n mv m S) from ⟨D', hout, hLY.out.congr (fun y _ => ⟨fun ⟨x, h1, h2, _, h3⟩ => ⟨x, h1, h2, h3⟩, fun ⟨x, h1, h2, h3⟩ => ⟨x, h1, h2, by rw [hl0], h3⟩⟩)⟩)
      clear hl0
      go_wp2
      go_ret
      exact ⟨_, rfl, HE.out, Nat.le_refl _, hB⟩
    · intro x v k yd yp w1 cnt1 hkey hlk hv hat hrg1 hlt1 hg1 hs1 hen
      obtain ⟨q, hq, rfl, hcq⟩ := leftZ HL.out (hle.out _ hlk)
      obtain rfl := key_is hn.out hq hkey
      have h9 := hn.out.le9 hq
      have hsr := hB.size
      have hB1 := hB.grown hg1 hsr (by intro k hk; cases hk; omega)
      have hout1 := hout.kept hg1 (by simpa using hrb.symm)
      have hot1 : OwnI w1 (.slice adt kz.length capt) kz := Own.grown hot hg1 (by intro g hg e; cases e; have := HFT.out r hg; omega)
      have HFIRST := Lib.hid (show LayZ n D' (dnZi n mv m S left q 0) from hLY.out.congr (fun y _ => ⟨.inl, fun h => h.elim id (fun ⟨p, h1, h2, _⟩ => by omega)⟩))
      have HLAST := Lib.hid (show ∀ y, dnZi n mv m S left q m y ↔ dnZ n mv m S (fun z => left z && !z.sameKey (kl q)) y from dnZ_strike hn.out hq hcq hlk)
      have HLE := Lib.hid (show ∀ k, (left k && !k.sameKey (kl q)) = true → Maps.has D k = true from fun k hk => hle.out k (by rw [Bool.and_eq_true] at hk; exact hk.1))
      obtain ⟨left', hleft'⟩ : ∃ l, (fun z => left z && !z.sameKey (kl q)) = l := ⟨_, rfl⟩
      rw [hleft'] at HLAST
      rw [hleft'] at hrg1
      have HLE' := Lib.hid (show ∀ k, left' k = true → Maps.has D k = true from fun k hk => HLE.out k (by rw [← hleft'] at hk; exact hk))
      have hzero : Blk (w1.alloc (.cells (twl []).toArray 65)) w1.heap.size 65 (twl []) := Blk.new _ _ (twl []) _ rfl
      have hs1' : w.heap.size ≤ w1.heap.size := hB1.size
      have hob1 := hout1.lt
      have hbl1 := hrg1.owns.lt
      have hrl1 := hrg1.lt
      have htl1 := hot1.lt
      have HCQ := Lib.hid hcq
      have HQ := Lib.hid hq
      clear hs1 hB hg1 hat hv hleft' HLE hout hot hlk hcq
      go_wp2_with (first | (refine wpList_store_tower rfl _ _ rfl w1.heap.size [] q (by simp) h9 rfl rfl hzero ?_; intro w3 hbT3 hgr3; have hz3 := hbT3.lt))
      have hB3 := (hB1.alloc hs1' (.cells (twl []).toArray 65)).grown hgr3 (by simp; omega) (by intro k hk; cases hk; exact hs1')
      have hout3 := ((hout1.alloc (.cells (twl []).toArray 65)).kept hgr3 (by simp; omega))
      have hrg3 := ((hrg1.alloc (.cells (twl []).toArray 65)).kept hgr3 (by simp; omega) (by simp; omega))
      have hot3 : OwnI w3 (.slice adt kz.length capt) kz := Own.grown (hot1.alloc (.cells (twl []).toArray 65)) hgr3 (by intro g hg e; cases e; have := htl1 _ hg; omega)
      obtain ⟨bx, hbx⟩ : ∃ x, w1.heap.size = x := ⟨_, rfl⟩
      rw [hbx] at hbT3 hob1 hbl1 hrl1 ⊢
      have HTB := Lib.hid (show ∀ g, (Value.slice adt kz.length capt).ownBlock = some g → g ≠ bx ∧ g ≠ w.heap.size from fun g hg => by have h1 := htl1 g hg; have h2 := HFT.out g hg; omega)
      have HBX := Lib.hid hbx
      clear hB1 hzero hgr3 hrg1 hout1 hbx hz3 hot1 htl1
      go_loopw [10, 23] (fun _ kv wr => ∃ (i : Nat) (D2 : DD), kv = .int .i64 i ∧ i ≤ kz.length ∧ Rg wr n b r D left' cnt1 ∧ wr.ownsMap Try.prog 65 (plainElem Try.prog 3) w.heap.size n.all.length D2 ∧ OwnI wr (.slice adt kz.length capt) kz ∧ Hid (LayZ n D2 (dnZi n mv m S left q i)) ∧ Blk wr bx 65 (twl q) ∧ Below w.heap.size w wr) (fun _ kv _ => kz.length - (intOf kv).toNat)
      case atStart => exact ⟨0, D', rfl, by omega, hrg3, hout3, hot3, HFIRST, hbT3, hB3⟩
      case round =>
        obtain ⟨i, D2, rfl, hin, hrgi, houti, hoti, hLi, hbTi, hBi⟩ := hrel
        clear hrg3 hout3 HFIRST hbT3 hB3 hot3
        by_cases hil : i < kz.length
        · have hiK : i < m := by rw [← HKL.out]; exact hil
          have hqt := hP.out.st q (i + 1) HQ.out (by omega) (by omega)
          obtain ⟨gt, ot, rfl, hgt, hcellt, _⟩ := hoti.at (by omega)
          have hckt := hcellt i (by omega)
          rw [List.getElem?_map, List.getElem?_eq_getElem hil, HKA.out i hil] at hckt
          obtain ⟨K, hK⟩ : ∃ K, i + 1 = K := ⟨_, rfl⟩
          rw [hK] at hckt hqt
          have hra := hbTi.range
          have hlW := hbTi.lt
          have hut := Try.underlying65
          have hs9 : (twl q).length = 9 := twl_length _ h9
          have hsz : (Try.prog.info? 65).map (·.size) = some (twl q).length := by rw [Try.infoT, hs9]
          have hobl := houti.lt
          have hbxo : w.heap.size ≠ bx := by omega
          obtain ⟨q0, hq0⟩ : ∃ q0, mv q K = q0 := ⟨_, rfl⟩
          rw [hq0] at hqt
          have hkeyT := key_tw hn.out hqt
          obtain ⟨v0, hat0⟩ := hLi.out.val q0 hqt
          have hfit : n.all.length + 1 < maxLen := by have := hn.out.total; unfold maxLen; omega
          obtain ⟨z0, hz0⟩ : ∃ z, IntKind.i64.wrap (v0 + v) = z := ⟨_, rfl⟩
          have hwf2 : (Lit.int .i64 z0).wf = true := by rw [← hz0]; exact wf_wrap _ _
          have HNEW := Lib.hid (show LayZ n (D2.put (kl q0) (.lit (.int .i64 z0))) (dnZi n mv m S left q (i + 1)) from
            (hLi.out.put hn.out houti.isMap hqt z0).congr (fun y _ => by
              constructor
              · rintro (rfl | h | ⟨p, h1, h2, h3⟩)
                · exact .inr ⟨i + 1, by omega, Nat.le_refl _, by rw [hK]; exact hq0⟩
                · exact .inl h
                · exact .inr ⟨p, h1, by omega, h3⟩
              · rintro (h | ⟨p, h1, h2, h3⟩)
                · exact .inr (.inl h)
                · by_cases e : p = i + 1
                  · subst e; rw [hK] at h3; exact .inl (h3.symm.trans hq0)
                  · exact .inr (.inr ⟨p, h1, by omega, h3⟩)))
          have HUT := Lib.hid hs9
          have HQ0 := Lib.hid hq0
          have HK1 := Lib.hid (show 1 ≤ K ∧ K ≤ m by omega)
          clear hs9 hq0 hK hcellt
          go_wp2_with fail
          have HGT := Lib.hid (HTB.out gt rfl)
          refine wp_region_held_drew (S := (fun w' => w'.rangeAt bx 0 (twl q))) (by kernel_rfl) (hra) (fun hHeld => ?_)
          refine wpAnyH_take (i := 0) (v := ?_) rfl (by kernel_rfl) (by kernel_rfl) (by kernel_rfl) (fun _ _ _ h => h) (Or.inl ⟨by rfl, ?_⟩) (by assumption) ?_
          rotate_left
          · intro w _; go_simp; with_reducible rfl
          try simp only [List.getElem_toArray, List.getElem_cons_zero, Act.put, List.setIfInBounds_toArray, List.set_cons_zero, List.set_cons_succ]
          refine wpAnyH_take (i := 1) (v := ?_) rfl (by kernel_rfl) (by kernel_rfl) (by kernel_rfl) (fun _ _ _ h => h) (Or.inl ⟨by rfl, ?_⟩) (by assumption) ?_
          rotate_left
          · intro w _; go_simp; with_reducible rfl
          try simp only [List.getElem_toArray, List.getElem_cons_zero, List.getElem_cons_succ, Act.put, List.setIfInBounds_toArray, List.set_cons_zero, List.set_cons_succ]
          refine wpAnyH_take (i := 2) rfl (by kernel_rfl) (by kernel_rfl) (by kernel_rfl) (fun _ _ _ h => h) (yieldsIf_load_mid (by rfl) _ _ rfl _ _ rfl _ _ (fun w hw => hw) hut rfl hsz) (by assumption) ?_
          try simp only [List.getElem_toArray, List.getElem_cons_zero, List.getElem_cons_succ, Act.put, List.setIfInBounds_toArray, List.set_cons_zero, List.set_cons_succ]
          refine wpAnyH_take (i := 3) (v := ?_) rfl (by kernel_rfl) (by kernel_rfl) (by kernel_rfl) (fun _ _ _ h => h) (Or.inl ⟨by rfl, ?_⟩) (by assumption) ?_
          rotate_left
          · intro w _; go_simp; with_reducible rfl
          try simp only [List.getElem_toArray, List.getElem_cons_zero, List.getElem_cons_succ, Act.put, List.setIfInBounds_toArray, List.set_cons_zero, List.set_cons_succ]
          refine wpAnyH_take (i := 6) (v := ?_) rfl (by kernel_rfl) (by kernel_rfl) (by kernel_rfl) (fun _ _ _ h => h) (Or.inl ⟨by rfl, ?_⟩) (by assumption) ?_
          rotate_left
          · intro w _; go_simp; with_reducible rfl
          try simp only [List.getElem_toArray, List.getElem_cons_zero, List.getElem_cons_succ, Act.put, List.setIfInBounds_toArray, List.set_cons_zero, List.set_cons_succ]
          refine wpAnyH_ready (rs := [4]) (by kernel_rfl) (by simp) ?_
          refine AllReadyH.cons rfl (fun Kc hK => ?_) AllReadyH.nil
          go_simp
          refine (hP.out.turned q K _ HQ.out HK1.out.1 HK1.out.2).mono ?_
          rintro e w4 ⟨rfl, hb4⟩
          go_wp2_with fail
          refine hK.out _ _ (range_below hHeld hb4 hlW) (fun hHeld => ?_)
          clear hK Kc
          try simp only [List.getElem_toArray, List.getElem_cons_zero, List.getElem_cons_succ, Act.put, List.setIfInBounds_toArray, List.set_cons_zero, List.set_cons_succ]
          rw [HQ0.out]
          have hout4 := houti.kept (w' := w4) (row := none) ⟨hb4.os, hb4.tape, hb4.output, hb4.size, fun k hk _ => hb4.block k hk⟩ (by simp)
          have hrg4 := hrgi.kept (w' := w4) (row := none) ⟨hb4.os, hb4.tape, hb4.output, hb4.size, fun k hk _ => hb4.block k hk⟩ (by simp) (by simp)
          have hbT4 := hbTi.drew.below hb4 hlW
          have hot4 : OwnI w4 (.slice (some ⟨gt, ot, none⟩) kz.length capt) kz := Own.same hoti.drew hb4
          have hB4 := hBi.drew.trans (hb4.mono hBi.size)
          obtain ⟨c1, st, w5, hme, hat5, hwc5, hout5, hg5, hsz5, hst5⟩ := owns_entry hout4 klaw Try.underlying81 Try.underlying3 zeroI hfit hkeyT
          rw [hat0] at hat5
          simp only [DataW.lit.injEq, Lit.int.injEq, true_and] at hat5
          subst hat5
          obtain ⟨c2, hlk4, hat6, _⟩ := hout4.lookup_int keyd Try.underlying81 Try.underlying3 (zeroI _) hkeyT
          rw [hat0] at hat6
          simp only [DataW.lit.injEq, Lit.int.injEq, true_and] at hat6
          subst hat6
          obtain ⟨c3, hlk5, hat7, _⟩ := hout5.lookup_int keyd Try.underlying81 Try.underlying3 (zeroI _) hkeyT
          rw [Maps.atKey_put_same houti.isMap (kl_key _)] at hat7
          simp only [DataW.lit.injEq, Lit.int.injEq, true_and] at hat7
          subst hat7
          obtain ⟨w6, hst6, hout6, hg6, hsz6⟩ := hst5 w5 z0 rfl hwf2
          have hbT5 := hbT4.grown hg5 (by simpa using hbxo)
          have hbT6 := hbT5.grown hg6 (by simpa using hbxo)
          have hot6 : OwnI w6 (.slice (some ⟨gt, ot, none⟩) kz.length capt) kz := Own.grown (Own.grown hot4 hg5 (by intro g hg e; simp [Value.ownBlock] at hg e; exact HGT.out.2 (by omega))) hg6 (by intro g hg e; simp [Value.ownBlock] at hg e; exact HGT.out.2 (by omega))
          have hHeld5 : w5.rangeAt bx 0 (twl q) := hbT5.range
          have hHeld6 : w6.rangeAt bx 0 (twl q) := hbT6.range
          have hrnb : r ≠ w.heap.size := hrb
          have hrg6 := (hrg4.kept hg5 (by simp; omega) (by simp; omega)).kept hg6 (by simp; omega) (by simp; omega)
          have hout7 := (tight hout6).mono (HNEW.out.size_le hn.out (hout6.canon keyd))
          have hB6 := (hB4.grown hg5 hB4.size (by intro k hk; cases hk; exact Nat.le_refl _)).grown hg6 (by have := hB4.size; omega) (by intro k hk; cases hk; exact Nat.le_refl _)
          have HST6 := Lib.hid hst6
          have HSZ5 := Lib.hid hsz5
          have HSZ6 := Lib.hid hsz6
          clear hst5 hsz5 hsz6 hat0 hbT4 hbT5 hg5 hg6 hB4 hrg4 hout6 hout4 hout5 hbTi hBi hrgi houti hot4 hoti
          refine wpAnyH_ready (rs := [5, 8]) (by kernel_rfl) (by simp) ?_
          refine AllReadyH.cons rfl (fun Kc hK => ?_) (AllReadyH.cons rfl (fun Kc hK => ?_) AllReadyH.nil)
          · refine step_lookup_int rfl _ _ 81 rfl w.heap.size _ _ rfl rfl hlk4 ?_
            refine hK.out _ _ hHeld (fun hHeld => ?_)
            clear hK Kc
            try simp only [List.getElem_toArray, List.getElem_cons_zero, List.getElem_cons_succ, Act.put, List.setIfInBounds_toArray, List.set_cons_zero, List.set_cons_succ]
            refine wpAnyH_take (i := 7) (v := ?_) rfl (by kernel_rfl) (by kernel_rfl) (by kernel_rfl) (fun _ _ _ h => h) (Or.inl ⟨by rfl, ?_⟩) (by assumption) ?_
            rotate_left
            · intro w _; go_simp; with_reducible rfl
            try simp only [List.getElem_toArray, List.getElem_cons_zero, List.getElem_cons_succ, Act.put, List.setIfInBounds_toArray, List.set_cons_zero, List.set_cons_succ]
            refine wpAnyH_ready (rs := [8]) (by kernel_rfl) (by simp) ?_
            refine AllReadyH.cons rfl (fun Kc hK => ?_) AllReadyH.nil
            refine step_mapEntry rfl _ _ 81 rfl w.heap.size _ _ rfl rfl hme ?_
            refine hK.out _ _ hHeld5 (fun hHeld => ?_)
            clear hK Kc
            try simp only [List.getElem_toArray, List.getElem_cons_zero, List.getElem_cons_succ, Act.put, List.setIfInBounds_toArray, List.set_cons_zero, List.set_cons_succ]
            refine wpAnyH_take (i := 9) (v := ?_) rfl (by kernel_rfl) (by kernel_rfl) (by kernel_rfl) (fun _ _ _ h => h) (Or.inl ⟨by rfl, ?_⟩) (by assumption) ?_
            rotate_left
            · intro w _; go_simp; with_reducible rfl
            try simp only [List.getElem_toArray, List.getElem_cons_zero, List.getElem_cons_succ, Act.put, List.setIfInBounds_toArray, List.set_cons_zero, List.set_cons_succ]
            refine wpAnyH_ready (rs := [10]) (by kernel_rfl) (by simp) ?_
            refine AllReadyH.cons rfl (fun Kc hK => ?_) AllReadyH.nil
            refine step_entryStore rfl _ _ _ 81 rfl w.heap.size _ _ rfl rfl rfl HST6.out ?_
            refine hK.out _ _ hHeld6 (fun hHeld => ?_)
            clear hK Kc
            try simp only [List.getElem_toArray, List.getElem_cons_zero, List.getElem_cons_succ, Act.put]
            refine wpAnyH_done (by kernel_rfl) ?_ _
            go_wp2
            go_roundw
            case rel => exact ⟨i + 1, _, by go_num, by omega, hrg6, hout7, hot6, HNEW, hbT6, hB6⟩
            case measure => simp [intOf] <;> omega
          · refine step_mapEntry rfl _ _ 81 rfl w.heap.size _ _ rfl rfl hme ?_
            refine hK.out _ _ hHeld5 (fun hHeld => ?_)
            clear hK Kc
            try simp only [List.getElem_toArray, List.getElem_cons_zero, List.getElem_cons_succ, Act.put, List.setIfInBounds_toArray, List.set_cons_zero, List.set_cons_succ]
            refine wpAnyH_take (i := 9) (v := ?_) rfl (by kernel_rfl) (by kernel_rfl) (by kernel_rfl) (fun _ _ _ h => h) (Or.inl ⟨by rfl, ?_⟩) (by assumption) ?_
            rotate_left
            · intro w _; go_simp; with_reducible rfl
            try simp only [List.getElem_toArray, List.getElem_cons_zero, List.getElem_cons_succ, Act.put, List.setIfInBounds_toArray, List.set_cons_zero, List.set_cons_succ]
            refine wpAnyH_ready (rs := [5]) (by kernel_rfl) (by simp) ?_
            refine AllReadyH.cons rfl (fun Kc hK => ?_) AllReadyH.nil
            refine step_lookup_int rfl _ _ 81 rfl w.heap.size _ _ rfl rfl hlk5 ?_
            refine hK.out _ _ hHeld5 (fun hHeld => ?_)
            clear hK Kc
            try simp only [List.getElem_toArray, List.getElem_cons_zero, List.getElem_cons_succ, Act.put, List.setIfInBounds_toArray, List.set_cons_zero, List.set_cons_succ]
            refine wpAnyH_take (i := 7) (v := ?_) rfl (by kernel_rfl) (by kernel_rfl) (by kernel_rfl) (fun _ _ _ h => h) (Or.inl ⟨by rfl, ?_⟩) (by assumption) ?_
            rotate_left
            · intro w _; go_simp; with_reducible rfl
            try simp only [List.getElem_toArray, List.getElem_cons_zero, List.getElem_cons_succ, Act.put, List.setIfInBounds_toArray, List.set_cons_zero, List.set_cons_succ]
            refine wpAnyH_ready (rs := [10]) (by kernel_rfl) (by simp) ?_
            refine AllReadyH.cons rfl (fun Kc hK => ?_) AllReadyH.nil
            refine step_entryStore rfl _ _ _ 81 rfl w.heap.size _ _ rfl rfl rfl HST6.out ?_
            refine hK.out _ _ hHeld6 (fun hHeld => ?_)
            clear hK Kc
            try simp only [List.getElem_toArray, List.getElem_cons_zero, List.getElem_cons_succ, Act.put]
            refine wpAnyH_done (by kernel_rfl) ?_ _
            go_wp2
            go_roundw
            case rel => exact ⟨i + 1, _, by go_num, by omega, hrg6, hout7, hot6, HNEW, hbT6, hB6⟩
            case measure => simp [intOf] <;> omega
        · have hEND : kz.length ≤ i := by omega
          have HEND := Lib.hid (show LayZ n D2 (dnZ n mv m S left') from hLi.out.congr (fun y _ => by
            have e : i = m := by have := HKL.out; omega
            rw [e]
            exact HLAST.out y))
          go_wp2
          go_roundw
          case rel => exact ⟨_, _, _, hrgi, houti, hoti, HEND, HLE', hBi⟩
          case measure => rw [hrgi.left_eq, hrg.left_eq]; omega

end Go.Proofs.Ytieongcagkfedaa

namespace Go.Pan
-- books that are lent, as turns of a search
/-- the place to which a rule moves the book at a place -/
def toZ (rule : Int) (p : Nat) : Nat := if rule = 0 then 1 else if rule = 1 then max 1 (p - 1) else p
def mvZ (rule : Int) (q : List Int) (p : Nat) : List Int := insT q ((p : Int), (toZ rule p : Nat))
theorem toZ_bd (rule : Int) {p n : Nat} (h1 : 1 ≤ p) (h2 : p ≤ n) : 1 ≤ toZ rule p ∧ toZ rule p ≤ n := by
  unfold toZ
  split
  · omega
  · split <;> omega
theorem mvZ_B (rule : Int) {p n : Nat} (h1 : 1 ≤ p) (h2 : p ≤ n) : insB (n : Int) ((p : Int), (toZ rule p : Nat)) = true := by
  have := toZ_bd rule h1 h2
  rw [insB_iff]
  refine ⟨?_, ?_, ?_, ?_⟩ <;> simp only <;> omega
theorem mvZ_perm (rule : Int) {q : List Int} {p : Nat} (h1 : 1 ≤ p) (h2 : p ≤ q.length) : (mvZ rule q p).Perm q := insT_perm (mvZ_B rule h1 h2)
theorem mvZ_st (rule : Int) {n : Nat} {q : List Int} {p : Nat} (h : St n q) (h1 : 1 ≤ p) (h2 : p ≤ n) : St n (mvZ rule q p) := h.perm (mvZ_perm rule h1 (by rw [h.2]; exact h2)).symm

end Go.Pan

namespace Go.Proofs.Ytieongcagkfedaa
open Go Go.RowKit Go.Pan

theorem wpList_insert_ownZ {H : Type} {P : Program} (w : World) {ops : Array Oper} {rest : List Oper} {o : Oper} {a : Act} {Q : Exit → Act → World → Prop}
    (hg : o.guard = none) (m x v : Operand) (t : TypeId) (hop : o.op = Op.insert t m x v)
    (k e : TypeId) (K : Maps.Keyed P k) (ht : P.underlying t = some (.map k e)) (R : Value → Option (DataW H × List MemPlace)) (b n : Nat) (D : DataW H)
    (hm : a.eval m = .map (some b)) (hown : w.ownsMap P k R b n D) (hn : n < maxLen) (key val : Value) (kl : Lit) (hx : a.eval x = key) (hv : a.eval v = val) (hkey : keyOf P k key = some kl)
    (d : DataW H) (ps : List MemPlace) (hval : R val = some (d, ps))
    (hK : ∀ w', w'.ownsMap P k R b (n + 1) (D.put kl d) → w.grownBy w' (some b) → wpList P ops Q rest (a.put o.dst undef) w') :
    wpList P ops Q (o :: rest) a w := by
  refine wpList_plain hg fun K' hK' => ?_
  obtain ⟨w', hrun, r1, r2⟩ := hown.update K ht hn hkey hval
  unfold Oper.wp
  simp [execOp, hop, hm, hx, hv, hrun, Result.andThen]
  exact hK' _ _ (hK w' r1 r2)

set_option maxHeartbeats 800000 in
set_option maxRecDepth 100000 in
theorem turnsFromZ_any (a : Nat) (m : Nat) (w : World) (ha : a ≤ 9) (hm : m ≤ 1000) (ham : a ≤ m + 1) :
    Calls Try.prog 175 #[.int .i64 a, .int .i64 m] w fun e w' => ∃ r, e = .returned r ∧ OwnI w' r (ramp a (m + 1 - a)) ∧ From w.heap.size r ∧ Below w.heap.size w w' := by
  obtain ⟨i0, hi, hz0, hz1, hz2⟩ := info_parts Try.info3
  go_enter Try.func175, Try.ntmps175
  go_wp2_with (at_make; refine wpList_make_own _ rfl _ _ 22 rfl w.heap.size 3 i0 (.int .i64 0) 1 Try.underlying22 hi hz0 hz1 _ _ _ m rfl rfl rfl ?b1 ?b2 ?b3 ?_)
  case b1 => rw [hz2]; omega
  case b2 => unfold maxLen; omega
  case b3 => exact Nat.le_refl _
  intro w1 hown hgrow
  have ho0 := (Own.of_row hown).1
  have hf0 := (Own.of_row hown).2
  have hb0 : Below w.heap.size w w1 := (Below.refl _ _).grown hgrow (Nat.le_refl _) (by intro k hk; cases hk)
  clear hi hz0 hz1 hz2 hgrow hown
  go_wp2
  go_loopw [5, 6] (fun o i wr => ∃ k : Nat, k ≤ m + 1 - a ∧ i = .int .i64 ((a : Int) + k) ∧ OwnI wr o (ramp a k) ∧ From w.heap.size o ∧ Below w.heap.size w wr) (fun _ i _ => m + 1 - (intOf i).toNat)
  case atStart => exact ⟨0, by omega, by go_num, by simpa [ramp, OwnI] using ho0, hf0, hb0⟩
  case round =>
    obtain ⟨k, hk, rfl, ho, hf, hbr⟩ := hrel
    clear ho0 hf0 hb0
    by_cases hlt : k < m + 1 - a
    · have hle : (a : Int) + k ≤ m := by omega
      have hlen : (ramp (a : Int) k).length ≤ 1048576 := by rw [ramp_length]; omega
      have hsz := hbr.size
      go_wp2_with (at_builtin; refine wpList_app1 Try.intSl rfl _ _ rfl _ (ramp (a : Int) k) rfl (ho.alloc _) w.heap.size hf wr.heap.size ((a : Int) + k) rfl ?c1 _ (Below.refl _ _) ?c2 hlen ?_)
      case c1 => simp [go_sem]
      case c2 => simp; omega
      intro v' w4 ho' hf' hb' _
      have hbr' := (hbr.alloc hsz (.cells #[.int .i64 ((a : Int) + k)] 3)).trans (hb'.mono (by omega))
      rw [← ramp_snoc] at ho'
      clear ho hf hbr
      go_wp2
      go_roundw
      case rel => exact ⟨k + 1, by omega, by go_num, ho', hf', hbr'⟩
      case measure => simp [intOf] <;> omega
    · obtain rfl : k = m + 1 - a := by omega
      have hgt : (m : Int) < (a : Int) + ((m + 1 - a : Nat) : Int) := by omega
      go_wp2
      go_ret
      exact ⟨_, rfl, ho, hf, hbr⟩

set_option maxHeartbeats 800000 in
theorem placeBy_any (rule : Int) (p : Nat) (w : World) (h1 : 1 ≤ p) (h9 : p ≤ 9) :
    Calls Try.prog 148 #[.int .i64 rule, .int .i64 p] w fun e w' => e = .returned (.int .i64 (toZ rule p : Nat)) ∧ w = w' := by
  by_cases h0 : rule = 0
  · have HT := Lib.hid (show toZ rule p = 1 by unfold toZ; rw [if_pos h0])
    have hq : (rule == 0) = true := by simp [h0]
    clear h0
    go_enter Try.func148, Try.ntmps148
    go_wp2
    go_ret
    exact ⟨by rw [HT.out]; rfl, rfl⟩
  · have hq : (rule == 0) = false := by simp [h0]
    by_cases h1' : rule = 1
    · have HT := Lib.hid (show toZ rule p = max 1 (p - 1) by unfold toZ; rw [if_neg h0, if_pos h1'])
      have hq1 : (rule == 1) = true := by simp [h1']
      clear h0 h1'
      go_enter Try.func148, Try.ntmps148
      go_wp2
      go_ret
      refine ⟨?_, rfl⟩
      rw [HT.out]
      show Ending.returned (Value.int IntKind.i64 (max 1 ((p : Int) - 1))) = _
      congr 2
      omega
    · have HT := Lib.hid (show toZ rule p = p by unfold toZ; rw [if_neg h0, if_neg h1'])
      have hq1 : (rule == 1) = false := by simp [h1']
      clear h0 h1'
      go_enter Try.func148, Try.ntmps148
      go_wp2
      go_ret
      exact ⟨by rw [HT.out]; rfl, rfl⟩

set_option maxRecDepth 100000 in
set_option maxHeartbeats 1600000 in
theorem lent_any (rule : Int) (xs : List Int) (p : Nat) (w : World) (h9 : xs.length ≤ 9) (h1 : 1 ≤ p) (h2 : p ≤ xs.length) :
    Calls Try.prog 138 #[tw xs, .int .i64 p, .int .i64 rule] w fun e w' => e = .returned (tw (mvZ rule xs p)) ∧ Below w.heap.size w w' := by
  obtain ⟨W, hW⟩ : ∃ W, W = (w.alloc (.cells (twl xs).toArray 65)).alloc (.cells (twl []).toArray 65) := ⟨_, rfl⟩
  have hbx : Blk W w.heap.size 65 (twl xs) := by rw [hW]; exact (Blk.new w _ (twl xs) _ rfl).alloc _
  have hz : Blk W (w.heap.size + 1) 65 (twl []) := by rw [hW]; exact Blk.new _ _ (twl []) _ (by simp)
  have hb0 : Below w.heap.size w W := by rw [hW]; exact ((Below.refl _ _).alloc (Nat.le_refl _) _).alloc (by simp) _
  have hut := Try.underlying65
  have hsz : (Try.prog.info? 65).map (·.size) = some (twl xs).length := by rw [Try.infoT, twl_length _ h9]
  have h9t : (mvZ rule xs p).length ≤ 9 := by rw [(mvZ_perm rule h1 h2).length_eq]; exact h9
  have HT9 := Lib.hid (twl_length (mvZ rule xs p) h9t)
  have hWs : w.heap.size + 1 < W.heap.size := hz.lt
  have HB := Lib.hid (mvZ_B rule h1 h2)
  have HW := Lib.hid (show W = (w.alloc (.cells (twl xs).toArray 65)).alloc (.cells #[.int .i64 0, .int .i64 0, .int .i64 0, .int .i64 0, .int .i64 0, .int .i64 0, .int .i64 0, .int .i64 0, .int .i64 0] 65) by rw [hW]; rfl)
  have cP := fun W => placeBy_any rule p W h1 (by omega)
  obtain ⟨t, ht⟩ : ∃ t, toZ rule p = t := ⟨_, rfl⟩
  have HMV := Lib.hid (show mvZ rule xs p = insT xs ((p : Int), (t : Int)) by unfold mvZ; rw [ht])
  rw [ht] at HB
  simp only [ht] at cP
  have HP := Lib.hid cP
  clear hW cP ht
  go_enter Try.func138, Try.ntmps138
  go_wp2_with fail
  rw [← HW.out]
  refine wp_region_held_drew (S := (fun w' => w'.rangeAt w.heap.size 0 (twl xs) ∧ (∃ ys : List Int, ys.length ≤ 9 ∧ Blk w' (w.heap.size + 1) 65 (twl ys)) ∧ Below w.heap.size w w' ∧ W.heap.size ≤ w'.heap.size)) (by kernel_rfl) (⟨hbx.range, ⟨[], by simp, hz.drew⟩, hb0.drew, Nat.le_refl _⟩) (fun hHeld => ?_)
  refine wpAnyH_take (i := 0) rfl (by kernel_rfl) (by kernel_rfl) (by kernel_rfl) (fun _ _ _ h => h) (yieldsIf_load_mid (by rfl) _ _ rfl _ _ rfl _ _ (fun w hw => hw.1) hut rfl hsz) (by assumption) ?_
  try simp only [List.getElem_toArray, List.getElem_cons_zero, Act.put, List.setIfInBounds_toArray, List.set_cons_zero, List.set_cons_succ]
  refine wpAnyH_take (i := 1) (v := ?_) rfl (by kernel_rfl) (by kernel_rfl) (by kernel_rfl) (fun _ _ _ h => h) (Or.inl ⟨by rfl, ?_⟩) (by assumption) ?_
  rotate_left
  · intro w _; go_simp; with_reducible rfl
  try simp only [List.getElem_toArray, List.getElem_cons_zero, List.getElem_cons_succ, Act.put, List.setIfInBounds_toArray, List.set_cons_zero, List.set_cons_succ]
  refine wpAnyH_take (i := 2) (v := ?_) rfl (by kernel_rfl) (by kernel_rfl) (by kernel_rfl) (fun _ _ _ h => h) (Or.inl ⟨by rfl, ?_⟩) (by assumption) ?_
  rotate_left
  · intro w _; go_simp; with_reducible rfl
  try simp only [List.getElem_toArray, List.getElem_cons_zero, List.getElem_cons_succ, Act.put, List.setIfInBounds_toArray, List.set_cons_zero, List.set_cons_succ]
  refine wpAnyH_take (i := 3) (v := ?_) rfl (by kernel_rfl) (by kernel_rfl) (by kernel_rfl) (fun _ _ _ h => h) (Or.inl ⟨by rfl, ?_⟩) (by assumption) ?_
  rotate_left
  · intro w _; go_simp; with_reducible rfl
  try simp only [List.getElem_toArray, List.getElem_cons_zero, List.getElem_cons_succ, Act.put, List.setIfInBounds_toArray, List.set_cons_zero, List.set_cons_succ]
  refine wpAnyH_ready (rs := [4]) (by kernel_rfl) (by simp) ?_
  refine AllReadyH.cons rfl (fun K hK => ?_) AllReadyH.nil
  go_simp
  refine (HP.out _).mono ?_
  rintro e w5 ⟨rfl, rfl⟩
  go_wp2_with fail
  refine hK.out _ _ (hHeld) (fun hHeld => ?_)
  clear hK K
  try simp only [List.getElem_toArray, List.getElem_cons_zero, List.getElem_cons_succ, Act.put, List.setIfInBounds_toArray, List.set_cons_zero, List.set_cons_succ]
  refine wpAnyH_take (i := 5) (v := ?_) rfl (by kernel_rfl) (by kernel_rfl) (by kernel_rfl) (fun _ _ _ h => h) (Or.inl ⟨by rfl, ?_⟩) (by assumption) ?_
  rotate_left
  · intro w _; go_simp; with_reducible rfl
  try simp only [List.getElem_toArray, List.getElem_cons_zero, List.getElem_cons_succ, Act.put, List.setIfInBounds_toArray, List.set_cons_zero, List.set_cons_succ]
  refine wpAnyH_ready (rs := [6]) (by kernel_rfl) (by simp) ?_
  refine AllReadyH.cons rfl (fun K hK => ?_) AllReadyH.nil
  go_simp
  refine (inserted_any xs (xs.length : Int) ((p : Int), (t : Int)) _ h9 HB (Lib.hid rfl)).mono ?_
  rintro e w6 ⟨rfl, hb6⟩
  go_wp2_with fail
  refine hK.out _ _ (⟨range_below hHeld.1 hb6 (by have := hHeld.2.2.2; omega), hHeld.2.1.imp (fun ys h => ⟨h.1, h.2.below hb6 h.2.lt⟩), hHeld.2.2.1.trans (hb6.mono hHeld.2.2.1.size), Nat.le_trans hHeld.2.2.2 hb6.size⟩) (fun hHeld => ?_)
  clear hK K
  try simp only [List.getElem_toArray, List.getElem_cons_zero, List.getElem_cons_succ, Act.put, List.setIfInBounds_toArray, List.set_cons_zero, List.set_cons_succ]
  rw [← HMV.out]
  refine wpAnyH_ready (rs := [7]) (by kernel_rfl) (by simp) ?_
  refine AllReadyH.cons rfl (fun K hK => ?_) AllReadyH.nil
  refine step_of_list rfl fun Q' hQ' => ?_
  obtain ⟨ys, hys, hby⟩ := hHeld.2.1
  refine wpList_store_tower rfl _ _ rfl (w.heap.size + 1) ys (mvZ rule xs p) hys h9t rfl rfl hby ?_
  intro w7 hbl7 hgr7
  refine hQ' _ _ ?_
  have hB7 := hHeld.2.2.1.grown hgr7 hHeld.2.2.1.size (by intro k hk; cases hk; omega)
  refine hK.out _ _ ⟨range_grownX hHeld.1 hgr7 (by have := hHeld.2.2.2; omega) (by simp), ⟨_, h9t, hbl7⟩, hB7, Nat.le_trans hHeld.2.2.2 hgr7.size⟩ (fun hHeld => ?_)
  clear hK K hQ' Q'
  try simp only [List.getElem_toArray, List.getElem_cons_zero, List.getElem_cons_succ, Act.put]
  refine wpAnyH_done (by kernel_rfl) ?_ _
  go_wp2
  exact bodyPost_ret (results_tower rfl _ _ (w.heap.size + 1) (mvZ rule xs p) h9t rfl hbl7) rfl ⟨rfl, hB7⟩

theorem lending_mT (a b : Int) (u : World) : Sem.run Try.prog (method 247 85 (.agg #[.int .i64 a, .int .i64 b]) "loop.example/g01221/impl.turns") u = .ok (174, .agg #[.int .i64 a, .int .i64 b]) u := by kernel_rfl
theorem lending_mD (a b : Int) (u : World) : Sem.run Try.prog (method 247 85 (.agg #[.int .i64 a, .int .i64 b]) "loop.example/g01221/impl.turned") u = .ok (173, .agg #[.int .i64 a, .int .i64 b]) u := by kernel_rfl

set_option maxRecDepth 100000 in
theorem lendingTurns_any (n : Nat) (rule : Int) (w : World) (hn : n ≤ 9) :
    Calls Try.prog 174 #[.agg #[.int .i64 n, .int .i64 rule]] w fun e w' => ∃ r, e = .returned r ∧ OwnI w' r (ramp 1 n) ∧ From w.heap.size r ∧ Below w.heap.size w w' := by
  obtain ⟨W, hW⟩ : ∃ W, W = w.alloc (.cells #[.int .i64 n, .int .i64 rule] 85) := ⟨_, rfl⟩
  have hz : Blk W w.heap.size 85 [.int .i64 n, .int .i64 rule] := by rw [hW]; exact Blk.new w _ _ _ rfl
  have hbW : Below w.heap.size w W := by rw [hW]; exact below_new w _
  have c0 : W.cell? ⟨w.heap.size, 0, none⟩ = some (.int .i64 n) := hz.cell 0
  have c := turnsFromZ_any 1 n W (by omega) (by omega) (by omega)
  rw [Nat.add_sub_cancel] at c
  have HC := Lib.hid c
  have HW := Lib.hid hW
  clear hW hz c
  go_enter Try.func174, Try.ntmps174
  go_wp2_with fail
  rw [← HW.out]
  go_wp2_with fail
  refine HC.out.mono ?_
  rintro e w1 ⟨r, rfl, ho, hf, hb⟩
  have hB := hbW.trans (hb.mono hbW.size)
  have hF : From w.heap.size r := hf.mono hbW.size
  go_wp2
  go_ret
  exact ⟨_, rfl, ho, hF, hB⟩

set_option maxRecDepth 100000 in
set_option maxHeartbeats 800000 in
theorem lendingTurned_any (n : Nat) (rule : Int) (xs : List Int) (p : Nat) (w : World) (h9 : xs.length ≤ 9) (h1 : 1 ≤ p) (h2 : p ≤ xs.length) :
    Calls Try.prog 173 #[.agg #[.int .i64 n, .int .i64 rule], tw xs, .int .i64 p] w fun e w' => e = .returned (tw (mvZ rule xs p)) ∧ Below w.heap.size w w' := by
  obtain ⟨W, hW⟩ : ∃ W, W = ((w.alloc (.cells #[.int .i64 n, .int .i64 rule] 85)).alloc (.cells (twl xs).toArray 65)).alloc (.cells (twl []).toArray 65) := ⟨_, rfl⟩
  have hl : Blk W w.heap.size 85 [.int .i64 n, .int .i64 rule] := by rw [hW]; exact ((Blk.new w _ _ _ rfl).alloc _).alloc _
  have hbx : Blk W (w.heap.size + 1) 65 (twl xs) := by rw [hW]; exact (Blk.new _ _ (twl xs) _ (by simp)).alloc _
  have hz : Blk W (w.heap.size + 1 + 1) 65 (twl []) := by rw [hW]; exact Blk.new _ _ (twl []) _ (by simp)
  have hb0 : Below w.heap.size w W := by rw [hW]; exact (((Below.refl _ _).alloc (Nat.le_refl _) _).alloc (by simp) _).alloc (by simp; omega) _
  have c1 : W.cell? ⟨w.heap.size, 1, none⟩ = some (.int .i64 rule) := hl.cell 1
  have HT := Lib.hid (twl_length xs h9)
  have h9t : (mvZ rule xs p).length ≤ 9 := by rw [(mvZ_perm rule h1 h2).length_eq]; exact h9
  have H9T := Lib.hid (twl_length _ h9t)
  have HW := Lib.hid hW
  clear hW hl
  go_enter Try.func173, Try.ntmps173
  go_upto_region 1 with fail
  generalize hWW : World.alloc (World.alloc (World.alloc w _) _) _ = W2
  have hWe : W = W2 := HW.out.trans hWW
  clear hWW
  subst hWe
  go_wp2_with (first | (refine wpList_load_tower rfl _ rfl (w.heap.size + 1) xs h9 rfl hbx ?_))
  refine (lent_any rule xs p _ h9 h1 h2).mono ?_
  rintro e w2 ⟨rfl, hb2⟩
  have hz2 := hz.below hb2 hz.lt
  have hB2 := hb0.trans (hb2.mono hb0.size)
  clear hbx hz hb2 hb0 c1
  go_wp2_with (first | (refine wpList_store_tower rfl _ _ rfl (w.heap.size + 1 + 1) [] (mvZ rule xs p) (by simp) h9t rfl rfl hz2 ?_; intro w5 hbT5 hgr5))
  have hB5 := hB2.grown hgr5 hB2.size (by intro k hk; cases hk; omega)
  exact bodyPost_ret (results_tower rfl _ _ (w.heap.size + 1 + 1) (mvZ rule xs p) h9t rfl hbT5) rfl ⟨rfl, hB5⟩

theorem lending_ZP {n : Nat} (rule : Int) (h9 : n ≤ 9) : ZP (pG n) (mvZ rule) n 85 (.agg #[.int .i64 n, .int .i64 rule]) 174 173 where
  mT := lending_mT n rule
  mD := lending_mD n rule
  cT := fun args u => by go_simp
  cD := fun args u => by go_simp
  turns := fun u => lendingTurns_any n rule u h9
  turned := fun q p u hq h1 h2 => by
    have h : q.length = n := hq.2
    exact lendingTurned_any n rule q p u (by omega) h1 (by omega)
  st := fun q p hq h1 h2 => mvZ_st rule hq h1 h2

/-- which stacks k turns lead to -/
def rchZ (n : Nat) (rule : Int) : Nat → List Int → Prop
  | 0 => fun q => q = ramp 1 n
  | k + 1 => behZ (pG n) (mvZ rule) n (rchZ n rule k)

set_option maxHeartbeats 1600000 in
set_option maxRecDepth 100000 in
theorem layerBehind_any (n : Nat) (rule : Int) (k : Nat) (w : World) (hn : Hid (GOk (pG n))) (hs : St n (ramp 1 n)) (h9 : n ≤ 9) (hk : k ≤ 1000) :
    Calls Try.prog 101 #[tw (ramp 1 n), .iface 85 (.agg #[.int .i64 n, .int .i64 rule]), .int .i64 k] w fun e w' => ∃ b', e = .returned (.map (some b')) ∧ LyZ (pG n) w' b' (rchZ n rule k) ∧ Below w.heap.size w w' := by
  have hmm := @run_makeMap Try.prog
  have h9s : (ramp 1 n).length ≤ 9 := by rw [ramp_length]; exact h9
  have hkey := key_tw hn.out (show (pG n).St (ramp 1 n) from hs)
  have hbx : Blk ((w.alloc (.cells (twl (ramp 1 n)).toArray 65)).alloc (.map #[] 0)) w.heap.size 65 (twl (ramp 1 n)) := (Blk.new w _ (twl (ramp 1 n)) _ rfl).alloc _
  have hmk : ((w.alloc (.cells (twl (ramp 1 n)).toArray 65)).alloc (.map #[] 0)).ownsMap Try.prog 65 (plainElem (H := Unit) Try.prog 3) (w.heap.size + 1) 0 (.map []) := by
    have := World.ownsMap_made (w.alloc (.cells (twl (ramp 1 n)).toArray 65)) Try.prog 65 (plainElem (H := Unit) Try.prog 3)
    simpa using this
  have hB0 : Below w.heap.size w ((w.alloc (.cells (twl (ramp 1 n)).toArray 65)).alloc (.map #[] 0)) := (below_new w _).alloc (by simp) _
  have HL := Lib.hid (show LayZ (pG n) ((DataW.map [] : DD).put (kl (ramp 1 n)) (.lit (.int .i64 1))) (rchZ n rule 0) from
    ((LayZ.empty (pG n)).put hn.out Maps.isMap_empty hs 1).congr (fun q _ => ⟨fun h => h.elim id False.elim, fun h => .inl h⟩))
  have HP := Lib.hid (lending_ZP (n := n) rule h9)
  obtain ⟨s, hss⟩ : ∃ s, ramp 1 n = s := ⟨_, rfl⟩
  rw [hss] at h9s hkey hbx hmk hB0 HL ⊢
  clear hs hss
  go_enter Try.func101, Try.ntmps101
  go_wp2_with (first | (refine wpList_load_tower rfl _ rfl w.heap.size s h9s rfl hbx ?_) | (refine wpList_insert_ownZ _ rfl _ _ _ 81 rfl 65 3 keyd Try.underlying81 _ (w.heap.size + 1) 0 (.map []) rfl hmk (by unfold maxLen; omega) _ _ (kl s) rfl rfl hkey (.lit (.int .i64 1)) [] (plainElem_int Try.underlying3 rfl) ?_; intro w3 hown3 hgr3))
  have hB3 := hB0.grown hgr3 (by simp; omega) (by intro k hk; cases hk; omega)
  have hly := LyZ.of hn.out hown3 HL.out
  clear hbx hmk hB0 hgr3 hown3
  go_wp2
  go_loopw [7, 12] (fun m i wr => ∃ (j b : Nat), j ≤ k ∧ i = .int .i64 j ∧ m = .map (some b) ∧ Hid (LyZ (pG n) wr b (rchZ n rule j)) ∧ Below w.heap.size w wr) (fun _ i _ => k - (intOf i).toNat)
  case atStart => exact ⟨0, _, Nat.zero_le _, rfl, rfl, Lib.hid hly, hB3⟩
  case round =>
    obtain ⟨j, b, hj, rfl, rfl, hl, hbr⟩ := hrel
    clear hly hB3
    by_cases hlt : j < k
    · have cb := zbehind_any (pG n) (mvZ rule) n _ _ _ _ b (rchZ n rule j) wr hn HP hl.out (by omega)
      go_wp2_with fail
      refine cb.mono ?_
      rintro e w4 ⟨b4, rfl, hl4, hb4', hb4⟩
      have hB4 := hbr.trans (hb4.mono hbr.size)
      have HL4 := Lib.hid (show LyZ (pG n) w4 b4 (rchZ n rule (j + 1)) from hl4)
      clear cb hl4 hb4' hb4
      go_wp2
      go_roundw
      case rel => exact ⟨j + 1, _, by omega, by go_num, rfl, HL4, hB4⟩
      case measure => simp [intOf] <;> omega
    · obtain rfl : j = k := by omega
      go_wp2
      go_ret
      exact ⟨_, rfl, hl.out, hbr⟩

end Go.Proofs.Ytieongcagkfedaa

namespace Go.Pan
-- the shelves that are reached, as lists
def ddSS (out : List (List Int)) (t : List Int) : List (List Int) := if t ∈ out then out else out ++ [t]
theorem ddSS_mem {out : List (List Int)} {t y : List Int} : y ∈ ddSS out t ↔ y ∈ out ∨ y = t := by
  unfold ddSS
  split
  · rename_i h
    exact ⟨.inl, fun h' => h'.elim id (fun e => e ▸ h)⟩
  · rw [List.mem_append, List.mem_singleton]
theorem ddSS_nodup {out : List (List Int)} (t : List Int) (h : out.Nodup) : (ddSS out t).Nodup := by
  unfold ddSS
  split
  · exact h
  · rename_i hn
    rw [List.nodup_append]
    refine ⟨h, by simp, fun a ha b hb e => ?_⟩
    rw [List.mem_singleton] at hb
    subst hb
    subst e
    exact hn ha
def ddF (rule : Int) (out : List (List Int)) (s : List Int) (i : Nat) : List (List Int) := (List.range i).foldl (fun o j => ddSS o (mvZ rule s (j + 1))) out
theorem ddF_zero (rule : Int) (out : List (List Int)) (s : List Int) : ddF rule out s 0 = out := rfl
theorem ddF_succ (rule : Int) (out : List (List Int)) (s : List Int) (i : Nat) : ddF rule out s (i + 1) = ddSS (ddF rule out s i) (mvZ rule s (i + 1)) := by
  unfold ddF
  rw [List.range_succ, List.foldl_append]
  rfl
theorem ddF_mem {rule : Int} {out : List (List Int)} {s y : List Int} (i : Nat) : y ∈ ddF rule out s i ↔ y ∈ out ∨ ∃ p, 1 ≤ p ∧ p ≤ i ∧ mvZ rule s p = y := by
  induction i with
  | zero => exact ⟨.inl, fun h => h.elim id (fun ⟨p, h1, h2, _⟩ => by omega)⟩
  | succ i ih =>
    rw [ddF_succ, ddSS_mem, ih]
    constructor
    · rintro ((h | ⟨p, h1, h2, h3⟩) | h)
      · exact .inl h
      · exact .inr ⟨p, h1, by omega, h3⟩
      · exact .inr ⟨i + 1, by omega, by omega, h.symm⟩
    · rintro (h | ⟨p, h1, h2, h3⟩)
      · exact .inl (.inl h)
      · by_cases e : p = i + 1
        · subst e; exact .inr h3.symm
        · exact .inl (.inr ⟨p, h1, by omega, h3⟩)
theorem ddF_nodup {rule : Int} {out : List (List Int)} (s : List Int) (h : out.Nodup) (i : Nat) : (ddF rule out s i).Nodup := by
  induction i with
  | zero => exact h
  | succ i ih => rw [ddF_succ]; exact ddSS_nodup _ ih
/-- what the first a of the shelves lead to -/
def nxTo (rule : Int) (n : Nat) (now : List (List Int)) (a : Nat) : List (List Int) := (now.take a).foldl (fun o s => ddF rule o s n) []
theorem nxTo_zero (rule : Int) (n : Nat) (now : List (List Int)) : nxTo rule n now 0 = [] := rfl
theorem nxTo_succ (rule : Int) (n : Nat) (now : List (List Int)) (a : Nat) (h : a < now.length) : nxTo rule n now (a + 1) = ddF rule (nxTo rule n now a) now[a] n := by
  unfold nxTo
  rw [List.take_succ_eq_append_getElem h, List.foldl_append]
  rfl
theorem nxF_mem {rule : Int} {n : Nat} (now out : List (List Int)) {y : List Int} : y ∈ now.foldl (fun o s => ddF rule o s n) out ↔ y ∈ out ∨ ∃ s ∈ now, ∃ p, 1 ≤ p ∧ p ≤ n ∧ mvZ rule s p = y := by
  induction now generalizing out with
  | nil => simp
  | cons s now ih =>
    rw [List.foldl_cons, ih, ddF_mem]
    constructor
    · rintro ((h | h) | ⟨x, hx, h⟩)
      · exact .inl h
      · exact .inr ⟨s, by simp, h⟩
      · exact .inr ⟨x, by simp [hx], h⟩
    · rintro (h | ⟨x, hx, h⟩)
      · exact .inl (.inl h)
      · rcases List.mem_cons.1 hx with rfl | hx
        · exact .inl (.inr h)
        · exact .inr ⟨x, hx, h⟩
theorem nxF_nodup {rule : Int} {n : Nat} (now out : List (List Int)) (h : out.Nodup) : (now.foldl (fun o s => ddF rule o s n) out).Nodup := by
  induction now generalizing out with
  | nil => exact h
  | cons s now ih => rw [List.foldl_cons]; exact ih _ (ddF_nodup s h n)
def rL (n : Nat) (rule : Int) : Nat → List (List Int)
  | 0 => [ramp 1 n]
  | k + 1 => nxTo rule n (rL n rule k) (rL n rule k).length
theorem rL_succ (n : Nat) (rule : Int) (k : Nat) : rL n rule (k + 1) = (rL n rule k).foldl (fun o s => ddF rule o s n) [] := by
  show nxTo _ _ _ _ = _
  unfold nxTo
  rw [List.take_length]
theorem rL_nodup (n : Nat) (rule : Int) (k : Nat) : (rL n rule k).Nodup := by
  cases k with
  | zero => show [ramp 1 n].Nodup; simp
  | succ k => rw [rL_succ]; exact nxF_nodup _ _ List.nodup_nil
def okReached (n k rule : Int) : Bool := inB n 1 6 && (inB k 0 20 && inB rule 0 2)
def mCountReached (n k rule : Int) : Int := if okReached n k rule = true then ((rL n.toNat rule k.toNat).length : Nat) else 0
theorem okReached_iff {n k rule : Int} : okReached n k rule = true ↔ (1 ≤ n ∧ n ≤ 6) ∧ (0 ≤ k ∧ k ≤ 20) ∧ (0 ≤ rule ∧ rule ≤ 2) := by
  simp only [okReached, Bool.and_eq_true, inB_iff]

end Go.Pan

namespace Go.Proofs.Ytieongcagkfedaa
open Go Go.RowKit Go.Pan

theorem rL_mem {n : Nat} {rule : Int} (h1 : 1 ≤ n) (h9 : n ≤ 9) (k : Nat) (q : List Int) : q ∈ rL n rule k ↔ (pG n).St q ∧ rchZ n rule k q := by
  induction k generalizing q with
  | zero =>
    show q ∈ [ramp 1 n] ↔ St n q ∧ q = ramp 1 n
    rw [List.mem_singleton]
    exact ⟨fun h => ⟨h ▸ St.ramp n h1 h9, h⟩, fun h => h.2⟩
  | succ k ih =>
    rw [rL_succ, nxF_mem]
    show _ ↔ St n q ∧ behZ (pG n) (mvZ rule) n (rchZ n rule k) q
    constructor
    · rintro (h | ⟨s, hs, p, hp1, hp2, rfl⟩)
      · cases h
      · have h := (ih s).1 hs
        exact ⟨mvZ_st rule h.1 hp1 hp2, s, h.1, h.2, p, hp1, hp2, rfl⟩
    · rintro ⟨_, s, h2, h3, p, hp⟩
      exact .inr ⟨s, (ih s).2 ⟨h2, h3⟩, p, hp⟩

theorem isRule_any (rule : Int) (w : World) : Calls Try.prog 100 #[.int .i64 rule] w fun e w' => e = .returned (.bool (inB rule 0 2)) ∧ w = w' := by
  by_cases h0 : rule = 0
  · subst h0
    go_enter Try.func100, Try.ntmps100
    go_wp2
    go_ret
    exact ⟨rfl, rfl⟩
  · by_cases h1 : rule = 1
    · subst h1
      go_enter Try.func100, Try.ntmps100
      go_wp2
      go_ret
      exact ⟨rfl, rfl⟩
    · by_cases h2 : rule = 2
      · subst h2
        go_enter Try.func100, Try.ntmps100
        go_wp2
        go_ret
        exact ⟨rfl, rfl⟩
      · have HB := Lib.hid (show inB rule 0 2 = false from inB_false (by omega))
        have q0 : (rule == 0) = false := by simp [h0]
        have q1 : (rule == 1) = false := by simp [h1]
        have q2 : (rule == 2) = false := by simp [h2]
        clear h0 h1 h2
        go_enter Try.func100, Try.ntmps100
        go_wp2
        go_ret
        exact ⟨by rw [HB.out]; rfl, rfl⟩

set_option maxHeartbeats 1600000 in
set_option maxRecDepth 100000 in
theorem CountReached_any (n k rule : Int) (w : World) :
    Calls Try.prog 48 #[.int .i64 n, .int .i64 k, .int .i64 rule] w fun e w' => e = .returned (.tuple #[.int .i64 (mCountReached n k rule), .bool (okReached n k rule)]) ∧ Below w.heap.size w w' := by
  by_cases hn : 1 ≤ n ∧ n ≤ 6
  · have n1 : ¬ n < 1 := by omega
    have n2 : ¬ 6 < n := by omega
    by_cases hk : 0 ≤ k ∧ k ≤ 20
    · have k1 : ¬ k < 0 := by omega
      have k2 : ¬ 20 < k := by omega
      have cR := isRule_any rule w
      cases hr : inB rule 0 2 with
      | true =>
        rw [hr] at cR
        have HO := Lib.hid (show okReached n k rule = true by unfold okReached; rw [inB_true hn, inB_true hk, hr]; rfl)
        have HM := Lib.hid (show mCountReached n k rule = ((rL n.toNat rule k.toNat).length : Nat) from if_pos HO.out)
        obtain ⟨m, rfl⟩ : ∃ m : Nat, n = (m : Int) := ⟨n.toNat, by omega⟩
        obtain ⟨j, rfl⟩ : ∃ j : Nat, k = (j : Int) := ⟨k.toNat, by omega⟩
        rw [Int.toNat_natCast, Int.toNat_natCast] at HM
        have hm1 : 1 ≤ m := by omega
        have hm9 : m ≤ 9 := by omega
        have HG := Lib.hid (pG_ok (m := m) ⟨hm1, hm9⟩ (by omega))
        have HS := Lib.hid (St.ramp m hm1 hm9)
        clear hr hn hk
        go_enter Try.func48, Try.ntmps48
        go_wp2_with fail
        refine cR.mono ?_
        rintro e w1 ⟨rfl, rfl⟩
        clear cR
        go_wp2_with fail
        refine (sortedTower_any m _ hm9).mono ?_
        rintro e w2 ⟨rfl, hb2⟩
        go_wp2_with fail
        refine (layerBehind_any m rule j _ HG HS.out hm9 (by omega)).mono ?_
        rintro e w3 ⟨b, rfl, hl, hb3⟩
        obtain ⟨D, hown, hL⟩ := hl
        have HSZ := Lib.hid (show Maps.size D = (rL m rule j).length from hL.size HG.out (hown.canon keyd) _ (rL_nodup m rule j) (rL_mem hm1 hm9 j))
        have hB3 := hb2.trans (hb3.mono hb2.size)
        clear hL hb3 hb2
        go_wp2_with (at_len; refine wpList_len_own _ rfl _ 81 rfl 65 3 Try.underlying81 _ b (pG m).all.length D rfl hown ?_; rw [HSZ.out])
        go_ret2
        exact ⟨by rw [HM.out, HO.out]; rfl, hB3⟩
      | false =>
        rw [hr] at cR
        have HO := Lib.hid (show okReached n k rule = false by unfold okReached; rw [hr]; simp)
        have HM := Lib.hid (show mCountReached n k rule = 0 from if_neg (by rw [HO.out]; exact Bool.false_ne_true))
        clear hr
        go_enter Try.func48, Try.ntmps48
        go_wp2_with fail
        refine cR.mono ?_
        rintro e w1 ⟨rfl, rfl⟩
        clear cR
        go_wp2
        go_ret2
        exact ⟨by rw [HM.out, HO.out]; rfl, Below.refl _ _⟩
    · have HO := Lib.hid (show okReached n k rule = false by unfold okReached; rw [inB_false hk]; simp)
      have HM := Lib.hid (show mCountReached n k rule = 0 from if_neg (by rw [HO.out]; exact Bool.false_ne_true))
      by_cases k1 : k < 0
      · clear hk
        go_enter Try.func48, Try.ntmps48
        go_wp2
        go_ret2
        exact ⟨by rw [HM.out, HO.out]; rfl, Below.refl _ _⟩
      · have k2 : 20 < k := by omega
        clear hk
        go_enter Try.func48, Try.ntmps48
        go_wp2
        go_ret2
        exact ⟨by rw [HM.out, HO.out]; rfl, Below.refl _ _⟩
  · have HO := Lib.hid (show okReached n k rule = false by unfold okReached; rw [inB_false hn]; rfl)
    have HM := Lib.hid (show mCountReached n k rule = 0 from if_neg (by rw [HO.out]; exact Bool.false_ne_true))
    by_cases n1 : n < 1
    · clear hn
      go_enter Try.func48, Try.ntmps48
      go_wp2
      go_ret2
      exact ⟨by rw [HM.out, HO.out]; rfl, Below.refl _ _⟩
    · have n2 : 6 < n := by omega
      clear hn
      go_enter Try.func48, Try.ntmps48
      go_wp2
      go_ret2
      exact ⟨by rw [HM.out, HO.out]; rfl, Below.refl _ _⟩

end Go.Proofs.Ytieongcagkfedaa

namespace Go.Pan
theorem insL_self {xs : List Int} {a : Nat} (h : a < xs.length) : insL xs a a = xs := by
  unfold insL delL
  have e : (xs.take a).length = a := by rw [List.length_take]; omega
  rw [List.take_append_of_le_length (by omega), List.take_take, Nat.min_self, List.drop_append_of_le_length (by omega), List.drop_of_length_le (by omega), List.nil_append, getD_eq h, List.append_assoc, List.singleton_append, List.getElem_cons_drop, List.take_append_drop]
theorem mvZ_same {rule : Int} {xs : List Int} {p : Nat} (h1 : 1 ≤ p) (h2 : p ≤ xs.length) (h : toZ rule p = p) : mvZ rule xs p = xs := by
  unfold mvZ insT
  rw [h]
  simp only
  exact insL_self (by omega)
theorem mvZ_front {xs : List Int} {m : Nat} (h2 : m < xs.length) : mvZ 0 xs (m + 1) = ([xs[m]] ++ xs.take m) ++ xs.drop (m + 1) := by
  unfold mvZ insT insL delL
  have e : toZ 0 (m + 1) = 1 := rfl
  rw [e]
  simp only
  rw [show (((m + 1 : Nat) : Int) - 1).toNat = m by omega, show (((1 : Nat) : Int) - 1).toNat = 0 by omega, List.take_zero, List.nil_append, List.drop_zero, getD_eq h2, List.append_assoc]
theorem mvZ_up {xs : List Int} {b : Nat} (h2 : b + 1 < xs.length) : mvZ 1 xs (b + 2) = (xs.set b xs[b + 1]).set (b + 1) xs[b] := by
  unfold mvZ insT insL delL
  have e : toZ 1 (b + 2) = b + 1 := by unfold toZ; simp
  rw [e]
  simp only
  rw [show (((b + 2 : Nat) : Int) - 1).toNat = b + 1 by omega, show (((b + 1 : Nat) : Int) - 1).toNat = b by omega, getD_eq h2]
  have e1 : (xs.take b).length = b := by rw [List.length_take]; omega
  have hx : xs = xs.take b ++ xs[b] :: xs[b + 1] :: xs.drop (b + 2) := by
    have h3 := List.take_append_drop b xs
    rw [List.drop_eq_getElem_cons (show b < xs.length by omega), List.drop_eq_getElem_cons h2] at h3
    exact h3.symm
  have hs : (xs.set b xs[b + 1]).set (b + 1) xs[b] = xs.take b ++ xs[b + 1] :: xs[b] :: xs.drop (b + 2) := by
    generalize hA : xs[b + 1] = y at *
    generalize hB : xs[b] = x at *
    conv => lhs; rw [hx]
    rw [List.set_append_right _ _ (by omega), e1, Nat.sub_self, List.set_cons_zero, List.set_append_right _ _ (by omega), e1, show b + 1 - b = 1 by omega, List.set_cons_succ, List.set_cons_zero]
  rw [hs]
  rw [List.take_append_of_le_length (by rw [List.length_take]; omega), List.take_take, Nat.min_eq_left (by omega), List.take_succ_eq_append_getElem (show b < xs.length by omega), List.drop_append_of_le_length (by rw [List.length_append, e1]; simp), List.drop_append_of_le_length (by omega), List.drop_of_length_le (by omega), List.nil_append, List.append_assoc]
  rfl

end Go.Pan

namespace Go.Proofs.Ytieongcagkfedaa
open Go Go.RowKit Go.Pan

theorem cellG {w : World} {g off n cap : Nat} {xs : List Int} (h : OwnI w (.slice (some ⟨g, off, none⟩) n cap) xs) (hn : n = xs.length) (j : Nat) (hj : j < xs.length) :
    w.cell? ⟨g, off + j, none⟩ = some (iv xs[j]) ∧ w.frozen? ⟨g, off + j, none⟩ = false ∧ ∀ u : Int, OwnI (w.setCell ⟨g, off + j, none⟩ (iv u)) (.slice (some ⟨g, off, none⟩) n cap) (xs.set j u) := by
  subst hn
  obtain ⟨ad, cap', hv, h1, h2, h3⟩ := h.shape
  simp only [Value.slice.injEq] at hv
  obtain ⟨rfl, _, rfl⟩ := hv
  obtain ⟨g', off', e, hg, hc, hf⟩ := Own.at h (by omega)
  simp only [Option.some.injEq, Addr.mk.injEq, and_true] at e
  obtain ⟨rfl, rfl⟩ := e
  have hcj := hc j (by omega)
  rw [List.getElem?_map, List.getElem?_eq_getElem hj] at hcj
  refine ⟨hcj, hf (off + j), fun u => ?_⟩
  have hs := Own.stored h j (by omega) (iv u)
  unfold OwnI
  rw [List.length_set, List.map_set]
  exact hs

theorem Try.info22Z : (Try.prog.info? 3).map (fun i => (i.zero, i.size, i.bytes)) = some (some (.int .i64 0), 1, 8) := by kernel_rfl
theorem fill1 : ∀ (B : Array Value) (_ : B.size = 1) (c0 : Value), B.setIfInBounds 0 c0 = #[c0]
  | ⟨[b0]⟩, _, _ => by simp
theorem step_build1 {ops : Array Oper} {o : Oper} {a : Act} {w : World} {K : Act → World → Prop} {Q : Exit → Act → World → Prop} {E : Prop}
    (hg : o.guard = none) (x : Operand) (hop : o.op = Op.buildSlice 22 1 #[(0, x)]) (z : Int) (hx : a.eval x = .int .i64 z)
    (h : K (a.put o.dst (.slice (some ⟨w.heap.size, 0, none⟩) 1 1)) (w.alloc (.cells #[.int .i64 z] 3))) :
    if Region.wanted o (yielded ops a.tmps) = true then Oper.wp Try.prog o a w K Q else E := by
  have hw : Region.wanted o (yielded ops a.tmps) = true := by simp [Region.wanted, hg]
  rw [if_pos hw]
  obtain ⟨i0, hi, hz0, hz1, hz2⟩ := info_parts Try.info22Z
  have hrun : (Instr.buildSlice 22 1 #[(0, .int .i64 z)]).run Try.prog w = .ok (.slice (some ⟨w.heap.size, 0, none⟩) 1 1) (w.alloc (.cells #[.int .i64 z] 3)) := by
    simp [Instr.buildSlice, run_underlying Try.underlying22, Go.sizeOf, typeInfo, hi, hz0, hz1, zeroValue, Instr.fill, newRow, Value.cells, List.zipIdx, Array.range]
    rw [fill1 _ (by simp [hz1])]
  unfold Oper.wp
  simp [execOp, hop, hx, hrun, Result.andThen]
  exact h

set_option maxHeartbeats 3200000 in
set_option maxRecDepth 100000 in
theorem shMove_any (rule : Int) (v : Value) (xs : List Int) (p : Nat) (w : World) (hv : OwnI w v xs) (h9 : xs.length ≤ 9) (h1 : 1 ≤ p) (h2 : p ≤ xs.length) :
    Calls Try.prog 84 #[v, .int .i64 p, .int .i64 rule] w fun e w' => ∃ r, e = .returned r ∧ OwnI w' r (mvZ rule xs p) ∧ From w.heap.size r ∧ Below w.heap.size w w' := by
  have cO := l1Own_any v xs w hv (by omega)
  obtain ⟨ad, cap, rfl, hc, _, _⟩ := hv.shape
  obtain ⟨m, rfl⟩ : ∃ m, p = m + 1 := ⟨p - 1, by omega⟩
  obtain ⟨g, off, rfl, hgl, hcell, _⟩ := hv.at (by omega)
  have hcm := hcell m (by omega)
  rw [List.getElem?_map, List.getElem?_eq_getElem (show m < xs.length by omega)] at hcm
  obtain ⟨x, hx⟩ : ∃ x, xs[m] = x := ⟨_, rfl⟩
  rw [hx] at hcm
  have hcm' : w.cell? ⟨g, off + m, none⟩ = some (.int .i64 x) := hcm
  have hw1 : IntKind.i64.wrap (((m + 1 : Nat) : Int) - 1) = (m : Int) := by rw [show ((m + 1 : Nat) : Int) - 1 = (m : Int) by omega]; exact IntWalk.i64_in _ (by omega)
  have hm0 : (0 : Int) ≤ (m : Int) := by omega
  have hml : (m : Int) < (xs.length : Int) := by omega
  have HV := Lib.hid hv
  obtain ⟨P, hP⟩ : ∃ P, m + 1 = P := ⟨_, rfl⟩
  have HPM := Lib.hid hP
  rw [hP] at hw1 h2
  rw [hP]
  by_cases h0 : rule = 0
  · subst h0
    have HM := Lib.hid (show mvZ 0 xs P = ([x] ++ xs.take m) ++ xs.drop P by rw [← hP, ← hx]; exact mvZ_front (by omega))
    have HR1 := Lib.hid (fun W => run_toI xs.length cap m (some ⟨g, off, none⟩) (by omega) W)
    have htk : (xs.take m).length ≤ 1048576 := by rw [List.length_take]; omega
    have hdk : (xs.drop P).length ≤ 1048576 := by rw [List.length_drop]; omega
    have htk1 : ([x] ++ xs.take m).length ≤ 1048576 := by rw [List.length_append, List.length_take]; simp; omega
    have HTM := Lib.hid (show (xs.take m).length = m by rw [List.length_take]; omega)
    clear hcell hcm hx hP h1
    go_enter Try.func84, Try.ntmps84
    go_wp2_with fail
    refine cO.mono ?_
    rintro e w1 ⟨r1, rfl, ho1, hf1, hb1⟩
    have hc1 := (hb1.cell (p := ⟨g, off + m, none⟩) hgl).trans hcm'
    have HV1 := Lib.hid (HV.out.same hb1)
    have hz1 := hb1.size
    have hgl1 : g < w1.heap.size := Nat.lt_of_lt_of_le hgl hz1
    clear cO hcm' ho1 hf1
    go_wp2_with fail
    refine wp_region_held_drew (S := (fun w' => Below w1.heap.size w1 w' ∧ w'.cell? ⟨g, off + m, none⟩ = some (.int .i64 x))) (by kernel_rfl) (⟨(Below.refl _ _).drew, hc1⟩) (fun hHeld => ?_)
    refine wpAnyH_take (i := 0) (v := ?_) rfl (by kernel_rfl) (by kernel_rfl) (by kernel_rfl) (fun _ _ _ h => h) (Or.inl ⟨by rfl, ?_⟩) (by assumption) ?_
    rotate_left
    · intro w _; go_simp; with_reducible rfl
    try simp only [List.getElem_toArray, List.getElem_cons_zero, Act.put, List.setIfInBounds_toArray, List.set_cons_zero, List.set_cons_succ]
    refine wpAnyH_take (i := 1) (v := ?_) rfl (by kernel_rfl) (by kernel_rfl) (by kernel_rfl) (fun _ _ _ h => h) (Or.inl ⟨by rfl, ?_⟩) (by assumption) ?_
    rotate_left
    · intro w _; go_simp; with_reducible rfl
    try simp only [List.getElem_toArray, List.getElem_cons_zero, List.getElem_cons_succ, Act.put, List.setIfInBounds_toArray, List.set_cons_zero, List.set_cons_succ]
    refine wpAnyH_take (i := 2) (v := ?_) rfl (by kernel_rfl) (by kernel_rfl) (by kernel_rfl) (fun _ _ _ h => h) (Or.inl ⟨by rfl, ?_⟩) (by assumption) ?_
    rotate_left
    · intro w _; go_simp; with_reducible rfl
    try simp only [List.getElem_toArray, List.getElem_cons_zero, List.getElem_cons_succ, Act.put, List.setIfInBounds_toArray, List.set_cons_zero, List.set_cons_succ]
    refine wpAnyH_take (i := 3) (v := ?_) rfl (by kernel_rfl) (by kernel_rfl) (by kernel_rfl) (fun _ _ _ h => h) (Or.inl ⟨by rfl, ?_⟩) (by assumption) ?_
    rotate_left
    · intro w _; go_simp; with_reducible rfl
    try simp only [List.getElem_toArray, List.getElem_cons_zero, List.getElem_cons_succ, Act.put, List.setIfInBounds_toArray, List.set_cons_zero, List.set_cons_succ]
    refine wpAnyH_take (i := 4) (v := ?_) rfl (by kernel_rfl) (by kernel_rfl) (by kernel_rfl) (fun _ _ _ h => h) (Or.inl ⟨by rfl, ?_⟩) (by assumption) ?_
    rotate_left
    · intro w hSw; obtain ⟨_, hx0⟩ := hSw; (go_simp <;> with_reducible rfl)
    try simp only [List.getElem_toArray, List.getElem_cons_zero, List.getElem_cons_succ, Act.put, List.setIfInBounds_toArray, List.set_cons_zero, List.set_cons_succ]
    refine wpAnyH_take (i := 6) (v := ?_) rfl (by kernel_rfl) (by kernel_rfl) (by kernel_rfl) (fun _ _ _ h => h) (Or.inl ⟨by rfl, ?_⟩) (by assumption) ?_
    rotate_left
    · intro w _; go_simp; with_reducible rfl
    try simp only [List.getElem_toArray, List.getElem_cons_zero, List.getElem_cons_succ, Act.put, List.setIfInBounds_toArray, List.set_cons_zero, List.set_cons_succ]
    refine wpAnyH_take (i := 7) (v := ?_) rfl (by kernel_rfl) (by kernel_rfl) (by kernel_rfl) (fun _ _ _ h => h) (Or.inl ⟨by rfl, ?_⟩) (by assumption) ?_
    rotate_left
    · intro w _; go_simp; with_reducible rfl
    try simp only [List.getElem_toArray, List.getElem_cons_zero, List.getElem_cons_succ, Act.put, List.setIfInBounds_toArray, List.set_cons_zero, List.set_cons_succ]
    refine wpAnyH_take (i := 8) (v := ?_) rfl (by kernel_rfl) (by kernel_rfl) (by kernel_rfl) (fun _ _ _ h => h) (Or.inl ⟨by rfl, ?_⟩) (by assumption) ?_
    rotate_left
    · intro w _; go_simp; with_reducible rfl
    try simp only [List.getElem_toArray, List.getElem_cons_zero, List.getElem_cons_succ, Act.put, List.setIfInBounds_toArray, List.set_cons_zero, List.set_cons_succ]
    refine wpAnyH_take (i := 9) (v := .slice (some ⟨g, off, none⟩) m cap) rfl (by kernel_rfl) (by kernel_rfl) (by kernel_rfl) (fun _ _ _ h => h) (Or.inl ⟨by rfl, ?_⟩) (by assumption) ?_
    · intro w_ _
      have h_ := HR1.out w_
      simp [execOp, Act.eval, h_]
    try simp only [List.getElem_toArray, List.getElem_cons_zero, List.getElem_cons_succ, Act.put, List.setIfInBounds_toArray, List.set_cons_zero, List.set_cons_succ]
    refine wpAnyH_ready (rs := [5]) (by kernel_rfl) (by simp) ?_
    refine AllReadyH.cons rfl (fun K hK => ?_) AllReadyH.nil
    refine step_build1 rfl _ rfl x rfl ?_
    have hbB := hHeld.1.alloc hHeld.1.size (.cells #[.int .i64 x] 3)
    refine hK.out _ _ ⟨hbB, (hbB.cell (p := ⟨g, off + m, none⟩) hgl1).trans hc1⟩ (fun hHeld => ?_)
    clear hK K
    try simp only [List.getElem_toArray, List.getElem_cons_zero, List.getElem_cons_succ, Act.put, List.setIfInBounds_toArray, List.set_cons_zero, List.set_cons_succ]
    have hO5 := OwnI.lit w1.drew 3 [x] 1 rfl (by omega) #[.int .i64 x] rfl
    have hsrc5 := Own.src (show Own _ 1 (.slice (some ⟨g, off, none⟩) m cap) m ((xs.take m).map iv) by
      have h := OwnI.take (HV1.out.below hbB (Nat.le_refl _)) (show m ≤ xs.length by omega)
      unfold OwnI at h
      rw [HTM.out] at h
      exact h)
    refine wpAnyH_ready (rs := [10]) (by kernel_rfl) (by simp) ?_
    refine AllReadyH.cons rfl (fun K hK => ?_) AllReadyH.nil
    refine step_of_list rfl fun Q' hQ' => ?_
    refine wpList_appI Try.intSl rfl _ _ rfl (.slice (some ⟨w1.drew.heap.size, 0, none⟩) 1 1) [x] rfl hO5 w1.heap.size (From.at _ _ _ _ _ (Nat.le_refl _)) (some ⟨g, off, none⟩) m cap (xs.take m) rfl HTM.out.symm hsrc5 w1 hbB hbB.size (by simp) htk ?_
    intro v7 w7 ho7 hf7 hb7 hg7
    refine hQ' _ _ ?_
    refine hK.out _ _ ⟨hb7, (hb7.cell (p := ⟨g, off + m, none⟩) hgl1).trans hc1⟩ (fun hHeld => ?_)
    clear hK K hQ' Q'
    try simp only [List.getElem_toArray, List.getElem_cons_zero, List.getElem_cons_succ, Act.put, List.setIfInBounds_toArray, List.set_cons_zero, List.set_cons_succ]
    refine wpAnyH_take (i := 11) (v := ?_) rfl (by kernel_rfl) (by kernel_rfl) (by kernel_rfl) (fun _ _ _ h => h) (Or.inl ⟨by rfl, ?_⟩) (by assumption) ?_
    rotate_left
    · intro w _; go_simp; with_reducible rfl
    try simp only [List.getElem_toArray, List.getElem_cons_zero, List.getElem_cons_succ, Act.put, List.setIfInBounds_toArray, List.set_cons_zero, List.set_cons_succ]
    refine wpAnyH_done (by kernel_rfl) ?_ _
    have HO7 := Lib.hid ho7
    have HV7 := Lib.hid (HV1.out.below hb7 (Nat.le_refl _))
    have hB7 := hb1.trans (hb7.mono hz1)
    have hf70 : From w.heap.size v7 := hf7.mono hz1
    have hz7 := hB7.size
    clear hHeld hsrc5 hO5 hbB ho7 hb7 hg7 hf7 hc1 HV1
    go_wp2_with (first | (refine wpList_from Try.intSl rfl _ _ rfl (some ⟨g, off, none⟩) xs.length cap P rfl rfl h2 xs rfl HV7.out ?_; intro sp m' c' hm' hod hsrc _) | (at_builtin; refine wpList_appI Try.intSl rfl _ _ rfl v7 ([x] ++ xs.take m) rfl HO7.out w.heap.size hf70 sp m' c' (xs.drop P) rfl hm'.out hsrc w hB7 hz7 htk1 hdk ?_))
    intro v10 w10 ho10 hf10 hb10 hg10
    have HR := Lib.hid (show OwnI w10 v10 (mvZ 0 xs P) by rw [HM.out]; exact ho10)
    clear ho10
    go_wp2
    go_ret
    exact ⟨_, rfl, HR.out, hf10, hb10⟩
  · have hq : (rule == 0) = false := by simp [h0]
    by_cases hr1 : rule = 1
    · subst hr1
      by_cases hp1 : 1 < P
      · obtain ⟨b, hb⟩ : ∃ b, m = b + 1 := ⟨m - 1, by omega⟩
        have hcb := hcell b (by omega)
        rw [List.getElem?_map, List.getElem?_eq_getElem (show b < xs.length by omega)] at hcb
        obtain ⟨y, hy⟩ : ∃ y, xs[b] = y := ⟨_, rfl⟩
        rw [hy] at hcb
        have hcb' : w.cell? ⟨g, off + b, none⟩ = some (.int .i64 y) := hcb
        have HM := Lib.hid (show mvZ 1 xs P = (xs.set b x).set m y by
          subst hb
          rw [← hP, ← hx, ← hy]
          exact mvZ_up (by omega))
        have hw2 : IntKind.i64.wrap ((P : Int) - 2) = (b : Int) := by rw [show (P : Int) - 2 = (b : Int) by omega]; exact IntWalk.i64_in _ (by omega)
        have hb0 : (0 : Int) ≤ (b : Int) := by omega
        have hbl : (b : Int) < (xs.length : Int) := by omega
        have hpi : (1 : Int) < (P : Int) := by omega
        have hbm : b < m := by omega
        have hmL : m < xs.length := by omega
        clear hcell hcm hcb hx hy hP h1 h0 hb
        go_enter Try.func84, Try.ntmps84
        go_wp2_with fail
        refine cO.mono ?_
        rintro e w1 ⟨r1, rfl, ho1, hf1, hb1⟩
        obtain ⟨a1, c1, hr1e, hcc1, _, _⟩ := ho1.shape
        subst hr1e
        obtain ⟨g1, o1, ha1, hg1l, _, _⟩ := ho1.at (by omega)
        subst ha1
        have hg1 := hf1 g1 rfl
        have hne : g1 ≠ g := by omega
        have hc1 := (hb1.cell (p := ⟨g, off + m, none⟩) hgl).trans hcm'
        have hc2 := (hb1.cell (p := ⟨g, off + b, none⟩) hgl).trans hcb'
        obtain ⟨d1, fz1, st1⟩ := cellG ho1 rfl b (by omega)
        have st1 := st1 x
        have hl2 : xs.length = (xs.set b x).length := by rw [List.length_set]
        have HL2 := Lib.hid hl2
        obtain ⟨d2, fz2, st2⟩ := cellG st1 hl2 m (by rw [List.length_set]; omega)
        have st2 := st2 y
        rw [← HM.out] at st2
        have hc2' : (w1.setCell ⟨g1, o1 + b, none⟩ (iv x)).cell? ⟨g, off + b, none⟩ = some (.int .i64 y) := by
          rw [← hc2]
          exact World.cell?_setCell_far _ _ _ _ hne
        have hb2 := (hb1.setCell (p := ⟨g1, o1 + b, none⟩) hg1 (iv x)).setCell (p := ⟨g1, o1 + m, none⟩) hg1 (iv y)
        have HS2 := Lib.hid st2
        clear cO hcm' hcb' hl2 st1 st2 ho1
        go_wp2
        go_ret
        exact ⟨_, rfl, HS2.out, hf1, hb2⟩
      · have HM := Lib.hid (show mvZ 1 xs P = xs by rw [← hP]; exact mvZ_same (by omega) (by omega) (by unfold toZ; simp; omega))
        have hpi : ¬ ((1 : Int) < (P : Int)) := by omega
        clear hcell hcm hx hP h1 h0 hcm'
        go_enter Try.func84, Try.ntmps84
        go_wp2_with fail
        refine cO.mono ?_
        rintro e w1 ⟨r1, rfl, ho1, hf1, hb1⟩
        clear cO
        go_wp2
        go_ret
        exact ⟨_, rfl, by rw [HM.out]; exact ho1, hf1, hb1⟩
    · have hq1 : (rule == 1) = false := by simp [hr1]
      have HM := Lib.hid (show mvZ rule xs P = xs by rw [← hP]; exact mvZ_same (by omega) (by omega) (by unfold toZ; rw [if_neg h0, if_neg hr1]))
      clear hcell hcm hx hP h1 h0 hcm' hr1
      go_enter Try.func84, Try.ntmps84
      go_wp2_with fail
      refine cO.mono ?_
      rintro e w1 ⟨r1, rfl, ho1, hf1, hb1⟩
      clear cO
      go_wp2
      go_ret
      exact ⟨_, rfl, by rw [HM.out]; exact ho1, hf1, hb1⟩

end Go.Proofs.Ytieongcagkfedaa

namespace Go.Pan
/-- which ranks have been seen -/
def seenV (L : List (List Int)) (N : Nat) : List Value := (List.range N).map fun r => Value.bool (L.any fun t => rankL t == r)
theorem seenV_length (L : List (List Int)) (N : Nat) : (seenV L N).length = N := by simp [seenV]
theorem seenV_nil (N : Nat) : seenV [] N = List.replicate N (Value.bool false) := by
  apply List.ext_getElem
  · simp [seenV]
  · intro j h1 h2
    simp [seenV]
theorem seenV_get (L : List (List Int)) (N r : Nat) (h : r < N) : (seenV L N)[r]? = some (.bool (L.any fun t => rankL t == r)) := by
  rw [List.getElem?_eq_getElem (by rw [seenV_length]; exact h)]
  simp [seenV]
theorem seenV_set (L : List (List Int)) (N : Nat) (t : List Int) : (seenV L N).set (rankL t) (.bool true) = seenV (L ++ [t]) N := by
  apply List.ext_getElem
  · simp [seenV]
  · intro j h1 h2
    rw [List.getElem_set]
    by_cases e : rankL t = j
    · rw [if_pos e]; simp [seenV, e]
    · rw [if_neg e]
      have : (rankL t == j) = false := by simp [e]
      simp [seenV, List.any_append, this]
theorem seen_iff {n : Nat} (h1 : 1 ≤ n) (h9 : n ≤ 9) {L : List (List Int)} (hL : ∀ q ∈ L, St n q) {t : List Int} (ht : St n t) : (L.any fun q => rankL q == rankL t) = decide (t ∈ L) := by
  rw [Bool.eq_iff_iff, decide_eq_true_eq, List.any_eq_true]
  constructor
  · rintro ⟨q, hq, e⟩
    rw [beq_iff_eq] at e
    rw [← rankL_inj h1 h9 (hL q hq) ht e]
    exact hq
  · intro h
    exact ⟨t, h, by simp⟩
theorem lenSt {n : Nat} (h1 : 1 ≤ n) (h9 : n ≤ 9) {L : List (List Int)} (hn : L.Nodup) (hL : ∀ q ∈ L, St n q) : L.length ≤ fact n := by
  have h := length_le_of_nodup_subset (L.map fun q => (rankL q : Int)) (ramp 0 (fact n))
    (List.pairwise_map.2 (List.Pairwise.imp_of_mem (fun {a b} ha hb hab e => hab (rankL_inj h1 h9 (hL a ha) (hL b hb) (by omega))) hn))
    (fun x hx => by
      obtain ⟨q, hq, rfl⟩ := List.mem_map.1 hx
      have := rank_lt (hL q hq)
      rw [mem_ramp]
      omega)
  rw [List.length_map, ramp_length] at h
  exact h
theorem rL_St {n : Nat} (rule : Int) (h1 : 1 ≤ n) (h9 : n ≤ 9) (k : Nat) : ∀ q ∈ rL n rule k, St n q := by
  induction k with
  | zero => intro q hq; rw [List.mem_singleton.1 hq]; exact St.ramp n h1 h9
  | succ k ih =>
    intro q hq
    rw [rL_succ, nxF_mem] at hq
    rcases hq with h | ⟨s, hs, p, hp1, hp2, rfl⟩
    · cases h
    · exact mvZ_st rule (ih s hs) hp1 hp2
theorem nx_St {n : Nat} {rule : Int} {now : List (List Int)} (hS : ∀ q ∈ now, St n q) (a : Nat) : ∀ q ∈ nxTo rule n now a, St n q := by
  intro q hq
  unfold nxTo at hq
  rw [nxF_mem] at hq
  rcases hq with h | ⟨s, hs, p, hp1, hp2, rfl⟩
  · cases h
  · exact mvZ_st rule (hS s (List.mem_of_mem_take hs)) hp1 hp2
theorem ddF_St {n : Nat} {rule : Int} {out : List (List Int)} {s : List Int} (hO : ∀ q ∈ out, St n q) (hs : St n s) {i : Nat} (hi : i ≤ n) : ∀ q ∈ ddF rule out s i, St n q := by
  intro q hq
  rw [ddF_mem] at hq
  rcases hq with h | ⟨p, hp1, hp2, rfl⟩
  · exact hO q h
  · exact mvZ_st rule hs hp1 (by omega)
theorem nx_nodup (rule : Int) (n : Nat) (now : List (List Int)) (a : Nat) : (nxTo rule n now a).Nodup := nxF_nodup _ _ List.nodup_nil

end Go.Pan

namespace Go.Proofs.Ytieongcagkfedaa
open Go Go.RowKit Go.Pan

theorem Try.infoBo : (Try.prog.info? 4).map (fun i => (i.zero, i.size, i.bytes)) = some (some (.bool false), 1, 1) := by kernel_rfl
theorem rowKeep {w w' : World} {B sz n N : Nat} {e : TypeId} {v : Value} {cs : List Value} (h : w.ownsRow B e sz v n cs) (hb : Below N w w') (hN : w.heap.size ≤ N) : w'.ownsRow B e sz v n cs := by
  refine h.kept (grown_of_below (hb.mono hN) none) ?_
  cases hv : v.ownBlock with
  | none => exact .inl rfl
  | some b => exact .inr (by simp)

/-- the shelves found in this step: which ranks have been seen; the list, each row with memory of its own -/
structure NX (w : World) (gS N : Nat) (v : Value) (hs : List Value) (L : List (List Int)) : Prop where
  blk : Blk w gS 4 (seenV L N)
  ss : SS w (gS + 1) w.heap.size v hs L
  row : w.ownsRow (gS + 1) 22 1 v hs.length hs
theorem NX.below {w w' : World} {gS N : Nat} {v : Value} {hs : List Value} {L : List (List Int)} (h : NX w gS N v hs L) (hb : Below w.heap.size w w') : NX w' gS N v hs L :=
  ⟨h.blk.below hb h.blk.lt, (h.ss.below hb (Nat.le_refl _)).mono (Nat.le_refl _) hb.size, rowKeep h.row hb (Nat.le_refl _)⟩
theorem NX.not {w : World} {gS N : Nat} {v : Value} {hs : List Value} {L : List (List Int)} (h : NX w gS N v hs L) : v.ownBlock ≠ some gS := fun e => by have := (h.ss.inn gS e).1; omega

theorem shRule_any (rule : Int) (w : World) : Calls Try.prog 77 #[.int .i64 rule] w fun e w' => e = .returned (.bool (inB rule 0 2)) ∧ w = w' := by
  go_enter Try.func77, Try.ntmps77
  go_wp2_with fail
  refine (l1In_any _ _ _ _).mono ?_
  rintro e w1 ⟨rfl, rfl⟩
  go_wp2
  go_ret
  exact ⟨rfl, rfl⟩

set_option maxHeartbeats 8000000 in
set_option maxRecDepth 100000 in
theorem sCountGood_any (m K : Nat) (rule : Int) (w : World) (hm1 : 1 ≤ m) (hm6 : m ≤ 6) (hK : K ≤ 20) (hr : inB rule 0 2 = true) :
    Calls Try.prog 47 #[.int .i64 m, .int .i64 K, .int .i64 rule] w fun e w' => e = .returned (.tuple #[.int .i64 ((rL m rule K).length : Nat), .bool true]) ∧ Below w.heap.size w w' := by
  have hm9 : m ≤ 9 := by omega
  obtain ⟨i0, hif, hz0, hz1, hz2⟩ := info_parts Try.infoBo
  obtain ⟨i1, hi, hs0, hs1, hs2⟩ := info_parts Try.info22
  have HI := Lib.hid hi
  have HS0 := Lib.hid hs0
  have HS1 := Lib.hid hs1
  have HS2 := Lib.hid hs2
  have HIF := Lib.hid hif
  have HZ0 := Lib.hid hz0
  have HZ1 := Lib.hid hz1
  have HZ2 := Lib.hid hz2
  have hN720 : fact m ≤ 720 := by have := fact_mono hm6; have h6 : fact 6 = 720 := rfl; omega
  have hNpos := fact_pos m
  obtain ⟨N, hN⟩ : ∃ N, fact m = N := ⟨_, rfl⟩
  have HN := Lib.hid hN
  rw [hN] at hN720 hNpos
  have q1 : inB (m : Int) 1 6 = true := inB_true (by omega)
  have q2 : inB (K : Int) 0 20 = true := inB_true (by omega)
  have cR := shRule_any rule
  rw [hr] at cR
  have c1 := l1In_any (m : Int) 1 6
  rw [q1] at c1
  have c2 := l1In_any (K : Int) 0 20
  rw [q2] at c2
  clear hi hs0 hs1 hs2 hif hz0 hz1 hz2 hN q1 q2 hr
  go_enter Try.func47, Try.ntmps47
  go_wp2_with fail
  refine (c1 _).mono ?_
  rintro e w1 ⟨rfl, rfl⟩
  go_wp2_with fail
  refine (c2 _).mono ?_
  rintro e w1 ⟨rfl, rfl⟩
  go_wp2_with fail
  refine (cR _).mono ?_
  rintro e w1 ⟨rfl, rfl⟩
  clear c1 c2 cR
  go_wp2_with fail
  refine (stFirst_any m _ (by omega)).mono ?_
  rintro e w2 ⟨r2, rfl, ho2, hf2, hb2⟩
  have hs2 := hb2.size
  obtain ⟨a2, n2, k2, rfl⟩ : ∃ a n c, r2 = .slice a n c := by obtain ⟨a, c, h, _⟩ := ho2.shape; exact ⟨a, _, c, h⟩
  have hI2 : In w.heap.size w2.heap.size (.slice a2 n2 k2) := fun g hg => ⟨hf2 g hg, ho2.lt g hg⟩
  have HS1' := Lib.hid (show SS (w2.alloc (.cells #[.slice a2 n2 k2] 22)) w.heap.size (w2.alloc (.cells #[.slice a2 n2 k2] 22)).heap.size (.slice (some ⟨w2.heap.size, 0, none⟩) 1 1) [.slice a2 n2 k2] (rL m rule 0) by
    rcases SS.one (ty := 22) ho2 hI2 with h | h
    · simpa [rL] using h
    · omega)
  have hB2 := hb2.alloc hs2 (.cells #[.slice a2 n2 k2] 22)
  clear hI2 ho2 hf2 hb2
  go_wp2
  go_loopw [1, 8] (fun kv nv wr => ∃ (r j : Nat) (hs : List Value), r + j = K ∧ kv = .int .i64 r ∧ Hid (SS wr w.heap.size wr.heap.size nv hs (rL m rule j)) ∧ Below w.heap.size w wr) (fun kv _ _ => (intOf kv).toNat)
  case atStart => exact ⟨K, 0, _, rfl, rfl, HS1', hB2⟩
  case round =>
    obtain ⟨r, j, hs, hrj, rfl, hNow, hbr⟩ := hrel
    obtain ⟨wk, rfl⟩ : ∃ z, z = wr := ⟨_, rfl⟩
    clear HS1' hB2
    by_cases hr0 : 0 < r
    · have hr0i : (0 : Int) < (r : Int) := by omega
      obtain ⟨now, hnow⟩ : ∃ l, rL m rule j = l := ⟨_, rfl⟩
      have HND := Lib.hid (show now.Nodup by rw [← hnow]; exact rL_nodup m rule j)
      have HST := Lib.hid (show ∀ q ∈ now, St m q by rw [← hnow]; exact rL_St rule hm1 hm9 j)
      have HNX := Lib.hid (show rL m rule (j + 1) = nxTo rule m now now.length by rw [← hnow]; rfl)
      have hnl : now.length ≤ 720 := Nat.le_trans (lenSt hm1 hm9 HND.out HST.out) (by rw [HN.out]; exact hN720)
      rw [hnow] at hNow
      have HRJ := Lib.hid hrj
      have hr20 : r ≤ 20 := by omega
      have hBk := hbr
      clear hnow hrj hbr
      go_wp2
      go_loopw [9, 10] (fun av jv wi => ∃ i : Nat, 1 ≤ i ∧ i ≤ m ∧ av = .int .i64 (fact i : Nat) ∧ jv = .int .i64 ((i : Int) + 1) ∧ wi = wk) (fun _ jv _ => m + 1 - (intOf jv).toNat)
      case atStart => exact ⟨1, Nat.le_refl _, hm1, rfl, by go_num, rfl⟩
      case round =>
        obtain ⟨i, hi1, him, rfl, rfl, rfl⟩ := hrel
        by_cases hlt : i < m
        · have hle : (i : Int) + 1 ≤ (m : Int) := by omega
          have hf : fact (i + 1) = (i + 1) * fact i := rfl
          have hfl : fact (i + 1) ≤ 720 := by have := fact_mono (show i + 1 ≤ 6 by omega); have h6 : fact 6 = 720 := rfl; omega
          have hmul : IntKind.i64.wrap (((fact i : Nat) : Int) * ((i : Int) + 1)) = ((fact (i + 1) : Nat) : Int) := by
            have e : ((fact i : Nat) : Int) * ((i : Int) + 1) = ((fact (i + 1) : Nat) : Int) := by rw [hf]; push_cast; rw [Int.mul_comm]
            rw [e]
            exact IntWalk.i64_in _ (by omega)
          obtain ⟨z, hz⟩ : ∃ z, fact i = z := ⟨_, rfl⟩
          obtain ⟨z1, hz1⟩ : ∃ z, fact (i + 1) = z := ⟨_, rfl⟩
          rw [hz, hz1] at hmul
          rw [hz]
          have HZZ := Lib.hid hz1
          clear hf hfl hz hz1
          go_wp2
          go_roundw
          case rel => exact ⟨i + 1, by omega, by omega, by rw [HZZ.out], by go_num, by first | rfl | trivial⟩
          case measure => simp [intOf] <;> omega
        · obtain rfl : m = i := by omega
          obtain ⟨wk, rfl⟩ : ∃ z, z = wr := ⟨_, rfl⟩
          have hNw := hNow.out
          obtain ⟨a8, c8, e8, _, _, _⟩ := hNw.own.shape
          subst e8
          obtain ⟨p, hp⟩ : ∃ p, hs.length = p := ⟨_, rfl⟩
          have HPL := Lib.hid (show now.length = p by rw [← hp]; exact hNw.len.symm)
          rw [hp] at hNw ⊢
          have hp720 : p ≤ 720 := by rw [← HPL.out]; exact hnl
          rw [HN.out]
          clear hNow hi1 him hlt
          go_wp2_with (at_make; refine wpList_make_full _ rfl _ _ 79 rfl wk.heap.size 4 i0 (.bool false) 1 Try.underlying79 HIF.out HZ0.out HZ1.out _ _ _ _ N rfl rfl rfl rfl ?b1 ?b2 ?b3 ?_)
          case b1 => rw [HZ2.out]; omega
          case b2 => unfold maxLen; omega
          case b3 => exact Nat.le_refl _
          intro w3 hown hgr
          obtain ⟨gS, hgS⟩ : ∃ x, wk.heap.size = x := ⟨_, rfl⟩
          have hD0 : Blk w3 gS 4 (seenV [] N) := by
            have := (Blk.of_row hown).1
            rw [hgS] at this
            rw [seenV_nil]
            simpa [toList_madeCells_one] using this
          have hB3 : Below gS wk w3 := by rw [← hgS]; exact (Below.refl _ _).grown hgr (Nat.le_refl _) (by intro k hk; cases hk)
          have hwS : w.heap.size ≤ gS := by rw [← hgS]; exact hBk.size
          have hDl := hD0.lt
          have HNOW := Lib.hid (show SS wk w.heap.size gS (.slice a8 p c8) hs now by rw [← hgS]; exact hNw)
          have HX0 := Lib.hid (show NX w3 gS N (.slice none 0 0) [] (nxTo rule m now 0) from ⟨hD0, SS.nil _ _ _, World.ownsRow_nil _ _ _ _⟩)
          have HBK := Lib.hid hBk
          have HGS := Lib.hid hgS
          rw [hgS]
          clear hown hgr hNw hgS hD0 hBk
          go_wp2
          go_loopw [12, 50] (fun nx iv wa => ∃ (a : Nat) (hs2 : List Value), a ≤ p ∧ iv = .int .i64 a ∧ Hid (NX wa gS N nx hs2 (nxTo rule m now a)) ∧ Below gS wk wa) (fun _ iv _ => p - (intOf iv).toNat)
          case atStart => exact ⟨0, [], Nat.zero_le _, rfl, HX0, hB3⟩
          case round =>
            obtain ⟨a, hs2, hap, rfl, hX, hba⟩ := hrel
            obtain ⟨wa, rfl⟩ : ∃ z, z = wr := ⟨_, rfl⟩
            clear HX0 hB3 hDl
            by_cases hlt : a < p
            · have haL : a < now.length := by rw [HPL.out]; exact hlt
              have hSa := HNOW.out.below hba (Nat.le_refl _)
              obtain ⟨g, off, rfl, u, hu, hOu, hIu, _, hcu⟩ := hSa.at a haL
              obtain ⟨s, hs'⟩ : ∃ s, now[a] = s := ⟨_, rfl⟩
              have hsS : St m s := by rw [← hs']; exact HST.out _ (List.getElem_mem haL)
              have HSU := Lib.hid (show ∀ wz, Below gS wk wz → OwnI wz u s from fun wz hz => by
                have h := (HNOW.out.below hz (Nat.le_refl _)).row a u _ hu (by rw [List.getElem?_eq_getElem haL, hs'])
                exact h.1)
              have HNS := Lib.hid (show nxTo rule m now (a + 1) = ddF rule (nxTo rule m now a) s m by rw [nxTo_succ rule m now a haL, hs'])
              have HSS := Lib.hid hsS
              have hsl : s.length = m := hsS.2
              have HSL := Lib.hid hsl
              obtain ⟨O, hO⟩ : ∃ O, nxTo rule m now a = O := ⟨_, rfl⟩
              have HOS := Lib.hid (show ∀ q ∈ O, St m q by rw [← hO]; exact nx_St HST.out a)
              have HON := Lib.hid (show O.Nodup by rw [← hO]; exact nx_nodup rule m now a)
              rw [hO] at hX HNS
              have HX1 := Lib.hid (show NX wa gS N u12 hs2 (ddF rule O s 0) from hX.out)
              clear hSa hOu hIu hs' hsS hsl hO hX
              go_wp2
              go_loopw [12, 15] (fun nx pv wb => ∃ (i P : Nat) (hs3 : List Value), i ≤ m ∧ pv = .int .i64 P ∧ P = i + 1 ∧ Hid (NX wb gS N nx hs3 (ddF rule O s i)) ∧ Below gS wk wb) (fun _ pv _ => m + 1 - (intOf pv).toNat)
              case atStart => exact ⟨0, 1, hs2, Nat.zero_le _, rfl, rfl, HX1, hba⟩
              case round =>
                obtain ⟨i, P, hs3, him, rfl, hPi, hX, hbb⟩ := hrel
                obtain ⟨wb, rfl⟩ : ∃ z, z = wr := ⟨_, rfl⟩
                clear HX1 hba hcu
                by_cases hlm : i < m
                · have hPm : (P : Int) ≤ (m : Int) := by omega
                  have hub := HSU.out wb hbb
                  have cM := shMove_any rule u s P wb hub (by rw [HSL.out]; exact hm9) (by omega) (by rw [HSL.out]; omega)
                  obtain ⟨T, hT⟩ : ∃ T, mvZ rule s P = T := ⟨_, rfl⟩
                  have HTS := Lib.hid (show St m T by rw [← hT]; exact mvZ_st rule HSS.out (by omega) (by omega))
                  obtain ⟨L, hL⟩ : ∃ L, ddF rule O s i = L := ⟨_, rfl⟩
                  have HLS := Lib.hid (show ∀ q ∈ L, St m q by rw [← hL]; exact ddF_St HOS.out HSS.out him)
                  have HLN := Lib.hid (show L.Nodup by rw [← hL]; exact ddF_nodup s HON.out i)
                  have HDS := Lib.hid (show ddF rule O s (i + 1) = ddSS L T by rw [ddF_succ, hL, ← hPi, hT])
                  have hLl : L.length ≤ 720 := Nat.le_trans (lenSt hm1 hm9 HLN.out HLS.out) (by rw [HN.out]; exact hN720)
                  rw [hT] at cM
                  rw [hL] at hX
                  have HPI := Lib.hid hPi
                  clear hT hL hub hPi
                  go_wp2_with fail
                  refine cM.mono ?_
                  rintro e w5 ⟨r5, rfl, ho5, hf5, hb5⟩
                  have hX5 := hX.out.below hb5
                  have hB5 := hbb.trans (hb5.mono (by have := hbb.size; have := HGS.out; omega))
                  have hzb := hX.out.blk.lt
                  have hz5 := hb5.size
                  have cK := faRank_any _ T w5 ho5 (by rw [HTS.out.2]; exact hm9)
                  have hrN : rankL T < N := by rw [← HN.out]; exact rank_lt HTS.out
                  obtain ⟨k, hk⟩ : ∃ k, rankL T = k := ⟨_, rfl⟩
                  have HRK := Lib.hid hk
                  have hck := hX5.blk.cell k
                  rw [seenV_get L N k (by rw [← hk]; exact hrN), ← hk, seen_iff hm1 hm9 HLS.out HTS.out, hk] at hck
                  have hfk := hX5.blk.frozen k
                  have hkN : (k : Int) < (N : Int) := by omega
                  rw [hk] at cK
                  clear cM hk hrN
                  go_wp2_with fail
                  refine cK.mono ?_
                  rintro e w6 ⟨rfl, rfl⟩
                  clear cK
                  by_cases hmem : T ∈ L
                  · rw [decide_eq_true hmem] at hck
                    have HE := Lib.hid (show ddF rule O s (i + 1) = L by rw [HDS.out]; exact if_pos hmem)
                    have HX5 := Lib.hid hX5
                    clear hX hX5 hmem ho5 hf5 hb5 HDS
                    go_wp2
                    go_roundw
                    case rel => exact ⟨i + 1, P + 1, hs3, by omega, by go_num, by have := HPI.out; omega, by rw [HE.out]; exact HX5, hB5⟩
                    case measure => simp [intOf] <;> omega
                  · rw [decide_eq_false hmem] at hck
                    have HE := Lib.hid (show ddF rule O s (i + 1) = L ++ [T] by rw [HDS.out]; exact if_neg hmem)
                    have hst := hX5.blk.set k (.bool true)
                    rw [← HRK.out, seenV_set, HRK.out] at hst
                    have hgset := grownBy_setCell w5 gS k (.bool true)
                    have hr5 : ∀ q, r5.ownBlock = some q → q ≠ gS := fun q hq => by have := hf5 q hq; omega
                    obtain ⟨W6, hW6⟩ : ∃ z, w5.setCell ⟨gS, k, none⟩ (.bool true) = z := ⟨_, rfl⟩
                    rw [hW6] at hst hgset
                    have hz6 : W6.heap.size = w5.heap.size := by rw [← hW6]; simp [World.setCell]
                    have hnv := hX.out.not
                    have HS6 := Lib.hid ((((hX.out.ss.below hb5 (Nat.le_refl _)).grown hgset hz5 (by intro q hq; cases hq; left; omega))).below (below_new W6 (.cells #[r5] 22)) (by omega))
                    have HO6 := Lib.hid ((Own.grown ho5 hgset (fun q hq e => hr5 q hq (Option.some.inj e).symm)).alloc (.cells #[r5] 22))
                    have hl5 := ho5.lt
                    have HI6 := Lib.hid (show In wb.heap.size (W6.heap.size + 1) r5 from fun q hq => ⟨hf5 q hq, by have := hl5 q hq; omega⟩)
                    have hown6 := (hX5.row.kept hgset (.inr hnv)).alloc (.cells #[r5] 22)
                    have HB6 := Lib.hid (show Below gS wk (W6.alloc (.cells #[r5] 22)) by
                      rw [← hW6]
                      exact (hB5.setCell (p := ⟨gS, k, none⟩) (Nat.le_refl _) (.bool true)).alloc (by have := hB5.size; have := HGS.out; simp [World.setCell]; omega) _)
                    have HD6 := Lib.hid (hst.alloc (.cells #[r5] 22))
                    have HHL := Lib.hid (show hs3.length = L.length from hX.out.ss.len)
                    have hhl : hs3.length ≤ 720 := by rw [HHL.out]; exact hLl
                    have HIN := Lib.hid hX.out.ss.inn
                    have HNV := Lib.hid hnv
                    obtain ⟨a5, l5, c5, e5⟩ : ∃ a l c, r5 = .slice a l c := by obtain ⟨a, c, h, _⟩ := ho5.shape; exact ⟨a, _, c, h⟩
                    subst e5
                    clear hX hX5 hmem ho5 hf5 hb5 HDS hst hgset hr5 hnv hl5
                    have hB6s : gS + 1 ≤ W6.heap.size + 1 := by omega
                    have hB6w : wb.heap.size ≤ W6.heap.size + 1 := by omega
                    have hB6z : gS ≤ W6.heap.size + 1 := by omega
                    have hgb : gS + 1 ≤ wb.heap.size := hzb
                    clear hz6
                    go_wp2_with (at_builtin; refine wpList_append_lies _ rfl _ _ 42 rfl (gS + 1) 22 i1 _ 1 24 Try.underlying42 HI.out HS0.out HS1.out HS2.out rfl (by omega) u12 hs3.length hs3 rfl hown6 _ 1 1 [.slice a5 l5 c5] rfl (by simp) (World.news_of_block (heap_alloc_new _ _)) (by simp [Value.oneCell']) (by omega) (by unfold maxLen; omega) (by omega) (by simp; omega) (W6.heap.size + 1) (by simp) ?_)
                    intro g8 cap8 w8 hown8 hgr8 hat8 hlt8
                    have hS8 := SS.app (cap := cap8) HS6.out (by simp; omega) HO6.out (by simpa using HI6.out) hown8 hgr8 (by simpa using hat8) hlt8 hgb
                    have HX8 := Lib.hid (show NX w8 gS N (.slice (some ⟨g8, 0, none⟩) (hs3.length + 1) cap8) (hs3 ++ [.slice a5 l5 c5]) (ddF rule O s (i + 1)) by
                      rw [HE.out]
                      exact ⟨HD6.out.grown hgr8 HNV.out, hS8, by rw [List.length_append]; exact hown8⟩)
                    have HB8 := Lib.hid (show Below gS wk w8 from HB6.out.grown hgr8 (by simp; omega) (fun b hb => Nat.le_of_succ_le (HIN.out b hb).1))
                    clear hown6 hown8 hgr8 hat8 hlt8 hS8
                    go_wp2
                    go_roundw
                    case rel => exact ⟨i + 1, P + 1, _, by omega, by go_num, by have := HPI.out; omega, HX8, HB8.out⟩
                    case measure => simp [intOf] <;> omega
                · obtain rfl : m = i := by omega
                  have hPm : ¬ ((P : Int) ≤ (m : Int)) := by omega
                  have HXF := Lib.hid (show NX wb gS N u12 hs3 (nxTo rule m now (a + 1)) by rw [HNS.out]; exact hX.out)
                  clear hX
                  go_wp2
                  go_roundw
                  case rel => exact ⟨a + 1, hs3, by omega, by go_num, HXF, hbb⟩
                  case measure => simp [intOf] <;> omega
            · obtain rfl : a = p := by omega
              have HSF := Lib.hid (show SS wa w.heap.size wa.heap.size u12 hs2 (rL m rule (j + 1)) by
                rw [HNX.out, HPL.out]
                exact hX.out.ss.mono (by omega) (Nat.le_refl _))
              have hBF : Below w.heap.size w wa := HBK.out.trans (hba.mono hwS)
              clear hX
              go_wp2
              go_roundw
              case rel => exact ⟨r - 1, j + 1, hs2, by have := HRJ.out; omega, by go_num, HSF, hBF⟩
              case measure => simp [intOf] <;> omega
    · obtain rfl : r = 0 := by omega
      have hjK : j = K := by omega
      subst hjK
      have HLen := Lib.hid hNow.out.len
      have HOwn := Lib.hid hNow.out.own
      obtain ⟨a8, c8, e8, _, _, _⟩ := HOwn.out.shape
      subst e8
      have HLN := Lib.hid (show ((hs.length : Nat) : Int) = ((rL m rule j).length : Nat) by rw [HLen.out])
      clear hNow
      go_wp2
      go_ret2
      exact ⟨by rw [← HLN.out]; rfl, hbr⟩

end Go.Proofs.Ytieongcagkfedaa

namespace Go.Proofs.Ytieongcagkfedaa
open Go Go.RowKit Go.Pan

set_option maxHeartbeats 800000 in
theorem sCountReached_any (n k rule : Int) (w : World) :
    Calls Try.prog 47 #[.int .i64 n, .int .i64 k, .int .i64 rule] w fun e w' => e = .returned (.tuple #[.int .i64 (mCountReached n k rule), .bool (okReached n k rule)]) ∧ Below w.heap.size w w' := by
  have c1 := l1In_any n 1 6
  have c2 := l1In_any k 0 20
  have c3 := shRule_any rule
  cases hn : inB n 1 6 with
  | false =>
    rw [hn] at c1
    have HO := Lib.hid (show okReached n k rule = false by unfold okReached; rw [hn]; rfl)
    have HM := Lib.hid (show mCountReached n k rule = 0 from if_neg (by rw [HO.out]; exact Bool.false_ne_true))
    clear hn
    go_enter Try.func47, Try.ntmps47
    go_wp2_with fail
    refine (c1 _).mono ?_
    rintro e w1 ⟨rfl, rfl⟩
    go_wp2
    go_ret2
    exact ⟨by rw [HM.out, HO.out]; rfl, Below.refl _ _⟩
  | true =>
    rw [hn] at c1
    cases hk : inB k 0 20 with
    | false =>
      rw [hk] at c2
      have HO := Lib.hid (show okReached n k rule = false by unfold okReached; rw [hk]; simp)
      have HM := Lib.hid (show mCountReached n k rule = 0 from if_neg (by rw [HO.out]; exact Bool.false_ne_true))
      clear hn hk
      go_enter Try.func47, Try.ntmps47
      go_wp2_with fail
      refine (c1 _).mono ?_
      rintro e w1 ⟨rfl, rfl⟩
      go_wp2_with fail
      refine (c2 _).mono ?_
      rintro e w1 ⟨rfl, rfl⟩
      go_wp2
      go_ret2
      exact ⟨by rw [HM.out, HO.out]; rfl, Below.refl _ _⟩
    | true =>
      rw [hk] at c2
      cases hr : inB rule 0 2 with
      | false =>
        rw [hr] at c3
        have HO := Lib.hid (show okReached n k rule = false by unfold okReached; rw [hr]; simp)
        have HM := Lib.hid (show mCountReached n k rule = 0 from if_neg (by rw [HO.out]; exact Bool.false_ne_true))
        clear hn hk hr
        go_enter Try.func47, Try.ntmps47
        go_wp2_with fail
        refine (c1 _).mono ?_
        rintro e w1 ⟨rfl, rfl⟩
        go_wp2_with fail
        refine (c2 _).mono ?_
        rintro e w1 ⟨rfl, rfl⟩
        go_wp2_with fail
        refine (c3 _).mono ?_
        rintro e w1 ⟨rfl, rfl⟩
        go_wp2
        go_ret2
        exact ⟨by rw [HM.out, HO.out]; rfl, Below.refl _ _⟩
      | true =>
        have HO : okReached n k rule = true := by unfold okReached; rw [hn, hk, hr]; rfl
        have HM : mCountReached n k rule = ((rL n.toNat rule k.toNat).length : Nat) := if_pos HO
        have h1 := inB_iff.1 hn
        have h2 := inB_iff.1 hk
        obtain ⟨m, rfl⟩ : ∃ m : Nat, n = (m : Int) := ⟨n.toNat, by omega⟩
        obtain ⟨j, rfl⟩ : ∃ j : Nat, k = (j : Int) := ⟨k.toNat, by omega⟩
        rw [Int.toNat_natCast, Int.toNat_natCast] at HM
        rw [HM, HO]
        exact sCountGood_any m j rule w (by omega) (by omega) (by omega) hr

end Go.Proofs.Ytieongcagkfedaa
