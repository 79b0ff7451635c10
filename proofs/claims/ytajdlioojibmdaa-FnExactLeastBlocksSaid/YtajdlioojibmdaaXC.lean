import Derived.Test.YtajdlioojibmdaaQ6
import Derived.Test.YtajdlioojibmdaaV18
import Derived.Test.YtajdlioojibmdaaV30
import Derived.Test.YtajdlioojibmdaaSr
import Derived.Test.YtajdlioojibmdaaS15
import Derived.Test.YtajdlioojibmdaaS3
namespace Go.Pan
-- the spec's search by exchanges, by block moves
def LL : Bool → Nat → List (Int × Int × Int × Int)
  | true, m => exAll m
  | false, m => tchAll m
theorem LL_ok (ex : Bool) {m : Nat} (h1 : 1 ≤ m) (h6 : m ≤ 6) : XOk (LL ex m) m := by
  cases ex with
  | true => exact exAll_ok h1 h6
  | false => exact tchAll_ok h1 h6
/-- the stacks next to one -/
def nxX (L : List (Int × Int × Int × Int)) (xs : List Int) : List (List Int) := L.map (exT xs)
theorem nxX_length (L : List (Int × Int × Int × Int)) (xs : List Int) : (nxX L xs).length = L.length := by simp [nxX]
theorem nxX_get {L : List (Int × Int × Int × Int)} {xs : List Int} {k : Nat} (h : k < L.length) : (nxX L xs)[k]? = some (exT xs (xAt L (k + 1))) := by
  simp [nxX, h, xAt_get h]
theorem nxX_St {L : List (Int × Int × Int × Int)} {m : Nat} (hL : XOk L m) {xs : List Int} (hs : St m xs) {k : Nat} (h : k < L.length) : St m (exT xs (xAt L (k + 1))) :=
  hs.ex (hL.B _ (xAt_mem (m := m) (mem_xks.2 ⟨by omega, by omega⟩)))
theorem take_map_succ {α β : Type} (f : α → β) (l : List α) (k : Nat) (h : k < l.length) : (l.take (k + 1)).map f = (l.take k).map f ++ [f l[k]] := by
  simp only [List.take_add_one, List.getElem?_eq_getElem h, Option.toList_some, List.map_append, List.map_cons, List.map_nil]

end Go.Pan

namespace Go.Proofs.Ytajdlioojibmdaa
open Go Go.RowKit Go.Pan

/-- a list of lists that is grown: each row with memory of its own -/
structure RW (w : World) (B : Nat) (v : Value) (hs : List Value) (L : List (List Int)) : Prop where
  ss : SS w B w.heap.size v hs L
  row : w.ownsRow B 22 1 v hs.length hs
theorem rowKeepX {w w' : World} {B sz n N : Nat} {e : TypeId} {v : Value} {cs : List Value} (h : w.ownsRow B e sz v n cs) (hb : Below N w w') (hN : w.heap.size ≤ N) : w'.ownsRow B e sz v n cs := by
  refine h.kept (w' := w') (row := none) ⟨hb.os, hb.tape, hb.output, hb.size, fun k hk _ => hb.block k (Nat.lt_of_lt_of_le hk hN)⟩ ?_
  cases hv : v.ownBlock with
  | none => exact .inl rfl
  | some b => exact .inr (by simp)
theorem RW.below {w w' : World} {B : Nat} {v : Value} {hs : List Value} {L : List (List Int)} (h : RW w B v hs L) (hb : Below w.heap.size w w') : RW w' B v hs L :=
  ⟨(h.ss.below hb (Nat.le_refl _)).mono (Nat.le_refl _) hb.size, rowKeepX h.row hb (Nat.le_refl _)⟩
theorem RW.nil (w : World) (B : Nat) : RW w B (.slice none 0 0) [] [] := ⟨SS.nil _ _ _, World.ownsRow_nil _ _ _ _⟩

set_option maxHeartbeats 1600000 in
set_option maxRecDepth 100000 in
theorem bkNextX_any (v : Value) (xs : List Int) (w : World) (hv : OwnI w v xs) (h1 : 1 ≤ xs.length) (h6 : xs.length ≤ 6) :
    Calls Try.prog 83 #[v, .bool true] w fun e w' => ∃ r hs, e = .returned r ∧ SS w' w.heap.size w'.heap.size r hs (nxX (exAll xs.length) xs) ∧ Below w.heap.size w w' := by
  obtain ⟨ad, cap, rfl, _, _, _⟩ := hv.shape
  obtain ⟨i1, hi, hs0, hs1, hs2⟩ := info_parts Try.info22
  have HI := Lib.hid hi
  have HS0 := Lib.hid hs0
  have HS1 := Lib.hid hs1
  have HS2 := Lib.hid hs2
  have cE := bkExchanges_any xs.length w h1 (by omega)
  have HX := Lib.hid (exAll_ok h1 h6)
  have HNX := Lib.hid (show nxX (exAll xs.length) xs = (exAll xs.length).map (exT xs) from rfl)
  have hE1 := HX.out.le
  have HV := Lib.hid hv
  clear hi hs0 hs1 hs2 hv
  go_enter Try.func83, Try.ntmps83
  go_wp2_with fail
  refine (cE).mono ?_
  rintro e w1 ⟨r1, rfl, ho1, hf1, hb1⟩
  clear cE
  obtain ⟨LE, hLE⟩ : ∃ L, exAll xs.length = L := ⟨_, rfl⟩
  rw [hLE] at ho1 HX hE1 HNX
  obtain ⟨a1, c1, rfl, _, _, _⟩ := ho1.shape
  have HO1 := Lib.hid ho1
  have HLE := Lib.hid hLE
  have h0 : Hid (RW w1 w1.heap.size (.slice none 0 0) [] ((LE.take 0).map (exT xs))) := Lib.hid (RW.nil _ _)
  have hz1 := hb1.size
  obtain ⟨E, hE⟩ : ∃ E, LE.length = E := ⟨_, rfl⟩
  rw [hE] at hE1 ⊢
  have HE := Lib.hid hE
  clear ho1 hf1 hLE hE
  go_wp2
  go_loopw [5, 7, 15] (fun ov _ iv wr => ∃ (k : Nat) (hs : List Value), k ≤ E ∧ iv = .int .i64 k ∧ Hid (RW wr w1.heap.size ov hs ((LE.take k).map (exT xs))) ∧ Below w1.heap.size w1 wr) (fun _ _ iv _ => E - (intOf iv).toNat)
  case atStart => exact ⟨0, [], Nat.zero_le _, rfl, h0, Below.refl _ _⟩
  case round =>
    obtain ⟨k, hs, hk, rfl, hW, hbr⟩ := hrel
    obtain ⟨wk, rfl⟩ : ∃ z, z = wr := ⟨_, rfl⟩
    clear h0
    by_cases hlt : k < E
    · have hlt' : (k : Int) < (E : Int) := by omega
      have hkl : k < LE.length := by rw [HE.out]; exact hlt
      have HST := Lib.hid (take_map_succ (exT xs) LE k hkl)
      obtain ⟨b, off, rfl, hbl, hra⟩ := OwnC.rowAt ((HO1.out.below hbr (Nat.le_refl _)).alloc (.cells #[.int .i64 0, .int .i64 0, .int .i64 0, .int .i64 0] 58)) hkl
      have hB := HX.out.B _ (List.getElem_mem hkl)
      obtain ⟨p, hp⟩ : ∃ p, LE[k] = p := ⟨_, rfl⟩
      rw [hp] at hra hB HST
      have hB := Lib.hid hB
      have hra0 := HO1.out.below hbr (Nat.le_refl _)
      obtain ⟨b', off', e', _, hraw⟩ := OwnC.rowAt hra0 hkl
      simp only [Option.some.injEq, Addr.mk.injEq, and_true] at e'
      obtain ⟨rfl, rfl⟩ := e'
      rw [hp] at hraw
      have hra' : wk.rangeAt b (off + k * 4) [.int .i64 p.1, .int .i64 p.2.1, .int .i64 p.2.2.1, .int .i64 p.2.2.2] := hraw
      have hsz2 : (Try.prog.info? 58).map (·.size) = some ([.int .i64 p.1, .int .i64 p.2.1, .int .i64 p.2.2.1, .int .i64 p.2.2.2] : List Value).length := infoExchange
      have hzM : Blk (wk.alloc (.cells #[.int .i64 0, .int .i64 0, .int .i64 0, .int .i64 0] 58)) wk.heap.size 58 [.int .i64 0, .int .i64 0, .int .i64 0, .int .i64 0] := Blk.new wk _ [.int .i64 0, .int .i64 0, .int .i64 0, .int .i64 0] _ rfl
      have hhl : hs.length = k := by rw [hW.out.ss.len, List.length_map, List.length_take]; omega
      have HHL := Lib.hid hhl
      have hzk : w1.heap.size ≤ wk.heap.size := hbr.size
      clear hp hra hkl hhl hra0 hraw
      go_upto_region 6 with (first | (refine wpList_load_mid rfl 58 _ rfl b (off + k * 4) rfl [.int .i64 p.1, .int .i64 p.2.1, .int .i64 p.2.2.1, .int .i64 p.2.2.2] _ hra' Try.underlying58 rfl hsz2 ?_) | (refine wpList_store_blk rfl 58 _ _ rfl wk.heap.size 0 [.int .i64 p.1, .int .i64 p.2.1, .int .i64 p.2.2.1, .int .i64 p.2.2.2] rfl rfl _ _ hzM (by simp) hsz2 (by intro u hu; simp at hu; rcases hu with rfl | rfl | rfl | rfl <;> rfl) ?_; intro w4 hM4 hg4))
      have hM4' : Blk w4 wk.heap.size 58 [.int .i64 p.1, .int .i64 p.2.1, .int .i64 p.2.2.1, .int .i64 p.2.2.2] := by simpa using hM4
      have hrM := hM4'.range
      have hb4 : Below wk.heap.size wk w4 := (below_new wk _).grown hg4 (by simp) (by intro q hq; cases hq; exact Nat.le_refl _)
      have hB4 := hbr.trans (hb4.mono hzk)
      have hz4 := hb4.size
      have hX4 := hW.out.below hb4
      have cS := bkSwap_any (.slice ad xs.length cap) xs xs.length p w4 (HV.out.same (hb1.trans (hB4.mono hz1))) (by omega) hB (Lib.hid rfl)
      clear hW hbr hb4 hM4 hM4' hg4 hzM hra'
      go_wp2_with (first | (refine wpList_load_mid rfl 58 _ rfl wk.heap.size 0 rfl [.int .i64 p.1, .int .i64 p.2.1, .int .i64 p.2.2.1, .int .i64 p.2.2.2] _ hrM Try.underlying58 rfl hsz2 ?_))
      refine cS.mono ?_
      rintro e w5 ⟨r5, rfl, ho5, hf5, hb5⟩
      obtain ⟨a5, l5, c5, rfl⟩ : ∃ a l c, r5 = .slice a l c := by obtain ⟨a, c, h, _⟩ := ho5.shape; exact ⟨a, _, c, h⟩
      have hz5 := hb5.size
      have hl5 := ho5.lt
      have hX5 := hX4.below hb5
      have HI5 := Lib.hid (show In w4.heap.size (w5.heap.size + 1) (.slice a5 l5 c5) from fun q hq => ⟨hf5 q hq, by have := hl5 q hq; omega⟩)
      have HS5 := Lib.hid ((hX4.ss.below hb5 (Nat.le_refl _)).below (below_new w5 (.cells #[.slice a5 l5 c5] 22)) (by omega))
      have HO5 := Lib.hid (ho5.alloc (.cells #[.slice a5 l5 c5] 22))
      have hown5 := hX5.row.alloc (.cells #[.slice a5 l5 c5] 22)
      have hB5 := (hB4.trans (hb5.mono hB4.size)).alloc (by have := hB4.size; omega) (.cells #[.slice a5 l5 c5] 22)
      have HIN := Lib.hid hX4.ss.inn
      have hz45 : w1.heap.size ≤ w4.heap.size := hB4.size
      clear hX4 hX5 ho5 hf5 hb5 cS hl5 hrM hB4
      go_wp2_with (at_builtin; refine wpList_append_lies _ rfl _ _ 42 rfl w1.heap.size 22 i1 _ 1 24 Try.underlying42 HI.out HS0.out HS1.out HS2.out rfl (by omega) _ hs.length hs rfl hown5 _ 1 1 [.slice a5 l5 c5] rfl (by simp) (World.news_of_block (heap_alloc_new _ _)) (by simp [Value.oneCell']) (by omega) (by have := HHL.out; unfold maxLen; omega) (by have := HHL.out; omega) (by simp; omega) (w5.heap.size + 1) (by simp) ?_)
      intro g8 cap8 w8 hown8 hgr8 hat8 hlt8
      have hS8 := SS.app (cap := cap8) HS5.out (by simp; omega) HO5.out (by simpa using HI5.out) hown8 hgr8 (by simpa using hat8) hlt8 hz45
      rw [← HST.out] at hS8
      have HW8 := Lib.hid (show RW w8 w1.heap.size (.slice (some ⟨g8, 0, none⟩) (hs.length + 1) cap8) (hs ++ [.slice a5 l5 c5]) ((LE.take (k + 1)).map (exT xs)) from ⟨hS8, by rw [List.length_append]; exact hown8⟩)
      have HB8 := Lib.hid (hB5.grown hgr8 (by simp; omega) (fun b hb => (HIN.out b hb).1))
      clear hown5 hown8 hS8 hat8 hgr8 hlt8 hB5
      go_wp2
      go_roundw
      case rel => exact ⟨k + 1, _, by omega, by go_num, HW8, HB8.out⟩
      case measure => simp [intOf] <;> omega
    · obtain rfl : k = E := by omega
      have HR := Lib.hid (show SS wk w.heap.size wk.heap.size u5 hs (nxX (exAll xs.length) xs) by
        rw [HLE.out, HNX.out, ← List.take_length (l := LE), HE.out]
        exact hW.out.ss.mono hz1 (Nat.le_refl _))
      have hge : (k : Int) ≤ (k : Int) := Int.le_refl _
      have HB := Lib.hid (hb1.trans (hbr.mono hz1))
      clear hW hbr
      go_wp2
      go_ret
      exact ⟨_, hs, rfl, HR.out, HB.out⟩

end Go.Proofs.Ytajdlioojibmdaa

namespace Go.Pan
theorem nb_at {L : List (Int × Int × Int × Int)} {m r k : Nat} : (xBd L m).nb r (k + 1) = rankL (exT (unrank m r) (xAt L (k + 1))) := rfl
/-- the first i of N distances are set to 'not found' -/
def minV (i N : Nat) : List Int := List.replicate i (-1) ++ List.replicate (N - i) 0
theorem minV_length {i N : Nat} (h : i ≤ N) : (minV i N).length = N := by simp [minV]; omega
theorem minV_set {i N : Nat} (h : i < N) : (minV i N).set i (-1) = minV (i + 1) N := by
  unfold minV
  rw [List.set_append_right _ _ (by simp), List.length_replicate, Nat.sub_self, show N - i = (N - (i + 1)) + 1 by omega, List.replicate_succ, List.set_cons_zero, List.replicate_succ', List.append_assoc]
  rfl

end Go.Pan

namespace Go.Proofs.Ytajdlioojibmdaa
open Go Go.RowKit Go.Pan

/-- the queue of the stacks found: each row is read only -/
structure QR (w : World) (m gF : Nat) (v : Value) (hs : List Value) (Q : List Nat) : Prop where
  len : hs.length = Q.length
  row : w.ownsRow (gF + 1) 22 1 v hs.length hs
  pt : ∀ (i : Nat) (u : Value) (r : Nat), hs[i]? = some u → Q[i]? = some r → OwnI w u (unrank m r) ∧ ∀ g, u.ownBlock = some g → gF < g ∧ v.ownBlock ≠ some g
theorem QR.below {w w' : World} {m gF : Nat} {v : Value} {hs : List Value} {Q : List Nat} (h : QR w m gF v hs Q) (hb : Below w.heap.size w w') : QR w' m gF v hs Q :=
  ⟨h.len, rowKeepX h.row hb (Nat.le_refl _), fun i u r hu hr => ⟨(h.pt i u r hu hr).1.same hb, (h.pt i u r hu hr).2⟩⟩
theorem QR.setF {w w' : World} {m gF : Nat} {v : Value} {hs : List Value} {Q : List Nat} (h : QR w m gF v hs Q) (hg : w.grownBy w' (some gF)) : QR w' m gF v hs Q :=
  ⟨h.len, h.row.kept hg (.inr fun e => by have := (h.row.lt gF e).1; omega), fun i u r hu hr => ⟨(h.pt i u r hu hr).1.grown hg (fun g hg' e => by have := ((h.pt i u r hu hr).2 g hg').1; cases e; omega), (h.pt i u r hu hr).2⟩⟩
theorem QR.app {w w' : World} {m gF g cap t : Nat} {v u : Value} {hs : List Value} {Q : List Nat} (h : QR w m gF v hs Q) (hu : OwnI w u (unrank m t)) (hi : ∀ g, u.ownBlock = some g → gF < g ∧ v.ownBlock ≠ some g)
    (hown : w'.ownsRow (gF + 1) 22 1 (.slice (some ⟨g, 0, none⟩) (hs.length + 1) cap) (hs.length + 1) (hs ++ [u])) (hgr : w.grownBy w' v.ownBlock) (hat : v.ownBlock = some g ∨ g = w.heap.size) :
    QR w' m gF (.slice (some ⟨g, 0, none⟩) (hs.length + 1) cap) (hs ++ [u]) (Q ++ [t]) := by
  have key : ∀ (x : Value) (l : List Int), OwnI w x l → (∀ g', x.ownBlock = some g' → gF < g' ∧ v.ownBlock ≠ some g') → OwnI w' x l ∧ ∀ g', x.ownBlock = some g' → gF < g' ∧ (Value.slice (some ⟨g, 0, none⟩) (hs.length + 1) cap).ownBlock ≠ some g' :=
    fun x l ho hn => ⟨ho.grown hgr (fun g' hg' e => (hn g' hg').2 e), fun g' hg' => ⟨(hn g' hg').1, fun e => by
      have e' : g = g' := by simpa [Value.ownBlock] using e
      rcases hat with h1 | h1
      · exact (hn g' hg').2 (by rw [h1, e'])
      · have := ho.lt g' hg'; omega⟩⟩
  refine ⟨by simp [h.len], by rw [List.length_append]; exact hown, fun i x r hx hr => ?_⟩
  by_cases hil : i < hs.length
  · rw [List.getElem?_append_left hil] at hx
    rw [List.getElem?_append_left (by rw [← h.len]; exact hil)] at hr
    exact key x _ (h.pt i x r hx hr).1 (h.pt i x r hx hr).2
  · have hie : i = hs.length := by
      have := (List.getElem?_eq_some_iff.1 hx).1
      simp at this
      omega
    subst hie
    rw [List.getElem?_append_right (Nat.le_refl _), Nat.sub_self] at hx
    rw [h.len, List.getElem?_append_right (Nat.le_refl _), Nat.sub_self] at hr
    simp only [List.getElem?_cons_zero, Option.some.injEq] at hx hr
    subst hx; subst hr
    exact key u _ hu hi

/-- the stacks next to one are told by the spec -/
def NextOk (ex : Bool) : Prop := ∀ (v : Value) (xs : List Int) (w : World), OwnI w v xs → 1 ≤ xs.length → xs.length ≤ 6 →
    Calls Try.prog 83 #[v, .bool ex] w fun e w' => ∃ r hs, e = .returned r ∧ SS w' w.heap.size w'.heap.size r hs (nxX (LL ex xs.length) xs) ∧ Below w.heap.size w w'

set_option maxHeartbeats 8000000 in
set_option maxRecDepth 100000 in
theorem bkFar_any (ex : Bool) (m : Nat) (w : World) (h1 : 1 ≤ m) (h6 : m ≤ 6) (hN : Hid (NextOk ex)) :
    Calls Try.prog 50 #[.int .i64 m, .bool ex] w fun e w' => ∃ r, e = .returned r ∧ OwnI w' r (sFar (xBd (LL ex m) m)) ∧ From w.heap.size r ∧ Below w.heap.size w w' := by
  obtain ⟨i0, hif, hz0, hz1, hz2⟩ := info_parts Try.info3
  obtain ⟨i1, hi, hs0, hs1, hs2⟩ := info_parts Try.info22
  have HI := Lib.hid hi
  have HS0 := Lib.hid hs0
  have HS1 := Lib.hid hs1
  have HS2 := Lib.hid hs2
  have HIF := Lib.hid hif
  have HZ0 := Lib.hid hz0
  have HZ1 := Lib.hid hz1
  have HZ2 := Lib.hid hz2
  have hN720 : fact m ≤ 720 := by have := fact_mono h6; have h6 : fact 6 = 720 := rfl; omega
  have hNpos := fact_pos m
  have HOK := Lib.hid (LL_ok ex h1 h6)
  obtain ⟨L, hL⟩ : ∃ L, LL ex m = L := ⟨_, rfl⟩
  have HLE := Lib.hid hL
  rw [hL] at HOK ⊢
  have HBO := Lib.hid (xBd_ok HOK.out h1 h6)
  have HBd := Lib.hid (fun r (hr : r < (xBd L m).N) => xBd_le HOK.out h1 h6 hr)
  have HBN := Lib.hid (show (xBd L m).N = fact m from rfl)
  have HBH := Lib.hid (show (xBd L m).hi = L.length + 1 from rfl)
  have HBL := Lib.hid (show (xBd L m).lo = 1 from rfl)
  have HNB := Lib.hid (fun r k => (nb_at : (xBd L m).nb r (k + 1) = rankL (exT (unrank m r) (xAt L (k + 1)))))
  have HXS := Lib.hid (fun r (hr : r < fact m) k (hk : k < L.length) => nxX_St HOK.out (unrank_st h1 (by omega) hr) hk)
  have hL1 := HOK.out.le
  have HST0 := Lib.hid (sF_start HBO.out)
  have HU0 := Lib.hid (show unrank m 0 = ramp 1 m by
    have h := unrank_rank h1 (show m ≤ 9 by omega) (St.ramp m h1 (by omega))
    rwa [rankL_ramp] at h)
  have HUS := Lib.hid (fun r (hr : r < fact m) => (unrank_st h1 (show m ≤ 9 by omega) hr : St m (unrank m r)))
  have HRU := Lib.hid (fun r (hr : r < fact m) => (rank_unrank hr : rankL (unrank m r) = r))
  have HUR := Lib.hid (fun q (hq : St m q) => (⟨unrank_rank h1 (show m ≤ 9 by omega) hq, rank_lt hq⟩ : unrank m (rankL q) = q ∧ rankL q < fact m))
  have HSQ0 := Lib.hid (SQ.start HBO.out)
  obtain ⟨Bd, hBd⟩ : ∃ B, xBd L m = B := ⟨_, rfl⟩
  rw [hBd] at HBO HBd HBN HBH HBL HNB HST0 HSQ0 ⊢
  obtain ⟨N, hNe⟩ : ∃ N, fact m = N := ⟨_, rfl⟩
  have HN := Lib.hid hNe
  have HFM := Lib.hid (fun i (hi : i < m) => (fact_mono (show i + 1 ≤ 6 by omega) : fact (i + 1) ≤ fact 6))
  rw [hNe] at hN720 hNpos HBN HXS HUS HRU HUR
  have hgf := hBd
  clear hi hs0 hs1 hs2 hif hz0 hz1 hz2 hL hNe hBd hgf
  go_enter Try.func50, Try.ntmps50
  go_wp2
  go_loopw [5, 6] (fun av jv wi => ∃ i : Nat, 1 ≤ i ∧ i ≤ m ∧ av = .int .i64 (fact i : Nat) ∧ jv = .int .i64 ((i : Int) + 1) ∧ wi = w) (fun _ jv _ => m + 1 - (intOf jv).toNat)
  case atStart => exact ⟨1, Nat.le_refl _, h1, rfl, by go_num, rfl⟩
  case round =>
    obtain ⟨i, hi1, him, rfl, rfl, rfl⟩ := hrel
    by_cases hlt : i < m
    · have hle : (i : Int) + 1 ≤ (m : Int) := by omega
      have hf : fact (i + 1) = (i + 1) * fact i := rfl
      have hfl : fact (i + 1) ≤ 720 := by have := HFM.out i hlt; have h6 : fact 6 = 720 := rfl; omega
      have hmul : IntKind.i64.wrap (((fact i : Nat) : Int) * ((i : Int) + 1)) = ((fact (i + 1) : Nat) : Int) := by
        have e : ((fact i : Nat) : Int) * ((i : Int) + 1) = ((fact (i + 1) : Nat) : Int) := by rw [hf]; push_cast; rw [Int.mul_comm]
        rw [e]
        exact IntWalk.i64_in _ (by omega)
      obtain ⟨z, hz⟩ : ∃ z, fact i = z := ⟨_, rfl⟩
      obtain ⟨z1, hz1⟩ : ∃ z, fact (i + 1) = z := ⟨_, rfl⟩
      rw [hz, hz1] at hmul
      rw [hz]
      have HZZ := Lib.hid hz1
      clear hf hfl hz hz1
      go_wp2
      go_roundw
      case rel => exact ⟨i + 1, by omega, by omega, by rw [HZZ.out], by go_num, by first | rfl | trivial⟩
      case measure => simp [intOf] <;> omega
    · obtain rfl : m = i := by omega
      rw [HN.out]
      clear hi1 him hlt
      go_wp2_with (at_make; refine wpList_make_full _ rfl _ _ 22 rfl wr.heap.size 3 i0 (.int .i64 0) 1 Try.underlying22 HIF.out HZ0.out HZ1.out _ _ _ _ N rfl rfl rfl rfl ?b1 ?b2 ?b3 ?_)
      case b1 => rw [HZ2.out]; omega
      case b2 => unfold maxLen; omega
      case b3 => exact Nat.le_refl _
      intro w3 hown hgr
      obtain ⟨gF, hgF⟩ : ∃ x, wr.heap.size = x := ⟨_, rfl⟩
      have hD0 : Blk w3 gF 3 ((minV 0 N).map iv) := by
        have := (Blk.of_row hown).1
        rw [hgF] at this
        simpa [toList_madeCells_one, minV, List.map_replicate] using this
      have hB3 : Below gF wr w3 := by rw [← hgF]; exact (Below.refl _ _).grown hgr (Nat.le_refl _) (by intro k hk; cases hk)
      have HGF := Lib.hid hgF
      rw [hgF]
      clear hown hgr hgF
      obtain ⟨wk, rfl⟩ : ∃ z, z = wr := ⟨_, rfl⟩
      go_wp2
      go_loopw [8, 27] (fun _ iv' wi => ∃ i : Nat, i ≤ N ∧ iv' = .int .i64 i ∧ Blk wi gF 3 ((minV i N).map iv) ∧ Below gF wk wi) (fun _ iv' _ => N - (intOf iv').toNat)
      case atStart => exact ⟨0, Nat.zero_le _, rfl, hD0, hB3⟩
      case round =>
        obtain ⟨i, hi, rfl, hD, hbi⟩ := hrel
        clear hD0 hB3
        by_cases hlt : i < N
        · have hlt' : (i : Int) < (N : Int) := by omega
          have hcl := hD.cell i
          rw [List.getElem?_map, List.getElem?_eq_getElem (by rw [minV_length hi]; exact hlt)] at hcl
          have hfz := hD.frozen i
          have HD1 := Lib.hid (show Blk (wr.setCell ⟨gF, i, none⟩ (iv (-1))) gF 3 ((minV (i + 1) N).map iv) by
            have h := hD.set i (iv (-1))
            rw [← List.map_set, minV_set hlt] at h
            exact h)
          have HB1 := Lib.hid (hbi.setCell (p := ⟨gF, i, none⟩) (Nat.le_refl _) (iv (-1)))
          obtain ⟨zz, hzz⟩ : ∃ z, (minV i N)[i]'(by rw [minV_length hi]; exact hlt) = z := ⟨_, rfl⟩
          rw [hzz, Option.map_some] at hcl
          clear hD hbi hzz
          go_wp2
          go_roundw
          case rel => exact ⟨i + 1, by omega, by go_num, HD1.out, HB1.out⟩
          case measure => simp [intOf] <;> omega
        · obtain rfl : N = i := by omega
          obtain ⟨w4, rfl⟩ : ∃ z, z = wr := ⟨_, rfl⟩
          have hMV : minV N N = List.replicate N (-1) := by simp [minV]
          rw [hMV] at hD
          have hcl := hD.cell 0
          rw [List.getElem?_map, List.getElem?_eq_getElem (by rw [List.length_replicate]; exact hNpos), List.getElem_replicate, Option.map_some] at hcl
          have hfz := hD.frozen 0
          have HD1 := Lib.hid (show Blk (w4.setCell ⟨gF, 0, none⟩ (iv 0)) gF 3 ((sF Bd [0]).map iv) by
            have h := hD.set 0 (iv 0)
            rw [← List.map_set, ← HBN.out, HST0.out] at h
            exact h)
          have HB1 := Lib.hid (hbi.setCell (p := ⟨gF, 0, none⟩) (Nat.le_refl _) (iv 0))
          have hNp' : (0 : Int) < (N : Int) := by omega
          have hge : (N : Int) ≤ (N : Int) := Int.le_refl _
          have hgl := hD.lt
          have cF := stFirst_any m (w4.setCell ⟨gF, 0, none⟩ (iv 0)) (by omega)
          clear hD hbi hMV hi hlt
          go_wp2_with fail
          refine cF.mono ?_
          rintro e w5 ⟨r5, rfl, ho5, hf5, hb5⟩
          obtain ⟨a5, l5, c5, rfl⟩ : ∃ a l c, r5 = .slice a l c := by obtain ⟨a, c, h, _⟩ := ho5.shape; exact ⟨a, _, c, h⟩
          have hz4 : w4.heap.size ≤ w5.heap.size := by simpa [World.setCell] using hb5.size
          have hl5 := ho5.lt
          have HQ0 : Hid (QR (w5.alloc (.cells #[.slice a5 l5 c5] 22)) m gF (.slice (some ⟨w5.heap.size, 0, none⟩) 1 1) [.slice a5 l5 c5] [0]) := Lib.hid ⟨rfl, World.ownsRow_lit w5 #[.slice a5 l5 c5] 1 (by omega) (by unfold maxLen; omega) rfl, fun i u r hu hr => by
            have hi0 : i = 0 := by have := (List.getElem?_eq_some_iff.1 hu).1; simp at this; omega
            subst hi0
            simp only [List.getElem?_cons_zero, Option.some.injEq] at hu hr
            subst hu; subst hr
            rw [HU0.out]
            refine ⟨ho5.alloc _, fun g hg => ⟨?_, ?_⟩⟩
            · have := hf5 g hg; simp [World.setCell] at this; omega
            · have := hl5 g hg; intro e; simp [Value.ownBlock] at e; omega⟩
          have HF0 := Lib.hid ((HD1.out.below hb5 (by simpa [World.setCell] using hgl)).alloc (.cells #[.slice a5 l5 c5] 22))
          have HB6 := Lib.hid ((HB1.out.trans (hb5.mono (by simp [World.setCell]; omega))).alloc (by omega) (.cells #[.slice a5 l5 c5] 22))
          clear ho5 hf5 hb5 hl5 HD1 HB1 hcl hfz cF
          go_wp2
          go_loopw [9, 10, 11, 13, 14] (fun qv pv _ _ _ wi => ∃ (p : Nat) (hs : List Value) (Q : List Nat), pv = .int .i64 p ∧ Hid (QR wi m gF qv hs Q) ∧ Hid (Blk wi gF 3 ((sF Bd Q).map iv)) ∧ Hid (SQ Bd Q p) ∧ Below gF wk wi) (fun _ pv _ _ _ _ => N + 1 - (intOf pv).toNat)
          case atStart => exact ⟨0, _, [0], rfl, HQ0, HF0, HSQ0, HB6.out⟩
          case round =>
            obtain ⟨p, hs, Q, rfl, hQ, hD, hS, hbr⟩ := hrel
            obtain ⟨wp, rfl⟩ : ∃ z, z = wr := ⟨_, rfl⟩
            clear HQ0 HF0 HSQ0 HB6
            have hown := (Own.of_row hQ.out.row).1
            have hpQ := hS.out.hp
            have hQl := hS.out.length_le
            rw [HBN.out] at hQl
            have hgFp := hD.out.lt
            have hBg : gF ≤ wp.heap.size := Nat.le_of_lt hgFp
            obtain ⟨a9, c9, e9, _, _, _⟩ := hown.shape
            subst e9
            obtain ⟨q, hq⟩ : ∃ q, hs.length = q := ⟨_, rfl⟩
            have hQq : Q.length = q := by rw [← hQ.out.len, hq]
            have HHQ := Lib.hid hq
            rw [hq] at hown hQ ⊢
            by_cases hlt : p < q
            · have hlt' : (p : Int) < (q : Int) := by omega
              obtain ⟨x, hx⟩ : ∃ x, Q[p]? = some x := ⟨_, List.getElem?_eq_getElem (by omega)⟩
              obtain ⟨uu, hu⟩ : ∃ u, hs[p]? = some u := ⟨_, List.getElem?_eq_getElem (by omega)⟩
              have hxm := List.mem_of_getElem? hx
              have hxN : x < N := by have := hS.out.lt x hxm; rw [HBN.out] at this; exact this
              obtain ⟨hOu, _⟩ := hQ.out.pt p uu x hu hx
              obtain ⟨g9, o9, rfl, hg9, hc9, _⟩ := hown.at (by omega)
              have hcu := hc9 p (by omega)
              rw [hu] at hcu
              have hxl : (unrank m x).length = m := (HUS.out x hxN).2
              have cR := faRank_any uu (unrank m x) wp hOu (by rw [hxl]; omega)
              rw [HRU.out x hxN] at cR
              have cN := hN.out uu (unrank m x) wp hOu (by rw [hxl]; omega) (by rw [hxl]; omega)
              rw [hxl, HLE.out] at cN
              obtain ⟨au, lu, cu, rfl⟩ : ∃ a l c, uu = .slice a l c := by obtain ⟨a, c, h, _⟩ := hOu.shape; exact ⟨a, _, c, h⟩
              have hcx := hD.out.cell x
              rw [List.getElem?_map, List.getElem?_eq_getElem (by rw [sF_length, HBN.out]; exact hxN), sF_get (by rw [HBN.out]; exact hxN), if_pos hxm, Option.map_some] at hcx
              have hdx : Bd.d x ≤ 5 := HBd.out x (by rw [HBN.out]; exact hxN)
              have hxN' : (x : Int) < (N : Int) := by omega
              have HSI := Lib.hid (hS.out.inner hx)
              rw [HBL.out] at HSI
              have HVQ := Lib.hid hown.lt
              obtain ⟨dx, hdxe⟩ : ∃ d, Bd.d x = d := ⟨_, rfl⟩
              have HDX := Lib.hid hdxe
              rw [hdxe] at hcx hdx
              clear hx hu hOu hc9 hxl hS hdxe hxm hown
              go_wp2_with fail
              refine cR.mono ?_
              rintro e w6 ⟨rfl, rfl⟩
              clear cR
              go_wp2_with fail
              refine cN.mono ?_
              rintro e w6 ⟨r6, hs6, rfl, hS6, hb6⟩
              clear cN
              obtain ⟨a6, c6, e6, _, _, _⟩ := hS6.own.shape
              subst e6
              obtain ⟨E, hE⟩ : ∃ E, hs6.length = E := ⟨_, rfl⟩
              have hLE : L.length = E := by rw [← hE, hS6.len, nxX_length]
              have HS6 := Lib.hid hS6
              rw [hE] at HS6 ⊢
              have HEL := Lib.hid hLE
              have hE1 : E ≤ 1000 := by omega
              have HQ6 := Lib.hid (hQ.out.below hb6)
              have HD6 := Lib.hid (hD.out.below hb6 hgFp)
              have HB6 := Lib.hid (hbr.trans (hb6.mono hBg))
              have HV6 : Hid (∀ g, (Value.slice (some ⟨g9, o9, none⟩) q c9).ownBlock = some g → g < wp.heap.size ∨ w6.heap.size ≤ g) := Lib.hid fun g hg => .inl (HVQ.out g hg)
              have hz6 := hb6.size
              clear hQ hD hbr hb6 hS6 hE hLE hcu hcx
              go_wp2
              go_loopw [9, 13, 14, 60] (fun qv _ _ iv' wi => ∃ (k : Nat) (hs2 : List Value) (Q2 : List Nat), k ≤ E ∧ iv' = .int .i64 k ∧ Hid (QR wi m gF qv hs2 Q2) ∧ Hid (Blk wi gF 3 ((sF Bd Q2).map iv)) ∧ Hid (SI Bd Q2 p x (k + 1)) ∧ Hid (∀ g, qv.ownBlock = some g → g < wp.heap.size ∨ w6.heap.size ≤ g) ∧ Hid (∀ g, wp.heap.size ≤ g → g < w6.heap.size → wi.heap[g]? = w6.heap[g]?) ∧ Below gF wk wi ∧ w6.heap.size ≤ wi.heap.size) (fun _ _ _ iv' _ => E - (intOf iv').toNat)
              case atStart => exact ⟨0, hs, Q, Nat.zero_le _, rfl, HQ6, HD6, HSI, HV6, Lib.hid fun _ _ _ => rfl, HB6.out, Nat.le_refl _⟩
              case round =>
                obtain ⟨k, hs2, Q2, hk, rfl, hQ2, hD2, hS2, hV2, hK2, hb2, hzi⟩ := hrel
                obtain ⟨wi, rfl⟩ : ∃ z, z = wr := ⟨_, rfl⟩
                clear HQ6 HD6 HSI HV6 HB6
                by_cases hk2 : k < E
                · have hk2' : (k : Int) < (E : Int) := by omega
                  have hkL : k < L.length := by rw [HEL.out]; exact hk2
                  have hSi := HS6.out.kept (fun g h1 h2 => hK2.out g h1 h2)
                  have hkn : k < (nxX L (unrank m x)).length := by rw [nxX_length]; exact hkL
                  obtain ⟨g6, o6, rfl, u', hu', hOu', hIu', _, hcu'⟩ := hSi.at k hkn
                  have hTe : (nxX L (unrank m x))[k] = exT (unrank m x) (xAt L (k + 1)) := by
                    have h := nxX_get (xs := unrank m x) hkL
                    rw [List.getElem?_eq_getElem hkn] at h
                    exact Option.some.inj h
                  have hTs := HXS.out x hxN k hkL
                  have hTn := HNB.out x k
                  rw [hTe] at hOu'
                  obtain ⟨T, hT⟩ : ∃ T, exT (unrank m x) (xAt L (k + 1)) = T := ⟨_, rfl⟩
                  rw [hT] at hOu' hTs hTn
                  obtain ⟨hTu, htN⟩ := HUR.out T hTs
                  have cR := faRank_any u' T wi hOu' (by rw [hTs.2]; omega)
                  obtain ⟨t, ht⟩ : ∃ t, rankL T = t := ⟨_, rfl⟩
                  rw [ht] at cR htN hTu hTn
                  obtain ⟨a', l', c', rfl⟩ : ∃ a l c, u' = .slice a l c := by obtain ⟨a, c, h, _⟩ := hOu'.shape; exact ⟨a, _, c, h⟩
                  have hct := hD2.out.cell t
                  rw [List.getElem?_map, List.getElem?_eq_getElem (by rw [sF_length, HBN.out]; exact htN), sF_get (by rw [HBN.out]; exact htN), Option.map_some] at hct
                  have hft := hD2.out.frozen t
                  have htN' : (t : Int) < (N : Int) := by omega
                  have HTN := Lib.hid hTn
                  have HTU := Lib.hid hTu
                  have hQ2l := hS2.out.toSQ.length_le
                  rw [HBN.out] at hQ2l
                  have hh2 : hs2.length ≤ 720 := by rw [hQ2.out.len]; omega
                  clear hu' hTe hT hTs hTn hTu ht hkn hkL hSi hQ2l
                  go_wp2_with fail
                  refine cR.mono ?_
                  rintro e w7 ⟨rfl, rfl⟩
                  clear cR
                  by_cases hmem : t ∈ Q2
                  · rw [if_pos hmem] at hct
                    have hd0 : ¬ (((Bd.d t : Nat) : Int) < 0) := by omega
                    obtain ⟨dt, hdt⟩ : ∃ d, ((Bd.d t : Nat) : Int) = d := ⟨_, rfl⟩
                    rw [hdt] at hct hd0
                    have hd1 : 0 ≤ dt := by omega
                    have HSJ := Lib.hid (hS2.out.next_old (by rw [HTN.out]; exact hmem))
                    clear hmem hdt hOu' hd0 hS2
                    go_wp2
                    go_roundw
                    case rel => exact ⟨k + 1, hs2, Q2, by omega, by go_num, hQ2, hD2, HSJ, hV2, hK2, hb2, hzi⟩
                    case measure => simp [intOf] <;> omega
                  · rw [if_neg hmem] at hct
                    have hfn := hS2.out.far_new HBO.out (by rw [HBL.out]; omega) (by rw [HBH.out, HEL.out]; omega) (by rw [HTN.out]; exact hmem)
                    rw [HTN.out, HDX.out] at hfn
                    have hnn := hS2.out.next_new HBO.out (by rw [HBL.out]; omega) (by rw [HBH.out, HEL.out]; omega) (by rw [HTN.out]; exact hmem)
                    rw [HTN.out] at hnn
                    have HSJ := Lib.hid hnn
                    have hs1 := IntWalk.i64_in ((dx : Int) + 1) (by omega)
                    have hD7 := hD2.out.set t (iv ((dx : Int) + 1))
                    rw [← List.map_set, show ((dx : Int) + 1) = ((Bd.d t : Nat) : Int) by rw [hfn]; simp, sF_snoc, show ((Bd.d t : Nat) : Int) = (dx : Int) + 1 by rw [hfn]; simp] at hD7
                    have hgset := grownBy_setCell wi gF t (iv ((dx : Int) + 1))
                    have hB7 := hb2.setCell (p := ⟨gF, t, none⟩) (Nat.le_refl _) (iv ((dx : Int) + 1))
                    obtain ⟨W7, hW7⟩ : ∃ z, wi.setCell ⟨gF, t, none⟩ (iv ((dx : Int) + 1)) = z := ⟨_, rfl⟩
                    rw [hW7] at hD7 hgset hB7
                    have hz7 : W7.heap.size = wi.heap.size := by rw [← hW7]; simp [World.setCell]
                    have hI' : ∀ g, (Value.slice a' l' c').ownBlock = some g → gF < g ∧ u9.ownBlock ≠ some g := fun g hg => ⟨by have := (hIu' g hg).1; omega, fun e => by
                      have h1 := hIu' g hg
                      rcases hV2.out g e with h2 | h2 <;> omega⟩
                    have HQ8 := Lib.hid ((hQ2.out.setF hgset).below (below_new W7 (.cells #[.slice a' l' c'] 22)))
                    have hQ8r := HQ8.out.row
                    have HO8 := Lib.hid (show OwnI (W7.alloc (.cells #[.slice a' l' c'] 22)) (.slice a' l' c') (unrank m t) by
                      rw [HTU.out]
                      exact (Own.grown hOu' hgset (fun g hg e => by have := (hI' g hg).1; cases e; omega)).alloc _)
                    have HI8 := Lib.hid hI'
                    have HD8 := Lib.hid (hD7.alloc (.cells #[.slice a' l' c'] 22))
                    have HB8 := Lib.hid (hB7.alloc (by omega) (.cells #[.slice a' l' c'] 22))
                    have HK8 := Lib.hid (show ∀ g, wp.heap.size ≤ g → g < w6.heap.size → (W7.alloc (.cells #[.slice a' l' c'] 22)).heap[g]? = w6.heap[g]? from fun g h1 h2 => by
                      rw [Below.heap_alloc W7 _ g (by omega), hgset.block g (by omega) (by intro e; cases e; omega)]
                      exact hK2.out g h1 h2)
                    have HRL := Lib.hid hQ8r.lt
                    have hgF7 : gF + 1 ≤ W7.heap.size + 1 := by omega
                    have hz8 : w6.heap.size ≤ W7.heap.size := by omega
                    clear hz7 hD7 hgset hB7 hI' hOu' hIu' hS2 hmem hnn hfn hK2 hb2 hQ2 hD2
                    go_wp2_with (at_builtin; refine wpList_append_lies _ rfl _ _ 42 rfl (gF + 1) 22 i1 _ 1 24 Try.underlying42 HI.out HS0.out HS1.out HS2.out rfl (by omega) u9 hs2.length hs2 rfl hQ8r _ 1 1 [.slice a' l' c'] rfl (by simp) (World.news_of_block (heap_alloc_new _ _)) (by simp [Value.oneCell']) (by omega) (by unfold maxLen; omega) (by omega) (by simp; omega) (W7.heap.size + 1) (by simp) ?_)
                    intro g8 cap8 w8 hown8 hgr8 hat8 hlt8
                    have HQ9 := Lib.hid (QR.app HQ8.out HO8.out HI8.out hown8 hgr8 (by simpa using hat8))
                    have HD9 := Lib.hid (HD8.out.grown hgr8 (fun e => by have := (HRL.out gF e).1; omega))
                    have HV9 : Hid (∀ g, (Value.slice (some ⟨g8, 0, none⟩) (hs2.length + 1) cap8).ownBlock = some g → g < wp.heap.size ∨ w6.heap.size ≤ g) := Lib.hid fun g hg => by
                      have e' : g8 = g := by simpa [Value.ownBlock] using hg
                      rcases hat8 with h1 | h1
                      · exact hV2.out g (by rw [← e']; exact h1)
                      · right; omega
                    have HK9 : Hid (∀ g, wp.heap.size ≤ g → g < w6.heap.size → w8.heap[g]? = w6.heap[g]?) := Lib.hid fun g h1 h2 => by
                      rw [hgr8.block g (by simp; omega) (by intro e; rcases hV2.out g e.symm with h3 | h3 <;> omega)]
                      exact HK8.out g h1 h2
                    have HB9 := Lib.hid (HB8.out.grown hgr8 (by simp; omega) (fun b hb => Nat.le_of_succ_le (HRL.out b hb).1))
                    have hz9 : w6.heap.size ≤ w8.heap.size := by have := hgr8.size; simp at this; omega
                    clear hown8 hgr8 hat8 hlt8 hQ8r HQ8 HD8 HB8 HK8 HO8 HI8
                    go_wp2
                    go_roundw
                    case rel => exact ⟨k + 1, _, _, by omega, by go_num, HQ9, HD9, HSJ, HV9, HK9, HB9.out, hz9⟩
                    case measure => simp [intOf] <;> omega
                · obtain rfl : k = E := by omega
                  have HSN := Lib.hid (hS2.out.next (by rw [HBH.out, HEL.out]; exact Nat.le_refl _))
                  have hge2 : (k : Int) ≤ (k : Int) := Int.le_refl _
                  clear hS2
                  go_wp2
                  go_roundw
                  case rel => exact ⟨p + 1, hs2, Q2, by go_num, hQ2, hD2, HSN, hb2⟩
                  case measure => simp [intOf] <;> omega
            · obtain rfl : q = p := by omega
              have hSQ : SQ Bd Q Q.length := by rw [hQq]; exact hS.out
              have HO := Lib.hid (show OwnI wp (.slice (some ⟨gF, 0, none⟩) N N) (sFar Bd) by
                rw [← hSQ.far_all HBO.out]
                exact OwnI.of_blk0 hD.out (by rw [sF_length, HBN.out]) (by omega))
              have hge2 : (q : Int) ≤ (q : Int) := Int.le_refl _
              have HGF2 := Lib.hid (show wk.heap.size ≤ gF by have := HGF.out; omega)
              have HB := Lib.hid (hbr.mono HGF2.out)
              clear hS hSQ hD hQ hbr
              go_wp2
              go_ret
              exact ⟨_, rfl, HO.out, From.at _ _ _ _ _ HGF2.out, HB.out⟩

end Go.Proofs.Ytajdlioojibmdaa

namespace Go.Pan
theorem allS_unX (m : Nat) : allS m = (List.range (fact m)).map (unrank m) := by
  apply List.ext_getElem (by simp [allS_length])
  intro i h1 h2
  have hi : i < fact m := by simpa using h2
  have h := unrank_get hi
  rw [List.getElem?_eq_getElem h1] at h
  simpa using Option.some.inj h
theorem xOut_all {L : List (Int × Int × Int × Int)} {m : Nat} (hL : XOk L m) (h1 : 1 ≤ m) (h6 : m ≤ 6) : dOut (xBd L m).d (fact m) (dLen (xBd L m).d (fact m)) = gbyL (xG L m) (ramp 1 m) := by
  have e1 : dLen (xBd L m).d (fact m) = gecc (xG L m) (ramp 1 m) + 1 := dLen_all (n := xG L m) (allS_unX m) (fact_pos m)
  rw [e1]
  exact dOut_all (n := xG L m) (xG_ok hL h1 h6) (show (xG L m).St (ramp 1 m) from St.ramp m h1 (by omega)) (allS_unX m)

end Go.Pan

namespace Go.Proofs.Ytajdlioojibmdaa
open Go Go.RowKit Go.Pan

def wlenX : Value → Nat
  | .slice _ l _ => l
  | _ => 0

theorem atOX {w : World} {v : Value} {xs : List Int} (h : OwnI w v xs) (j : Nat) (hj : j < xs.length) :
    ∃ g off cap, v = .slice (some ⟨g, off, none⟩) xs.length cap ∧ w.cell? ⟨g, off + j, none⟩ = some (iv xs[j]) ∧ w.frozen? ⟨g, off + j, none⟩ = false ∧ ∀ u : Int, OwnI (w.setCell ⟨g, off + j, none⟩ (iv u)) (.slice (some ⟨g, off, none⟩) xs.length cap) (xs.set j u) := by
  obtain ⟨ad, cap, rfl, h1, h2, h3⟩ := h.shape
  obtain ⟨g, off, rfl, hg, hc, hf⟩ := Own.at h (by omega)
  have hcj := hc j (by omega)
  rw [List.getElem?_map, List.getElem?_eq_getElem hj] at hcj
  refine ⟨g, off, cap, rfl, hcj, hf (off + j), fun u => ?_⟩
  have hs := Own.stored h j (by omega) (iv u)
  unfold OwnI
  rw [List.length_set, List.map_set]
  exact hs

theorem nextOk_ex : NextOk true := fun v xs w hv h1 h6 => bkNextX_any v xs w hv h1 h6

set_option maxHeartbeats 1600000 in
set_option maxRecDepth 100000 in
theorem bkCount_any (ex : Bool) (m : Nat) (w : World) (h1 : 1 ≤ m) (h6 : m ≤ 6) (hN : Hid (NextOk ex)) :
    Calls Try.prog 59 #[.int .i64 m, .bool ex] w fun e w' => ∃ r, e = .returned r ∧ OwnI w' r (gbyL (xG (LL ex m) m) (ramp 1 m)) ∧ From w.heap.size r ∧ Below w.heap.size w w' := by
  have c1 := bkFar_any ex m w h1 h6 hN
  have HOK := Lib.hid (LL_ok ex h1 h6)
  obtain ⟨L, hL⟩ : ∃ L, LL ex m = L := ⟨_, rfl⟩
  rw [hL] at HOK c1 ⊢
  have HA0 := Lib.hid (xOut_all HOK.out h1 h6)
  obtain ⟨N, hNe⟩ : ∃ N, fact m = N := ⟨_, rfl⟩
  have hfl : N ≤ 720 := by rw [← hNe]; have := fact_mono h6; have h6 : fact 6 = 720 := rfl; omega
  have HB := Lib.hid (fun i (hi : i ≤ N) => dLen_le (d := (xBd L m).d) (i := i) (M := 5) (fun r hr => xBd_le HOK.out h1 h6 (show r < fact m by omega)))
  have HG := Lib.hid (fun r (hr : r < N) => (sFar_get (g := xBd L m) (show r < fact m by omega)))
  have HFL := Lib.hid (show (sFar (xBd L m)).length = N by rw [sFar_length]; exact hNe)
  rw [hNe] at HA0
  obtain ⟨D, hD⟩ : ∃ D, (xBd L m).d = D := ⟨_, rfl⟩
  rw [hD] at HA0 HB HG
  obtain ⟨R, hR⟩ : ∃ R, gbyL (xG L m) (ramp 1 m) = R := ⟨_, rfl⟩
  rw [hR] at HA0 ⊢
  obtain ⟨F, hF⟩ : ∃ F, sFar (xBd L m) = F := ⟨_, rfl⟩
  rw [hF] at HG HFL c1
  clear hL hNe hD hR hF
  go_enter Try.func59, Try.ntmps59
  go_wp2_with fail
  refine (c1).mono ?_
  rintro e w1 ⟨r1, rfl, ho1, hf1, hb1⟩
  clear c1
  have hz1 := hb1.size
  obtain ⟨a1, c1, rfl, hcN, _, _⟩ := ho1.shape
  have hHFL := HFL.out
  have HO1 := Lib.hid ho1
  rw [hHFL] at HO1 hcN ⊢
  clear hHFL ho1 hf1
  go_wp2
  go_loopw [5, 7, 12] (fun ov _ iv' wr => ∃ (i : Nat) (oa : Option Addr) (oc : Nat), i ≤ N ∧ iv' = .int .i64 i ∧ ov = .slice oa (dLen D i) oc ∧ OwnI wr (.slice oa (dLen D i) oc) (dOut D i (dLen D i)) ∧ From w1.heap.size (.slice oa (dLen D i) oc) ∧ Below w1.heap.size w1 wr) (fun _ _ i _ => N - (intOf i).toNat)
  case atStart => exact ⟨0, none, 0, Nat.zero_le _, rfl, rfl, OwnI.nil _, From.nil _ _ _, Below.refl _ _⟩
  case round =>
    obtain ⟨i, oa, oc, hi, rfl, rfl, ho, hf, hbr⟩ := hrel
    obtain ⟨wo, rfl⟩ : ∃ z, z = wr := ⟨_, rfl⟩
    by_cases hlt : i < N
    · have hlt' : (i : Int) < N := by omega
      have hor0 : Own wo 1 (.slice a1 N c1) F.length (F.map iv) := HO1.out.same hbr
      rw [HFL.out] at hor0
      have hor := hor0
      obtain ⟨g1, o1, rfl, hg1, hc1, _⟩ := Own.at hor (by omega)
      have h1r := hc1 i (by omega)
      rw [List.getElem?_map, HG.out i hlt, Option.map_some] at h1r
      obtain ⟨x, hx⟩ : ∃ x, D i = x := ⟨_, rfl⟩
      have HX := Lib.hid hx
      have HLS := Lib.hid (show dLen D (i + 1) = max (dLen D i) (x + 1) by rw [dLen_succ, hx])
      have hlb := HB.out (i + 1) (by omega)
      have hlb0 := HB.out i (by omega)
      have HGW := Lib.hid (fun K (hK : dLen D i ≤ K) => dOut_grow (d := D) (i := i) hK)
      have hxb : x ≤ 5 := by
        rw [HLS.out] at hlb
        omega
      rw [hx] at h1r
      obtain ⟨l0, hl0⟩ : ∃ l, dLen D i = l := ⟨_, rfl⟩
      rw [hl0] at ho hf HLS HGW hlb0 ⊢
      clear hor hor0 hc1 hx hlb hl0
      go_wp2
      go_loopw [5] (fun ov w5 => ∃ (K : Nat) (oa : Option Addr) (oc : Nat), l0 ≤ K ∧ K ≤ max l0 (x + 1) ∧ ov = .slice oa K oc ∧ OwnI w5 (.slice oa K oc) (dOut D i K) ∧ From w1.heap.size (.slice oa K oc) ∧ Below w1.heap.size w1 w5) (fun ov _ => x + 1 - wlenX ov)
      case atStart => exact ⟨l0, oa, oc, Nat.le_refl _, Nat.le_max_left _ _, rfl, ho, hf, hbr⟩
      case round =>
        obtain ⟨K, oa2, oc2, hK1, hK2, rfl, ho2, hf2, hb2⟩ := hrel
        clear ho hf h1r hbr
        have hz2 := hb2.size
        by_cases hle : K ≤ x
        · have hle' : (K : Int) ≤ x := by omega
          have hlen : (dOut D i K).length ≤ 1048576 := by rw [dOut_length]; omega
          have HGK := Lib.hid (HGW.out K hK1)
          go_wp2_with (at_builtin; refine wpList_app1 Try.intSl rfl _ _ rfl _ (dOut D i K) rfl (ho2.alloc _) w1.heap.size hf2 wr.heap.size 0 rfl ?c1 w1 (hb2.alloc hz2 _) ?c2 hlen ?_)
          case c1 => simp [go_sem]
          case c2 => simp; omega
          intro v' w9 ho9 hf9 hb9 _
          rw [← HGK.out] at ho9
          obtain ⟨oa9, oc9, rfl, _, _, _⟩ := ho9.shape
          rw [dOut_length] at ho9 hf9 ⊢
          go_wp2
          go_roundw
          case rel => exact ⟨K + 1, oa9, oc9, by omega, by omega, rfl, ho9, hf9, hb9⟩
          case measure => simp [wlenX] <;> omega
        · have hlt2 : (x : Int) < K := by omega
          have hxK : x < K := by omega
          have hKe : dLen D (i + 1) = K := by rw [HLS.out]; omega
          have HKE := Lib.hid hKe
          obtain ⟨g, off, cap, he, hd, hfd, hst⟩ := atOX ho2 x (by rw [dOut_length]; exact hxK)
          rw [dOut_length] at he hst
          simp only [Value.slice.injEq] at he
          obtain ⟨rfl, _, rfl⟩ := he
          rw [dOut_get hxK] at hd
          have hst2 := hst ((dCnt D i x : Int) + 1)
          rw [dOut_set HX.out] at hst2
          have hcb := dCnt_le D i x
          obtain ⟨k, hk⟩ : ∃ k, dCnt D i x = k := ⟨_, rfl⟩
          rw [hk] at hd hst2 hcb
          have hgB : w1.heap.size ≤ g := hf2 g rfl
          have hb3 := hb2.setCell (p := ⟨g, off + x, none⟩) hgB (iv ((k : Int) + 1))
          have hs1 := IntWalk.i64_in ((k : Int) + 1) (by omega)
          clear hKe hst hk ho2 hb2
          go_wp2
          go_roundw
          case rel => exact ⟨i + 1, _, oc2, by omega, by go_num, by rw [HKE.out], by rw [HKE.out]; exact hst2, by rw [HKE.out]; exact hf2, hb3⟩
          case measure => simp [intOf] <;> omega
    · obtain rfl : i = N := by omega
      have HE := Lib.hid HA0.out
      have hge : (i : Int) ≤ i := Int.le_refl _
      go_wp2
      go_ret
      exact ⟨_, rfl, by rw [← HE.out]; exact ho, hf.mono hz1, hb1.trans (hbr.mono hz1)⟩

theorem sCountByExchanges_any (n : Int) (w : World) :
    Calls Try.prog 32 #[.int .i64 n] w fun e w' => ∃ r, e = .returned (.tuple #[r, .bool (okFew n)]) ∧ OwnI w' r (mCountByExchanges n) ∧ From w.heap.size r ∧ Below w.heap.size w w' := by
  have c := l1In_any n 1 6 w
  cases hg : okFew n with
  | true =>
    have HM := Lib.hid (show mCountByExchanges n = gbyL (xG (exAll n.toNat) n.toNat) (ramp 1 n.toNat) from if_pos hg)
    have hb := inB_iff.1 hg
    have hg' : inB n 1 6 = true := hg
    rw [hg'] at c
    obtain ⟨m, rfl⟩ : ∃ m : Nat, n = m := ⟨n.toNat, by omega⟩
    have cc := bkCount_any true m w (by omega) (by omega) (Lib.hid nextOk_ex)
    rw [Int.toNat_natCast] at HM
    clear hg hg' hb
    go_enter Try.func32, Try.ntmps32
    go_wp2_with fail
    refine (c).mono ?_
    rintro e w0 ⟨rfl, rfl⟩
    go_wp2_with fail
    refine (cc).mono ?_
    rintro e w1 ⟨r, rfl, ho, hf, hb⟩
    go_wp2
    go_ret2
    exact ⟨_, rfl, by rw [HM.out]; exact ho, hf, hb⟩
  | false =>
    have HM := Lib.hid (show mCountByExchanges n = [] from if_neg (by rw [hg]; exact Bool.false_ne_true))
    have hg' : inB n 1 6 = false := hg
    rw [hg'] at c
    clear hg hg'
    go_enter Try.func32, Try.ntmps32
    go_wp2_with fail
    refine (c).mono ?_
    rintro e w0 ⟨rfl, rfl⟩
    go_wp2
    go_ret2
    exact ⟨_, rfl, by rw [HM.out]; exact OwnI.nil _, From.nil _ _ _, Below.refl _ _⟩

end Go.Proofs.Ytajdlioojibmdaa

namespace Go.Pan
/-- the indices of moves that are numbered from 1 on -/
def decL (l : List Int) : List Int := l.map fun k => k - 1
theorem decL_get {l : List Int} {j : Nat} {x : Int} (h : l[j]? = some x) : (decL l)[j]? = some (x - 1) := by simp [decL, h]
theorem decL_length (l : List Int) : (decL l).length = l.length := by simp [decL]
theorem ggoX_ks {n : Gm} (hn : GOk n) {t : List Int} (ht : n.St t) : ∀ (e : Nat) (q : List Int), n.St q → gfar n q t = e → ∀ x ∈ ggoL n t e q, ∃ k : Nat, k ∈ n.ks ∧ x = (k : Int)
  | 0, q, _, _, x, hx => by simp [ggoL] at hx
  | e + 1, q, hq, he, x, hx => by
    have hs := gfirK_spec hn hq ht he
    rw [ggoL, List.mem_cons] at hx
    rcases hx with rfl | hx
    · exact ⟨_, hs.1, rfl⟩
    · exact ggoX_ks hn ht e _ (hn.mvSt _ _ hq hs.1) hs.2 x hx

end Go.Pan

namespace Go.Proofs.Ytajdlioojibmdaa
open Go Go.RowKit Go.Pan

set_option maxHeartbeats 4000000 in
set_option maxRecDepth 100000 in
theorem bkList_any (ex : Bool) (m d : Nat) (v : Value) (xs : List Int) (w : World) (hv : OwnI w v xs) (h1 : 1 ≤ m) (h6 : m ≤ 6) (hN : Hid (NextOk ex)) (hs : Hid (St m xs)) (hd : Hid (gfar (xG (LL ex m) m) xs (ramp 1 m) = d)) :
    Calls Try.prog 52 #[v, .bool ex] w fun e w' => ∃ r, e = .returned r ∧ OwnI w' r (decL (ggoL (xG (LL ex m) m) (ramp 1 m) d xs)) ∧ From w.heap.size r ∧ Below w.heap.size w w' := by
  obtain ⟨ad, cap, rfl, _, _, _⟩ := hv.shape
  have hl := hs.out.2
  have hl9 : xs.length ≤ 9 := by omega
  have c1 := bkFar_any ex m w h1 h6 hN
  have HOK := Lib.hid (LL_ok ex h1 h6)
  obtain ⟨L, hL⟩ : ∃ L, LL ex m = L := ⟨_, rfl⟩
  have HLE := Lib.hid hL
  rw [hL] at HOK c1 hd ⊢
  have HGM := Lib.hid (xG_ok HOK.out h1 h6)
  have HT := Lib.hid (show (xG L m).St (ramp 1 m) from St.ramp m h1 (by omega))
  have HS0 := Lib.hid (show (xG L m).St xs from hs.out)
  have hdb : d ≤ 5 := by
    have h := (gfar_spec HGM.out HS0.out HT.out).2.1
    have e : (xG L m).dm = m - 1 := rfl
    rw [hd.out] at h
    omega
  have hL1 := HOK.out.le
  obtain ⟨N, hNe⟩ : ∃ N, fact m = N := ⟨_, rfl⟩
  have HFQ := Lib.hid (fun q (hq : St m q) => (⟨by rw [← hNe]; exact rank_lt hq, by rw [← xBd_d HOK.out h1 h6 hq]; exact sFar_get (show rankL q < (xBd L m).N from rank_lt hq)⟩ : rankL q < N ∧ (sFar (xBd L m))[rankL q]? = some ((gfar (xG L m) q (ramp 1 m) : Nat) : Int)))
  have HFL := Lib.hid (show (sFar (xBd L m)).length = N by rw [sFar_length]; exact hNe)
  have HXS := Lib.hid (fun q (hq : St m q) k (hk : k < L.length) => nxX_St HOK.out hq hk)
  have hp0 := Lib.hid (GPath.start HGM.out HS0.out hd.out)
  have hN0 : 0 < N := by rw [← hNe]; exact fact_pos m
  have HKS := Lib.hid (fun k => (mem_xks : k ∈ (xG L m).ks ↔ 1 ≤ k ∧ k ≤ L.length))
  have HMV := Lib.hid (show ∀ q k, (xG L m).mv q k = exT q (xAt L k) from fun q k => rfl)
  obtain ⟨F, hF⟩ : ∃ F, sFar (xBd L m) = F := ⟨_, rfl⟩
  rw [hF] at HFQ HFL c1
  rw [hl] at hv ⊢
  obtain ⟨G, hG⟩ : ∃ G, xG L m = G := ⟨_, rfl⟩
  rw [hG] at HGM HT HS0 hd HFQ hp0 HKS HMV ⊢
  have HGS := Lib.hid (show ∀ q, G.St q → St m q from fun q h => by subst hG; exact h)
  clear hL hNe hF hl hG
  go_enter Try.func52, Try.ntmps52
  go_wp2_with fail
  refine (c1).mono ?_
  rintro e w1 ⟨r1, rfl, ho1, hf1, hb1⟩
  clear c1
  obtain ⟨a1, c1, rfl, hcN, _, _⟩ := ho1.shape
  have hHFL := HFL.out
  have HO1 := Lib.hid ho1
  rw [hHFL] at HO1 hcN ⊢
  have hz1 := hb1.size
  have hv1 : OwnI w1 (.slice ad m cap) xs := (show OwnI w (.slice ad m cap) xs from hv).same hb1
  obtain ⟨hr0, hc0⟩ := HFQ.out xs hs.out
  rw [hd.out] at hc0
  have cR := faRank_any (.slice ad m cap) xs w1 hv1 hl9
  obtain ⟨r0, hr0e⟩ : ∃ r, rankL xs = r := ⟨_, rfl⟩
  rw [hr0e] at cR hr0 hc0
  have hO0 : Own w1 1 (.slice a1 N c1) F.length (F.map iv) := HO1.out
  rw [HFL.out] at hO0
  obtain ⟨gf, of, rfl, hgf, hcf, _⟩ := Own.at hO0 (by omega)
  have hcr := hcf r0 (by omega)
  rw [List.getElem?_map, hc0, Option.map_some] at hcr
  have hr0' : (r0 : Int) < (N : Int) := by omega
  have HCF := Lib.hid hcf
  clear hHFL ho1 hf1 hc0 hr0e hO0 hcf
  go_wp2_with fail
  refine (cR).mono ?_
  rintro e w2 ⟨rfl, rfl⟩
  clear cR
  go_wp2
  go_loopw [0, 6, 7, 8, 9] (fun sv ov fv _ _ wr => ∃ (i e : Nat) (q out : List Int) (qa : Option Addr) (qc : Nat), sv = .slice qa m qc ∧ fv = .int .i64 e ∧ i + e = d ∧ OwnI wr (.slice qa m qc) q ∧ OwnI wr ov (decL out) ∧ From w1.heap.size ov ∧ Hid (GPath G xs (ramp 1 m) d i q out) ∧ Below w1.heap.size w1 wr) (fun _ _ fv _ _ _ => (intOf fv).toNat)
  case atStart => exact ⟨0, d, xs, [], ad, cap, rfl, rfl, by omega, hv1, OwnI.nil _, From.nil _ _ _, hp0, Below.refl _ _⟩
  case round =>
    obtain ⟨i, e, q, out, qa, qc, rfl, rfl, hie, hq, ho, hf, hp, hbr⟩ := hrel
    clear hp0 hv1 hv hcr hr0 hr0'
    obtain ⟨wo, rfl⟩ : ∃ z, z = wr := ⟨_, rfl⟩
    by_cases he : 0 < e
    · have he' : (0 : Int) < e := by omega
      have hie' : i < d := by omega
      have HQ := Lib.hid hp.out.st
      have HF := Lib.hid (gfirK_spec HGM.out hp.out.st HT.out (hp.out.more hie'))
      have HL := Lib.hid (fun j hj hl => gfirK_least HGM.out (j := j) hp.out.st HT.out (hp.out.more hie') hj hl)
      have HE := Lib.hid (show gfar G q (ramp 1 m) = e by have := hp.out.ah; omega)
      have HPN := Lib.hid (hp.out.next HGM.out HS0.out HT.out hd.out hie')
      obtain ⟨f, hfe⟩ : ∃ f, gfirK G (ramp 1 m) q = f := ⟨_, rfl⟩
      rw [hfe] at HF HL HPN
      obtain ⟨hf1, hfn⟩ := (HKS.out f).1 HF.out.1
      have hql : q.length = m := (HGS.out q HQ.out).2
      have HQL := Lib.hid hql
      have cN := hN.out (.slice qa m qc) q wo hq (by omega) (by omega)
      rw [hql, HLE.out] at cN
      have hzo := hbr.size
      have hle5 : e ≤ 5 := by omega
      clear hfe hql
      go_wp2_with fail
      refine cN.mono ?_
      rintro e6 w6 ⟨r6, hs6, rfl, hS6, hb6⟩
      clear cN
      obtain ⟨a6, c6, e6, _, _, _⟩ := hS6.own.shape
      subst e6
      obtain ⟨E, hE⟩ : ∃ E, hs6.length = E := ⟨_, rfl⟩
      have hLE : L.length = E := by rw [← hE, hS6.len, nxX_length]
      have HS6 := Lib.hid hS6
      rw [hE] at HS6 ⊢
      have HEL := Lib.hid hLE
      have hE1 : E ≤ 1000 := by omega
      have ho6 := ho.same hb6
      have hol := ho.lt
      have hB6 := hbr.trans (hb6.mono hzo)
      have hz6 := hb6.size
      have hfE : f ≤ E := by omega
      clear hS6 hE hLE hq hbr hb6 ho
      go_wp2
      go_loopw [0, 6, 8, 9, 27] (fun sv ow _ _ iv' wi => ∃ K : Nat, sv = .slice qa m qc ∧ ow = u6 ∧ iv' = .int .i64 K ∧ K + 1 ≤ f ∧ Below w6.heap.size w6 wi) (fun _ _ _ _ iv' _ => E - (intOf iv').toNat)
      case atStart => exact ⟨0, rfl, rfl, rfl, by omega, Below.refl _ _⟩
      case round =>
        obtain ⟨K, rfl, rfl, rfl, hKf, hbi⟩ := hrel
        obtain ⟨wi, rfl⟩ : ∃ z, z = wr := ⟨_, rfl⟩
        have hKE : (K : Int) < (E : Int) := by omega
        have hkL : K < L.length := by rw [HEL.out]; omega
        have hSi := HS6.out.below hbi (Nat.le_refl _)
        have hkn : K < (nxX L q).length := by rw [nxX_length]; exact hkL
        obtain ⟨g6, o6, rfl, u', hu', hOu', hIu', _, hcu'⟩ := hSi.at K hkn
        have hTe : (nxX L q)[K] = exT q (xAt L (K + 1)) := by
          have h := nxX_get (xs := q) hkL
          rw [List.getElem?_eq_getElem hkn] at h
          exact Option.some.inj h
        have hTs := HXS.out q (HGS.out q HQ.out) K hkL
        rw [hTe] at hOu'
        have hMV := HMV.out q (K + 1)
        obtain ⟨T, hT⟩ : ∃ T, exT q (xAt L (K + 1)) = T := ⟨_, rfl⟩
        rw [hT] at hOu' hTs hMV
        obtain ⟨htN, hcT⟩ := HFQ.out T hTs
        have cR := faRank_any u' T wi hOu' (by rw [hTs.2]; omega)
        obtain ⟨t, ht⟩ : ∃ t, rankL T = t := ⟨_, rfl⟩
        rw [ht] at cR htN hcT
        obtain ⟨a', l', c', rfl⟩ : ∃ a l c, u' = .slice a l c := by obtain ⟨a, c, h, _⟩ := hOu'.shape; exact ⟨a, _, c, h⟩
        have hl' : l' = m := by
          obtain ⟨a, c, h, _⟩ := hOu'.shape
          simp only [Value.slice.injEq] at h
          rw [h.2.1, hTs.2]
        subst hl'
        obtain ⟨x, hx⟩ : ∃ x, gfar G T (ramp 1 l') = x := ⟨_, rfl⟩
        rw [hx] at hcT
        have HX := Lib.hid hx
        have hcr := HCF.out t (by omega)
        rw [List.getElem?_map, hcT, Option.map_some] at hcr
        have hB16 := hB6.trans (hbi.mono (Nat.le_trans hzo hz6))
        have hct : wi.cell? ⟨gf, of + t, none⟩ = some (iv (x : Int)) := (hB16.cell (p := ⟨gf, of + t, none⟩) hgf).trans hcr
        have htN' : (t : Int) < (N : Int) := by omega
        have hs1 := IntWalk.i64_in ((e : Int) - 1) (by omega)
        have hoi := ho6.same hbi
        have HMV' := Lib.hid hMV
        clear hu' hTe hT hkn hkL hSi ht hcT hcr hx hMV
        go_wp2_with fail
        refine cR.mono ?_
        rintro e7 w7 ⟨rfl, rfl⟩
        clear cR
        have hz7 := hbi.size
        by_cases hxe : (x : Int) = (e : Int) - 1
        · have hKe : K + 1 = f := by
            rcases Nat.lt_or_ge (K + 1) f with h | h
            · have h2 := HL.out (K + 1) ((HKS.out (K + 1)).2 ⟨by omega, by rw [HEL.out]; omega⟩) h
              unfold gclo at h2
              rw [HMV'.out, HX.out, HE.out] at h2
              have h3 := of_decide_eq_false h2
              omega
            · omega
          have HNX := Lib.hid (show GPath G xs (ramp 1 l') d (i + 1) T (out ++ [((K : Int) + 1)]) by
            have h := HPN.out
            rw [← hKe, HMV'.out] at h
            exact h)
          have hlen : (decL out).length ≤ 1048576 := by rw [decL_length]; have := hp.out.len; omega
          have HDC := Lib.hid (show decL (out ++ [((K : Int) + 1)]) = decL out ++ [(K : Int)] by simp [decL])
          clear hKe hp
          go_wp2_with (at_builtin; refine wpList_app1 Try.intSl rfl _ _ rfl _ (decL out) rfl (hoi.alloc _) w1.heap.size hf wi.heap.size (K : Int) rfl ?c1 w1 (hB16.alloc (by omega) _) ?c2 hlen ?_)
          case c1 => simp [go_sem]
          case c2 => simp; omega
          intro v' w9 ho9 hf9 hb9 hg9
          have hr9 := (Own.alloc hOu' (.cells #[.int .i64 (K : Int)] 3)).grown hg9 (fun g hg e => by have := hol g e; have h2 := (hIu' g hg).1; omega)
          have HR9 := Lib.hid (show OwnI w9 (.slice a' l' c') T from hr9)
          have HO9 := Lib.hid (show OwnI w9 v' (decL (out ++ [((K : Int) + 1)])) by rw [HDC.out]; exact ho9)
          clear hr9 hoi hOu' hg9 ho9
          go_wp2
          go_roundw
          case rel => exact ⟨i + 1, e - 1, T, _, a', c', rfl, by go_num, by omega, HR9.out, HO9.out, hf9, HNX, hb9⟩
          case measure => simp [intOf] <;> omega
        · have hKe : K + 1 < f := by
            rcases Nat.lt_or_ge (K + 1) f with h | h
            · exact h
            · have h2 : K + 1 = f := by omega
              have h3 := HF.out.2
              rw [← h2, HMV'.out, HX.out] at h3
              omega
          clear hOu'
          go_wp2
          go_roundw
          case rel => exact ⟨K + 1, rfl, rfl, by go_num, by omega, hbi⟩
          case measure => simp [intOf] <;> omega
    · have he0 : e = 0 := by omega
      subst he0
      obtain rfl : i = d := by omega
      have HG := Lib.hid hp.out.last
      clear hp
      go_wp2
      go_ret
      exact ⟨_, rfl, by rw [← HG.out]; exact ho, hf.mono hz1, hb1.trans (hbr.mono hz1)⟩

end Go.Proofs.Ytajdlioojibmdaa

namespace Go.Pan
/-- the moves that are told by the numbers of a shortest list -/
theorem pick_at {L : List (Int × Int × Int × Int)} {m : Nat} (hG : GOk (xG L m)) {t : List Int} (ht : (xG L m).St t) {d : Nat} {q : List Int} (hq : (xG L m).St q) (hd : gfar (xG L m) q t = d) {j : Nat} (hj : j < d) :
    ∃ i, i < L.length ∧ (decL (ggoL (xG L m) t d q))[j]? = some (i : Int) ∧ ((ggoL (xG L m) t d q).map fun k => xAt L k.toNat)[j]? = some (xAt L (i + 1)) := by
  have hjl : j < (ggoL (xG L m) t d q).length := by rw [ggoL_length]; exact hj
  obtain ⟨k, hk, hx⟩ := ggoX_ks hG ht d q hq hd _ (List.getElem_mem hjl)
  have hk1 := mem_xks.1 hk
  obtain ⟨i, rfl⟩ : ∃ i, k = i + 1 := ⟨k - 1, by omega⟩
  have e : (ggoL (xG L m) t d q)[j]? = some (((i + 1 : Nat) : Int)) := by rw [List.getElem?_eq_getElem hjl, hx]
  refine ⟨i, by omega, ?_, ?_⟩
  · rw [decL_get e]; congr 1; omega
  · rw [List.getElem?_map, e, Option.map_some, Int.toNat_natCast]

end Go.Pan

namespace Go.Proofs.Ytajdlioojibmdaa
open Go Go.RowKit Go.Pan

theorem bkFew_any (v : Value) (xs : List Int) (w : World) (hv : OwnI w v xs) (hn : xs.length ≤ 1048576) :
    Calls Try.prog 49 #[v] w fun e w' => e = .returned (.bool (sfewB xs)) ∧ Below w.heap.size w w' := by
  obtain ⟨a0, c0, rfl, _, _, _⟩ := hv.shape
  have c := stGood_any _ xs w hv hn
  cases hg : goodB xs with
  | true =>
    rw [hg] at c
    have HG := Lib.hid hg
    have h9 : xs.length ≤ 9 := (goodB_iff.1 hg).le9
    have h0 : 1 ≤ xs.length := (goodB_iff.1 hg).1
    have HR := Lib.hid (show sfewB xs = decide ((xs.length : Int) ≤ 6) by
      unfold sfewB inB
      rw [hg, Bool.true_and, decide_eq_true (show (1 : Int) ≤ (xs.length : Int) by omega), Bool.true_and])
    clear hg
    go_enter Try.func49, Try.ntmps49
    go_wp2_with fail
    refine (c).mono ?_
    rintro e w1 ⟨rfl, hb⟩
    go_wp2
    go_ret
    exact ⟨by rw [HR.out]; rfl, hb⟩
  | false =>
    rw [hg] at c
    have HR := Lib.hid (show sfewB xs = false by unfold sfewB; rw [hg, Bool.false_and])
    clear hg
    go_enter Try.func49, Try.ntmps49
    go_wp2_with fail
    refine (c).mono ?_
    rintro e w1 ⟨rfl, hb⟩
    go_wp2
    go_ret
    exact ⟨by rw [HR.out]; rfl, hb⟩

set_option maxHeartbeats 4000000 in
set_option maxRecDepth 100000 in
theorem sLeastExchanges_any (v : Value) (xs : List Int) (w : World) (hv : OwnI w v xs) (hn : xs.length ≤ 1048576) :
    Calls Try.prog 27 #[v] w fun e w' => ∃ r, e = .returned (.tuple #[r, .bool (sfewB xs)]) ∧ OwnC c4 w' r (mLeastExchanges xs) ∧ From w.heap.size r ∧ Below w.heap.size w w' := by
  obtain ⟨ad, cap, rfl, _, _, _⟩ := hv.shape
  have c := bkFew_any _ xs w hv hn
  cases hg : sfewB xs with
  | true =>
    obtain ⟨hst, h1, h6⟩ := sfewB_iff.1 hg
    rw [hg] at c
    have HM := Lib.hid (show mLeastExchanges xs = (ggoL (xG (exAll xs.length) xs.length) (ramp 1 xs.length) (xfar exAll xs) xs).map fun k => xAt (exAll xs.length) k.toNat from if_pos hg)
    have HX := Lib.hid (exAll_ok h1 h6)
    have HGM := Lib.hid (xG_ok HX.out h1 h6)
    have HT := Lib.hid (show (xG (exAll xs.length) xs.length).St (ramp 1 xs.length) from St.ramp xs.length h1 (by omega))
    have hd5 := xfar_le (L := exAll) (fun _ a b => exAll_ok a b) hg
    obtain ⟨d, hd⟩ : ∃ d, xfar exAll xs = d := ⟨_, rfl⟩
    have HD := Lib.hid (show gfar (xG (exAll xs.length) xs.length) xs (ramp 1 xs.length) = d from hd)
    rw [hd] at HM hd5
    have cl := fun u hu => bkList_any true xs.length d (.slice ad xs.length cap) xs u hu h1 h6 (Lib.hid nextOk_ex) (Lib.hid hst) HD
    have HPK := Lib.hid (fun j (hj : j < d) => pick_at HGM.out HT.out (show (xG (exAll xs.length) xs.length).St xs from hst) HD.out hj)
    have HPL := Lib.hid (show (decL (ggoL (xG (exAll xs.length) xs.length) (ramp 1 xs.length) d xs)).length = d by rw [decL_length, ggoL_length])
    have HSLL := Lib.hid (show ((ggoL (xG (exAll xs.length) xs.length) (ramp 1 xs.length) d xs).map fun k => xAt (exAll xs.length) k.toNat).length = d by rw [List.length_map, ggoL_length])
    obtain ⟨P, hP⟩ : ∃ P, decL (ggoL (xG (exAll xs.length) xs.length) (ramp 1 xs.length) d xs) = P := ⟨_, rfl⟩
    obtain ⟨SL, hSL⟩ : ∃ SL, ((ggoL (xG (exAll xs.length) xs.length) (ramp 1 xs.length) d xs).map fun k => xAt (exAll xs.length) k.toNat) = SL := ⟨_, rfl⟩
    rw [hSL] at HM HPK HSLL
    have cl : ∀ u, OwnI u (.slice ad xs.length cap) xs → Calls Try.prog 52 #[.slice ad xs.length cap, .bool true] u fun e w' => ∃ r, e = .returned r ∧ OwnI w' r P ∧ From u.heap.size r ∧ Below u.heap.size u w' := by
      rw [← hP]; exact cl
    rw [hP] at HPK HPL
    obtain ⟨i0, hi, hz0, hz1, hz2⟩ := info_parts infoExchange3
    have HI := Lib.hid hi
    have HZ0 := Lib.hid hz0
    have HZ1 := Lib.hid hz1
    have hL1 := HX.out.le
    have cE := fun u => bkExchanges_any xs.length u h1 (by omega)
    have HG := Lib.hid hg
    clear hi hz0 hz1 hz2 hg hd hP hSL hst
    go_enter Try.func27, Try.ntmps27
    go_wp2_with fail
    refine (c).mono ?_
    rintro e w0 ⟨rfl, hb0⟩
    clear c
    go_wp2_with fail
    refine (cl _ (hv.same hb0)).mono ?_
    rintro e w1 ⟨r1, rfl, ho1, hf1, hb1⟩
    clear cl
    have hB1 := hb0.trans (hb1.mono hb0.size)
    have HB1 := Lib.hid hB1
    have hz1 := hB1.size
    obtain ⟨a1, c1, rfl, hcN, _, _⟩ := ho1.shape
    have hO1 : Own w1 1 (.slice a1 P.length c1) P.length (P.map iv) := ho1
    rw [HPL.out] at hO1 hcN ⊢
    have HO1 := Lib.hid hO1
    clear ho1 hf1 hb0 hb1 hB1 hO1
    go_wp2
    go_loopw [4, 6, 13] (fun ov _ iv' wr => ∃ j : Nat, j ≤ d ∧ iv' = .int .i64 j ∧ OwnC c4 wr ov (SL.take j) ∧ From w1.heap.size ov ∧ Below w1.heap.size w1 wr) (fun _ _ iv' _ => d - (intOf iv').toNat)
    case atStart => exact ⟨0, Nat.zero_le _, rfl, OwnC.nil _, From.nil _ _ _, Below.refl _ _⟩
    case round =>
      obtain ⟨j, hj, rfl, ho, hf, hbr⟩ := hrel
      obtain ⟨wr, rfl⟩ : ∃ z, z = wr := ⟨_, rfl⟩
      by_cases hlt : j < d
      · have hlt' : (j : Int) < (d : Int) := by omega
        have hor := Own.same HO1.out hbr
        obtain ⟨g1, o1, rfl, hg1, hc1, _⟩ := Own.at hor (by omega)
        have h1r := hc1 j (by omega)
        obtain ⟨i, hil, hPj, hSj⟩ := HPK.out j hlt
        rw [List.getElem?_map, hPj, Option.map_some] at h1r
        have hi1 : (i : Int) < ((exAll xs.length).length : Int) := by omega
        have hxe : xAt (exAll xs.length) (i + 1) = (exAll xs.length)[i] := xAt_get hil
        have HTK := Lib.hid (show SL.take (j + 1) = SL.take j ++ [xAt (exAll xs.length) (i + 1)] by
          rw [List.take_add_one, hSj]; rfl)
        obtain ⟨p, hp⟩ : ∃ p, xAt (exAll xs.length) (i + 1) = p := ⟨_, rfl⟩
        have HPE := Lib.hid (show (exAll xs.length)[i] = p by rw [← hxe]; exact hp)
        rw [hp] at HTK
        have hzr := hbr.size
        clear hor hc1 hPj hSj hxe hp
        go_wp2_with fail
        refine (cE wr).mono ?_
        rintro e3 w3 ⟨r3, rfl, ho3, hf3, hb3⟩
        obtain ⟨a3, c3, rfl, _, _, _⟩ := ho3.shape
        obtain ⟨b, off, rfl, hbl, hra⟩ := OwnC.rowAt ho3 hil
        rw [HPE.out] at hra
        have hra' : w3.rangeAt b (off + i * 4) [.int .i64 p.1, .int .i64 p.2.1, .int .i64 p.2.2.1, .int .i64 p.2.2.2] := hra
        have hszs : (Try.prog.info? 58).map (·.size) = some ([.int .i64 p.1, .int .i64 p.2.1, .int .i64 p.2.2.1, .int .i64 p.2.2.2] : List Value).length := infoExchange
        have hsrc := Src.quad (p := p) (Blk.new w3 58 [iv p.1, iv p.2.1, iv p.2.2.1, iv p.2.2.2] _ rfl)
        have ho3' : OwnC c4 w3 u4 (SL.take j) := Own.same ho hb3
        have hoa : OwnC c4 (w3.alloc (.cells #[.int .i64 p.1, .int .i64 p.2.1, .int .i64 p.2.2.1, .int .i64 p.2.2.2] 58)) u4 (SL.take j) := Own.alloc ho3' _
        have hB3 := hbr.trans (hb3.mono hzr)
        have hbn := hB3.alloc hB3.size (.cells #[.int .i64 p.1, .int .i64 p.2.1, .int .i64 p.2.2.1, .int .i64 p.2.2.2] 58)
        have hz8a : w1.heap.size ≤ (w3.alloc (.cells #[.int .i64 p.1, .int .i64 p.2.1, .int .i64 p.2.2.1, .int .i64 p.2.2.2] 58)).heap.size := hbn.size
        have HF := Lib.hid hf
        have hl1 : (SL.take j).length ≤ 1048576 := by rw [List.length_take]; omega
        clear ho ho3 hf3 hb3 hra ho3' hB3 hf
        go_wp2_with (first | (refine wpList_load_mid rfl 58 _ rfl b (off + i * 4) rfl [.int .i64 p.1, .int .i64 p.2.1, .int .i64 p.2.2.1, .int .i64 p.2.2.2] _ hra' Try.underlying58 rfl hszs ?_) | (refine wpList_build_quad Try.underlying37 HI.out HZ0.out rfl HZ1.out rfl _ rfl (.int .i64 p.1) (.int .i64 p.2.1) (.int .i64 p.2.2.1) (.int .i64 p.2.2.2) rfl ?_) | (at_builtin; refine wpList_appC exSl (by omega) (by omega) rfl _ _ rfl u4 (SL.take j) rfl hoa w1.heap.size HF.out (some ⟨w3.heap.size, 0, none⟩) 1 1 [p] rfl rfl hsrc w1 hbn hz8a hl1 (by simp) ?_; intro v9 w9 ho9 hf9 hb9 hg9))
        have HO9 := Lib.hid (show OwnC c4 w9 v9 (SL.take (j + 1)) by rw [HTK.out]; exact ho9)
        clear ho9 hg9 hsrc hoa hbn
        go_wp2
        go_roundw
        case rel => exact ⟨j + 1, by omega, by go_num, HO9.out, hf9, hb9⟩
        case measure => simp [intOf] <;> omega
      · obtain rfl : j = d := by omega
        have HO := Lib.hid (show OwnC c4 wr u4 (mLeastExchanges xs) by
          rw [HM.out, ← List.take_length (l := SL), HSLL.out]
          exact ho)
        have hge : (j : Int) ≤ (j : Int) := Int.le_refl _
        have HB := Lib.hid (HB1.out.trans (hbr.mono hz1))
        clear ho
        go_wp2
        go_ret2
        exact ⟨_, rfl, HO.out, hf.mono hz1, HB.out⟩
  | false =>
    have HM := Lib.hid (show mLeastExchanges xs = [] from if_neg (by rw [hg]; exact Bool.false_ne_true))
    rw [hg] at c
    clear hg
    go_enter Try.func27, Try.ntmps27
    go_wp2_with fail
    refine (c).mono ?_
    rintro e w0 ⟨rfl, hb0⟩
    go_wp2
    go_ret2
    exact ⟨_, rfl, by rw [HM.out]; exact OwnC.nil _, From.nil _ _ _, hb0⟩

end Go.Proofs.Ytajdlioojibmdaa
