import Derived.Test.YtfcbaegkppkfkaaRwX
import Derived.Test.YtfcbaegkppkfkaaRwB
import Derived.Test.YtfcbaegkppkfkaaPsS
import Derived.Deep.AppendLies
namespace Go.Pan
open Go Go.RowKit Go.Proofs.Ytfcbaegkppkfkaa
/-- a row in new memory at the end of the first -/
theorem S2.appU {w w2 w' : World} {B g cap n : Nat} {ty : TypeId} {u v u1 : Value} {x : List Int} {hR hP : List Value} {R P : List (List Int)} (h : S2 w B ty u hR R v hP P) (hB : B ≤ w.heap.size) (hn : R.length = n)
    (hb : Below w.heap.size w w2) (hu : OwnI w2 u1 x) (hi : In w.heap.size w2.heap.size u1)
    (hown : w'.ownsRow B ty 1 (.slice (some ⟨g, 0, none⟩) (n + 1) cap) (n + 1) (hR ++ [u1])) (hgr : w2.grownBy w' u.ownBlock) (hat : u.ownBlock = some g ∨ g = w2.heap.size) (hlt : g < w'.heap.size) :
    S2 w' B ty (.slice (some ⟨g, 0, none⟩) (n + 1) cap) (hR ++ [u1]) (R ++ [x]) v hP P := by
  subst hn
  have hz := hb.size
  have hz2 := hgr.size
  have hk : ∀ k, k < w.heap.size → u.ownBlock ≠ some k → w'.heap[k]? = w.heap[k]? := fun k h1 h2 => (hgr.block k (by omega) (fun e => h2 e.symm)).trans (hb.block k h1)
  have hkP : ∀ k, Ft v hP k → w'.heap[k]? = w.heap[k]? := fun k hf => hk k (h.p.ft hf).2 (fun e => h.d k (.inl e) hf)
  have hrl := h.r.len
  refine ⟨?_, (h.p.keptF hkP).mono (Nat.le_refl _) (by omega), by rw [List.length_append]; exact hown, ownsRow_keptF h.po fun k hk2 => hkP k (.inl hk2), fun k h1 h2 => ?_⟩
  · have := SS.app (cap := cap) (h.r.below hb (Nat.le_refl _)) hz hu hi (by rw [hrl]; exact hown) hgr hat hlt hB
    rw [hrl] at this
    exact this
  · have hkN := (h.p.ft h2).2
    rcases h1 with h1 | ⟨i, a, hi2, ha⟩
    · have e : g = k := by simpa [Value.ownBlock] using h1
      subst e
      rcases hat with h3 | h3
      · exact h.d g (.inl h3) h2
      · omega
    · rcases Nat.lt_or_ge i hR.length with hl | hl
      · rw [List.getElem?_append_left hl] at hi2
        exact h.d k (.inr ⟨i, a, hi2, ha⟩) h2
      · rw [List.getElem?_append_right hl] at hi2
        have : i - hR.length < 1 := by have := (List.getElem?_eq_some_iff.1 hi2).1; simpa using this
        rw [show i - hR.length = 0 by omega] at hi2
        simp at hi2
        subst hi2
        have := (hi k ha).1
        omega

end Go.Pan
namespace Go.Proofs.Ytfcbaegkppkfkaa
open Go Go.RowKit Go.Pan

set_option maxHeartbeats 8000000 in
set_option maxRecDepth 100000 in
theorem intoRows_any (v vp : Value) (hR hP : List Value) (R P : List (List Int)) (x : Int) (w : World) (B : Nat) (h : S2 w B 22 v hR R vp hP P) (hB : B ≤ w.heap.size) (h9 : R.length ≤ 9) (hr : ∀ r ∈ R, 0 < r.length ∧ r.length ≤ 9) (hx : Hx R x) :
    Calls Try.prog 52 #[v, .int .i64 x] w fun e w' => ∃ v' hR', e = .returned (.tuple #[v', .int .i64 (insR R x).2]) ∧ S2 w' B 22 v' hR' (insR R x).1 vp hP P ∧ Below B w w' := by
  obtain ⟨ad, cap, rfl, hc, hcm, _⟩ := (Own.of_row h.ro).1.shape
  obtain ⟨i0, hi, hz0, hz1, hz2⟩ := info_parts Try.info22
  have HI := Lib.hid hi
  have HZ0 := Lib.hid hz0
  have HZ1 := Lib.hid hz1
  have HZ2 := Lib.hid hz2
  obtain ⟨M, hM⟩ : ∃ M, R.length = M := ⟨_, rfl⟩
  have HM := Lib.hid hM
  have HBW := Lib.hid hB
  rw [hM] at hc h9 h ⊢
  have HS1 := Lib.hid (show S2 w B 22 (.slice ad M cap) hR ([] ++ R) vp hP P from h)
  have HRR := Lib.hid (show ∀ r ∈ ([] ++ R), 0 < r.length ∧ r.length ≤ 9 from hr)
  have HHX := Lib.hid hx
  clear hi hz0 hz1 hz2 h hr hx hM hB
  go_enter Try.func52, Try.ntmps52
  go_wp2
  go_loopw [1, 6, 9] (fun xv _ kv wi => ∃ (q : Nat) (hR : List Value) (D R' : List (List Int)) (x' : Int), q ≤ M ∧ kv = .int .i64 q ∧ xv = .int .i64 x' ∧ Hid (D.length = q) ∧ Hid (S2 wi B 22 (.slice ad M cap) hR (D ++ R') vp hP P) ∧ Hid (D ++ (insR R' x').1 = (insR R x).1 ∧ q + (insR R' x').2 = (insR R x).2 ∧ q + R'.length = M) ∧ Hid (∀ r ∈ D ++ R', 0 < r.length ∧ r.length ≤ 9) ∧ Hid (Hx R' x') ∧ Below B w wi) (fun _ _ kv _ => M - (intOf kv).toNat)
  case atStart => exact ⟨0, hR, [], R, x, Nat.zero_le _, rfl, rfl, Lib.hid rfl, HS1, Lib.hid ⟨rfl, by omega, by have := HM.out; omega⟩, HRR, HHX, Below.refl _ _⟩
  case round =>
    clear HS1 HRR HHX
    obtain ⟨q, hR, D, R', x', hq, rfl, rfl, hD, hS, HE, HRR, HHX, hbr⟩ := hrel
    have hDR : (D ++ R').length = M := by rw [List.length_append, hD.out]; exact HE.out.2.2
    have hro := hS.out.ro
    rw [hDR] at hro
    have HRO := Lib.hid hro
    have HDR := Lib.hid hDR
    clear hro hDR
    obtain ⟨wk, rfl⟩ : ∃ z, z = wr := ⟨_, rfl⟩
    have hBk := hbr.size
    by_cases hqM : q < M
    · have hqM' : (q : Int) < (M : Int) := by omega
      obtain ⟨r, R'', rfl⟩ : ∃ r R'', R' = r :: R'' := by
        cases R' with
        | nil => have := HE.out.2.2; simp at this; omega
        | cons r R'' => exact ⟨r, R'', rfl⟩
      have hqr : (D ++ r :: R'')[q]? = some r := by rw [List.getElem?_append_right (by rw [hD.out]; omega), hD.out, Nat.sub_self]; rfl
      obtain ⟨g, hg0, cs, hcs⟩ := owns_zero HRO.out (by omega)
      subst hg0
      obtain ⟨u, hu⟩ : ∃ u, hR[q]? = some u := ⟨_, List.getElem?_eq_getElem (by have := HRO.out.1; omega)⟩
      have hcg : wk.cell? ⟨g, q, none⟩ = some u := by rw [owns_cell HRO.out hqM]; exact hu
      have hOu := (hS.out.r.row q u r hu hqr).1
      have hr0 := HRR.out r (by simp)
      obtain ⟨ua, uc, rfl, huc, hucm, _⟩ := hOu.shape
      obtain ⟨gu, ou, rfl, hgu, _, _⟩ := Own.at hOu (by omega)
      have HQR := Lib.hid hqr
      have HU := Lib.hid hu
      have HCS := Lib.hid hcs
      have HOU := Lib.hid hOu
      have hug : (Value.slice (some ⟨gu, ou, none⟩) r.length uc).ownBlock ≠ some g := (hS.out.r.row q _ r hu hqr).2.2 g rfl
      have hBW : B ≤ wk.heap.size := Nat.le_trans HBW.out hBk
      have HSN := Lib.hid (fun (w2 : World) (u1 : Value) (r1 : List Int) (hgr : wk.grownBy w2 (Value.slice (some ⟨gu, ou, none⟩) r.length uc).ownBlock) (ho : OwnI w2 u1 r1) (hat : ∀ b, u1.ownBlock = some b → (Value.slice (some ⟨gu, ou, none⟩) r.length uc).ownBlock = some b ∨ wk.heap.size ≤ b) => S2.push hS.out hBW HDR.out hcs hu hgr ho hat)
      have HBG := Lib.hid (show B ≤ g from (hS.out.r.inn g rfl).1)
      have HBU := Lib.hid (show B ≤ gu from (hS.out.r.ft (.inr ⟨q, _, hu, rfl⟩)).1)
      obtain ⟨hup, hnx, _, _⟩ := HHX.out.row
      have HUP := Lib.hid hup
      have HNX := Lib.hid hnx
      clear hqr hu hcs hOu hup hnx
      by_cases ht : x' < topP r
      · have hkr := hitP_in hr0.1 ht
        have HKR := Lib.hid hkr
        have HT := Lib.hid ht
        obtain ⟨k, hk⟩ : ∃ k, hitP r x' = k := ⟨_, rfl⟩
        have HK := Lib.hid hk
        rw [hk] at hkr
        obtain ⟨y, hy⟩ : ∃ y, r[k] = y := ⟨_, rfl⟩
        have HY := Lib.hid hy
        have hHX2 := HHX.out.step hkr
        rw [hy] at hHX2
        have hyp := hHX2.p
        have hy0 : (y == 0) = false := by rw [beq_eq_false_iff_ne]; omega
        have HHX2 := Lib.hid hHX2
        have HC := Lib.hid (taking_pan (.slice (some ⟨gu, ou, none⟩) r.length uc) r x' wk HOU.out hr0.1 hr0.2 ht k (decide (r[hitP r x']? = some x')) hkr (fun W hW => by
          have := bsRow_any gu ou uc r x' W hW hr0.1 hr0.2 HUP.out
          rw [hk] at this ⊢
          exact this))
        clear ht hk hy hHX2 hyp
        go_wp2_with fail
        refine HC.out.mono ?_
        rintro e w2 ⟨rfl, ho2, hgr2⟩
        rw [HY.out]
        have hbg2 : Blk w2 g 22 cs := HCS.out.grown hgr2 hug
        have hcg2 := hcell_setP hbg2 (owns_len HRO.out HCS.out hqM)
        have hfg2 : ∀ j, w2.frozen? ⟨g, j, none⟩ = false := fun j => frozen_of_row w2 g _ _ _ hbg2
        have hsn := HSN.out w2 (.slice (some ⟨gu, ou, none⟩) r.length uc) (r.set k x') hgr2 ho2 (fun b hb => .inl hb)
        have hset : (D ++ r :: R'').set q (r.set k x') = (D ++ [r.set k x']) ++ R'' := by rw [List.set_append_right _ _ (by rw [hD.out]; omega), hD.out, Nat.sub_self, List.set_cons_zero, List.append_assoc]; rfl
        rw [hset] at hsn
        have HS2 := Lib.hid hsn
        have hst := insR_step (D := D) (R := R'') (r := r) (x := x') HKR.out
        rw [HK.out, show r.getD k 0 = y by rw [List.getD_eq_getElem?_getD, List.getElem?_eq_getElem hkr, HY.out]; rfl, hD.out, Prod.mk.injEq, List.length_append, hD.out, List.length_singleton] at hst
        have HST := Lib.hid hst
        have hB2 := (hbr.grown hgr2 hBW (fun b hb => by cases hb; exact HBU.out)).setCell (p := ⟨g, q, none⟩) HBG.out (.slice (some ⟨gu, ou, none⟩) r.length uc)
        clear hsn hset hst ho2 hgr2 hbg2 hcg HC
        go_wp2
        go_roundw
        case rel => exact ⟨q + 1, _, D ++ [r.set k x'], R'', y, by omega, by go_num, rfl, Lib.hid (by rw [List.length_append, hD.out]; rfl), HS2, Lib.hid ⟨by rw [← HST.out.1]; exact HE.out.1, by rw [← HST.out.2]; exact HE.out.2.1, by have := HE.out.2.2; simp at this; omega⟩, Lib.hid (fun t ht => by
          rw [List.append_assoc] at ht
          rcases List.mem_append.1 ht with ht | ht
          · exact HRR.out t (List.mem_append_left _ ht)
          · rcases List.mem_cons.1 ht with rfl | ht
            · have := HRR.out r (by simp); simpa using this
            · exact HRR.out t (by simp only [List.mem_append, List.mem_cons]; exact .inr (.inr ht))), HHX2, hB2⟩
        case measure => simp [intOf] <;> omega
      · have HH := Lib.hid (hitP_out HUP.out HNX.out (fun _ => ht))
        have HC := Lib.hid (taking_ok (.slice (some ⟨gu, ou, none⟩) r.length uc) r x' wk HOU.out hr0.2 (fun _ => ht))
        clear ht
        go_wp2_with fail
        refine HC.out.mono ?_
        rintro e w2 ⟨u1, rfl, ho2, hat2, hgr2⟩
        obtain ⟨a1, c1, rfl, _, _, _⟩ := ho2.shape
        have hbg2 : Blk w2 g 22 cs := HCS.out.grown hgr2 hug
        have hcg2 := hcell_setP hbg2 (owns_len HRO.out HCS.out hqM)
        have hfg2 : ∀ j, w2.frozen? ⟨g, j, none⟩ = false := fun j => frozen_of_row w2 g _ _ _ hbg2
        have hsn := HSN.out w2 _ (r ++ [x']) hgr2 ho2 hat2
        have hl2 : (r ++ [x']).length = r.length + 1 := by simp
        rw [hl2] at hsn
        have hset : (D ++ r :: R'').set q (r ++ [x']) = D ++ ((r ++ [x']) :: R'') := by rw [List.set_append_right _ _ (by rw [hD.out]; omega), hD.out, Nat.sub_self, List.set_cons_zero]
        rw [hset] at hsn
        have HS2 := Lib.hid hsn
        have hie := insR_end (R := R'') HH.out
        have hE1 := HE.out.1
        have hE2 := HE.out.2.1
        rw [hie] at hE1 hE2
        have HE1 := Lib.hid hE1
        have HE2 := Lib.hid hE2
        have hB2 := (hbr.grown hgr2 hBW (fun b hb => by cases hb; exact HBU.out)).setCell (p := ⟨g, q, none⟩) HBG.out (.slice a1 (r.length + 1) c1)
        have HB2 := Lib.hid hB2
        clear hl2 hsn hset hie hE1 hE2 ho2 hgr2 hbg2 hcg hat2 HC hB2
        go_wp2
        go_ret2
        exact ⟨_, _, by rw [← HE2.out]; rfl, by rw [← HE1.out]; exact HS2.out, HB2.out⟩
    · obtain rfl : q = M := by omega
      have hge : ¬ ((q : Int) < (q : Int)) := by omega
      obtain rfl : R' = [] := by have := HE.out.2.2; exact List.eq_nil_of_length_eq_zero (by omega)
      have hBW : B ≤ wk.heap.size := Nat.le_trans HBW.out hBk
      rw [List.append_nil] at hS
      have HDM := Lib.hid (show D.length = q from hD.out)
      have HO2 := Lib.hid ((HRO.out.alloc (.cells #[iv x'] 3)).alloc (.cells #[.slice (some ⟨wk.heap.size, 0, none⟩) 1 1] 22))
      have HRW := Lib.hid (show OwnI ((wk.alloc (.cells #[iv x'] 3)).alloc (.cells #[.slice (some ⟨wk.heap.size, 0, none⟩) 1 1] 22)) (.slice (some ⟨wk.heap.size, 0, none⟩) 1 1) [x'] from (Own.of_row (owns_of_blkP (B := 0) (n := 1) (cap := 1) (hs := [iv x']) (Blk.new wk 3 [iv x'] _ rfl) (Nat.zero_le _) rfl (Nat.le_refl _) (by unfold maxLen; omega) rfl rfl)).1.alloc _)
      have HNW := Lib.hid (Blk.new (wk.alloc (.cells #[iv x'] 3)) 22 [.slice (some ⟨wk.heap.size, 0, none⟩) 1 1] (wk.heap.size + 1) (by simp))
      have HBD := Lib.hid (((Below.refl wk.heap.size wk).alloc (Nat.le_refl _) (.cells #[iv x'] 3)).alloc (by simp) (.cells #[.slice (some ⟨wk.heap.size, 0, none⟩) 1 1] 22))
      have HBR := Lib.hid hbr
      go_wp2_with (at_builtin; (refine wpList_append_lies _ rfl _ _ 23 rfl B 22 i0 _ 1 24 Try.underlying23 HI.out HZ0.out HZ1.out HZ2.out rfl (by omega) (.slice ad q cap) q hR rfl HO2.out _ 1 1 [.slice (some ⟨wk.heap.size, 0, none⟩) 1 1] rfl (by simp) (World.news_of_block HNW.out) (by simp [Value.oneCell']) (by omega) (by unfold maxLen; omega) (by omega) (by simp; omega) (wk.heap.size + 1 + 1) (by simp) ?_); intro g8 cap8 w8 hown8 hgr8 hat8 hlt8)
      have hs9 := S2.appU hS.out hBW HDM.out HBD.out HRW.out (fun g hg => by cases hg; exact ⟨Nat.le_refl _, by simp; omega⟩) hown8 hgr8 (by simpa using hat8) hlt8
      have hB9 := (((HBR.out.alloc hBW (.cells #[iv x'] 3)).alloc (by simp; omega) (.cells #[.slice (some ⟨wk.heap.size, 0, none⟩) 1 1] 22)).grown hgr8 (by simp; omega) (fun b hb => (hS.out.r.inn b hb).1))
      have HS9 := Lib.hid hs9
      have HB9 := Lib.hid hB9
      have hE1 := HE.out.1
      have hE2 := HE.out.2.1
      have HE1 := Lib.hid hE1
      have HE2 := Lib.hid hE2
      clear hs9 hB9 hE1 hE2 hown8 hgr8 hat8 hlt8
      go_wp2
      go_ret2
      exact ⟨_, by rw [← HE2.out]; rfl, ⟨_, by rw [← HE1.out]; exact HS9.out⟩, HB9.out⟩

end Go.Proofs.Ytfcbaegkppkfkaa
