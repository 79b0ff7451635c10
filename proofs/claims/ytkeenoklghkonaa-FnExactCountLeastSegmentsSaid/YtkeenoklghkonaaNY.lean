import Derived.Test.YtkeenoklghkonaaNT
import Derived.Test.YtkeenoklghkonaaV5
import Derived.Test.YtkeenoklghkonaaQ2
import Derived.Test.YtkeenoklghkonaaCm
import Derived.Conc.SmallLaws
namespace Go.Proofs.Ytkeenoklghkonaa
open Go Go.RowKit Go.Pan

set_option maxRecDepth 100000 in
theorem segTurns_any (ad : Option Addr) (m cap : Nat) (w : World) (hm : m ≤ 1000) :
    Calls Try.prog 218 #[.slice ad m cap] w fun e w' => ∃ r, e = .returned r ∧ OwnI w' r (ramp 1 m) ∧ From w.heap.size r ∧ Below w.heap.size w w' := by
  have c := turnsFrom_any 1 m w (by omega) (by omega) (by omega)
  rw [Nat.add_sub_cancel] at c
  have HC := Lib.hid c
  clear c
  go_enter Try.func218, Try.ntmps218
  go_wp2_with fail
  refine HC.out.mono ?_
  rintro e w1 ⟨r, rfl, ho, hf, hb⟩
  go_wp2
  go_ret
  exact ⟨_, rfl, ho, hf, hb⟩

set_option maxRecDepth 100000 in
set_option maxHeartbeats 800000 in
theorem segTurned_any (ad : Option Addr) (cap m : Nat) (xs : List Int) (k : Nat) (w : World) (h1 : 1 ≤ m) (h9 : m ≤ 9) (hx : xs.length = m) (hk : k ∈ (sG m).ks) (hv : OwnC c2 w (.slice ad (sgN m) cap) (segsAll m)) :
    Calls Try.prog 217 #[.slice ad (sgN m) cap, tw xs, .int .i64 k] w fun e w' => e = .returned (tw (segT xs (sgAt m k))) ∧ Below w.heap.size w w' := by
  have hkk := mem_sks.1 hk
  have hB := Lib.hid (sgAt_B h1 h9 hk)
  have hlt : k - 1 < (segsAll m).length := by show k - 1 < sgN m; omega
  have hva := hv.alloc (.cells (twl xs).toArray 94)
  obtain ⟨j, rfl⟩ : ∃ j, k = j + 1 := ⟨k - 1, by omega⟩
  obtain ⟨b, off, rfl, hbl, hra⟩ := OwnC.rowAt hva (show j < (segsAll m).length from hlt)
  have hp : sgAt m (j + 1) = (segsAll m)[j]'(show j < (segsAll m).length from hlt) := by
    unfold sgAt
    rw [Nat.add_sub_cancel, List.getD_eq_getElem?_getD, List.getElem?_eq_getElem (show j < (segsAll m).length from hlt)]
    rfl
  rw [← hp] at hra
  obtain ⟨p, hpp⟩ : ∃ p, sgAt m (j + 1) = p := ⟨_, rfl⟩
  rw [hpp] at hra hB ⊢
  have h15 : sgN m ≤ 81 := segsAll_le h9
  obtain ⟨L, hL⟩ : ∃ L, sgN m = L := ⟨_, rfl⟩
  rw [hL] at hkk h15 ⊢
  have hjl : (j : Int) < L := by omega
  have hX9 : xs.length ≤ 9 := by omega
  have hra' : (w.alloc (.cells (twl xs).toArray 94)).rangeAt b (off + j * 2) [.int .i64 p.1, .int .i64 p.2] := hra
  have hs1 : IntKind.i64.wrap (j : Int) = (j : Int) := IntWalk.i64_in _ (by omega)
  have HS1 := Lib.hid hs1
  obtain ⟨W, hW⟩ : ∃ W, W = (w.alloc (.cells (twl xs).toArray 94)).alloc (.cells (twl []).toArray 94) := ⟨_, rfl⟩
  have hbx : Blk W w.heap.size 94 (twl xs) := by rw [hW]; exact (Blk.new w _ (twl xs) _ rfl).alloc _
  have hz : Blk W (w.heap.size + 1) 94 (twl []) := by rw [hW]; exact Blk.new _ _ (twl []) _ (by simp)
  have hb0 : Below w.heap.size w W := by rw [hW]; exact ((Below.refl _ _).alloc (Nat.le_refl _) _).alloc (by simp) _
  have hrb : W.rangeAt b (off + j * 2) [.int .i64 p.1, .int .i64 p.2] := by
    rw [hW]
    exact range_below hra' (below_new _ _) hbl
  have hut := Try.underlying94
  have hut2 := Try.underlying85
  have hsz : (Try.prog.info? 94).map (·.size) = some (twl xs).length := by rw [Try.infoT, twl_length _ hX9]
  have hsz2 : (Try.prog.info? 85).map (·.size) = some ([.int .i64 p.1, .int .i64 p.2] : List Value).length := infoSegment
  have h9t : (segT xs p).length ≤ 9 := by rw [segT_length hB.out]; exact hX9
  have HT9 := Lib.hid (twl_length (segT xs p) h9t)
  have HXM := Lib.hid (show (xs.length : Int) = (m : Int) by rw [hx])
  have hWs : w.heap.size + 1 < W.heap.size := hz.lt
  have HBL := Lib.hid (show b < w.heap.size + 1 by rw [World.size_alloc] at hbl; exact hbl)
  have hbW : b < W.heap.size := by rw [hW, World.size_alloc]; omega
  have HW := Lib.hid (show W = (w.alloc (.cells (twl xs).toArray 94)).alloc (.cells #[.int .i64 0, .int .i64 0, .int .i64 0, .int .i64 0, .int .i64 0, .int .i64 0, .int .i64 0, .int .i64 0, .int .i64 0] 94) by rw [hW]; rfl)
  rw [show (((j + 1 : Nat)) : Int) = (j : Int) + 1 by omega]
  clear hva hv hk hlt hp hpp hL hra hra' hs1 hW
  go_enter Try.func217, Try.ntmps217
  go_wp2_with fail
  rw [← HW.out]
  refine wp_region_held_drew (S := (fun w' => w'.rangeAt w.heap.size 0 (twl xs) ∧ w'.rangeAt b (off + j * 2) [.int .i64 p.1, .int .i64 p.2] ∧ (∃ ys : List Int, ys.length ≤ 9 ∧ Blk w' (w.heap.size + 1) 94 (twl ys)) ∧ Below w.heap.size w w' ∧ W.heap.size ≤ w'.heap.size)) (by kernel_rfl) (⟨hbx.range, hrb, ⟨[], by simp, hz.drew⟩, hb0.drew, Nat.le_refl _⟩) (fun hHeld => ?_)
  refine wpAnyH_take (i := 0) rfl (by kernel_rfl) (by kernel_rfl) (by kernel_rfl) (fun _ _ _ h => h) (yieldsIf_load_mid (by rfl) _ _ rfl _ _ rfl _ _ (fun w hw => hw.1) hut rfl hsz) (by assumption) ?_
  try simp only [List.getElem_toArray, List.getElem_cons_zero, Act.put, List.setIfInBounds_toArray, List.set_cons_zero, List.set_cons_succ]
  refine wpAnyH_take (i := 1) (v := ?_) rfl (by kernel_rfl) (by kernel_rfl) (by kernel_rfl) (fun _ _ _ h => h) (Or.inl ⟨by rfl, ?_⟩) (by assumption) ?_
  rotate_left
  · intro w _; go_simp; with_reducible rfl
  try simp only [List.getElem_toArray, List.getElem_cons_zero, List.getElem_cons_succ, Act.put, List.setIfInBounds_toArray, List.set_cons_zero, List.set_cons_succ]
  refine wpAnyH_take (i := 2) (v := ?_) rfl (by kernel_rfl) (by kernel_rfl) (by kernel_rfl) (fun _ _ _ h => h) (Or.inl ⟨by rfl, ?_⟩) (by assumption) ?_
  rotate_left
  · intro w _; go_simp; with_reducible rfl
  try simp only [List.getElem_toArray, List.getElem_cons_zero, List.getElem_cons_succ, Act.put, List.setIfInBounds_toArray, List.set_cons_zero, List.set_cons_succ]
  refine wpAnyH_take (i := 3) (v := ?_) rfl (by kernel_rfl) (by kernel_rfl) (by kernel_rfl) (fun _ _ _ h => h) (Or.inl ⟨by rfl, ?_⟩) (by assumption) ?_
  rotate_left
  · intro w _; go_simp; with_reducible rfl
  try simp only [List.getElem_toArray, List.getElem_cons_zero, List.getElem_cons_succ, Act.put, List.setIfInBounds_toArray, List.set_cons_zero, List.set_cons_succ]
  rw [HS1.out]
  refine wpAnyH_take (i := 4) (v := ?_) rfl (by kernel_rfl) (by kernel_rfl) (by kernel_rfl) (fun _ _ _ h => h) (Or.inl ⟨by rfl, ?_⟩) (by assumption) ?_
  rotate_left
  · intro w _; go_simp; with_reducible rfl
  try simp only [List.getElem_toArray, List.getElem_cons_zero, List.getElem_cons_succ, Act.put, List.setIfInBounds_toArray, List.set_cons_zero, List.set_cons_succ]
  refine wpAnyH_take (i := 5) rfl (by kernel_rfl) (by kernel_rfl) (by kernel_rfl) (fun _ _ _ h => h) (yieldsIf_load_mid (by rfl) _ _ rfl _ _ rfl _ _ (fun w hw => hw.2.1) hut2 rfl hsz2) (by assumption) ?_
  try simp only [List.getElem_toArray, List.getElem_cons_zero, List.getElem_cons_succ, Act.put, List.setIfInBounds_toArray, List.set_cons_zero, List.set_cons_succ]
  refine wpAnyH_ready (rs := [6]) (by kernel_rfl) (by simp) ?_
  refine AllReadyH.cons rfl (fun K hK => ?_) AllReadyH.nil
  go_simp
  refine (segmentTurned_any xs m p _ hX9 hB HXM).mono ?_
  rintro e w5 ⟨rfl, hb5⟩
  go_wp2_with fail
  refine hK.out _ _ (⟨range_below hHeld.1 hb5 (by have := hHeld.2.2.2.2; omega), range_below hHeld.2.1 hb5 (by have := hHeld.2.2.2.2; omega), hHeld.2.2.1.imp (fun ys h => ⟨h.1, h.2.below hb5 h.2.lt⟩), hHeld.2.2.2.1.trans (hb5.mono hHeld.2.2.2.1.size), Nat.le_trans hHeld.2.2.2.2 hb5.size⟩) (fun hHeld => ?_)
  clear hK K
  try simp only [List.getElem_toArray, List.getElem_cons_zero, List.getElem_cons_succ, Act.put, List.setIfInBounds_toArray, List.set_cons_zero, List.set_cons_succ]
  refine wpAnyH_ready (rs := [7]) (by kernel_rfl) (by simp) ?_
  refine AllReadyH.cons rfl (fun K hK => ?_) AllReadyH.nil
  refine step_of_list rfl fun Q' hQ' => ?_
  obtain ⟨ys, hys, hby⟩ := hHeld.2.2.1
  refine wpList_store_tower rfl _ _ rfl (w.heap.size + 1) ys (segT xs p) hys h9t rfl rfl hby ?_
  intro w6 hbl6 hgr6
  refine hQ' _ _ ?_
  have hB6 := hHeld.2.2.2.1.grown hgr6 hHeld.2.2.2.1.size (by intro k hk; cases hk; omega)
  refine hK.out _ _ ⟨range_grownX hHeld.1 hgr6 (by have := hHeld.2.2.2.2; omega) (by simp), range_grownX hHeld.2.1 hgr6 (by have := hHeld.2.2.2.2; omega) (by have := HBL.out; simp; omega), ⟨_, h9t, hbl6⟩, hB6, Nat.le_trans hHeld.2.2.2.2 hgr6.size⟩ (fun hHeld => ?_)
  clear hK K hQ' Q'
  try simp only [List.getElem_toArray, List.getElem_cons_zero, List.getElem_cons_succ, Act.put, List.setIfInBounds_toArray, List.set_cons_zero, List.set_cons_succ]
  refine wpAnyH_done (by kernel_rfl) ?_ _
  go_wp2
  exact bodyPost_ret (results_tower rfl _ _ (w.heap.size + 1) (segT xs p) h9t rfl hbl6) rfl ⟨rfl, hB6⟩

theorem seg_mT (ad : Option Addr) (n cap : Nat) (u : World) : Sem.run Try.prog (method 306 87 (.slice ad n cap) "loop.example/g01221/impl.turns") u = .ok (218, .slice ad n cap) u := by kernel_rfl
theorem seg_mD (ad : Option Addr) (n cap : Nat) (u : World) : Sem.run Try.prog (method 306 87 (.slice ad n cap) "loop.example/g01221/impl.turned") u = .ok (217, .slice ad n cap) u := by kernel_rfl

theorem seg_GP {m : Nat} (h1 : 1 ≤ m) (h6 : m ≤ 6) (ad : Option Addr) (cap : Nat) : GPR (sG m) 87 (.slice ad (sgN m) cap) 218 217 (fun u => OwnC c2 u (.slice ad (sgN m) cap) (segsAll m)) where
  rb := fun u u' h hb => Own.same h hb
  mT := seg_mT ad _ cap
  mD := seg_mD ad _ cap
  cT := fun args u => by go_simp
  cD := fun args u => by go_simp
  turns := fun u _ => by
    rw [sks_ramp]
    exact segTurns_any ad (sgN m) cap u (by have := sgN_le h6; omega)
  turned := fun q k u hR hq hk => segTurned_any ad cap m q k u h1 (by omega) hq.2 hk hR

end Go.Proofs.Ytkeenoklghkonaa

namespace Go.Proofs.Ytkeenoklghkonaa
open Go Go.RowKit Go.Pan

theorem infoCh : (Try.prog.info? 91).map (fun i => (i.zero, i.size, i.bytes)) = some (some (.map none), 1, 8) := by kernel_rfl
theorem run_chan1 (w : World) : (Instr.makeChan 153 (.int .i64 1)).run Try.prog w = .ok (.chan (some w.heap.size)) (w.alloc (.chan 1 #[] false 0 0 false)) := by
  obtain ⟨i, hi, h0, h1, h2⟩ := info_parts infoCh
  exact Go.Conc.run_makeChan (w := w) Try.underlying153 hi .i64 1 (by omega) (by rw [h2]; omega)

theorem setChan_grown (w : World) (c cap : Nat) (buf : Array Value) (cl : Bool) (s r : Nat) (tm : Bool) : w.grownBy (w.setChan c cap buf cl s r tm) (some c) :=
  ⟨rfl, rfl, rfl, by simp [World.setChan], fun k _ hk => by
    have hne : c ≠ k := fun e => hk (by rw [e])
    simp [World.setChan, Array.getElem?_setIfInBounds, hne]⟩
theorem setChan_at (w : World) (c cap : Nat) (buf : Array Value) (cl : Bool) (s r : Nat) (tm : Bool) (h : c < w.heap.size) : (w.setChan c cap buf cl s r tm).heap[c]? = some (.chan cap buf cl s r tm) := by
  simp [World.setChan, Array.getElem?_setIfInBounds, h]

def nearN (n : Gm) (s : List Int) (a : Nat) : List LC := (List.range a).map fun i => gnearC n s i
theorem nearN_succ (n : Gm) (s : List Int) (a : Nat) : nearN n s (a + 1) = nearN n s a ++ [gnearC n s a] := by simp [nearN, List.range_succ]
theorem nearN_length (n : Gm) (s : List Int) (a : Nat) : (nearN n s a).length = a := by simp [nearN]

theorem Wv.wlen {n : Gm} {w : World} {B : Nat} {v : Value} {ms : List Nat} {cs : List LC} (h : Wv n w B v ms cs) : wlen v = ms.length := by
  rcases h.own.2 with ⟨hv, hm⟩ | ⟨g, cap, cur, rfl, _⟩
  · simp at hm; subst hm; rw [hv]; rfl
  · rfl

set_option maxRecDepth 100000 in
set_option maxHeartbeats 4000000 in
theorem segmentWave_any (m d : Nat) (t : List Int) (hasF : Nat → Bool) (w : World) (h1 : 1 ≤ m) (h6 : m ≤ 6) (ht : t.length ≤ 9)
    (hH : Hid (∀ a b u, Ly (sG m) u b (gnearC (sG m) (ramp 1 m) a) → Calls Try.prog 166 #[.map (some b), tw t] u fun e u' => e = .returned (.bool (hasF a)) ∧ Below u.heap.size u u'))
    (hd : Hid ((∀ a, a < d → hasF a = false) ∧ d ≤ gecc (sG m) (ramp 1 m) ∧ (hasF d = true ∨ d = gecc (sG m) (ramp 1 m)))) :
    Calls Try.prog 141 #[.int .i64 m, tw t] w fun e w' => ∃ g cap ms, e = .returned (.slice (some ⟨g, 0, none⟩) (d + 1) cap) ∧ Wv (sG m) w' w.heap.size (.slice (some ⟨g, 0, none⟩) (d + 1) cap) ms (gnearL (sG m) (ramp 1 m) d) ∧ Below w.heap.size w w' := by
  have hrc := run_chan1
  have hmm := @run_makeMap Try.prog
  have hn := Lib.hid (sG_ok h1 h6)
  have hs : (sG m).St (ramp 1 m) := St.ramp m h1 (by omega)
  have hkey := key_tw hn.out hs
  have HS := Lib.hid hs
  have hbx : Blk (w.alloc (.cells (twl t).toArray 94)) w.heap.size 94 (twl t) := Blk.new w _ (twl t) _ rfl
  have hb0 := below_new w (.cells (twl t).toArray 94)
  have HT := Lib.hid (twl_length t ht)
  go_enter Try.func141, Try.ntmps141
  go_wp2_with fail
  refine (segmentsFor_any m _ h1 (by omega)).mono ?_
  rintro e w1 ⟨r1, rfl, ho1, hf1, hb1⟩
  obtain ⟨a1, c1, rfl, _, _, _⟩ := ho1.shape
  rw [show (segsAll m).length = sgN m from rfl] at ho1 ⊢
  have hbx1 := hbx.below hb1 hbx.lt
  have hB1 := hb0.trans (hb1.mono hb0.size)
  have hlx := hbx1.lt
  clear hbx hb0 hb1 hf1
  go_upto_region 4 with fail
  obtain ⟨c, hc⟩ : ∃ c, w1.heap.size = c := ⟨_, rfl⟩
  have hch : ((w1.alloc (.chan 1 #[] false 0 0 false)).alloc (.map #[] 0)).heap[c]? = some (.chan 1 #[] false 0 0 false) := by
    rw [← hc]; exact (Below.heap_alloc _ _ _ (by simp)).trans (heap_alloc_new _ _)
  have hmk : ((w1.alloc (.chan 1 #[] false 0 0 false)).alloc (.map #[] 0)).ownsMap Try.prog 94 (plainElem (H := Unit) Try.prog 3) (c + 1) 0 (.map []) := by
    have := World.ownsMap_made (w1.alloc (.chan 1 #[] false 0 0 false)) Try.prog 94 (plainElem (H := Unit) Try.prog 3)
    rw [← hc]; simpa using this
  have hBc : Below c w1 ((w1.alloc (.chan 1 #[] false 0 0 false)).alloc (.map #[] 0)) := ((Below.refl c w1).alloc (by omega) _).alloc (by simp; omega) _
  have HL := Lib.hid (show Lay (sG m) ((DataW.map [] : DD).put (kl (ramp 1 m)) (.lit (.int .i64 1))) (gnearC (sG m) (ramp 1 m) 0) from by
    have h1 := (Lay.empty (sG m)).put hn.out Maps.isMap_empty hs 1 (by omega)
    exact (h1.congr (fun q _ => by unfold oneC; rfl)).congr (gnearC_zero hn.out hs))
  refine wp_at ?_
  show OpsAt _ _ _ [0, 1, 2, 3, 4, 5, 6] _ _
  rw [hc]
  refine OpsAt.value (v := .chan (some c)) rfl rfl (by go_simp; rfl) ?_
  try simp only [List.getElem_toArray, List.getElem_cons_zero, List.getElem_cons_succ, Act.put, List.setIfInBounds_toArray, List.set_cons_zero, List.set_cons_succ]
  refine OpsAt.value (v := .map (some (c + 1))) (w' := (w1.alloc (.chan 1 #[] false 0 0 false)).alloc (.map #[] 0)) rfl rfl (by go_simp) ?_
  try simp only [List.getElem_toArray, List.getElem_cons_zero, List.getElem_cons_succ, Act.put, List.setIfInBounds_toArray, List.set_cons_zero, List.set_cons_succ]
  refine OpsAt.value (v := .int .i64 m) rfl rfl (by go_simp; rfl) ?_
  try simp only [List.getElem_toArray, List.getElem_cons_zero, List.getElem_cons_succ, Act.put, List.setIfInBounds_toArray, List.set_cons_zero, List.set_cons_succ]
  refine OpsAt.call (f := 135) (args := #[.int .i64 m]) rfl rfl (by go_simp; rfl) ?_
  refine (sortedTower_any m _ (by omega)).mono ?_
  rintro e w2 ⟨rfl, hb2⟩
  refine ⟨_, rfl, ?_⟩
  try simp only [List.getElem_toArray, List.getElem_cons_zero, List.getElem_cons_succ, Act.put, List.setIfInBounds_toArray, List.set_cons_zero, List.set_cons_succ]
  have hmk2 := hmk.kept (grown_of_below hb2 none) (by simp)
  have hch2 : w2.heap[c]? = some (.chan 1 #[] false 0 0 false) := (hb2.block c (by simp; omega)).trans hch
  have hBc2 := hBc.trans (hb2.mono (by simp; omega))
  obtain ⟨w3, hrun, hown3, hgr3⟩ := hmk2.update keyd Try.underlying91 (by unfold maxLen; omega) hkey (plainElem_int (H := Unit) Try.underlying3 (show (Lit.int .i64 1).wf = true from rfl))
  clear hmk hch hBc hb2
  refine OpsAt.skip (w' := w3) rfl rfl (by simp [execOp, Act.eval, hrun, Result.andThen, Sem.run]) ?_
  try simp only [List.getElem_toArray, List.getElem_cons_zero, List.getElem_cons_succ, Act.put, List.setIfInBounds_toArray, List.set_cons_zero, List.set_cons_succ]
  have hlc2 : c < w2.heap.size := (Array.getElem?_eq_some_iff.1 hch2).1
  have hch3 : w3.heap[c]? = some (.chan 1 #[] false 0 0 false) := (hgr3.block c (Array.getElem?_eq_some_iff.1 hch2).1 (by simp)).trans hch2
  have hly3 := Ly.of hn.out hown3 HL.out
  have hBc3 := hBc2.grown hgr3 (by omega) (by intro k hk; cases hk; omega)
  have hlc3 : c < w3.heap.size := (Array.getElem?_eq_some_iff.1 hch3).1
  refine OpsAt.value (v := mv (c + 1)) rfl rfl (by go_simp; rfl) ?_
  try simp only [List.getElem_toArray, List.getElem_cons_zero, List.getElem_cons_succ, Act.put, List.setIfInBounds_toArray, List.set_cons_zero, List.set_cons_succ]
  refine OpsAt.send (c := c) (cap := 1) (s := 0) (r := 0) (buf := #[]) (z := .tuple #[]) (v := mv (c + 1)) rfl rfl (by go_simp; rfl) hch3 (by simp) ?_
  try simp only [List.getElem_toArray, List.getElem_cons_zero, List.getElem_cons_succ, Act.put, List.setIfInBounds_toArray, List.set_cons_zero, List.set_cons_succ]
  refine OpsAt.nil ?_
  try simp only [List.getElem_toArray, List.getElem_cons_zero, List.getElem_cons_succ, Act.put, List.setIfInBounds_toArray, List.set_cons_zero, List.set_cons_succ]
  have hgr4 := setChan_grown w3 c 1 (#[].push (mv (c + 1))) false (0 + 1) 0 false
  have hch4 := setChan_at w3 c 1 (#[].push (mv (c + 1))) false (0 + 1) 0 false hlc3
  obtain ⟨w4, hw4⟩ : ∃ x, w3.setChan c 1 (#[].push (mv (c + 1))) false (0 + 1) 0 false = x := ⟨_, rfl⟩
  rw [hw4] at hgr4 hch4 ⊢
  have hly4 := hly3.grown hgr4 (by simp)
  have hBc4 := hBc3.grown hgr4 (by omega) (by intro k hk; cases hk; omega)
  clear hly3 hBc3 hch3 hgr4 hw4 hlc3 hrun hown3 hgr3 hBc2 hch2 hmk2
  have HR1 := Lib.hid ho1
  have HBX := Lib.hid hbx1
  have HB1 := Lib.hid hB1
  have hw0 : Wv (sG m) w4 (c + 1) (.slice none 0 0) [] (nearN (sG m) (ramp 1 m) 0) := ⟨rfl, ⟨rfl, .inl ⟨rfl, rfl⟩⟩, fun i b c hb _ => by simp at hb, List.nodup_nil⟩
  obtain ⟨iL, hI, hI0, hI1, hI2⟩ := info_parts Try.infoLy
  have HI := Lib.hid hI
  have HI0 := Lib.hid hI0
  have HI1 := Lib.hid hI1
  have HI2 := Lib.hid hI2
  clear hI hI0 hI1 hI2 ho1 hbx1 hB1 hkey hs HL
  go_wp2
  go_loopw [6, 8, 9] (fun v _ _ wr => ∃ (a : Nat) (ms : List Nat), Wv (sG m) wr (c + 1) v ms (nearN (sG m) (ramp 1 m) a) ∧ Below c w1 wr ∧ c < wr.heap.size ∧ ((a ≤ d ∧ ∃ b sn rn, wr.heap[c]? = some (.chan 1 #[mv b] false sn rn false) ∧ Ly (sG m) wr b (gnearC (sG m) (ramp 1 m) a) ∧ c + 1 ≤ b ∧ b ∉ ms ∧ v.ownBlock ≠ some b) ∨ (a = d + 1 ∧ ∃ sn rn, wr.heap[c]? = some (.chan 1 #[] false sn rn false)))) (fun v _ _ _ => d + 3 - wlen v)
  case atStart => exact ⟨0, [], hw0, hBc4, (Array.getElem?_eq_some_iff.1 hch4).1, .inl ⟨Nat.zero_le _, c + 1, 1, 0, hch4, hly4, Nat.le_refl _, by simp, by simp [Value.ownBlock]⟩⟩
  case round =>
    obtain ⟨a, ms, hW, hBr, hlc, hcase⟩ := hrel
    clear hw0 hBc4 hch4 hly4
    rcases hcase with ⟨had, b, sn, rn, hch, hly, hcb, hbm, hvb⟩ | ⟨rfl, sn, rn, hch⟩
    · go_upto_region 6 with fail
      refine wp_at ?_
      show OpsAt _ _ _ [0, 1, 2] _ _
      refine OpsAt.selRecv (c := c) (z := .map none) rfl rfl (by go_simp; rfl) hch (by simp) ?_
      try simp only [List.getElem_toArray, List.getElem_cons_zero, List.getElem_cons_succ, Act.put, List.setIfInBounds_toArray, List.set_cons_zero, List.set_cons_succ]
      refine OpsAt.value (v := .int .i64 0) rfl rfl (by go_simp; rfl) ?_
      try simp only [List.getElem_toArray, List.getElem_cons_zero, List.getElem_cons_succ, Act.put, List.setIfInBounds_toArray, List.set_cons_zero, List.set_cons_succ]
      refine OpsAt.value (v := .bool true) rfl rfl (by go_simp; rfl) ?_
      try simp only [List.getElem_toArray, List.getElem_cons_zero, List.getElem_cons_succ, Act.put, List.setIfInBounds_toArray, List.set_cons_zero, List.set_cons_succ]
      refine OpsAt.nil ?_
      have HWL := Lib.hid hW.wlen
      have hgr5 := setChan_grown wr c 1 #[] false sn (rn + 1) false
      have hch5 := setChan_at wr c 1 #[] false sn (rn + 1) false hlc
      obtain ⟨w5, hw5⟩ : ∃ x, wr.setChan c 1 #[] false sn (rn + 1) false = x := ⟨_, rfl⟩
      rw [hw5] at hgr5 hch5 ⊢
      have hW5 := hW.grown hgr5 (fun g hg => by
        cases hg
        exact ⟨fun e => by have := (hW.low (.inl e)).2; omega, fun e => by have := (hW.low (.inr e)).2; omega⟩)
      have hly5 := hly.grown hgr5 (by simp; omega)
      have hB5 := hBr.grown hgr5 (by omega) (by intro k hk; cases hk; omega)
      have hlc5 : c < w5.heap.size := (Array.getElem?_eq_some_iff.1 hch5).1
      have hml : ms.length = a := by rw [hW.len, nearN_length]
      have hbl5 := hly5.lt
      obtain ⟨len, hlen⟩ : ∃ l, ms.length = l := ⟨_, rfl⟩
      have hla : len ≤ a := by omega
      have hE30 := gecc_le hn.out HS.out
      have hdm : (sG m).dm ≤ 1000 := hn.out.dm30
      have had9 : a ≤ 1000 := by have := hd.out.2.1; omega
      have hown5 := hW5.own
      rw [hlen] at hown5
      have HLEN := Lib.hid hlen
      clear hgr5 hw5 hW hly hBr hlc hch hlen
      go_wp2_with (at_builtin; refine wpList_append_lies _ rfl _ _ 79 rfl (c + 1) 91 iL _ 1 8 Try.underlying79 HI.out HI0.out HI1.out HI2.out rfl (by omega) u6 len (ms.map mv) rfl (hown5.alloc _) _ 1 1 [mv b] rfl (by simp) (World.news_of_block (heap_alloc_new _ _)) (by simp [Value.oneCell']) (by omega) (by unfold maxLen; omega) (by omega) (by simp; omega) (w5.heap.size + 1) (by simp) ?_)
      intro g9 cap9 w9 hown9 hgr9 hat9 hlt9
      have hwa := hW5.alloc (.cells #[mv b] 91)
      have hsz5 : w5.heap.size + 1 ≤ w9.heap.size := by have := hgr9.size; simpa using this
      have hW9 : Wv (sG m) w9 (c + 1) (.slice (some ⟨g9, 0, none⟩) (len + 1) cap9) (ms ++ [b]) (nearN (sG m) (ramp 1 m) (a + 1)) := by
        have h := Wv.app (cap := cap9) (g := g9) (w' := w9) hwa (hly5.below (below_new w5 _) (Nat.le_refl _)) hcb hbm hvb (by rw [HLEN.out]; exact hown9) hgr9 (by
          rcases hat9 with h1 | h1
          · exact .inl h1
          · right; simp; omega)
        rw [HLEN.out] at h
        rw [nearN_succ]; exact h
      have hly9 : Ly (sG m) w9 b (gnearC (sG m) (ramp 1 m) a) := (hly5.below (below_new w5 _) (Nat.le_refl _)).grown hgr9 hvb
      have hB9 := (hB5.alloc (by omega) (.cells #[mv b] 91)).grown hgr9 (by simp; omega) (by intro k hk; have := (hW5.low (.inl hk)).2; omega)
      have hch9 : w9.heap[c]? = some (.chan 1 #[] false sn (rn + 1) false) := (hgr9.block c (by simp; omega) (fun e => by have := (hW5.low (.inl e.symm)).2; omega)).trans ((Below.heap_alloc w5 _ c hlc5).trans hch5)
      have hbx9 : Blk w9 w.heap.size 94 (twl t) := HBX.out.below hB9 (by omega)
      have hlt9 : c < w9.heap.size := (Array.getElem?_eq_some_iff.1 hch9).1
      obtain rfl : len = a := by have := HLEN.out; omega
      clear hwa hown5 hW5 hly5 hB5 hch5 hgr9 hat9 hown9
      go_wp2_with (first | (refine wpList_load_tower rfl _ rfl w.heap.size t ht rfl hbx9 ?_))
      refine (hH.out len b w9 hly9).mono ?_
      rintro e w10 ⟨rfl, hb10⟩
      have hW10 := hW9.below hb10 (Nat.le_refl _)
      have hch10 : w10.heap[c]? = some (.chan 1 #[] false sn (rn + 1) false) := (hb10.block c hlt9).trans hch9
      have hB10 := hB9.trans (hb10.mono (by omega))
      have hlt10 : c < w10.heap.size := (Array.getElem?_eq_some_iff.1 hch10).1
      obtain ⟨F, hF⟩ : ∃ F, hasF len = F := ⟨_, rfl⟩
      rw [hF]
      clear hW9 hly9 hB9 hch9 hbx9 hb10
      cases F with
      | true =>
        have hae : len = d := by
          rcases Nat.lt_or_ge len d with h | h
          · rw [hd.out.1 len h] at hF; cases hF
          · omega
        subst hae
        have HW := Lib.hid (show Wv (sG m) w10 w.heap.size (.slice (some ⟨g9, 0, none⟩) (len + 1) cap9) (ms ++ [b]) (gnearL (sG m) (ramp 1 m) len) from hW10.mono (by omega))
        have hBf := HB1.out.trans (hB10.mono (by omega))
        clear hW10 hla
        go_wp2
        go_ret
        exact ⟨g9, cap9, ms ++ [b], rfl, HW.out, hBf⟩
      | false =>
        have hW10' : Wv (sG m) w10 (c + 1) (.slice (some ⟨g9, 0, none⟩) (len + 1) cap9) (ms ++ [b]) (gnearL (sG m) (ramp 1 m) len) := hW10
        have HGP : Hid (GPR (sG m) 87 (.slice a1 (sgN m) c1) 218 217 (fun u => OwnC c2 u (.slice a1 (sgN m) c1) (segsAll m))) := Lib.hid (seg_GP h1 h6 a1 c1)
        have hRR : OwnC c2 w10 (.slice a1 (sgN m) c1) (segsAll m) := HR1.out.below hB10 (by omega)
        have HRR : Hid ((fun u => OwnC c2 u (.slice a1 (sgN m) c1) (segsAll m)) w10) := Lib.hid hRR
        have hks : (sG m).ks.length ≤ 1000 := by rw [sks_length]; have := sgN_le h6; omega
        have hadm : len ≤ (sG m).dm := by have := hd.out.2.1; omega
        have cn := wnextR_any (sG m) 87 (.slice a1 (sgN m) c1) 218 217 (fun u => OwnC c2 u (.slice a1 (sgN m) c1) (segsAll m)) (c + 1) (.slice (some ⟨g9, 0, none⟩) (len + 1) cap9) (ms ++ [b]) (ramp 1 m) len w10 hn HGP HRR hks HS hW10' hadm hlt10
        clear hRR HRR HGP hks
        go_wp2_with fail
        refine cn.mono ?_
        rintro e w11 ⟨b', rfl, hly11, hb', hb11⟩
        have hW11 := hW10.below hb11 (Nat.le_refl _)
        have hch11 : w11.heap[c]? = some (.chan 1 #[] false sn (rn + 1) false) := (hb11.block c hlt10).trans hch10
        have hB11 := hB10.trans (hb11.mono (by omega))
        have hlt11 : c < w11.heap.size := (Array.getElem?_eq_some_iff.1 hch11).1
        have hbn : b' ∉ ms ++ [b] := fun h => by have := (hW10.low (.inr h)).1; omega
        have hvn : (Value.slice (some ⟨g9, 0, none⟩) (len + 1) cap9).ownBlock ≠ some b' := fun h => by have := (hW10.low (.inl h)).1; omega
        have hcb' : c + 1 ≤ b' := by omega
        have HLY := Lib.hid hly11
        obtain ⟨D, hown, hL⟩ := hly11
        have hsz := hL.size hn.out (hown.canon keyd)
        have hzp := gbyN_pos hn.out HS.out (len + 1)
        have HSZ := Lib.hid (show Maps.size D = gbyN (sG m) (ramp 1 m) (len + 1) from hsz)
        have hzb := gbyN_le (sG m) (ramp 1 m) (len + 1)
        have hfl := hn.out.total
        obtain ⟨z, hz⟩ : ∃ z, gbyN (sG m) (ramp 1 m) (len + 1) = z := ⟨_, rfl⟩
        rw [hz] at hzp HSZ hzb
        clear hz hsz hL cn hW10 hW10' hB10 hch10 hb11 hadm
        by_cases hlt : len < d
        · have hz0 : (0 : Int) < (z : Int) := by have := hzp.2 (by have := hd.out.2.1; omega); omega
          have HZ := Lib.hid hzp
          clear hzp
          go_upto_region 14 with (at_len; refine wpList_len_own _ rfl _ 91 rfl 94 3 Try.underlying91 _ b' (sG m).all.length D rfl hown ?_; rw [HSZ.out])
          refine wp_at ?_
          show OpsAt _ _ _ [0, 1, 2] _ _
          refine OpsAt.value (v := .chan (some c)) rfl rfl (by go_simp; rfl) ?_
          try simp only [List.getElem_toArray, List.getElem_cons_zero, List.getElem_cons_succ, Act.put, List.setIfInBounds_toArray, List.set_cons_zero, List.set_cons_succ]
          refine OpsAt.value (v := mv b') rfl rfl (by go_simp; rfl) ?_
          try simp only [List.getElem_toArray, List.getElem_cons_zero, List.getElem_cons_succ, Act.put, List.setIfInBounds_toArray, List.set_cons_zero, List.set_cons_succ]
          refine OpsAt.send (c := c) (cap := 1) (s := sn) (r := rn + 1) (buf := #[]) (z := .tuple #[]) (v := mv b') rfl rfl (by go_simp; rfl) hch11 (by simp) ?_
          try simp only [List.getElem_toArray, List.getElem_cons_zero, List.getElem_cons_succ, Act.put, List.setIfInBounds_toArray, List.set_cons_zero, List.set_cons_succ]
          refine OpsAt.nil ?_
          have hgr12 := setChan_grown w11 c 1 (#[].push (mv b')) false (sn + 1) (rn + 1) false
          have hch12 := setChan_at w11 c 1 (#[].push (mv b')) false (sn + 1) (rn + 1) false hlt11
          obtain ⟨w12, hw12⟩ : ∃ x, w11.setChan c 1 (#[].push (mv b')) false (sn + 1) (rn + 1) false = x := ⟨_, rfl⟩
          rw [hw12] at hgr12 hch12
          have hW12 := hW11.grown hgr12 (fun g hg => by
            cases hg
            exact ⟨fun e => by have := (hW11.low (.inl e)).2; omega, fun e => by have := (hW11.low (.inr e)).2; omega⟩)
          have hly12 := HLY.out.grown hgr12 (by simp; omega)
          have hB12 := hB11.grown hgr12 (by omega) (by intro k hk; cases hk; omega)
          have hlt12 : c < w12.heap.size := (Array.getElem?_eq_some_iff.1 hch12).1
          rw [hw12]
          clear hgr12 hw12 hW11 hB11 hch11
          go_wp2
          go_roundw
          case rel => exact ⟨len + 1, ms ++ [b], hW12, hB12, hlt12, .inl ⟨by omega, b', sn + 1, rn + 1, hch12, hly12, hcb', hbn, hvn⟩⟩
          case measure =>
            have e : wlen u6 = len := by rw [HWL.out, HLEN.out]
            show d + 3 - (len + 1) < d + 3 - wlen u6
            rw [e]; omega
        · have hz0 : (z : Int) ≤ 0 := by
            have hE : d = gecc (sG m) (ramp 1 m) := by
              rcases hd.out.2.2 with h | h
              · have e : len = d := by omega
                rw [← e, hF] at h; cases h
              · exact h
            have h1 : ¬ 0 < z := fun h => by have := hzp.1 h; omega
            omega
          have HZ := Lib.hid hzp
          have hld : len = d := by omega
          have HLD := Lib.hid hld
          clear hzp hld
          go_wp2_with (at_len; refine wpList_len_own _ rfl _ 91 rfl 94 3 Try.underlying91 _ b' (sG m).all.length D rfl hown ?_; rw [HSZ.out])
          go_roundw
          case rel => exact ⟨len + 1, ms ++ [b], hW11, hB11, hlt11, .inr ⟨by rw [HLD.out], sn, rn + 1, hch11⟩⟩
          case measure =>
            have e : wlen u6 = len := by rw [HWL.out, HLEN.out]
            show d + 3 - (len + 1) < d + 3 - wlen u6
            rw [e]; omega
    · go_upto_region 6 with fail
      refine wp_at ?_
      show OpsAt _ _ _ [0, 1, 2] _ _
      refine OpsAt.selDefault (c := c) (z := .map none) rfl rfl (by go_simp; rfl) hch ?_
      try simp only [List.getElem_toArray, List.getElem_cons_zero, List.getElem_cons_succ, Act.put, List.setIfInBounds_toArray, List.set_cons_zero, List.set_cons_succ]
      refine OpsAt.value (v := .int .i64 (-1)) rfl rfl (by go_simp; rfl) ?_
      try simp only [List.getElem_toArray, List.getElem_cons_zero, List.getElem_cons_succ, Act.put, List.setIfInBounds_toArray, List.set_cons_zero, List.set_cons_succ]
      refine OpsAt.value (v := .bool false) rfl rfl (by go_simp; rfl) ?_
      try simp only [List.getElem_toArray, List.getElem_cons_zero, List.getElem_cons_succ, Act.put, List.setIfInBounds_toArray, List.set_cons_zero, List.set_cons_succ]
      refine OpsAt.nil ?_
      have hml : ms.length = d + 1 := by rw [hW.len, nearN_length]
      obtain ⟨g, cap, rfl, hcg, hgl, hcap, _⟩ := hW.shape (by rintro rfl; simp at hml)
      rw [hml] at hW ⊢
      have HW := Lib.hid hW
      have hgc := HBX.out.lt
      clear hml hcap
      go_wp2
      go_ret
      exact ⟨g, cap, ms, rfl, (HW.out.congr (by simp [nearN, gnearL]) (fun i c c' h1 h2 => by
        have e : nearN (sG m) (ramp 1 m) (d + 1) = gnearL (sG m) (ramp 1 m) d := rfl
        rw [e] at h1; rw [h1] at h2; cases h2; exact fun q hq => rfl)).mono (by omega), HB1.out.trans (hBr.mono (by omega))⟩
end Go.Proofs.Ytkeenoklghkonaa

namespace Go.Proofs.Ytkeenoklghkonaa
open Go Go.RowKit Go.Pan

theorem isFar_any (n : Int) (w : World) :
    Calls Try.prog 102 #[.int .i64 n] w fun e w' => e = .returned (.bool (inB n 1 6)) ∧ w = w' := by
  go_enter Try.func102, Try.ntmps102
  by_cases h : 1 ≤ n
  · go_wp2
    go_ret
    exact ⟨by simp [inB, h], rfl⟩
  · have h' : n < 1 := by omega
    go_wp2
    go_ret
    exact ⟨by simp only [inB, decide_eq_false (show ¬ 1 ≤ n from by omega)]; rfl, rfl⟩

theorem has_st {m : Nat} (h1 : 1 ≤ m) (h6 : m ≤ 6) (xs : List Int) (hx : (sG m).St xs) (a b : Nat) (u : World) (hl : Ly (sG m) u b (gnearC (sG m) (ramp 1 m) a)) :
    Calls Try.prog 166 #[.map (some b), tw xs] u fun e u' => e = .returned (.bool (decide (gfar (sG m) (ramp 1 m) xs = a))) ∧ Below u.heap.size u u' := by
  have h := lhas_any (sG m) b _ xs u (Lib.hid (sG_ok h1 h6)) hl hx
  have e : decide (0 < gnearC (sG m) (ramp 1 m) a xs) = decide (gfar (sG m) (ramp 1 m) xs = a) := by
    rw [decide_eq_decide]
    exact gnearC_pos (sG_ok h1 h6) (St.ramp m h1 (by omega)) hx
  rw [e] at h
  exact h

set_option maxRecDepth 100000 in
set_option maxHeartbeats 1600000 in
theorem segmentWaveTo_any (v : Value) (xs : List Int) (w : World) (hv : OwnI w v xs) (hn : xs.length ≤ 1048576) :
    Calls Try.prog 88 #[v] w fun e w' => (sfewB xs = true ∧ ∃ g cap ms, e = .returned (.tuple #[.slice (some ⟨g, 0, none⟩) (sfar xs + 1) cap, .bool true]) ∧ Wv (sG xs.length) w' w.heap.size (.slice (some ⟨g, 0, none⟩) (sfar xs + 1) cap) ms (gnearL (sG xs.length) (ramp 1 xs.length) (sfar xs)) ∧ Below w.heap.size w w') ∨ (sfewB xs = false ∧ e = .returned (.tuple #[.slice none 0 0, .bool false]) ∧ Below w.heap.size w w') := by
  obtain ⟨ad, cap, rfl, hc, _, _⟩ := hv.shape
  have cg := IsStack_any _ _ _ hv hn
  have cf := isFar_any (xs.length : Int)
  cases hg : goodB xs with
  | true =>
    rw [hg] at cg
    cases hi : inB (xs.length : Int) 1 6 with
    | true =>
      rw [hi] at cf
      have hfew : sfewB xs = true := by unfold sfewB; rw [hg, hi]; rfl
      have HFW := Lib.hid hfew
      obtain ⟨hst, h1, h6⟩ := sfewB_iff.1 hfew
      have hl9 : xs.length ≤ 9 := by omega
      have hok := sG_ok h1 h6
      have hsr : (sG xs.length).St (ramp 1 xs.length) := St.ramp xs.length h1 (by omega)
      have hsym : gfar (sG xs.length) (ramp 1 xs.length) xs = sfar xs := gfar_symm hok hsr hst
      have HH := Lib.hid (fun a b u hl => has_st h1 h6 xs hst a b u hl)
      have hd : Hid ((∀ a, a < sfar xs → decide (gfar (sG xs.length) (ramp 1 xs.length) xs = a) = false) ∧ sfar xs ≤ gecc (sG xs.length) (ramp 1 xs.length) ∧ (decide (gfar (sG xs.length) (ramp 1 xs.length) xs = sfar xs) = true ∨ sfar xs = gecc (sG xs.length) (ramp 1 xs.length))) :=
        Lib.hid ⟨fun a h => decide_eq_false (by omega), by rw [← hsym]; exact gfar_ecc hok hsr hst, .inl (decide_eq_true hsym)⟩
      have cw := fun u => segmentWave_any xs.length (sfar xs) xs (fun a => decide (gfar (sG xs.length) (ramp 1 xs.length) xs = a)) u h1 h6 hl9 HH hd
      clear hg hi hfew hd HH hsym hok hsr hst
      go_enter Try.func88, Try.ntmps88
      go_wp2_with fail
      refine (cg).mono ?_
      rintro e w1 ⟨rfl, hb⟩
      go_wp2_with fail
      refine (cf _).mono ?_
      rintro e w2 ⟨rfl, rfl⟩
      go_wp2_with fail
      refine (towerOf_any _ _ _ (hv.same hb) hl9).mono ?_
      rintro e w3 ⟨rfl, hb3⟩
      have hB3 := hb.trans (hb3.mono hb.size)
      go_wp2_with fail
      refine (cw _).mono ?_
      rintro e w4 ⟨g, cap4, ms, rfl, hW, hb4⟩
      have hW4 := hW.mono hB3.size
      have hB4 := hB3.trans (hb4.mono hB3.size)
      have HW := Lib.hid hW4
      clear hW hW4 cw
      go_wp2
      go_ret2
      exact .inl ⟨HFW.out, g, cap4, ms, rfl, HW.out, hB4⟩
    | false =>
      rw [hi] at cf
      have hfew : sfewB xs = false := by unfold sfewB; rw [hi, Bool.and_false]
      have HFW := Lib.hid hfew
      clear hg hi hfew
      go_enter Try.func88, Try.ntmps88
      go_wp2_with fail
      refine (cg).mono ?_
      rintro e w1 ⟨rfl, hb⟩
      go_wp2_with fail
      refine (cf _).mono ?_
      rintro e w2 ⟨rfl, rfl⟩
      go_wp2
      go_ret2
      exact .inr ⟨HFW.out, rfl, hb⟩
  | false =>
    rw [hg] at cg
    have hfew : sfewB xs = false := by unfold sfewB; rw [hg]; rfl
    have HFW := Lib.hid hfew
    clear hg hfew
    go_enter Try.func88, Try.ntmps88
    go_wp2_with fail
    refine (cg).mono ?_
    rintro e w1 ⟨rfl, hb⟩
    go_wp2
    go_ret2
    exact .inr ⟨HFW.out, rfl, hb⟩

set_option maxRecDepth 100000 in
theorem SegmentDistance_any (v : Value) (xs : List Int) (w : World) (hv : OwnI w v xs) (hn : xs.length ≤ 1048576) :
    Calls Try.prog 26 #[v] w fun e w' => e = .returned (.tuple #[.int .i64 (mSegmentDistance xs), .bool (sfewB xs)]) ∧ Below w.heap.size w w' := by
  have cs := segmentWaveTo_any v xs w hv hn
  go_enter Try.func26, Try.ntmps26
  go_wp2_with fail
  refine cs.mono ?_
  rintro e w1 h
  rcases h with ⟨hf, g, cap, ms, rfl, hW, hb⟩ | ⟨hf, rfl, hb⟩
  · have HM := Lib.hid (show mSegmentDistance xs = (sfar xs : Int) from if_pos hf)
    have hs5 := sfar_le hf
    have HF := Lib.hid hf
    have c0 := wturns_any (some ⟨g, 0, none⟩) (sfar xs + 1) cap w1 (by omega)
    rw [Nat.add_sub_cancel] at c0
    clear hf hW cs
    go_wp2_with fail
    refine c0.mono ?_
    rintro e w2 ⟨rfl, rfl⟩
    go_wp2
    go_ret2
    exact ⟨by rw [HM.out, HF.out]; rfl, hb⟩
  · have HM := Lib.hid (show mSegmentDistance xs = 0 from if_neg (by rw [hf]; exact Bool.false_ne_true))
    have HF := Lib.hid hf
    have c0 := wturns_any none 0 0 w1 (by omega)
    clear hf cs
    go_wp2_with fail
    refine c0.mono ?_
    rintro e w2 ⟨rfl, rfl⟩
    go_wp2
    go_ret2
    exact ⟨by rw [HM.out, HF.out]; rfl, hb⟩

set_option maxRecDepth 100000 in
theorem CountLeastSegments_any (v : Value) (xs : List Int) (w : World) (hv : OwnI w v xs) (hn : xs.length ≤ 1048576) :
    Calls Try.prog 35 #[v] w fun e w' => e = .returned (.tuple #[.int .i64 (mCountLeastSegments xs), .bool (sfewB xs)]) ∧ Below w.heap.size w w' := by
  obtain ⟨ad, cap, rfl, hc, _, _⟩ := hv.shape
  have cs := segmentWaveTo_any _ xs w hv hn
  go_enter Try.func35, Try.ntmps35
  go_wp2_with fail
  refine cs.mono ?_
  rintro e w1 h
  rcases h with ⟨hf, g, cap, ms, rfl, hW, hb⟩ | ⟨hf, rfl, hb⟩
  · obtain ⟨hst, h1, h6⟩ := sfewB_iff.1 hf
    have hok := sG_ok h1 h6
    have hsr : (sG xs.length).St (ramp 1 xs.length) := St.ramp xs.length h1 (by omega)
    have hsym : gfar (sG xs.length) (ramp 1 xs.length) xs = sfar xs := gfar_symm hok hsr hst
    have HM := Lib.hid (show mCountLeastSegments xs = (gways (sG xs.length) (sfar xs) (ramp 1 xs.length) xs : Int) from if_pos hf)
    have hs5 := sfar_le hf
    have HF := Lib.hid hf
    have hml : ms.length = sfar xs + 1 := by rw [hW.len, gnearL_length]
    obtain ⟨bl, hbl⟩ : ∃ b, ms[sfar xs]? = some b := ⟨_, List.getElem?_eq_getElem (by omega)⟩
    have hlast : ms.getLast? = some bl := by rw [List.getLast?_eq_getElem?, hml]; exact hbl
    have hly := (hW.lay (sfar xs) bl _ hbl (gnearL_get _ _ _ _ (Nat.le_refl _))).1
    have cl := wlast_any (sG xs.length) w.heap.size _ ms _ bl w1 hW hlast (by omega)
    have hl9 : xs.length ≤ 9 := by omega
    have hv1 := hv.same hb
    have HOK := Lib.hid hok
    have HST := Lib.hid hst
    have hval : gnearC (sG xs.length) (ramp 1 xs.length) (sfar xs) xs = gways (sG xs.length) (sfar xs) (ramp 1 xs.length) xs := by unfold gnearC; rw [if_pos hsym]
    have HV := Lib.hid hval
    clear hf cs hW hml hbl hlast hst hok hsr hsym hval
    go_wp2_with fail
    refine cl.mono ?_
    rintro e w2 ⟨rfl, rfl⟩
    go_wp2_with fail
    refine (towerOf_any _ _ _ hv1 hl9).mono ?_
    rintro e w3 ⟨rfl, hb3⟩
    have hly3 := hly.below hb3 (Nat.le_refl _)
    have hB3 := hb.trans (hb3.mono hb.size)
    obtain ⟨D, hown, hL⟩ := hly3
    have hkey := key_tw HOK.out HST.out
    have hat := Lib.hid (hL.at0 HST.out)
    clear hly cl hb hb3 hL hv1
    go_wp2_with (at_lookup; refine wpList_lookup_own_int _ rfl _ _ 91 rfl 94 3 .i64 keyd Try.underlying91 Try.underlying3 (zeroI _) bl (sG xs.length).all.length D rfl hown _ (kl xs) rfl hkey ?_)
    intro c0 hc0 _
    rw [hat.out, HV.out] at hc0
    simp only [DataW.lit.injEq, Lit.int.injEq, true_and] at hc0
    subst hc0
    go_wp2
    go_ret2
    exact ⟨by rw [HM.out, HF.out]; rfl, hB3⟩
  · have HM := Lib.hid (show mCountLeastSegments xs = 0 from if_neg (by rw [hf]; exact Bool.false_ne_true))
    have HF := Lib.hid hf
    clear hf cs
    go_wp2
    go_ret2
    exact ⟨by rw [HM.out, HF.out]; rfl, hb⟩
end Go.Proofs.Ytkeenoklghkonaa

namespace Go.Proofs.Ytkeenoklghkonaa
open Go Go.RowKit Go.Pan

theorem key_nil : keyOf Try.prog 94 (tw []) = some (kl []) := by
  refine key9 ([] ++ List.replicate (9 - ([] : List Int).length) 0) (by simp) fun x hx => ?_
  have hx : x = 0 := by simpa using hx
  rw [hx]
  exact small_wf (by omega) (by omega)
theorem no_nil {m : Nat} (h1 : 1 ≤ m) (h6 : m ≤ 6) {D : DD} {c : LC} (hL : Lay (sG m) D c) : Maps.has D (kl []) = false := by
  cases h : Maps.has D (kl []) with
  | false => rfl
  | true =>
    exfalso
    obtain ⟨q, hq, e⟩ := hL.keys _ h
    have hq' : St m q := hq
    have e2 : tw [] = tw q := klaw.inj key_nil (by rw [e]; exact key_tw (sG_ok h1 h6) hq)
    simp only [tw, twl, Value.agg.injEq, Array.mk.injEq] at e2
    have hl := hq'.2
    cases q with
    | nil => simp at hl; omega
    | cons x q =>
      have hx := hq'.1.2.2.1 x (List.mem_cons_self ..)
      simp only [List.nil_append, List.length_nil, Nat.sub_zero, List.cons_append, List.map_cons, List.replicate_succ, List.cons.injEq] at e2
      have h0 := e2.1
      simp [iv] at h0
      omega

set_option maxHeartbeats 1600000 in
set_option maxRecDepth 100000 in
theorem has_nil {m : Nat} (h1 : 1 ≤ m) (h6 : m ≤ 6) (b : Nat) (c : LC) (w : World) (hl : Ly (sG m) w b c) :
    Calls Try.prog 166 #[.map (some b), tw []] w fun e w' => e = .returned (.bool false) ∧ Below w.heap.size w w' := by
  obtain ⟨D, hown, hL⟩ := hl
  have hkey := key_nil
  have h9 : ([] : List Int).length ≤ 9 := by simp
  have HH := Lib.hid (no_nil h1 h6 hL)
  have hbx : Blk (w.alloc (.cells (twl []).toArray 94)) w.heap.size 94 (twl []) := Blk.new w _ (twl []) _ rfl
  have hB0 : Below w.heap.size w (w.alloc (.cells (twl []).toArray 94)) := below_new w _
  have ho : (w.alloc (.cells (twl []).toArray 94)).ownsMap Try.prog 94 (plainElem Try.prog 3) b (sG m).all.length D := hown.alloc _
  clear hL hown
  go_enter Try.func166, Try.ntmps166
  go_wp2_with (first | (refine wpList_load_tower rfl _ rfl w.heap.size [] h9 rfl hbx ?_) | (at_lookup; refine wpList_lookup_own_ok_int _ rfl _ _ 91 rfl 94 3 .i64 keyd Try.underlying91 Try.underlying3 (zeroI _) b (sG m).all.length D rfl ho _ (kl []) rfl hkey ?_; intro c0 _ _))
  go_ret
  exact ⟨by rw [HH.out]; rfl, hB0⟩

set_option maxRecDepth 100000 in
theorem wholeSegmentWave_any (m : Nat) (w : World) (h1 : 1 ≤ m) (h6 : m ≤ 6) :
    Calls Try.prog 103 #[.int .i64 m] w fun e w' => ∃ g cap ms, e = .returned (.slice (some ⟨g, 0, none⟩) (gecc (sG m) (ramp 1 m) + 1) cap) ∧ Wv (sG m) w' w.heap.size (.slice (some ⟨g, 0, none⟩) (gecc (sG m) (ramp 1 m) + 1) cap) ms (gnearL (sG m) (ramp 1 m) (gecc (sG m) (ramp 1 m))) ∧ Below w.heap.size w w' := by
  have cw := fun u => segmentWave_any m (gecc (sG m) (ramp 1 m)) [] (fun _ => false) u h1 h6 (by simp) (Lib.hid (fun a b u hl => has_nil h1 h6 b _ u hl)) (Lib.hid ⟨fun _ _ => rfl, Nat.le_refl _, .inr rfl⟩)
  obtain ⟨E, hE⟩ : ∃ E, gecc (sG m) (ramp 1 m) = E := ⟨_, rfl⟩
  rw [hE] at cw ⊢
  clear hE
  go_enter Try.func103, Try.ntmps103
  go_wp2_with fail
  refine (cw _).mono ?_
  rintro e w1 ⟨g, cap, ms, rfl, hW, hb⟩
  have HW := Lib.hid (hW.mono (B' := w.heap.size) (by simp))
  have hB := (below_new w (.cells (twl []).toArray 94)).trans (hb.mono (by simp))
  clear hW cw
  go_wp2
  go_ret
  exact ⟨g, cap, ms, rfl, HW.out, hB⟩

set_option maxHeartbeats 4000000 in
set_option maxRecDepth 100000 in
theorem countsX_any (n : Gm) (g cap L : Nat) (ms : List Nat) (s : List Int) (w1 : World) (hn : Hid (GOk n)) (hs : Hid (n.St s)) (hL : Hid (gecc n s + 1 = L)) (hLb : L ≤ 1001)
    (hgl : g < w1.heap.size) (hcl : ∀ i b, ms[i]? = some b → w1.cell? ⟨g, i, none⟩ = some (mv b)) (hml : L ≤ ms.length) (hLy : Hid (∀ i b, i < L → ms[i]? = some b → Ly n w1 b (gnearC n s i))) :
    Calls Try.prog 104 #[.slice (some ⟨g, 0, none⟩) L cap] w1 fun e w' => ∃ r, e = .returned r ∧ OwnI w' r (gbyL n s) ∧ From w1.heap.size r ∧ Below w1.heap.size w1 w' := by
  obtain ⟨i0, hi, hz0, hz1, hz2⟩ := info_parts Try.info3
  have HI0 := Lib.hid hi
  have HZ0 := Lib.hid hz0
  have HZ1 := Lib.hid hz1
  have HZ2 := Lib.hid hz2
  have hfl := hn.out.total
  have HML := Lib.hid hml
  have HCL := Lib.hid hcl
  clear hml hcl hi hz0 hz1 hz2
  go_enter Try.func104, Try.ntmps104
  go_wp2_with (at_make; refine wpList_make_full _ rfl _ _ 22 rfl w1.heap.size 3 i0 (.int .i64 0) 1 Try.underlying22 HI0.out HZ0.out HZ1.out _ _ _ _ L rfl rfl rfl rfl ?b1 ?b2 ?b3 ?_)
  case b1 => rw [HZ2.out]; omega
  case b2 => unfold maxLen; omega
  case b3 => exact Nat.le_refl _
  intro w2 hown hgrow
  have ho0 : Hid (OwnI w2 (.slice (some ⟨w1.heap.size, 0, none⟩) L L) (gbyTo n s 0)) := Lib.hid (by
    rw [gbyTo_zero, hL.out]
    exact OwnI.of_made hown)
  have hb12 : Below w1.heap.size w1 w2 := (Below.refl _ _).grown hgrow (Nat.le_refl _) (by intro k hk; cases hk)
  clear hown hgrow
  go_wp2
  go_loopw [4, 5, 11] (fun _ _ iv' wr => ∃ i : Nat, i ≤ L ∧ iv' = .int .i64 i ∧ Hid (OwnI wr (.slice (some ⟨w1.heap.size, 0, none⟩) L L) (gbyTo n s i)) ∧ Below w1.heap.size w1 wr) (fun _ _ i _ => L - (intOf i).toNat)
  case atStart => exact ⟨0, Nat.zero_le _, rfl, ho0, hb12⟩
  case round =>
    obtain ⟨i, hi, rfl, ho, hbr⟩ := hrel
    clear ho0 hb12
    by_cases hlt : i < L
    · have hlt' : (i : Int) < L := by omega
      obtain ⟨bi, hbi⟩ : ∃ x, ms[i]? = some x := ⟨_, List.getElem?_eq_getElem (by have := HML.out; omega)⟩
      have hly := hLy.out i bi hlt hbi
      have hcell : wr.cell? ⟨g, i, none⟩ = some (mv bi) := (hbr.cell (p := ⟨g, i, none⟩) hgl).trans (HCL.out i bi hbi)
      obtain ⟨D, hown, hL'⟩ := hly.below hbr (Nat.le_refl _)
      have HSZ := Lib.hid (show Maps.size D = gbyN n s i from hL'.size hn.out (hown.canon keyd))
      obtain ⟨hd, hfd, hst⟩ := OwnI.cellAt ho.out i (by rw [gbyTo_length, hL.out]; exact hlt)
      have hst := hst (gbyN n s i : Int)
      rw [gbyTo_set (by have := hL.out; omega)] at hst
      have HST := Lib.hid hst
      have hb2 := hbr.setCell (p := ⟨w1.heap.size, i, none⟩) (Nat.le_refl _) (iv (gbyN n s i : Int))
      have hil : i < L := hlt
      clear hbi hly hL' ho hbr hst
      go_wp2_with (at_len; refine wpList_len_own _ rfl _ 91 rfl 94 3 Try.underlying91 _ bi n.all.length D rfl hown ?_; rw [HSZ.out])
      go_roundw
      case rel => exact ⟨i + 1, by omega, by go_num, HST, hb2⟩
      case measure => simp [intOf] <;> omega
    · obtain rfl : i = L := by omega
      have HE := Lib.hid (show gbyTo n s i = gbyL n s by rw [← hL.out]; exact gbyTo_all n s)
      have hge : (i : Int) ≤ i := Int.le_refl _
      go_wp2
      go_ret
      exact ⟨_, rfl, by rw [← HE.out]; exact ho.out, From.at _ _ _ _ _ (Nat.le_refl _), hbr⟩

set_option maxRecDepth 100000 in
theorem CountByDistance_any (n : Int) (w : World) :
    Calls Try.prog 37 #[.int .i64 n] w fun e w' => ∃ r, e = .returned (.tuple #[r, .bool (inB n 1 6)]) ∧ OwnI w' r (if inB n 1 6 = true then gbyL (sG n.toNat) (ramp 1 n.toNat) else []) ∧ From w.heap.size r ∧ Below w.heap.size w w' := by
  cases hi : inB n 1 6 with
  | true =>
    have hb := inB_iff.1 hi
    obtain ⟨m, rfl⟩ : ∃ m : Nat, n = m := ⟨n.toNat, by omega⟩
    have h1 : 1 ≤ m := by omega
    have h6 : m ≤ 6 := by omega
    have hE := gecc_le (sG_ok h1 h6) (show (sG m).St (ramp 1 m) from St.ramp m h1 (by omega))
    have hdm : (sG m).dm = m - 1 := rfl
    have HS := Lib.hid (show (sG m).St (ramp 1 m) from St.ramp m h1 (by omega))
    have HN := Lib.hid (sG_ok h1 h6)
    have cf := isFar_any (m : Int) w
    rw [hi] at cf
    rw [if_pos rfl, Int.toNat_natCast]
    obtain ⟨R, hR⟩ : ∃ R, gbyL (sG m) (ramp 1 m) = R := ⟨_, rfl⟩
    have HR := Lib.hid hR
    have cw := wholeSegmentWave_any m w h1 h6
    obtain ⟨E, hEE⟩ : ∃ E, gecc (sG m) (ramp 1 m) = E := ⟨_, rfl⟩
    have HE := Lib.hid (show gecc (sG m) (ramp 1 m) + 1 = E + 1 by rw [hEE])
    rw [hEE] at cw hE
    rw [hR]
    clear hb hR hEE hi
    go_enter Try.func37, Try.ntmps37
    go_wp2_with fail
    refine cf.mono ?_
    rintro e w1 ⟨rfl, rfl⟩
    go_wp2_with fail
    refine cw.mono ?_
    rintro e w2 ⟨g, cap, ms, rfl, hW, hb⟩
    have hml : ms.length = E + 1 := by rw [hW.len, gnearL_length]
    obtain ⟨gg, cc, hsh, _, hgl, _, hcl⟩ := hW.shape (by rintro rfl; simp at hml)
    simp only [Value.slice.injEq, Option.some.injEq, Addr.mk.injEq, and_true] at hsh
    obtain ⟨rfl, hxx, rfl⟩ := hsh
    clear hxx
    have hLy := Lib.hid (show ∀ i b, i < E + 1 → ms[i]? = some b → Ly (sG m) w2 b (gnearC (sG m) (ramp 1 m) i) from fun i b hi hb => (hW.lay i b _ hb (gnearL_get _ _ _ _ (by omega))).1)
    have cc := countsX_any (sG m) g cap (E + 1) ms (ramp 1 m) w2 HN HS HE (by omega) hgl hcl (by omega) hLy
    clear hml hgl hcl hLy hW cf cw
    go_wp2_with fail
    refine cc.mono ?_
    rintro e w3 ⟨r, rfl, ho, hf, hb3⟩
    rw [HR.out] at ho
    go_wp2
    go_ret2
    exact ⟨_, rfl, ho, hf.mono hb.size, hb.trans (hb3.mono hb.size)⟩
  | false =>
    have cf := isFar_any n w
    rw [hi] at cf
    rw [if_neg Bool.false_ne_true]
    clear hi
    go_enter Try.func37, Try.ntmps37
    go_wp2_with fail
    refine cf.mono ?_
    rintro e w1 ⟨rfl, rfl⟩
    go_wp2
    go_ret2
    exact ⟨_, rfl, OwnI.nil _, From.nil _ _ _, Below.refl _ _⟩
end Go.Proofs.Ytkeenoklghkonaa
