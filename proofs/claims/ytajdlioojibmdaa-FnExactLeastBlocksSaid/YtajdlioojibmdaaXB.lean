import Derived.Test.YtajdlioojibmdaaN9
import Derived.Test.YtajdlioojibmdaaNT
import Derived.Test.YtajdlioojibmdaaV19
import Derived.Test.YtajdlioojibmdaaV30
import Derived.Test.YtajdlioojibmdaaQ6
import Derived.Test.YtajdlioojibmdaaU4
namespace Go.Proofs.Ytajdlioojibmdaa
open Go Go.RowKit Go.Pan

-- exchanges as the turns of a search
set_option maxRecDepth 100000 in
theorem exchTurns_any (ad : Option Addr) (m cap : Nat) (w : World) (hm : m ≤ 1000) :
    Calls Try.prog 182 #[.slice ad m cap] w fun e w' => ∃ r, e = .returned r ∧ OwnI w' r (ramp 1 m) ∧ From w.heap.size r ∧ Below w.heap.size w w' := by
  have c := turnsFrom_any 1 m w (by omega) (by omega) (by omega)
  rw [Nat.add_sub_cancel] at c
  have HC := Lib.hid c
  clear c
  go_enter Try.func182, Try.ntmps182
  go_wp2_with fail
  refine HC.out.mono ?_
  rintro e w1 ⟨r, rfl, ho, hf, hb⟩
  go_wp2
  go_ret
  exact ⟨_, rfl, ho, hf, hb⟩

set_option maxRecDepth 100000 in
set_option maxHeartbeats 1600000 in
theorem exchTurned_any (L : List (Int × Int × Int × Int)) (ad : Option Addr) (cap m : Nat) (xs : List Int) (k : Nat) (w : World) (hL : Hid (XOk L m)) (h1 : 1 ≤ m) (h9 : m ≤ 9) (hx : xs.length = m) (hk : k ∈ (xG L m).ks) (hv : OwnC c4 w (.slice ad L.length cap) L) :
    Calls Try.prog 181 #[.slice ad L.length cap, tw xs, .int .i64 k] w fun e w' => e = .returned (tw (exT xs (xAt L k))) ∧ Below w.heap.size w w' := by
  have hkk := mem_xks.1 hk
  have hB := Lib.hid (hL.out.B _ (xAt_mem hk))
  obtain ⟨j, rfl⟩ : ∃ j, k = j + 1 := ⟨k - 1, by omega⟩
  have hjl : j < L.length := by omega
  have hva := hv.alloc (.cells (twl xs).toArray 95)
  obtain ⟨b, off, rfl, hbl, hra⟩ := OwnC.rowAt hva hjl
  have hp : xAt L (j + 1) = L[j] := xAt_get hjl
  rw [← hp] at hra
  obtain ⟨p, hpp⟩ : ∃ p, xAt L (j + 1) = p := ⟨_, rfl⟩
  rw [hpp] at hra hB ⊢
  have h1000 := hL.out.le
  obtain ⟨N, hN⟩ : ∃ N, L.length = N := ⟨_, rfl⟩
  rw [hN] at hkk h1000 hjl ⊢
  have hjl' : (j : Int) < N := by omega
  have hX9 : xs.length ≤ 9 := by omega
  have hra' : (w.alloc (.cells (twl xs).toArray 95)).rangeAt b (off + j * 4) [.int .i64 p.1, .int .i64 p.2.1, .int .i64 p.2.2.1, .int .i64 p.2.2.2] := hra
  have hs1 : IntKind.i64.wrap (j : Int) = (j : Int) := IntWalk.i64_in _ (by omega)
  have HS1 := Lib.hid hs1
  obtain ⟨W, hW⟩ : ∃ W, W = (w.alloc (.cells (twl xs).toArray 95)).alloc (.cells (twl []).toArray 95) := ⟨_, rfl⟩
  have hbx : Blk W w.heap.size 95 (twl xs) := by rw [hW]; exact (Blk.new w _ (twl xs) _ rfl).alloc _
  have hz : Blk W (w.heap.size + 1) 95 (twl []) := by rw [hW]; exact Blk.new _ _ (twl []) _ (by simp)
  have hb0 : Below w.heap.size w W := by rw [hW]; exact ((Below.refl _ _).alloc (Nat.le_refl _) _).alloc (by simp) _
  have hrb : W.rangeAt b (off + j * 4) [.int .i64 p.1, .int .i64 p.2.1, .int .i64 p.2.2.1, .int .i64 p.2.2.2] := by
    rw [hW]
    exact range_below hra' (below_new _ _) hbl
  have hut := Try.underlying95
  have hut2 := Try.underlying58
  have hsz : (Try.prog.info? 95).map (·.size) = some (twl xs).length := by rw [Try.infoT, twl_length _ hX9]
  have hsz2 : (Try.prog.info? 58).map (·.size) = some ([.int .i64 p.1, .int .i64 p.2.1, .int .i64 p.2.2.1, .int .i64 p.2.2.2] : List Value).length := infoExchange
  have hXB : exB (xs.length : Int) p = true := by rw [hx]; exact hB.out
  have h9t : (exT xs p).length ≤ 9 := by rw [exT_length hXB]; exact hX9
  have HT9 := Lib.hid (twl_length (exT xs p) h9t)
  have HXM := Lib.hid (show (xs.length : Int) = (m : Int) by rw [hx])
  have hWs : w.heap.size + 1 < W.heap.size := hz.lt
  have HBL := Lib.hid (show b < w.heap.size + 1 by rw [World.size_alloc] at hbl; exact hbl)
  have hbW : b < W.heap.size := by rw [hW, World.size_alloc]; omega
  have HW := Lib.hid (show W = (w.alloc (.cells (twl xs).toArray 95)).alloc (.cells #[.int .i64 0, .int .i64 0, .int .i64 0, .int .i64 0, .int .i64 0, .int .i64 0, .int .i64 0, .int .i64 0, .int .i64 0] 95) by rw [hW]; rfl)
  rw [show (((j + 1 : Nat)) : Int) = (j : Int) + 1 by omega]
  clear hva hv hk hjl hp hpp hN hra hra' hs1 hW hXB
  go_enter Try.func181, Try.ntmps181
  go_wp2_with fail
  rw [← HW.out]
  refine wp_region_held_drew (S := (fun w' => w'.rangeAt w.heap.size 0 (twl xs) ∧ w'.rangeAt b (off + j * 4) [.int .i64 p.1, .int .i64 p.2.1, .int .i64 p.2.2.1, .int .i64 p.2.2.2] ∧ (∃ ys : List Int, ys.length ≤ 9 ∧ Blk w' (w.heap.size + 1) 95 (twl ys)) ∧ Below w.heap.size w w' ∧ W.heap.size ≤ w'.heap.size)) (by kernel_rfl) (⟨hbx.range, hrb, ⟨[], by simp, hz.drew⟩, hb0.drew, Nat.le_refl _⟩) (fun hHeld => ?_)
  refine wpAnyH_take (i := 0) rfl (by kernel_rfl) (by kernel_rfl) (by kernel_rfl) (fun _ _ _ h => h) (yieldsIf_load_mid (by rfl) _ _ rfl _ _ rfl _ _ (fun w hw => hw.1) hut rfl hsz) (by assumption) ?_
  try simp only [List.getElem_toArray, List.getElem_cons_zero, Act.put, List.setIfInBounds_toArray, List.set_cons_zero, List.set_cons_succ]
  refine wpAnyH_take (i := 1) (v := ?_) rfl (by kernel_rfl) (by kernel_rfl) (by kernel_rfl) (fun _ _ _ h => h) (Or.inl ⟨by rfl, ?_⟩) (by assumption) ?_
  rotate_left
  · intro w _; go_simp; with_reducible rfl
  try simp only [List.getElem_toArray, List.getElem_cons_zero, List.getElem_cons_succ, Act.put, List.setIfInBounds_toArray, List.set_cons_zero, List.set_cons_succ]
  refine wpAnyH_take (i := 2) (v := ?_) rfl (by kernel_rfl) (by kernel_rfl) (by kernel_rfl) (fun _ _ _ h => h) (Or.inl ⟨by rfl, ?_⟩) (by assumption) ?_
  rotate_left
  · intro w _; go_simp; with_reducible rfl
  try simp only [List.getElem_toArray, List.getElem_cons_zero, List.getElem_cons_succ, Act.put, List.setIfInBounds_toArray, List.set_cons_zero, List.set_cons_succ]
  refine wpAnyH_take (i := 3) (v := ?_) rfl (by kernel_rfl) (by kernel_rfl) (by kernel_rfl) (fun _ _ _ h => h) (Or.inl ⟨by rfl, ?_⟩) (by assumption) ?_
  rotate_left
  · intro w _; go_simp; with_reducible rfl
  try simp only [List.getElem_toArray, List.getElem_cons_zero, List.getElem_cons_succ, Act.put, List.setIfInBounds_toArray, List.set_cons_zero, List.set_cons_succ]
  rw [HS1.out]
  refine wpAnyH_take (i := 4) (v := ?_) rfl (by kernel_rfl) (by kernel_rfl) (by kernel_rfl) (fun _ _ _ h => h) (Or.inl ⟨by rfl, ?_⟩) (by assumption) ?_
  rotate_left
  · intro w _; go_simp; with_reducible rfl
  try simp only [List.getElem_toArray, List.getElem_cons_zero, List.getElem_cons_succ, Act.put, List.setIfInBounds_toArray, List.set_cons_zero, List.set_cons_succ]
  refine wpAnyH_take (i := 5) rfl (by kernel_rfl) (by kernel_rfl) (by kernel_rfl) (fun _ _ _ h => h) (yieldsIf_load_mid (by rfl) _ _ rfl _ _ rfl _ _ (fun w hw => hw.2.1) hut2 rfl hsz2) (by assumption) ?_
  try simp only [List.getElem_toArray, List.getElem_cons_zero, List.getElem_cons_succ, Act.put, List.setIfInBounds_toArray, List.set_cons_zero, List.set_cons_succ]
  refine wpAnyH_ready (rs := [6]) (by kernel_rfl) (by simp) ?_
  refine AllReadyH.cons rfl (fun K hK => ?_) AllReadyH.nil
  go_simp
  refine (exchanged_any xs (m : Int) p _ hX9 hB HXM).mono ?_
  rintro e w5 ⟨rfl, hb5⟩
  go_wp2_with fail
  refine hK.out _ _ (⟨range_below hHeld.1 hb5 (by have := hHeld.2.2.2.2; omega), range_below hHeld.2.1 hb5 (by have := hHeld.2.2.2.2; omega), hHeld.2.2.1.imp (fun ys h => ⟨h.1, h.2.below hb5 h.2.lt⟩), hHeld.2.2.2.1.trans (hb5.mono hHeld.2.2.2.1.size), Nat.le_trans hHeld.2.2.2.2 hb5.size⟩) (fun hHeld => ?_)
  clear hK K
  try simp only [List.getElem_toArray, List.getElem_cons_zero, List.getElem_cons_succ, Act.put, List.setIfInBounds_toArray, List.set_cons_zero, List.set_cons_succ]
  refine wpAnyH_ready (rs := [7]) (by kernel_rfl) (by simp) ?_
  refine AllReadyH.cons rfl (fun K hK => ?_) AllReadyH.nil
  refine step_of_list rfl fun Q' hQ' => ?_
  obtain ⟨ys, hys, hby⟩ := hHeld.2.2.1
  refine wpList_store_tower rfl _ _ rfl (w.heap.size + 1) ys (exT xs p) hys h9t rfl rfl hby ?_
  intro w6 hbl6 hgr6
  refine hQ' _ _ ?_
  have hB6 := hHeld.2.2.2.1.grown hgr6 hHeld.2.2.2.1.size (by intro k hk; cases hk; omega)
  refine hK.out _ _ ⟨range_grownX hHeld.1 hgr6 (by have := hHeld.2.2.2.2; omega) (by simp), range_grownX hHeld.2.1 hgr6 (by have := hHeld.2.2.2.2; omega) (by have := HBL.out; simp; omega), ⟨_, h9t, hbl6⟩, hB6, Nat.le_trans hHeld.2.2.2.2 hgr6.size⟩ (fun hHeld => ?_)
  clear hK K hQ' Q'
  try simp only [List.getElem_toArray, List.getElem_cons_zero, List.getElem_cons_succ, Act.put]
  refine wpAnyH_done (by kernel_rfl) ?_ _
  go_wp2
  exact bodyPost_ret (results_tower rfl _ _ (w.heap.size + 1) (exT xs p) h9t rfl hbl6) rfl ⟨rfl, hB6⟩

theorem exch_mT (ad : Option Addr) (n cap : Nat) (u : World) : Sem.run Try.prog (method 299 93 (.slice ad n cap) "loop.example/g01221/impl.turns") u = .ok (182, .slice ad n cap) u := by kernel_rfl
theorem exch_mD (ad : Option Addr) (n cap : Nat) (u : World) : Sem.run Try.prog (method 299 93 (.slice ad n cap) "loop.example/g01221/impl.turned") u = .ok (181, .slice ad n cap) u := by kernel_rfl

theorem exch_GP {L : List (Int × Int × Int × Int)} {m : Nat} (hL : Hid (XOk L m)) (h1 : 1 ≤ m) (h6 : m ≤ 6) (ad : Option Addr) (cap : Nat) : GPR (xG L m) 93 (.slice ad L.length cap) 182 181 (fun u => OwnC c4 u (.slice ad L.length cap) L) where
  rb := fun u u' h hb => Own.same h hb
  mT := exch_mT ad _ cap
  mD := exch_mD ad _ cap
  cT := fun args u => by go_simp
  cD := fun args u => by go_simp
  turns := fun u _ => by
    rw [xks_ramp]
    exact exchTurns_any ad L.length cap u hL.out.le
  turned := fun q k u hR hq hk => exchTurned_any L ad cap m q k u hL h1 (by omega) hq.2 hk hR

end Go.Proofs.Ytajdlioojibmdaa

namespace Go.Proofs.Ytajdlioojibmdaa
open Go Go.RowKit Go.Pan

-- counting by exchanges: a search by a list of exchanges that a function yields
theorem areFewBlocks_any (n : Int) (w : World) :
    Calls Try.prog 84 #[.int .i64 n] w fun e w' => e = .returned (.bool (okFew n)) ∧ w = w' := by
  unfold okFew
  go_enter Try.func84, Try.ntmps84
  by_cases h : 1 ≤ n
  · go_wp2
    go_ret
    exact ⟨by simp [inB, h], rfl⟩
  · go_wp2
    go_ret
    exact ⟨by simp only [inB, decide_eq_false (show ¬ 1 ≤ n from by omega)]; rfl, rfl⟩

/-- a function that yields a list of exchanges of m pancakes -/
def Kind (F : FuncId) (Lf : Nat → List (Int × Int × Int × Int)) : Prop := ∀ (m : Nat) (u : World), 1 ≤ m → m ≤ 6 → Calls Try.prog F #[.int .i64 m] u fun e w' => ∃ r, e = .returned r ∧ OwnC c4 w' r (Lf m) ∧ From u.heap.size r ∧ Below u.heap.size u w'

set_option maxHeartbeats 1600000 in
set_option maxRecDepth 100000 in
theorem countsBy_any (F : FuncId) (Lf : Nat → List (Int × Int × Int × Int)) (n : Int) (w : World) (hC : ∀ (args : Array Value) (u : World), (callFunc F args).run Try.prog u = .ok (.enter F args) u)
    (hF : Hid (Kind F Lf)) (hL : Hid (∀ m, 1 ≤ m → m ≤ 6 → XOk (Lf m) m)) :
    Calls Try.prog 60 #[.int .i64 n, .func (Fn.func F) #[] #[]] w fun e w' => ∃ r, e = .returned (.tuple #[r, .bool (okFew n)]) ∧ OwnI w' r (mCountX Lf n) ∧ From w.heap.size r ∧ Below w.heap.size w w' := by
  have c := areFewBlocks_any n w
  cases hg : okFew n with
  | true =>
    have HM := Lib.hid (show mCountX Lf n = gbyL (xG (Lf n.toNat) n.toNat) (ramp 1 n.toNat) from if_pos hg)
    have hb := inB_iff.1 hg
    obtain ⟨m, rfl⟩ : ∃ m : Nat, n = m := ⟨n.toNat, by omega⟩
    have h1 : 1 ≤ m := by omega
    have h6 : m ≤ 6 := by omega
    rw [hg] at c
    rw [Int.toNat_natCast] at HM
    have HX := Lib.hid (hL.out m h1 h6)
    have HK := Lib.hid (xG_ok HX.out h1 h6)
    have HH := Lib.hid (show (xG (Lf m) m).St (ramp 1 m) from St.ramp m h1 (by omega))
    have hks : (xG (Lf m) m).ks.length ≤ 1000 := by rw [xks_length]; exact HX.out.le
    have hec := gecc_x HX.out h1 h6
    have cK := hF.out m
    clear hg hb
    go_enter Try.func60, Try.ntmps60
    go_wp2_with fail
    refine (c).mono ?_
    rintro e w0 ⟨rfl, rfl⟩
    clear c
    go_wp2_with fail
    refine (sortedTower_any m _ (by omega)).mono ?_
    rintro e w1 ⟨rfl, hb1⟩
    go_wp2_with fail
    refine (cK _ h1 h6).mono ?_
    rintro e w2 ⟨r2, rfl, ho2, hf2, hb2⟩
    clear cK
    obtain ⟨ad, cap, rfl, _, _, _⟩ := ho2.shape
    have HG : Hid (GPR (xG (Lf m) m) 93 (.slice ad (Lf m).length cap) 182 181 (fun u => OwnC c4 u (.slice ad (Lf m).length cap) (Lf m))) := Lib.hid (exch_GP HX h1 h6 ad cap)
    have HR : Hid ((fun u => OwnC c4 u (.slice ad (Lf m).length cap) (Lf m)) w2) := Lib.hid ho2
    have cw := wholeWaveR_any (xG (Lf m) m) 93 (.slice ad (Lf m).length cap) 182 181 (fun u => OwnC c4 u (.slice ad (Lf m).length cap) (Lf m)) (ramp 1 m) w2 HK HG HR hks HH
    obtain ⟨L, hLe⟩ : ∃ L, gecc (xG (Lf m) m) (ramp 1 m) + 1 = L := ⟨_, rfl⟩
    have HL := Lib.hid hLe
    have hLb : L ≤ 1001 := by omega
    rw [hLe] at cw
    have hB2 := hb1.trans (hb2.mono hb1.size)
    clear hLe ho2 hf2 hb1 hb2 hks hec HG HR
    go_wp2_with fail
    refine cw.mono ?_
    rintro e w3 ⟨g, cp, ms, rfl, hW, hb3⟩
    clear cw
    have cc := counts_any (xG (Lf m) m) _ g cp L ms (ramp 1 m) w3 HK HH HL hLb hW
    have hB3 := hB2.trans (hb3.mono hB2.size)
    clear hW hb3 hB2
    go_wp2_with fail
    refine cc.mono ?_
    rintro e w4 ⟨r, rfl, ho, hf, hb4⟩
    go_wp2
    go_ret2
    exact ⟨_, rfl, by rw [HM.out]; exact ho, hf.mono hB3.size, hB3.trans (hb4.mono hB3.size)⟩
  | false =>
    have HM := Lib.hid (show mCountX Lf n = [] from if_neg (by rw [hg]; exact Bool.false_ne_true))
    rw [hg] at c
    clear hg
    go_enter Try.func60, Try.ntmps60
    go_wp2_with fail
    refine (c).mono ?_
    rintro e w0 ⟨rfl, rfl⟩
    clear c
    go_wp2
    go_ret2
    exact ⟨_, rfl, by rw [HM.out]; exact OwnI.nil _, From.nil _ _ _, Below.refl _ _⟩

theorem exKind : Kind 62 exAll := fun m u h1 h6 => exchangesFor_any m u h1 (by omega)

theorem CountByExchanges_any (n : Int) (w : World) :
    Calls Try.prog 33 #[.int .i64 n] w fun e w' => ∃ r, e = .returned (.tuple #[r, .bool (okFew n)]) ∧ OwnI w' r (mCountByExchanges n) ∧ From w.heap.size r ∧ Below w.heap.size w w' := by
  have c := countsBy_any 62 exAll n w (fun args u => by go_simp) (Lib.hid exKind) (Lib.hid fun m h1 h6 => exAll_ok h1 h6)
  have HM := Lib.hid (show mCountX exAll n = mCountByExchanges n from rfl)
  rw [HM.out] at c
  go_enter Try.func33, Try.ntmps33
  go_wp2_with fail
  refine (c).mono ?_
  rintro e w1 ⟨r, rfl, ho, hf, hb⟩
  go_wp2
  go_ret2
  exact ⟨_, rfl, ho, hf, hb⟩

end Go.Proofs.Ytajdlioojibmdaa
