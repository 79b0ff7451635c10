import Derived.Test.YtlomdnldokbjoaaU6
namespace Go.Proofs.Ytlomdnldokbjoaa
open Go Go.RowKit Go.Pan

abbrev nilS : Value := .slice none 0 0
theorem ownsRow_of_blk {w : World} {B g n cap : Nat} {ty : TypeId} {cs hs : List Value} (h : Blk w g ty cs) (hB : B ≤ g) (hn : hs.length = n) (hnc : n ≤ cap) (hcm : cap ≤ maxLen) (hl : cs.length = cap) (ht : cs.take n = hs) : w.ownsRow B ty 1 (.slice (some ⟨g, 0, none⟩) n cap) n hs :=
  ⟨by omega, .inr ⟨g, cap, cs.toArray, rfl, hB, h, hnc, hcm, by simp [hl], by simpa using ht⟩⟩

theorem rowAt {w : World} {g off cap : Nat} {L : List (List Int)} (hv : Own w 9 (.slice (some ⟨g, off, none⟩) L.length cap) L.length (tws L)) (h9 : ∀ q ∈ L, q.length ≤ 9) (k : Nat) (hk : k < L.length) (hcap : 0 < cap) :
    w.rangeAt g (off + k * 9) (twl L[k]) ∧ g < w.heap.size := by
  obtain ⟨g', off', he, hgl, hcell, _⟩ := hv.at hcap
  simp only [Option.some.injEq, Addr.mk.injEq, and_true] at he
  obtain ⟨rfl, rfl⟩ := he
  refine ⟨fun j x hx => ?_, hgl⟩
  have hj : j < 9 := by rw [← twl_length _ (h9 _ (List.getElem_mem hk))]; exact (List.getElem?_eq_some_iff.1 hx).1
  rw [Nat.add_assoc, hcell (k * 9 + j) (by omega), tws_get L k j hk h9 hj]
  exact hx

set_option maxHeartbeats 4000000 in
set_option maxRecDepth 100000 in
theorem lists_any (v : Value) (L : List (List Int)) (n : Nat) (w : World) (hv : Own w 9 v L.length (tws L)) (hL : Hid (∀ q ∈ L, q.length = n ∧ n ≤ 9)) (hm : L.length ≤ 1048576) :
    Calls Try.prog 108 #[v, .int .i64 n] w fun e w' => ∃ r hs, e = .returned r ∧ SS w' w.heap.size w'.heap.size r hs L ∧ Below w.heap.size w w' := by
  obtain ⟨ad, cap, rfl, hcc, hcm, hnil⟩ := hv.shape
  obtain ⟨i0, hi, hz0, hz1, hz2⟩ := info_parts Try.info22
  have HV := Lib.hid hv
  obtain ⟨m, hml⟩ : ∃ m, L.length = m := ⟨_, rfl⟩
  have HML := Lib.hid hml
  rw [hml] at hm hcc
  rw [hml]
  clear hv hml
  go_enter Try.func108, Try.ntmps108
  go_wp2_with (at_make; refine wpList_make_full _ rfl _ _ 27 rfl w.heap.size 24 i0 nilS 1 Try.underlying27 hi hz0 hz1 _ _ _ _ m rfl rfl rfl rfl ?b1 ?b2 ?b3 ?_)
  case b1 => rw [hz2]; omega
  case b2 => unfold maxLen; omega
  case b3 => exact Nat.le_refl _
  intro w1 hown hgr
  have hb1 : Below w.heap.size w w1 := (Below.refl _ _).grown hgr (Nat.le_refl _) (by intro k hk; cases hk)
  have hbl : Blk w1 w.heap.size 24 ([] ++ List.replicate (m - 0) nilS) := by
    have := (Blk.of_row hown).1
    simpa [toList_madeCells_one] using this
  have hl1 := hbl.lt
  have HS0 := Lib.hid (show SS w1 w.heap.size w1.heap.size (.slice (some ⟨w.heap.size, 0, none⟩) 0 m) [] (L.take 0) from ⟨rfl, (Own.of_row (ownsRow_of_blk (n := 0) (cap := m) (hs := []) hbl (Nat.le_refl _) rfl (Nat.zero_le _) (by unfold maxLen; omega) (by simp) rfl)).1, fun g hg => by simp [Value.ownBlock] at hg; omega, fun i u xs hu => by simp at hu, fun i j u u' _ hu => by simp at hu⟩)
  clear hi hz0 hz1 hz2 hown hgr
  go_wp2
  go_loopw [6, 7, 13] (fun _ _ i wr => ∃ (k : Nat) (hs : List Value), k ≤ m ∧ i = .int .i64 k ∧ hs.length = k ∧ Hid (SS wr w.heap.size wr.heap.size (.slice (some ⟨w.heap.size, 0, none⟩) k m) hs (L.take k)) ∧ Blk wr w.heap.size 24 (hs ++ List.replicate (m - k) nilS) ∧ Below w.heap.size w wr) (fun _ _ i _ => m - (intOf i).toNat)
  case atStart => exact ⟨0, [], Nat.zero_le _, rfl, rfl, HS0, hbl, hb1⟩
  case round =>
    obtain ⟨k, hs, hk, rfl, hhl, hS, hB, hbr⟩ := hrel
    clear HS0 hbl hb1
    by_cases hlt : k < m
    · have hlt' : (k : Int) < m := by omega
      have hkl : k < L.length := by rw [HML.out]; exact hlt
      have hmem := List.getElem_mem hkl
      have hq := hL.out _ hmem
      have hTK := List.take_succ_eq_append_getElem hkl
      have h9all : ∀ q ∈ L, q.length ≤ 9 := fun q hq => by have := hL.out q hq; omega
      obtain ⟨g, off, hadd, _, _, _⟩ := HV.out.at (by omega)
      subst hadd
      have hra := rowAt HV.out h9all k hkl (by omega)
      obtain ⟨q, hqe⟩ : ∃ q, L[k] = q := ⟨_, rfl⟩
      rw [hqe] at hra hq hTK
      have h9q : q.length ≤ 9 := by omega
      have HTK := Lib.hid hTK
      have h9t := twl_length _ h9q
      have hgl := hra.2
      have hrr : wr.rangeAt g (off + k * 9) (twl q) := range_below hra.1 hbr hgl
      have hsz : (Try.prog.info? 74).map (·.size) = some (twl q).length := by rw [Try.infoT, h9t]
      have hzero : Blk (wr.alloc (.cells (twl []).toArray 74)) wr.heap.size 74 (twl []) := Blk.new _ _ (twl []) _ rfl
      have cl := list_any q n
      have CL := Lib.hid (fun w => cl w hq.1 hq.2)
      have HHL := Lib.hid hhl
      have hsr := hbr.size
      have hlB := hB.lt
      clear cl hqe hmem hkl h9all hTK hra hq h9t hhl
      go_wp2_with (first | (refine wpList_load_mid rfl 74 _ rfl g (off + k * 9) rfl (twl q) _ hrr Try.underlying74 rfl hsz ?_) | (refine wpList_store_tower rfl _ _ rfl wr.heap.size [] q (by simp) h9q rfl rfl hzero ?_; intro w4 hbT4 hgr4; have hz4 := hbT4.lt) | (refine wpList_load_tower rfl _ rfl wr.heap.size q h9q rfl (by assumption) ?_))
      refine (CL.out w4).mono ?_
      rintro e w7 ⟨r7, rfl, ho7, hf7, hb7⟩
      obtain ⟨a7, c7, rfl, _, _, _⟩ := ho7.shape
      have hz4' := hgr4.size
      have hz7 := hb7.size
      have hzr : wr.heap.size < w4.heap.size := hz4
      have hB7 : Blk w7 w.heap.size 24 (hs ++ List.replicate (m - k) nilS) := ((hB.alloc _).grown hgr4 (by intro h; have := Option.some.inj h; omega)).below hb7 (by omega)
      have hbr4 := (hbr.alloc hsr (.cells (twl []).toArray 74)).grown hgr4 (by simp; omega) (by intro b hb; cases hb; exact hsr)
      have hbr7 := hbr4.trans (hb7.mono hbr4.size)
      have hHL := HHL.out
      have hset : (hs ++ List.replicate (m - k) nilS).set k (.slice a7 q.length c7) = (hs ++ [.slice a7 q.length c7]) ++ List.replicate (m - (k + 1)) nilS := by
        rw [List.set_append_right _ _ (by omega), hHL, Nat.sub_self, show m - k = (m - (k + 1)) + 1 by omega, List.replicate_succ, List.set_cons_zero, List.append_assoc]
        rfl
      have hB8 := hB7.set k (.slice a7 q.length c7)
      rw [hset] at hB8
      have hc7 := hB7.cell k
      rw [List.getElem?_append_right (by omega), hHL, Nat.sub_self, List.getElem?_replicate, if_pos (by omega)] at hc7
      have hf7' := hB7.frozen k
      have HI7 := Lib.hid (show In wr.heap.size w7.heap.size (.slice a7 q.length c7) from fun g hg => ⟨by have := hf7 g hg; omega, ho7.lt g hg⟩)
      have hgs : w7.grownBy (w7.setCell ⟨w.heap.size, k, none⟩ (.slice a7 q.length c7)) (some w.heap.size) := grownBy_setCell w7 w.heap.size k _
      have HS7 : SS w7 w.heap.size wr.heap.size (.slice (some ⟨w.heap.size, 0, none⟩) k m) hs (L.take k) := ((hS.out.below (below_new wr (.cells (twl []).toArray 74)) (Nat.le_refl _)).grown hgr4 (by simp) (by intro g hg; cases hg; right; exact Nat.le_refl _)).below hb7 (by omega)
      have hrow : (w7.setCell ⟨w.heap.size, k, none⟩ (.slice a7 q.length c7)).ownsRow w.heap.size 24 1 (.slice (some ⟨w.heap.size, 0, none⟩) (hs.length + 1) m) (hs.length + 1) (hs ++ [.slice a7 q.length c7]) :=
        ownsRow_of_blk hB8 (Nat.le_refl _) (by simp) (by omega) (by unfold maxLen; omega) (by simp; omega) (by rw [List.take_left' (by simp)])
      have hS8 := SS.app HS7 (by omega) ho7 HI7.out hrow hgs (.inl rfl) (by simp [World.setCell]; omega) (by omega)
      rw [← HTK.out, hHL] at hS8
      have HS8 := Lib.hid hS8
      have hbr8 := hbr7.setCell (p := ⟨w.heap.size, k, none⟩) (Nat.le_refl _) (.slice a7 q.length c7)
      have HL8 := Lib.hid (show (hs ++ [Value.slice a7 q.length c7]).length = k + 1 by simp [hHL])
      clear hS hB hgr4 hB7 hbr4 hbr7 hHL hset HI7 hgs HS7 hrow hS8 ho7 hf7 hb7 hbr hbT4 hrr hzero
      go_wp2
      go_roundw
      case rel => exact ⟨k + 1, _, by omega, by go_num, HL8.out, HS8, hB8, hbr8⟩
      case measure => simp [intOf] <;> omega
    · obtain rfl : k = m := by omega
      have HT := Lib.hid (show L.take k = L by rw [← HML.out]; exact List.take_length)
      have HF := Lib.hid (show SS wr w.heap.size wr.heap.size (.slice (some ⟨w.heap.size, 0, none⟩) k k) hs L by rw [← HT.out]; exact hS.out)
      clear hS hB
      go_wp2
      go_ret
      first | exact ⟨_, _, rfl, HF.out, hbr⟩ | exact ⟨_, rfl, ⟨_, HF.out⟩, hbr⟩

theorem tot_mStacksBefore (xs : List Int) : pre (mStacksBefore xs) (mStacksBefore xs).length ≤ 1048576 := by
  have h1 := pre_bound _ (mStacksBefore_rows xs)
  have h2 := mStacksBefore_length xs
  omega

end Go.Proofs.Ytlomdnldokbjoaa

