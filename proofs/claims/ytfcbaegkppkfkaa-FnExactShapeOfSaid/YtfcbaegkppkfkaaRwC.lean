import Derived.Test.YtfcbaegkppkfkaaRwI
import Derived.Test.YtfcbaegkppkfkaaI2
import Derived.Lib.SliceRun
namespace Go.Proofs.Ytfcbaegkppkfkaa
open Go Go.RowKit Go.Pan

theorem ownsRow_ofBlkR {w : World} {B g n cap : Nat} {ty : TypeId} {cs hs : List Value} (h : Blk w g ty cs) (hB : B ≤ g) (hn : hs.length = n) (hnc : n ≤ cap) (hcm : cap ≤ maxLen) (hl : cs.length = cap) (ht : cs.take n = hs) : w.ownsRow B ty 1 (.slice (some ⟨g, 0, none⟩) n cap) n hs :=
  ⟨by omega, .inr ⟨g, cap, cs.toArray, rfl, hB, h, hnc, hcm, by simp [hl], by simpa using ht⟩⟩

set_option maxHeartbeats 1600000 in
theorem CloneR_any (v : Value) (xs : List Int) (w : World) (hv : OwnI w v xs) (h1 : 1 ≤ xs.length) (hn : xs.length ≤ 1048576) :
    Calls Try.prog 56 #[v] w fun e w' => ∃ r, e = .returned r ∧ OwnI w' r xs ∧ From w.heap.size r ∧ Below w.heap.size w w' := by
  obtain ⟨ad, cap, rfl, hc, _, _⟩ := hv.shape
  have hs := Own.src hv
  obtain ⟨g0, off, rfl, _, _, _⟩ := hv.at (by omega)
  have qT : ∀ (w : World) (a : Option Addr) (n c n' c' : Nat), (binOp .eql 22 (.slice a n c) (.slice none n' c')).run Try.prog w = .ok (.bool a.isNone) w := fun w a n c n' c' => Lib.run_eql_slice_nil w _ _ a n c n' c' Try.underlying22
  go_enter Try.func56, Try.ntmps56
  go_wp2_with (at_builtin; refine wpList_appI Try.intSl rfl _ _ rfl (.slice (some ⟨w.heap.size, 0, none⟩) 0 0) [] rfl (OwnI.lit w _ [] 0 rfl (by simp) _ rfl) w.heap.size (From.at _ _ _ _ _ (Nat.le_refl _)) (some ⟨g0, off, none⟩) xs.length cap xs rfl rfl (hs.alloc _) w (below_new w _) (by simp) (by simp) hn ?_)
  intro v' w1 ho hf hb _
  go_wp2
  go_ret
  exact ⟨_, rfl, by simpa using ho, hf, hb⟩

set_option maxHeartbeats 4000000 in
set_option maxRecDepth 100000 in
theorem copies_any (v : Value) (hs0 : List Value) (L : List (List Int)) (w : World) (B N : Nat) (hv : SS w B N v hs0 L) (hN : N ≤ w.heap.size) (hL : Hid (∀ q ∈ L, 1 ≤ q.length ∧ q.length ≤ 9)) (hm : L.length ≤ 1048576) :
    Calls Try.prog 41 #[v] w fun e w' => ∃ r hs, e = .returned r ∧ SS w' w.heap.size w'.heap.size r hs L ∧ Below w.heap.size w w' := by
  obtain ⟨ad, cap, rfl, hcc, hcm, hnil⟩ := hv.own.shape
  have hl0 := hv.len
  obtain ⟨i0, hi, hz0, hz1, hz2⟩ := info_parts Try.info22
  have HV := Lib.hid hv
  obtain ⟨m, hml⟩ : ∃ m, L.length = m := ⟨_, rfl⟩
  have HML := Lib.hid hml
  have HL0 := Lib.hid (show hs0.length = m by rw [hl0]; exact hml)
  rw [hml] at hm
  rw [HL0.out] at hcc HV ⊢
  clear hv hml hl0
  go_enter Try.func41, Try.ntmps41
  go_wp2_with (at_make; refine wpList_make_full _ rfl _ _ 23 rfl w.heap.size 22 i0 (.slice none 0 0) 1 Try.underlying23 hi hz0 hz1 _ _ _ _ m rfl rfl rfl rfl ?b1 ?b2 ?b3 ?_)
  case b1 => rw [hz2]; omega
  case b2 => unfold maxLen; omega
  case b3 => exact Nat.le_refl _
  intro w1 hown hgr
  have hb1 : Below w.heap.size w w1 := (Below.refl _ _).grown hgr (Nat.le_refl _) (by intro k hk; cases hk)
  have hbl : Blk w1 w.heap.size 22 ([] ++ List.replicate (m - 0) (.slice none 0 0)) := by
    have := (Blk.of_row hown).1
    simpa [toList_madeCells_one] using this
  have hl1 := hbl.lt
  have HS0 := Lib.hid (show SS w1 w.heap.size w1.heap.size (.slice (some ⟨w.heap.size, 0, none⟩) 0 m) [] (L.take 0) from ⟨rfl, (Own.of_row (ownsRow_ofBlkR (n := 0) (cap := m) (hs := []) hbl (Nat.le_refl _) rfl (Nat.zero_le _) (by unfold maxLen; omega) (by simp) rfl)).1, fun g hg => by simp [Value.ownBlock] at hg; omega, fun i u xs hu => by simp at hu, fun i j u u' _ hu => by simp at hu⟩)
  clear hi hz0 hz1 hz2 hown hgr
  go_wp2
  go_loopw [4, 5, 11] (fun _ _ i wr => ∃ (k : Nat) (hs : List Value), k ≤ m ∧ i = .int .i64 k ∧ hs.length = k ∧ Hid (SS wr w.heap.size wr.heap.size (.slice (some ⟨w.heap.size, 0, none⟩) k m) hs (L.take k)) ∧ Blk wr w.heap.size 22 (hs ++ List.replicate (m - k) (.slice none 0 0)) ∧ Below w.heap.size w wr) (fun _ _ i _ => m - (intOf i).toNat)
  case atStart => exact ⟨0, [], Nat.zero_le _, rfl, rfl, HS0, hbl, hb1⟩
  case round =>
    obtain ⟨k, hs, hk, rfl, hhl, hS, hB, hbr⟩ := hrel
    clear HS0 hbl hb1
    by_cases hlt : k < m
    · have hlt' : (k : Int) < m := by omega
      have hkl : k < L.length := by rw [HML.out]; exact hlt
      have hmem := List.getElem_mem hkl
      have hq := hL.out _ hmem
      have hTK := List.take_succ_eq_append_getElem hkl
      have hVR := HV.out.below hbr hN
      have hown0 := hVR.own
      obtain ⟨u, hu⟩ : ∃ u, hs0[k]? = some u := ⟨_, List.getElem?_eq_getElem (by rw [HL0.out]; exact hlt)⟩
      have hrow := (hVR.row k u _ hu (List.getElem?_eq_getElem hkl)).1
      rw [HL0.out] at hown0
      obtain ⟨g, off, hadd, hgl, hcc0, _⟩ := hown0.at (by omega)
      subst hadd
      have hck := (hcc0 k (by omega)).trans hu
      obtain ⟨q, hqe⟩ : ∃ q, L[k] = q := ⟨_, rfl⟩
      rw [hqe] at hq hTK hrow
      have HTK := Lib.hid hTK
      have HHL := Lib.hid hhl
      have hsr := hbr.size
      have hlB := hB.lt
      obtain ⟨ua, uc, rfl, _, _, _⟩ := hrow.shape
      have CL := Lib.hid (CloneR_any _ q wr hrow hq.1 (by omega))
      clear hqe hmem hkl hTK hq hhl hu hVR hown0 hcc0
      go_wp2_with fail
      refine CL.out.mono ?_
      rintro e w6 ⟨r6, rfl, ho6, hf6, hb6⟩
      go_wp2_with fail
      refine (Clip_any r6 q w6 ho6).mono ?_
      rintro e w7 ⟨r7, rfl, ho7, hob, rfl⟩
      have hf7 : From wr.heap.size r7 := fun g hg => hf6 g (by rw [← hob]; exact hg)
      obtain ⟨a7, c7, rfl, _, _, _⟩ := ho7.shape
      have hz7 := hb6.size
      have hB7 : Blk w6 w.heap.size 22 (hs ++ List.replicate (m - k) (.slice none 0 0)) := hB.below hb6 hlB
      have hbr7 := hbr.trans (hb6.mono hbr.size)
      have hHL := HHL.out
      have hset : (hs ++ List.replicate (m - k) (Value.slice none 0 0)).set k (.slice a7 q.length c7) = (hs ++ [.slice a7 q.length c7]) ++ List.replicate (m - (k + 1)) (.slice none 0 0) := by
        rw [List.set_append_right _ _ (by omega), hHL, Nat.sub_self, show m - k = (m - (k + 1)) + 1 by omega, List.replicate_succ, List.set_cons_zero, List.append_assoc]
        rfl
      have hB8 := hB7.set k (.slice a7 q.length c7)
      rw [hset] at hB8
      have hc7 := hB7.cell k
      rw [List.getElem?_append_right (by omega), hHL, Nat.sub_self, List.getElem?_replicate, if_pos (by omega)] at hc7
      have hf7' := hB7.frozen k
      have HI7 := Lib.hid (show In wr.heap.size w6.heap.size (.slice a7 q.length c7) from fun g hg => ⟨hf7 g hg, ho7.lt g hg⟩)
      have hgs : w6.grownBy (w6.setCell ⟨w.heap.size, k, none⟩ (.slice a7 q.length c7)) (some w.heap.size) := grownBy_setCell w6 w.heap.size k _
      have HS7 : SS w6 w.heap.size wr.heap.size (.slice (some ⟨w.heap.size, 0, none⟩) k m) hs (L.take k) := hS.out.below hb6 (Nat.le_refl _)
      have hrow : (w6.setCell ⟨w.heap.size, k, none⟩ (.slice a7 q.length c7)).ownsRow w.heap.size 22 1 (.slice (some ⟨w.heap.size, 0, none⟩) (hs.length + 1) m) (hs.length + 1) (hs ++ [.slice a7 q.length c7]) :=
        ownsRow_ofBlkR hB8 (Nat.le_refl _) (by simp) (by omega) (by unfold maxLen; omega) (by simp; omega) (by rw [List.take_left' (by simp)])
      have hS8 := SS.app HS7 (by omega) ho7 HI7.out hrow hgs (.inl rfl) (by simp [World.setCell]; omega) (by omega)
      rw [← HTK.out, hHL] at hS8
      have HS8 := Lib.hid hS8
      have hbr8 := hbr7.setCell (p := ⟨w.heap.size, k, none⟩) (Nat.le_refl _) (.slice a7 q.length c7)
      have HL8 := Lib.hid (show (hs ++ [Value.slice a7 q.length c7]).length = k + 1 by simp [hHL])
      clear hS hB hB7 hbr7 hHL hset HI7 hgs HS7 hrow hS8 ho7 hf7 hb6 hbr ho6 hf6 hob
      go_wp2
      go_roundw
      case rel => exact ⟨k + 1, _, by omega, by go_num, HL8.out, HS8, hB8, hbr8⟩
      case measure => simp [intOf] <;> omega
    · obtain rfl : k = m := by omega
      have HT := Lib.hid (show L.take k = L by rw [← HML.out]; exact List.take_length)
      have HF := Lib.hid (show SS wr w.heap.size wr.heap.size (.slice (some ⟨w.heap.size, 0, none⟩) k k) hs L by rw [← HT.out]; exact hS.out)
      clear hS hB
      go_wp2
      go_ret
      first | exact ⟨_, _, rfl, HF.out, hbr⟩ | exact ⟨_, rfl, ⟨_, HF.out⟩, hbr⟩

end Go.Proofs.Ytfcbaegkppkfkaa
