import Derived.Test.YtfcbaegkppkfkaaSS
import Derived.Test.YtfcbaegkppkfkaaH
namespace Go.Proofs.Ytfcbaegkppkfkaa
open Go Go.RowKit Go.Pan

theorem pre_le (xss : List (List Int)) : ∀ i, pre xss i ≤ pre xss xss.length := by
  intro i
  unfold pre
  rw [List.take_length]
  conv => rhs; rw [← List.take_append_drop i xss, List.map_append, List.sum_append]
  omega

set_option maxHeartbeats 400000 in
theorem markIntSS_any (v : Value) (B N : Nat) (hs : List Value) (xss : List (List Int)) (k : Int) (w : World) (hv : SS w B N v hs xss) (hn : xss.length ≤ 1048576) (hm : ∀ xs ∈ xss, xs.length ≤ 1048576) (ht : pre xss xss.length ≤ 1048576) (h0 : 0 ≤ k) (h1 : k ≤ 1048576) (hBw : B ≤ w.heap.size) :
    Calls Try.prog 14 #[v, .int .i64 k] w fun e w' => e = .returned (.int .i64 (k + (pre xss xss.length : Nat))) ∧ SS w' B N v hs (markAt xss k xss.length) ∧ Below B w w' := by
  obtain ⟨ad, cap, rfl, hc, _, _⟩ := hv.own.shape
  have hl := hv.len
  rw [hl] at hc hv ⊢
  have HT := Lib.hid ht
  have HM := Lib.hid hm
  clear ht hm
  go_enter Try.func14, Try.ntmps14
  go_wp2
  go_loopw [1, 5] (fun q i wr => ∃ j : Nat, j ≤ xss.length ∧ i = .int .i64 j ∧ q = .int .i64 (k + (pre xss j : Nat)) ∧ SS wr B N (.slice ad xss.length cap) hs (markAt xss k j) ∧ Below B w wr) (fun _ i _ => xss.length - (intOf i).toNat)
  case atStart => exact ⟨0, Nat.zero_le _, rfl, by simp [pre], by rw [markAt_zero]; exact hv, Below.refl _ _⟩
  case round =>
    obtain ⟨j, hj, rfl, rfl, ho, hbr⟩ := hrel
    by_cases hlt : j < xss.length
    · obtain ⟨g, off, rfl, u, hu, hou, hiu, _, hcell⟩ := ho.at j (by rw [markAt_length]; exact hlt)
      rw [markAt_old xss k j hlt] at hou
      obtain ⟨au, cu, rfl, _, _, _⟩ := hou.shape
      have HP := Lib.hid (pre_succ xss j hlt)
      have hpj : pre xss j ≤ 1048576 := Nat.le_trans (pre_le xss j) HT.out
      have hxl := HM.out _ (List.getElem_mem hlt)
      have HS := Lib.hid (fun (w' : World) (h1 : OwnI w' _ _) (h2 : wr.grownBy w' _) => SS.mark ho hlt hu h1 h2)
      have HI := Lib.hid hiu
      clear ho hu hv hiu
      go_wp2_with fail
      refine (markIntS_any _ xss[j].length _ (k + (pre xss j : Nat)) _ hou hxl (by omega) (by omega)).mono ?_
      rintro e w2 ⟨rfl, ho2, hg2⟩
      have hS2 := HS.out w2 ho2 hg2
      have hB2 := hbr.grown hg2 (Nat.le_trans hBw hbr.size) (fun g hg => (HI.out g hg).1)
      obtain ⟨q, hq⟩ : ∃ q : Int, k + (pre xss j : Nat) + (xss[j].length : Nat) = q := ⟨_, rfl⟩
      have HQ := Lib.hid (show q = k + (pre xss (j + 1) : Nat) by rw [HP.out]; omega)
      rw [hq]
      clear hou ho2 hg2 hbr hcell hq
      go_wp2
      go_roundw
      case rel => exact ⟨j + 1, by omega, by go_num, by rw [HQ.out], hS2, hB2⟩
      case measure => simp [intOf]; omega
    · obtain rfl : j = xss.length := by omega
      go_wp2
      go_ret
      exact ⟨rfl, ho, hbr⟩

set_option maxHeartbeats 400000 in
theorem heldIntSS_any (v : Value) (B N : Nat) (hs : List Value) (xss : List (List Int)) (k : Int) (w : World) (hv : SS w B N v hs (markAt xss k xss.length)) (hN : N ≤ w.heap.size) (hn : xss.length ≤ 1048576) (hm : ∀ xs ∈ xss, xs.length ≤ 1048576) (ht : pre xss xss.length ≤ 1048576) (h0 : 0 ≤ k) (h1 : k ≤ 1048576) :
    Calls Try.prog 15 #[v, .int .i64 k] w fun e w' => e = .returned (.int .i64 (k + (pre xss xss.length : Nat))) ∧ Below w.heap.size w w' := by
  obtain ⟨ad, cap, rfl, hc, _, _⟩ := hv.own.shape
  have hl := hv.len
  rw [markAt_length] at hl
  rw [hl] at hc hv ⊢
  have HT := Lib.hid ht
  have HM := Lib.hid hm
  clear ht hm
  go_enter Try.func15, Try.ntmps15
  go_wp2
  go_loopw [1, 5] (fun q i wr => ∃ j : Nat, j ≤ xss.length ∧ i = .int .i64 j ∧ q = .int .i64 (k + (pre xss j : Nat)) ∧ Below w.heap.size w wr) (fun _ i _ => xss.length - (intOf i).toNat)
  case atStart => exact ⟨0, Nat.zero_le _, rfl, by simp [pre], Below.refl _ _⟩
  case round =>
    obtain ⟨j, hj, rfl, rfl, hbr⟩ := hrel
    by_cases hlt : j < xss.length
    · have hvr := hv.below hbr hN
      obtain ⟨g, off, rfl, u, hu, hou, hiu, _, hcell⟩ := hvr.at j (by rw [markAt_length]; exact hlt)
      rw [markAt_get xss k j hlt _ hlt] at hou
      obtain ⟨au, cu, rfl, _, _, _⟩ := hou.shape
      have HP := Lib.hid (pre_succ xss j hlt)
      have hpj : pre xss j ≤ 1048576 := Nat.le_trans (pre_le xss j) HT.out
      have hxl := HM.out _ (List.getElem_mem hlt)
      clear hu hv hiu hvr
      go_wp2_with fail
      refine (heldIntS_any _ xss[j].length (k + (pre xss j : Nat)) _ hou hxl (by omega) (by omega)).mono ?_
      rintro e w2 ⟨rfl, hb2⟩
      have hB2 := hbr.trans (hb2.mono hbr.size)
      obtain ⟨q, hq⟩ : ∃ q : Int, k + (pre xss j : Nat) + (xss[j].length : Nat) = q := ⟨_, rfl⟩
      have HQ := Lib.hid (show q = k + (pre xss (j + 1) : Nat) by rw [HP.out]; omega)
      have hnn : 0 ≤ q := by omega
      rw [hq]
      clear hou hb2 hbr hcell hq
      go_wp2
      go_roundw
      case rel => exact ⟨j + 1, by omega, by go_num, by rw [HQ.out], hB2⟩
      case measure => simp [intOf]; omega
    · obtain rfl : j = xss.length := by omega
      clear hv
      go_wp2
      go_ret
      exact ⟨rfl, hbr⟩

set_option maxHeartbeats 800000 in
theorem eqIntSS_any (v u : Value) (B N B' N' : Nat) (hs hs' : List Value) (xss : List (List Int)) (w : World) (hv : SS w B N v hs xss) (hN : N ≤ w.heap.size) (hu : SS w B' N' u hs' xss) (hN' : N' ≤ w.heap.size) (hn : xss.length ≤ 1048576) (hm : ∀ xs ∈ xss, xs.length ≤ 1048576) :
    Calls Try.prog 11 #[v, u] w fun e w' => e = .returned (.bool true) ∧ Below w.heap.size w w' := by
  obtain ⟨ad, cap, rfl, hc, _, _⟩ := hv.own.shape
  obtain ⟨ad', cap', rfl, hc', _, _⟩ := hu.own.shape
  have hl := hv.len
  have hl' := hu.len
  rw [hl] at hc hv ⊢
  rw [hl'] at hc' hu ⊢
  have HM := Lib.hid hm
  clear hm
  go_enter Try.func11, Try.ntmps11
  go_wp2
  go_loopw [5] (fun i wr => ∃ j : Nat, j ≤ xss.length ∧ i = .int .i64 j ∧ Below w.heap.size w wr) (fun i _ => xss.length - (intOf i).toNat)
  case atStart => exact ⟨0, Nat.zero_le _, rfl, Below.refl _ _⟩
  case round =>
    obtain ⟨j, hj, rfl, hbr⟩ := hrel
    by_cases hlt : j < xss.length
    · obtain ⟨g, off, rfl, x, hx, hox, _, _, hcell⟩ := (hv.below hbr hN).at j hlt
      obtain ⟨g', off', rfl, y, hy, hoy, _, _, hcell'⟩ := (hu.below hbr hN').at j hlt
      obtain ⟨ax, cx, rfl, _, _, _⟩ := hox.shape
      obtain ⟨ay, cy, rfl, _, _, _⟩ := hoy.shape
      have hxl := HM.out _ (List.getElem_mem hlt)
      have hbd := hbr.drew
      have hsz := hbr.size
      have hox' : OwnI wr.drew _ _ := hox.drew
      have hoy' : OwnI wr.drew _ _ := hoy.drew
      have c := eqIntS_any _ _ _ _ wr.drew (OwnI.ints hox') (OwnI.ints hoy') hxl hxl
      rw [decide_eq_true rfl] at c
      have C := Lib.hid c
      clear hx hy hv hu c hox hoy hox' hoy'
      have hlg := World.block_lt_of_cell? _ _ hcell
      have hlg' := World.block_lt_of_cell? _ _ hcell'
      have HLG := Lib.hid hlg
      have HLG' := Lib.hid hlg'
      clear hlg hlg'
      go_wp2
      go_region_held3 (fun w' => w'.cell? ⟨g, off + j, none⟩ = some (.slice ax xss[j].length cx) ∧ w'.cell? ⟨g', off' + j, none⟩ = some (.slice ay xss[j].length cy)) (first | go_keep | (exact ⟨(hb2.cell (p := ⟨g, off + j, none⟩) HLG.out).trans hcell, (hb2.cell (p := ⟨g', off' + j, none⟩) HLG'.out).trans hcell'⟩)) ((go_at_call 12; refine C.out.mono ?_; rintro e w2 ⟨rfl, hb2⟩))
      go_wp2
      have hB2 := hbd.trans (hb2.mono hsz)
      go_roundw
      case rel => exact ⟨j + 1, by omega, by go_num, hB2⟩
      case measure => simp [intOf]; omega
    · obtain rfl : j = xss.length := by omega
      clear hv hu
      go_wp2
      go_ret
      exact ⟨rfl, hbr⟩

end Go.Proofs.Ytfcbaegkppkfkaa

