import Derived.Test.YtocccocpacohaabHR
namespace Go.Proofs.Ytocccocpacohaab
open Go Go.RowKit Go.Pan

theorem set_mid (A X D : List Value) (k : Nat) (u : Value) (h : k < X.length) : (A ++ X ++ D).set (A.length + k) u = A ++ X.set k u ++ D := by
  rw [List.append_assoc, List.set_append_right _ _ (by omega), Nat.add_sub_cancel_left, List.set_append_left _ _ h, ← List.append_assoc]
theorem get_mid (A X D : List Value) (k : Nat) (h : k < X.length) : (A ++ X ++ D)[A.length + k]? = some X[k] := by
  rw [List.append_assoc, List.getElem?_append_right (by omega), Nat.add_sub_cancel_left, List.getElem?_append_left h, List.getElem?_eq_getElem h]

set_option maxHeartbeats 400000 in
theorem markIntS_blk (g : Nat) (ty : TypeId) (A C D : List Value) (o n cap : Nat) (k0 : Int) (w : World) (hv : Blk w g ty (A ++ C ++ D)) (hA : A.length = o) (hC : C.length = n) (hn : n ≤ 1048576) (h0 : 0 ≤ k0) (h1 : k0 ≤ 1099511627776) (hc : n ≤ cap) :
    Calls Try.prog 22 #[.slice (some ⟨g, o, none⟩) n cap, .int .i64 k0] w fun e w' => e = .returned (.int .i64 (k0 + n)) ∧ Blk w' g ty (A ++ (ramp k0 n).map iv ++ D) ∧ w.grownBy w' (some g) := by
  have HA := Lib.hid hA
  have HC := Lib.hid hC
  clear hA hC
  go_enter Try.func22, Try.ntmps22
  go_wp2
  go_loopw [1, 5] (fun q i wr => ∃ k : Nat, k ≤ n ∧ i = .int .i64 k ∧ q = .int .i64 (k0 + k) ∧ Blk wr g ty (A ++ ((ramp k0 k).map iv ++ C.drop k) ++ D) ∧ w.grownBy wr (some g)) (fun _ i _ => n - (intOf i).toNat)
  case atStart => exact ⟨0, Nat.zero_le _, rfl, by simp, by simpa [ramp] using hv, World.grownBy.refl _ _⟩
  case round =>
    obtain ⟨k, hk, rfl, rfl, ho, hg⟩ := hrel
    by_cases hlt : k < n
    · have hlX : ((ramp k0 k).map iv ++ C.drop k).length = n := by simp [ramp, HC.out]; omega
      have hck := ho.cell (o + k)
      have hfk := ho.frozen (o + k)
      have hst := ho.set (o + k) (iv (k0 + k))
      rw [← HA.out] at hck hst
      rw [get_mid _ _ _ k (by omega)] at hck
      rw [set_mid _ _ _ k _ (by omega), mark_step C k0 k (by rw [HC.out]; exact hlt)] at hst
      rw [HA.out] at hck hst
      have hg2 : w.grownBy (wr.setCell ⟨g, o + k, none⟩ (iv (k0 + k))) (some g) := grown_set (off := 0) (n := 0) (cap := 0) hg (o + k) (iv (k0 + k))
      obtain ⟨c0, hc0⟩ : ∃ c, wr.cell? ⟨g, o + k, none⟩ = some c := ⟨_, hck⟩
      clear hck hlX ho hv hg
      go_wp2
      go_roundw
      case rel => exact ⟨k + 1, by omega, by go_num, by go_num, hst, hg2⟩
      case measure => simp [intOf]; omega
    · obtain rfl : k = n := by omega
      have he : C.drop k = [] := by rw [List.drop_eq_nil_iff, HC.out]; exact Nat.le_refl _
      rw [he, List.append_nil] at ho
      clear he hv
      go_wp2
      go_ret
      exact ⟨rfl, ho, hg⟩

theorem RR.mark {w w' : World} {B N g : Nat} {ty : TypeId} {post : List Value} {v : Value} {hs : List Value} {xss : List (List Int)} {k : Int} {i : Nat} (h : RR w B N v hs (markAt xss k i) g ty post) (hi : i < xss.length)
    (ho : Blk w' g ty ((((markAt xss k i).take i).flatten.map iv) ++ (ramp (k + (pre xss i : Int)) xss[i].length).map iv ++ ((((markAt xss k i).drop (i + 1)).flatten.map iv) ++ post))) (hg : w.grownBy w' (some g)) : RR w' B N v hs (markAt xss k (i + 1)) g ty post := by
  have hl : i < (markAt xss k i).length := by rw [markAt_length]; exact hi
  refine ⟨by rw [h.len, markAt_length, markAt_length], h.own.grown hg (fun g' hg' e => h.ne (by rw [hg', ← e])), h.inn, h.bd, h.ne, ?_, fun j hj => ?_⟩
  · rw [markAt_set xss k i hi, flat_split _ i (by rw [List.length_set]; exact hl), List.take_set_of_le (Nat.le_refl _), List.drop_set_of_lt (Nat.lt_succ_self _), List.getElem_set_self]
    simpa [List.map_append, List.append_assoc] using ho
  · have hj' : j < xss.length := by rw [markAt_length] at hj; exact hj
    have hr := h.row j (by rw [markAt_length]; exact hj')
    simp only [len_markAt xss k _ j hj', pre_markAt] at hr ⊢
    exact hr

set_option maxHeartbeats 400000 in
theorem markIntRR_any (v : Value) (B N g : Nat) (ty : TypeId) (post hs : List Value) (xss : List (List Int)) (k : Int) (w : World) (hv : RR w B N v hs xss g ty post) (hn : xss.length ≤ 1048576) (hm : ∀ xs ∈ xss, xs.length ≤ 1048576) (ht : pre xss xss.length ≤ 1048576) (h0 : 0 ≤ k) (h1 : k ≤ 1048576) (hBw : B ≤ w.heap.size) :
    Calls Try.prog 31 #[v, .int .i64 k] w fun e w' => e = .returned (.int .i64 (k + (pre xss xss.length : Nat))) ∧ RR w' B N v hs (markAt xss k xss.length) g ty post ∧ Below B w w' := by
  obtain ⟨ad, cap, rfl, hc, _, _⟩ := hv.own.shape
  have hl := hv.len
  rw [hl] at hc hv ⊢
  have HT := Lib.hid ht
  have HM := Lib.hid hm
  have hBg := hv.bd.1
  clear ht hm
  go_enter Try.func31, Try.ntmps31
  go_wp2
  go_loopw [1, 5] (fun q i wr => ∃ j : Nat, j ≤ xss.length ∧ i = .int .i64 j ∧ q = .int .i64 (k + (pre xss j : Nat)) ∧ RR wr B N (.slice ad xss.length cap) hs (markAt xss k j) g ty post ∧ Below B w wr) (fun _ i _ => xss.length - (intOf i).toNat)
  case atStart => exact ⟨0, Nat.zero_le _, rfl, by simp [pre], by rw [markAt_zero]; exact hv, Below.refl _ _⟩
  case round =>
    obtain ⟨j, hj, rfl, rfl, ho, hbr⟩ := hrel
    by_cases hlt : j < xss.length
    · have hlm : j < (markAt xss k j).length := by rw [markAt_length]; exact hlt
      have hown2 := ho.own
      rw [ho.len, markAt_length] at hown2
      obtain ⟨ga, off, rfl, _, hcc, _⟩ := Own.at hown2 (by omega)
      have hcell := hcc j (by omega)
      have hr := ho.row j hlm
      rw [hr] at hcell
      have hle : (markAt xss k j)[j].length = xss[j].length := len_markAt xss k j j hlt
      rw [hle, pre_markAt] at hcell
      have HP := Lib.hid (pre_succ xss j hlt)
      have hpj : pre xss j ≤ 1048576 := Nat.le_trans (pre_le xss j) HT.out
      have hxl := HM.out _ (List.getElem_mem hlt)
      have hblk := ho.blk
      rw [flat_split _ j hlm, List.map_append, List.map_append, List.append_assoc] at hblk
      have HB := Lib.hid hblk
      have HL1 := Lib.hid (show (((markAt xss k j).take j).flatten.map iv).length = pre xss j by rw [List.length_map, take_flat_length, pre_markAt])
      have HL2 := Lib.hid (show ((markAt xss k j)[j].map iv).length = xss[j].length by rw [List.length_map, hle])
      have HS := Lib.hid (fun (w' : World) (h1 : Blk w' g ty _) (h2 : wr.grownBy w' _) => RR.mark ho hlt h1 h2)
      clear ho hv hcc hr hle hblk hown2
      go_wp2_with fail
      refine (markIntS_blk g ty _ _ _ _ _ _ (k + (pre xss j : Nat)) _ HB.out HL1.out HL2.out hxl (by omega) (by omega) (Nat.le_refl _)).mono ?_
      rintro e w2 ⟨rfl, ho2, hg2⟩
      have hS2 := HS.out w2 ho2 hg2
      have hB2 := hbr.grown hg2 (Nat.le_trans hBw hbr.size) (fun b hb => by cases hb; exact hBg)
      obtain ⟨q, hq⟩ : ∃ q : Int, k + (pre xss j : Nat) + (xss[j].length : Nat) = q := ⟨_, rfl⟩
      have HQ := Lib.hid (show q = k + (pre xss (j + 1) : Nat) by rw [HP.out]; omega)
      rw [hq]
      clear ho2 hg2 hbr hcell hq
      go_wp2
      go_roundw
      case rel => exact ⟨j + 1, by omega, by go_num, by rw [HQ.out], hS2, hB2⟩
      case measure => simp [intOf]; omega
    · obtain rfl : j = xss.length := by omega
      go_wp2
      go_ret
      exact ⟨rfl, ho, hbr⟩

end Go.Proofs.Ytocccocpacohaab
