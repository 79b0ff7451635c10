import Derived.Test.YtdkidfilnbglgaaTIn
import Derived.Test.YtdkidfilnbglgaaS2
import Derived.Test.YtdkidfilnbglgaaV2
import Derived.Test.YtdkidfilnbglgaaSl
import Derived.Deep.DeepCutAuto
namespace Go.Pan
-- insertions
def delL (xs : List Int) (a : Nat) : List Int := xs.take a ++ xs.drop (a + 1)
theorem delL_length {xs : List Int} {a : Nat} (h : a < xs.length) : (delL xs a).length = xs.length - 1 := by unfold delL; simp; omega
def insL (xs : List Int) (a b : Nat) : List Int := (delL xs a).take b ++ [xs.getD a 0] ++ (delL xs a).drop b
theorem insL_length {xs : List Int} {a b : Nat} (h : a < xs.length) : (insL xs a b).length = xs.length := by
  have := delL_length h
  unfold insL
  simp
  omega
theorem insL_perm {xs : List Int} {a b : Nat} (h : a < xs.length) : (insL xs a b).Perm xs := by
  have h1 : (insL xs a b).Perm ([xs.getD a 0] ++ (delL xs a)) := by
    unfold insL
    have h2 := (List.perm_append_comm (l₁ := (delL xs a).take b) (l₂ := [xs.getD a 0])).append_right ((delL xs a).drop b)
    rw [List.append_assoc [xs.getD a 0], List.take_append_drop] at h2
    exact h2
  have h3 : xs = xs.take a ++ ([xs.getD a 0] ++ xs.drop (a + 1)) := by
    rw [getD_eq h, List.singleton_append, List.getElem_cons_drop, List.take_append_drop]
  refine h1.trans ?_
  have h4 : ([xs.getD a 0] ++ delL xs a).Perm (xs.take a ++ ([xs.getD a 0] ++ xs.drop (a + 1))) := by
    unfold delL
    rw [← List.append_assoc, ← List.append_assoc]
    exact (List.perm_append_comm).append_right _
  rw [← h3] at h4
  exact h4
def insT (xs : List Int) (p : Int × Int) : List Int := insL xs (p.1 - 1).toNat (p.2 - 1).toNat
def insB (n : Int) (p : Int × Int) : Bool := inB p.1 1 n && inB p.2 1 n
theorem insB_iff {n : Int} {p : Int × Int} : insB n p = true ↔ 1 ≤ p.1 ∧ p.1 ≤ n ∧ 1 ≤ p.2 ∧ p.2 ≤ n := by
  simp only [insB, Bool.and_eq_true, inB_iff]
  omega
theorem insT_perm {xs : List Int} {p : Int × Int} (h : insB xs.length p = true) : (insT xs p).Perm xs := insL_perm (by have := insB_iff.1 h; omega)
theorem insT_length {xs : List Int} {n : Int} {p : Int × Int} (h : insB n p = true) (hn : (xs.length : Int) = n) : (insT xs p).length = xs.length := (insT_perm (by rw [hn]; exact h)).length_eq
def playI (xs : List Int) (l : List (Int × Int)) : List Int := l.foldl insT xs
theorem playI_snoc (xs : List Int) (l : List (Int × Int)) (p : Int × Int) : playI xs (l ++ [p]) = insT (playI xs l) p := by simp [playI]
theorem playI_take_succ (xs : List Int) (l : List (Int × Int)) (k : Nat) (h : k < l.length) : playI xs (l.take (k + 1)) = insT (playI xs (l.take k)) l[k] := by
  rw [List.take_succ_eq_append_getElem h, playI_snoc]
def Inss (n : Int) (l : List (Int × Int)) : Prop := ∀ p ∈ l, insB n p = true
theorem playI_perm {n : Int} : ∀ (l : List (Int × Int)) (xs : List Int), (xs.length : Int) = n → Inss n l → (playI xs l).Perm xs
  | [], _, _, _ => List.Perm.refl _
  | p :: l, xs, hn, h => by
    have h1 := insT_perm (xs := xs) (p := p) (by rw [hn]; exact h p (List.mem_cons_self))
    exact (playI_perm l (insT xs p) (by rw [h1.length_eq]; exact hn) (fun q hq => h q (List.mem_cons_of_mem _ hq))).trans h1
theorem playI_length {l : List (Int × Int)} {xs : List Int} (h : Inss xs.length l) : (playI xs l).length = xs.length := (playI_perm l xs rfl h).length_eq
instance (n : Int) (l : List (Int × Int)) : Decidable (Inss n l) := by unfold Inss; infer_instance
def inssB (n : Int) (l : List (Int × Int)) : Bool := decide (Inss n l)
theorem inssB_iff {n : Int} {l : List (Int × Int)} : inssB n l = true ↔ Inss n l := by simp [inssB]
theorem Inss.snoc {n : Int} {l : List (Int × Int)} {p : Int × Int} (h : Inss n l) (hp : insB n p = true) : Inss n (l ++ [p]) := fun q hq => by
  rcases List.mem_append.1 hq with h1 | h1
  · exact h q h1
  · obtain rfl := List.mem_singleton.1 h1; exact hp
-- what the functions return
def okMove (xs : List Int) (p : Int × Int) : Bool := goodB xs && insB xs.length p
def mMoveOne (xs : List Int) (p : Int × Int) : List Int := if okMove xs p = true then insT xs p else []
def okMoves (xs : List Int) (l : List (Int × Int)) : Bool := goodB xs && (decide ((l.length : Int) ≤ 40) && inssB xs.length l)
def mPlayMoves (xs : List Int) (l : List (Int × Int)) : List Int := if okMoves xs l = true then playI xs l else []
theorem len_mMoveOne (xs : List Int) (p : Int × Int) : (mMoveOne xs p).length ≤ 1048576 := by
  unfold mMoveOne
  split
  · rename_i h
    simp only [okMove, Bool.and_eq_true, goodB_iff] at h
    rw [insT_length h.2 rfl]; have := h.1.le9; omega
  · simp
theorem len_mPlayMoves (xs : List Int) (l : List (Int × Int)) : (mPlayMoves xs l).length ≤ 1048576 := by
  unfold mPlayMoves
  split
  · rename_i h
    simp only [okMoves, Bool.and_eq_true, goodB_iff, inssB_iff] at h
    rw [playI_length h.2.2]; have := h.1.le9; omega
  · simp
end Go.Pan
namespace Go.Proofs.Ytdkidfilnbglgaa
open Go Go.RowKit Go.Pan

theorem OwnI.take0 {w : World} {ad : Option Addr} {cap a : Nat} {xs T : List Int} (h : OwnI w (.slice ad xs.length cap) xs) (hT : xs.take a = T) (ha : a ≤ xs.length) : OwnI w (.slice ad a cap) T := by
  subst hT
  exact OwnI.take h ha

theorem inMove_any (n : Int) (p : Int × Int) (w : World) :
    Calls Try.prog 82 #[.int .i64 n, .agg #[.int .i64 p.1, .int .i64 p.2]] w fun e w' => e = .returned (.bool (insB n p)) ∧ Below w.heap.size w w' := by
  have hb0 : Below w.heap.size w (w.alloc (.cells #[.int .i64 p.1, .int .i64 p.2] 28)) := below_new w _
  have c1 := fun w => l1In_any p.1 1 n w
  have c2 := fun w => l1In_any p.2 1 n w
  cases h1 : inB p.1 1 n with
  | false =>
    have HR := Lib.hid (show insB n p = false by unfold insB; rw [h1]; rfl)
    simp only [h1] at c1
    clear h1
    go_enter Try.func82, Try.ntmps82
    go_wp2_with fail
    refine (c1 _).mono ?_
    rintro e w1 ⟨rfl, rfl⟩
    go_wp2
    go_ret
    exact ⟨by rw [HR.out]; rfl, hb0⟩
  | true =>
    have HR := Lib.hid (show insB n p = inB p.2 1 n by unfold insB; rw [h1]; rfl)
    simp only [h1] at c1
    obtain ⟨b, hb⟩ : ∃ b, inB p.2 1 n = b := ⟨_, rfl⟩
    simp only [hb] at c2
    rw [hb] at HR
    clear h1 hb
    go_enter Try.func82, Try.ntmps82
    go_wp2_with fail
    refine (c1 _).mono ?_
    rintro e w1 ⟨rfl, rfl⟩
    go_wp2_with fail
    refine (c2 _).mono ?_
    rintro e w1 ⟨rfl, rfl⟩
    go_wp2
    go_ret
    exact ⟨by rw [HR.out]; rfl, hb0⟩

set_option maxHeartbeats 4000000 in
set_option maxRecDepth 100000 in
theorem inMake_any (v : Value) (xs : List Int) (n : Int) (p : Int × Int) (w : World) (hv : OwnI w v xs) (hn : xs.length ≤ 1048576) (hp : Hid (insB n p = true)) (hl : Hid ((xs.length : Int) = n)) :
    Calls Try.prog 83 #[v, .agg #[.int .i64 p.1, .int .i64 p.2]] w fun e w' => ∃ r, e = .returned r ∧ OwnI w' r (insT xs p) ∧ From w.heap.size r ∧ Below w.heap.size w w' := by
  have hB := insB_iff.1 hp.out
  have hln := hl.out
  obtain ⟨p0, p1⟩ := p
  simp only at hB
  obtain ⟨a, rfl⟩ : ∃ a : Nat, p0 = (a : Int) + 1 := ⟨(p0 - 1).toNat, by omega⟩
  obtain ⟨b, rfl⟩ : ∃ b : Nat, p1 = (b : Int) + 1 := ⟨(p1 - 1).toNat, by omega⟩
  have ha : a < xs.length := by omega
  have hb : b < xs.length := by omega
  have hE : insT xs ((a : Int) + 1, (b : Int) + 1) = insL xs a b := by
    unfold insT
    simp only
    rw [show ((a : Int) + 1 - 1).toNat = a by omega, show ((b : Int) + 1 - 1).toNat = b by omega]
  obtain ⟨ad0, cap, rfl, hc, _, _⟩ := hv.shape
  obtain ⟨g, off, had, hgl, hcell, _⟩ := hv.at (by omega)
  subst had
  have hca := hcell a (by omega)
  rw [List.getElem?_map, List.getElem?_eq_getElem ha] at hca
  obtain ⟨x, hx⟩ : ∃ x, xs[a] = x := ⟨_, rfl⟩
  rw [hx] at hca
  have hca' : w.cell? ⟨g, off + a, none⟩ = some (.int .i64 x) := hca
  have hI : insL xs a b = (delL xs a).take b ++ [x] ++ (delL xs a).drop b := by unfold insL; rw [getD_eq ha, hx]
  have HR0 := Lib.hid (fun W => run_toI xs.length cap a (some ⟨g, off, none⟩) (by omega) W)
  obtain ⟨aD, cD, hfD, hoD⟩ := from_some (ad := ⟨g, off, none⟩) (cap := cap) (n := a + 1) (q := xs) (by omega)
  have hDl : (delL xs a).length = xs.length - 1 := delL_length ha
  obtain ⟨T, hT⟩ : ∃ T, xs.take a = T := ⟨_, rfl⟩
  obtain ⟨R, hR⟩ : ∃ R, xs.drop (a + 1) = R := ⟨_, rfl⟩
  have hDe : delL xs a = T ++ R := by unfold delL; rw [hT, hR]
  rw [hR, Int.natCast_add, Int.natCast_one] at hfD
  rw [hR] at hoD
  obtain ⟨W, hW⟩ : ∃ W, W = w.alloc (.cells #[.int .i64 ((a : Int) + 1), .int .i64 ((b : Int) + 1)] 28) := ⟨_, rfl⟩
  have hbW : Below w.heap.size w W := by rw [hW]; exact below_new w _
  have hzW : Blk W w.heap.size 28 [.int .i64 ((a : Int) + 1), .int .i64 ((b : Int) + 1)] := by rw [hW]; exact Blk.new w _ _ _ rfl
  have hWs : W.heap.size = w.heap.size + 1 := by rw [hW]; simp
  have hvW : OwnI W (.slice (some ⟨g, off, none⟩) xs.length cap) xs := hv.below hbW (Nat.le_refl _)
  have hcW := (hbW.cell (p := ⟨g, off + a, none⟩) hgl).trans hca'
  have HX := Lib.hid (show ∀ w', Below (w.heap.size + 1) W w' → OwnI w' (.slice (some ⟨g, off, none⟩) xs.length cap) xs from fun w' hb => hvW.below hb (by omega))
  have HTE := Lib.hid hT
  have HAL := Lib.hid (show a ≤ xs.length by omega)
  have HFD := Lib.hid hfD
  have HOD := Lib.hid (show ∀ w', Below (w.heap.size + 1) W w' → OwnI w' (.slice (some aD) R.length cD) R from fun w' hb => hoD _ (HX.out w' hb))
  have hTl : T.length ≤ 1048576 := by rw [← hT, List.length_take]; omega
  have hRl : R.length ≤ 1048576 := by rw [← hR, List.length_drop]; omega
  have HE := Lib.hid (show insT xs ((a : Int) + 1, (b : Int) + 1) = (T ++ R).take b ++ [x] ++ (T ++ R).drop b by rw [hE, hI, hDe])
  have HLN := Lib.hid (show (T ++ R).length = xs.length - 1 by rw [← hDe]; exact hDl)
  have HAB := Lib.hid (show a < xs.length ∧ b < xs.length from ⟨ha, hb⟩)
  have HW := Lib.hid hW
  have HWS := Lib.hid hWs
  have k0 : W.cell? ⟨w.heap.size, 0, none⟩ = some (.int .i64 ((a : Int) + 1)) := hzW.cell 0
  have k1 : W.cell? ⟨w.heap.size, 1, none⟩ = some (.int .i64 ((b : Int) + 1)) := hzW.cell 1
  have hwa : IntKind.i64.wrap (a : Int) = (a : Int) := IntWalk.i64_in _ (by omega)
  have HWA := Lib.hid hwa
  have hWlt : w.heap.size < W.heap.size := by omega
  have haN : (a : Int) < xs.length := by omega
  have haP : (0 : Int) ≤ (a : Int) := by omega
  have hbP : (0 : Int) ≤ (b : Int) := by omega
  have hbN : (b : Int) < xs.length := by omega
  clear hE hI hDe hDl hT hR hB hln hl hp hv hvW hW hca hca' hx hcell hfD hoD hc hgl ha hb hWs hwa
  go_enter Try.func83, Try.ntmps83
  go_upto_region 1 with fail
  rw [← HW.out]
  go_wp2_with fail
  refine wp_region_held_drew (S := (fun w' => Below w.heap.size w w' ∧ Below (w.heap.size + 1) W w' ∧ w'.cell? ⟨w.heap.size, 0, none⟩ = some (.int .i64 ((a : Int) + 1)) ∧ w'.cell? ⟨w.heap.size, 1, none⟩ = some (.int .i64 ((b : Int) + 1)))) (by kernel_rfl) (⟨hbW.drew, (Below.refl _ _).drew, k0, k1⟩) (fun hHeld => ?_)
  refine wpAnyH_take (i := 0) (v := ?_) rfl (by kernel_rfl) (by kernel_rfl) (by kernel_rfl) (fun _ _ _ h => h) (Or.inl ⟨by rfl, ?_⟩) (by assumption) ?_
  rotate_left
  · intro w _; go_simp; with_reducible rfl
  try simp only [List.getElem_toArray, List.getElem_cons_zero, Act.put, List.setIfInBounds_toArray, List.set_cons_zero, List.set_cons_succ]
  refine wpAnyH_take (i := 1) (v := ?_) rfl (by kernel_rfl) (by kernel_rfl) (by kernel_rfl) (fun _ _ _ h => h) (Or.inl ⟨by rfl, ?_⟩) (by assumption) ?_
  rotate_left
  · intro w _; go_simp; with_reducible rfl
  try simp only [List.getElem_toArray, List.getElem_cons_zero, List.getElem_cons_succ, Act.put, List.setIfInBounds_toArray, List.set_cons_zero, List.set_cons_succ]
  refine wpAnyH_take (i := 2) (v := ?_) rfl (by kernel_rfl) (by kernel_rfl) (by kernel_rfl) (fun _ _ _ h => h) (Or.inl ⟨by rfl, ?_⟩) (by assumption) ?_
  rotate_left
  · intro w hSw; obtain ⟨_, _, hx0, hx1⟩ := hSw; (go_simp <;> with_reducible rfl)
  try simp only [List.getElem_toArray, List.getElem_cons_zero, List.getElem_cons_succ, Act.put, List.setIfInBounds_toArray, List.set_cons_zero, List.set_cons_succ]
  refine wpAnyH_take (i := 3) (v := ?_) rfl (by kernel_rfl) (by kernel_rfl) (by kernel_rfl) (fun _ _ _ h => h) (Or.inl ⟨by rfl, ?_⟩) (by assumption) ?_
  rotate_left
  · intro w _; go_simp; with_reducible rfl
  try simp only [List.getElem_toArray, List.getElem_cons_zero, List.getElem_cons_succ, Act.put, List.setIfInBounds_toArray, List.set_cons_zero, List.set_cons_succ]
  rw [HWA.out]
  refine wpAnyH_take (i := 4) (v := .slice (some ⟨g, off, none⟩) a cap) rfl (by kernel_rfl) (by kernel_rfl) (by kernel_rfl) (fun _ _ _ h => h) (Or.inl ⟨by rfl, ?_⟩) (by assumption) ?_
  · intro w_ _
    have h_ := HR0.out w_
    simp [execOp, Act.eval, h_]
  try simp only [List.getElem_toArray, List.getElem_cons_zero, List.getElem_cons_succ, Act.put, List.setIfInBounds_toArray, List.set_cons_zero, List.set_cons_succ]
  refine wpAnyH_take (i := 6) (v := ?_) rfl (by kernel_rfl) (by kernel_rfl) (by kernel_rfl) (fun _ _ _ h => h) (Or.inl ⟨by rfl, ?_⟩) (by assumption) ?_
  rotate_left
  · intro w _; go_simp; with_reducible rfl
  try simp only [List.getElem_toArray, List.getElem_cons_zero, List.getElem_cons_succ, Act.put, List.setIfInBounds_toArray, List.set_cons_zero, List.set_cons_succ]
  refine wpAnyH_take (i := 7) (v := ?_) rfl (by kernel_rfl) (by kernel_rfl) (by kernel_rfl) (fun _ _ _ h => h) (Or.inl ⟨by rfl, ?_⟩) (by assumption) ?_
  rotate_left
  · intro w _; go_simp; with_reducible rfl
  try simp only [List.getElem_toArray, List.getElem_cons_zero, List.getElem_cons_succ, Act.put, List.setIfInBounds_toArray, List.set_cons_zero, List.set_cons_succ]
  refine wpAnyH_take (i := 8) (v := ?_) rfl (by kernel_rfl) (by kernel_rfl) (by kernel_rfl) (fun _ _ _ h => h) (Or.inl ⟨by rfl, ?_⟩) (by assumption) ?_
  rotate_left
  · intro w hSw; obtain ⟨_, _, hx0, hx1⟩ := hSw; (go_simp <;> with_reducible rfl)
  try simp only [List.getElem_toArray, List.getElem_cons_zero, List.getElem_cons_succ, Act.put, List.setIfInBounds_toArray, List.set_cons_zero, List.set_cons_succ]
  refine wpAnyH_take (i := 9) (v := .slice (some aD) R.length cD) rfl (by kernel_rfl) (by kernel_rfl) (by kernel_rfl) (fun _ _ _ h => h) (Or.inl ⟨by rfl, ?_⟩) (by assumption) ?_
  · intro w_ _
    have h_ := HFD.out w_
    simp [execOp, Act.eval, h_]
  try simp only [List.getElem_toArray, List.getElem_cons_zero, List.getElem_cons_succ, Act.put, List.setIfInBounds_toArray, List.set_cons_zero, List.set_cons_succ]
  refine wpAnyH_ready (rs := [5]) (by kernel_rfl) (by simp) ?_
  refine AllReadyH.cons rfl (fun K hK => ?_) AllReadyH.nil
  go_simp
  refine (l1Own_any _ T _ (OwnI.take0 (HX.out _ hHeld.2.1) HTE.out HAL.out) hTl).mono ?_
  rintro e w5 ⟨r5, rfl, ho5, hf5, hb5⟩
  go_wp2_with fail
  refine hK.out _ _ (⟨hHeld.1.trans (hb5.mono hHeld.1.size), hHeld.2.1.trans (hb5.mono (by have := hHeld.2.1.size; omega)), (hb5.cell (p := ⟨w.heap.size, 0, none⟩) (by simpa using hWlt)).trans hHeld.2.2.1, (hb5.cell (p := ⟨w.heap.size, 1, none⟩) (by simpa using hWlt)).trans hHeld.2.2.2⟩) (fun hHeld => ?_)
  clear hK K
  try simp only [List.getElem_toArray, List.getElem_cons_zero, List.getElem_cons_succ, Act.put, List.setIfInBounds_toArray, List.set_cons_zero, List.set_cons_succ]
  have hw5 : w.heap.size < w5.heap.size := Nat.lt_of_lt_of_le hWlt hb5.size
  have hoR := HOD.out _ hHeld.2.1
  have hsrc5 := Own.src hoR
  have hf5' : From (w.heap.size + 1) r5 := hf5.mono (by have h : W.drew.heap.size = W.heap.size := rfl; omega)
  refine wpAnyH_ready (rs := [10]) (by kernel_rfl) (by simp) ?_
  refine AllReadyH.cons rfl (fun K hK => ?_) AllReadyH.nil
  refine step_of_list rfl fun Q' hQ' => ?_
  refine wpList_appI Try.intSl rfl _ _ rfl r5 T rfl ho5 (w.heap.size + 1) hf5' (some aD) R.length cD R rfl rfl hsrc5 w5 (Below.refl _ _) hw5 hTl hRl ?_
  intro v7 w7 ho7 hf7 hb7 hg7
  refine hQ' _ _ ?_
  have hb7w : Below w.heap.size w5 w7 := hb7.mono (by omega)
  refine hK.out _ _ ⟨hHeld.1.trans hb7w, hHeld.2.1.trans hb7, (hb7.cell (p := ⟨w.heap.size, 0, none⟩) (by simp)).trans hHeld.2.2.1, (hb7.cell (p := ⟨w.heap.size, 1, none⟩) (by simp)).trans hHeld.2.2.2⟩ (fun hHeld => ?_)
  clear hK K hQ' Q'
  try simp only [List.getElem_toArray, List.getElem_cons_zero, List.getElem_cons_succ, Act.put, List.setIfInBounds_toArray, List.set_cons_zero, List.set_cons_succ]
  refine wpAnyH_take (i := 11) (v := ?_) rfl (by kernel_rfl) (by kernel_rfl) (by kernel_rfl) (fun _ _ _ h => h) (Or.inl ⟨by rfl, ?_⟩) (by assumption) ?_
  rotate_left
  · intro w _; go_simp; with_reducible rfl
  try simp only [List.getElem_toArray, List.getElem_cons_zero, List.getElem_cons_succ, Act.put, List.setIfInBounds_toArray, List.set_cons_zero, List.set_cons_succ]
  refine wpAnyH_done (by kernel_rfl) ?_ _
  have hcx1 := hHeld.2.2.2
  have hB7 := hHeld.1
  have hw7 : w.heap.size < w7.heap.size := Nat.lt_of_lt_of_le hw5 hb7.size
  have hf70 : From w.heap.size v7 := hf7.mono (by omega)
  have hlx : (T ++ R).length ≤ 1048576 := by have := HLN.out; omega
  have hbl : b ≤ (T ++ R).length := by have := HLN.out; have := HAB.out; omega
  obtain ⟨L, hL⟩ : ∃ L, T ++ R = L := ⟨_, rfl⟩
  rw [hL] at ho7 hlx hbl HE
  obtain ⟨a7, c7, hv7, hc7, _, _⟩ := Own.shape ho7
  subst hv7
  have HO7 := Lib.hid ho7
  have HR1 := Lib.hid (fun W => run_toI L.length c7 b a7 (by omega) W)
  have HT7 := Lib.hid (show OwnI w7 (.slice a7 b c7) (L.take b) from OwnI.take HO7.out hbl)
  have hltk : (L.take b).length ≤ 1048576 := by rw [List.length_take]; omega
  have hldk : (L.drop b).length ≤ 1048576 := by rw [List.length_drop]; omega
  have hlt1 : (L.take b ++ [x]).length ≤ 1048576 := by have := HAB.out; rw [List.length_append, List.length_take]; simp; omega
  clear hHeld hsrc5 hoR ho5 hb7w hf5 hf5' hb5 hb7 hg7 ho7 k0 k1 hL hcW hbW hf7
  go_wp2_with (first | (refine wpList_slice_h rfl _ _ rfl _ _ _ rfl rfl HR1.out ?_))
  refine (l1Own_any _ _ _ HT7.out hltk).mono ?_
  rintro e w8 ⟨r8, rfl, ho8, hf8, hb8⟩
  have hc8 := (hb8.cell (p := ⟨w.heap.size, 1, none⟩) hw7).trans hcx1
  have HO8 := Lib.hid (ho8.alloc (.cells #[.int .i64 x] 3))
  have hB8 := hb8.alloc hb8.size (.cells #[.int .i64 x] 3)
  have hz8 := hb8.size
  clear ho8 hb8 hcx1
  go_wp2_with (at_builtin; refine wpList_app1 Try.intSl rfl _ _ rfl r8 (L.take b) rfl HO8.out w7.heap.size hf8 w8.heap.size x rfl ?c1 w7 hB8 ?c2 hltk ?_)
  case c1 => simp [go_sem]
  case c2 => simp; exact Nat.le_succ_of_le hz8
  intro v9 w9 ho9 hf9 hb9 _
  have hc9 : w9.cell? ⟨w.heap.size, 1, none⟩ = some (.int .i64 ((b : Int) + 1)) := by
    rw [hb9.cell (p := ⟨w.heap.size, 1, none⟩) hw7, ← hB8.cell (p := ⟨w.heap.size, 1, none⟩) hw7]
    have := (below_new w8 (.cells #[.int .i64 x] 3)).cell (p := ⟨w.heap.size, 1, none⟩) (Nat.lt_of_lt_of_le hw7 hz8)
    rw [this]; exact hc8
  have HO79 := Lib.hid (HO7.out.below hb9 (Nat.le_refl _))
  have HO9 := Lib.hid ho9
  have hB9 := hB7.trans (hb9.mono hB7.size)
  have hf90 : From w.heap.size v9 := hf9.mono hB7.size
  have hz9 := hB9.size
  clear ho9 hf9 hb9 hc8 hB8 hz8
  go_wp2_with (first | (refine wpList_from Try.intSl rfl _ _ rfl a7 L.length c7 b rfl rfl hbl L rfl HO79.out ?_; intro sp m c hm hod hsrc _) | (at_builtin; refine wpList_appI Try.intSl rfl _ _ rfl v9 (L.take b ++ [x]) rfl HO9.out w.heap.size hf90 sp m c (L.drop b) rfl hm.out hsrc w hB9 hz9 hlt1 hldk ?_))
  intro v10 w10 ho10 hf10 hb10 hg10
  have HR := Lib.hid (show OwnI w10 v10 (insT xs ((a : Int) + 1, (b : Int) + 1)) by rw [HE.out, List.append_assoc]; exact ho10)
  clear ho10
  go_wp2
  go_ret
  exact ⟨_, rfl, HR.out, hf10, hb10⟩


set_option maxRecDepth 100000 in
theorem sMoveOne_any (v : Value) (xs : List Int) (p : Int × Int) (w : World) (hv : OwnI w v xs) (hn : xs.length ≤ 1048576) :
    Calls Try.prog 23 #[v, .agg #[.int .i64 p.1, .int .i64 p.2]] w fun e w' => ∃ r, e = .returned (.tuple #[r, .bool (okMove xs p)]) ∧ OwnI w' r (mMoveOne xs p) ∧ From w.heap.size r ∧ Below w.heap.size w w' := by
  obtain ⟨ad, cap, rfl, hc, _, _⟩ := hv.shape
  have hva := hv.alloc (.cells #[.int .i64 p.1, .int .i64 p.2] 28)
  have hb0 : Below w.heap.size w (w.alloc (.cells #[.int .i64 p.1, .int .i64 p.2] 28)) := below_new w _
  have hz : Blk (w.alloc (.cells [.int .i64 p.1, .int .i64 p.2].toArray 28)) w.heap.size 28 [.int .i64 p.1, .int .i64 p.2] := Blk.new w _ _ _ rfl
  cases hg : goodB xs with
  | true =>
    cases hi : insB xs.length p with
    | true =>
      have HO := Lib.hid (show okMove xs p = true by unfold okMove; rw [hg, hi]; rfl)
      have HM := Lib.hid (show mMoveOne xs p = insT xs p from if_pos HO.out)
      have cg := stGood_any (.slice ad xs.length cap) xs _ hva hn
      rw [hg] at cg
      have ci := inMove_any (xs.length : Int) p
      rw [hi] at ci
      have HI := Lib.hid hi
      clear hg hi
      go_enter Try.func23, Try.ntmps23
      go_wp2_with fail
      refine (cg).mono ?_
      rintro e w1 ⟨rfl, hb⟩
      have hz1 := hz.below hb (by simp)
      have k0 : w1.cell? ⟨w.heap.size, 0, none⟩ = some (.int .i64 p.1) := hz1.cell 0
      have k1 : w1.cell? ⟨w.heap.size, 1, none⟩ = some (.int .i64 p.2) := hz1.cell 1
      go_wp2_with fail
      refine (ci _).mono ?_
      rintro e w2 ⟨rfl, hb2⟩
      have hz2 := hz1.below hb2 hz1.lt
      have l0 : w2.cell? ⟨w.heap.size, 0, none⟩ = some (.int .i64 p.1) := hz2.cell 0
      have l1 : w2.cell? ⟨w.heap.size, 1, none⟩ = some (.int .i64 p.2) := hz2.cell 1
      go_wp2_with fail
      refine (inMake_any _ xs _ p _ ((hva.same hb).same hb2) hn HI (Lib.hid rfl)).mono ?_
      rintro e w3 ⟨r, rfl, ho, hf, hb3⟩
      have hB1 := hb0.trans (hb.mono (by simp))
      have hB2 := hB1.trans (hb2.mono hB1.size)
      go_wp2
      go_ret2
      exact ⟨_, by rw [HO.out]; rfl, by rw [HM.out]; exact ho, hf.mono hB2.size, hB2.trans (hb3.mono hB2.size)⟩
    | false =>
      have HO := Lib.hid (show okMove xs p = false by unfold okMove; rw [hg, hi]; rfl)
      have HM := Lib.hid (show mMoveOne xs p = [] from if_neg (by rw [HO.out]; exact Bool.false_ne_true))
      have cg := stGood_any (.slice ad xs.length cap) xs _ hva hn
      rw [hg] at cg
      have ci := inMove_any (xs.length : Int) p
      rw [hi] at ci
      clear hg hi
      go_enter Try.func23, Try.ntmps23
      go_wp2_with fail
      refine (cg).mono ?_
      rintro e w1 ⟨rfl, hb⟩
      have hz1 := hz.below hb (by simp)
      have k0 : w1.cell? ⟨w.heap.size, 0, none⟩ = some (.int .i64 p.1) := hz1.cell 0
      have k1 : w1.cell? ⟨w.heap.size, 1, none⟩ = some (.int .i64 p.2) := hz1.cell 1
      go_wp2_with fail
      refine (ci _).mono ?_
      rintro e w2 ⟨rfl, hb2⟩
      have hB1 := hb0.trans (hb.mono (by simp))
      go_wp2
      go_ret2
      exact ⟨_, by rw [HO.out]; rfl, by rw [HM.out]; exact OwnI.nil _, From.nil _ _ _, hB1.trans (hb2.mono hB1.size)⟩
  | false =>
    have HO := Lib.hid (show okMove xs p = false by unfold okMove; rw [hg]; rfl)
    have HM := Lib.hid (show mMoveOne xs p = [] from if_neg (by rw [HO.out]; exact Bool.false_ne_true))
    have cg := stGood_any (.slice ad xs.length cap) xs _ hva hn
    rw [hg] at cg
    clear hg
    go_enter Try.func23, Try.ntmps23
    go_wp2_with fail
    refine (cg).mono ?_
    rintro e w1 ⟨rfl, hb⟩
    go_wp2
    go_ret2
    exact ⟨_, by rw [HO.out]; rfl, by rw [HM.out]; exact OwnI.nil _, From.nil _ _ _, hb0.trans (hb.mono (by simp))⟩

theorem okMoves_bad {xs : List Int} {l : List (Int × Int)} {k : Nat} (hk : k < l.length) (h : insB xs.length l[k] = false) : okMoves xs l = false := by
  unfold okMoves
  have : inssB xs.length l = false := by
    cases hs : inssB xs.length l with
    | false => rfl
    | true => have := inssB_iff.1 hs _ (List.getElem_mem hk); rw [h] at this; cases this
  rw [this, Bool.and_false, Bool.and_false]
theorem okMoves_all {xs : List Int} {l : List (Int × Int)} (hg : goodB xs = true) (h40 : (l.length : Int) ≤ 40) (h : Inss xs.length (l.take l.length)) : okMoves xs l = true := by
  rw [List.take_length] at h
  unfold okMoves
  rw [hg, decide_eq_true h40, inssB_iff.2 h]
  rfl
theorem inss_take_succ {n : Int} {l : List (Int × Int)} {k : Nat} (hk : k < l.length) (h : Inss n (l.take k)) (hp : insB n l[k] = true) : Inss n (l.take (k + 1)) := by
  rw [List.take_succ_eq_append_getElem hk]
  exact h.snoc hp

set_option maxHeartbeats 1600000 in
set_option maxRecDepth 100000 in
theorem sPlayMoves_any (v : Value) (xs : List Int) (u : Value) (l : List (Int × Int)) (w : World) (hv : OwnI w v xs) (hn : xs.length ≤ 1048576) (hu : OwnC c2 w u l) (hm : l.length ≤ 1048576) :
    Calls Try.prog 31 #[v, u] w fun e w' => ∃ r, e = .returned (.tuple #[r, .bool (okMoves xs l)]) ∧ OwnI w' r (mPlayMoves xs l) ∧ From w.heap.size r ∧ Below w.heap.size w w' := by
  obtain ⟨ad, cap, rfl, hc, _, _⟩ := hv.shape
  obtain ⟨bd, cbp, rfl, hc', _, _⟩ := hu.shape
  cases hg : goodB xs with
  | true =>
    have cg := stGood_any _ _ _ hv hn
    rw [hg] at cg
    by_cases h40 : (l.length : Int) ≤ 40
    · have HG := Lib.hid hg
      have h9 := (goodB_iff.1 hg).le9
      clear hg
      go_enter Try.func31, Try.ntmps31
      go_wp2_with fail
      refine (cg).mono ?_
      rintro e w1 ⟨rfl, hb⟩
      have hv1 := hv.same hb
      have hu1 := hu.same hb
      go_wp2_with fail
      refine (l1Own_any _ _ _ hv1 hn).mono ?_
      rintro e w2 ⟨r2, rfl, ho2, hf2, hb2⟩
      have hu2 := hu1.same hb2
      have hB2 := hb.trans (hb2.mono hb.size)
      have hf2' := hf2.mono hb.size
      clear hv hu hv1 hu1 cg hb hb2 hf2
      go_wp2
      go_loopw [6, 21] (fun o i wr => ∃ k : Nat, k ≤ l.length ∧ i = .int .i64 k ∧ Hid (Inss xs.length (l.take k)) ∧ OwnI wr o (playI xs (l.take k)) ∧ From w.heap.size o ∧ Below w.heap.size w wr ∧ OwnC c2 wr (.slice bd l.length cbp) l ∧ Hid (w2.heap.size ≤ wr.heap.size)) (fun _ i _ => l.length - (intOf i).toNat)
      case atStart => exact ⟨0, Nat.zero_le _, rfl, Lib.hid (fun p hp => by simp at hp), ho2, hf2', hB2, hu2, Lib.hid (Nat.le_refl _)⟩
      case round =>
        obtain ⟨k, hk, rfl, hS, ho, hf, hbr, hur, hsz⟩ := hrel
        clear ho2 hf2' hB2 hu2
        by_cases hlt : k < l.length
        · obtain ⟨b, off, rfl, hbl, hra⟩ := OwnC.rowAt hur hlt
          obtain ⟨p, hp⟩ : ∃ p, l[k] = p := ⟨_, rfl⟩
          rw [hp] at hra
          have hra' : wr.rangeAt b (off + k * 2) [.int .i64 p.1, .int .i64 p.2] := hra
          have hsz2 : (Try.prog.info? 28).map (·.size) = some ([.int .i64 p.1, .int .i64 p.2] : List Value).length := infoInsertion
          have HP := Lib.hid hp
          have hlr := hbr.size
          have hba := hbr.alloc hlr (.cells #[.int .i64 p.1, .int .i64 p.2] 28)
          have hz : Blk (wr.alloc (.cells [.int .i64 p.1, .int .i64 p.2].toArray 28)) wr.heap.size 28 [.int .i64 p.1, .int .i64 p.2] := Blk.new wr _ _ _ rfl
          have hoa := ho.alloc (.cells #[.int .i64 p.1, .int .i64 p.2] 28)
          have hua := hur.alloc (.cells #[.int .i64 p.1, .int .i64 p.2] 28)
          have ci := inMove_any (xs.length : Int) p
          clear hra hp ho hur hbr
          cases hi : insB xs.length p with
          | true =>
            rw [hi] at ci
            have HI := Lib.hid hi
            have HS2 := Lib.hid (inss_take_succ hlt hS.out (by rw [HP.out]; exact hi))
            have HPL := Lib.hid (show playI xs (l.take (k + 1)) = insT (playI xs (l.take k)) p by rw [playI_take_succ xs l k hlt, HP.out])
            have hpl := playI_length (xs := xs) hS.out
            have HPL2 := Lib.hid (show ((playI xs (l.take k)).length : Int) = (xs.length : Int) by rw [hpl])
            have hpn : (playI xs (l.take k)).length ≤ 1048576 := by rw [hpl]; exact hn
            clear hi hpl
            go_wp2_with (first | (refine wpList_load_mid rfl 28 _ rfl b (off + k * 2) rfl [.int .i64 p.1, .int .i64 p.2] _ hra' Try.underlying28 rfl hsz2 ?_))
            refine (ci _).mono ?_
            rintro e w3 ⟨rfl, hb3⟩
            have hz3 := hz.below hb3 (by simp)
            have k0 : w3.cell? ⟨wr.heap.size, 0, none⟩ = some (.int .i64 p.1) := hz3.cell 0
            have k1 : w3.cell? ⟨wr.heap.size, 1, none⟩ = some (.int .i64 p.2) := hz3.cell 1
            have hB3 := hba.trans (hb3.mono hba.size)
            go_wp2_with fail
            refine (inMake_any _ _ _ p _ (hoa.same hb3) hpn HI HPL2).mono ?_
            rintro e w4 ⟨r4, rfl, ho4, hf4, hb4⟩
            rw [← HPL.out] at ho4
            have hB4 := hB3.trans (hb4.mono hB3.size)
            have hf4' := hf4.mono hB3.size
            have hu4 := (hua.same hb3).same hb4
            have hs4 := Lib.hid (show w2.heap.size ≤ w4.heap.size by
              have h1 := hsz.out
              have h2 := hb3.size
              have h3 := hb4.size
              simp only [World.size_alloc] at h2
              omega)
            clear hoa hua hz hz3 hra' hba hB3 hf4 hb3 hb4 hsz
            go_wp2
            go_roundw
            case rel => exact ⟨k + 1, by omega, by go_num, HS2, ho4, hf4', hB4, hu4, hs4⟩
            case measure => simp [intOf] <;> omega
          | false =>
            rw [hi] at ci
            have HO := Lib.hid (okMoves_bad (xs := xs) hlt (by rw [HP.out]; exact hi))
            have HM := Lib.hid (show mPlayMoves xs l = [] from if_neg (by rw [HO.out]; exact Bool.false_ne_true))
            clear hi
            go_wp2_with (first | (refine wpList_load_mid rfl 28 _ rfl b (off + k * 2) rfl [.int .i64 p.1, .int .i64 p.2] _ hra' Try.underlying28 rfl hsz2 ?_))
            refine (ci _).mono ?_
            rintro e w3 ⟨rfl, hb3⟩
            have hB3 := hba.trans (hb3.mono hba.size)
            go_wp2
            go_ret2
            exact ⟨_, by rw [HO.out]; rfl, by rw [HM.out]; exact OwnI.nil _, From.nil _ _ _, hB3⟩
        · obtain rfl : k = l.length := by omega
          have HO := Lib.hid (okMoves_all HG.out h40 hS.out)
          have HM := Lib.hid (show mPlayMoves xs l = playI xs (l.take l.length) by rw [List.take_length]; exact if_pos HO.out)
          go_wp2
          go_ret2
          exact ⟨_, by rw [HO.out]; rfl, by rw [HM.out]; exact ho, hf, hbr⟩
    · have HO := Lib.hid (show okMoves xs l = false by unfold okMoves; rw [decide_eq_false h40]; simp)
      have HM := Lib.hid (show mPlayMoves xs l = [] from if_neg (by rw [HO.out]; exact Bool.false_ne_true))
      have h41 : (40 : Int) < l.length := by omega
      clear hg
      go_enter Try.func31, Try.ntmps31
      go_wp2_with fail
      refine (cg).mono ?_
      rintro e w1 ⟨rfl, hb⟩
      go_wp2
      go_ret2
      exact ⟨_, by rw [HO.out]; rfl, by rw [HM.out]; exact OwnI.nil _, From.nil _ _ _, hb⟩
  | false =>
    have HO := Lib.hid (show okMoves xs l = false by unfold okMoves; rw [hg]; rfl)
    have HM := Lib.hid (show mPlayMoves xs l = [] from if_neg (by rw [HO.out]; exact Bool.false_ne_true))
    have cg := stGood_any _ _ _ hv hn
    rw [hg] at cg
    clear hg
    go_enter Try.func31, Try.ntmps31
    go_wp2_with fail
    refine (cg).mono ?_
    rintro e w1 ⟨rfl, hb⟩
    go_wp2
    go_ret2
    exact ⟨_, by rw [HO.out]; rfl, by rw [HM.out]; exact OwnI.nil _, From.nil _ _ _, hb⟩
end Go.Proofs.Ytdkidfilnbglgaa
