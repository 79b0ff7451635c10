import Derived.Test.YtieongcagkfedaaZA
import Derived.Test.YtieongcagkfedaaLO
import Derived.Test.YtieongcagkfedaaSl
import Derived.Deep.QuietTactic
import Derived.BigQuiet
import Derived.IntWalk
namespace Go.Pan

-- the best fixed shelf
def cntA (ps : List Int) (b : Int) : Int := (ps.count b : Nat)
/-- where a book is put in: behind all that are asked for as often -/
def downK (ts : Int → Int) (out : List Int) (b : Int) : Nat → Nat
  | 0 => 0
  | k + 1 => if ts (out.getD k 0) < ts b then downK ts out b k else k + 1
theorem downK_le (ts : Int → Int) (out : List Int) (b : Int) (k : Nat) : downK ts out b k ≤ k := by
  induction k with
  | zero => exact Nat.le_refl _
  | succ k ih => unfold downK; split <;> omega
def insB (ts : Int → Int) (out : List Int) (b : Int) : List Int := out.take (downK ts out b out.length) ++ [b] ++ out.drop (downK ts out b out.length)
def bestL (ts : Int → Int) (xs : List Int) : List Int := xs.foldl (insB ts) []
theorem insB_length (ts : Int → Int) (out : List Int) (b : Int) : (insB ts out b).length = out.length + 1 := by
  have := downK_le ts out b out.length
  unfold insB
  simp only [List.length_append, List.length_take, List.length_drop, List.length_singleton]
  omega
theorem insB_mem (ts : Int → Int) (out : List Int) (b y : Int) (h : y ∈ insB ts out b) : y ∈ out ∨ y = b := by
  unfold insB at h
  simp only [List.mem_append, List.mem_singleton] at h
  rcases h with (h | h) | h
  · exact .inl (List.mem_of_mem_take h)
  · exact .inr h
  · exact .inl (List.mem_of_mem_drop h)
theorem foldB_length (ts : Int → Int) (xs out : List Int) : (xs.foldl (insB ts) out).length = out.length + xs.length := by
  induction xs generalizing out with
  | nil => rfl
  | cons x xs ih => rw [List.foldl_cons, ih, insB_length, List.length_cons]; omega
theorem bestL_length (ts : Int → Int) (xs : List Int) : (bestL ts xs).length = xs.length := by unfold bestL; rw [foldB_length]; simp
theorem foldB_mem (ts : Int → Int) (xs out : List Int) (y : Int) (h : y ∈ xs.foldl (insB ts) out) : y ∈ out ∨ y ∈ xs := by
  induction xs generalizing out with
  | nil => exact .inl h
  | cons x xs ih =>
    rw [List.foldl_cons] at h
    rcases ih _ h with h | h
    · rcases insB_mem _ _ _ _ h with h | rfl
      · exact .inl h
      · exact .inr (by simp)
    · exact .inr (by simp [h])
theorem bestL_mem (ts : Int → Int) (xs : List Int) (y : Int) (h : y ∈ bestL ts xs) : y ∈ xs := by
  rcases foldB_mem ts xs [] y h with h | h
  · cases h
  · exact h
theorem bestL_step (ts : Int → Int) (xs : List Int) (k : Nat) (h : k < xs.length) : bestL ts (xs.take (k + 1)) = insB ts (bestL ts (xs.take k)) xs[k] := by
  unfold bestL
  rw [List.take_succ_eq_append_getElem h, List.foldl_append]
  rfl
def mBestFixed (xs ps : List Int) : List Int := if askB xs ps = true then bestL (cntA ps) xs else []
theorem len_mBestFixed (xs ps : List Int) : (mBestFixed xs ps).length ≤ 1048576 := by
  unfold mBestFixed
  split
  · rename_i h
    obtain ⟨hg, _, _⟩ := askB_iff.1 h
    have h9 := hg.2.1
    rw [bestL_length]
    omega
  · simp
/-- how often each of 0, 1, .., n is asked for, as far as the first k tell it -/
def timesL (ps : List Int) (n k : Nat) : List Int := (List.range (n + 1)).map fun j : Nat => cntA (ps.take k) (j : Int)
theorem timesL_length (ps : List Int) (n k : Nat) : (timesL ps n k).length = n + 1 := by simp [timesL]
theorem timesL_get (ps : List Int) (n k j : Nat) (h : j < (timesL ps n k).length) : (timesL ps n k)[j] = cntA (ps.take k) (j : Int) := by simp [timesL]
theorem timesL_zero (ps : List Int) (n : Nat) : timesL ps n 0 = List.replicate (n + 1) 0 := by
  apply List.ext_getElem
  · simp [timesL]
  · intro j h1 h2
    simp [timesL, cntA]
theorem timesL_step (ps : List Int) (n k j : Nat) (hk : k < ps.length) (hj : ps[k] = (j : Int)) : (timesL ps n k).set j (cntA (ps.take k) (j : Int) + 1) = timesL ps n (k + 1) := by
  apply List.ext_getElem
  · simp [timesL]
  · intro i h1 h2
    rw [List.getElem_set, timesL_get, timesL_get]
    unfold cntA
    rw [List.take_succ_eq_append_getElem hk, List.count_append, hj]
    by_cases e : j = i
    · subst e; simp
    · rw [if_neg e]
      have : ((j : Int) = (i : Int)) = False := by simp; omega
      simp [this]
theorem cntA_le (ps : List Int) (k : Nat) (b : Int) : 0 ≤ cntA (ps.take k) b ∧ cntA (ps.take k) b ≤ ps.length := by
  unfold cntA
  have h1 := List.count_le_length (a := b) (l := ps.take k)
  rw [List.length_take] at h1
  constructor
  · omega
  · omega
end Go.Pan

namespace Go.Proofs.Ytieongcagkfedaa
open Go Go.RowKit Go.Pan

set_option maxHeartbeats 3200000 in
set_option maxRecDepth 100000 in
theorem shBest_any (v : Value) (xs : List Int) (u : Value) (ys : List Int) (w : World) (hv : OwnI w v xs) (hg : Hid (Pan.Good xs)) (hu : OwnI w u ys) (hm : ys.length ≤ 60) (hy : Hid (∀ k ∈ ys, 1 ≤ k ∧ k ≤ (xs.length : Int))) :
    Calls Try.prog 85 #[v, u] w fun e w' => ∃ r, e = .returned r ∧ OwnI w' r (bestL (cntA ys) xs) ∧ From w.heap.size r ∧ Below w.heap.size w w' := by
  obtain ⟨ad, cap, rfl, hc, _, _⟩ := hv.shape
  obtain ⟨bd, cbp, rfl, hc', _, _⟩ := hu.shape
  obtain ⟨n, hn⟩ : ∃ n, xs.length = n := ⟨_, rfl⟩
  have HN := Lib.hid hn
  have h9 : n ≤ 9 := by have := hg.out.2.1; omega
  obtain ⟨i0, hi, hz0, hz1, hz2⟩ := info_parts Try.info3
  have HI := Lib.hid hi
  have HZ0 := Lib.hid hz0
  have HZ1 := Lib.hid hz1
  have HZ2 := Lib.hid hz2
  have HV := Lib.hid hv
  have HU := Lib.hid hu
  rw [hn] at hy hc ⊢
  clear hi hz0 hz1 hz2 hv hu hn
  go_enter Try.func85, Try.ntmps85
  go_wp2_with (at_make; refine wpList_make_full _ rfl _ _ 22 rfl w.heap.size 3 i0 (.int .i64 0) 1 Try.underlying22 HI.out HZ0.out HZ1.out _ _ _ _ (n + 1) rfl rfl rfl rfl ?b1 ?b2 ?b3 ?_)
  case b1 => rw [HZ2.out]; omega
  case b2 => unfold maxLen; omega
  case b3 => exact Nat.le_refl _
  intro w1 hown hgr
  have hT0 : OwnI w1 (.slice (some ⟨w.heap.size, 0, none⟩) (n + 1) (n + 1)) (timesL ys n 0) := by rw [timesL_zero]; exact OwnI.of_made hown
  have hB1 : Below w.heap.size w w1 := (Below.refl _ _).grown hgr (Nat.le_refl _) (by intro k hk; cases hk)
  clear hown hgr
  go_wp2
  go_loopw [7, 19] (fun _ i wr => ∃ k : Nat, k ≤ ys.length ∧ i = .int .i64 k ∧ OwnI wr (.slice (some ⟨w.heap.size, 0, none⟩) (n + 1) (n + 1)) (timesL ys n k) ∧ Below w.heap.size w wr) (fun _ i _ => ys.length - (intOf i).toNat)
  case atStart => exact ⟨0, Nat.zero_le _, rfl, hT0, hB1⟩
  case round =>
    obtain ⟨k, hk, rfl, hT, hbr⟩ := hrel
    clear hT0 hB1
    by_cases hlt : k < ys.length
    · have hur := HU.out.below hbr (Nat.le_refl _)
      obtain ⟨g, off, rfl, hgl, hcell, hf⟩ := hur.at (by omega)
      have hck := hcell k (by omega)
      rw [List.getElem?_map, List.getElem?_eq_getElem hlt] at hck
      have hb := hy.out _ (List.getElem_mem hlt)
      obtain ⟨j, hj⟩ : ∃ j : Nat, ys[k] = (j : Int) := ⟨(ys[k]).toNat, by omega⟩
      rw [hj] at hck
      have hjn : j < n + 1 := by omega
      obtain ⟨hd, hfd, hst⟩ := OwnI.cellAt hT j (by rw [timesL_length]; exact hjn)
      rw [timesL_get] at hd
      have hcb := cntA_le ys k (j : Int)
      obtain ⟨z, hz⟩ : ∃ z, cntA (ys.take k) (j : Int) = z := ⟨_, rfl⟩
      rw [hz] at hd hcb
      have hst := hst (z + 1)
      rw [← hz, timesL_step ys n k j hlt hj, hz] at hst
      have hb2 := hbr.setCell (p := ⟨w.heap.size, j, none⟩) (Nat.le_refl _) (iv (z + 1))
      have hz0 := hcb.1
      have hz1 := hcb.2
      have hjn' : (j : Int) < (n : Int) + 1 := by omega
      clear hcell hf hur hb hT hbr hj hz hcb
      go_wp2
      go_roundw
      case rel => exact ⟨k + 1, by omega, by go_num, hst, hb2⟩
      case measure => simp [intOf] <;> omega
    · obtain rfl : k = ys.length := by omega
      obtain ⟨w2, rfl⟩ : ∃ z, z = wr := ⟨_, rfl⟩
      have HT := Lib.hid hT
      have hBr := hbr
      have hkk : ys.take ys.length = ys := List.take_length
      have HKK := Lib.hid hkk
      clear hT hbr hkk
      go_wp2
      go_loopw [8, 10, 11, 12, 32] (fun o _ _ _ i wq => ∃ q : Nat, q ≤ n ∧ i = .int .i64 q ∧ OwnI wq o (bestL (cntA ys) (xs.take q)) ∧ Hid (OwnI wq (.slice (some ⟨w.heap.size, 0, none⟩) (n + 1) (n + 1)) (timesL ys n ys.length)) ∧ From w2.heap.size o ∧ Below w2.heap.size w2 wq) (fun _ _ _ _ i _ => n - (intOf i).toNat)
      case atStart => exact ⟨0, Nat.zero_le _, rfl, by simpa [bestL] using OwnI.nil w2, HT, From.nil _ _ _, Below.refl _ _⟩
      case round =>
        obtain ⟨q, hq, rfl, ho, hT, hf, hbq⟩ := hrel
        obtain ⟨wq, rfl⟩ : ∃ z, z = wr := ⟨_, rfl⟩
        clear HT
        by_cases hlt : q < n
        · have hvq := (HV.out.below hBr (Nat.le_refl _)).below hbq (Nat.le_refl _ )
          have hqx : q < xs.length := by rw [HN.out]; exact hlt
          have hvq' : OwnI wq (.slice ad xs.length cap) xs := hvq
          obtain ⟨g, off, rfl, hgl, hcell, _⟩ := hvq'.at (by omega)
          have hck := hcell q (by omega)
          rw [List.getElem?_map, List.getElem?_eq_getElem hqx] at hck
          obtain ⟨b, hb⟩ : ∃ b, xs[q] = b := ⟨_, rfl⟩
          have hbd := hg.out.2.2.1 _ (List.getElem_mem hqx)
          rw [hb] at hck hbd
          obtain ⟨bn, hbn⟩ : ∃ bn : Nat, b = (bn : Int) := ⟨b.toNat, by omega⟩
          subst hbn
          have hbnn : bn ≤ n := by have := HN.out; omega
          have HS := Lib.hid (bestL_step (cntA ys) xs q hqx)
          rw [hb] at HS
          obtain ⟨O, hO⟩ : ∃ O, bestL (cntA ys) (xs.take q) = O := ⟨_, rfl⟩
          have hOl : O.length = q := by rw [← hO, bestL_length, List.length_take]; omega
          have HOM := Lib.hid (show ∀ y ∈ O, 1 ≤ y ∧ y ≤ (n : Int) from fun y hy' => by
            rw [← hO] at hy'
            have h1 := List.mem_of_mem_take (bestL_mem _ _ _ hy')
            have h2 := hg.out.2.2.1 _ h1
            rw [HN.out] at h2
            exact h2)
          rw [hO] at ho HS
          obtain ⟨aO, cO, rfl, hcO, _, _⟩ := ho.shape
          have HO := Lib.hid ho
          have HOL := Lib.hid hOl
          obtain ⟨p, hp⟩ : ∃ p, O.length = p := ⟨_, rfl⟩
          have HP := Lib.hid hp
          rw [hp] at HO hcO hOl ⊢
          have hp9 : p ≤ 9 := by omega
          obtain ⟨zb, hzb⟩ : ∃ z, cntA ys (bn : Int) = z := ⟨_, rfl⟩
          have hdb := (OwnI.cellAt hT.out bn (by rw [timesL_length]; omega)).1
          rw [timesL_get, HKK.out, hzb] at hdb
          have hbnI : (bn : Int) < (n : Int) + 1 := by omega
          have HZB := Lib.hid hzb
          clear hcell hvq hvq' hbd hb hO ho hp hOl hzb
          go_wp2
          go_loopw [11] (fun kk wi => ∃ k : Nat, k ≤ p ∧ kk = .int .i64 k ∧ Hid (downK (cntA ys) O (bn : Int) k = downK (cntA ys) O (bn : Int) p) ∧ Below wq.heap.size wq wi) (fun kk _ => (intOf kk).toNat)
          case atStart => exact ⟨p, Nat.le_refl _, rfl, Lib.hid rfl, Below.refl _ _⟩
          case round =>
            obtain ⟨k, hk, rfl, hD, hbi⟩ := hrel
            obtain ⟨wi, rfl⟩ : ∃ z, z = wr := ⟨_, rfl⟩
            have HOi := Lib.hid (HO.out.below hbi (Nat.le_refl _))
            have HTi := Lib.hid (hT.out.below hbi (Nat.le_refl _))
            have hkO : k ≤ O.length := by rw [HP.out]; exact hk
            by_cases h0 : k = 0
            · have HR := Lib.hid (show downK (cntA ys) O (bn : Int) O.length = k by rw [HP.out, ← hD.out, h0]; rfl)
              have hd : decide ((0 : Int) < (k : Int)) = false := by subst h0; decide
              have hd2 : decide (0 < k) = false := by subst h0; rfl
              clear h0 hD hck hdb
              go_wp2_with fail
              go_quiet (fail)
              obtain ⟨wd, hwd⟩ : ∃ wd, wi.drewN nq = wd := ⟨_, rfl⟩
              have hbD : Below wq.heap.size wq wd := by rw [← hwd]; exact hbi.drewN nq
              have HOD := Lib.hid (show OwnI wd (.slice aO p cO) O by rw [← hwd]; exact HOi.out.kept fun _ _ => rfl)
              have HTD := Lib.hid (show OwnI wd (.slice (some ⟨w.heap.size, 0, none⟩) (n + 1) (n + 1)) (timesL ys n ys.length) by rw [← hwd]; exact HTi.out.kept fun _ _ => rfl)
              rw [hwd]
              clear hwd
              have HR1 := Lib.hid (fun W => run_toI p cO k aO (by omega) W)
              have HT0 := Lib.hid (show OwnI wd (.slice aO k cO) (O.take k) from OwnI.take (by rw [HP.out]; exact HOD.out) hkO)
              have hltk : (O.take k).length ≤ 1048576 := by rw [List.length_take]; omega
              have hldk : (O.drop k).length ≤ 1048576 := by have := HP.out; rw [List.length_drop]; omega
              have hlt1 : (O.take k ++ [(bn : Int)]).length ≤ 1048576 := by rw [List.length_append, List.length_take, List.length_singleton]; omega
              have HE := Lib.hid (show bestL (cntA ys) (xs.take (q + 1)) = O.take k ++ [(bn : Int)] ++ O.drop k by rw [HS.out]; unfold insB; rw [HR.out])
              clear HR
              go_wp2_with (first | (refine wpList_slice_h rfl _ _ rfl _ _ _ rfl rfl HR1.out ?_))
              refine (l1Own_any _ _ _ HT0.out hltk).mono ?_
              rintro e w8 ⟨r8, rfl, ho8, hf8, hb8⟩
              have HO8 := Lib.hid (ho8.alloc (.cells #[.int .i64 (bn : Int)] 3))
              have hB8 := hb8.alloc hb8.size (.cells #[.int .i64 (bn : Int)] 3)
              have hz8 := hb8.size
              clear ho8 hb8
              go_wp2_with (at_builtin; refine wpList_app1 Try.intSl rfl _ _ rfl r8 (O.take k) rfl HO8.out wd.heap.size hf8 w8.heap.size (bn : Int) rfl ?c1 wd hB8 ?c2 hltk ?_)
              case c1 => simp [go_sem]
              case c2 => simp; exact Nat.le_succ_of_le hz8
              intro v9 w9 ho9 hf9 hb9 _
              have HO79 := Lib.hid (show OwnI w9 (.slice aO O.length cO) O by rw [HP.out]; exact HOD.out.below hb9 (Nat.le_refl _))
              have HO79' := Lib.hid (show OwnI w9 (.slice aO p cO) O from HOD.out.below hb9 (Nat.le_refl _))
              have HO9 := Lib.hid ho9
              have hz9 := hb9.size
              have hpO : p = O.length := HP.out.symm
              have HPO := Lib.hid hpO
              clear ho9 hB8 hz8 hpO
              go_wp2_with (first | (refine wpList_from Try.intSl rfl _ _ rfl aO p cO k rfl rfl hk O HPO.out HO79'.out ?_; intro sp m' c' hm' hod hsrc _) | (at_builtin; refine wpList_appI Try.intSl rfl _ _ rfl v9 (O.take k ++ [(bn : Int)]) rfl HO9.out wd.heap.size hf9 sp m' c' (O.drop k) rfl hm'.out hsrc wd hb9 hz9 hlt1 hldk ?_))
              intro v10 w10 ho10 hf10 hb10 hg10
              replace ho10 : OwnI w10 v10 (bestL (cntA ys) (xs.take (q + 1))) := by rw [HE.out, List.append_assoc]; exact ho10
              have HTA := Lib.hid (HTD.out.below hb10 (Nat.le_refl _))
              have hsq := hbq.size
              have hsd := hbD.size
              have hbF : Below w2.heap.size w2 w10 := hbq.trans ((hbD.trans (hb10.mono hbD.size)).mono hbq.size)
              have hfF : From w2.heap.size v10 := hf10.mono (Nat.le_trans hsq hsd)
              have HO10 := Lib.hid ho10
              clear HOD HTD HO8 hf8 hb9 hg10 hb10 hf9 hf10 ho10 hbD HO79 HO79'
              go_wp2
              go_roundw
              case rel => exact ⟨q + 1, by omega, by go_num, HO10.out, HTA, hfF, hbF⟩
              case measure => simp [intOf] <;> omega
            · obtain ⟨m, hmk⟩ : ∃ m, k = m + 1 := ⟨k - 1, by omega⟩
              have hmp : m < p := by omega
              have hmO : m < O.length := by rw [HP.out]; exact hmp
              have hoO : OwnI wi (.slice aO O.length cO) O := by rw [HP.out]; exact HOi.out
              obtain ⟨go', oo, hae, hgo, hcello, _⟩ := hoO.at (show 0 < cO by omega)
              have hcm := hcello m (by omega)
              rw [List.getElem?_map, List.getElem?_eq_getElem hmO] at hcm
              obtain ⟨y, hy0⟩ : ∃ y, O[m] = y := ⟨_, rfl⟩
              have hyb := HOM.out y (by rw [← hy0]; exact List.getElem_mem hmO)
              obtain ⟨a, ha⟩ : ∃ a : Nat, y = (a : Int) := ⟨y.toNat, by omega⟩
              rw [hy0, ha] at hcm
              have han : a ≤ n := by omega
              have hda := (OwnI.cellAt HTi.out a (by rw [timesL_length]; omega)).1
              rw [timesL_get, HKK.out] at hda
              obtain ⟨za, hza⟩ : ∃ z, cntA ys (a : Int) = z := ⟨_, rfl⟩
              rw [hza] at hda
              have hdbi := (hbi.cell (p := ⟨w.heap.size, bn, none⟩) (hT.out.lt w.heap.size rfl)).trans hdb
              have HD := Lib.hid (show downK (cntA ys) O (bn : Int) k = if za < zb then downK (cntA ys) O (bn : Int) m else k by
                subst hmk
                rw [downK, getD_eq hmO, hy0, ha, hza, HZB.out])
              have hkp : (0 : Int) < (k : Int) := by omega
              have hkn : 0 < k := by omega
              have hw1 : IntKind.i64.wrap ((k : Int) - 1) = (m : Int) := by rw [show (k : Int) - 1 = (m : Int) by omega]; exact IntWalk.i64_in _ (by omega)
              have hw2 : (0 : Int) ≤ (m : Int) := by omega
              have hw3 : (m : Int) < (p : Int) := by omega
              have hw5 : (a : Int) < (n : Int) + 1 := by omega
              have HMK := Lib.hid hmk
              subst hae
              clear hcello hy0 hyb ha hza hdb hck hmk h0 hoO
              by_cases hcmp : za < zb
              · have H := Lib.hid (show downK (cntA ys) O (bn : Int) m = downK (cntA ys) O (bn : Int) p by rw [← hD.out, HD.out, if_pos hcmp])
                have hq1 : decide (za < zb) = true := decide_eq_true hcmp
                have HFK := Lib.hid (show (k : Int) - 1 = (m : Int) by have := HMK.out; omega)
                clear HD hD hcmp
                go_wp2_with fail
                go_quiet (fail)
                go_wp2
                go_roundw
                case rel => exact ⟨m, by omega, by first | rfl | (have := HFK.out; go_num), H, hbi.drewN _⟩
                case measure => have := HMK.out; simp [intOf] <;> omega
              · have hq1 : decide (za < zb) = false := decide_eq_false hcmp
                have HR := Lib.hid (show downK (cntA ys) O (bn : Int) O.length = k by rw [HP.out, ← hD.out, HD.out, if_neg hcmp])
                clear HD hD hcmp
                go_wp2_with fail
                go_quiet (fail)
                obtain ⟨wd, hwd⟩ : ∃ wd, wi.drewN nq = wd := ⟨_, rfl⟩
                have hbD : Below wq.heap.size wq wd := by rw [← hwd]; exact hbi.drewN nq
                have HOD := Lib.hid (show OwnI wd (.slice (some ⟨go', oo, none⟩) p cO) O by rw [← hwd]; exact HOi.out.kept fun _ _ => rfl)
                have HTD := Lib.hid (show OwnI wd (.slice (some ⟨w.heap.size, 0, none⟩) (n + 1) (n + 1)) (timesL ys n ys.length) by rw [← hwd]; exact HTi.out.kept fun _ _ => rfl)
                rw [hwd]
                clear hwd
                have HR1 := Lib.hid (fun W => run_toI p cO k (some ⟨go', oo, none⟩) (by omega) W)
                have HT0 := Lib.hid (show OwnI wd (.slice (some ⟨go', oo, none⟩) k cO) (O.take k) from OwnI.take (by rw [HP.out]; exact HOD.out) hkO)
                have hltk : (O.take k).length ≤ 1048576 := by rw [List.length_take]; omega
                have hldk : (O.drop k).length ≤ 1048576 := by have := HP.out; rw [List.length_drop]; omega
                have hlt1 : (O.take k ++ [(bn : Int)]).length ≤ 1048576 := by rw [List.length_append, List.length_take, List.length_singleton]; omega
                have HE := Lib.hid (show bestL (cntA ys) (xs.take (q + 1)) = O.take k ++ [(bn : Int)] ++ O.drop k by rw [HS.out]; unfold insB; rw [HR.out])
                clear HR
                go_wp2_with (first | (refine wpList_slice_h rfl _ _ rfl _ _ _ rfl rfl HR1.out ?_))
                refine (l1Own_any _ _ _ HT0.out hltk).mono ?_
                rintro e w8 ⟨r8, rfl, ho8, hf8, hb8⟩
                have HO8 := Lib.hid (ho8.alloc (.cells #[.int .i64 (bn : Int)] 3))
                have hB8 := hb8.alloc hb8.size (.cells #[.int .i64 (bn : Int)] 3)
                have hz8 := hb8.size
                clear ho8 hb8
                go_wp2_with (at_builtin; refine wpList_app1 Try.intSl rfl _ _ rfl r8 (O.take k) rfl HO8.out wd.heap.size hf8 w8.heap.size (bn : Int) rfl ?c1 wd hB8 ?c2 hltk ?_)
                case c1 => simp [go_sem]
                case c2 => simp; exact Nat.le_succ_of_le hz8
                intro v9 w9 ho9 hf9 hb9 _
                have HO79 := Lib.hid (show OwnI w9 (.slice (some ⟨go', oo, none⟩) O.length cO) O by rw [HP.out]; exact HOD.out.below hb9 (Nat.le_refl _))
                have HO79' := Lib.hid (show OwnI w9 (.slice (some ⟨go', oo, none⟩) p cO) O from HOD.out.below hb9 (Nat.le_refl _))
                have HO9 := Lib.hid ho9
                have hz9 := hb9.size
                have hpO : p = O.length := HP.out.symm
                have HPO := Lib.hid hpO
                clear ho9 hB8 hz8 hpO
                go_wp2_with (first | (refine wpList_from Try.intSl rfl _ _ rfl (some ⟨go', oo, none⟩) p cO k rfl rfl hk O HPO.out HO79'.out ?_; intro sp m' c' hm' hod hsrc _) | (at_builtin; refine wpList_appI Try.intSl rfl _ _ rfl v9 (O.take k ++ [(bn : Int)]) rfl HO9.out wd.heap.size hf9 sp m' c' (O.drop k) rfl hm'.out hsrc wd hb9 hz9 hlt1 hldk ?_))
                intro v10 w10 ho10 hf10 hb10 hg10
                replace ho10 : OwnI w10 v10 (bestL (cntA ys) (xs.take (q + 1))) := by rw [HE.out, List.append_assoc]; exact ho10
                have HTA := Lib.hid (HTD.out.below hb10 (Nat.le_refl _))
                have hsq := hbq.size
                have hsd := hbD.size
                have hbF : Below w2.heap.size w2 w10 := hbq.trans ((hbD.trans (hb10.mono hbD.size)).mono hbq.size)
                have hfF : From w2.heap.size v10 := hf10.mono (Nat.le_trans hsq hsd)
                have HO10 := Lib.hid ho10
                clear HOD HTD HO8 hf8 hb9 hg10 hb10 hf9 hf10 ho10 hbD HO79 HO79'
                go_wp2
                go_roundw
                case rel => exact ⟨q + 1, by omega, by go_num, HO10.out, HTA, hfF, hbF⟩
                case measure => simp [intOf] <;> omega
        · obtain rfl : q = n := by omega
          have HX := Lib.hid (show OwnI wq u8 (bestL (cntA ys) xs) by have h := ho; rw [← HN.out, List.take_length] at h; exact h)
          clear ho hT
          go_wp2
          go_ret
          exact ⟨_, rfl, HX.out, hf.mono hBr.size, hBr.trans (hbq.mono hBr.size)⟩

set_option maxHeartbeats 400000 in
theorem sBestFixed_any (v : Value) (xs : List Int) (u : Value) (ys : List Int) (w : World) (hv : OwnI w v xs) (hn : xs.length ≤ 1048576) (hu : OwnI w u ys) (hm : ys.length ≤ 1048576) :
    Calls Try.prog 37 #[v, u] w fun e w' => ∃ r, e = .returned (.tuple #[r, .bool (askB xs ys)]) ∧ OwnI w' r (mBestFixed xs ys) ∧ From w.heap.size r ∧ Below w.heap.size w w' := by
  cases hg : askB xs ys with
  | true =>
    have HM := Lib.hid (show mBestFixed xs ys = bestL (cntA ys) xs from if_pos hg)
    obtain ⟨hgx, h60, hall⟩ := askB_iff.1 hg
    have HG := Lib.hid hgx
    have HA := Lib.hid hall
    clear hgx hall
    go_enter Try.func37, Try.ntmps37
    go_wp2_with fail
    refine (shAsked_any _ xs _ ys _ hv hn hu hm).mono ?_
    rintro e w1 ⟨rfl, hb1⟩
    go_wp2_with fail
    refine (shBest_any _ xs _ ys _ (hv.same hb1) HG (hu.same hb1) h60 HA).mono ?_
    rintro e w2 ⟨r, rfl, ho, hf, hb2⟩
    go_wp2
    go_ret2
    exact ⟨_, rfl, by rw [HM.out]; exact ho, hf.mono hb1.size, hb1.trans (hb2.mono hb1.size)⟩
  | false =>
    have HM := Lib.hid (show mBestFixed xs ys = [] from if_neg (by rw [hg]; exact Bool.false_ne_true))
    go_enter Try.func37, Try.ntmps37
    go_wp2_with fail
    refine (shAsked_any _ xs _ ys _ hv hn hu hm).mono ?_
    rintro e w1 ⟨rfl, hb1⟩
    go_wp2
    go_ret2
    exact ⟨_, rfl, by rw [HM.out]; exact OwnI.nil _, From.nil _ _ _, hb1⟩

end Go.Proofs.Ytieongcagkfedaa
