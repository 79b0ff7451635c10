import Derived.Test.YtlomdnldokbjoaaU10
import Derived.Test.YtlomdnldokbjoaaS15
import Derived.Test.YtlomdnldokbjoaaI4
import Derived.Deep.LoopGhost
namespace Go.Proofs.Ytlomdnldokbjoaa
open Go Go.RowKit Go.Pan

theorem botT_good (x : List Int) (h : Pan.Good x) : Pan.Good (botT x) ∧ (botT x).length = x.length := ⟨turnL_good h _, turnL_length _ _⟩
theorem again_sum {st : List Int → List Int} {q : List Int} {n : Nat} (hst : ∀ m, Pan.Good (iterL st m q) ∧ (iterL st m q).length = n) : againI st q + againP st q ≤ 1000000000 ∧ 0 < againP st q := by
  have h := again_val hst
  exact ⟨orb_few hst h.2.1, h.1⟩

set_option maxHeartbeats 1600000 in
theorem BottomGame_any (v : Value) (xs : List Int) (w : World) (hv : OwnI w v xs) (hn : xs.length ≤ 1048576) :
    Calls Try.prog 104 #[v] w fun e w' => e = .returned (.tuple #[.int .i64 (mBottomGame xs), .bool (goodB xs)]) ∧ Below w.heap.size w w' := by
  obtain ⟨ad, cap, rfl, hcc, _, _⟩ := hv.shape
  have hb0 : Below w.heap.size w (w.alloc (.cells #[.slice ad xs.length cap] 24)) := below_new w _
  have hz0 : w.heap.size < (w.alloc (.cells #[.slice ad xs.length cap] 24)).heap.size := by simp
  have hc0 : (w.alloc (.cells #[.slice ad xs.length cap] 24)).cell? ⟨w.heap.size, 0, none⟩ = some (.slice ad xs.length cap) := by
    rw [(Blk.new w 24 [.slice ad xs.length cap] _ rfl).cell 0]; rfl
  have HC0 := Lib.hid hc0
  have c := IsStack_any _ _ _ (hv.alloc (.cells #[.slice ad xs.length cap] 24)) hn
  cases hg : goodB xs with
  | true =>
    have hG := goodB_iff.1 hg
    have h9 := hG.le9
    have HM := Lib.hid (show mBottomGame xs = (againI botT xs : Int) + (againP botT xs : Int) - 1 from if_pos hg)
    have hit := iter_good (st := botT) hG botT_good
    have HIT := Lib.hid hit
    have hsum := again_sum hit
    obtain ⟨p, hp⟩ : ∃ p, xs.length = p + 1 := ⟨xs.length - 1, by have := hG.1; omega⟩
    have HP := Lib.hid hp
    rw [hg] at c
    have C3 := Lib.hid (fun w2 => againB_any botT xs.length xs (.pointer (some ⟨w.heap.size, 0, none⟩)) w2 HIT)
    obtain ⟨I, hI⟩ : ∃ I, againI botT xs = I := ⟨_, rfl⟩
    obtain ⟨P, hP⟩ : ∃ P, againP botT xs = P := ⟨_, rfl⟩
    rw [hI, hP] at HM C3 hsum
    have hs1 := hsum.1
    have hs2 := hsum.2
    clear hg hG hit hsum hp hc0 hI hP
    go_enter Try.func104, Try.ntmps104
    go_wp2_with fail
    refine c.mono ?_
    rintro e w1 ⟨rfl, hb1⟩
    have hc1 := (hb1.cell (p := ⟨w.heap.size, 0, none⟩) hz0).trans HC0.out
    have hv1 := (hv.alloc (.cells #[.slice ad xs.length cap] 24)).same hb1
    have hz1 : w.heap.size < w1.heap.size := Nat.lt_of_lt_of_le hz0 hb1.size
    have hB1 := hb0.trans (hb1.mono hb0.size)
    clear c hv hb1
    go_wp2_with fail
    refine (towerOf_any _ _ _ hv1 h9).mono ?_
    rintro e w2 ⟨rfl, hb2⟩
    have hc2 := (hb2.cell (p := ⟨w.heap.size, 0, none⟩) hz1).trans hc1
    have hz2 : w.heap.size < w2.heap.size := Nat.lt_of_lt_of_le hz1 hb2.size
    have hB2 := hB1.trans (hb2.mono hB1.size)
    have HC2 := Lib.hid hc2
    clear hv1 hb2 hc1 hc2
    go_wp2_with fail
    refine (C3.out w2 (Lib.hid fun q u hq hl hb => botStep_any q p w.heap.size ad cap u (Lib.hid hq) (Lib.hid (by rw [hl]; exact HP.out)) ((hb.cell (p := ⟨w.heap.size, 0, none⟩) hz2).trans (by rw [← HP.out]; exact HC2.out)) (Nat.lt_of_lt_of_le hz2 hb.size))).mono ?_
    rintro e w3 ⟨rfl, hb3⟩
    have hB3 := hB2.trans (hb3.mono hB2.size)
    clear hb3
    go_wp2
    go_ret2
    exact ⟨by rw [HM.out]; rfl, hB3⟩
  | false =>
    have HM := Lib.hid (show mBottomGame xs = 0 from if_neg (by rw [hg]; exact Bool.false_ne_true))
    rw [hg] at c
    clear hg hc0
    go_enter Try.func104, Try.ntmps104
    go_wp2_with fail
    refine c.mono ?_
    rintro e w1 ⟨rfl, hb1⟩
    clear c hv
    go_wp2
    go_ret2
    exact ⟨by rw [HM.out]; rfl, hb0.trans (hb1.mono hb0.size)⟩

/-- the number of a stack in a list, or -1 -/
def seenIdx (V : List (List Int)) (q : List Int) : Int := if q ∈ V then (V.idxOf q : Int) else -1

set_option maxHeartbeats 1600000 in
set_option maxRecDepth 100000 in
theorem toSeen_any (v u : Value) (hs : List Value) (V : List (List Int)) (q : List Int) (B N : Nat) (w : World) (hS : Hid (SS w B N v hs V)) (hu : OwnI w u q) (hq : q.length ≤ 1048576) (hV : Hid (∀ x ∈ V, x.length ≤ 1048576)) (hl : V.length ≤ 1000000001) :
    Calls Try.prog 175 #[v, u] w fun e w' => e = .returned (.int .i64 (seenIdx V q)) ∧ Below w.heap.size w w' := by
  obtain ⟨ad, cp, rfl, hcc, _, _⟩ := hS.out.own.shape
  have hsl := hS.out.len
  rw [hsl] at hcc hS ⊢
  obtain ⟨m, hm⟩ : ∃ m, V.length = m := ⟨_, rfl⟩
  have HM := Lib.hid hm
  have HU := Lib.hid hu
  rw [hm] at hcc hS hl ⊢
  clear hsl hm hu
  go_enter Try.func175, Try.ntmps175
  go_wp2
  go_loopw [9] (fun i wr => ∃ k : Nat, k ≤ m ∧ i = .int .i64 k ∧ Hid (∀ j x, j < k → V[j]? = some x → x ≠ q) ∧ Below w.heap.size w wr) (fun i _ => m - (intOf i).toNat)
  case atStart => exact ⟨0, Nat.zero_le _, rfl, Lib.hid (fun j x hj => by omega), Below.refl _ _⟩
  case round =>
    obtain ⟨k, hk, rfl, hno, hbr⟩ := hrel
    by_cases hlt : k < m
    · have hlt' : (k : Int) < m := by omega
      have hkl : k < V.length := by rw [HM.out]; exact hlt
      obtain ⟨g, off, rfl, x, hx, hox, hin, _, hcx⟩ := hS.out.at k hkl
      have hcr := (hbr.cell (p := ⟨g, off + k, none⟩) (World.block_lt_of_cell? w _ hcx)).trans hcx
      have hxl := hV.out _ (List.getElem_mem hkl)
      have hxr := hox.below hbr (Nat.le_refl _)
      have hur := HU.out.below hbr (Nat.le_refl _)
      have c := stSame_any x u V[k] q wr hxr hxl hur hq
      have hgk : V[k]? = some V[k] := List.getElem?_eq_getElem hkl
      obtain ⟨y, hy⟩ : ∃ y, V[k] = y := ⟨_, rfl⟩
      rw [hy] at c hgk hxr
      obtain ⟨ax, cx, rfl, _, _, _⟩ := hxr.shape
      by_cases he : y = q
      · rw [decide_eq_true he] at c
        have HI := Lib.hid (show seenIdx V q = (k : Int) by
          subst he
          have hmem : y ∈ V := List.mem_of_getElem? hgk
          unfold seenIdx
          rw [if_pos hmem]
          have hlt2 := List.idxOf_lt_length_of_mem hmem
          have hg2 := List.getElem_idxOf hlt2
          by_cases h1 : V.idxOf y < k
          · exact absurd hg2 (hno.out _ _ h1 (List.getElem?_eq_getElem hlt2))
          · have h3 : V.idxOf y ≤ k := by
              have h4 : (V.take (k + 1)).idxOf y < (V.take (k + 1)).length := List.idxOf_lt_length_of_mem (by
                rw [List.mem_take_iff_getElem]
                exact ⟨k, by omega, by have := List.getElem?_eq_some_iff.1 hgk; exact this.choose_spec⟩)
              have h5 : V.idxOf y = (V.take (k + 1)).idxOf y := by
                have hsplit : V = V.take (k + 1) ++ V.drop (k + 1) := (List.take_append_drop _ _).symm
                conv => lhs; rw [hsplit]
                rw [List.idxOf_append, if_pos (by
                  rw [List.mem_take_iff_getElem]
                  exact ⟨k, by omega, by have := List.getElem?_eq_some_iff.1 hgk; exact this.choose_spec⟩)]
              rw [List.length_take] at h4
              omega
            omega)
        clear hx hox hin hcx hxl hkl hgk hy he hno hxr hur
        go_wp2_with fail
        refine c.mono ?_
        rintro e w3 ⟨rfl, hb3⟩
        clear c
        go_wp2
        go_ret
        exact ⟨by rw [HI.out]; rfl, hbr.trans (hb3.mono hbr.size)⟩
      · rw [decide_eq_false he] at c
        have HN := Lib.hid (show ∀ j x, j < k + 1 → V[j]? = some x → x ≠ q from fun j z hj hzz => by
          by_cases e : j = k
          · rw [e, hgk] at hzz; cases hzz; exact he
          · exact hno.out j z (by omega) hzz)
        clear hx hox hin hcx hxl hkl hgk hy he hno hxr hur
        go_wp2_with fail
        refine c.mono ?_
        rintro e w3 ⟨rfl, hb3⟩
        have hB3 := hbr.trans (hb3.mono hbr.size)
        clear c hb3
        go_wp2
        go_roundw
        case rel => exact ⟨k + 1, by omega, by go_num, HN, hB3⟩
        case measure => simp [intOf] <;> omega
    · obtain rfl : k = m := by omega
      have HI := Lib.hid (show seenIdx V q = -1 by
        unfold seenIdx
        refine if_neg fun hmem => ?_
        obtain ⟨j, hj, e⟩ := List.getElem_of_mem hmem
        exact hno.out j q (by rw [← HM.out]; exact hj) (by rw [List.getElem?_eq_getElem hj, e]) rfl)
      clear hno
      go_wp2
      go_ret
      exact ⟨by rw [HI.out]; rfl, hbr⟩

end Go.Proofs.Ytlomdnldokbjoaa

