import Derived.Test.YtdkidfilnbglgaaWB
import Derived.Test.YtdkidfilnbglgaaS15
import Derived.Test.YtdkidfilnbglgaaI4
import Derived.Test.YtdkidfilnbglgaaLO
import Derived.Test.YtdkidfilnbglgaaSl
import Derived.Deep.LoopGhost
namespace Go.Pan
open Go Go.RowKit

/-- a list of lists that can be read, its own memory apart from theirs -/
structure RL (w : World) (e : TypeId) (B : Nat) (v : Value) (hs : List Value) (xss : List (List Int)) : Prop where
  len : hs.length = xss.length
  own : w.ownsRow B e 1 v xss.length hs
  row : ∀ (i : Nat) (u : Value) (xs : List Int), hs[i]? = some u → xss[i]? = some xs → OwnI w u xs ∧ Apart v u
/-- all rows lie from N on -/
def RowsFrom (N : Nat) (hs : List Value) : Prop := ∀ (i : Nat) (u : Value), hs[i]? = some u → From N u
theorem RowsFrom.nil (N : Nat) : RowsFrom N [] := fun i u h => by simp at h
theorem RowsFrom.mono {N N' : Nat} {hs : List Value} (h : RowsFrom N hs) (hN : N' ≤ N) : RowsFrom N' hs := fun i u hu => (h i u hu).mono hN
theorem RowsFrom.app {N : Nat} {hs hs2 : List Value} (h : RowsFrom N hs) (h2 : RowsFrom N hs2) : RowsFrom N (hs ++ hs2) := fun i u hu => by
  by_cases hi : i < hs.length
  · rw [List.getElem?_append_left hi] at hu; exact h i u hu
  · rw [List.getElem?_append_right (by omega)] at hu; exact h2 _ u hu
theorem RL.slice {w : World} {e : TypeId} {B : Nat} {v : Value} {hs : List Value} {xss : List (List Int)} (h : RL w e B v hs xss) : ∃ ad cap, v = .slice ad xss.length cap ∧ xss.length ≤ cap := by
  obtain ⟨ad, cap, hv, h1, _⟩ := (Own.of_row h.own).1.shape
  exact ⟨ad, cap, hv, h1⟩
theorem RL.below {w w' : World} {e : TypeId} {B N : Nat} {v : Value} {hs : List Value} {xss : List (List Int)} (h : RL w e B v hs xss) (hb : Below N w w') (hN : w.heap.size ≤ N) : RL w' e B v hs xss := by
  refine ⟨h.len, h.own.kept (grown_of_below (hb.mono hN) none) ?_, fun i u xs hu hx => ⟨(h.row i u xs hu hx).1.below hb hN, (h.row i u xs hu hx).2⟩⟩
  cases hv : v.ownBlock with
  | none => exact .inl rfl
  | some g => exact .inr (by simp)
theorem RL.grown {w w' : World} {e : TypeId} {B : Nat} {v : Value} {hs : List Value} {xss : List (List Int)} {row : Option Nat} (h : RL w e B v hs xss) (hg : w.grownBy w' row) (h1 : ∀ g, v.ownBlock = some g → row ≠ some g) (h2 : ∀ (i : Nat) (u : Value), hs[i]? = some u → ∀ g, u.ownBlock = some g → row ≠ some g) : RL w' e B v hs xss := by
  refine ⟨h.len, h.own.kept hg ?_, fun i u xs hu hx => ⟨(h.row i u xs hu hx).1.grown hg (h2 i u hu), (h.row i u xs hu hx).2⟩⟩
  cases hv : v.ownBlock with
  | none => exact .inl rfl
  | some g => exact .inr (fun e => h1 g hv e.symm)
theorem RL.nil (w : World) (e : TypeId) (B : Nat) : RL w e B (.slice none 0 0) [] [] := ⟨rfl, World.ownsRow_nil _ _ _ _, fun i u xs hu => by simp at hu⟩
theorem RL.from {w : World} {e : TypeId} {B : Nat} {v : Value} {hs : List Value} {xss : List (List Int)} (h : RL w e B v hs xss) : From B v := (Own.of_row h.own).2
theorem RL.lt {w : World} {e : TypeId} {B : Nat} {v : Value} {hs : List Value} {xss : List (List Int)} (h : RL w e B v hs xss) : ∀ g, v.ownBlock = some g → g < w.heap.size := (Own.of_row h.own).1.lt
theorem RL.rowlt {w : World} {e : TypeId} {B : Nat} {v : Value} {hs : List Value} {xss : List (List Int)} (h : RL w e B v hs xss) (i : Nat) (u : Value) (hu : hs[i]? = some u) : ∀ g, u.ownBlock = some g → g < w.heap.size := by
  have hi : i < xss.length := by rw [← h.len]; exact (List.getElem?_eq_some_iff.1 hu).1
  exact (h.row i u _ hu (List.getElem?_eq_getElem hi)).1.lt
/-- the cell of the element k -/
theorem RL.at {w : World} {e : TypeId} {B : Nat} {ad : Option Addr} {n cap : Nat} {hs : List Value} {xss : List (List Int)} (h : RL w e B (.slice ad n cap) hs xss) (k : Nat) (hk : k < xss.length) :
    ∃ g off u, ad = some ⟨g, off, none⟩ ∧ g < w.heap.size ∧ hs[k]? = some u ∧ OwnI w u xss[k] ∧ w.cell? ⟨g, off + k, none⟩ = some u := by
  have ho := (Own.of_row h.own).1
  obtain ⟨ad', cap', hv, h1, _⟩ := ho.shape
  simp only [Value.slice.injEq] at hv
  obtain ⟨rfl, rfl, rfl⟩ := hv
  obtain ⟨g, off, rfl, hg, hc, _⟩ := ho.at (by omega)
  have hkl : k < hs.length := by rw [h.len]; exact hk
  refine ⟨g, off, hs[k], rfl, hg, List.getElem?_eq_getElem hkl, (h.row k _ _ (List.getElem?_eq_getElem hkl) (List.getElem?_eq_getElem hk)).1, ?_⟩
  rw [hc k (by omega), List.getElem?_eq_getElem hkl]
theorem RL.app {w w' : World} {e : TypeId} {B g n cap N : Nat} {v : Value} {hs hs2 : List Value} {xss yss : List (List Int)} (h : RL w e B v hs xss)
    (hr : ∀ (i : Nat) (u : Value) (ys : List Int), hs2[i]? = some u → yss[i]? = some ys → OwnI w u ys) (hf : RowsFrom N hs2) (hvN : ∀ g, v.ownBlock = some g → g < N) (l2 : hs2.length = yss.length)
    (hown : w'.ownsRow B e 1 (.slice (some ⟨g, 0, none⟩) n cap) n (hs ++ hs2)) (hn : n = xss.length + yss.length) (hgr : w.grownBy w' v.ownBlock) (hat : v.ownBlock = some g ∨ g = w.heap.size) :
    RL w' e B (.slice (some ⟨g, 0, none⟩) n cap) (hs ++ hs2) (xss ++ yss) := by
  subst hn
  refine ⟨by simp [h.len, l2], by rw [List.length_append]; exact hown, fun i u xs hu hx => ?_⟩
  have key : ∀ (x : Value) (zs : List Int), OwnI w x zs → Apart v x → OwnI w' x zs ∧ Apart (.slice (some ⟨g, 0, none⟩) (xss.length + yss.length) cap) x := fun x zs hx hax => by
    refine ⟨hx.grown hgr hax.symm, fun b hb e => ?_⟩
    simp [Value.ownBlock] at hb
    subst hb
    rcases hat with hat | hat
    · exact hax g hat e
    · have := hx.lt g e; omega
  by_cases hi : i < hs.length
  · rw [List.getElem?_append_left hi] at hu
    rw [List.getElem?_append_left (by rw [← h.len]; exact hi)] at hx
    have hrr := h.row i u xs hu hx
    exact key u xs hrr.1 hrr.2
  · rw [List.getElem?_append_right (by omega)] at hu
    rw [List.getElem?_append_right (by rw [← h.len]; omega)] at hx
    rw [← h.len] at hx
    refine key u xs (hr _ u xs hu hx) fun b hb e => ?_
    have h1 := hvN b hb
    have h2 := hf _ u hu b e
    omega
/-- the source of an append -/
theorem RL.src {w : World} {e : TypeId} {B : Nat} {ad : Option Addr} {n cap : Nat} {hs : List Value} {xss : List (List Int)} (h : RL w e B (.slice ad n cap) hs xss) : Src w ad n cap hs := by
  have ho := (Own.of_row h.own).1
  obtain ⟨ad', cap', hv, _⟩ := ho.shape
  simp only [Value.slice.injEq] at hv
  obtain ⟨rfl, rfl, rfl⟩ := hv
  exact Own.src ho
theorem OwnI.olds {w : World} {ad : Option Addr} {n cap : Nat} {q : List Int} (h : OwnI w (.slice ad n cap) q) : (ad = none → q.length = 0) ∧ ∀ b, ad = some b → ∀ j u, (q.map iv)[j]? = some u → w.cell? (b.add j) = some u := by
  obtain ⟨ad', cap', hv, h1, h2, h3⟩ := h.shape
  simp only [Value.slice.injEq] at hv
  obtain ⟨rfl, rfl, rfl⟩ := hv
  refine ⟨fun e => by have := h3 e; omega, fun b hb j u hu => ?_⟩
  rcases Own.src h with ⟨e, _⟩ | ⟨a, e, hc⟩
  · rw [e] at hb; cases hb
  · rw [e] at hb; cases hb
    exact hc j u hu
theorem From.apart {N : Nat} {v u : Value} (hv : ∀ g, v.ownBlock = some g → g < N) (hu : From N u) : Apart v u := fun g h1 h2 => by
  have := hv g h1; have := hu g h2; omega

/-- levels: each step from each of the last level -/
def lvG (f : List Int → List (List Int)) : Nat → List (List Int) → List (List Int)
  | 0, L => L
  | d + 1, L => (lvG f d L).flatMap f
theorem lvG_head (f : List Int → List (List Int)) : ∀ (d : Nat) (L : List (List Int)), lvG f (d + 1) L = lvG f d (L.flatMap f)
  | 0, _ => rfl
  | d + 1, L => by rw [lvG, lvG_head f d L]; rfl
end Go.Pan
namespace Go.Proofs.Ytdkidfilnbglgaa
open Go Go.RowKit Go.Pan

theorem infoL2 : (Try.prog.info? 47).map (fun i => (i.zero, i.size, i.bytes)) = some (some (.slice none 0 0), 1, 24) := by kernel_rfl
theorem infoL1 : (Try.prog.info? 22).map (fun i => (i.zero, i.size, i.bytes)) = some (some (.slice none 0 0), 1, 24) := by kernel_rfl

theorem Clip_lit (ad : Option Addr) (n cap : Nat) (w : World) (h : n ≤ cap) :
    Calls Try.prog 91 #[.slice ad n cap] w fun e w' => e = .returned (.slice ad n n) ∧ w = w' := by
  go_enter Try.func91, Try.ntmps91
  go_wp2
  go_ret
  exact ⟨rfl, rfl⟩

def longTo (xs q : List Int) (k : Nat) : List (List Int) := (((belowQ xs q).take k).filter fun x => decide (lastI q < x)).map fun x => q ++ [x]
theorem longTo_zero (xs q : List Int) : longTo xs q 0 = [] := rfl
theorem longTo_all (xs q : List Int) : longTo xs q (belowQ xs q).length = longer xs q := by unfold longTo longer; rw [List.take_length]
theorem longTo_yes {xs q : List Int} {k : Nat} (hk : k < (belowQ xs q).length) (h : lastI q < (belowQ xs q)[k]) : longTo xs q (k + 1) = longTo xs q k ++ [q ++ [(belowQ xs q)[k]]] := by
  unfold longTo
  rw [List.take_succ_eq_append_getElem hk, List.filter_append, List.map_append]
  simp [h]
theorem longTo_no {xs q : List Int} {k : Nat} (hk : k < (belowQ xs q).length) (h : ¬ lastI q < (belowQ xs q)[k]) : longTo xs q (k + 1) = longTo xs q k := by
  unfold longTo
  rw [List.take_succ_eq_append_getElem hk, List.filter_append, List.map_append]
  simp [h]
theorem longTo_le (xs q : List Int) (k : Nat) : (longTo xs q k).length ≤ (belowQ xs q).length := by
  unfold longTo
  rw [List.length_map]
  exact Nat.le_trans (List.length_filter_le _ _) (by rw [List.length_take]; omega)

set_option maxHeartbeats 4000000 in
set_option maxRecDepth 100000 in
theorem longerParts_any (v : Value) (xs : List Int) (u : Value) (q : List Int) (w : World) (hv : OwnI w v xs) (hn : xs.length ≤ 1048576) (hu : OwnI w u q) (hq : q.length ≤ 9) (hin : q ≠ [] → lastI q ∈ xs) :
    Calls Try.prog 153 #[v, u] w fun e w' => ∃ r hs, e = .returned r ∧ RL w' 22 w.heap.size r hs (longer xs q) ∧ RowsFrom w.heap.size hs ∧ (longer xs q = [] → r = .slice none 0 0) ∧ Below w.heap.size w w' := by
  obtain ⟨va, vc, rfl, hvc, _, _⟩ := hv.shape
  obtain ⟨ua, uc, rfl, huc, _, hunil⟩ := hu.shape
  obtain ⟨i0, hi, hz0, hz1, hz2⟩ := info_parts infoL1
  have HI := Lib.hid hi
  have HZ0 := Lib.hid hz0
  have HZ1 := Lib.hid hz1
  have HZ2 := Lib.hid hz2
  obtain ⟨j0, hj, hy0, hy1, hy2⟩ := info_parts Try.info3
  have HJ := Lib.hid hj
  have HY0 := Lib.hid hy0
  have HY1 := Lib.hid hy1
  have HY2 := Lib.hid hy2
  have HUN := Lib.hid hunil
  clear hi hz0 hz1 hz2 hj hy0 hy1 hy2 hunil
  obtain ⟨T, hT⟩ : ∃ T, belowQ xs q = T := ⟨_, rfl⟩
  obtain ⟨L, hL⟩ : ∃ L, lastI q = L := ⟨_, rfl⟩
  obtain ⟨lt, hlt⟩ : ∃ f : Nat → List (List Int), longTo xs q = f := ⟨_, rfl⟩
  have HY := Lib.hid (fun (k : Nat) (hk : k < T.length) (h : L < T[k]) => show lt (k + 1) = lt k ++ [q ++ [T[k]]] by subst hT; subst hL; subst hlt; exact longTo_yes hk h)
  have HN := Lib.hid (fun (k : Nat) (hk : k < T.length) (h : ¬ L < T[k]) => show lt (k + 1) = lt k by subst hT; subst hL; subst hlt; exact longTo_no hk h)
  have hA : longer xs q = lt T.length := by subst hT; subst hlt; exact (longTo_all xs q).symm
  have HLE := Lib.hid (show ∀ k, (lt k).length ≤ T.length by subst hT; subst hlt; exact longTo_le xs q)
  have H0 := Lib.hid (show lt 0 = [] by subst hlt; rfl)
  rw [hA]
  clear hA hlt
  have hTl : T.length ≤ 1048576 := by
    subst hT
    unfold belowQ
    split
    · exact hn
    · rw [List.length_drop]; omega
  by_cases h0 : q = []
  case pos =>
    have hTx : T = xs := by rw [← hT, belowQ, if_pos h0]
    have hL0 : L = 0 := by rw [← hL, h0]; rfl
    subst hTx
    subst hL0
    have hTo := hv
    have hUo := hu
    have HVLT := Lib.hid hv.lt
    have HULT0 := Lib.hid hu.lt
    clear hv hu
    have hql : q.length = 0 := by rw [h0]; rfl
    have hul : decide (0 < q.length) = false := decide_eq_false (by omega)
    have hb1 : Below w.heap.size w w := Below.refl _ _
    clear hT hL h0 hin hql
    go_enter Try.func153, Try.ntmps153
    go_wp2
    go_loopw [7, 28] (fun o i wr => ∃ (k : Nat) (hs : List Value), k ≤ T.length ∧ i = .int .i64 k ∧ Hid (RL wr 22 w.heap.size o hs (lt k)) ∧ Hid (RowsFrom w.heap.size hs) ∧ Hid (lt k = [] → o = .slice none 0 0) ∧ Below w.heap.size w wr ∧ Hid (OwnI wr (.slice va T.length vc) T) ∧ Hid (OwnI wr (.slice ua q.length uc) q)) (fun _ i _ => T.length - (intOf i).toNat)
    case atStart => exact ⟨0, [], Nat.zero_le _, rfl, Lib.hid (by rw [H0.out]; exact RL.nil _ _ _), Lib.hid (RowsFrom.nil _), Lib.hid (fun _ => rfl), hb1, Lib.hid hTo, Lib.hid hUo⟩
    case round =>
      obtain ⟨k, hs, hk, rfl, hR, hF, hZ, hbr, hB, hU⟩ := hrel
      clear hTo hUo hb1 hul
      have hsr := hbr.size
      by_cases hlt : k < T.length
      · have hlt' : (k : Int) < T.length := by omega
        have hbs := hB.out.shape
        obtain ⟨g, off, hbe, hgl, hcell, _⟩ := hB.out.at (by obtain ⟨_, _, he, h1, _⟩ := hbs; simp only [Value.slice.injEq] at he; obtain ⟨_, _, rfl⟩ := he; omega)
        have hck := hcell k (by omega)
        rw [List.getElem?_map, List.getElem?_eq_getElem hlt] at hck
        have HYk := HY.out k hlt
        have HNk := HN.out k hlt
        have hlen := HLE.out k
        obtain ⟨x, hx⟩ : ∃ x, T[k] = x := ⟨_, rfl⟩
        rw [hx] at hck HYk HNk
        have hck' : wr.cell? ⟨g, off + k, none⟩ = some (.int .i64 x) := hck
        cases hbe
        clear hx hcell hck hbs
        by_cases hgt : (0 : Int) < x
        · have HS := Lib.hid (HYk hgt)
          have hol := OwnI.olds (hU.out.alloc (.cells #[.int .i64 x] 3))
          have HOL := Lib.hid hol
          clear HYk HNk hol
          go_wp2_with fail
          refine (Clip_lit _ _ _ _ huc).mono ?_
          rintro e w2 ⟨rfl, rfl⟩
          go_wp2_with (at_builtin; (refine wpList_append_grows _ rfl _ _ 22 rfl 3 j0 _ 1 8 Try.underlying22 HJ.out HY0.out HY1.out HY2.out rfl (by omega) _ q.length q.length (q.map iv) rfl (fun h => ⟨HOL.out.1 h, HOL.out.1 h⟩) (by simp) HOL.out.2 ⟨wr.heap.size, 0, none⟩ 1 1 [.int .i64 x] rfl rfl (World.news_of_block (heap_alloc_new _ _)) (by simp [Value.oneCell']) (by omega) (by unfold maxLen; omega) (by omega) ?_))
          intro v3 w3 ho3 hg3
          have hof3 := Own.of_row ho3
          have ho4 : OwnI w3 v3 (q ++ [x]) := by unfold OwnI; rw [List.length_append, List.map_append]; exact hof3.1
          have hf4 : From wr.heap.size v3 := hof3.2.mono (by simp)
          obtain ⟨a3, c3, hv3, _, _, _⟩ := ho4.shape
          rw [show (q ++ [x]).length = q.length + 1 from by simp] at hv3
          subst hv3
          have hg0 := Below.grown (hbr.alloc hsr (.cells #[.int .i64 x] 3)) hg3 (by simp; omega) (by intro b hb; cases hb)
          have hga : wr.heap.size ≤ w3.heap.size := by have := hg3.size; simp at this; omega
          have hR4 : RL w3 22 w.heap.size u7 hs (lt k) := (hR.out.below (below_new wr (.cells #[.int .i64 x] 3)) (Nat.le_refl _)).grown hg3 (by intro _ _ h; cases h) (by intro _ _ _ _ _ h; cases h)
          have hB4 : OwnI w3 (.slice (some ⟨g, off, none⟩) T.length vc) T := (hB.out.alloc _).grown hg3 (by intro _ _ h; cases h)
          have hU4 : OwnI w3 (.slice ua q.length uc) q := (hU.out.alloc _).grown hg3 (by intro _ _ h; cases h)
          have HR5 := Lib.hid (hR4.below (below_new w3 (.cells #[.slice a3 (q.length + 1) c3] 22)) (Nat.le_refl _))
          have HB5 := Lib.hid (hB4.alloc (.cells #[.slice a3 (q.length + 1) c3] 22))
          have HU5 := Lib.hid (hU4.alloc (.cells #[.slice a3 (q.length + 1) c3] 22))
          have HO5 := Lib.hid (ho4.alloc (.cells #[.slice a3 (q.length + 1) c3] 22))
          have HRLT := Lib.hid hR.out.lt
          have HHULT0.out := Lib.hid hU.out.lt
          have HHVLT.out := Lib.hid hB.out.lt
          have HRF := Lib.hid hR.out.from
          have hb5 := hg0.alloc (by omega : w.heap.size ≤ w3.heap.size) (.cells #[.slice a3 (q.length + 1) c3] 22)
          clear ho3 hof3 ho4 hR4 hB4 hU4 hg0 hg3 hR hB hU hZ
          go_wp2_with (at_builtin; refine wpList_append_lies _ rfl _ _ 47 rfl w.heap.size 22 i0 _ 1 24 Try.underlying47 HI.out HZ0.out HZ1.out HZ2.out rfl (by omega) u7 (lt k).length hs rfl HR5.out.own _ 1 1 [.slice a3 (q.length + 1) c3] rfl (by simp) (World.news_of_block (heap_alloc_new _ _)) (by simp [Value.oneCell']) (by omega) (by unfold maxLen; omega) (by omega) (by simp; omega) (w3.heap.size + 1) (by simp) ?_)
          intro g6 cap6 w6 hown6 hgr6 hat6 hlt6
          have hf6 : RowsFrom wr.heap.size [Value.slice a3 (q.length + 1) c3] := fun i u hu => by
            have h0 : i < 1 := (List.getElem?_eq_some_iff.1 hu).1
            obtain rfl : i = 0 := by omega
            simp at hu
            subst hu
            exact hf4
          have hR6 := RL.app (N := wr.heap.size) (yss := [q ++ [x]]) HR5.out (fun i u ys hu hy => by
            have h0 : i < 1 := (List.getElem?_eq_some_iff.1 hu).1
            obtain rfl : i = 0 := by omega
            simp at hu hy
            subst hu
            subst hy
            exact HO5.out) hf6 HRLT.out rfl hown6 rfl hgr6 (by simpa using hat6)
          have hne6 : ∀ (u : Value), (∀ b, u.ownBlock = some b → b < w.heap.size) → ∀ b, u.ownBlock = some b → u7.ownBlock ≠ some b := fun u h b hb e => by have := h b hb; have := HRF.out b e; omega
          have HR6 := Lib.hid (show RL w6 22 w.heap.size _ _ (lt (k + 1)) by rw [HS.out]; exact hR6)
          have HL6 := Lib.hid (show (lt (k + 1)).length = (lt k).length + 1 by rw [HS.out]; simp)
          have HF6 := Lib.hid (hF.out.app (hf6.mono hsr))
          have HZ6 := Lib.hid (show lt (k + 1) = [] → (Value.slice (some ⟨g6, 0, none⟩) ((lt k).length + 1) cap6) = .slice none 0 0 from fun h => by rw [HS.out] at h; simp at h)
          have hb6 := hb5.grown hgr6 (by simp; omega) (fun b hb => HRF.out b hb)
          have HB6 := Lib.hid (HB5.out.grown hgr6 (hne6 _ HVLT.out))
          have HU6 := Lib.hid (HU5.out.grown hgr6 (hne6 _ HULT0.out))
          clear hown6 hgr6 hat6 hR6 hf6 hne6 hb5
          go_wp2
          go_roundw
          case rel => exact ⟨k + 1, _, by omega, by go_num, HR6, HF6, HZ6, hb6, HB6, HU6⟩
          case measure => simp [intOf] <;> omega
        · have HS := Lib.hid (HNk (by omega))
          clear HYk HNk
          go_wp2
          go_roundw
          case rel => exact ⟨k + 1, hs, by omega, by go_num, by rw [HS.out]; exact hR, hF, by rw [HS.out]; exact hZ, hbr, hB, hU⟩
          case measure => simp [intOf] <;> omega
      · obtain rfl : k = T.length := by omega
        go_wp2
        go_ret
        exact ⟨_, hs, rfl, hR.out, hF.out, hZ.out, hbr⟩
  case neg =>
    have hm := hin h0
    have hTx : xs.drop (xs.idxOf L + 1) = T := by rw [← hT, belowQ, if_neg h0, hL]
    have hP := placeL_of_mem (by rw [← hL]; exact hm : L ∈ xs)
    have hix := List.idxOf_lt_length_of_mem (by rw [← hL]; exact hm : L ∈ xs)
    have hqp : 0 < q.length := List.length_pos_iff.2 h0
    have hul : (0 : Int) < (q.length : Int) := by omega
    obtain ⟨ug, uo, rfl, hug, hucell, _⟩ := hu.at (by omega)
    have hlc := hucell (q.length - 1) (by omega)
    rw [List.getElem?_map, List.getElem?_eq_getElem (by omega)] at hlc
    have hlast : q[q.length - 1]'(by omega) = L := by rw [← hL]; unfold lastI; rw [List.getLast?_eq_getElem?, List.getElem?_eq_getElem (by omega)]; rfl
    rw [hlast] at hlc
    have hlc' : w.cell? ⟨ug, uo + (q.length - 1), none⟩ = some (.int .i64 L) := hlc
    obtain ⟨i, hI⟩ : ∃ i, xs.idxOf L = i := ⟨_, rfl⟩
    rw [hI] at hTx hP hix
    obtain ⟨vg, vo, rfl, _, _, _⟩ := hv.at (by omega)
    obtain ⟨ta, tc, hrun, hto⟩ := from_some (ad := ⟨vg, vo, none⟩) (cap := vc) (n := i + 1) (q := xs) (by omega)
    rw [hTx] at hrun hto
    rw [Int.natCast_add, Int.natCast_one] at hrun
    have HR := Lib.hid hrun
    have cI := Index_any _ xs L w hv hn
    rw [hP] at cI
    have hq1 : (q.length : Int) - 1 = ((q.length - 1 : Nat) : Int) := by omega
    have hqn : ((q.length : Int) - 1).toNat = q.length - 1 := by omega
    have hq2 : (0 : Int) ≤ (q.length : Int) - 1 := by omega
    have hi9 : (i : Int) ≤ 1048576 := by omega
    clear hT hL h0 hin hm hTx hP hlc hlast hI hucell hrun
    go_enter Try.func153, Try.ntmps153
    go_wp2_with fail
    refine cI.mono ?_
    rintro e w1 ⟨rfl, hb1⟩
    have hTo := hto _ (hv.same hb1)
    have hUo := hu.same hb1
    have HTLT := Lib.hid (hto _ hv).lt
    have HULT0 := Lib.hid hu.lt
    clear hv hu cI hto hlc'
    go_wp2_with (first | (refine wpList_slice_l rfl _ _ rfl _ _ _ rfl rfl HR.out ?_))
    go_loopw [7, 28] (fun o i wr => ∃ (k : Nat) (hs : List Value), k ≤ T.length ∧ i = .int .i64 k ∧ Hid (RL wr 22 w.heap.size o hs (lt k)) ∧ Hid (RowsFrom w.heap.size hs) ∧ Hid (lt k = [] → o = .slice none 0 0) ∧ Below w.heap.size w wr ∧ Hid (OwnI wr (.slice (some ta) T.length tc) T) ∧ Hid (OwnI wr (.slice (some ⟨ug, uo, none⟩) q.length uc) q)) (fun _ i _ => T.length - (intOf i).toNat)
    case atStart => exact ⟨0, [], Nat.zero_le _, rfl, Lib.hid (by rw [H0.out]; exact RL.nil _ _ _), Lib.hid (RowsFrom.nil _), Lib.hid (fun _ => rfl), hb1, Lib.hid hTo, Lib.hid hUo⟩
    case round =>
      obtain ⟨k, hs, hk, rfl, hR, hF, hZ, hbr, hB, hU⟩ := hrel
      clear hTo hUo hb1 hul
      have hsr := hbr.size
      by_cases hlt : k < T.length
      · have hlt' : (k : Int) < T.length := by omega
        have hbs := hB.out.shape
        obtain ⟨g, off, hbe, hgl, hcell, _⟩ := hB.out.at (by obtain ⟨_, _, he, h1, _⟩ := hbs; simp only [Value.slice.injEq] at he; obtain ⟨_, _, rfl⟩ := he; omega)
        have hck := hcell k (by omega)
        rw [List.getElem?_map, List.getElem?_eq_getElem hlt] at hck
        have HYk := HY.out k hlt
        have HNk := HN.out k hlt
        have hlen := HLE.out k
        obtain ⟨x, hx⟩ : ∃ x, T[k] = x := ⟨_, rfl⟩
        rw [hx] at hck HYk HNk
        have hck' : wr.cell? ⟨g, off + k, none⟩ = some (.int .i64 x) := hck
        cases hbe
        clear hx hcell hck hbs
        by_cases hgt : L < x
        · have HS := Lib.hid (HYk hgt)
          have hol := OwnI.olds (hU.out.alloc (.cells #[.int .i64 x] 3))
          have HOL := Lib.hid hol
          clear HYk HNk hol
          go_wp2_with fail
          refine (Clip_lit _ _ _ _ huc).mono ?_
          rintro e w2 ⟨rfl, rfl⟩
          go_wp2_with (at_builtin; (refine wpList_append_grows _ rfl _ _ 22 rfl 3 j0 _ 1 8 Try.underlying22 HJ.out HY0.out HY1.out HY2.out rfl (by omega) _ q.length q.length (q.map iv) rfl (fun h => ⟨HOL.out.1 h, HOL.out.1 h⟩) (by simp) HOL.out.2 ⟨wr.heap.size, 0, none⟩ 1 1 [.int .i64 x] rfl rfl (World.news_of_block (heap_alloc_new _ _)) (by simp [Value.oneCell']) (by omega) (by unfold maxLen; omega) (by omega) ?_))
          intro v3 w3 ho3 hg3
          have hof3 := Own.of_row ho3
          have ho4 : OwnI w3 v3 (q ++ [x]) := by unfold OwnI; rw [List.length_append, List.map_append]; exact hof3.1
          have hf4 : From wr.heap.size v3 := hof3.2.mono (by simp)
          obtain ⟨a3, c3, hv3, _, _, _⟩ := ho4.shape
          rw [show (q ++ [x]).length = q.length + 1 from by simp] at hv3
          subst hv3
          have hg0 := Below.grown (hbr.alloc hsr (.cells #[.int .i64 x] 3)) hg3 (by simp; omega) (by intro b hb; cases hb)
          have hga : wr.heap.size ≤ w3.heap.size := by have := hg3.size; simp at this; omega
          have hR4 : RL w3 22 w.heap.size u7 hs (lt k) := (hR.out.below (below_new wr (.cells #[.int .i64 x] 3)) (Nat.le_refl _)).grown hg3 (by intro _ _ h; cases h) (by intro _ _ _ _ _ h; cases h)
          have hB4 : OwnI w3 (.slice (some ⟨g, off, none⟩) T.length tc) T := (hB.out.alloc _).grown hg3 (by intro _ _ h; cases h)
          have hU4 : OwnI w3 (.slice (some ⟨ug, uo, none⟩) q.length uc) q := (hU.out.alloc _).grown hg3 (by intro _ _ h; cases h)
          have HR5 := Lib.hid (hR4.below (below_new w3 (.cells #[.slice a3 (q.length + 1) c3] 22)) (Nat.le_refl _))
          have HB5 := Lib.hid (hB4.alloc (.cells #[.slice a3 (q.length + 1) c3] 22))
          have HU5 := Lib.hid (hU4.alloc (.cells #[.slice a3 (q.length + 1) c3] 22))
          have HO5 := Lib.hid (ho4.alloc (.cells #[.slice a3 (q.length + 1) c3] 22))
          have HRLT := Lib.hid hR.out.lt
          have HHULT0.out := Lib.hid hU.out.lt
          have HHTLT.out := Lib.hid hB.out.lt
          have HRF := Lib.hid hR.out.from
          have hb5 := hg0.alloc (by omega : w.heap.size ≤ w3.heap.size) (.cells #[.slice a3 (q.length + 1) c3] 22)
          clear ho3 hof3 ho4 hR4 hB4 hU4 hg0 hg3 hR hB hU hZ
          go_wp2_with (at_builtin; refine wpList_append_lies _ rfl _ _ 47 rfl w.heap.size 22 i0 _ 1 24 Try.underlying47 HI.out HZ0.out HZ1.out HZ2.out rfl (by omega) u7 (lt k).length hs rfl HR5.out.own _ 1 1 [.slice a3 (q.length + 1) c3] rfl (by simp) (World.news_of_block (heap_alloc_new _ _)) (by simp [Value.oneCell']) (by omega) (by unfold maxLen; omega) (by omega) (by simp; omega) (w3.heap.size + 1) (by simp) ?_)
          intro g6 cap6 w6 hown6 hgr6 hat6 hlt6
          have hf6 : RowsFrom wr.heap.size [Value.slice a3 (q.length + 1) c3] := fun i u hu => by
            have h0 : i < 1 := (List.getElem?_eq_some_iff.1 hu).1
            obtain rfl : i = 0 := by omega
            simp at hu
            subst hu
            exact hf4
          have hR6 := RL.app (N := wr.heap.size) (yss := [q ++ [x]]) HR5.out (fun i u ys hu hy => by
            have h0 : i < 1 := (List.getElem?_eq_some_iff.1 hu).1
            obtain rfl : i = 0 := by omega
            simp at hu hy
            subst hu
            subst hy
            exact HO5.out) hf6 HRLT.out rfl hown6 rfl hgr6 (by simpa using hat6)
          have hne6 : ∀ (u : Value), (∀ b, u.ownBlock = some b → b < w.heap.size) → ∀ b, u.ownBlock = some b → u7.ownBlock ≠ some b := fun u h b hb e => by have := h b hb; have := HRF.out b e; omega
          have HR6 := Lib.hid (show RL w6 22 w.heap.size _ _ (lt (k + 1)) by rw [HS.out]; exact hR6)
          have HL6 := Lib.hid (show (lt (k + 1)).length = (lt k).length + 1 by rw [HS.out]; simp)
          have HF6 := Lib.hid (hF.out.app (hf6.mono hsr))
          have HZ6 := Lib.hid (show lt (k + 1) = [] → (Value.slice (some ⟨g6, 0, none⟩) ((lt k).length + 1) cap6) = .slice none 0 0 from fun h => by rw [HS.out] at h; simp at h)
          have hb6 := hb5.grown hgr6 (by simp; omega) (fun b hb => HRF.out b hb)
          have HB6 := Lib.hid (HB5.out.grown hgr6 (hne6 _ HTLT.out))
          have HU6 := Lib.hid (HU5.out.grown hgr6 (hne6 _ HULT0.out))
          clear hown6 hgr6 hat6 hR6 hf6 hne6 hb5
          go_wp2
          go_roundw
          case rel => exact ⟨k + 1, _, by omega, by go_num, HR6, HF6, HZ6, hb6, HB6, HU6⟩
          case measure => simp [intOf] <;> omega
        · have HS := Lib.hid (HNk (by omega))
          clear HYk HNk
          go_wp2
          go_roundw
          case rel => exact ⟨k + 1, hs, by omega, by go_num, by rw [HS.out]; exact hR, hF, by rw [HS.out]; exact hZ, hbr, hB, hU⟩
          case measure => simp [intOf] <;> omega
      · obtain rfl : k = T.length := by omega
        go_wp2
        go_ret
        exact ⟨_, hs, rfl, hR.out, hF.out, hZ.out, hbr⟩


-- END LONGER
end Go.Proofs.Ytdkidfilnbglgaa
