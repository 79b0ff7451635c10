import Derived.Test.YtmlikchhkblohaaU7
import Derived.Deep.LoopGhost
namespace Go.Pan
open Go Go.RowKit

theorem lvl_succ' : ∀ (d : Nat) (L : List (List Int)), lvl (d + 1) L = (lvl d L).flatMap befL
  | 0, _ => rfl
  | d + 1, L => by rw [lvl, lvl_succ' d (L.flatMap befL)]; rfl
theorem levF_at {f : Nat} {L : List (List Int)} {d : Nat} (h : ∀ i, i < d → lvl i L ≠ []) (h0 : lvl d L = []) (hd : d ≤ f) : levF f L = d := by
  induction f generalizing L d with
  | zero => obtain rfl : d = 0 := by omega
            rfl
  | succ f ih =>
    rw [levF]
    cases d with
    | zero => rw [if_pos (by rw [List.length_eq_zero_iff]; exact h0)]
    | succ d =>
      rw [if_neg (by rw [List.length_eq_zero_iff]; exact h 0 (by omega))]
      rw [ih (L := L.flatMap befL) (d := d) (fun i hi => h (i + 1) (by omega)) h0 (by omega)]

theorem Own.src9 {w : World} {n cap : Nat} {ad : Option Addr} {cs : List Value} (h : Own w 9 (.slice ad n cap) n cs) : Src w ad n cap cs := by
  obtain ⟨ad', cap', hv, h1, h2, h3, h4, h⟩ := h
  simp only [Value.slice.injEq, true_and] at hv
  obtain ⟨rfl, rfl⟩ := hv
  cases ad with
  | none =>
    have hc := h4 rfl
    subst hc
    obtain rfl : n = 0 := by omega
    exact .inl ⟨rfl, rfl, rfl, List.eq_nil_of_length_eq_zero (by simpa using h1)⟩
  | some a =>
    obtain ⟨hs, cur, ty, hh, r, hc⟩ := h a rfl
    obtain ⟨g, off, sp⟩ := a
    simp only at hs hh r hc
    subst hs
    refine .inr ⟨_, rfl, fun j u hj => ?_⟩
    have hlt : j < cs.length := (List.getElem?_eq_some_iff.1 hj).1
    rw [Addr.add_lit, cell_of_row w g _ cur ty (0, 0) hh, hc j (by omega), hj]

/-- found levels -/
structure LvOk (w : World) (v : Value) (hs : List Value) (L : List (List Int)) (d : Nat) : Prop where
  len : hs.length = d
  own : Own w 1 v d hs
  row : ∀ (i : Nat) (u : Value), hs[i]? = some u → Own w 9 u (lvl i L).length (tws (lvl i L)) ∧ Apart v u
theorem LvOk.below {w w' : World} {v : Value} {hs : List Value} {L : List (List Int)} {d B : Nat} (h : LvOk w v hs L d) (hb : Below B w w') (hB : w.heap.size ≤ B) : LvOk w' v hs L d :=
  ⟨h.len, h.own.below hb hB, fun i u hu => ⟨(h.row i u hu).1.below hb hB, (h.row i u hu).2⟩⟩
theorem LvOk.nil (w : World) (L : List (List Int)) : LvOk w (.slice none 0 0) [] L 0 := ⟨rfl, Own.nil w 1, fun i u hu => by simp at hu⟩
theorem LvOk.app {w w' : World} {B g cap : Nat} {ty : TypeId} {v u : Value} {hs : List Value} {L : List (List Int)} {d : Nat} (h : LvOk w v hs L d)
    (hu : Own w 9 u (lvl d L).length (tws (lvl d L))) (hap : Apart v u) (hown : w'.ownsRow B ty 1 (.slice (some ⟨g, 0, none⟩) (d + 1) cap) (d + 1) (hs ++ [u])) (hgr : w.grownBy w' v.ownBlock) (hat : v.ownBlock = some g ∨ g = w.heap.size) :
    LvOk w' (.slice (some ⟨g, 0, none⟩) (d + 1) cap) (hs ++ [u]) L (d + 1) := by
  have hO := Own.of_row hown
  have key : ∀ (x : Value) (n : Nat) (cs : List Value), Own w 9 x n cs → Apart v x → Own w' 9 x n cs ∧ Apart (.slice (some ⟨g, 0, none⟩) (d + 1) cap) x := fun x n cs hx hax => by
    refine ⟨hx.grown hgr hax.symm, fun b hb e => ?_⟩
    simp [Value.ownBlock] at hb
    subst hb
    rcases hat with hat | hat
    · exact hax g hat e
    · have := hx.lt g e; omega
  refine ⟨by simp [h.len], hO.1, fun i x hx => ?_⟩
  by_cases hi : i < d
  · rw [List.getElem?_append_left (by rw [h.len]; exact hi)] at hx
    have hr := h.row i x hx
    exact key x _ _ hr.1 hr.2
  · rw [List.getElem?_append_right (by rw [h.len]; omega)] at hx
    have h0 : i - hs.length < 1 := (List.getElem?_eq_some_iff.1 hx).1
    have h1 : i = d := by have := h.len; omega
    subst h1
    rw [h.len, Nat.sub_self] at hx
    simp at hx
    subst hx
    exact key u _ _ hu hap

end Go.Pan

namespace Go.Proofs.Ytmlikchhkblohaa
open Go Go.RowKit Go.Pan

theorem infoSt : (Try.prog.info? 79).map (fun i => (i.zero, i.size, i.bytes)) = some (some (.slice none 0 0), 1, 24) := by kernel_rfl

/-- 'append(s, x...)' of towers -/
theorem wpList_appT {w : World} {ops : Array Oper} {rest : List Oper} {o : Oper} {a : Act} {Q : Exit → Act → World → Prop}
    (hg : o.guard = none) (s x : Operand) (hop : o.op = Op.call { callee := Callee.builtin Builtin.append, args := #[s, x], argTypes := #[79, 79] })
    (v : Value) (L : List (List Int)) (n : Nat) (hn : n = L.length) (hs : a.eval s = v) (hown : Own w 9 v n (tws L)) (B : Nat) (hfrom : From B v)
    (sp : Option Addr) (m c : Nat) (M : List (List Int)) (hx : a.eval x = .slice sp m c) (hm : m = M.length) (hc : Src w sp m c (tws M)) (h9 : ∀ q ∈ M, q.length ≤ 9)
    (w0 : World) (hb : Below B w0 w) (b0 : B ≤ w.heap.size) (b1 : L.length ≤ 1000000000) (b2 : M.length ≤ 1000000000)
    (hK : ∀ v' w', Own w' 9 v' (L ++ M).length (tws (L ++ M)) → From B v' → Below B w0 w' → w.grownBy w' v.ownBlock → wpList Try.prog ops Q rest (a.put o.dst v') w') :
    wpList Try.prog ops Q (o :: rest) a w := by
  obtain ⟨i, hi, hz, hs1, hb8⟩ := info_parts infoTw
  subst hn
  rcases hc with ⟨rfl, rfl, rfl, hnil⟩ | ⟨ad, rfl, hc⟩
  · obtain rfl : M = [] := List.eq_nil_of_length_eq_zero hm.symm
    obtain ⟨ad, cap, rfl, h1, h2, h3⟩ := hown.shape
    refine wpList_app_none hg s x 79 hop 86 i Try.underlying79 hi ad L.length cap hs h1 h3 hx ?_
    exact hK _ _ (by simpa using hown) hfrom hb ⟨rfl, rfl, rfl, Nat.le_refl _, fun _ _ _ => rfl⟩
  · have hl := tws_length M h9
    refine wpList_append_Own w hg s x 79 hop 86 i _ 9 72 Try.underlying79 hi hz hs1 hb8 rfl (by omega) v L.length (tws L) hs hown B hfrom ad m c (tws M) hx (by rw [hl, hm]) hc (tws_one_cell M) b0 (by unfold maxLen; omega) (by omega) ?_
    intro v' w' ho hf hgr
    refine hK v' w' (by rw [List.length_append, tws_append, ← hm]; exact ho) hf (hb.grown hgr b0 (fun b hb' => hfrom b hb')) hgr

set_option maxHeartbeats 8000000 in
set_option maxRecDepth 100000 in
theorem levels_any (v : Value) (L : List (List Int)) (n : Nat) (w : World) (hv : Own w 9 v L.length (tws L)) (hL : Hid (GoodAll n L ∧ L.Nodup)) :
    Calls Try.prog 146 #[v, .func (Fn.func 147) #[] #[]] w fun e w' => ∃ r hs, e = .returned r ∧ LvOk w' r hs L (levF 60 L) ∧ Below w.heap.size w w' := by
  obtain ⟨ad, cap, rfl, hcc, _, _⟩ := hv.shape
  obtain ⟨i0, hi, hz0, hz1, hz2⟩ := info_parts infoSt
  have HI := Lib.hid hi
  have HZ0 := Lib.hid hz0
  have HZ1 := Lib.hid hz1
  have HZ2 := Lib.hid hz2
  have HV := Lib.hid (show Own w 9 (.slice ad L.length cap) (lvl 0 L).length (tws (lvl 0 L)) from hv)
  have hown0 : w.ownsRow w.heap.size 79 1 (.slice none 0 0) 0 [] := World.ownsRow_nil _ _ _ _
  clear hi hz0 hz1 hz2 hv
  go_enter Try.func146, Try.ntmps146
  go_wp2
  go_loopg [5, 6] 56 (fun gk o lv wr => ∃ (d : Nat) (hs : List Value) (al : Option Addr) (cl : Nat), d + gk = 56 ∧ Hid (∀ i, i < d → lvl i L ≠ []) ∧ Hid (LvOk wr o hs L d) ∧ Hid (wr.ownsRow w.heap.size 79 1 o d hs) ∧ lv = .slice al (lvl d L).length cl ∧ Hid (Own wr 9 (.slice al (lvl d L).length cl) (lvl d L).length (tws (lvl d L))) ∧ Hid (Apart o lv) ∧ Below w.heap.size w wr)
  case atStart => exact ⟨0, [], ad, cap, by omega, Lib.hid (fun i hi => by omega), Lib.hid (LvOk.nil _ _), Lib.hid hown0, rfl, HV, Lib.hid (fun g hg => by simp [Value.ownBlock] at hg), Below.refl _ _⟩
  case round =>
    obtain ⟨d, hs, al, cl, hdk, hne, hLv, hown, rfl, hlv, hap, hbr⟩ := hrel
    clear HV hown0 hcc
    have HDK := Lib.hid hdk
    clear hdk
    have hlg := lvl_good d hL.out.1
    have hln := lvl_nodup d hL.out.1 hL.out.2
    have hfew := stacks_few hlg hln
    obtain ⟨A, hA⟩ : ∃ A, lvl d L = A := ⟨_, rfl⟩
    have HA := Lib.hid hA
    have hlog := hLv.out.own.lt
    rw [hA] at hlg hln hfew hlv hap
    rw [hA]
    by_cases h0 : A.length = 0
    · have HD := Lib.hid (levF_at (f := 60) hne.out (by rw [hA]; exact List.eq_nil_of_length_eq_zero h0) (by have := HDK.out; omega))
      have HF := Lib.hid (show LvOk wr u5 hs L (levF 60 L) by rw [HD.out]; exact hLv.out)
      rw [h0]
      clear hlg hln hfew hA h0 hLv hlv hown hap hne hlog
      go_wp2
      go_ret
      first | exact ⟨_, _, rfl, HF.out, hbr⟩ | exact ⟨_, rfl, ⟨_, HF.out⟩, hbr⟩
    · have hpos : (0 : Int) < (A.length : Int) := by omega
      have hd55 : d < 55 := by
        by_cases h : d < 55
        · exact h
        · exfalso
          have := lvl_end hL.out.1 (d := d) (by omega)
          rw [hA] at this
          rw [this] at h0
          exact h0 rfl
      have HNE := Lib.hid (show ∀ i, i < d + 1 → lvl i L ≠ [] from fun i hi => by
        by_cases e : i = d
        · subst e; rw [hA]; intro e; rw [e] at h0; exact h0 rfl
        · exact hne.out i (by omega))
      have HLN := Lib.hid (show lvl (d + 1) L = A.flatMap befL by rw [lvl_succ', hA])
      have HLG := Lib.hid hlg
      have HM9 := Lib.hid (show ∀ k, GoodAll n ((A.take k).flatMap befL) ∧ ((A.take k).flatMap befL).Nodup from fun k =>
        have h1 : GoodAll n (A.take k) := fun q hq => hlg q (List.mem_of_mem_take hq)
        ⟨h1.bef, bef_nodup h1 (List.Sublist.nodup (List.take_sublist _ _) hln)⟩)
      obtain ⟨m, hm⟩ : ∃ m, A.length = m := ⟨_, rfl⟩
      have HMM := Lib.hid hm
      have hmpos : 0 < m := by omega
      have hLA : Hid (Own wr 9 (.slice al A.length cl) A.length (tws A)) := hlv
      rw [hm] at hlv hap hpos hfew ⊢
      have hwz := hbr.size
      clear hlg hln hA h0 hne hm hlog
      -- found = append(found, level)
      go_wp2_with (at_builtin; refine wpList_append_lies _ rfl _ _ 76 rfl w.heap.size 79 i0 _ 1 24 Try.underlying76 HI.out HZ0.out HZ1.out HZ2.out rfl (by omega) u5 d hs rfl (hown.out.alloc _) _ 1 1 [.slice al m cl] rfl (by simp) (World.news_of_block (heap_alloc_new _ _)) (by simp [Value.oneCell']) (by omega) (by unfold maxLen; omega) (by omega) (by simp; omega) (wr.heap.size + 1) (by simp) ?_)
      intro g3 cap3 w3 hown3 hgr3 hat3 hlt3
      have hb3 : Below w.heap.size w w3 := (hbr.alloc hwz _).grown hgr3 (by simp; omega) (fun b hb => by
        rcases hown.out.2 with ⟨e, _⟩ | ⟨g, c, cur, e, hg, _⟩
        · rw [e] at hb; simp [Value.ownBlock] at hb
        · rw [e] at hb; simp [Value.ownBlock] at hb; omega)
      have hlv3 : Own w3 9 (.slice al A.length cl) A.length (tws A) := (Own.alloc hLA.out _).grown hgr3 (by rw [HMM.out]; exact hap.out.symm)
      have hLv3 : LvOk w3 (.slice (some ⟨g3, 0, none⟩) (d + 1) cap3) (hs ++ [.slice al m cl]) L (d + 1) :=
        LvOk.app (w := wr.alloc (.cells #[.slice al m cl] 79)) ⟨hLv.out.len, hLv.out.own.alloc _, fun i u hu => ⟨(hLv.out.row i u hu).1.alloc _, (hLv.out.row i u hu).2⟩⟩
          (by rw [HA.out, ← HMM.out]; exact Own.alloc hLA.out _) hap.out hown3 hgr3 (by simpa using hat3)
      have hz3 := hb3.size
      have HLv3 := Lib.hid hLv3
      have HOwn3 := Lib.hid hown3
      have HV3 := Lib.hid hlv3
      have hO0 : Own w3 9 (.slice none 0 0) ((A.take 0).flatMap befL).length (tws ((A.take 0).flatMap befL)) := Own.nil w3 9
      clear hLv3 hown3 hlv3 hgr3 hat3 hLv hown hlv hap hLA hbr
      go_wp2
      go_loopw [7, 20] (fun nx i wr => ∃ k : Nat, k ≤ m ∧ i = .int .i64 k ∧ Hid (Own wr 9 nx ((A.take k).flatMap befL).length (tws ((A.take k).flatMap befL))) ∧ From w3.heap.size nx ∧ Below w3.heap.size w3 wr) (fun _ i _ => m - (intOf i).toNat)
      case atStart => exact ⟨0, Nat.zero_le _, rfl, Lib.hid hO0, From.nil _ _ _, Below.refl _ _⟩
      case round =>
        obtain ⟨k, hk, rfl, hN, hf, hbr⟩ := hrel
        clear hO0
        by_cases hlt : k < m
        · have hlt' : (k : Int) < m := by omega
          have hkl : k < A.length := by rw [HMM.out]; exact hlt
          have hq := HLG.out _ (List.getElem_mem hkl)
          have h9all : ∀ q ∈ A, q.length ≤ 9 := fun q hq => by have := HLG.out q hq; have := this.1.2.1; omega
          have hTK := List.take_succ_eq_append_getElem hkl
          have hclp : 0 < cl := by obtain ⟨_, _, he, _, h2, _⟩ := HV3.out; simp only [Value.slice.injEq] at he; obtain ⟨_, _, rfl⟩ := he; omega
          obtain ⟨g, off, hadd, _, _, _⟩ := HV3.out.at hclp
          subst hadd
          have hra := rowAt HV3.out h9all k hkl hclp
          obtain ⟨q, hqe⟩ : ∃ q, A[k] = q := ⟨_, rfl⟩
          rw [hqe] at hra hq hTK
          have HQ := Lib.hid hq.1
          have h9q : q.length ≤ 9 := hq.1.2.1
          have HTK := Lib.hid (show (A.take (k + 1)).flatMap befL = (A.take k).flatMap befL ++ befL q by rw [hTK, List.flatMap_append]; simp)
          have h9t := twl_length _ h9q
          have hgl := hra.2
          have hrr : wr.rangeAt g (off + k * 9) (twl q) := range_below hra.1 hbr hgl
          have hsz : (Try.prog.info? 86).map (·.size) = some (twl q).length := by rw [Try.infoT, h9t]
          have hzero : Blk (wr.alloc (.cells (twl []).toArray 86)) wr.heap.size 86 (twl []) := Blk.new _ _ (twl []) _ rfl
          have hbl9 := befTo_length q q.length
          have hblN : (befL q).length ≤ 1000000000 := by unfold befL; omega
          have H9B := Lib.hid (show ∀ r ∈ befL q, r.length ≤ 9 from fun r hr => by rw [befL_length hr]; exact h9q)
          have hMk := stacks_few (HM9.out k).1 (HM9.out k).2
          have hsr := hbr.size
          obtain ⟨M, hM⟩ : ∃ M, (A.take k).flatMap befL = M := ⟨_, rfl⟩
          rw [hM] at hMk hN HTK
          clear hqe hkl h9all hTK hra hq h9t hM hbl9
          go_wp2_with (first | (refine wpList_load_mid rfl 86 _ rfl g (off + k * 9) rfl (twl q) _ hrr Try.underlying86 rfl hsz ?_) | (refine wpList_store_tower rfl _ _ rfl wr.heap.size [] q (by simp) h9q rfl rfl hzero ?_; intro w4 hbT4 hgr4; have hz4 := hbT4.lt) | (refine wpList_load_tower rfl _ rfl wr.heap.size q h9q rfl (by assumption) ?_))
          refine (before_any q w4 HQ).mono ?_
          rintro e w7 ⟨r7, rfl, ho7, hf7, hb7⟩
          obtain ⟨a7, c7, rfl, _, _, _⟩ := ho7.shape
          have hz4' := hgr4.size
          have hz7 := hb7.size
          have hbr4 := (hbr.alloc hsr (.cells (twl []).toArray 86)).grown hgr4 (by simp; omega) (by intro b hb; cases hb; exact hsr)
          have hbr7 := hbr4.trans (hb7.mono hbr4.size)
          have hN7 : Hid (Own w7 9 u7 M.length (tws M)) := Lib.hid (((hN.out.alloc _).grown hgr4 (fun b hb e => by have := hN.out.lt b hb; have := Option.some.inj e; omega)).same hb7)
          have hsrc := Lib.hid (Own.src9 ho7)
          have hs7 := hbr7.size
          clear hN hgr4 hbr4 hb7 hbT4 hrr hzero hbr ho7 hf7
          go_wp2_with (at_builtin; refine wpList_appT rfl _ _ rfl u7 M M.length rfl rfl hN7.out w3.heap.size hf a7 (befL q).length c7 (befL q) rfl rfl hsrc.out H9B.out w3 hbr7 hs7 hMk hblN ?_)
          intro v8 w8 ho8 hf8 hb8 hg8
          have HO8 := Lib.hid (show Own w8 9 v8 ((A.take (k + 1)).flatMap befL).length (tws ((A.take (k + 1)).flatMap befL)) by rw [HTK.out, List.length_append]; exact ho8)
          clear hN7 hsrc hbr7 ho8 hg8
          go_wp2
          go_roundw
          case rel => exact ⟨k + 1, by omega, by go_num, HO8, hf8, hb8⟩
          case measure => simp [intOf] <;> omega
        · obtain rfl : k = m := by omega
          have hN2 : Hid (Own wr 9 u7 (lvl (d + 1) L).length (tws (lvl (d + 1) L))) := Lib.hid (by
            rw [HLN.out]
            have := hN.out
            rwa [← HMM.out, List.take_length] at this)
          obtain ⟨a9, c9, hv9, _, _, _⟩ := hN2.out.shape
          subst hv9
          have HLv9 := Lib.hid (HLv3.out.below hbr (Nat.le_refl _))
          have HOwn9 := Lib.hid (HOwn3.out.kept (grown_of_below hbr none) (.inr (by intro h; cases h)))
          have HAp := Lib.hid (show Apart (.slice (some ⟨g3, 0, none⟩) (d + 1) cap3) (.slice a9 (lvl (d + 1) L).length c9) from fun b hb e => by
            simp [Value.ownBlock] at hb
            have := hf b e
            omega)
          have hB9 := hb3.trans (hbr.mono hz3)
          clear hN hf hbr
          go_wp2
          go_roundg (gk - 1)
          case measure => have := HDK.out; omega
          case rel => exact ⟨d + 1, _, a9, c9, by have := HDK.out; omega, HNE, HLv9, HOwn9, rfl, hN2, HAp, hB9⟩

/-- the first k levels' sizes, added -/
def sumL (L : List (List Int)) (k : Nat) : Nat := ((List.range k).map fun i => (lvl i L).length).sum
theorem sumL_succ (L : List (List Int)) (k : Nat) : sumL L (k + 1) = sumL L k + (lvl k L).length := by simp [sumL, List.range_succ, List.sum_append]
theorem sumL_head (L : List (List Int)) (k : Nat) : sumL L (k + 1) = L.length + sumL (L.flatMap befL) k := by
  unfold sumL
  rw [List.range_succ_eq_map, List.map_cons, List.sum_cons, List.map_map]
  rfl
theorem totF_sum : ∀ (f : Nat) (L : List (List Int)), totF f L = sumL L (levF f L)
  | 0, L => rfl
  | f + 1, L => by
    rw [totF, levF]
    by_cases h : L.length = 0
    · rw [if_pos h, h, List.length_eq_zero_iff.1 h]
      simp [totF_nil, sumL]
    · rw [if_neg h, sumL_head, totF_sum f]
theorem sumL_mono (L : List (List Int)) {i j : Nat} (h : i ≤ j) : sumL L i ≤ sumL L j := by
  induction j with
  | zero => obtain rfl : i = 0 := by omega
            exact Nat.le_refl _
  | succ j ih =>
    by_cases e : i = j + 1
    · subst e; exact Nat.le_refl _
    · rw [sumL_succ]; have := ih (by omega); omega

theorem own_lit9 {w : World} (q : List Int) (h9 : q.length ≤ 9) : Own (w.alloc (.cells (twl q).toArray 86)) 9 (.slice (some ⟨w.heap.size, 0, none⟩) 1 1) 1 (tws [q]) := by
  have hl := twl_length q h9
  refine ⟨_, 1, rfl, by rw [tws_one]; omega, Nat.le_refl _, by simp [maxLen], by simp, fun a ha => ?_⟩
  cases ha
  exact ⟨rfl, (twl q).toArray, 86, heap_alloc_new w _, by simp [hl], fun j hj => by rw [tws_one]; simp⟩

/-- the tree, if there is a stack -/
def TreeIf (b : Bool) (w : World) (r : Value) (hs : List Value) (xs : List Int) : Prop := (b = true → LvOk w r hs [xs] (levF 60 [xs])) ∧ (b = false → r = .slice none 0 0)

theorem treeLevels_any (v : Value) (xs : List Int) (w : World) (hv : OwnI w v xs) (hn : xs.length ≤ 1048576) :
    Calls Try.prog 92 #[v] w fun e w' => ∃ r hs, e = .returned (.tuple #[r, .bool (goodB xs)]) ∧ TreeIf (goodB xs) w' r hs xs ∧ Below w.heap.size w w' := by
  have c := IsStack_any _ _ _ hv hn
  cases hg : goodB xs with
  | true =>
    have HG := Lib.hid (goodB_iff.1 hg)
    have h9 := HG.out.le9
    have HL := Lib.hid (show GoodAll xs.length [xs] ∧ [xs].Nodup from ⟨goodAll_one HG.out, by simp⟩)
    have H9 := Lib.hid (twl_length xs h9)
    rw [hg] at c
    clear hg
    go_enter Try.func92, Try.ntmps92
    go_wp2_with fail
    refine (c).mono ?_
    rintro e w1 ⟨rfl, hb⟩
    have hv1 := hv.same hb
    clear c hv
    go_wp2_with fail
    refine (towerOf_any _ _ _ hv1 h9).mono ?_
    rintro e w2 ⟨rfl, hb2⟩
    have hb12 := hb.trans (hb2.mono hb.size)
    have ho := own_lit9 (w := w2) xs h9
    have hb3 := hb12.alloc hb12.size (.cells (twl xs).toArray 86)
    go_wp2_with (refine wpList_build_tower rfl _ rfl (twl xs) H9.out rfl ?_)
    refine (levels_any _ [xs] xs.length _ ho HL).mono ?_
    rintro e w4 ⟨r4, hs4, rfl, hL4, hb4⟩
    have HR := Lib.hid hL4
    have hB := hb3.trans (hb4.mono hb3.size)
    clear hL4 ho
    go_wp2
    go_ret2
    exact ⟨_, hs4, rfl, ⟨fun _ => HR.out, fun h => by cases h⟩, hB⟩
  | false =>
    rw [hg] at c
    clear hg
    go_enter Try.func92, Try.ntmps92
    go_wp2_with fail
    refine (c).mono ?_
    rintro e w1 ⟨rfl, hb⟩
    go_wp2
    go_ret2
    exact ⟨_, [], rfl, ⟨(fun h => by cases h), fun _ => rfl⟩, hb⟩

theorem TreeSize_any (v : Value) (xs : List Int) (w : World) (hv : OwnI w v xs) (hn : xs.length ≤ 1048576) :
    Calls Try.prog 39 #[v] w fun e w' => e = .returned (.tuple #[.int .i64 (mTreeSize xs), .bool (goodB xs)]) ∧ Below w.heap.size w w' := by
  have c := treeLevels_any _ _ _ hv hn
  cases hg : goodB xs with
  | true =>
    have HM := Lib.hid (show mTreeSize xs = (totF 60 [xs] : Int) from if_pos hg)
    have htb := tree_bd (goodB_iff.1 hg) 60
    have HT := Lib.hid (totF_sum 60 [xs])
    obtain ⟨D, hD⟩ : ∃ D, levF 60 [xs] = D := ⟨_, rfl⟩
    have hD60 : D ≤ 60 := by rw [← hD]; exact levF_le 60 _
    rw [hD] at HT
    have HSB := Lib.hid (show ∀ k, k ≤ D → sumL [xs] k ≤ 60000000000 from fun k hk => by have h1 := sumL_mono [xs] hk; have h2 := HT.out; omega)
    rw [hg] at c
    have HD := Lib.hid hD
    clear hg htb hD
    go_enter Try.func39, Try.ntmps39
    go_wp2_with fail
    refine c.mono ?_
    rintro e w1 ⟨r, hs, rfl, hLT, hb⟩
    have hL := hLT.1 rfl
    rw [HD.out] at hL
    obtain ⟨ad, cap, rfl, hc1, _, _⟩ := hL.own.shape
    have HL := Lib.hid hL
    clear c hL hLT hv
    go_wp2
    go_loop [6, 16] (fun s i => ∃ k : Nat, k ≤ D ∧ i = .int .i64 k ∧ s = .int .i64 (sumL [xs] k : Nat)) (fun _ i => D - (intOf i).toNat)
    case atStart => exact ⟨0, Nat.zero_le _, rfl, rfl⟩
    case round =>
      obtain ⟨k, hk, rfl, rfl⟩ := hrel
      by_cases hlt : k < D
      · have hlt' : (k : Int) < D := by omega
        obtain ⟨g, off, rfl, hgl, hcell, _⟩ := HL.out.own.at (by omega)
        have hkl : k < hs.length := by rw [HL.out.len]; exact hlt
        have hck := hcell k (by omega)
        rw [List.getElem?_eq_getElem hkl] at hck
        have hr := (HL.out.row k _ (List.getElem?_eq_getElem hkl)).1
        obtain ⟨au, cu, hue, _, _, _⟩ := hr.shape
        rw [hue] at hck
        have h1 := HSB.out k hk
        have h2 := HSB.out (k + 1) hlt
        rw [sumL_succ] at h2
        have HS := Lib.hid (show ((sumL [xs] (k + 1) : Nat) : Int) = (sumL [xs] k : Nat) + ((lvl k [xs]).length : Nat) by rw [sumL_succ]; omega)
        clear hcell hkl hr hue
        go_wp2
        go_round
        case rel => exact ⟨k + 1, by omega, by go_num, by rw [HS.out]⟩
        case measure => simp [intOf] <;> omega
      · obtain rfl : k = D := by omega
        go_wp2
        go_ret2
        exact ⟨by rw [HM.out, HT.out]; rfl, hb⟩
  | false =>
    have HM := Lib.hid (show mTreeSize xs = 0 from if_neg (by rw [hg]; exact Bool.false_ne_true))
    rw [hg] at c
    clear hg
    go_enter Try.func39, Try.ntmps39
    go_wp2_with fail
    refine c.mono ?_
    rintro e w1 ⟨r, hs, rfl, hLT, hb⟩
    obtain rfl := hLT.2 rfl
    clear hLT
    clear c hv
    go_wp2
    go_loop [6, 16] (fun s i => i = .int .i64 0 ∧ s = .int .i64 0) (fun _ _ => 0)
    case atStart => exact ⟨rfl, rfl⟩
    case round =>
      obtain ⟨rfl, rfl⟩ := hrel
      go_wp2
      go_ret2
      exact ⟨by rw [HM.out]; rfl, hb⟩

theorem DepthBefore_any (v : Value) (xs : List Int) (w : World) (hv : OwnI w v xs) (hn : xs.length ≤ 1048576) :
    Calls Try.prog 42 #[v] w fun e w' => e = .returned (.tuple #[.int .i64 (mDepthBefore xs), .bool (goodB xs)]) ∧ Below w.heap.size w w' := by
  have c := treeLevels_any _ _ _ hv hn
  cases hg : goodB xs with
  | true =>
    have HM := Lib.hid (show mDepthBefore xs = (levF 60 [xs] : Int) - 1 from if_pos hg)
    have hp : 1 ≤ levF 60 [xs] := levF_pos (f := 59) (by simp)
    obtain ⟨D, hD⟩ : ∃ D, levF 60 [xs] = D := ⟨_, rfl⟩
    have hD60 : D ≤ 60 := by rw [← hD]; exact levF_le 60 _
    rw [hD] at hp HM
    have hmax : (0 : Int) ≤ (D : Int) - 1 := by omega
    rw [hg] at c
    have HD := Lib.hid hD
    clear hg hD
    go_enter Try.func42, Try.ntmps42
    go_wp2_with fail
    refine c.mono ?_
    rintro e w1 ⟨r, hs, rfl, hLT, hb⟩
    have hL := hLT.1 rfl
    rw [HD.out] at hL
    obtain ⟨ad, cap, rfl, hc1, _, _⟩ := hL.own.shape
    clear c hL hLT hv
    go_wp2
    all_goals
      go_ret2
      refine ⟨?_, hb⟩
      rw [HM.out]
      first
        | rfl
        | (have e : (D : Int) - 1 = 0 := by omega
           rw [e]; rfl)
  | false =>
    have HM := Lib.hid (show mDepthBefore xs = 0 from if_neg (by rw [hg]; exact Bool.false_ne_true))
    rw [hg] at c
    clear hg
    go_enter Try.func42, Try.ntmps42
    go_wp2_with fail
    refine c.mono ?_
    rintro e w1 ⟨r, hs, rfl, hLT, hb⟩
    obtain rfl := hLT.2 rfl
    clear hLT
    clear c hv
    go_wp2
    go_ret2
    exact ⟨by rw [HM.out]; rfl, hb⟩

end Go.Proofs.Ytmlikchhkblohaa

