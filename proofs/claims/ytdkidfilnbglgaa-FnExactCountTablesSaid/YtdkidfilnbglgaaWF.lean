import Derived.Test.YtdkidfilnbglgaaWE
namespace Go.Proofs.Ytdkidfilnbglgaa
open Go Go.RowKit Go.Pan

set_option maxHeartbeats 8000000 in
set_option maxRecDepth 100000 in
theorem levelsP_any (v : Value) (L0 : List (List Int)) (f : List Int → List (List Int)) (D : Nat) (hs0 : List Value) (B0 : Nat) (p1 : Value) (w : World) (hv : RL w 22 B0 v hs0 L0)
    (hD : Hid (D ≤ 9 ∧ (∀ i, i ≤ D → lvG f i L0 ≠ []) ∧ lvG f (D + 1) L0 = [] ∧ ∀ i, (lvG f i L0).length ≤ 400000000))
    (hF : Hid (∀ (q : List Int) (u : Value) (W : World), (∃ i, q ∈ lvG f i L0) → OwnI W u q → Below w.heap.size w W → Calls Try.prog 152 #[u, p1] W fun e W' => ∃ r hs, e = .returned r ∧ RL W' 22 W.heap.size r hs (f q) ∧ RowsFrom W.heap.size hs ∧ (f q = [] → r = .slice none 0 0) ∧ Below W.heap.size W W')) :
    Calls Try.prog 165 #[v, .func (Fn.func 152) #[] #[p1]] w fun e w' => ∃ r hs lv hs2 B, e = .returned r ∧ w'.ownsRow w.heap.size 47 1 r (D + 1) hs ∧ hs[D]? = some lv ∧ RL w' 22 B lv hs2 (lvG f D L0) ∧ (1 ≤ D → RowsFrom w.heap.size hs2) ∧ Below w.heap.size w w' := by
  obtain ⟨ad, cap, rfl, hcc⟩ := hv.slice
  obtain ⟨i0, hi, hz0, hz1, hz2⟩ := info_parts infoL2
  have HI := Lib.hid hi
  have HZ0 := Lib.hid hz0
  have HZ1 := Lib.hid hz1
  have HZ2 := Lib.hid hz2
  obtain ⟨j0, hj, hy0, hy1, hy2⟩ := info_parts infoL1
  have HJ := Lib.hid hj
  have HY0 := Lib.hid hy0
  have HY1 := Lib.hid hy1
  have HY2 := Lib.hid hy2
  have HV := Lib.hid (show RL w 22 B0 (.slice ad (lvG f 0 L0).length cap) hs0 (lvG f 0 L0) from hv)
  have hown0 : w.ownsRow w.heap.size 47 1 (.slice none 0 0) 0 [] := World.ownsRow_nil _ _ _ _
  clear hi hz0 hz1 hz2 hv hj hy0 hy1 hy2
  go_enter Try.func165, Try.ntmps165
  go_wp2
  go_loopg [5, 6] (D + 2) (fun gk o lv wr => ∃ (d : Nat) (hs lvs : List Value) (al : Option Addr) (cl B : Nat), d + gk = D + 2 ∧ d ≤ D + 1 ∧ Hid (wr.ownsRow w.heap.size 47 1 o d hs) ∧ lv = .slice al (lvG f d L0).length cl ∧ Hid (RL wr 22 B (.slice al (lvG f d L0).length cl) lvs (lvG f d L0)) ∧ Hid (Apart o (.slice al (lvG f d L0).length cl) ∧ ∀ (i : Nat) (u : Value), lvs[i]? = some u → Apart o u) ∧ Hid (∀ j, d = j + 1 → ∃ lp hp Bp, hs[j]? = some lp ∧ RL wr 22 Bp lp hp (lvG f j L0) ∧ (1 ≤ j → RowsFrom w.heap.size hp)) ∧ Hid (1 ≤ d → RowsFrom w.heap.size lvs) ∧ Below w.heap.size w wr)
  case atStart => exact ⟨0, [], hs0, ad, cap, B0, by omega, by omega, Lib.hid hown0, rfl, HV, Lib.hid ⟨fun g hg => by simp [Value.ownBlock] at hg, fun _ _ _ g hg => by simp [Value.ownBlock] at hg⟩, Lib.hid (fun j h => by omega), Lib.hid (fun h => by omega), Below.refl _ _⟩
  case round =>
    obtain ⟨d, hs, lvs, al, cl, B, hdk, hdle, hown, rfl, hlv, hap, hprev, hlf, hbr⟩ := hrel
    clear HV hown0 hcc
    have HDK := Lib.hid hdk
    clear hdk
    have hfew := hD.out.2.2.2 d
    obtain ⟨A, hA⟩ : ∃ A, lvG f d L0 = A := ⟨_, rfl⟩
    have HA := Lib.hid hA
    rw [hA] at hfew hlv hap
    rw [hA]
    by_cases h0 : A.length = 0
    · have HD := Lib.hid (show d = D + 1 by
        have h1 := HDK.out
        have hn : ¬ d ≤ D := fun h => hD.out.2.1 d h (by rw [hA]; exact List.eq_nil_of_length_eq_zero h0)
        omega)
      obtain ⟨lp, hp, Bp, hpe, hpr, hpf⟩ := hprev.out D HD.out
      have HPF := Lib.hid hpf
      have HPE := Lib.hid hpe
      have HPR := Lib.hid hpr
      have HO := Lib.hid (show wr.ownsRow w.heap.size 47 1 u5 (D + 1) hs by rw [← HD.out]; exact hown.out)
      rw [h0]
      clear hfew hA h0 hlv hap hprev hown hpe hpr hpf hlf
      go_wp2
      go_ret
      first | exact ⟨_, hs, lp, hp, Bp, rfl, HO.out, HPE.out, HPR.out, HPF.out, hbr⟩
    · have hpos : (0 : Int) < (A.length : Int) := by omega
      have hdD : d ≤ D := by
        have h1 := HDK.out
        by_cases h : d ≤ D
        · exact h
        · exfalso
          have h2 : d = D + 1 := by
            by_cases h3 : d = D + 1
            · exact h3
            · have h4 : d = D + 2 := by omega
              rw [h4] at hA
              have : lvG f (D + 2) L0 = [] := by rw [lvG, hD.out.2.2.1]; rfl
              rw [this] at hA
              rw [← hA] at h0
              exact absurd rfl h0
          rw [h2, hD.out.2.2.1] at hA
          rw [← hA] at h0
          exact h0 rfl
      have hD9 := hD.out.1
      have HLN := Lib.hid (show lvG f (d + 1) L0 = A.flatMap f by rw [lvG, hA])
      have HM9 := Lib.hid (show ∀ k, ((A.take k).flatMap f).length ≤ 400000000 from fun k => by
        have h1 := hD.out.2.2.2 (d + 1)
        rw [lvG, hA] at h1
        have h2 : (A.take k).flatMap f ++ (A.drop k).flatMap f = A.flatMap f := by rw [← List.flatMap_append, List.take_append_drop]
        rw [← h2, List.length_append] at h1
        omega)
      obtain ⟨m, hm⟩ : ∃ m, A.length = m := ⟨_, rfl⟩
      have HMM := Lib.hid hm
      have HLA := hlv
      rw [hm] at hlv hap hpos hfew ⊢
      have hwz := hbr.size
      clear hA h0 hprev
      have hown2 := hown.out.alloc (.cells #[.slice al m cl] 47)
      -- found = append(found, level)
      go_wp2_with (at_builtin; refine wpList_append_lies _ rfl _ _ 136 rfl w.heap.size 47 i0 _ 1 24 Try.underlying136 HI.out HZ0.out HZ1.out HZ2.out rfl (by omega) u5 d hs rfl hown2 _ 1 1 [.slice al m cl] rfl (by simp) (World.news_of_block (heap_alloc_new _ _)) (by simp [Value.oneCell']) (by omega) (by unfold maxLen; omega) (by omega) (by simp; omega) (wr.heap.size + 1) (by simp) ?_)
      intro g3 cap3 w3 hown3 hgr3 hat3 hlt3
      have hb3 : Below w.heap.size w w3 := (hbr.alloc hwz _).grown hgr3 (by simp; omega) (fun b hb => (Own.of_row hown.out).2 b hb)
      have hlv3 : RL w3 22 B (.slice al A.length cl) lvs A := (HLA.out.below (below_new wr (.cells #[.slice al m cl] 47)) (Nat.le_refl _)).grown hgr3 (by rw [HMM.out]; exact fun g h e => hap.out.1 g e h) (fun i u hu g h e => hap.out.2 i u hu g e h)
      have hz3 := hb3.size
      have HOwn3 := Lib.hid hown3
      have HV3 := Lib.hid hlv3
      have HH3 := Lib.hid (show (hs ++ [Value.slice al m cl])[d]? = some (.slice al m cl) by
        have hlh : hs.length = d := by have := hown.out.1; simpa using this
        rw [List.getElem?_append_right (by omega), hlh, Nat.sub_self]; rfl)
      have hR0 : RL w3 22 w3.heap.size (.slice none 0 0) [] ((A.take 0).flatMap f) := RL.nil _ _ _
      clear hown3 hlv3 hgr3 hat3 hown hown2 hlv hap HLA
      go_wp2
      go_loopw [7, 20] (fun nx i wr => ∃ (k : Nat) (hn : List Value), k ≤ m ∧ i = .int .i64 k ∧ Hid (RL wr 22 w3.heap.size nx hn ((A.take k).flatMap f)) ∧ Hid (RowsFrom w3.heap.size hn) ∧ Below w3.heap.size w3 wr) (fun _ i _ => m - (intOf i).toNat)
      case atStart => exact ⟨0, [], Nat.zero_le _, rfl, Lib.hid hR0, Lib.hid (RowsFrom.nil _), Below.refl _ _⟩
      case round =>
        obtain ⟨k, hn, hk, rfl, hN, hNF, hbr2⟩ := hrel
        clear hR0
        by_cases hlt : k < m
        · have hlt' : (k : Int) < m := by omega
          have hkl : k < A.length := by rw [HMM.out]; exact hlt
          have hTK := List.take_succ_eq_append_getElem hkl
          obtain ⟨g, off, u, hadd, hgl, hu, huo, hcell⟩ := HV3.out.at k hkl
          cases hadd
          obtain ⟨q, hqe⟩ : ∃ q, A[k] = q := ⟨_, rfl⟩
          rw [hqe] at huo hTK
          have hQI : ∃ i, q ∈ lvG f i L0 := ⟨d, by rw [HA.out, ← hqe]; exact List.getElem_mem hkl⟩
          have HTK := Lib.hid (show (A.take (k + 1)).flatMap f = (A.take k).flatMap f ++ f q by rw [hTK, List.flatMap_append]; simp)
          have hcr := (hbr2.cell (p := ⟨g, off + k, none⟩) hgl).trans hcell
          have hur := huo.below hbr2 (Nat.le_refl _)
          have hBW := hb3.trans (hbr2.mono hz3)
          have cF := hF.out q u wr hQI hur hBW
          obtain ⟨a9, c9, hue, _⟩ := hur.shape
          subst hue
          have hMk := HM9.out k
          have hMk1 := HM9.out (k + 1)
          rw [HTK.out, List.length_append] at hMk1
          have hsr := hbr2.size
          obtain ⟨M, hM⟩ : ∃ M, (A.take k).flatMap f = M := ⟨_, rfl⟩
          rw [hM] at hMk hN HTK hMk1
          obtain ⟨F, hFq⟩ : ∃ F, f q = F := ⟨_, rfl⟩
          rw [hFq] at cF HTK hMk1
          have HBR2 := Lib.hid hbr2
          clear hqe hkl hTK hM hcell huo hur hu hFq hQI hBW hbr2
          go_wp2_with fail
          refine cF.mono ?_
          rintro e w7 ⟨r7, hs7, rfl, hR7, hF7, hZ7, hb7⟩
          have hN7 := hN.out.below hb7 (Nat.le_refl _)
          have hlt7 := hN.out.lt
          have hbr7 := HBR2.out.trans (hb7.mono hsr)
          have hz7 := hbr7.size
          have HFN7 := Lib.hid (hF7.mono hsr)
          clear hN cF
          by_cases hF0 : F = []
          · obtain rfl := hZ7 hF0
            have HS := Lib.hid (show (A.take (k + 1)).flatMap f = M by rw [HTK.out, hF0, List.append_nil])
            obtain ⟨an, cn, hne, hnc⟩ := hN7.slice
            have HN7 := Lib.hid (show RL w7 22 w3.heap.size u7 hn ((A.take (k + 1)).flatMap f) by rw [HS.out]; exact hN7)
            have HNN := Lib.hid (show an = none → cn = 0 by
              obtain ⟨_, _, he, _, _, h3⟩ := (Own.of_row hN7.own).1.shape
              rw [hne] at he
              simp only [Value.slice.injEq] at he
              obtain ⟨rfl, _, rfl⟩ := he
              exact h3)
            subst hne
            clear hN7 hZ7 hF0 hR7 hF7
            go_wp2_with (at_builtin; refine wpList_app_none rfl _ _ 47 rfl 22 j0 Try.underlying47 HJ.out an M.length cn rfl hnc HNN.out rfl ?_)
            go_roundw
            case rel => exact ⟨k + 1, hn, by omega, by go_num, HN7, hNF, hbr7⟩
            case measure => simp [intOf] <;> omega
          · obtain ⟨a7, c7, rfl, hc7⟩ := hR7.slice
            have hFp : 0 < F.length := List.length_pos_iff.2 hF0
            obtain ⟨g7, o7, _, hadd7, _, _, _, _⟩ := hR7.at 0 hFp
            cases hadd7
            have hsrc := hR7.src
            have hnews : ∀ j u, hs7[j]? = some u → w7.cell? ((⟨g7, o7, none⟩ : Addr).add j) = some u := by
              rcases hsrc with ⟨e, _⟩ | ⟨x, e, h⟩
              · cases e
              · cases e; exact h
            have HNE := Lib.hid hnews
            have hl7 : hs7.length = F.length * 1 := by rw [hR7.len]; omega
            have HL7 := Lib.hid hl7
            have h1c : ∀ u ∈ hs7, u.oneCell' = true := fun u hu => by
              obtain ⟨i, hi, hiu⟩ := List.getElem_of_mem hu
              have hri := (hR7.row i u _ (by rw [List.getElem?_eq_getElem hi, hiu]) (List.getElem?_eq_getElem (by rw [← hR7.len]; exact hi))).1
              obtain ⟨_, _, rfl, _⟩ := hri.shape
              rfl
            have H1C := Lib.hid h1c
            have HN7 := Lib.hid hN7
            have HR7 := Lib.hid hR7
            have HF7 := Lib.hid hF7
            have HLT7 := Lib.hid hlt7
            clear hZ7 hF0 hsrc hnews hl7 h1c hN7 hR7 hF7 hlt7
            go_wp2_with (at_builtin; refine wpList_append_lies _ rfl _ _ 47 rfl w3.heap.size 22 j0 _ 1 24 Try.underlying47 HJ.out HY0.out HY1.out HY2.out rfl (by omega) u7 M.length hn rfl HN7.out.own _ F.length c7 hs7 rfl HL7.out HNE.out H1C.out hFp (by unfold maxLen; omega) (by omega) hz7 w7.heap.size rfl ?_)
            intro g8 cap8 w8 hown8 hgr8 hat8 hlt8
            have hR8 := RL.app (N := wr.heap.size) (yss := F) HN7.out (fun i u ys hu hy => (HR7.out.row i u ys hu hy).1) HF7.out HLT7.out (by have := HL7.out; omega) hown8 rfl hgr8 hat8
            have HR8 := Lib.hid (show RL w8 22 w3.heap.size _ _ ((A.take (k + 1)).flatMap f) by rw [HTK.out]; exact hR8)
            have HF8 := Lib.hid (hNF.out.app HFN7.out)
            have hb8 := hbr7.grown hgr8 hz7 (fun b hb => HN7.out.from b hb)
            clear hown8 hgr8 hat8 hR8 hlt8
            go_wp2
            go_roundw
            case rel => exact ⟨k + 1, _, by omega, by go_num, HR8, HF8, hb8⟩
            case measure => simp [intOf] <;> omega
        · obtain rfl : k = m := by omega
          have hN2 : RL wr 22 w3.heap.size u7 hn (lvG f (d + 1) L0) := by
            rw [HLN.out]
            have := hN.out
            rwa [← HMM.out, List.take_length] at this
          obtain ⟨a9, c9, hv9, _⟩ := hN2.slice
          subst hv9
          have HN2 := Lib.hid hN2
          have HOwn9 := Lib.hid (HOwn3.out.kept (grown_of_below hbr2 none) (.inr (by intro h; cases h)))
          have HAp := Lib.hid (show Apart (.slice (some ⟨g3, 0, none⟩) (d + 1) cap3) (.slice a9 (lvG f (d + 1) L0).length c9) ∧ ∀ (i : Nat) (u : Value), hn[i]? = some u → Apart (.slice (some ⟨g3, 0, none⟩) (d + 1) cap3) u from by
            have hgl : ∀ g, (Value.slice (some ⟨g3, 0, none⟩) (d + 1) cap3).ownBlock = some g → g < w3.heap.size := fun g h => by simp [Value.ownBlock] at h; omega
            exact ⟨From.apart hgl HN2.out.from, fun i u hu => From.apart hgl (hNF.out i u hu)⟩)
          have HPr := Lib.hid (show ∀ j, d + 1 = j + 1 → ∃ lp hp Bp, (hs ++ [Value.slice al k cl])[j]? = some lp ∧ RL wr 22 Bp lp hp (lvG f j L0) ∧ (1 ≤ j → RowsFrom w.heap.size hp) from fun j hj => by
            obtain rfl : j = d := by omega
            refine ⟨_, lvs, B, HH3.out, ?_, hlf.out⟩
            rw [HA.out, ← HMM.out]
            exact HV3.out.below hbr2 (Nat.le_refl _))
          have hB9 := hb3.trans (hbr2.mono hz3)
          have HLF := Lib.hid (show 1 ≤ d + 1 → RowsFrom w.heap.size hn from fun _ => hNF.out.mono hz3)
          clear hN hNF hbr2 hN2 hlf
          go_wp2
          go_roundg (gk - 1)
          case measure => have := HDK.out; omega
          case rel => exact ⟨d + 1, _, hn, a9, c9, _, by have := HDK.out; omega, by omega, HOwn9, rfl, HN2, HAp, HPr, HLF, hB9⟩

set_option maxHeartbeats 1600000 in
set_option maxRecDepth 100000 in
theorem lastLevelP_any (v : Value) (L0 : List (List Int)) (f : List Int → List (List Int)) (D : Nat) (hs0 : List Value) (B0 : Nat) (p1 : Value) (w : World) (hv : RL w 22 B0 v hs0 L0)
    (hD : Hid (D ≤ 9 ∧ (∀ i, i ≤ D → lvG f i L0 ≠ []) ∧ lvG f (D + 1) L0 = [] ∧ ∀ i, (lvG f i L0).length ≤ 400000000))
    (hF : Hid (∀ (q : List Int) (u : Value) (W : World), (∃ i, q ∈ lvG f i L0) → OwnI W u q → Below w.heap.size w W → Calls Try.prog 152 #[u, p1] W fun e W' => ∃ r hs, e = .returned r ∧ RL W' 22 W.heap.size r hs (f q) ∧ RowsFrom W.heap.size hs ∧ (f q = [] → r = .slice none 0 0) ∧ Below W.heap.size W W')) :
    Calls Try.prog 121 #[v, .func (Fn.func 152) #[] #[p1]] w fun e w' => ∃ r hs B, e = .returned r ∧ RL w' 22 B r hs (lvG f D L0) ∧ (1 ≤ D → RowsFrom w.heap.size hs) ∧ Below w.heap.size w w' := by
  have c := levelsP_any v L0 f D hs0 B0 p1 w hv hD hF
  have hD9 := hD.out.1
  obtain ⟨ad, cap, rfl, hcc⟩ := hv.slice
  go_enter Try.func121, Try.ntmps121
  go_wp2_with fail
  refine c.mono ?_
  rintro e w1 ⟨r, hs, lv, hs2, B, rfl, hown, hl, hR, hRF, hb⟩
  obtain ⟨a1, c1, rfl, hc1, _, _⟩ := (Own.of_row hown).1.shape
  obtain ⟨g1, o1, rfl, _, hcell, _⟩ := (Own.of_row hown).1.at (by omega)
  have hk := hcell D (by omega)
  rw [hl] at hk
  have hp1 : ((D + 1 : Nat) : Int) - 1 = (D : Int) := by omega
  have HR := Lib.hid hR
  have HRF := Lib.hid hRF
  clear c hv hown hcell hl hR hRF
  obtain ⟨al, cl, hle, _⟩ := HR.out.slice
  subst hle
  go_wp2
  go_ret
  exact ⟨_, hs2, B, rfl, HR.out, HRF.out, hb⟩

set_option maxHeartbeats 8000000 in
set_option maxRecDepth 100000 in
theorem levelsB_any (v : Value) (L0 : List (List Int)) (f : List Int → List (List Int)) (D : Nat) (hs0 : List Value) (B0 : Nat) (w : World) (hv : RL w 22 B0 v hs0 L0)
    (hD : Hid (D ≤ 9 ∧ (∀ i, i ≤ D → lvG f i L0 ≠ []) ∧ lvG f (D + 1) L0 = [] ∧ ∀ i, (lvG f i L0).length ≤ 400000000))
    (hF : Hid (∀ (q : List Int) (u : Value) (W : World), (∃ i, q ∈ lvG f i L0) → OwnI W u q → Below w.heap.size w W → Calls Try.prog 122 #[u] W fun e W' => ∃ r hs, e = .returned r ∧ RL W' 22 W.heap.size r hs (f q) ∧ RowsFrom W.heap.size hs ∧ (f q = [] → r = .slice none 0 0) ∧ Below W.heap.size W W')) :
    Calls Try.prog 165 #[v, .func (Fn.func 122) #[] #[]] w fun e w' => ∃ r hs lv hs2 B, e = .returned r ∧ w'.ownsRow w.heap.size 47 1 r (D + 1) hs ∧ hs[D]? = some lv ∧ RL w' 22 B lv hs2 (lvG f D L0) ∧ (1 ≤ D → RowsFrom w.heap.size hs2) ∧ Below w.heap.size w w' := by
  obtain ⟨ad, cap, rfl, hcc⟩ := hv.slice
  obtain ⟨i0, hi, hz0, hz1, hz2⟩ := info_parts infoL2
  have HI := Lib.hid hi
  have HZ0 := Lib.hid hz0
  have HZ1 := Lib.hid hz1
  have HZ2 := Lib.hid hz2
  obtain ⟨j0, hj, hy0, hy1, hy2⟩ := info_parts infoL1
  have HJ := Lib.hid hj
  have HY0 := Lib.hid hy0
  have HY1 := Lib.hid hy1
  have HY2 := Lib.hid hy2
  have HV := Lib.hid (show RL w 22 B0 (.slice ad (lvG f 0 L0).length cap) hs0 (lvG f 0 L0) from hv)
  have hown0 : w.ownsRow w.heap.size 47 1 (.slice none 0 0) 0 [] := World.ownsRow_nil _ _ _ _
  clear hi hz0 hz1 hz2 hv hj hy0 hy1 hy2
  go_enter Try.func165, Try.ntmps165
  go_wp2
  go_loopg [5, 6] (D + 2) (fun gk o lv wr => ∃ (d : Nat) (hs lvs : List Value) (al : Option Addr) (cl B : Nat), d + gk = D + 2 ∧ d ≤ D + 1 ∧ Hid (wr.ownsRow w.heap.size 47 1 o d hs) ∧ lv = .slice al (lvG f d L0).length cl ∧ Hid (RL wr 22 B (.slice al (lvG f d L0).length cl) lvs (lvG f d L0)) ∧ Hid (Apart o (.slice al (lvG f d L0).length cl) ∧ ∀ (i : Nat) (u : Value), lvs[i]? = some u → Apart o u) ∧ Hid (∀ j, d = j + 1 → ∃ lp hp Bp, hs[j]? = some lp ∧ RL wr 22 Bp lp hp (lvG f j L0) ∧ (1 ≤ j → RowsFrom w.heap.size hp)) ∧ Hid (1 ≤ d → RowsFrom w.heap.size lvs) ∧ Below w.heap.size w wr)
  case atStart => exact ⟨0, [], hs0, ad, cap, B0, by omega, by omega, Lib.hid hown0, rfl, HV, Lib.hid ⟨fun g hg => by simp [Value.ownBlock] at hg, fun _ _ _ g hg => by simp [Value.ownBlock] at hg⟩, Lib.hid (fun j h => by omega), Lib.hid (fun h => by omega), Below.refl _ _⟩
  case round =>
    obtain ⟨d, hs, lvs, al, cl, B, hdk, hdle, hown, rfl, hlv, hap, hprev, hlf, hbr⟩ := hrel
    clear HV hown0 hcc
    have HDK := Lib.hid hdk
    clear hdk
    have hfew := hD.out.2.2.2 d
    obtain ⟨A, hA⟩ : ∃ A, lvG f d L0 = A := ⟨_, rfl⟩
    have HA := Lib.hid hA
    rw [hA] at hfew hlv hap
    rw [hA]
    by_cases h0 : A.length = 0
    · have HD := Lib.hid (show d = D + 1 by
        have h1 := HDK.out
        have hn : ¬ d ≤ D := fun h => hD.out.2.1 d h (by rw [hA]; exact List.eq_nil_of_length_eq_zero h0)
        omega)
      obtain ⟨lp, hp, Bp, hpe, hpr, hpf⟩ := hprev.out D HD.out
      have HPF := Lib.hid hpf
      have HPE := Lib.hid hpe
      have HPR := Lib.hid hpr
      have HO := Lib.hid (show wr.ownsRow w.heap.size 47 1 u5 (D + 1) hs by rw [← HD.out]; exact hown.out)
      rw [h0]
      clear hfew hA h0 hlv hap hprev hown hpe hpr hpf hlf
      go_wp2
      go_ret
      first | exact ⟨_, hs, lp, hp, Bp, rfl, HO.out, HPE.out, HPR.out, HPF.out, hbr⟩
    · have hpos : (0 : Int) < (A.length : Int) := by omega
      have hdD : d ≤ D := by
        have h1 := HDK.out
        by_cases h : d ≤ D
        · exact h
        · exfalso
          have h2 : d = D + 1 := by
            by_cases h3 : d = D + 1
            · exact h3
            · have h4 : d = D + 2 := by omega
              rw [h4] at hA
              have : lvG f (D + 2) L0 = [] := by rw [lvG, hD.out.2.2.1]; rfl
              rw [this] at hA
              rw [← hA] at h0
              exact absurd rfl h0
          rw [h2, hD.out.2.2.1] at hA
          rw [← hA] at h0
          exact h0 rfl
      have hD9 := hD.out.1
      have HLN := Lib.hid (show lvG f (d + 1) L0 = A.flatMap f by rw [lvG, hA])
      have HM9 := Lib.hid (show ∀ k, ((A.take k).flatMap f).length ≤ 400000000 from fun k => by
        have h1 := hD.out.2.2.2 (d + 1)
        rw [lvG, hA] at h1
        have h2 : (A.take k).flatMap f ++ (A.drop k).flatMap f = A.flatMap f := by rw [← List.flatMap_append, List.take_append_drop]
        rw [← h2, List.length_append] at h1
        omega)
      obtain ⟨m, hm⟩ : ∃ m, A.length = m := ⟨_, rfl⟩
      have HMM := Lib.hid hm
      have HLA := hlv
      rw [hm] at hlv hap hpos hfew ⊢
      have hwz := hbr.size
      clear hA h0 hprev
      have hown2 := hown.out.alloc (.cells #[.slice al m cl] 47)
      -- found = append(found, level)
      go_wp2_with (at_builtin; refine wpList_append_lies _ rfl _ _ 136 rfl w.heap.size 47 i0 _ 1 24 Try.underlying136 HI.out HZ0.out HZ1.out HZ2.out rfl (by omega) u5 d hs rfl hown2 _ 1 1 [.slice al m cl] rfl (by simp) (World.news_of_block (heap_alloc_new _ _)) (by simp [Value.oneCell']) (by omega) (by unfold maxLen; omega) (by omega) (by simp; omega) (wr.heap.size + 1) (by simp) ?_)
      intro g3 cap3 w3 hown3 hgr3 hat3 hlt3
      have hb3 : Below w.heap.size w w3 := (hbr.alloc hwz _).grown hgr3 (by simp; omega) (fun b hb => (Own.of_row hown.out).2 b hb)
      have hlv3 : RL w3 22 B (.slice al A.length cl) lvs A := (HLA.out.below (below_new wr (.cells #[.slice al m cl] 47)) (Nat.le_refl _)).grown hgr3 (by rw [HMM.out]; exact fun g h e => hap.out.1 g e h) (fun i u hu g h e => hap.out.2 i u hu g e h)
      have hz3 := hb3.size
      have HOwn3 := Lib.hid hown3
      have HV3 := Lib.hid hlv3
      have HH3 := Lib.hid (show (hs ++ [Value.slice al m cl])[d]? = some (.slice al m cl) by
        have hlh : hs.length = d := by have := hown.out.1; simpa using this
        rw [List.getElem?_append_right (by omega), hlh, Nat.sub_self]; rfl)
      have hR0 : RL w3 22 w3.heap.size (.slice none 0 0) [] ((A.take 0).flatMap f) := RL.nil _ _ _
      clear hown3 hlv3 hgr3 hat3 hown hown2 hlv hap HLA
      go_wp2
      go_loopw [7, 20] (fun nx i wr => ∃ (k : Nat) (hn : List Value), k ≤ m ∧ i = .int .i64 k ∧ Hid (RL wr 22 w3.heap.size nx hn ((A.take k).flatMap f)) ∧ Hid (RowsFrom w3.heap.size hn) ∧ Below w3.heap.size w3 wr) (fun _ i _ => m - (intOf i).toNat)
      case atStart => exact ⟨0, [], Nat.zero_le _, rfl, Lib.hid hR0, Lib.hid (RowsFrom.nil _), Below.refl _ _⟩
      case round =>
        obtain ⟨k, hn, hk, rfl, hN, hNF, hbr2⟩ := hrel
        clear hR0
        by_cases hlt : k < m
        · have hlt' : (k : Int) < m := by omega
          have hkl : k < A.length := by rw [HMM.out]; exact hlt
          have hTK := List.take_succ_eq_append_getElem hkl
          obtain ⟨g, off, u, hadd, hgl, hu, huo, hcell⟩ := HV3.out.at k hkl
          cases hadd
          obtain ⟨q, hqe⟩ : ∃ q, A[k] = q := ⟨_, rfl⟩
          rw [hqe] at huo hTK
          have hQI : ∃ i, q ∈ lvG f i L0 := ⟨d, by rw [HA.out, ← hqe]; exact List.getElem_mem hkl⟩
          have HTK := Lib.hid (show (A.take (k + 1)).flatMap f = (A.take k).flatMap f ++ f q by rw [hTK, List.flatMap_append]; simp)
          have hcr := (hbr2.cell (p := ⟨g, off + k, none⟩) hgl).trans hcell
          have hur := huo.below hbr2 (Nat.le_refl _)
          have hBW := hb3.trans (hbr2.mono hz3)
          have cF := hF.out q u wr hQI hur hBW
          obtain ⟨a9, c9, hue, _⟩ := hur.shape
          subst hue
          have hMk := HM9.out k
          have hMk1 := HM9.out (k + 1)
          rw [HTK.out, List.length_append] at hMk1
          have hsr := hbr2.size
          obtain ⟨M, hM⟩ : ∃ M, (A.take k).flatMap f = M := ⟨_, rfl⟩
          rw [hM] at hMk hN HTK hMk1
          obtain ⟨F, hFq⟩ : ∃ F, f q = F := ⟨_, rfl⟩
          rw [hFq] at cF HTK hMk1
          have HBR2 := Lib.hid hbr2
          clear hqe hkl hTK hM hcell huo hur hu hFq hQI hBW hbr2
          go_wp2_with fail
          refine cF.mono ?_
          rintro e w7 ⟨r7, hs7, rfl, hR7, hF7, hZ7, hb7⟩
          have hN7 := hN.out.below hb7 (Nat.le_refl _)
          have hlt7 := hN.out.lt
          have hbr7 := HBR2.out.trans (hb7.mono hsr)
          have hz7 := hbr7.size
          have HFN7 := Lib.hid (hF7.mono hsr)
          clear hN cF
          by_cases hF0 : F = []
          · obtain rfl := hZ7 hF0
            have HS := Lib.hid (show (A.take (k + 1)).flatMap f = M by rw [HTK.out, hF0, List.append_nil])
            obtain ⟨an, cn, hne, hnc⟩ := hN7.slice
            have HN7 := Lib.hid (show RL w7 22 w3.heap.size u7 hn ((A.take (k + 1)).flatMap f) by rw [HS.out]; exact hN7)
            have HNN := Lib.hid (show an = none → cn = 0 by
              obtain ⟨_, _, he, _, _, h3⟩ := (Own.of_row hN7.own).1.shape
              rw [hne] at he
              simp only [Value.slice.injEq] at he
              obtain ⟨rfl, _, rfl⟩ := he
              exact h3)
            subst hne
            clear hN7 hZ7 hF0 hR7 hF7
            go_wp2_with (at_builtin; refine wpList_app_none rfl _ _ 47 rfl 22 j0 Try.underlying47 HJ.out an M.length cn rfl hnc HNN.out rfl ?_)
            go_roundw
            case rel => exact ⟨k + 1, hn, by omega, by go_num, HN7, hNF, hbr7⟩
            case measure => simp [intOf] <;> omega
          · obtain ⟨a7, c7, rfl, hc7⟩ := hR7.slice
            have hFp : 0 < F.length := List.length_pos_iff.2 hF0
            obtain ⟨g7, o7, _, hadd7, _, _, _, _⟩ := hR7.at 0 hFp
            cases hadd7
            have hsrc := hR7.src
            have hnews : ∀ j u, hs7[j]? = some u → w7.cell? ((⟨g7, o7, none⟩ : Addr).add j) = some u := by
              rcases hsrc with ⟨e, _⟩ | ⟨x, e, h⟩
              · cases e
              · cases e; exact h
            have HNE := Lib.hid hnews
            have hl7 : hs7.length = F.length * 1 := by rw [hR7.len]; omega
            have HL7 := Lib.hid hl7
            have h1c : ∀ u ∈ hs7, u.oneCell' = true := fun u hu => by
              obtain ⟨i, hi, hiu⟩ := List.getElem_of_mem hu
              have hri := (hR7.row i u _ (by rw [List.getElem?_eq_getElem hi, hiu]) (List.getElem?_eq_getElem (by rw [← hR7.len]; exact hi))).1
              obtain ⟨_, _, rfl, _⟩ := hri.shape
              rfl
            have H1C := Lib.hid h1c
            have HN7 := Lib.hid hN7
            have HR7 := Lib.hid hR7
            have HF7 := Lib.hid hF7
            have HLT7 := Lib.hid hlt7
            clear hZ7 hF0 hsrc hnews hl7 h1c hN7 hR7 hF7 hlt7
            go_wp2_with (at_builtin; refine wpList_append_lies _ rfl _ _ 47 rfl w3.heap.size 22 j0 _ 1 24 Try.underlying47 HJ.out HY0.out HY1.out HY2.out rfl (by omega) u7 M.length hn rfl HN7.out.own _ F.length c7 hs7 rfl HL7.out HNE.out H1C.out hFp (by unfold maxLen; omega) (by omega) hz7 w7.heap.size rfl ?_)
            intro g8 cap8 w8 hown8 hgr8 hat8 hlt8
            have hR8 := RL.app (N := wr.heap.size) (yss := F) HN7.out (fun i u ys hu hy => (HR7.out.row i u ys hu hy).1) HF7.out HLT7.out (by have := HL7.out; omega) hown8 rfl hgr8 hat8
            have HR8 := Lib.hid (show RL w8 22 w3.heap.size _ _ ((A.take (k + 1)).flatMap f) by rw [HTK.out]; exact hR8)
            have HF8 := Lib.hid (hNF.out.app HFN7.out)
            have hb8 := hbr7.grown hgr8 hz7 (fun b hb => HN7.out.from b hb)
            clear hown8 hgr8 hat8 hR8 hlt8
            go_wp2
            go_roundw
            case rel => exact ⟨k + 1, _, by omega, by go_num, HR8, HF8, hb8⟩
            case measure => simp [intOf] <;> omega
        · obtain rfl : k = m := by omega
          have hN2 : RL wr 22 w3.heap.size u7 hn (lvG f (d + 1) L0) := by
            rw [HLN.out]
            have := hN.out
            rwa [← HMM.out, List.take_length] at this
          obtain ⟨a9, c9, hv9, _⟩ := hN2.slice
          subst hv9
          have HN2 := Lib.hid hN2
          have HOwn9 := Lib.hid (HOwn3.out.kept (grown_of_below hbr2 none) (.inr (by intro h; cases h)))
          have HAp := Lib.hid (show Apart (.slice (some ⟨g3, 0, none⟩) (d + 1) cap3) (.slice a9 (lvG f (d + 1) L0).length c9) ∧ ∀ (i : Nat) (u : Value), hn[i]? = some u → Apart (.slice (some ⟨g3, 0, none⟩) (d + 1) cap3) u from by
            have hgl : ∀ g, (Value.slice (some ⟨g3, 0, none⟩) (d + 1) cap3).ownBlock = some g → g < w3.heap.size := fun g h => by simp [Value.ownBlock] at h; omega
            exact ⟨From.apart hgl HN2.out.from, fun i u hu => From.apart hgl (hNF.out i u hu)⟩)
          have HPr := Lib.hid (show ∀ j, d + 1 = j + 1 → ∃ lp hp Bp, (hs ++ [Value.slice al k cl])[j]? = some lp ∧ RL wr 22 Bp lp hp (lvG f j L0) ∧ (1 ≤ j → RowsFrom w.heap.size hp) from fun j hj => by
            obtain rfl : j = d := by omega
            refine ⟨_, lvs, B, HH3.out, ?_, hlf.out⟩
            rw [HA.out, ← HMM.out]
            exact HV3.out.below hbr2 (Nat.le_refl _))
          have hB9 := hb3.trans (hbr2.mono hz3)
          have HLF := Lib.hid (show 1 ≤ d + 1 → RowsFrom w.heap.size hn from fun _ => hNF.out.mono hz3)
          clear hN hNF hbr2 hN2 hlf
          go_wp2
          go_roundg (gk - 1)
          case measure => have := HDK.out; omega
          case rel => exact ⟨d + 1, _, hn, a9, c9, _, by have := HDK.out; omega, by omega, HOwn9, rfl, HN2, HAp, HPr, HLF, hB9⟩

set_option maxHeartbeats 1600000 in
set_option maxRecDepth 100000 in
theorem lastLevelB_any (v : Value) (L0 : List (List Int)) (f : List Int → List (List Int)) (D : Nat) (hs0 : List Value) (B0 : Nat) (w : World) (hv : RL w 22 B0 v hs0 L0)
    (hD : Hid (D ≤ 9 ∧ (∀ i, i ≤ D → lvG f i L0 ≠ []) ∧ lvG f (D + 1) L0 = [] ∧ ∀ i, (lvG f i L0).length ≤ 400000000))
    (hF : Hid (∀ (q : List Int) (u : Value) (W : World), (∃ i, q ∈ lvG f i L0) → OwnI W u q → Below w.heap.size w W → Calls Try.prog 122 #[u] W fun e W' => ∃ r hs, e = .returned r ∧ RL W' 22 W.heap.size r hs (f q) ∧ RowsFrom W.heap.size hs ∧ (f q = [] → r = .slice none 0 0) ∧ Below W.heap.size W W')) :
    Calls Try.prog 121 #[v, .func (Fn.func 122) #[] #[]] w fun e w' => ∃ r hs B, e = .returned r ∧ RL w' 22 B r hs (lvG f D L0) ∧ (1 ≤ D → RowsFrom w.heap.size hs) ∧ Below w.heap.size w w' := by
  have c := levelsB_any v L0 f D hs0 B0 w hv hD hF
  have hD9 := hD.out.1
  obtain ⟨ad, cap, rfl, hcc⟩ := hv.slice
  go_enter Try.func121, Try.ntmps121
  go_wp2_with fail
  refine c.mono ?_
  rintro e w1 ⟨r, hs, lv, hs2, B, rfl, hown, hl, hR, hRF, hb⟩
  obtain ⟨a1, c1, rfl, hc1, _, _⟩ := (Own.of_row hown).1.shape
  obtain ⟨g1, o1, rfl, _, hcell, _⟩ := (Own.of_row hown).1.at (by omega)
  have hk := hcell D (by omega)
  rw [hl] at hk
  have hp1 : ((D + 1 : Nat) : Int) - 1 = (D : Int) := by omega
  have HR := Lib.hid hR
  have HRF := Lib.hid hRF
  clear c hv hown hcell hl hR hRF
  obtain ⟨al, cl, hle, _⟩ := HR.out.slice
  subst hle
  go_wp2
  go_ret
  exact ⟨_, hs2, B, rfl, HR.out, HRF.out, hb⟩
end Go.Proofs.Ytdkidfilnbglgaa
