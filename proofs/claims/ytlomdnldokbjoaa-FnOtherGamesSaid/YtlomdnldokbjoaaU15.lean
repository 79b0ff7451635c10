import Derived.Test.YtlomdnldokbjoaaU4
import Derived.Test.YtlomdnldokbjoaaSS
import Derived.Test.YtlomdnldokbjoaaTwB
import Derived.Lib.AppendZerosOnto
namespace Go.Proofs.Ytlomdnldokbjoaa
open Go Go.RowKit Go.Pan

-- slices.Grow of nothing, slices.Concat of ints
theorem wpList_run_app {P : Program} {w w' : World} {ops : Array Oper} {rest : List Oper} {o : Oper} {a : Act} {Q : Exit → Act → World → Prop} (hg : o.guard = none) (s x : Operand) (t tn : TypeId)
    (hop : o.op = .call { callee := .builtin .append, args := #[s, x], argTypes := #[t, tn] }) (v u r : Value) (hs : a.eval s = v) (hx : a.eval x = u) (hrun : (Builtin.append_ #[t, tn] o.type #[v, u]).run P w = .ok r w')
    (h : wpList P ops Q rest (a.put o.dst r) w') : wpList P ops Q (o :: rest) a w := by
  refine wpList_plain hg fun K hK => ?_
  unfold Oper.wp
  simp [execOp, hop, resolve, invoke, builtin, hs, hx, hrun, Result.andThen]
  exact hK _ _ h

set_option maxHeartbeats 1600000 in
set_option maxRecDepth 100000 in
theorem Grow0_any (n : Nat) (w : World) (hn : n ≤ 10000000) :
    Calls Try.prog 184 #[.slice none 0 0, .int .i64 n] w fun e w' => ∃ r, e = .returned r ∧ OwnI w' r [] ∧ From w.heap.size r ∧ Below w.heap.size w w' := by
  by_cases h0 : n = 0
  · subst h0
    go_enter Try.func184, Try.ntmps184
    go_wp2
    go_ret
    exact ⟨_, rfl, OwnI.nil _, From.nil _ _ _, Below.refl _ _⟩
  · obtain ⟨i, hi, hz, hs1, hb8⟩ := info_parts Try.info3
    have hrun0 := Lib.run_append_grow_zeros (P := Try.prog) w 24 3 24 3 i _ .i64 .i64 Try.underlying24 Try.underlying3 hi hz none 0 0 [] (by simp [Builtin.firstCells]) n (by omega) (by omega) (by omega) (by omega) (by rw [hb8]; omega)
      (by
        have h1 : Builtin.nextslicecap (0 + n) 0 = 0 + n := by unfold Builtin.nextslicecap; simp; try omega
        rw [h1, hb8]; omega)
    obtain ⟨gc, hgc⟩ : ∃ gc, grownCap w (0 + n) 0 3 = gc := ⟨_, rfl⟩
    obtain ⟨cs, hcs⟩ : ∃ cs, ([] : List Value).toArray ++ Builtin.zeroCells (Value.int .i64 0).cells n ++ Builtin.zeroCells (Value.int .i64 0).cells (gc - (0 + n)) = cs := ⟨_, rfl⟩
    have hge : n ≤ gc := by rw [← hgc]; have := grownCap_ge w (0 + n) 0 3; omega
    have hle : gc ≤ maxLen := by rw [← hgc]; exact grownCap_le_maxLen w (0 + n) 0 3 (by unfold maxLen; omega)
    have hsz : cs.size = gc := by
      rw [← hcs]
      simp only [Array.size_append, size_zeroCells, Value.cells]
      simp
      omega
    have HL := Lib.hid hle
    have HS := Lib.hid hsz
    rw [hgc, hcs, Nat.zero_add] at hrun0
    have hrun : (Builtin.append_ #[24, 3] 24 #[.slice none 0 0, .int .i64 (n : Int)]).run Try.prog w = .ok (.slice (some ⟨w.heap.size, 0, none⟩) n gc) (w.drew.alloc (.cells cs 3)) := hrun0
    have HR := Lib.hid hrun
    have hpos : (0 : Int) < n := by omega
    have hB : Below w.heap.size w (w.drew.alloc (.cells cs 3)) := ((Below.refl w.heap.size w).drew).alloc (Nat.le_refl _) _
    clear hgc hcs hsz hle hrun0 hrun h0
    go_enter Try.func184, Try.ntmps184
    go_wp2_with (at_builtin; refine wpList_run_app rfl _ _ 24 3 rfl _ _ _ rfl rfl HR.out ?_)
    go_ret
    refine ⟨_, rfl, ⟨_, gc, rfl, rfl, Nat.zero_le _, HL.out, by simp, fun a ha => ?_⟩, From.at _ _ _ _ _ (Nat.le_refl _), hB⟩
    cases ha
    exact ⟨rfl, cs, 3, heap_alloc_new w.drew _, by rw [HS.out]; simp, fun j hj => by simp at hj⟩

theorem flat_succ (xss : List (List Int)) (k : Nat) (h : k < xss.length) : (xss.take (k + 1)).flatten = (xss.take k).flatten ++ xss[k] := by
  rw [List.take_succ_eq_append_getElem h, List.flatten_append]; simp
theorem flat_length (xss : List (List Int)) (k : Nat) : ((xss.take k).flatten).length = pre xss k := by
  unfold pre; rw [List.length_flatten]
theorem pre_mono (xss : List (List Int)) {i j : Nat} (h : i ≤ j) (hj : j ≤ xss.length) : pre xss i ≤ pre xss j := by
  induction j with
  | zero => obtain rfl : i = 0 := by omega
            exact Nat.le_refl _
  | succ j ih =>
    by_cases e : i = j + 1
    · subst e; exact Nat.le_refl _
    · rw [pre_succ xss j (by omega)]; have := ih (by omega) (by omega); omega

set_option maxHeartbeats 3200000 in
set_option maxRecDepth 100000 in
theorem Concat_any (v : Value) (hs : List Value) (xss : List (List Int)) (w : World) (hown : Own w 1 v hs.length hs) (hl : Hid (hs.length = xss.length)) (hrow : Hid (∀ (i : Nat) (u : Value) (xs : List Int), hs[i]? = some u → xss[i]? = some xs → OwnI w u xs))
    (hx : xss.length ≤ 1000) (hp : pre xss xss.length ≤ 1048576) :
    Calls Try.prog 172 #[v] w fun e w' => ∃ r, e = .returned r ∧ OwnI w' r xss.flatten ∧ From w.heap.size r ∧ Below w.heap.size w w' := by
  obtain ⟨ad, cap, rfl, hcc, _, _⟩ := hown.shape
  obtain ⟨m, hm⟩ : ∃ m, hs.length = m := ⟨_, rfl⟩
  have HM := Lib.hid hm
  have HX := Lib.hid (show xss.length = m by rw [← hl.out]; exact hm)
  have HO := Lib.hid hown
  have HPB := Lib.hid (show ∀ k, k ≤ m → pre xss k ≤ 1048576 from fun k hk => by have := pre_mono xss (i := k) (j := xss.length) (by rw [HX.out]; exact hk) (Nat.le_refl _); omega)
  have hm1000 : m ≤ 1000 := by have := HX.out; omega
  have HF0 := Lib.hid (show OwnI w (.slice none 0 0) [] from OwnI.nil w)
  rw [hm]
  clear hown hm hcc hx hp
  go_enter Try.func172, Try.ntmps172
  go_wp2
  go_loop [3, 11] (fun s i => ∃ k : Nat, k ≤ m ∧ i = .int .i64 k ∧ s = .int .i64 (pre xss k : Nat)) (fun _ i => m - (intOf i).toNat)
  case atStart => exact ⟨0, Nat.zero_le _, rfl, rfl⟩
  case round =>
    obtain ⟨k, hk, rfl, rfl⟩ := hrel
    by_cases hlt : k < m
    · have hlt' : (k : Int) < m := by omega
      obtain ⟨g, off, rfl, hgl, hcell, _⟩ := HO.out.at (by have := HM.out; obtain ⟨_, _, he, _, h2, _⟩ := HO.out; simp only [Value.slice.injEq] at he; obtain ⟨_, _, rfl⟩ := he; omega)
      have hkl : k < hs.length := by rw [HM.out]; exact hlt
      have hkx : k < xss.length := by rw [HX.out]; exact hlt
      have hck := hcell k (by omega)
      rw [List.getElem?_eq_getElem hkl] at hck
      have hr := hrow.out k _ _ (List.getElem?_eq_getElem hkl) (List.getElem?_eq_getElem hkx)
      obtain ⟨au, cu, hue, _, _, _⟩ := hr.shape
      rw [hue] at hck
      have h1 := HPB.out k hk
      have h2 := HPB.out (k + 1) hlt
      rw [pre_succ xss k hkx] at h2
      have HS := Lib.hid (show ((pre xss (k + 1) : Nat) : Int) = (pre xss k : Nat) + ((xss[k]).length : Nat) by rw [pre_succ xss k hkx]; omega)
      obtain ⟨y, hy⟩ : ∃ y, xss[k].length = y := ⟨_, rfl⟩
      rw [hy] at hck h2 HS
      obtain ⟨P, hP⟩ : ∃ P, pre xss k = P := ⟨_, rfl⟩
      rw [hP] at h1 h2 HS
      rw [hP]
      have hnn : ¬ ((P : Int) + (y : Int) < 0) := by omega
      clear hcell hr hue hy hP
      go_wp2
      go_round
      case rel => exact ⟨k + 1, by omega, by go_num, by rw [HS.out]⟩
      case measure => simp [intOf] <;> omega
    · obtain rfl : k = m := by omega
      have hpk := HPB.out k (Nat.le_refl _)
      obtain ⟨P, hP⟩ : ∃ P, pre xss k = P := ⟨_, rfl⟩
      rw [hP] at hpk
      rw [hP]
      clear hP
      go_wp2_with fail
      refine (Grow0_any P w (by omega)).mono ?_
      rintro e w1 ⟨r1, rfl, ho1, hf1, hb1⟩
      have HO1 := Lib.hid (show OwnI w1 r1 (xss.take 0).flatten from ho1)
      clear ho1
      go_wp2
      go_loopw [6, 27] (fun o i wr => ∃ j : Nat, j ≤ k ∧ i = .int .i64 j ∧ Hid (OwnI wr o (xss.take j).flatten) ∧ From w.heap.size o ∧ Below w.heap.size w wr) (fun _ i _ => k - (intOf i).toNat)
      case atStart => exact ⟨0, Nat.zero_le _, rfl, HO1, hf1, hb1⟩
      case round =>
        obtain ⟨j, hj, rfl, ho, hf, hbr⟩ := hrel
        clear HO1 hf1 hb1
        by_cases hlt2 : j < k
        · have hlt2' : (j : Int) < k := by omega
          obtain ⟨g, off, rfl, hgl, hcell, _⟩ := HO.out.at (by have := HM.out; obtain ⟨_, _, he, _, h2, _⟩ := HO.out; simp only [Value.slice.injEq] at he; obtain ⟨_, _, rfl⟩ := he; omega)
          have hkl : j < hs.length := by rw [HM.out]; exact hlt2
          have hkx : j < xss.length := by rw [HX.out]; exact hlt2
          have hck := hcell j (by omega)
          rw [List.getElem?_eq_getElem hkl] at hck
          have hr := hrow.out j _ _ (List.getElem?_eq_getElem hkl) (List.getElem?_eq_getElem hkx)
          obtain ⟨au, cu, hue, _, _, _⟩ := hr.shape
          rw [hue] at hck
          have hcr := (hbr.cell (p := ⟨g, off + j, none⟩) hgl).trans hck
          have hrr := hr.below hbr (Nat.le_refl _)
          rw [hue] at hrr
          have hsrc := Lib.hid (Own.src hrr)
          have h1 := HPB.out j (by omega)
          have h2 := HPB.out (j + 1) (by omega)
          rw [pre_succ xss j hkx] at h2
          have HS := Lib.hid (flat_succ xss j hkx)
          have hla : ((xss.take j).flatten).length ≤ 1048576 := by rw [flat_length]; exact h1
          have hlb : xss[j].length ≤ 1048576 := by omega
          obtain ⟨y, hy⟩ : ∃ y, xss[j] = y := ⟨_, rfl⟩
          rw [hy] at hcr hsrc HS hlb
          obtain ⟨A, hA⟩ : ∃ A, (xss.take j).flatten = A := ⟨_, rfl⟩
          rw [hA] at ho hla HS
          have hbs := hbr.size
          clear hcell hr hrr hue hy hA hck h1 h2
          go_wp2_with (at_builtin; refine wpList_appI Try.intSl rfl _ _ rfl u6 A rfl ho.out w.heap.size hf au y.length cu y rfl rfl hsrc.out w hbr hbs hla hlb ?_)
          intro v2 w2 ho2 hf2 hb2 _
          rw [← HS.out] at ho2
          have HO2 := Lib.hid ho2
          clear ho2 hsrc hbr ho
          go_wp2
          go_roundw
          case rel => exact ⟨j + 1, by omega, by go_num, HO2, hf2, hb2⟩
          case measure => simp [intOf] <;> omega
        · obtain rfl : j = k := by omega
          have HR := Lib.hid (show OwnI wr u6 xss.flatten by
            have := ho.out
            rwa [← HX.out, List.take_length] at this)
          clear ho
          go_wp2
          go_ret
          exact ⟨_, rfl, HR.out, hf, hbr⟩

end Go.Proofs.Ytlomdnldokbjoaa

