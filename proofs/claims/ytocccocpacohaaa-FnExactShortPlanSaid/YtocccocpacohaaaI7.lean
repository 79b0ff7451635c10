import Derived.Test.YtocccocpacohaaaI4
import Derived.Test.YtocccocpacohaaaS7
import Derived.Test.YtocccocpacohaaaLib3
import Derived.Deep.RegionLaw
import Derived.Lib.SliceRun
import Derived.Outline
namespace Go.Proofs.Ytocccocpacohaaa
open Go Go.RowKit Go.Pan

/-- two numbers struck out of a list -/
def strike (l : List Int) (i : Nat) : List Int := l.take i ++ l.drop (i + 2)
theorem strike_length (l : List Int) (i : Nat) (h : i + 2 ≤ l.length) : (strike l i).length = l.length - 2 := by simp [strike]; omega

theorem Try.zeroI (w : World) : (zeroValue 3).run Try.prog w = .ok (.int .i64 0) w := by kernel_rfl

theorem strike_cells (pre post : List Value) (l : List Int) (i n : Nat) (hn : l.length = n) (hi : i + 2 ≤ n) :
    (pre ++ l.map iv ++ post).take (pre.length + i) ++ (l.drop (i + 2)).map iv ++ (pre ++ l.map iv ++ post).drop (pre.length + i + ((l.drop (i + 2)).map iv).length) =
      pre ++ (strike l i).map iv ++ ((l.drop (n - 2)).map iv ++ post) := by
  have h1 : (pre ++ l.map iv ++ post).take (pre.length + i) = pre ++ (l.take i).map iv := by
    rw [List.append_assoc, List.take_append, List.take_of_length_le (by omega), Nat.add_sub_cancel_left, List.take_append_of_le_length (by simp; omega), List.map_take]
  have h2 : (pre ++ l.map iv ++ post).drop (pre.length + i + ((l.drop (i + 2)).map iv).length) = (l.drop (n - 2)).map iv ++ post := by
    rw [List.length_map, List.length_drop, hn, show pre.length + i + (n - (i + 2)) = pre.length + (n - 2) by omega, List.append_assoc, ← List.drop_drop, List.drop_left, List.drop_append_of_le_length (by simp; omega), List.map_drop]
  rw [h1, h2]
  unfold strike
  simp only [List.map_append, List.append_assoc]

theorem clear_cells (pre rest : List Value) (l : List Int) (i n : Nat) (hn : l.length = n) (hi : i + 2 ≤ n) (zs : List Value) :
    (pre ++ (strike l i).map iv ++ rest).take (pre.length + (n - 2)) ++ zs ++ (pre ++ (strike l i).map iv ++ rest).drop (pre.length + (n - 2) + zs.length) =
      pre ++ (strike l i).map iv ++ (zs ++ rest.drop zs.length) := by
  have hl : (pre ++ (strike l i).map iv).length = pre.length + (n - 2) := by rw [List.length_append, List.length_map, strike_length l i (by omega), hn]
  rw [List.take_append_of_le_length (by omega), List.take_of_length_le (by omega), List.drop_append, List.drop_eq_nil_of_le (by omega), hl, Nat.add_sub_cancel_left, List.nil_append, List.append_assoc]

set_option maxHeartbeats 800000 in
theorem Delete_any (ad : Option Addr) (cap i : Nat) (l : List Int) (w : World) (hv : OwnI w (.slice ad l.length cap) l) (hn : l.length ≤ 1048576) (hi : i + 2 ≤ l.length) :
    Calls Try.prog 89 #[.slice ad l.length cap, .int .i64 i, .int .i64 ((i : Int) + 2)] w fun e w' => ∃ r, e = .returned r ∧ OwnI w' r (strike l i) ∧ r.ownBlock = (Value.slice ad l.length cap).ownBlock ∧ w.grownBy w' (Value.slice ad l.length cap).ownBlock := by
  obtain ⟨ad', cap', hv', hc, hm, hnil⟩ := hv.shape
  simp only [Value.slice.injEq, true_and] at hv'
  obtain ⟨rfl, rfl⟩ := hv'
  obtain ⟨i0, hi0, hz0, hz1, hz2⟩ := info_parts Try.info3
  obtain ⟨g, off, ty, pre, post, rfl, hB, hp, hl⟩ := Own.blk hv (by omega)
  have hsl := strike_length l i hi
  obtain ⟨n, hn'⟩ : ∃ n, l.length = n := ⟨_, rfl⟩
  have hC1 := strike_cells pre post l i n hn' (by omega)
  have hC2 := clear_cells pre ((l.drop (n - 2)).map iv ++ post) l i n hn' (by omega)
  have hlen : (pre ++ l.map iv ++ post).length = pre.length + n + post.length := by simp [hn']; omega
  rw [hlen] at hl
  subst hp
  rw [hn'] at hc hi hn hsl hv ⊢
  obtain ⟨news, hnews⟩ : ∃ news, news = (l.drop (i + 2)).map iv := ⟨_, rfl⟩
  have hnl : news.length = n - (i + 2) := by rw [hnews]; simp [hn']
  have hBd : Blk w.drew g ty (pre ++ l.map iv ++ post) := hB
  obtain ⟨sp, hsp⟩ : ∃ sp, sp = (if cap = i + 2 then some (⟨g, pre.length, none⟩ : Addr) else (some (⟨g, pre.length, none⟩ : Addr)).map (·.add (i + 2))) := ⟨_, rfl⟩
  have hrun : ∀ W, (Instr.sliceAt 22 (.slice (some ⟨g, pre.length, none⟩) n cap) (some (.int .i64 ((i : Int) + 2))) none none).run Try.prog W = .ok (.slice sp (n - (i + 2)) (cap - (i + 2))) W := fun W => by
    have h := run_from Try.intSl (some ⟨g, pre.length, none⟩) n cap (i + 2) (by omega) W
    rw [← hsp] at h
    exact h
  obtain ⟨A, hA, hsrc⟩ : ∃ A : Addr, sp = some A ∧ Hid (∀ t u, news[t]? = some u → w.drew.cell? (A.add t) = some u) := by
    by_cases h : cap = i + 2
    · refine ⟨⟨g, pre.length, none⟩, by rw [hsp, if_pos h], fun t u hu => ?_⟩
      have h0 : news.length = 0 := by rw [hnl]; omega
      rw [List.length_eq_zero_iff.1 h0] at hu
      simp at hu
    · refine ⟨⟨g, pre.length + (i + 2), none⟩, by rw [hsp, if_neg h]; simp [Addr.add], fun t u hu => ?_⟩
      have ht : t < news.length := (List.getElem?_eq_some_iff.1 hu).1
      rw [Addr.add_lit, hBd.cell, Nat.add_assoc, List.append_assoc, List.getElem?_append_right (by omega), Nat.add_sub_cancel_left, List.getElem?_append_left (by simp; omega), ← hu, hnews, List.map_drop, List.getElem?_drop]
  subst hA
  have s1 : Hid (news.length = (n - (i + 2)) * 1) := by rw [Nat.mul_one]; exact hnl
  have s2 : Hid (∀ u ∈ news, u.oneCell' = true) := by
    intro u hu
    rw [hnews] at hu
    obtain ⟨x, _, rfl⟩ := List.mem_map.1 hu
    rfl
  have s3 : Hid (∀ t, t < news.length → (w.drew.cell? ⟨g, pre.length + i * 1 + t, none⟩).isSome = true ∧ w.drew.frozen? ⟨g, pre.length + i * 1 + t, none⟩ = false) := by
    intro t ht
    refine ⟨?_, hBd.frozen _⟩
    rw [hBd.cell, List.getElem?_eq_getElem (by rw [hlen]; omega)]
    rfl
  obtain ⟨W1, hW1⟩ : ∃ W1, W1 = w.drew.setCells g (pre.length + i * 1) news := ⟨_, rfl⟩
  have hB1 : Blk W1 g ty (pre ++ (strike l i).map iv ++ ((l.drop (n - 2)).map iv ++ post)) := by
    rw [hW1, Nat.mul_one, ← hC1, ← hnews]
    exact hBd.setCells news (pre.length + i) (by rw [hlen]; omega)
  have hG1 : w.grownBy W1 (some g) := by rw [hW1]; exact grownBy_setCells news _ ⟨rfl, rfl, rfl, Nat.le_refl _, fun _ _ _ => rfl⟩
  have hl1 : (pre ++ (strike l i).map iv ++ ((l.drop (n - 2)).map iv ++ post)).length = pre.length + n + post.length := by
    simp [strike, hn']; omega
  obtain ⟨W2, hW2⟩ : ∃ W2, W2 = W1.setCells g (pre.length + (n - 2)) (List.replicate 2 (iv 0)) := ⟨_, rfl⟩
  have hcl : ∀ ty', (Builtin.clear_ #[22] ty' #[.slice (some ⟨g, pre.length + (i + (n - (i + 2))), none⟩) (n - (i + (n - (i + 2)))) (cap - (i + (n - (i + 2))))]).run Try.prog W1 = .ok (.tuple #[]) W2 := fun ty' => by
    rw [show i + (n - (i + 2)) = n - 2 by omega, show n - (n - 2) = 2 by omega, hW2]
    exact Lib.run_clear_slice W1 _ _ ty' _ Try.underlying22 Try.zeroI rfl rfl g (pre.length + (n - 2)) 2 _ (by omega) (fun t ht => by rw [hB1.cell, List.getElem?_eq_getElem (by rw [hl1]; omega)]; rfl) (fun t ht => hB1.frozen _)
  have hB2 : Blk (W1.setCells g (pre.length + (n - 2)) (List.replicate 2 (iv 0))) g ty (pre ++ (strike l i).map iv ++ (List.replicate 2 (iv 0) ++ ((l.drop (n - 2)).map iv ++ post).drop (List.replicate 2 (iv 0)).length)) := by
    rw [← hC2]
    exact hB1.setCells _ _ (by rw [hl1]; simp; omega)
  have hG2 := grownBy_setCells (List.replicate 2 (iv 0)) (pre.length + (n - 2)) hG1
  have hres : OwnI (W1.setCells g (pre.length + (n - 2)) (List.replicate 2 (iv 0))) (.slice (some ⟨g, pre.length, none⟩) (n - 2) cap) (strike l i) := by
    unfold OwnI
    rw [hsl]
    refine Own.of_blk hB2 rfl hsl (by omega) hm ?_
    simp [strike, hn']
    omega
  have HW := Lib.hid hW1
  have HR := Lib.hid (show OwnI W2 (.slice (some ⟨g, pre.length, none⟩) (i + (n - (i + 2))) cap) (strike l i) by rw [hW2, show i + (n - (i + 2)) = n - 2 by omega]; exact hres)
  have HG := Lib.hid (show w.grownBy W2 (some g) by rw [hW2]; exact hG2)
  have hi1 : (i : Int) ≤ (i : Int) + 2 := by omega
  have hi2 : (i : Int) + 2 ≤ n := by omega
  have hi3 : (n : Int) ≤ cap := by omega
  have hi4 : (i : Int) ≤ cap := by omega
  have hq : ((i : Int) == (i : Int) + 2) = false := by simp; omega
  have hroom : i + (n - (i + 2)) ≤ cap := by omega
  clear hn' hv hB hBd hC1 hC2 hlen hl hnews hnl hsp hW1 hB1 hG1 hl1 hB2 hG2 hres hsl hnil hW2
  go_enter Try.func89, Try.ntmps89
  go_wp2
  refine wp_region_held_drew (S := (fun _ => True)) (by kernel_rfl) (trivial) (fun hHeld => ?_)
  refine wpAnyH_take (i := 0) (v := ?_) rfl (by kernel_rfl) (by kernel_rfl) (by kernel_rfl) (fun _ _ _ h => h) (Or.inl ⟨by rfl, ?_⟩) (by assumption) ?_
  rotate_left
  · intro w _; go_simp; with_reducible rfl
  refine wpAnyH_take (i := 1) (v := ?_) rfl (by kernel_rfl) (by kernel_rfl) (by kernel_rfl) (fun _ _ _ h => h) (Or.inl ⟨by rfl, ?_⟩) (by assumption) ?_
  rotate_left
  · intro w _; go_simp; with_reducible rfl
  refine wpAnyH_take (i := 2) (v := ?_) rfl (by kernel_rfl) (by kernel_rfl) (by kernel_rfl) (fun _ _ _ h => h) (Or.inl ⟨by rfl, ?_⟩) (by assumption) ?_
  rotate_left
  · intro w _; go_simp; with_reducible rfl
  refine wpAnyH_take (i := 3) (v := ?_) rfl (by kernel_rfl) (by kernel_rfl) (by kernel_rfl) (fun _ _ _ h => h) (Or.inl ⟨by rfl, ?_⟩) (by assumption) ?_
  rotate_left
  · intro w _; go_simp; with_reducible rfl
  refine wpAnyH_take (i := 4) (v := ?_) rfl (by kernel_rfl) (by kernel_rfl) (by kernel_rfl) (fun _ _ _ h => h) (Or.inl ⟨by rfl, ?_⟩) (by assumption) ?_
  rotate_left
  · intro w _; go_simp; with_reducible rfl
  refine wpAnyH_take (i := 5) (v := ?_) rfl (by kernel_rfl) (by kernel_rfl) (by kernel_rfl) (fun _ _ _ h => h) (Or.inl ⟨by rfl, ?_⟩) (by assumption) ?_
  rotate_left
  · intro w _; go_simp; with_reducible rfl
  refine wpAnyH_ready (rs := [6]) (by kernel_rfl) (by simp) ?_
  refine AllReadyH.cons rfl (fun K hK => ?_) AllReadyH.nil
  refine step_append_room rfl (.tmp 22) (.tmp 25) 22 rfl 3 i0 1 Try.underlying22 hi0 hz1 g pre.length i cap rfl A (n - (i + 2)) (cap - (i + 2)) news rfl s1.out hsrc.out s2.out hroom s3.out ?_
  rw [← HW.out]
  refine hK.out _ _ trivial (fun _ => ?_)
  clear hK K
  refine wpAnyH_take (i := 7) (v := ?_) rfl (by kernel_rfl) (by kernel_rfl) (by kernel_rfl) (fun _ _ _ h => h) (Or.inl ⟨by rfl, ?_⟩) (by assumption) ?_
  rotate_left
  · intro w _; go_simp; with_reducible rfl
  refine wpAnyH_done (by kernel_rfl) ?_ _
  go_wp2
  go_ret
  exact ⟨_, rfl, HR.out, rfl, HG.out⟩

end Go.Proofs.Ytocccocpacohaaa
