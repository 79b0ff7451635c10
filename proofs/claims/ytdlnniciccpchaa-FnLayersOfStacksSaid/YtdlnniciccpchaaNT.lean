import Derived.Test.YtdlnniciccpchaaN9
namespace Go.Proofs.Ytdlnniciccpchaa
open Go Go.RowKit Go.Pan

set_option maxHeartbeats 800000 in
set_option maxRecDepth 100000 in
theorem turnsFrom_any (a : Nat) (m : Nat) (w : World) (ha : a ≤ 9) (hm : m ≤ 1000) (ham : a ≤ m + 1) :
    Calls Try.prog 139 #[.int .i64 a, .int .i64 m] w fun e w' => ∃ r, e = .returned r ∧ OwnI w' r (ramp a (m + 1 - a)) ∧ From w.heap.size r ∧ Below w.heap.size w w' := by
  obtain ⟨i0, hi, hz0, hz1, hz2⟩ := info_parts Try.info3
  go_enter Try.func139, Try.ntmps139
  go_wp2_with (at_make; refine wpList_make_own _ rfl _ _ 24 rfl w.heap.size 3 i0 (.int .i64 0) 1 Try.underlying24 hi hz0 hz1 _ _ _ m rfl rfl rfl ?b1 ?b2 ?b3 ?_)
  case b1 => rw [hz2]; omega
  case b2 => unfold maxLen; omega
  case b3 => exact Nat.le_refl _
  intro w1 hown hgrow
  have ho0 := (Own.of_row hown).1
  have hf0 := (Own.of_row hown).2
  have hb0 : Below w.heap.size w w1 := (Below.refl _ _).grown hgrow (Nat.le_refl _) (by intro k hk; cases hk)
  clear hi hz0 hz1 hz2 hgrow hown
  go_wp2
  go_loopw [5, 6] (fun o i wr => ∃ k : Nat, k ≤ m + 1 - a ∧ i = .int .i64 ((a : Int) + k) ∧ OwnI wr o (ramp a k) ∧ From w.heap.size o ∧ Below w.heap.size w wr) (fun _ i _ => m + 1 - (intOf i).toNat)
  case atStart => exact ⟨0, by omega, by go_num, by simpa [ramp, OwnI] using ho0, hf0, hb0⟩
  case round =>
    obtain ⟨k, hk, rfl, ho, hf, hbr⟩ := hrel
    clear ho0 hf0 hb0
    by_cases hlt : k < m + 1 - a
    · have hle : (a : Int) + k ≤ m := by omega
      have hlen : (ramp (a : Int) k).length ≤ 1048576 := by rw [ramp_length]; omega
      have hsz := hbr.size
      go_wp2_with (at_builtin; refine wpList_app1 Try.intSl rfl _ _ rfl _ (ramp (a : Int) k) rfl (ho.alloc _) w.heap.size hf wr.heap.size ((a : Int) + k) rfl ?c1 _ (Below.refl _ _) ?c2 hlen ?_)
      case c1 => simp [go_sem]
      case c2 => simp; omega
      intro v' w4 ho' hf' hb' _
      have hbr' := (hbr.alloc hsz (.cells #[.int .i64 ((a : Int) + k)] 3)).trans (hb'.mono (by omega))
      rw [← ramp_snoc] at ho'
      clear ho hf hbr
      go_wp2
      go_roundw
      case rel => exact ⟨k + 1, by omega, by go_num, ho', hf', hbr'⟩
      case measure => simp [intOf] <;> omega
    · obtain rfl : k = m + 1 - a := by omega
      have hgt : (m : Int) < (a : Int) + ((m + 1 - a : Nat) : Int) := by omega
      go_wp2
      go_ret
      exact ⟨_, rfl, ho, hf, hbr⟩

set_option maxHeartbeats 800000 in
theorem wlastAt_any (g L cap b : Nat) (w : World) (hL : L ≤ 1048576) (hc : w.cell? ⟨g, L, none⟩ = some (mv b)) :
    Calls Try.prog 51 #[.slice (some ⟨g, 0, none⟩) (L + 1) cap] w fun e w' => e = .returned (mv b) ∧ w = w' := by
  go_enter Try.func51, Try.ntmps51
  go_wp2
  go_ret
  exact ⟨rfl, rfl⟩

theorem isSearchedCount_any (n : Int) (w : World) :
    Calls Try.prog 49 #[.int .i64 n] w fun e w' => e = .returned (.bool (inB n 1 7)) ∧ w = w' := by
  go_enter Try.func49, Try.ntmps49
  by_cases h : 1 ≤ n
  · go_wp2
    go_ret
    exact ⟨by simp [inB, h], rfl⟩
  · go_wp2
    go_ret
    exact ⟨by simp only [inB, decide_eq_false (show ¬ 1 ≤ n from by omega)]; rfl, rfl⟩

end Go.Proofs.Ytdlnniciccpchaa

