import Derived.Test.YtmlikchhkblohaaMe
import Derived.Test.YtmlikchhkblohaaHS
namespace Go.Proofs.Ytmlikchhkblohaa
open Go Go.RowKit Go.Pan

theorem sAreRows_any (v : Value) (B N : Nat) (hs : List Value) (R : List (List Int)) (w : World) (hv : SS w B N v hs R) (hN : N ≤ w.heap.size) (ht : R.length + pre R R.length ≤ 1048576) :
    Calls Try.prog 33 #[v] w fun e w' => e = .returned (.bool (mAreRows R)) ∧ Below w.heap.size w w' := by
  have c := inTable_any v B N hs R w hv hN ht
  go_enter Try.func33, Try.ntmps33
  go_wp2_with fail
  refine c.mono ?_
  rintro e w1 ⟨rfl, hb⟩
  clear c
  go_wp2
  go_ret
  exact ⟨rfl, hb⟩

set_option maxRecDepth 100000 in
set_option maxHeartbeats 1600000 in
theorem walk_FnExactAreRows (a0 : Option Addr) (cap0 : Nat) (xss0 : List (List Int)) (w : World) (hi0 : IntM w (.slice a0 xss0.length cap0) xss0) :
    Calls Try.prog 5 #[.slice a0 xss0.length cap0] w fun e w' => e = .returned (.bool true) ∧ Below w.heap.size w w' := by
  have HI := Lib.hid hi0
  go_enter Try.func5, Try.ntmps5
  go_wp2_with fail
  refine (szIntSS_any _ xss0 w HI.out).mono ?_
  rintro e w0 ⟨z, rfl, rfl, hz⟩
  rcases hz with rfl | ⟨hz, ht⟩
  · go_wp2
    go_ret
    exact ⟨rfl, Below.refl _ _⟩
  have HT := Lib.hid ht
  have HR := Lib.hid (show ∀ xs ∈ xss0, xs.length ≤ 1048576 from fun xs hx => by
    obtain ⟨i, hi, rfl⟩ := List.getElem_of_mem hx
    have := row_le_all xss0 i hi
    omega)
  have hn : xss0.length ≤ 1048576 := by omega
  clear hi0
  go_wp2_with fail
  refine (toIntSS_any _ xss0 w HI.out HT.out).mono ?_
  rintro e w1 ⟨r1, hs1, rfl, hS1, hb1⟩
  go_wp2_with fail
  refine (sAreRows_any _ _ _ _ xss0 w1 hS1 (Nat.le_refl _) HT.out).mono ?_
  rintro e w2 ⟨rfl, hb2⟩
  have hB2 := hb1.trans (hb2.mono hb1.size)
  clear hS1 hb1 hb2
  go_wp2_with fail
  refine (toIntSS_any _ xss0 w2 (HI.out.below hB2) HT.out).mono ?_
  rintro e w3 ⟨r3, hs3, rfl, hS3, hb3⟩
  have hB3 := hB2.trans (hb3.mono hB2.size)
  have HS3 := Lib.hid hS3
  clear hb3 hB2
  go_wp2_with fail
  refine (AreRows_any _ _ _ _ xss0 w3 hS3 (Nat.le_refl _) HT.out).mono ?_
  rintro e w4 ⟨rfl, hb4⟩
  have hB4 := hB3.trans (hb4.mono hB3.size)
  have HS4 := Lib.hid (HS3.out.below hb4 (Nat.le_refl _))
  have hz4 := hb4.size
  obtain ⟨D, hD⟩ : ∃ D, mAreRows xss0 = D := ⟨_, rfl⟩
  rw [hD]
  have hDn : ((D : Bool) != D) = false := by simp
  clear hS3 hB3 hb4 hD
  go_wp2_with fail
  refine (toIntSS_any _ xss0 w4 (HI.out.below hB4) HT.out).mono ?_
  rintro e w5 ⟨r5, hs5, rfl, hS5, hb5⟩
  have hB5 := hB4.trans (hb5.mono hB4.size)
  have hS35 := HS4.out.below hb5 hz4
  have hz5 := hb5.size
  go_wp2_with fail
  refine (eqIntSS_any _ _ _ _ _ _ _ _ xss0 w5 hS35 (by omega) hS5 (Nat.le_refl _) hn HR.out).mono ?_
  rintro e w6 ⟨rfl, hb6⟩
  have hB6 := hB5.trans (hb6.mono hB5.size)
  go_wp2
  go_ret
  exact ⟨rfl, hB6⟩

end Go.Proofs.Ytmlikchhkblohaa

