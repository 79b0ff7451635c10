import Derived.Test.YtmlikchhkblohaaDa
namespace Go.Proofs.Ytmlikchhkblohaa
open Go Go.RowKit Go.Pan

set_option maxRecDepth 100000 in
set_option maxHeartbeats 1600000 in
theorem walk_FnExactFirstDesk (w : World) :
    Calls Try.prog 3 #[] w fun e w' => e = .returned (.bool true) ∧ Below w.heap.size w w' := by
  go_enter Try.func3, Try.ntmps3
  go_wp2_with fail
  refine (sFirstDesk_any w).mono ?_
  rintro e w1 ⟨r1, rfl, ho1, hf1, hb1⟩
  obtain ⟨a1, c1, rfl, _, _, _⟩ := ho1.shape
  have hA : Blk (w1.alloc (.cells #[.slice none 0 0, .int .i64 0] 24)) w1.heap.size 24 [.slice none 0 0, .int .i64 0] := Blk.new w1 _ [.slice none 0 0, .int .i64 0] _ rfl
  have hBa := hb1.alloc hb1.size (.cells #[.slice none 0 0, .int .i64 0] 24)
  have hoa := ho1.alloc (.cells #[.slice none 0 0, .int .i64 0] 24)
  have hl1 := ho1.lt
  have hs1 := hb1.size
  go_wp2_with (first | (refine wpList_storeS2 rfl 24 _ _ rfl w1.heap.size _ _ rfl rfl 24 _ hA infoDesk rfl ⟨rfl, rfl⟩ ?_; intro w2 hA2 hg2))
  have hB2 := hBa.grown hg2 hBa.size (fun k hk => by cases hk; exact hs1)
  have ho2 := Own.grown hoa hg2 (fun g hg e => by cases e; have := hl1 _ hg; omega)
  have hl2 := hA2.lt
  have hl1' : ∀ g, (Value.slice a1 [3, 1, 2].length c1).ownBlock = some g → g < w2.heap.size := fun g hg => by have := hl1 g hg; omega
  obtain ⟨b1, hb1e⟩ : ∃ b, w1.heap.size = b := ⟨_, rfl⟩
  rw [hb1e] at hA2 hl2 ⊢
  clear hA hBa hoa hg2 ho1 hb1e
  refine (FirstDesk_any w2).mono ?_
  rintro e w3 ⟨r2, rfl, ho3, hf3, hb3⟩
  obtain ⟨a3, c3, rfl, _, _, _⟩ := ho3.shape
  have hA3 := hA2.below hb3 hl2
  have ho1' := Own.same ho2 hb3
  have hB3 := hB2.trans (hb3.mono hB2.size)
  have hl3 := ho3.lt
  have hs2 := hB2.size
  have hs23 := hb3.size
  have hF3 := Lib.hid (show ∀ g, (Value.slice a3 [3, 1, 2].length c3).ownBlock = some g → w2.heap.size ≤ g ∧ g < w3.heap.size from fun g hg => ⟨hf3 g hg, hl3 g hg⟩)
  have HL1 := Lib.hid hl1'
  have hC : Blk (w3.alloc (.cells #[.slice none 0 0, .int .i64 0] 24)) w3.heap.size 24 [.slice none 0 0, .int .i64 0] := Blk.new w3 _ [.slice none 0 0, .int .i64 0] _ rfl
  have hBc := hB3.alloc hB3.size (.cells #[.slice none 0 0, .int .i64 0] 24)
  have hAc := hA3.alloc (.cells #[.slice none 0 0, .int .i64 0] 24)
  have ho1c := ho1'.alloc (.cells #[.slice none 0 0, .int .i64 0] 24)
  have ho3c := ho3.alloc (.cells #[.slice none 0 0, .int .i64 0] 24)
  have hs3 := hB3.size
  have hb13 : b1 < w3.heap.size := hA3.lt
  clear hl1 hl1' hl3 hf3 hA2 ho2 hb3 ho1' ho3 hA3 hf1 hs1
  go_wp2_with (first
    | (refine wpList_storeS2 rfl 24 _ _ rfl w3.heap.size _ _ rfl rfl 24 _ hC infoDesk rfl ⟨rfl, rfl⟩ ?_; intro w4 hC4 hg4; have hA4 := hAc.grown hg4 (by simp; omega))
    | (refine wpList_loadS2 rfl 24 _ rfl w3.heap.size _ _ rfl 24 hC4 Try.underlying24 rfl infoDesk ?_)
    | (refine wpList_loadS2 rfl 24 _ rfl b1 _ _ rfl 24 hA4 Try.underlying24 rfl infoDesk ?_))
  have hB4 := hBc.grown hg4 hBc.size (fun k hk => by cases hk; exact hs3)
  have ho1d := Own.grown ho1c hg4 (fun g hg e => by cases e; have := HL1.out _ hg; omega)
  have ho3d := Own.grown ho3c hg4 (fun g hg e => by cases e; have := (hF3.out _ hg).2; omega)
  have hl4 := hC4.lt
  obtain ⟨b2, hb2e⟩ : ∃ b, w3.heap.size = b := ⟨_, rfl⟩
  rw [hb2e] at hC4 hl4 hs23 hb13 hF3 ⊢
  clear hC hBc hAc ho1c ho3c hg4 hb2e
  refine (eqDesk_same _ _ [3, 1, 2] 0 w4 (OwnI.ints ho3d) (OwnI.ints ho1d) (by simp)).mono ?_
  rintro e w5 ⟨rfl, hb5⟩
  have hB5 := hB4.trans (hb5.mono hB4.size)
  have hA5 := hA4.below hb5 hA4.lt
  have hC5 := hC4.below hb5 hC4.lt
  have ho1e := Own.same ho1d hb5
  have ho3e := Own.same ho3d hb5
  have hs5 : b2 < w5.heap.size := hC5.lt
  clear hA4 hC4 ho1d ho3d hb5
  go_wp2_with (first
    | (refine wpList_loadS2 rfl 24 _ rfl b2 _ _ rfl 24 hC5 Try.underlying24 rfl infoDesk ?_))
  refine (markDesk_any _ 3 _ 1 0 w5 ho3e (by omega) (by omega) (by omega)).mono ?_
  rintro e w6 ⟨rfl, ho3f, hg6⟩
  have hB6 := hB5.grown hg6 hB5.size (fun k hk => by have := (hF3.out k hk).1; omega)
  have ho1f := Own.grown ho1e hg6 (fun g hg e => by have h1 := HL1.out g hg; have h2 := (hF3.out g e).1; omega)
  have hA6 := hA5.grown hg6 (fun e => by have h2 := (hF3.out _ e).1; omega)
  have hC6 := hC5.grown hg6 (fun e => by have h2 := (hF3.out _ e).2; omega)
  clear ho3e ho1e hA5 hC5 hg6
  go_wp2_with (first
    | (refine wpList_loadS2 rfl 24 _ rfl b2 _ _ rfl 24 hC6 Try.underlying24 rfl infoDesk ?_))
  refine (heldDesk_any _ 3 1 0 w6 ho3f (by omega) (by omega) (by omega)).mono ?_
  rintro e w7 ⟨rfl, hb7⟩
  have hB7 := hB6.trans (hb7.mono hB6.size)
  have ho1g := Own.same ho1f hb7
  have ho3g := Own.same ho3f hb7
  have hA7 := hA6.below hb7 hA6.lt
  have hC7 := hC6.below hb7 hC6.lt
  clear ho1f ho3f hA6 hC6 hb7
  go_wp2_with fail
  refine (FirstDesk_any w7).mono ?_
  rintro e w8 ⟨r8, rfl, ho8, hf8, hb8⟩
  obtain ⟨a8, c8, rfl, _, _, _⟩ := ho8.shape
  have hB8 := hB7.trans (hb8.mono hB7.size)
  have ho1h := Own.same ho1g hb8
  have ho3h := Own.same ho3g hb8
  have hA8 := hA7.below hb8 hA7.lt
  have hC8 := hC7.below hb8 hC7.lt
  have hl8 := Lib.hid ho8.lt
  have hl1h := Lib.hid ho1h.lt
  have hl3h := Lib.hid ho3h.lt
  have hE : Blk (w8.alloc (.cells #[.slice none 0 0, .int .i64 0] 24)) w8.heap.size 24 [.slice none 0 0, .int .i64 0] := Blk.new w8 _ [.slice none 0 0, .int .i64 0] _ rfl
  have hBe := hB8.alloc hB8.size (.cells #[.slice none 0 0, .int .i64 0] 24)
  have hAe := hA8.alloc (.cells #[.slice none 0 0, .int .i64 0] 24)
  have hCe := hC8.alloc (.cells #[.slice none 0 0, .int .i64 0] 24)
  have ho1i := ho1h.alloc (.cells #[.slice none 0 0, .int .i64 0] 24)
  have ho3i := ho3h.alloc (.cells #[.slice none 0 0, .int .i64 0] 24)
  have ho8i := ho8.alloc (.cells #[.slice none 0 0, .int .i64 0] 24)
  have hs8 := hB8.size
  have hA8l := hA8.lt
  have hC8l := hC8.lt
  clear ho1g ho3g hA7 hC7 hb8 ho1h ho3h hA8 hC8 ho8 hf8
  go_wp2_with (first
    | (refine wpList_storeS2 rfl 24 _ _ rfl w8.heap.size _ _ rfl rfl 24 _ hE infoDesk rfl ⟨rfl, rfl⟩ ?_; intro w9 hE9 hg9; have hA9 := hAe.grown hg9 (by simp; omega))
    | (refine wpList_loadS2 rfl 24 _ rfl w8.heap.size _ _ rfl 24 hE9 Try.underlying24 rfl infoDesk ?_)
    | (refine wpList_loadS2 rfl 24 _ rfl b1 _ _ rfl 24 hA9 Try.underlying24 rfl infoDesk ?_))
  have hB9 := hBe.grown hg9 hBe.size (fun k hk => by cases hk; exact hs8)
  have hC9 := hCe.grown hg9 (by simp; omega)
  have ho1j := Own.grown ho1i hg9 (fun g hg e => by cases e; have := hl1h.out _ hg; omega)
  have ho3j := Own.grown ho3i hg9 (fun g hg e => by cases e; have := hl3h.out _ hg; omega)
  have ho8j := Own.grown ho8i hg9 (fun g hg e => by cases e; have := hl8.out _ hg; omega)
  clear hE hBe hAe hCe ho1i ho3i ho8i hg9
  refine (eqDesk_same _ _ [3, 1, 2] 0 w9 (OwnI.ints ho8j) (OwnI.ints ho1j) (by simp)).mono ?_
  rintro e w10 ⟨rfl, hb10⟩
  have hB10 := hB9.trans (hb10.mono hB9.size)
  have hC10 := hC9.below hb10 hC9.lt
  have ho3k := Own.same ho3j hb10
  clear ho1j ho3j ho8j hC9 hE9 hA9 hb10
  go_wp2_with (first
    | (refine wpList_loadS2 rfl 24 _ rfl b2 _ _ rfl 24 hC10 Try.underlying24 rfl infoDesk ?_))
  refine (heldDesk_any _ 3 1 0 w10 ho3k (by omega) (by omega) (by omega)).mono ?_
  rintro e w11 ⟨rfl, hb11⟩
  have hB11 := hB10.trans (hb11.mono hB10.size)
  go_wp2
  go_ret
  exact ⟨rfl, hB11⟩

end Go.Proofs.Ytmlikchhkblohaa

