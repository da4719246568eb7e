/- The statements' own examples hold: 'alive' returns true, and what it makes in memory is new. -/
import Derived.Test.YthglgpiaffgnfaaSame
namespace Go.Proofs.Ythglgpiaffgnfaa
open Go Go.RowKit
set_option maxRecDepth 100000
set_option linter.unusedVariables false
theorem src5 (w : World) : Src (w.alloc (.cells #[.int .u8 1, .int .u8 2, .int .u8 3, .int .u8 4, .int .u8 5] 5)).heap.size (w.alloc (.cells #[.int .u8 1, .int .u8 2, .int .u8 3, .int .u8 4, .int .u8 5] 5)) (some ⟨w.heap.size, 0, none⟩) [1, 2, 3, 4, 5] :=
  Src.row (n := 0) (alloc_at w _) (by unfold isB; decide)
theorem src6 (w : World) : Src (w.alloc (.cells #[.int .u8 1, .int .u8 10, .int .u8 11, .int .u8 12, .int .u8 13, .int .u8 0] 5)).heap.size (w.alloc (.cells #[.int .u8 1, .int .u8 10, .int .u8 11, .int .u8 12, .int .u8 13, .int .u8 0] 5)) (some ⟨w.heap.size, 0, none⟩) [1, 10, 11, 12, 13, 0] :=
  Src.row (n := 0) (alloc_at w _) (by unfold isB; decide)
theorem new_six (w : World) :
    Calls Try.prog 14 #[.int .i64 6, .slice (some ⟨w.heap.size, 0, none⟩) 5 5] (w.alloc (.cells #[.int .u8 1, .int .u8 2, .int .u8 3, .int .u8 4, .int .u8 5] 5)) fun e w' => ∃ p g, e = .returned (.tuple #[.pointer (some ⟨p, 0, none⟩), .int .i64 0]) ∧ Reg w' p g [1, 2, 3, 4, 5, 0] ∧ Below w.heap.size w w' ∧ w.heap.size ≤ g ∧ g < p :=
  (new_yes (src5 w) (Nat.le_refl _) 5 6 (by omega) (by decide)).mono fun e w' ⟨p, g, he, hr, hb, hg, hp⟩ => ⟨p, g, he, hr, (alloc_below w _).trans (hb.mono (by rw [alloc_size]; omega)), by rw [alloc_size] at hg; omega, hp⟩
theorem word_two {w : World} {p g : Nat} (h : Reg w p g [1, 2, 3, 4, 5, 0]) :
    Calls Try.prog 8 #[.pointer (some ⟨p, 0, none⟩), .int .u32 2] w fun e w' => e = .returned (.tuple #[.int .u32 50595072, .int .i64 0]) ∧ w' = w := word_yes h 2 (by decide)
theorem setWord_one {w : World} {p g : Nat} (h : Reg w p g [1, 2, 3, 4, 5, 0]) :
    Calls Try.prog 10 #[.pointer (some ⟨p, 0, none⟩), .int .u32 1, .int .u32 168496141] w fun e w' => e = .returned (.int .i64 0) ∧ Reg w' p g [1, 10, 11, 12, 13, 0] ∧ But g w w' := setWord_yes h 1 (by decide) _ (by omega)
theorem same_six (w : World) {g : Nat} (h : Row w g [1, 10, 11, 12, 13, 0]) :
    Calls Try.prog 15 #[.slice (some ⟨g, 0, none⟩) 6 6, .slice (some ⟨w.heap.size, 0, none⟩) 6 6] (w.alloc (.cells #[.int .u8 1, .int .u8 10, .int .u8 11, .int .u8 12, .int .u8 13, .int .u8 0] 5)) fun e w' => e = .returned (.bool true) ∧ Below w.heap.size w w' :=
  (same_yes (zs := [1, 10, 11, 12, 13, 0]) (Src.row (n := 0) (((alloc_below w _).block g h.lt).trans h) (by unfold isB; decide)) (src6 w) (by decide) 6 6).mono fun e w' ⟨he, hb⟩ => ⟨he, (alloc_below w _).trans (hb.mono (by rw [alloc_size]; omega))⟩
set_option maxHeartbeats 1000000 in
theorem alive_any (w : World) : Calls Try.prog 13 #[] w fun e w' => e = .returned (.bool true) ∧ Below w.heap.size w w' := by
  go_enter Try.func13, Try.ntmps13
  go_wp2_with (first
    | (go_at_call_of 14 (Value.int IntKind.i64 6); refine (new_six _).mono ?_; rintro e w1 ⟨p, g, rfl, hR, hB, hg, hp⟩)
    | (go_at_call_of 14 (Value.int IntKind.i64 4097); refine (new_no 0 0 4097 (by omega) (by omega)).mono ?_; rintro e wx ⟨rfl, rfl⟩)
    | (go_at_call_of 14 (Value.int IntKind.i64 1); refine (new_no 2 2 1 (by omega) (by omega)).mono ?_; rintro e wx ⟨rfl, rfl⟩; replace hR := hR.below (alloc_below _ (.cells #[.int .u8 1, .int .u8 2] 5)); replace hB := hB.trans ((alloc_below _ (.cells #[.int .u8 1, .int .u8 2] 5)).mono hB.size))
    | (go_at_call_of 8 (Value.int IntKind.u32 2); refine (word_two hR).mono ?_; rintro e wx ⟨rfl, rfl⟩)
    | (go_at_call_of 8 (Value.int IntKind.u32 3); refine (word_no hR 3 (by omega) (by decide)).mono ?_; rintro e wx ⟨rfl, rfl⟩)
    | (go_at_call_of 8 (Value.int IntKind.u32 4294967294); refine (word_no hR 4294967294 (by omega) (by decide)).mono ?_; rintro e wx ⟨rfl, rfl⟩)
    | (go_at_call 9; refine (byte_no hR 6 (by omega) (by decide)).mono ?_; rintro e wx ⟨rfl, rfl⟩)
    | (go_at_call 10; refine (setWord_one hR).mono ?_; rintro e w2 ⟨rfl, hR2, hb2⟩; replace hB := hB.trans (hb2.below hg hB.size); clear hb2 hR)
    | (go_at_call 12; refine (bytes_any hR2).mono ?_; rintro e w3 ⟨rfl, hr3, hb3⟩; replace hB := hB.trans (hb3.mono hB.size); replace hR2 := hR2.below hb3; clear hb3)
    | (go_at_call 15; refine (same_six _ hr3).mono ?_; rintro e w4 ⟨rfl, hb4⟩; replace hB := hB.trans (hb4.mono hB.size); replace hR2 := hR2.below hb4; clear hb4)
    | (go_at_call 11; refine (setByte_no hR2 6 (by omega) (by decide) 1).mono ?_; rintro e wx ⟨rfl, rfl⟩)
    | (go_at_call 14; refine (new_no 0 0 _ (by omega) (by omega)).mono ?_; rintro e wx ⟨rfl, rfl⟩))
  go_ret
  exact ⟨rfl, hB⟩
end Go.Proofs.Ythglgpiaffgnfaa
