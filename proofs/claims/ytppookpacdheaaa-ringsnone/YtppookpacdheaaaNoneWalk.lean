/- 'RingsNone' walked: a ring that is not there, or that no call made, answers nothing. -/
import Derived.Test.YtppookpacdheaaaTop
namespace Go.Proofs.Ytppookpacdheaaa
open Go Go.RowKit
set_option maxRecDepth 100000
set_option linter.unusedVariables false
theorem put_nil {w : World} (z : Int) : Calls Try.prog 9 #[.pointer none, .int .i64 z] w fun e w' => e = .returned (.int .i64 2) ∧ w' = w := by
  go_enter Try.func9, Try.ntmps9
  go_wp2_with (go_at_call 21; refine (mayAdd_nil z).mono ?_; rintro e wx ⟨rfl, rfl⟩)
  go_ret
  exact ⟨rfl, rfl⟩
theorem put_zero {w : World} {p : Nat} (h0 : w.cell? ⟨p, 0, none⟩ = some (.slice none 0 0)) (z : Int) : Calls Try.prog 9 #[.pointer (some ⟨p, 0, none⟩), .int .i64 z] w fun e w' => e = .returned (.int .i64 2) ∧ w' = w := by
  go_enter Try.func9, Try.ntmps9
  go_wp2_with (go_at_call 21; refine (mayAdd_zero h0 z).mono ?_; rintro e wx ⟨rfl, rfl⟩)
  go_ret
  exact ⟨rfl, rfl⟩
theorem push_nil {w : World} (z : Int) : Calls Try.prog 10 #[.pointer none, .int .i64 z] w fun e w' => e = .returned (.int .i64 2) ∧ w' = w := by
  go_enter Try.func10, Try.ntmps10
  go_wp2_with (go_at_call 21; refine (mayAdd_nil z).mono ?_; rintro e wx ⟨rfl, rfl⟩)
  go_ret
  exact ⟨rfl, rfl⟩
theorem push_zero {w : World} {p : Nat} (h0 : w.cell? ⟨p, 0, none⟩ = some (.slice none 0 0)) (z : Int) : Calls Try.prog 10 #[.pointer (some ⟨p, 0, none⟩), .int .i64 z] w fun e w' => e = .returned (.int .i64 2) ∧ w' = w := by
  go_enter Try.func10, Try.ntmps10
  go_wp2_with (go_at_call 21; refine (mayAdd_zero h0 z).mono ?_; rintro e wx ⟨rfl, rfl⟩)
  go_ret
  exact ⟨rfl, rfl⟩
theorem take_nil {w : World} : Calls Try.prog 8 #[.pointer none] w fun e w' => e = .returned (.tuple #[.int .i64 0, .int .i64 2]) ∧ w' = w := by
  go_enter Try.func8, Try.ntmps8
  go_wp2_with (go_at_call 19; refine (hasSome_nil).mono ?_; rintro e wx ⟨rfl, rfl⟩)
  go_ret2
  exact ⟨rfl, rfl⟩
theorem take_zero {w : World} {p : Nat} (h0 : w.cell? ⟨p, 0, none⟩ = some (.slice none 0 0)) : Calls Try.prog 8 #[.pointer (some ⟨p, 0, none⟩)] w fun e w' => e = .returned (.tuple #[.int .i64 0, .int .i64 2]) ∧ w' = w := by
  go_enter Try.func8, Try.ntmps8
  go_wp2_with (go_at_call 19; refine (hasSome_zero h0).mono ?_; rintro e wx ⟨rfl, rfl⟩)
  go_ret2
  exact ⟨rfl, rfl⟩
theorem remove_nil {w : World} (z : Int) : Calls Try.prog 11 #[.pointer none, .int .i64 z] w fun e w' => e = .returned (.int .i64 2) ∧ w' = w := by
  go_enter Try.func11, Try.ntmps11
  go_wp2_with (go_at_call 24; refine (there_nil).mono ?_; rintro e wx ⟨rfl, rfl⟩)
  go_ret
  exact ⟨rfl, rfl⟩
theorem remove_zero {w : World} {p : Nat} (h0 : w.cell? ⟨p, 0, none⟩ = some (.slice none 0 0)) (z : Int) : Calls Try.prog 11 #[.pointer (some ⟨p, 0, none⟩), .int .i64 z] w fun e w' => e = .returned (.int .i64 2) ∧ w' = w := by
  go_enter Try.func11, Try.ntmps11
  go_wp2_with (go_at_call 24; refine (there_zero h0).mono ?_; rintro e wx ⟨rfl, rfl⟩)
  go_ret
  exact ⟨rfl, rfl⟩
theorem turn_nil {w : World} : Calls Try.prog 12 #[.pointer none] w fun e w' => e = .returned (.int .i64 2) ∧ w' = w := by
  go_enter Try.func12, Try.ntmps12
  go_wp2_with (go_at_call 19; refine (hasSome_nil).mono ?_; rintro e wx ⟨rfl, rfl⟩)
  go_ret
  exact ⟨rfl, rfl⟩
theorem turn_zero {w : World} {p : Nat} (h0 : w.cell? ⟨p, 0, none⟩ = some (.slice none 0 0)) : Calls Try.prog 12 #[.pointer (some ⟨p, 0, none⟩)] w fun e w' => e = .returned (.int .i64 2) ∧ w' = w := by
  go_enter Try.func12, Try.ntmps12
  go_wp2_with (go_at_call 19; refine (hasSome_zero h0).mono ?_; rintro e wx ⟨rfl, rfl⟩)
  go_ret
  exact ⟨rfl, rfl⟩
theorem list_nil {w : World} : Calls Try.prog 13 #[.pointer none] w fun e w' => e = .returned (.slice none 0 0) ∧ w' = w := by
  go_enter Try.func13, Try.ntmps13
  go_wp2_with (go_at_call 24; refine (there_nil).mono ?_; rintro e wx ⟨rfl, rfl⟩)
  go_ret
  exact ⟨rfl, rfl⟩
theorem list_zero {w : World} {p : Nat} (h0 : w.cell? ⟨p, 0, none⟩ = some (.slice none 0 0)) : Calls Try.prog 13 #[.pointer (some ⟨p, 0, none⟩)] w fun e w' => e = .returned (.slice none 0 0) ∧ w' = w := by
  go_enter Try.func13, Try.ntmps13
  go_wp2_with (go_at_call 24; refine (there_zero h0).mono ?_; rintro e wx ⟨rfl, rfl⟩)
  go_ret
  exact ⟨rfl, rfl⟩
/-- what the list holds -/
structure Nones (s : Nat) (w : World) : Prop where
  c0 : w.cell? ⟨s + 1, 0, none⟩ = some (.pointer none)
  c1 : w.cell? ⟨s + 1, 1, none⟩ = some (.pointer (some ⟨s, 0, none⟩))
  c2 : w.cell? ⟨s, 0, none⟩ = some (.slice none 0 0)
set_option maxHeartbeats 2000000 in
theorem none_any (n : Int) (w : World) : Calls Try.prog 3 #[.int .i64 n] w fun e w' => e = .returned (.bool true) ∧ Below w.heap.size w w' := by
  have hA := alloc_at w (.cells #[.slice none 0 0, .int .i64 0, .int .i64 0] 27)
  have hb0 := alloc_below w (.cells #[.slice none 0 0, .int .i64 0, .int .i64 0] 27)
  have hs0 := alloc_size w (.cells #[.slice none 0 0, .int .i64 0, .int .i64 0] 27)
  go_enter Try.func3, Try.ntmps3
  go_wp2
  generalize w.alloc (.cells #[.slice none 0 0, .int .i64 0, .int .i64 0] 27) = wa at *
  have hA2 := alloc_at wa (.cells #[.pointer none, .pointer (some ⟨w.heap.size, 0, none⟩)] 22)
  have hb1 := alloc_below wa (.cells #[.pointer none, .pointer (some ⟨w.heap.size, 0, none⟩)] 22)
  have hT : Nones w.heap.size (wa.alloc (.cells #[.pointer none, .pointer (some ⟨w.heap.size, 0, none⟩)] 22)) := by
    have hc := (hb1.block w.heap.size (by omega)).trans hA
    rw [hs0] at hA2
    exact ⟨by rw [cell_of hA2]; rfl, by rw [cell_of hA2]; rfl, by rw [cell_of hc]; rfl⟩
  have hB0 : Below w.heap.size w (wa.alloc (.cells #[.pointer none, .pointer (some ⟨w.heap.size, 0, none⟩)] 22)) := hb0.trans (hb1.mono hb0.size)
  clear hA hb0 hA2 hb1
  generalize wa.alloc (.cells #[.pointer none, .pointer (some ⟨w.heap.size, 0, none⟩)] 22) = wb at *
  have c0 := hT.c0
  have c1 := hT.c1
  have c2 := hT.c2
  go_loopg [4] 2 (fun g s4 wx => ∃ i : Nat, i + g = 2 ∧ s4 = .int .i64 i ∧ wb = wx)
  case atStart => exact ⟨0, by omega, rfl, rfl⟩
  case round =>
    obtain ⟨i, hig, rfl, rfl⟩ := hrel
    match gk, hig with
    | 0, hig =>
      obtain rfl : i = 2 := by omega
      go_wp2
      go_ret
      exact ⟨rfl, hB0⟩
    | 1, hig =>
      obtain rfl : i = 1 := by omega
      go_wp2_with (first
        | (go_at_call 8; refine (take_zero c2).mono ?_; rintro e wx ⟨rfl, hwx⟩; obtain rfl := hwx.symm)
        | (go_at_call 9; refine (put_zero c2 _).mono ?_; rintro e wx ⟨rfl, hwx⟩; obtain rfl := hwx.symm)
        | (go_at_call 10; refine (push_zero c2 _).mono ?_; rintro e wx ⟨rfl, hwx⟩; obtain rfl := hwx.symm)
        | (go_at_call 11; refine (remove_zero c2 _).mono ?_; rintro e wx ⟨rfl, hwx⟩; obtain rfl := hwx.symm)
        | (go_at_call 12; refine (turn_zero c2).mono ?_; rintro e wx ⟨rfl, hwx⟩; obtain rfl := hwx.symm)
        | (go_at_call 13; refine (list_zero c2).mono ?_; rintro e wx ⟨rfl, hwx⟩; obtain rfl := hwx.symm))
      go_roundg 0
      case measure => omega
      case rel => exact ⟨2, by omega, rfl, rfl⟩
    | 2, hig =>
      obtain rfl : i = 0 := by omega
      go_wp2_with (first
        | (go_at_call 8; refine (take_nil).mono ?_; rintro e wx ⟨rfl, hwx⟩; obtain rfl := hwx.symm)
        | (go_at_call 9; refine (put_nil _).mono ?_; rintro e wx ⟨rfl, hwx⟩; obtain rfl := hwx.symm)
        | (go_at_call 10; refine (push_nil _).mono ?_; rintro e wx ⟨rfl, hwx⟩; obtain rfl := hwx.symm)
        | (go_at_call 11; refine (remove_nil _).mono ?_; rintro e wx ⟨rfl, hwx⟩; obtain rfl := hwx.symm)
        | (go_at_call 12; refine (turn_nil).mono ?_; rintro e wx ⟨rfl, hwx⟩; obtain rfl := hwx.symm)
        | (go_at_call 13; refine (list_nil).mono ?_; rintro e wx ⟨rfl, hwx⟩; obtain rfl := hwx.symm))
      go_roundg 1
      case measure => omega
      case rel => exact ⟨1, by omega, rfl, rfl⟩
    | g + 3, hig => omega
end Go.Proofs.Ytppookpacdheaaa
