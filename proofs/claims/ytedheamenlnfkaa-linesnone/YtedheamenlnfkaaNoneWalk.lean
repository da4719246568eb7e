/- 'LinesNone' walked: lines that are not there, or that no call made, answer nothing. -/
import Derived.Test.YtedheamenlnfkaaTop
namespace Go.Proofs.Ytedheamenlnfkaa
open Go Go.RowKit
set_option maxRecDepth 100000
set_option linter.unusedVariables false
/-- what the list holds -/
structure Nones (s : Nat) (w : World) : Prop where
  c0 : w.cell? ⟨s + 1, 0, none⟩ = some (.pointer none)
  c1 : w.cell? ⟨s + 1, 1, none⟩ = some (.pointer (some ⟨s, 0, none⟩))
  c2 : w.cell? ⟨s, 0, none⟩ = some (.bool false)
set_option maxHeartbeats 2000000 in
theorem none_any (r : Int) (on : Bool) (w : World) : Calls Try.prog 4 #[.int .i64 r, .bool on] w fun e w' => e = .returned (.bool true) ∧ Below w.heap.size w w' := by
  have hA := alloc_at w (.cells #[.bool false, .int .u8 0, .int .u8 0] 40)
  have hb0 := alloc_below w (.cells #[.bool false, .int .u8 0, .int .u8 0] 40)
  have hs0 := alloc_size w (.cells #[.bool false, .int .u8 0, .int .u8 0] 40)
  go_enter Try.func4, Try.ntmps4
  go_wp2
  generalize w.alloc (.cells #[.bool false, .int .u8 0, .int .u8 0] 40) = wa at *
  have hA2 := alloc_at wa (.cells #[.pointer none, .pointer (some ⟨w.heap.size, 0, none⟩)] 23)
  have hb1 := alloc_below wa (.cells #[.pointer none, .pointer (some ⟨w.heap.size, 0, none⟩)] 23)
  have hT : Nones w.heap.size (wa.alloc (.cells #[.pointer none, .pointer (some ⟨w.heap.size, 0, none⟩)] 23)) := by
    have hc := (hb1.block w.heap.size (by omega)).trans hA
    rw [hs0] at hA2
    exact ⟨by rw [cell_of hA2]; rfl, by rw [cell_of hA2]; rfl, by rw [cell_of hc]; rfl⟩
  have hB0 : Below w.heap.size w (wa.alloc (.cells #[.pointer none, .pointer (some ⟨w.heap.size, 0, none⟩)] 23)) := hb0.trans (hb1.mono hb0.size)
  clear hA hb0 hA2 hb1
  generalize wa.alloc (.cells #[.pointer none, .pointer (some ⟨w.heap.size, 0, none⟩)] 23) = wb at *
  have c0 := hT.c0
  have c1 := hT.c1
  have c2 := hT.c2
  go_loopg [6] 2 (fun g s6 wx => ∃ i : Nat, i + g = 2 ∧ s6 = .int .i64 i ∧ wb = wx)
  case atStart => exact ⟨0, by omega, rfl, rfl⟩
  case round =>
    obtain ⟨i, hig, rfl, rfl⟩ := hrel
    match gk, hig with
    | 0, hig =>
      obtain rfl : i = 2 := by omega
      go_wp2
      go_ret
      exact ⟨rfl, hB0⟩
    | 1, hig =>
      obtain rfl : i = 1 := by omega
      go_wp2_with (first
        | (go_at_call 14; refine (next_zero c2).mono ?_; rintro e wx ⟨rfl, hwx⟩; obtain rfl := hwx.symm)
        | (go_at_call 10; refine (raise_zero c2 _).mono ?_; rintro e wx ⟨rfl, hwx⟩; obtain rfl := hwx.symm)
        | (go_at_call 12; refine (mask_zero c2 _ _).mono ?_; rintro e wx ⟨rfl, hwx⟩; obtain rfl := hwx.symm)
        | (go_at_call 16; refine (calls_zero c2).mono ?_; rintro e wx ⟨rfl, hwx⟩; obtain rfl := hwx.symm)
        | (go_at_call 18; refine (masks_zero c2).mono ?_; rintro e wx ⟨rfl, hwx⟩; obtain rfl := hwx.symm))
      go_roundg 0
      case measure => omega
      case rel => exact ⟨2, by omega, rfl, rfl⟩
    | 2, hig =>
      obtain rfl : i = 0 := by omega
      go_wp2_with (first
        | (go_at_call 14; refine (next_nil).mono ?_; rintro e wx ⟨rfl, hwx⟩; obtain rfl := hwx.symm)
        | (go_at_call 10; refine (raise_nil _).mono ?_; rintro e wx ⟨rfl, hwx⟩; obtain rfl := hwx.symm)
        | (go_at_call 12; refine (mask_nil _ _).mono ?_; rintro e wx ⟨rfl, hwx⟩; obtain rfl := hwx.symm)
        | (go_at_call 16; refine (calls_nil).mono ?_; rintro e wx ⟨rfl, hwx⟩; obtain rfl := hwx.symm)
        | (go_at_call 18; refine (masks_nil).mono ?_; rintro e wx ⟨rfl, hwx⟩; obtain rfl := hwx.symm))
      go_roundg 1
      case measure => omega
      case rel => exact ⟨1, by omega, rfl, rfl⟩
    | g + 3, hig => omega
end Go.Proofs.Ytedheamenlnfkaa
