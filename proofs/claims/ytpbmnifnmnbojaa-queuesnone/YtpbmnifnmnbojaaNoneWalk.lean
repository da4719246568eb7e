/- 'QueuesNone' walked: a queue that is not there, or that no call made, answers nothing. -/
import Derived.Test.YtpbmnifnmnbojaaTop
namespace Go.Proofs.Ytpbmnifnmnbojaa
open Go Go.RowKit
set_option maxRecDepth 100000
set_option linter.unusedVariables false
/-- what the list holds -/
structure Nones (s : Nat) (w : World) : Prop where
  c0 : w.cell? ⟨s + 1, 0, none⟩ = some (.pointer none)
  c1 : w.cell? ⟨s + 1, 1, none⟩ = some (.pointer (some ⟨s, 0, none⟩))
  c2 : w.cell? ⟨s, 66, none⟩ = some (.int .i64 0)
theorem zc_last (n : Int) : (zc n)[66]? = some (.int .i64 n) := by
  unfold zc
  rw [List.getElem?_toArray, show 66 = 64 + 2 from rfl, qc_far (by simp)]
  rfl
set_option maxHeartbeats 2000000 in
theorem none_any (n : Int) (w : World) : Calls Try.prog 3 #[.int .u32 n] w fun e w' => e = .returned (.bool true) ∧ Below w.heap.size w w' := by
  have hA := alloc_at w (.cells (zc 0) 28)
  have hb0 := alloc_below w (.cells (zc 0) 28)
  have hs0 := alloc_size w (.cells (zc 0) 28)
  have z1 := zval
  have z2 := zc_ne 0
  go_enter Try.func3, Try.ntmps3
  go_wp2
  generalize w.alloc (.cells (zc 0) 28) = wa at *
  have hA2 := alloc_at wa (.cells #[.pointer none, .pointer (some ⟨w.heap.size, 0, none⟩)] 23)
  have hb1 := alloc_below wa (.cells #[.pointer none, .pointer (some ⟨w.heap.size, 0, none⟩)] 23)
  have hT : Nones w.heap.size (wa.alloc (.cells #[.pointer none, .pointer (some ⟨w.heap.size, 0, none⟩)] 23)) := by
    have hc := (hb1.block w.heap.size (by omega)).trans hA
    rw [hs0] at hA2
    exact ⟨by rw [cell_of hA2]; rfl, by rw [cell_of hA2]; rfl, by rw [cell_of hc]; exact zc_last 0⟩
  have hB0 : Below w.heap.size w (wa.alloc (.cells #[.pointer none, .pointer (some ⟨w.heap.size, 0, none⟩)] 23)) := hb0.trans (hb1.mono hb0.size)
  clear hA hb0 hA2 hb1
  generalize wa.alloc (.cells #[.pointer none, .pointer (some ⟨w.heap.size, 0, none⟩)] 23) = wb at *
  have c0 := hT.c0
  have c1 := hT.c1
  have c2 := hT.c2
  go_loopg [4] 2 (fun g s4 wx => ∃ i : Nat, i + g = 2 ∧ s4 = .int .i64 i ∧ wb = wx)
  case atStart => exact ⟨0, by omega, rfl, rfl⟩
  case round =>
    obtain ⟨i, hig, rfl, rfl⟩ := hrel
    match gk, hig with
    | 0, hig =>
      obtain rfl : i = 2 := by omega
      go_wp2
      go_ret
      exact ⟨rfl, hB0⟩
    | 1, hig =>
      obtain rfl : i = 1 := by omega
      go_wp2_with (first
        | (go_at_call 8; refine (take_zero c2).mono ?_; rintro e wx ⟨rfl, rfl⟩)
        | (go_at_call 9; refine (peek_zero c2).mono ?_; rintro e wx ⟨rfl, rfl⟩)
        | (go_at_call 10; refine (put_zero c2 _).mono ?_; rintro e wx ⟨rfl, rfl⟩)
        | (go_at_call 11; refine (push_zero c2 _).mono ?_; rintro e wx ⟨rfl, rfl⟩)
        | (go_at_call 12; refine (list_zero c2).mono ?_; rintro e wx ⟨rfl, rfl⟩))
      go_roundg 0
      case measure => omega
      case rel => exact ⟨2, by omega, rfl, rfl⟩
    | 2, hig =>
      obtain rfl : i = 0 := by omega
      go_wp2_with (first
        | (go_at_call 8; refine (take_nil).mono ?_; rintro e wx ⟨rfl, rfl⟩)
        | (go_at_call 9; refine (peek_nil).mono ?_; rintro e wx ⟨rfl, rfl⟩)
        | (go_at_call 10; refine (put_nil _).mono ?_; rintro e wx ⟨rfl, rfl⟩)
        | (go_at_call 11; refine (push_nil _).mono ?_; rintro e wx ⟨rfl, rfl⟩)
        | (go_at_call 12; refine (list_nil).mono ?_; rintro e wx ⟨rfl, rfl⟩))
      go_roundg 1
      case measure => omega
      case rel => exact ⟨1, by omega, rfl, rfl⟩
    | g + 3, hig => omega
end Go.Proofs.Ytpbmnifnmnbojaa
