/- 'DeltasNone' walked: a list that is not there, or that no call made, answers nothing. -/
import Derived.Test.YtdifgjioaikchaaTop
namespace Go.Proofs.Ytdifgjioaikchaa
open Go Go.RowKit
set_option maxRecDepth 100000
set_option linter.unusedVariables false
set_option linter.unusedSimpArgs false
theorem there_nil {w : World} : Calls Try.prog 21 #[.pointer none] w fun e w' => e = .returned (.bool false) ∧ w = w' := by
  go_enter Try.func21, Try.ntmps21
  go_wp2
  go_ret
  exact ⟨rfl, rfl⟩
theorem there_zero {w : World} {p : Nat} (h0 : w.cell? ⟨p, 0, none⟩ = some (.bool false)) : Calls Try.prog 21 #[.pointer (some ⟨p, 0, none⟩)] w fun e w' => e = .returned (.bool false) ∧ w = w' := by
  go_enter Try.func21, Try.ntmps21
  go_wp2
  go_ret
  exact ⟨rfl, rfl⟩
theorem lfind_nil {w : World} (who : Int) : Calls Try.prog 17 #[.pointer none, .int .i64 who] w fun e w' => e = .returned (.tuple #[.int .i64 0, .int .i64 0, .int .i64 2]) ∧ w = w' := by
  go_enter Try.func17, Try.ntmps17
  go_wp2_with (go_at_call 21; refine (there_nil).mono ?_; rintro e wx ⟨rfl, rfl⟩)
  refine bodyPost_ret (results_tmp3 rfl _ _ _) rfl ?_
  exact ⟨rfl, rfl⟩
theorem lfind_zero {w : World} {p : Nat} (h0 : w.cell? ⟨p, 0, none⟩ = some (.bool false)) (who : Int) : Calls Try.prog 17 #[.pointer (some ⟨p, 0, none⟩), .int .i64 who] w fun e w' => e = .returned (.tuple #[.int .i64 0, .int .i64 0, .int .i64 2]) ∧ w = w' := by
  go_enter Try.func17, Try.ntmps17
  go_wp2_with (go_at_call 21; refine (there_zero h0).mono ?_; rintro e wx ⟨rfl, rfl⟩)
  refine bodyPost_ret (results_tmp3 rfl _ _ _) rfl ?_
  exact ⟨rfl, rfl⟩
theorem mayPut_nil {w : World} (who t : Int) : Calls Try.prog 18 #[.pointer none, .int .i64 who, .int .i64 t] w fun e w' => e = .returned (.int .i64 2) ∧ w = w' := by
  go_enter Try.func18, Try.ntmps18
  go_wp2_with (go_at_call 21; refine (there_nil).mono ?_; rintro e wx ⟨rfl, rfl⟩)
  go_ret
  exact ⟨rfl, rfl⟩
theorem mayPut_zero {w : World} {p : Nat} (h0 : w.cell? ⟨p, 0, none⟩ = some (.bool false)) (who t : Int) : Calls Try.prog 18 #[.pointer (some ⟨p, 0, none⟩), .int .i64 who, .int .i64 t] w fun e w' => e = .returned (.int .i64 2) ∧ w = w' := by
  go_enter Try.func18, Try.ntmps18
  go_wp2_with (go_at_call 21; refine (there_zero h0).mono ?_; rintro e wx ⟨rfl, rfl⟩)
  go_ret
  exact ⟨rfl, rfl⟩
theorem Left_nil {w : World} (who : Int) : Calls Try.prog 8 #[.pointer none, .int .i64 who] w fun e w' => e = .returned (.tuple #[.int .i64 0, .int .i64 2]) ∧ w = w' := by
  go_enter Try.func8, Try.ntmps8
  go_wp2_with (go_at_call 17; refine (lfind_nil  who).mono ?_; rintro e wx ⟨rfl, rfl⟩)
  go_ret2
  exact ⟨rfl, rfl⟩
theorem Left_zero {w : World} {p : Nat} (h0 : w.cell? ⟨p, 0, none⟩ = some (.bool false)) (who : Int) : Calls Try.prog 8 #[.pointer (some ⟨p, 0, none⟩), .int .i64 who] w fun e w' => e = .returned (.tuple #[.int .i64 0, .int .i64 2]) ∧ w = w' := by
  go_enter Try.func8, Try.ntmps8
  go_wp2_with (go_at_call 17; refine (lfind_zero h0 who).mono ?_; rintro e wx ⟨rfl, rfl⟩)
  go_ret2
  exact ⟨rfl, rfl⟩
theorem Put_nil {w : World} (who t : Int) : Calls Try.prog 9 #[.pointer none, .int .i64 who, .int .i64 t] w fun e w' => e = .returned (.int .i64 2) ∧ w = w' := by
  go_enter Try.func9, Try.ntmps9
  go_wp2_with (go_at_call 18; refine (mayPut_nil  who t).mono ?_; rintro e wx ⟨rfl, rfl⟩)
  go_ret
  exact ⟨rfl, rfl⟩
theorem Put_zero {w : World} {p : Nat} (h0 : w.cell? ⟨p, 0, none⟩ = some (.bool false)) (who t : Int) : Calls Try.prog 9 #[.pointer (some ⟨p, 0, none⟩), .int .i64 who, .int .i64 t] w fun e w' => e = .returned (.int .i64 2) ∧ w = w' := by
  go_enter Try.func9, Try.ntmps9
  go_wp2_with (go_at_call 18; refine (mayPut_zero h0 who t).mono ?_; rintro e wx ⟨rfl, rfl⟩)
  go_ret
  exact ⟨rfl, rfl⟩
theorem Remove_nil {w : World} (who : Int) : Calls Try.prog 10 #[.pointer none, .int .i64 who] w fun e w' => e = .returned (.int .i64 2) ∧ w = w' := by
  go_enter Try.func10, Try.ntmps10
  go_wp2_with (go_at_call 17; refine (lfind_nil  who).mono ?_; rintro e wx ⟨rfl, rfl⟩)
  go_ret
  exact ⟨rfl, rfl⟩
theorem Remove_zero {w : World} {p : Nat} (h0 : w.cell? ⟨p, 0, none⟩ = some (.bool false)) (who : Int) : Calls Try.prog 10 #[.pointer (some ⟨p, 0, none⟩), .int .i64 who] w fun e w' => e = .returned (.int .i64 2) ∧ w = w' := by
  go_enter Try.func10, Try.ntmps10
  go_wp2_with (go_at_call 17; refine (lfind_zero h0 who).mono ?_; rintro e wx ⟨rfl, rfl⟩)
  go_ret
  exact ⟨rfl, rfl⟩
theorem Tick_nil {w : World}  : Calls Try.prog 11 #[.pointer none] w fun e w' => e = .returned (.slice none 0 0) ∧ w = w' := by
  go_enter Try.func11, Try.ntmps11
  go_wp2_with (go_at_call 21; refine (there_nil ).mono ?_; rintro e wx ⟨rfl, rfl⟩)
  go_ret
  exact ⟨rfl, rfl⟩
theorem Tick_zero {w : World} {p : Nat} (h0 : w.cell? ⟨p, 0, none⟩ = some (.bool false))  : Calls Try.prog 11 #[.pointer (some ⟨p, 0, none⟩)] w fun e w' => e = .returned (.slice none 0 0) ∧ w = w' := by
  go_enter Try.func11, Try.ntmps11
  go_wp2_with (go_at_call 21; refine (there_zero h0).mono ?_; rintro e wx ⟨rfl, rfl⟩)
  go_ret
  exact ⟨rfl, rfl⟩
theorem All_nil {w : World}  : Calls Try.prog 12 #[.pointer none] w fun e w' => e = .returned (.slice none 0 0) ∧ w = w' := by
  go_enter Try.func12, Try.ntmps12
  go_wp2_with (go_at_call 21; refine (there_nil ).mono ?_; rintro e wx ⟨rfl, rfl⟩)
  go_ret
  exact ⟨rfl, rfl⟩
theorem All_zero {w : World} {p : Nat} (h0 : w.cell? ⟨p, 0, none⟩ = some (.bool false))  : Calls Try.prog 12 #[.pointer (some ⟨p, 0, none⟩)] w fun e w' => e = .returned (.slice none 0 0) ∧ w = w' := by
  go_enter Try.func12, Try.ntmps12
  go_wp2_with (go_at_call 21; refine (there_zero h0).mono ?_; rintro e wx ⟨rfl, rfl⟩)
  go_ret
  exact ⟨rfl, rfl⟩
/-- what the two hold -/
structure Nones (s : Nat) (w : World) : Prop where
  c0 : w.cell? ⟨s + 1, 0, none⟩ = some (.pointer none)
  c1 : w.cell? ⟨s + 1, 1, none⟩ = some (.pointer (some ⟨s, 0, none⟩))
  c2 : w.cell? ⟨s, 0, none⟩ = some (.bool false)
set_option maxHeartbeats 2000000 in
theorem none_any (who t : Int) (w : World) : Calls Try.prog 3 #[.int .i64 who, .int .i64 t] w fun e w' => e = .returned (.bool true) ∧ Below w.heap.size w w' := by
  have hA := alloc_at w (.cells #[.bool false, .slice none 0 0] 27)
  have hb0 := alloc_below w (.cells #[.bool false, .slice none 0 0] 27)
  have hs0 := alloc_size w (.cells #[.bool false, .slice none 0 0] 27)
  go_enter Try.func3, Try.ntmps3
  go_wp2
  generalize w.alloc (.cells #[.bool false, .slice none 0 0] 27) = wa at *
  have hA2 := alloc_at wa (.cells #[.pointer none, .pointer (some ⟨w.heap.size, 0, none⟩)] 22)
  have hb1 := alloc_below wa (.cells #[.pointer none, .pointer (some ⟨w.heap.size, 0, none⟩)] 22)
  have hT : Nones w.heap.size (wa.alloc (.cells #[.pointer none, .pointer (some ⟨w.heap.size, 0, none⟩)] 22)) := by
    have hc := (hb1.block w.heap.size (by omega)).trans hA
    rw [hs0] at hA2
    exact ⟨by rw [cell_of hA2]; rfl, by rw [cell_of hA2]; rfl, by rw [cell_of hc]; rfl⟩
  have hB0 : Below w.heap.size w (wa.alloc (.cells #[.pointer none, .pointer (some ⟨w.heap.size, 0, none⟩)] 22)) := hb0.trans (hb1.mono hb0.size)
  clear hA hb0 hA2 hb1
  generalize wa.alloc (.cells #[.pointer none, .pointer (some ⟨w.heap.size, 0, none⟩)] 22) = wb at *
  have c0 := hT.c0
  have c1 := hT.c1
  have c2 := hT.c2
  have HB0 : Hid (Below w.heap.size w wb) := hB0
  clear hB0 hT
  go_loopg [6] 2 (fun g s6 wx => ∃ i : Nat, i + g = 2 ∧ s6 = .int .i64 i ∧ wb = wx)
  case atStart => exact ⟨0, by omega, rfl, rfl⟩
  case round =>
    obtain ⟨i, hig, rfl, rfl⟩ := hrel
    match gk, hig with
    | 0, hig =>
      obtain rfl : i = 2 := by omega
      go_wp2
      go_ret
      exact ⟨rfl, HB0.out⟩
    | 1, hig =>
      obtain rfl : i = 1 := by omega
      go_wp2_with (first
        | (go_at_call 8; refine (Left_zero c2 _).mono ?_; rintro e wx ⟨rfl, rfl⟩)
        | (go_at_call 9; refine (Put_zero c2 _ _).mono ?_; rintro e wx ⟨rfl, rfl⟩)
        | (go_at_call 10; refine (Remove_zero c2 _).mono ?_; rintro e wx ⟨rfl, rfl⟩)
        | (go_at_call 11; refine (Tick_zero c2 ).mono ?_; rintro e wx ⟨rfl, rfl⟩)
        | (go_at_call 12; refine (All_zero c2 ).mono ?_; rintro e wx ⟨rfl, rfl⟩))
      go_roundg 0
      case measure => omega
      case rel => exact ⟨2, by omega, rfl, rfl⟩
    | 2, hig =>
      obtain rfl : i = 0 := by omega
      go_wp2_with (first
        | (go_at_call 8; refine (Left_nil _).mono ?_; rintro e wx ⟨rfl, rfl⟩)
        | (go_at_call 9; refine (Put_nil _ _).mono ?_; rintro e wx ⟨rfl, rfl⟩)
        | (go_at_call 10; refine (Remove_nil _).mono ?_; rintro e wx ⟨rfl, rfl⟩)
        | (go_at_call 11; refine (Tick_nil ).mono ?_; rintro e wx ⟨rfl, rfl⟩)
        | (go_at_call 12; refine (All_nil ).mono ?_; rintro e wx ⟨rfl, rfl⟩))
      go_roundg 1
      case measure => omega
      case rel => exact ⟨1, by omega, rfl, rfl⟩
    | g + 3, hig => omega
end Go.Proofs.Ytdifgjioaikchaa
