/- LaddersSets: Set and Clear against the reference. -/
import Derived.Test.YtjcaiejbibhpiaaRef
namespace Go.Proofs.Ytjcaiejbibhpiaa
open Go Go.RowKit
set_option maxRecDepth 100000
set_option linter.unusedVariables false
theorem sets_any (l : Nat) (hl : l < 4294967296) (r : Int) (w : World) :
    Calls Try.prog 3 #[.int .u32 (l : Int), .int .i64 r] w fun e w' => e = .returned (.bool true) ∧ Below w.heap.size w w' := by
  go_enter Try.func3, Try.ntmps3
  go_wp2_with (first
    | (go_at_call 8; refine (set_any l hl r _).mono ?_; rintro e w' ⟨rfl, rfl⟩)
    | (go_at_call 9; refine (rset_any l hl r _).mono ?_; rintro e w' ⟨rfl, rfl⟩)
    | (go_at_call 10; refine (clear_any l hl r _).mono ?_; rintro e w' ⟨rfl, rfl⟩)
    | (go_at_call 11; refine (rclear_any l hl r _).mono ?_; rintro e w' ⟨rfl, rfl⟩))
  go_ret
  exact ⟨rfl, Below.refl _ _⟩
theorem sets_row (a : Int) (b : 0 ≤ a ∧ a ≤ 4294967295) (r : Int) (w : World) :
    Calls Try.prog 3 #[.int .u32 a, .int .i64 r] w fun e w' => e = .returned (.bool true) ∧ Below w.heap.size w w' := by
  obtain ⟨l, rfl⟩ := Int.eq_ofNat_of_zero_le b.1
  exact sets_any l (by omega) r w
end Go.Proofs.Ytjcaiejbibhpiaa
