/- 'MasksHolds' walked: whether any flags have all of any that are wanted, or one of them, and which, as documented. -/
import Derived.Test.YtgggekimpdmmeaaRef
namespace Go.Proofs.Ytgggekimpdmmeaa
open Go Go.RowKit
set_option maxRecDepth 100000
set_option linter.unusedVariables false
set_option maxHeartbeats 4000000 in
theorem holds_law (fi gi : Int) (h1 : 0 ≤ fi ∧ fi ≤ 4294967295) (h2 : 0 ≤ gi ∧ gi ≤ 4294967295) (w : World) :
    Calls Try.prog 3 #[.int .u32 fi, .int .u32 gi] w fun e w' => e = .returned (.bool true) ∧ Below w.heap.size w w' := by
  obtain ⟨f, rfl⟩ := Int.eq_ofNat_of_zero_le h1.1
  have hf : f < 4294967296 := by omega
  obtain ⟨g, rfl⟩ := Int.eq_ofNat_of_zero_le h2.1
  have hg : g < 4294967296 := by omega
  clear h1 h2
  have HB : Hid (Below w.heap.size w w) := Below.refl w.heap.size w
  have A1 := fun w => holds_any f g hf hg true w
  have A2 := fun w => holds_any f g hf hg false w
  have D1 := fun w => met_any f g hf hg w
  have R1 := fun w => rholds_any f g hf hg true w
  have R2 := fun w => rholds_any f g hf hg false w
  have R3 := fun w => rmet_any f g hf hg w
  generalize hold f g true = a1 at *
  generalize hold f g false = a2 at *
  generalize f &&& g = x at *
  clear hf hg
  cases a1 <;> cases a2
  all_goals
    go_enter Try.func3, Try.ntmps3
    go_wp2_with (first
      | (go_at_call 9; (with_reducible refine (A1 _).mono ?_); rintro e wx ⟨rfl, hb⟩; replace HB : Hid (Below w.heap.size w wx) := HB.out.trans (hb.mono HB.out.size); clear hb)
      | (go_at_call 9; (with_reducible refine (A2 _).mono ?_); rintro e wx ⟨rfl, hb⟩; replace HB : Hid (Below w.heap.size w wx) := HB.out.trans (hb.mono HB.out.size); clear hb)
      | (go_at_call 11; (with_reducible refine (D1 _).mono ?_); rintro e wx ⟨rfl, rfl⟩)
      | (go_at_call 10; (with_reducible refine (R1 _).mono ?_); rintro e wx ⟨rfl, rfl⟩)
      | (go_at_call 10; (with_reducible refine (R2 _).mono ?_); rintro e wx ⟨rfl, rfl⟩)
      | (go_at_call 12; (with_reducible refine (R3 _).mono ?_); rintro e wx ⟨rfl, rfl⟩))
    go_ret
    exact ⟨rfl, HB.out⟩
end Go.Proofs.Ytgggekimpdmmeaa
