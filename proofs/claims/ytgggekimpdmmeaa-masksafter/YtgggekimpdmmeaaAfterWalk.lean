/- 'MasksAfter' walked: any flags behind that are exactly the documented ones. -/
import Derived.Test.YtgggekimpdmmeaaRef
namespace Go.Proofs.Ytgggekimpdmmeaa
open Go Go.RowKit
set_option maxRecDepth 100000
set_option linter.unusedVariables false
set_option maxHeartbeats 4000000 in
theorem after_law (fi gi : Int) (h1 : 0 ≤ fi ∧ fi ≤ 4294967295) (h2 : 0 ≤ gi ∧ gi ≤ 4294967295) (w : World) :
    Calls Try.prog 4 #[.int .u32 fi, .int .u32 gi] w fun e w' => e = .returned (.bool true) ∧ Below w.heap.size w w' := by
  obtain ⟨f, rfl⟩ := Int.eq_ofNat_of_zero_le h1.1
  have hf : f < 4294967296 := by omega
  obtain ⟨g, rfl⟩ := Int.eq_ofNat_of_zero_le h2.1
  have hg : g < 4294967296 := by omega
  clear h1 h2
  go_enter Try.func4, Try.ntmps4
  go_wp2
  go_loopg [5] 4 (fun k s5 wx => ∃ i : Nat, i + k = 4 ∧ s5 = .int .i64 (i : Nat) ∧ Hid (Below w.heap.size w wx))
  case atStart => exact ⟨0, by omega, rfl, Below.refl _ _⟩
  case round =>
    obtain ⟨i, hig, rfl, HB⟩ := hrel
    match gk, hig with
    | 0, hig =>
      obtain rfl : i = 4 := by omega
      go_wp2
      go_ret
      exact ⟨rfl, HB.out⟩
    | 4, hig =>
      obtain rfl : i = 0 := by omega
      have C1 := fun w => after_any f g hf hg false false w
      have R1 := fun w => rafter_any f g hf hg false false w
      generalize aft f g false false = x at *
      clear hf hg
      go_wp2_with (first
        | (go_at_call 13; (with_reducible refine (C1 _).mono ?_); rintro e wx ⟨rfl, hb⟩; replace HB : Hid (Below w.heap.size w wx) := HB.out.trans (hb.mono HB.out.size); clear hb)
        | (go_at_call 14; (with_reducible refine (R1 _).mono ?_); rintro e wx ⟨rfl, rfl⟩))
      go_roundg 3
      case measure => omega
      case rel => exact ⟨1, by omega, by first | rfl | go_num, HB⟩
    | 3, hig =>
      obtain rfl : i = 1 := by omega
      have C1 := fun w => after_any f g hf hg true false w
      have R1 := fun w => rafter_any f g hf hg true false w
      generalize aft f g true false = x at *
      clear hf hg
      go_wp2_with (first
        | (go_at_call 13; (with_reducible refine (C1 _).mono ?_); rintro e wx ⟨rfl, hb⟩; replace HB : Hid (Below w.heap.size w wx) := HB.out.trans (hb.mono HB.out.size); clear hb)
        | (go_at_call 14; (with_reducible refine (R1 _).mono ?_); rintro e wx ⟨rfl, rfl⟩))
      go_roundg 2
      case measure => omega
      case rel => exact ⟨2, by omega, by first | rfl | go_num, HB⟩
    | 2, hig =>
      obtain rfl : i = 2 := by omega
      have C1 := fun w => after_any f g hf hg false true w
      have R1 := fun w => rafter_any f g hf hg false true w
      generalize aft f g false true = x at *
      clear hf hg
      go_wp2_with (first
        | (go_at_call 13; (with_reducible refine (C1 _).mono ?_); rintro e wx ⟨rfl, hb⟩; replace HB : Hid (Below w.heap.size w wx) := HB.out.trans (hb.mono HB.out.size); clear hb)
        | (go_at_call 14; (with_reducible refine (R1 _).mono ?_); rintro e wx ⟨rfl, rfl⟩))
      go_roundg 1
      case measure => omega
      case rel => exact ⟨3, by omega, by first | rfl | go_num, HB⟩
    | 1, hig =>
      obtain rfl : i = 3 := by omega
      have C1 := fun w => after_any f g hf hg true true w
      have R1 := fun w => rafter_any f g hf hg true true w
      generalize aft f g true true = x at *
      clear hf hg
      go_wp2_with (first
        | (go_at_call 13; (with_reducible refine (C1 _).mono ?_); rintro e wx ⟨rfl, hb⟩; replace HB : Hid (Below w.heap.size w wx) := HB.out.trans (hb.mono HB.out.size); clear hb)
        | (go_at_call 14; (with_reducible refine (R1 _).mono ?_); rintro e wx ⟨rfl, rfl⟩))
      go_roundg 0
      case measure => omega
      case rel => exact ⟨4, by omega, by first | rfl | go_num, HB⟩
    | g + 5, hig => omega
end Go.Proofs.Ytgggekimpdmmeaa
