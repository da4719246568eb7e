/- 'MasksGone' walked: behind it, if it holds and they go, nothing that was wanted is there, and all else is; else flags are as they were. -/
import Derived.Test.YtgggekimpdmmeaaSeen
namespace Go.Proofs.Ytgggekimpdmmeaa
open Go Go.RowKit
set_option maxRecDepth 100000
set_option linter.unusedVariables false
set_option maxHeartbeats 4000000 in
theorem gone_any (fi gi : Int) (all : Bool) (h1 : 0 ≤ fi ∧ fi ≤ 4294967295) (h2 : 0 ≤ gi ∧ gi ≤ 4294967295) (w : World) :
    Calls Try.prog 7 #[.int .u32 fi, .int .u32 gi, .bool all] w fun e w' => e = .returned (.bool true) ∧ Below w.heap.size w w' := by
  obtain ⟨f, rfl⟩ := Int.eq_ofNat_of_zero_le h1.1
  have hf : f < 4294967296 := by omega
  obtain ⟨g, rfl⟩ := Int.eq_ofNat_of_zero_le h2.1
  have hg : g < 4294967296 := by omega
  clear h1 h2
  have HB : Hid (Below w.heap.size w w) := Below.refl w.heap.size w
  have A1 := fun w => holds_any f g hf hg all w
  have C2 := fun w => after_is (all := all) (gone := false) w hf hg (aft_stay f g all)
  cases a : hold f g all
  · have C1 := fun w => after_is w hf hg (aft_no a)
    rw [a] at A1
    clear a
    go_enter Try.func7, Try.ntmps7
    go_wp2_with (first
      | (go_at_call 13; (with_reducible refine (C1 _).mono ?_); rintro e wx ⟨rfl, hb⟩; replace HB : Hid (Below w.heap.size w wx) := HB.out.trans (hb.mono HB.out.size); clear hb)
      | (go_at_call 13; (with_reducible refine (C2 _).mono ?_); rintro e wx ⟨rfl, hb⟩; replace HB : Hid (Below w.heap.size w wx) := HB.out.trans (hb.mono HB.out.size); clear hb)
      | (go_at_call 9; (with_reducible refine (A1 _).mono ?_); rintro e wx ⟨rfl, hb⟩; replace HB : Hid (Below w.heap.size w wx) := HB.out.trans (hb.mono HB.out.size); clear hb)
      | (go_at_call 15; refine (alive_any _).mono ?_; rintro e wx ⟨rfl, hb⟩; replace HB : Hid (Below w.heap.size w wx) := HB.out.trans (hb.mono HB.out.size); clear hb))
    go_ret
    exact ⟨rfl, HB.out⟩
  · have C1 := fun w => after_is w hf hg (aft_yes a)
    have C3 := fun w => after_is w (bt_lt hf) hg (aft_again hf hg all)
    have D1 := fun w => met_is w (bt_lt hf) hg (bt_met hf hg)
    have D2 := fun w => met_is w (bt_lt hf) (nt_lt g) (bt_rest hf hg)
    have D3 := fun w => met_any f (nt g) hf (nt_lt g) w
    have D4 := fun w => met_any f g hf hg w
    have e1 := u32_or_nat (bt f g) (f &&& g) (bt_lt hf) (and_lt hf)
    rw [bt_or hf hg] at e1
    have hn := xor_max hg
    rw [a] at A1
    rw [show ((0 : Nat) : Int) = 0 from rfl] at D1
    clear a hf hg
    generalize bt f g = x at *
    generalize f &&& g = y at *
    generalize f &&& nt g = z at *
    generalize nt g = u at *
    go_enter Try.func7, Try.ntmps7
    go_wp2_with (first
      | (go_at_call 13; (with_reducible refine (C1 _).mono ?_); rintro e wx ⟨rfl, hb⟩; replace HB : Hid (Below w.heap.size w wx) := HB.out.trans (hb.mono HB.out.size); clear hb)
      | (go_at_call 13; (with_reducible refine (C2 _).mono ?_); rintro e wx ⟨rfl, hb⟩; replace HB : Hid (Below w.heap.size w wx) := HB.out.trans (hb.mono HB.out.size); clear hb)
      | (go_at_call 9; (with_reducible refine (A1 _).mono ?_); rintro e wx ⟨rfl, hb⟩; replace HB : Hid (Below w.heap.size w wx) := HB.out.trans (hb.mono HB.out.size); clear hb)
      | (go_at_call 15; refine (alive_any _).mono ?_; rintro e wx ⟨rfl, hb⟩; replace HB : Hid (Below w.heap.size w wx) := HB.out.trans (hb.mono HB.out.size); clear hb)
      | (go_at_call 13; (with_reducible refine (C3 _).mono ?_); rintro e wx ⟨rfl, hb⟩; replace HB : Hid (Below w.heap.size w wx) := HB.out.trans (hb.mono HB.out.size); clear hb)
      | (go_at_call 11; (with_reducible refine (D1 _).mono ?_); rintro e wx ⟨rfl, rfl⟩)
      | (go_at_call 11; (with_reducible refine (D2 _).mono ?_); rintro e wx ⟨rfl, rfl⟩)
      | (go_at_call 11; (with_reducible refine (D3 _).mono ?_); rintro e wx ⟨rfl, rfl⟩)
      | (go_at_call 11; (with_reducible refine (D4 _).mono ?_); rintro e wx ⟨rfl, rfl⟩))
    go_ret
    exact ⟨rfl, HB.out⟩
end Go.Proofs.Ytgggekimpdmmeaa
