/- 'MasksParts' walked: all of two parts are there just if all of each are; one of them is just if one of either is; behind both, one after the other, flags are as behind both at once. -/
import Derived.Test.YtgggekimpdmmeabSeen
namespace Go.Proofs.Ytgggekimpdmmeab
open Go Go.RowKit
set_option maxRecDepth 100000
set_option linter.unusedVariables false
set_option maxHeartbeats 4000000 in
theorem parts_any (fi gi pi : Int) (h1 : 0 ≤ fi ∧ fi ≤ 4294967295) (h2 : 0 ≤ gi ∧ gi ≤ 4294967295) (h3 : 0 ≤ pi ∧ pi ≤ 4294967295) (w : World) :
    Calls Try.prog 3 #[.int .u32 fi, .int .u32 gi, .int .u32 pi] w fun e w' => e = .returned (.bool true) ∧ Below w.heap.size w w' := by
  obtain ⟨f, rfl⟩ := Int.eq_ofNat_of_zero_le h1.1
  have hf : f < 4294967296 := by omega
  obtain ⟨g, rfl⟩ := Int.eq_ofNat_of_zero_le h2.1
  have hg : g < 4294967296 := by omega
  obtain ⟨p, rfl⟩ := Int.eq_ofNat_of_zero_le h3.1
  have hp : p < 4294967296 := by omega
  clear h1 h2 h3
  have HB : Hid (Below w.heap.size w w) := Below.refl w.heap.size w
  have ha : g &&& p < 4294967296 := and_lt hg
  have hb : bt g p < 4294967296 := bt_lt hg
  have A1 := fun w => holds_any f (g &&& p) hf ha true w
  have A2 := fun w => holds_any f (bt g p) hf hb true w
  have A3 := fun w => holds_any f (g &&& p) hf ha false w
  have A4 := fun w => holds_any f (bt g p) hf hb false w
  have B1 := fun w => holds_is w hf hg (part_all (f := f) hg hp)
  have B2 := fun w => holds_is w hf hg (part_any (f := f) hg hp)
  have C1 := fun w => after_is w hf ha (aft_any hf ha)
  have C2 := fun w => after_is w (bt_lt hf) hb ((aft_any (bt_lt hf) hb).trans (part_bt hf hg hp))
  have C3 := fun w => after_is w hf hg (aft_any hf hg)
  have D1 := fun w => met_any f (g &&& p) hf ha w
  have D2 := fun w => met_any f (bt g p) hf hb w
  have D3 := fun w => met_any f g hf hg w
  have e1 := u32_and_nat g p hg hp
  have e2 : bits .andNot .u32 (g : Int) (p : Int) = ((bt g p : Nat) : Int) := u32_andNot_nat g p hg hp
  have e3 := u32_or_nat (f &&& (g &&& p)) (f &&& bt g p) (and_lt hf) (and_lt hf)
  rw [part_met hg hp] at e3
  generalize hold f (g &&& p) true = a1 at *
  generalize hold f (g &&& p) false = a2 at *
  generalize hold f (bt g p) true = a3 at *
  generalize hold f (bt g p) false = a4 at *
  generalize bt f (g &&& p) = y1 at *
  generalize bt f g = y2 at *
  generalize f &&& (g &&& p) = y3 at *
  generalize f &&& bt g p = y4 at *
  generalize f &&& g = y5 at *
  generalize bt g p = y6 at *
  generalize g &&& p = y7 at *
  clear hf hg hp ha hb
  cases a1 <;> cases a2 <;> cases a3 <;> cases a4
  all_goals
    simp only [Bool.and_true, Bool.and_false, Bool.or_true, Bool.or_false] at B1 B2
    go_enter Try.func3, Try.ntmps3
    go_wp2_with (first
      | (go_at_call 4; (with_reducible refine (A1 _).mono ?_); rintro e wx ⟨rfl, hb⟩; replace HB : Hid (Below w.heap.size w wx) := HB.out.trans (hb.mono HB.out.size); clear hb)
      | (go_at_call 4; (with_reducible refine (A2 _).mono ?_); rintro e wx ⟨rfl, hb⟩; replace HB : Hid (Below w.heap.size w wx) := HB.out.trans (hb.mono HB.out.size); clear hb)
      | (go_at_call 4; (with_reducible refine (A3 _).mono ?_); rintro e wx ⟨rfl, hb⟩; replace HB : Hid (Below w.heap.size w wx) := HB.out.trans (hb.mono HB.out.size); clear hb)
      | (go_at_call 4; (with_reducible refine (A4 _).mono ?_); rintro e wx ⟨rfl, hb⟩; replace HB : Hid (Below w.heap.size w wx) := HB.out.trans (hb.mono HB.out.size); clear hb)
      | (go_at_call 4; (with_reducible refine (B1 _).mono ?_); rintro e wx ⟨rfl, hb⟩; replace HB : Hid (Below w.heap.size w wx) := HB.out.trans (hb.mono HB.out.size); clear hb)
      | (go_at_call 4; (with_reducible refine (B2 _).mono ?_); rintro e wx ⟨rfl, hb⟩; replace HB : Hid (Below w.heap.size w wx) := HB.out.trans (hb.mono HB.out.size); clear hb)
      | (go_at_call 7; (with_reducible refine (C1 _).mono ?_); rintro e wx ⟨rfl, hb⟩; replace HB : Hid (Below w.heap.size w wx) := HB.out.trans (hb.mono HB.out.size); clear hb)
      | (go_at_call 7; (with_reducible refine (C2 _).mono ?_); rintro e wx ⟨rfl, hb⟩; replace HB : Hid (Below w.heap.size w wx) := HB.out.trans (hb.mono HB.out.size); clear hb)
      | (go_at_call 7; (with_reducible refine (C3 _).mono ?_); rintro e wx ⟨rfl, hb⟩; replace HB : Hid (Below w.heap.size w wx) := HB.out.trans (hb.mono HB.out.size); clear hb)
      | (go_at_call 6; (with_reducible refine (D1 _).mono ?_); rintro e wx ⟨rfl, rfl⟩)
      | (go_at_call 6; (with_reducible refine (D2 _).mono ?_); rintro e wx ⟨rfl, rfl⟩)
      | (go_at_call 6; (with_reducible refine (D3 _).mono ?_); rintro e wx ⟨rfl, rfl⟩)
      | (go_at_call 5; refine (alive_any _).mono ?_; rintro e wx ⟨rfl, hb⟩; replace HB : Hid (Below w.heap.size w wx) := HB.out.trans (hb.mono HB.out.size); clear hb))
    go_ret
    exact ⟨rfl, HB.out⟩
end Go.Proofs.Ytgggekimpdmmeab
