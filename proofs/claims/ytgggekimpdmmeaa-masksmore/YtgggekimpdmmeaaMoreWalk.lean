/- 'MasksMore' walked: with more flags what held holds; with fewer that are wanted all that held of all does. -/
import Derived.Test.YtgggekimpdmmeaaSeen
namespace Go.Proofs.Ytgggekimpdmmeaa
open Go Go.RowKit
set_option maxRecDepth 100000
set_option linter.unusedVariables false
set_option maxHeartbeats 4000000 in
theorem more_any_ (fi gi mi : Int) (h1 : 0 ≤ fi ∧ fi ≤ 4294967295) (h2 : 0 ≤ gi ∧ gi ≤ 4294967295) (h3 : 0 ≤ mi ∧ mi ≤ 4294967295) (w : World) :
    Calls Try.prog 6 #[.int .u32 fi, .int .u32 gi, .int .u32 mi] w fun e w' => e = .returned (.bool true) ∧ Below w.heap.size w w' := by
  obtain ⟨f, rfl⟩ := Int.eq_ofNat_of_zero_le h1.1
  have hf : f < 4294967296 := by omega
  obtain ⟨g, rfl⟩ := Int.eq_ofNat_of_zero_le h2.1
  have hg : g < 4294967296 := by omega
  obtain ⟨m, rfl⟩ := Int.eq_ofNat_of_zero_le h3.1
  have hm : m < 4294967296 := by omega
  clear h1 h2 h3
  have HB : Hid (Below w.heap.size w w) := Below.refl w.heap.size w
  have A1 := fun w => holds_any f g hf hg true w
  have A2 := fun w => holds_any f g hf hg false w
  have B5 := fun w => holds_is w (or_lt hg hm) hg (own_all g m)
  have e1 := u32_or_nat f m hf hm
  have e2 := u32_and_nat g m hg hm
  have e3 := u32_or_nat g m hg hm
  cases a : hold f g true
  · cases b : hold f g false
    · rw [a] at A1
      rw [b] at A2
      clear a b hf hg hm
      generalize f ||| m = y1 at *
      generalize g &&& m = y2 at *
      generalize g ||| m = y3 at *
      go_enter Try.func6, Try.ntmps6
      go_wp2_with (first
        | (go_at_call 9; (with_reducible refine (A1 _).mono ?_); rintro e wx ⟨rfl, hb⟩; replace HB : Hid (Below w.heap.size w wx) := HB.out.trans (hb.mono HB.out.size); clear hb)
        | (go_at_call 9; (with_reducible refine (A2 _).mono ?_); rintro e wx ⟨rfl, hb⟩; replace HB : Hid (Below w.heap.size w wx) := HB.out.trans (hb.mono HB.out.size); clear hb)
        | (go_at_call 9; (with_reducible refine (B5 _).mono ?_); rintro e wx ⟨rfl, hb⟩; replace HB : Hid (Below w.heap.size w wx) := HB.out.trans (hb.mono HB.out.size); clear hb)
        | (go_at_call 15; refine (alive_any _).mono ?_; rintro e wx ⟨rfl, hb⟩; replace HB : Hid (Below w.heap.size w wx) := HB.out.trans (hb.mono HB.out.size); clear hb))
      go_ret
      exact ⟨rfl, HB.out⟩
    · have B3 := fun w => holds_is w (or_lt hf hm) hg (more_any m b)
      have B4 := fun w => holds_is w hf (or_lt hg hm) (wide_any m b)
      rw [a] at A1
      rw [b] at A2
      clear a b hf hg hm
      generalize f ||| m = y1 at *
      generalize g &&& m = y2 at *
      generalize g ||| m = y3 at *
      go_enter Try.func6, Try.ntmps6
      go_wp2_with (first
        | (go_at_call 9; (with_reducible refine (A1 _).mono ?_); rintro e wx ⟨rfl, hb⟩; replace HB : Hid (Below w.heap.size w wx) := HB.out.trans (hb.mono HB.out.size); clear hb)
        | (go_at_call 9; (with_reducible refine (A2 _).mono ?_); rintro e wx ⟨rfl, hb⟩; replace HB : Hid (Below w.heap.size w wx) := HB.out.trans (hb.mono HB.out.size); clear hb)
        | (go_at_call 9; (with_reducible refine (B3 _).mono ?_); rintro e wx ⟨rfl, hb⟩; replace HB : Hid (Below w.heap.size w wx) := HB.out.trans (hb.mono HB.out.size); clear hb)
        | (go_at_call 9; (with_reducible refine (B4 _).mono ?_); rintro e wx ⟨rfl, hb⟩; replace HB : Hid (Below w.heap.size w wx) := HB.out.trans (hb.mono HB.out.size); clear hb)
        | (go_at_call 9; (with_reducible refine (B5 _).mono ?_); rintro e wx ⟨rfl, hb⟩; replace HB : Hid (Below w.heap.size w wx) := HB.out.trans (hb.mono HB.out.size); clear hb)
        | (go_at_call 15; refine (alive_any _).mono ?_; rintro e wx ⟨rfl, hb⟩; replace HB : Hid (Below w.heap.size w wx) := HB.out.trans (hb.mono HB.out.size); clear hb))
      go_ret
      exact ⟨rfl, HB.out⟩
  · cases b : hold f g false
    · have B1 := fun w => holds_is w (or_lt hf hm) hg (more_all m a)
      have B2 := fun w => holds_is w hf (and_lt hg) (less_all m a)
      rw [a] at A1
      rw [b] at A2
      clear a b hf hg hm
      generalize f ||| m = y1 at *
      generalize g &&& m = y2 at *
      generalize g ||| m = y3 at *
      go_enter Try.func6, Try.ntmps6
      go_wp2_with (first
        | (go_at_call 9; (with_reducible refine (A1 _).mono ?_); rintro e wx ⟨rfl, hb⟩; replace HB : Hid (Below w.heap.size w wx) := HB.out.trans (hb.mono HB.out.size); clear hb)
        | (go_at_call 9; (with_reducible refine (A2 _).mono ?_); rintro e wx ⟨rfl, hb⟩; replace HB : Hid (Below w.heap.size w wx) := HB.out.trans (hb.mono HB.out.size); clear hb)
        | (go_at_call 9; (with_reducible refine (B1 _).mono ?_); rintro e wx ⟨rfl, hb⟩; replace HB : Hid (Below w.heap.size w wx) := HB.out.trans (hb.mono HB.out.size); clear hb)
        | (go_at_call 9; (with_reducible refine (B2 _).mono ?_); rintro e wx ⟨rfl, hb⟩; replace HB : Hid (Below w.heap.size w wx) := HB.out.trans (hb.mono HB.out.size); clear hb)
        | (go_at_call 9; (with_reducible refine (B5 _).mono ?_); rintro e wx ⟨rfl, hb⟩; replace HB : Hid (Below w.heap.size w wx) := HB.out.trans (hb.mono HB.out.size); clear hb)
        | (go_at_call 15; refine (alive_any _).mono ?_; rintro e wx ⟨rfl, hb⟩; replace HB : Hid (Below w.heap.size w wx) := HB.out.trans (hb.mono HB.out.size); clear hb))
      go_ret
      exact ⟨rfl, HB.out⟩
    · have B1 := fun w => holds_is w (or_lt hf hm) hg (more_all m a)
      have B2 := fun w => holds_is w hf (and_lt hg) (less_all m a)
      have B3 := fun w => holds_is w (or_lt hf hm) hg (more_any m b)
      have B4 := fun w => holds_is w hf (or_lt hg hm) (wide_any m b)
      rw [a] at A1
      rw [b] at A2
      clear a b hf hg hm
      generalize f ||| m = y1 at *
      generalize g &&& m = y2 at *
      generalize g ||| m = y3 at *
      go_enter Try.func6, Try.ntmps6
      go_wp2_with (first
        | (go_at_call 9; (with_reducible refine (A1 _).mono ?_); rintro e wx ⟨rfl, hb⟩; replace HB : Hid (Below w.heap.size w wx) := HB.out.trans (hb.mono HB.out.size); clear hb)
        | (go_at_call 9; (with_reducible refine (A2 _).mono ?_); rintro e wx ⟨rfl, hb⟩; replace HB : Hid (Below w.heap.size w wx) := HB.out.trans (hb.mono HB.out.size); clear hb)
        | (go_at_call 9; (with_reducible refine (B1 _).mono ?_); rintro e wx ⟨rfl, hb⟩; replace HB : Hid (Below w.heap.size w wx) := HB.out.trans (hb.mono HB.out.size); clear hb)
        | (go_at_call 9; (with_reducible refine (B2 _).mono ?_); rintro e wx ⟨rfl, hb⟩; replace HB : Hid (Below w.heap.size w wx) := HB.out.trans (hb.mono HB.out.size); clear hb)
        | (go_at_call 9; (with_reducible refine (B3 _).mono ?_); rintro e wx ⟨rfl, hb⟩; replace HB : Hid (Below w.heap.size w wx) := HB.out.trans (hb.mono HB.out.size); clear hb)
        | (go_at_call 9; (with_reducible refine (B4 _).mono ?_); rintro e wx ⟨rfl, hb⟩; replace HB : Hid (Below w.heap.size w wx) := HB.out.trans (hb.mono HB.out.size); clear hb)
        | (go_at_call 9; (with_reducible refine (B5 _).mono ?_); rintro e wx ⟨rfl, hb⟩; replace HB : Hid (Below w.heap.size w wx) := HB.out.trans (hb.mono HB.out.size); clear hb)
        | (go_at_call 15; refine (alive_any _).mono ?_; rintro e wx ⟨rfl, hb⟩; replace HB : Hid (Below w.heap.size w wx) := HB.out.trans (hb.mono HB.out.size); clear hb))
      go_ret
      exact ⟨rfl, HB.out⟩
end Go.Proofs.Ytgggekimpdmmeaa
