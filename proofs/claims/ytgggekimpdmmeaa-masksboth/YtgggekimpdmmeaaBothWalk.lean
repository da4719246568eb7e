/- 'MasksBoth' walked: what holds of all holds of any, if something is wanted; which are there tells both. -/
import Derived.Test.YtgggekimpdmmeaaSeen
namespace Go.Proofs.Ytgggekimpdmmeaa
open Go Go.RowKit
set_option maxRecDepth 100000
set_option linter.unusedVariables false
set_option maxHeartbeats 4000000 in
theorem both_any (fi gi : Int) (h1 : 0 ≤ fi ∧ fi ≤ 4294967295) (h2 : 0 ≤ gi ∧ gi ≤ 4294967295) (w : World) :
    Calls Try.prog 5 #[.int .u32 fi, .int .u32 gi] w fun e w' => e = .returned (.bool true) ∧ Below w.heap.size w w' := by
  obtain ⟨f, rfl⟩ := Int.eq_ofNat_of_zero_le h1.1
  have hf : f < 4294967296 := by omega
  obtain ⟨g, rfl⟩ := Int.eq_ofNat_of_zero_le h2.1
  have hg : g < 4294967296 := by omega
  clear h1 h2
  have HB : Hid (Below w.heap.size w w) := Below.refl w.heap.size w
  have A1 := fun w => holds_any f g hf hg true w
  have A2 := fun w => holds_any f g hf hg false w
  have A3 := fun w => met_any f g hf hg w
  have A4 := fun w => holds_any (nt f) g (nt_lt f) hg true w
  have A5 := fun w => met_any g f hg hf w
  rw [Nat.and_comm g f] at A5
  rw [hold_not hf hg] at A4
  rw [hold_f] at A2 A4
  rw [hold_t] at A1
  have hn := xor_max hf
  have h0 : f &&& g = g ∨ f &&& g ≠ g := Decidable.em _
  generalize nt f = y at *
  generalize f &&& g = x at *
  clear hf hg
  by_cases qa : x = g
  · rw [decide_eq_true qa] at A1
    subst qa
    clear h0
    by_cases qb : x = 0
    · subst qb
      rw [decide_eq_true rfl] at A2 A4
      rw [show ((0 : Nat) : Int) = 0 from rfl] at A1 A2 A3 A4 A5
      go_enter Try.func5, Try.ntmps5
      go_wp2_with (first
        | (go_at_call 9; (with_reducible refine (A1 _).mono ?_); rintro e wx ⟨rfl, hb⟩; replace HB : Hid (Below w.heap.size w wx) := HB.out.trans (hb.mono HB.out.size); clear hb)
        | (go_at_call 9; (with_reducible refine (A2 _).mono ?_); rintro e wx ⟨rfl, hb⟩; replace HB : Hid (Below w.heap.size w wx) := HB.out.trans (hb.mono HB.out.size); clear hb)
        | (go_at_call 9; (with_reducible refine (A4 _).mono ?_); rintro e wx ⟨rfl, hb⟩; replace HB : Hid (Below w.heap.size w wx) := HB.out.trans (hb.mono HB.out.size); clear hb)
        | (go_at_call 11; (with_reducible refine (A3 _).mono ?_); rintro e wx ⟨rfl, rfl⟩)
        | (go_at_call 11; (with_reducible refine (A5 _).mono ?_); rintro e wx ⟨rfl, rfl⟩)
        | (go_at_call 15; refine (alive_any _).mono ?_; rintro e wx ⟨rfl, hb⟩; replace HB : Hid (Below w.heap.size w wx) := HB.out.trans (hb.mono HB.out.size); clear hb))
      go_ret
      exact ⟨rfl, HB.out⟩
    · rw [decide_eq_false qb] at A2 A4
      have n1 : ((x : Int) != 0) = true := bne_iff_ne.2 (by omega)
      have n2 : ((x : Int) == 0) = false := beq_false_of_ne (by omega)
      clear qb
      go_enter Try.func5, Try.ntmps5
      go_wp2_with (first
        | (go_at_call 9; (with_reducible refine (A1 _).mono ?_); rintro e wx ⟨rfl, hb⟩; replace HB : Hid (Below w.heap.size w wx) := HB.out.trans (hb.mono HB.out.size); clear hb)
        | (go_at_call 9; (with_reducible refine (A2 _).mono ?_); rintro e wx ⟨rfl, hb⟩; replace HB : Hid (Below w.heap.size w wx) := HB.out.trans (hb.mono HB.out.size); clear hb)
        | (go_at_call 9; (with_reducible refine (A4 _).mono ?_); rintro e wx ⟨rfl, hb⟩; replace HB : Hid (Below w.heap.size w wx) := HB.out.trans (hb.mono HB.out.size); clear hb)
        | (go_at_call 11; (with_reducible refine (A3 _).mono ?_); rintro e wx ⟨rfl, rfl⟩)
        | (go_at_call 11; (with_reducible refine (A5 _).mono ?_); rintro e wx ⟨rfl, rfl⟩)
        | (go_at_call 15; refine (alive_any _).mono ?_; rintro e wx ⟨rfl, hb⟩; replace HB : Hid (Below w.heap.size w wx) := HB.out.trans (hb.mono HB.out.size); clear hb))
      go_ret
      exact ⟨rfl, HB.out⟩
  · rw [decide_eq_false qa] at A1
    clear h0
    by_cases qb : x = 0
    · subst qb
      rw [decide_eq_true rfl] at A2 A4
      rw [show ((0 : Nat) : Int) = 0 from rfl] at A3 A5
      have n3 : ((0 : Int) == (g : Int)) = false := beq_false_of_ne (by omega)
      clear qa
      go_enter Try.func5, Try.ntmps5
      go_wp2_with (first
        | (go_at_call 9; (with_reducible refine (A1 _).mono ?_); rintro e wx ⟨rfl, hb⟩; replace HB : Hid (Below w.heap.size w wx) := HB.out.trans (hb.mono HB.out.size); clear hb)
        | (go_at_call 9; (with_reducible refine (A2 _).mono ?_); rintro e wx ⟨rfl, hb⟩; replace HB : Hid (Below w.heap.size w wx) := HB.out.trans (hb.mono HB.out.size); clear hb)
        | (go_at_call 9; (with_reducible refine (A4 _).mono ?_); rintro e wx ⟨rfl, hb⟩; replace HB : Hid (Below w.heap.size w wx) := HB.out.trans (hb.mono HB.out.size); clear hb)
        | (go_at_call 11; (with_reducible refine (A3 _).mono ?_); rintro e wx ⟨rfl, rfl⟩)
        | (go_at_call 11; (with_reducible refine (A5 _).mono ?_); rintro e wx ⟨rfl, rfl⟩)
        | (go_at_call 15; refine (alive_any _).mono ?_; rintro e wx ⟨rfl, hb⟩; replace HB : Hid (Below w.heap.size w wx) := HB.out.trans (hb.mono HB.out.size); clear hb))
      go_ret
      exact ⟨rfl, HB.out⟩
    · rw [decide_eq_false qb] at A2 A4
      have n1 : ((x : Int) != 0) = true := bne_iff_ne.2 (by omega)
      have n2 : ((x : Int) == 0) = false := beq_false_of_ne (by omega)
      have n3 : ((x : Int) == (g : Int)) = false := beq_false_of_ne (by omega)
      clear qa qb
      go_enter Try.func5, Try.ntmps5
      go_wp2_with (first
        | (go_at_call 9; (with_reducible refine (A1 _).mono ?_); rintro e wx ⟨rfl, hb⟩; replace HB : Hid (Below w.heap.size w wx) := HB.out.trans (hb.mono HB.out.size); clear hb)
        | (go_at_call 9; (with_reducible refine (A2 _).mono ?_); rintro e wx ⟨rfl, hb⟩; replace HB : Hid (Below w.heap.size w wx) := HB.out.trans (hb.mono HB.out.size); clear hb)
        | (go_at_call 9; (with_reducible refine (A4 _).mono ?_); rintro e wx ⟨rfl, hb⟩; replace HB : Hid (Below w.heap.size w wx) := HB.out.trans (hb.mono HB.out.size); clear hb)
        | (go_at_call 11; (with_reducible refine (A3 _).mono ?_); rintro e wx ⟨rfl, rfl⟩)
        | (go_at_call 11; (with_reducible refine (A5 _).mono ?_); rintro e wx ⟨rfl, rfl⟩)
        | (go_at_call 15; refine (alive_any _).mono ?_; rintro e wx ⟨rfl, hb⟩; replace HB : Hid (Below w.heap.size w wx) := HB.out.trans (hb.mono HB.out.size); clear hb))
      go_ret
      exact ⟨rfl, HB.out⟩
end Go.Proofs.Ytgggekimpdmmeaa
