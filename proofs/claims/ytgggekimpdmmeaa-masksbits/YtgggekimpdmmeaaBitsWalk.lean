/- 'MasksBits' walked: of one bit all and any are the same: whether it is there; flags are what is met of all. -/
import Derived.Test.YtgggekimpdmmeaaSeen
namespace Go.Proofs.Ytgggekimpdmmeaa
open Go Go.RowKit
set_option maxRecDepth 100000
set_option linter.unusedVariables false
set_option maxHeartbeats 4000000 in
theorem bits_any (fi bi : Int) (h1 : 0 ≤ fi ∧ fi ≤ 4294967295) (h2 : 0 ≤ bi ∧ bi ≤ 255) (w : World) :
    Calls Try.prog 8 #[.int .u32 fi, .int .u8 bi] w fun e w' => e = .returned (.bool true) ∧ Below w.heap.size w w' := by
  obtain ⟨f, rfl⟩ := Int.eq_ofNat_of_zero_le h1.1
  obtain ⟨b, rfl⟩ := Int.eq_ofNat_of_zero_le h2.1
  have hf : f < 4294967296 := by omega
  have hb : b < 256 := by omega
  clear h1 h2
  have HB : Hid (Below w.heap.size w w) := Below.refl w.heap.size w
  have hk : b % 32 < 32 := Nat.mod_lt _ (by decide)
  have ho : 2 ^ (b % 32) < 4294967296 := Nat.pow_lt_pow_right (n := 32) (by decide) hk
  have hp : 0 < 2 ^ (b % 32) := Nat.two_pow_pos _
  have eo : (2 : Int) ^ (b % 32) % 4294967296 = ((2 ^ (b % 32) : Nat) : Int) := by
    rw [show (2 : Int) ^ (b % 32) = ((2 ^ (b % 32) : Nat) : Int) from (Int.natCast_pow 2 _).symm]
    generalize 2 ^ (b % 32) = o at *
    exact Int.emod_eq_of_lt (by omega) (by omega)
  have A1 := fun w => holds_is w hf ho (hold_one f (b % 32) true)
  have A2 := fun w => holds_is w hf ho (hold_one f (b % 32) false)
  have D1 := fun w => met_is w hf ho (one_and f (b % 32))
  have D2 := fun w => met_is (F := (f : Int)) (G := 4294967295) (g := 4294967295) w hf (by decide) (and_max hf)
  have D3 := fun w => met_is (F := (f : Int)) (G := 0) (X := 0) (g := 0) w hf (by decide) (Nat.and_zero f)
  have et : ((f : Int) / ((2 ^ (b % 32) : Nat) : Int) % 2 == 1) = f.testBit (b % 32) := by
    rw [Nat.testBit_eq_decide_div_mod_eq]
    apply hold_iff
    rw [beq_iff_eq, decide_eq_true_eq]
    omega
  generalize 2 ^ (b % 32) = o at *
  have n1 : ¬ ((o : Int) = 0) := by omega
  have n2 : ((0 : Int) == (o : Int)) = false := beq_false_of_ne (by omega)
  cases t : f.testBit (b % 32)
  · rw [t] at A1 A2 D1 et
    rw [if_neg (by decide)] at D1
    rw [show ((0 : Nat) : Int) = 0 from rfl] at D1
    clear t hk ho hp hf
    go_enter Try.func8, Try.ntmps8
    go_wp2_with (first
      | (go_at_call 9; (with_reducible refine (A1 _).mono ?_); rintro e wx ⟨rfl, hb⟩; replace HB : Hid (Below w.heap.size w wx) := HB.out.trans (hb.mono HB.out.size); clear hb)
      | (go_at_call 9; (with_reducible refine (A2 _).mono ?_); rintro e wx ⟨rfl, hb⟩; replace HB : Hid (Below w.heap.size w wx) := HB.out.trans (hb.mono HB.out.size); clear hb)
      | (go_at_call 11; (with_reducible refine (D1 _).mono ?_); rintro e wx ⟨rfl, rfl⟩)
      | (go_at_call 11; (with_reducible refine (D2 _).mono ?_); rintro e wx ⟨rfl, rfl⟩)
      | (go_at_call 11; (with_reducible refine (D3 _).mono ?_); rintro e wx ⟨rfl, rfl⟩)
      | (go_at_call 15; refine (alive_any _).mono ?_; rintro e wx ⟨rfl, hb⟩; replace HB : Hid (Below w.heap.size w wx) := HB.out.trans (hb.mono HB.out.size); clear hb))
    go_ret
    exact ⟨rfl, HB.out⟩
  · rw [t] at A1 A2 D1 et
    rw [if_pos rfl] at D1
    clear t hk ho hp hf
    go_enter Try.func8, Try.ntmps8
    go_wp2_with (first
      | (go_at_call 9; (with_reducible refine (A1 _).mono ?_); rintro e wx ⟨rfl, hb⟩; replace HB : Hid (Below w.heap.size w wx) := HB.out.trans (hb.mono HB.out.size); clear hb)
      | (go_at_call 9; (with_reducible refine (A2 _).mono ?_); rintro e wx ⟨rfl, hb⟩; replace HB : Hid (Below w.heap.size w wx) := HB.out.trans (hb.mono HB.out.size); clear hb)
      | (go_at_call 11; (with_reducible refine (D1 _).mono ?_); rintro e wx ⟨rfl, rfl⟩)
      | (go_at_call 11; (with_reducible refine (D2 _).mono ?_); rintro e wx ⟨rfl, rfl⟩)
      | (go_at_call 11; (with_reducible refine (D3 _).mono ?_); rintro e wx ⟨rfl, rfl⟩)
      | (go_at_call 15; refine (alive_any _).mono ?_; rintro e wx ⟨rfl, hb⟩; replace HB : Hid (Below w.heap.size w wx) := HB.out.trans (hb.mono HB.out.size); clear hb))
    go_ret
    exact ⟨rfl, HB.out⟩
end Go.Proofs.Ytgggekimpdmmeaa
