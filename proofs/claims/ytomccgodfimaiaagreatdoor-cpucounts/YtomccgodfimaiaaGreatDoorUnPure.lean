/- Numbers by their bits: what the laws of package units want of plain arithmetic. No law of the program itself. -/
import Derived.WalkKit
import Derived.Laws.BitsAllLaws
namespace Go.Proofs.YtomccgodfimaiaaGreatDoor.Un
set_option linter.all false
open Go Go.RowKit

theorem xor_two (a b : Nat) : (a ^^^ b) % 2 = (a + b) % 2 := by
  have e := Nat.xor_mod_two_pow (a := a) (b := b) (n := 1)
  simp only [Nat.pow_one] at e
  rw [e]
  rcases Nat.mod_two_eq_zero_or_one a with ha | ha <;> rcases Nat.mod_two_eq_zero_or_one b with hb | hb <;> rw [ha, hb, Nat.add_mod, ha, hb] <;> rfl
theorem and_two (a b : Nat) : (a &&& b) % 2 = a % 2 * (b % 2) := by
  have e := Nat.and_mod_two_pow (a := a) (b := b) (n := 1)
  simp only [Nat.pow_one] at e
  rw [e]
  rcases Nat.mod_two_eq_zero_or_one a with ha | ha <;> rcases Nat.mod_two_eq_zero_or_one b with hb | hb <;> rw [ha, hb] <;> rfl
theorem or_two (a b : Nat) : (a ||| b) % 2 = a % 2 + b % 2 - a % 2 * (b % 2) := by
  have e := Nat.or_mod_two_pow (a := a) (b := b) (n := 1)
  simp only [Nat.pow_one] at e
  rw [e]
  rcases Nat.mod_two_eq_zero_or_one a with ha | ha <;> rcases Nat.mod_two_eq_zero_or_one b with hb | hb <;> rw [ha, hb] <;> rfl
theorem add_bits : ∀ a b : Nat, a + b = (a ^^^ b) + 2 * (a &&& b) := by
  intro a
  induction a using Nat.strongRecOn with
  | _ a ih =>
    intro b
    by_cases h : a = 0
    · subst h; simp
    · have i := ih (a / 2) (by omega) (b / 2)
      have h1 : (a ^^^ b) / 2 = a / 2 ^^^ b / 2 := Nat.xor_div_two
      have h2 : (a &&& b) / 2 = a / 2 &&& b / 2 := Nat.and_div_two
      have h3 := xor_two a b
      have h4 := and_two a b
      rw [← h1, ← h2] at i
      rcases Nat.mod_two_eq_zero_or_one a with ha | ha <;> rcases Nat.mod_two_eq_zero_or_one b with hb | hb <;> rw [ha, hb] at h4 <;> omega
theorem or_bits : ∀ a b : Nat, (a ||| b) = (a ^^^ b) + (a &&& b) := by
  intro a
  induction a using Nat.strongRecOn with
  | _ a ih =>
    intro b
    by_cases h : a = 0
    · subst h; simp
    · have i := ih (a / 2) (by omega) (b / 2)
      have h0 : (a ||| b) / 2 = a / 2 ||| b / 2 := Nat.or_div_two
      have h1 : (a ^^^ b) / 2 = a / 2 ^^^ b / 2 := Nat.xor_div_two
      have h2 : (a &&& b) / 2 = a / 2 &&& b / 2 := Nat.and_div_two
      have h3 := xor_two a b
      have h4 := and_two a b
      have h5 := or_two a b
      rw [← h0, ← h1, ← h2] at i
      rcases Nat.mod_two_eq_zero_or_one a with ha | ha <;> rcases Nat.mod_two_eq_zero_or_one b with hb | hb <;> rw [ha, hb] at h4 h5 <;> omega
theorem and_xor_zero (a b : Nat) : (a &&& b) &&& (a ^^^ b) = 0 := by
  apply Nat.eq_of_testBit_eq; intro i; simp only [Nat.testBit_and, Nat.testBit_xor, Nat.zero_testBit]; cases a.testBit i <;> cases b.testBit i <;> rfl
theorem and_or_xor (a b : Nat) : (a &&& b) ||| (a ^^^ b) = a ||| b := by
  apply Nat.eq_of_testBit_eq; intro i; simp only [Nat.testBit_and, Nat.testBit_xor, Nat.testBit_or]; cases a.testBit i <;> cases b.testBit i <;> rfl
theorem xor_back (a b : Nat) : (a ^^^ b) ^^^ b = a := by
  rw [Nat.xor_assoc, Nat.xor_self, Nat.xor_zero]
theorem high_none (a i : Nat) (ha : a < 4294967296) (hi : ¬ i < 32) : a.testBit i = false :=
  Nat.testBit_lt_two_pow (Nat.lt_of_lt_of_le (show a < 2 ^ 32 from ha) (Nat.pow_le_pow_right (by decide) (by omega)))
theorem and_not (a b : Nat) (ha : a < 4294967296) : (a &&& b) + (a &&& (b ^^^ 4294967295)) = a := by
  have e : (4294967295 : Nat) = 2 ^ 32 - 1 := rfl
  have hd : (a &&& b) &&& (a &&& (b ^^^ 4294967295)) = 0 := by
    apply Nat.eq_of_testBit_eq; intro i
    rw [e]
    simp only [Nat.testBit_and, Nat.testBit_xor, Nat.testBit_two_pow_sub_one, Nat.zero_testBit]
    by_cases hi : i < 32
    · simp only [hi, decide_true]; cases a.testBit i <;> cases b.testBit i <;> rfl
    · simp [high_none a i ha hi]
  have ho : (a &&& b) ||| (a &&& (b ^^^ 4294967295)) = a := by
    apply Nat.eq_of_testBit_eq; intro i
    rw [e]
    simp only [Nat.testBit_or, Nat.testBit_and, Nat.testBit_xor, Nat.testBit_two_pow_sub_one]
    by_cases hi : i < 32
    · simp only [hi, decide_true]; cases a.testBit i <;> cases b.testBit i <;> rfl
    · simp [high_none a i ha hi]
  have h1 := or_bits (a &&& b) (a &&& (b ^^^ 4294967295))
  have h2 := add_bits (a &&& b) (a &&& (b ^^^ 4294967295))
  rw [hd] at h1 h2
  omega
theorem xor_top (a : Nat) (ha : a < 4294967296) : a ^^^ 2147483648 = if a < 2147483648 then a + 2147483648 else a - 2147483648 := by
  have h2 := add_bits a 2147483648
  have hm : a &&& 2147483648 = a / 2147483648 % 2 * 2147483648 := nat_bit 31 a
  rw [hm] at h2
  split <;> omega
theorem and_low (a k : Nat) : a &&& (2 ^ k - 1) = a % 2 ^ k := Nat.and_two_pow_sub_one_eq_mod a k
theorem em_l (x y M : Int) : x % M * y % M = x * y % M := by rw [Int.mul_emod, Int.emod_emod, ← Int.mul_emod]
theorem em_r (x y M : Int) : x * (y % M) % M = x * y % M := by rw [Int.mul_emod, Int.emod_emod, ← Int.mul_emod]
end Go.Proofs.YtomccgodfimaiaaGreatDoor.Un
