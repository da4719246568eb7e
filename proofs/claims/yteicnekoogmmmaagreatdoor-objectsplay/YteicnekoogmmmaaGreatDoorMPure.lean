/- Thirty-two flags as the bits of a number, and what is asked of them as plain functions. No law of the program itself. -/
import Derived.Test.YteicnekoogmmmaaGreatDoorRows
import Derived.WalkKit
import Derived.ProofKit
import Derived.OpenShut
import Derived.Laws.BitsAllLaws
import Derived.Laws.MathBits
import Derived.Laws.ShiftsVarLaws
namespace Go.Proofs.YteicnekoogmmmaaGreatDoor.Mk
open Go Go.RowKit
set_option maxRecDepth 100000
set_option linter.unusedVariables false
theorem bits_eq {a b : Nat} (h : ∀ k, a.testBit k = b.testBit k) : a = b := Nat.eq_of_testBit_eq h
theorem bits_of {a b : Nat} (h : a = b) (k : Nat) : a.testBit k = b.testBit k := by rw [h]
theorem high_bit {c : Nat} (h : c < 4294967296) {k : Nat} (hk : 32 ≤ k) : c.testBit k = false :=
  Nat.testBit_lt_two_pow (Nat.lt_of_lt_of_le h (Nat.pow_le_pow_right (n := 2) (by decide) hk))
theorem low_eq {a b : Nat} (ha : a < 4294967296) (hb : b < 4294967296) (h : ∀ k, k < 32 → a.testBit k = b.testBit k) : a = b := by
  apply bits_eq
  intro k
  rcases Nat.lt_or_ge k 32 with c | c
  · exact h k c
  · rw [high_bit ha c, high_bit hb c]
/-- those of one that are not of another; all but those -/
def bt (c m : Nat) : Nat := c &&& (4294967295 - m)
def nt (m : Nat) : Nat := 4294967295 - m
theorem and_lt {a b : Nat} (h : a < 4294967296) : a &&& b < 4294967296 := Nat.lt_of_le_of_lt Nat.and_le_left h
theorem or_lt {a b : Nat} (h : a < 4294967296) (k : b < 4294967296) : a ||| b < 4294967296 := Nat.or_lt_two_pow (n := 32) h k
theorem bt_lt {c m : Nat} (h : c < 4294967296) : bt c m < 4294967296 := and_lt h
theorem nt_lt (m : Nat) : nt m < 4294967296 := by unfold nt; omega
theorem nt_bit {m : Nat} (hm : m < 4294967296) (j : Nat) : (nt m).testBit j = (decide (j < 32) && !m.testBit j) := by
  unfold nt
  have e : 4294967295 - m = 2 ^ 32 - (m + 1) := by omega
  rw [e, Nat.testBit_two_pow_sub_succ hm]
theorem bt_bit {c m : Nat} (h : c < 4294967296) (hm : m < 4294967296) (j : Nat) : (bt c m).testBit j = (c.testBit j && !m.testBit j) := by
  show (c &&& nt m).testBit j = _
  rw [Nat.testBit_and, nt_bit hm]
  rcases Nat.lt_or_ge j 32 with a | a
  · simp [a]
  · simp [high_bit h a]
theorem zero_bit (j : Nat) : (0 : Nat).testBit j = false := Nat.zero_testBit j
/-- whether all, or any, of those that are wanted are there -/
def hold (f g : Nat) (all : Bool) : Bool := if all then decide (f &&& g = g) else !decide (f &&& g = 0)
/-- the flags behind that -/
def aft (f g : Nat) (all gone : Bool) : Nat := if gone && hold f g all then bt f g else f
theorem aft_lt {f g : Nat} (hf : f < 4294967296) (all gone : Bool) : aft f g all gone < 4294967296 := by
  unfold aft
  split
  · exact bt_lt hf
  · exact hf
theorem hold_all {f g : Nat} : hold f g true = true ↔ ∀ k, g.testBit k = true → f.testBit k = true := by
  simp only [hold, if_true, decide_eq_true_eq]
  constructor
  · intro h k hk
    have := bits_of h k
    rw [Nat.testBit_and, hk] at this
    simpa using this
  · intro h
    apply bits_eq
    intro k
    rw [Nat.testBit_and]
    cases hk : g.testBit k
    · simp
    · simp [h k hk]
theorem hold_any {f g : Nat} : hold f g false = true ↔ ∃ k, g.testBit k = true ∧ f.testBit k = true := by
  simp only [hold, Bool.false_eq_true, if_false, Bool.not_eq_true', decide_eq_false_iff_not]
  constructor
  · intro h
    obtain ⟨k, hk⟩ := Nat.exists_testBit_of_ne_zero h
    rw [Nat.testBit_and] at hk
    exact ⟨k, by simpa using hk.symm ▸ (by revert hk; cases g.testBit k <;> simp), by revert hk; cases f.testBit k <;> simp⟩
  · rintro ⟨k, h1, h2⟩ e
    have := bits_of e k
    rw [Nat.testBit_and, h1, h2, zero_bit] at this
    cases this
theorem hold_iff {b c : Bool} (h : b = true ↔ c = true) : b = c := by cases b <;> cases c <;> simp_all
theorem hold_t {f g : Nat} : hold f g true = decide (f &&& g = g) := rfl
theorem hold_f {f g : Nat} : hold f g false = !decide (f &&& g = 0) := rfl
theorem bit_low {c : Nat} (h : c < 4294967296) {k : Nat} (hk : c.testBit k = true) : k < 32 := by
  rcases Nat.lt_or_ge k 32 with a | a
  · exact a
  · rw [high_bit h a] at hk; cases hk
theorem xor_max {f : Nat} (hf : f < 4294967296) : bits .xor .u32 IntKind.u32.max (f : Int) = ((nt f : Nat) : Int) := by
  have e : IntKind.u32.max = ((4294967295 : Nat) : Int) := by decide
  rw [e, u32_xor_nat _ _ (by decide) hf]
  congr 1
  refine low_eq (Nat.xor_lt_two_pow (n := 32) (by decide) hf) (nt_lt f) fun k hk => ?_
  rw [Nat.testBit_xor, nt_bit hf, show (4294967295 : Nat) = 2 ^ 32 - 1 from rfl, Nat.testBit_two_pow_sub_one]
  simp [hk]
/-- one of them is there just if not all lack -/
theorem hold_not {f g : Nat} (hf : f < 4294967296) (hg : g < 4294967296) : hold (nt f) g true = !hold f g false := by
  apply hold_iff
  rw [hold_all]
  constructor
  · intro h
    rw [Bool.not_eq_true']
    cases q : hold f g false
    · rfl
    · obtain ⟨k, h1, h2⟩ := hold_any.1 q
      have := h k h1
      rw [nt_bit hf, h2] at this
      simp at this
  · intro h k hk
    rw [nt_bit hf, decide_eq_true (bit_low hg hk)]
    cases q : f.testBit k
    · rfl
    · rw [hold_any.2 ⟨k, hk, q⟩] at h; cases h
theorem more_all {f g : Nat} (m : Nat) (h : hold f g true = true) : hold (f ||| m) g true = true := hold_all.2 fun k hk => by rw [Nat.testBit_or, hold_all.1 h k hk]; rfl
theorem less_all {f g : Nat} (m : Nat) (h : hold f g true = true) : hold f (g &&& m) true = true := hold_all.2 fun k hk => hold_all.1 h k (by rw [Nat.testBit_and] at hk; revert hk; cases g.testBit k <;> simp)
theorem more_any {f g : Nat} (m : Nat) (h : hold f g false = true) : hold (f ||| m) g false = true := by
  obtain ⟨k, h1, h2⟩ := hold_any.1 h
  exact hold_any.2 ⟨k, h1, by rw [Nat.testBit_or, h2]; rfl⟩
theorem wide_any {f g : Nat} (m : Nat) (h : hold f g false = true) : hold f (g ||| m) false = true := by
  obtain ⟨k, h1, h2⟩ := hold_any.1 h
  exact hold_any.2 ⟨k, by rw [Nat.testBit_or, h1]; rfl, h2⟩
theorem own_all (g m : Nat) : hold (g ||| m) g true = true := hold_all.2 fun k hk => by rw [Nat.testBit_or, hk]; rfl
/-- what is behind it -/
theorem bt_met {f g : Nat} (hf : f < 4294967296) (hg : g < 4294967296) : bt f g &&& g = 0 := by
  apply bits_eq
  intro k
  rw [Nat.testBit_and, bt_bit hf hg, zero_bit]
  cases f.testBit k <;> cases g.testBit k <;> rfl
theorem bt_rest {f g : Nat} (hf : f < 4294967296) (hg : g < 4294967296) : bt f g &&& nt g = f &&& nt g := by
  apply bits_eq
  intro k
  rw [Nat.testBit_and, Nat.testBit_and, bt_bit hf hg, nt_bit hg]
  cases f.testBit k <;> cases g.testBit k <;> cases decide (k < 32) <;> rfl
theorem bt_or {f g : Nat} (hf : f < 4294967296) (hg : g < 4294967296) : bt f g ||| (f &&& g) = f := by
  apply bits_eq
  intro k
  rw [Nat.testBit_or, Nat.testBit_and, bt_bit hf hg]
  cases f.testBit k <;> cases g.testBit k <;> rfl
theorem bt_bt {f g : Nat} (hf : f < 4294967296) (hg : g < 4294967296) : bt (bt f g) g = bt f g := by
  apply bits_eq
  intro k
  rw [bt_bit (bt_lt hf) hg, bt_bit hf hg]
  cases f.testBit k <;> cases g.testBit k <;> rfl
theorem aft_stay (f g : Nat) (all : Bool) : aft f g all false = f := rfl
theorem aft_no {f g : Nat} {all : Bool} (h : hold f g all = false) : aft f g all true = f := by unfold aft; rw [h]; rfl
theorem aft_yes {f g : Nat} {all : Bool} (h : hold f g all = true) : aft f g all true = bt f g := by unfold aft; rw [h]; rfl
theorem aft_again {f g : Nat} (hf : f < 4294967296) (hg : g < 4294967296) (all : Bool) : aft (bt f g) g all true = bt f g := by
  cases h : hold (bt f g) g all
  · exact aft_no h
  · rw [aft_yes h, bt_bt hf hg]
theorem aft_any {f g : Nat} (hf : f < 4294967296) (hg : g < 4294967296) : aft f g false true = bt f g := by
  cases h : hold f g false
  · rw [aft_no h]
    rw [hold_f, Bool.not_eq_false', decide_eq_true_eq] at h
    have := bt_or hf hg
    rw [h, Nat.or_zero] at this
    exact this.symm
  · exact aft_yes h
/-- one bit -/
theorem one_and (f k : Nat) : f &&& 2 ^ k = if f.testBit k then 2 ^ k else 0 := by
  apply bits_eq
  intro j
  rw [Nat.testBit_and, Nat.testBit_two_pow]
  by_cases e : k = j
  · subst e
    cases h : f.testBit k
    · simp
    · simp
  · cases h : f.testBit k
    · simp [e]
    · simp [e]
theorem hold_one (f k : Nat) (all : Bool) : hold f (2 ^ k) all = f.testBit k := by
  have hp : 2 ^ k ≠ 0 := Nat.ne_of_gt (Nat.two_pow_pos k)
  unfold hold
  rw [one_and]
  cases f.testBit k
  · cases all
    · simp
    · simpa using hp.symm
  · cases all
    · simp
    · simp
theorem and_max {f : Nat} (hf : f < 4294967296) : f &&& 4294967295 = f := by
  rw [show (4294967295 : Nat) = 2 ^ 32 - 1 from rfl, Nat.and_two_pow_sub_one_eq_mod]
  exact Nat.mod_eq_of_lt hf
/-- two parts -/
theorem part_all {f g p : Nat} (hg : g < 4294967296) (hp : p < 4294967296) : hold f g true = (hold f (g &&& p) true && hold f (bt g p) true) := by
  apply hold_iff
  rw [Bool.and_eq_true, hold_all, hold_all, hold_all]
  constructor
  · intro h
    constructor
    · intro k hk
      rw [Nat.testBit_and] at hk
      exact h k (by revert hk; cases g.testBit k <;> simp)
    · intro k hk
      rw [bt_bit hg hp] at hk
      exact h k (by revert hk; cases g.testBit k <;> simp)
  · rintro ⟨h1, h2⟩ k hk
    cases q : p.testBit k
    · exact h2 k (by rw [bt_bit hg hp, hk, q]; rfl)
    · exact h1 k (by rw [Nat.testBit_and, hk, q]; rfl)
theorem part_any {f g p : Nat} (hg : g < 4294967296) (hp : p < 4294967296) : hold f g false = (hold f (g &&& p) false || hold f (bt g p) false) := by
  apply hold_iff
  rw [Bool.or_eq_true, hold_any, hold_any, hold_any]
  constructor
  · rintro ⟨k, hk, h2⟩
    cases q : p.testBit k
    · exact Or.inr ⟨k, by rw [bt_bit hg hp, hk, q]; rfl, h2⟩
    · exact Or.inl ⟨k, by rw [Nat.testBit_and, hk, q]; rfl, h2⟩
  · rintro (⟨k, hk, h2⟩ | ⟨k, hk, h2⟩)
    · exact ⟨k, by rw [Nat.testBit_and] at hk; revert hk; cases g.testBit k <;> simp, h2⟩
    · exact ⟨k, by rw [bt_bit hg hp] at hk; revert hk; cases g.testBit k <;> simp, h2⟩
theorem part_met {f g p : Nat} (hg : g < 4294967296) (hp : p < 4294967296) : (f &&& (g &&& p)) ||| (f &&& bt g p) = f &&& g := by
  apply bits_eq
  intro k
  rw [Nat.testBit_or, Nat.testBit_and, Nat.testBit_and, Nat.testBit_and, Nat.testBit_and, bt_bit hg hp]
  cases f.testBit k <;> cases g.testBit k <;> cases p.testBit k <;> rfl
theorem part_bt {f g p : Nat} (hf : f < 4294967296) (hg : g < 4294967296) (hp : p < 4294967296) : bt (bt f (g &&& p)) (bt g p) = bt f g := by
  apply bits_eq
  intro k
  rw [bt_bit (bt_lt hf) (bt_lt hg), bt_bit hf (and_lt hg), bt_bit hf hg, Nat.testBit_and, bt_bit hg hp]
  cases f.testBit k <;> cases g.testBit k <;> cases p.testBit k <;> rfl
end Go.Proofs.YteicnekoogmmmaaGreatDoor.Mk
