/- Eight lines as the bits of a number: a line's bit set and cleared, the least one that is there, and what lines answer as plain functions of who calls and who is masked. No law of the program itself. -/
import Derived.Test.YtedheamenlnfkabRows
import Derived.WalkKit
import Derived.ProofKit
import Derived.OpenShut
import Derived.Laws.BitsAllLaws
import Derived.Laws.MathBits
import Derived.Laws.ShiftsVarLaws
import Derived.Lib.BitFns
namespace Go.Proofs.Ytedheamenlnfkab
open Go Go.RowKit
set_option maxRecDepth 100000
set_option linter.unusedVariables false
theorem bits_eq {a b : Nat} (h : ∀ k, a.testBit k = b.testBit k) : a = b := Nat.eq_of_testBit_eq h
theorem high_bit {c : Nat} (h : c < 256) {k : Nat} (hk : 8 ≤ k) : c.testBit k = false :=
  Nat.testBit_lt_two_pow (Nat.lt_of_lt_of_le h (Nat.pow_le_pow_right (n := 2) (by decide) hk))
theorem bit_low {c : Nat} (h : c < 256) {k : Nat} (hk : c.testBit k = true) : k < 8 := by
  rcases Nat.lt_or_ge k 8 with a | a
  · exact a
  · rw [high_bit h a] at hk; cases hk
theorem low_eq {a b : Nat} (ha : a < 256) (hb : b < 256) (h : ∀ k, k < 8 → a.testBit k = b.testBit k) : a = b := by
  apply bits_eq
  intro k
  rcases Nat.lt_or_ge k 8 with c | c
  · exact h k c
  · rw [high_bit ha c, high_bit hb c]
theorem pow_lt {k : Nat} (hk : k < 8) : 2 ^ k < 256 := Nat.pow_lt_pow_right (n := 8) (by decide) hk
/-- with a line, and without it -/
def st (c k : Nat) : Nat := c ||| 2 ^ k
def cl (c k : Nat) : Nat := c &&& (255 - 2 ^ k)
/-- those of one that are not of another -/
def bt (c m : Nat) : Nat := c &&& (255 - m)
theorem st_lt {c k : Nat} (h : c < 256) (hk : k < 8) : st c k < 256 := Nat.or_lt_two_pow (n := 8) h (pow_lt hk)
theorem bt_lt {c m : Nat} : bt c m < 256 := Nat.and_lt_two_pow (n := 8) _ (by omega)
theorem cl_lt {c k : Nat} : cl c k < 256 := Nat.and_lt_two_pow (n := 8) _ (Nat.lt_of_le_of_lt (Nat.sub_le _ _) (by decide))
theorem st_bit (c k j : Nat) : (st c k).testBit j = (c.testBit j || decide (j = k)) := by
  unfold st
  rw [Nat.testBit_or, Nat.testBit_two_pow]
  congr 1
  exact decide_eq_decide.2 eq_comm
theorem bt_bit {c m : Nat} (h : c < 256) (hm : m < 256) (j : Nat) : (bt c m).testBit j = (c.testBit j && !m.testBit j) := by
  unfold bt
  have e : 255 - m = 2 ^ 8 - (m + 1) := by omega
  rw [Nat.testBit_and, e, Nat.testBit_two_pow_sub_succ hm]
  rcases Nat.lt_or_ge j 8 with a | a
  · simp [a]
  · simp [high_bit h a]
theorem cl_bt (c k : Nat) : cl c k = bt c (2 ^ k) := rfl
theorem cl_bit {c k : Nat} (h : c < 256) (hk : k < 8) (j : Nat) : (cl c k).testBit j = (c.testBit j && !decide (j = k)) := by
  rw [cl_bt, bt_bit h (pow_lt hk), Nat.testBit_two_pow]
  congr 2
  exact decide_eq_decide.2 eq_comm
theorem zero_bit (j : Nat) : (0 : Nat).testBit j = false := Nat.zero_testBit j
/-- those that are as it is told -/
def pk : Nat → (Nat → Bool) → Nat
  | 0, f => 0
  | n + 1, f => pk n f + (if f n then 2 ^ n else 0)
theorem pk_lt (n : Nat) (f : Nat → Bool) : pk n f < 2 ^ n := by
  induction n with
  | zero => simp [pk]
  | succ n ih => unfold pk; rw [Nat.pow_succ]; split <;> omega
theorem pk_bit (n : Nat) (f : Nat → Bool) (j : Nat) : (pk n f).testBit j = (decide (j < n) && f j) := by
  induction n with
  | zero => simp [pk]
  | succ n ih =>
    have hl := pk_lt n f
    unfold pk
    by_cases hf : f n = true
    · rw [if_pos hf, Nat.add_comm]
      by_cases e : j = n
      · subst e
        rw [Nat.testBit_two_pow_add_eq, ih]
        simp [hf]
      · rcases Nat.lt_or_ge j n with a | a
        · rw [Nat.testBit_two_pow_add_gt a, ih]
          simp [a, Nat.lt_succ_of_lt a]
        · have : 2 ^ n + pk n f < 2 ^ j := Nat.lt_of_lt_of_le (by omega : 2 ^ n + pk n f < 2 ^ (n + 1)) (Nat.pow_le_pow_right (by decide) (by omega))
          rw [Nat.testBit_lt_two_pow this]
          simp [show ¬ j < n + 1 by omega]
    · rw [if_neg hf, Nat.add_zero, ih]
      by_cases e : j = n
      · subst e; simp [hf]
      · rw [show decide (j < n + 1) = decide (j < n) from decide_eq_decide.2 (by omega)]
def p8 (f : Nat → Bool) : Nat := pk 8 f
theorem p8_lt (f : Nat → Bool) : p8 f < 256 := pk_lt 8 f
theorem p8_bit (f : Nat → Bool) (j : Nat) : (p8 f).testBit j = (decide (j < 8) && f j) := pk_bit 8 f j
theorem p8_is {c : Nat} (h : c < 256) (f : Nat → Bool) (hf : ∀ k, k < 8 → f k = c.testBit k) : p8 f = c :=
  low_eq (p8_lt f) h fun k hk => by rw [p8_bit, hf k hk]; simp [hk]
/-- the first place from a on, of so many, that is as it is sought -/
def nxt (q : Nat → Bool) : Nat → Nat → Nat
  | a, 0 => a
  | a, m + 1 => if q a then a else nxt q (a + 1) m
theorem nxt_ge (q : Nat → Bool) : ∀ m a, a ≤ nxt q a m
  | 0, a => Nat.le_refl _
  | m + 1, a => by
    unfold nxt
    split
    · exact Nat.le_refl _
    · have := nxt_ge q m (a + 1); omega
theorem nxt_le (q : Nat → Bool) : ∀ m a, nxt q a m ≤ a + m
  | 0, a => Nat.le_refl _
  | m + 1, a => by
    unfold nxt
    split
    · omega
    · have := nxt_le q m (a + 1); omega
theorem nxt_low (q : Nat → Bool) : ∀ m a j, a ≤ j → j < nxt q a m → q j = false
  | 0, a, j, h1, h2 => by unfold nxt at h2; omega
  | m + 1, a, j, h1, h2 => by
    unfold nxt at h2
    split at h2
    · omega
    · rename_i hq
      by_cases e : j = a
      · subst e; simpa using hq
      · exact nxt_low q m (a + 1) j (by omega) h2
theorem nxt_yes (q : Nat → Bool) : ∀ m a, nxt q a m < a + m → q (nxt q a m) = true
  | 0, a, h => by unfold nxt at h; omega
  | m + 1, a, h => by
    unfold nxt at h ⊢
    split
    · assumption
    · rename_i hq
      rw [if_neg hq] at h
      exact nxt_yes q m (a + 1) (by omega)
theorem nxt_is (q : Nat → Bool) {m a k : Nat} (h1 : a ≤ k) (h2 : k ≤ a + m) (hl : ∀ j, a ≤ j → j < k → q j = false) (hy : k < a + m → q k = true) : nxt q a m = k := by
  rcases Nat.lt_trichotomy (nxt q a m) k with h | h | h
  · have := hl _ (nxt_ge q m a) h
    rw [nxt_yes q m a (by omega)] at this; cases this
  · exact h
  · have := nxt_low q m a k h1 h
    have hk := nxt_le q m a
    rw [hy (by omega)] at this; cases this
/-- the least line that is there, or 8 -/
def lw (x : Nat) : Nat := nxt x.testBit 0 8
theorem lw_le (x : Nat) : lw x ≤ 8 := by have := nxt_le x.testBit 8 0; unfold lw; omega
theorem lw_low {x j : Nat} (h : j < lw x) : x.testBit j = false := nxt_low x.testBit 8 0 j (Nat.zero_le _) h
theorem lw_yes {x : Nat} (h : lw x < 8) : x.testBit (lw x) = true := nxt_yes x.testBit 8 0 (by unfold lw at h; omega)
theorem lw_is {x k : Nat} (hk : k < 8) (hy : x.testBit k = true) (hl : ∀ j, j < k → x.testBit j = false) : lw x = k :=
  nxt_is _ (Nat.zero_le _) (by omega) (fun j _ hj => hl j hj) (fun _ => hy)
theorem lw_none {x : Nat} (hl : ∀ j, j < 8 → x.testBit j = false) : lw x = 8 :=
  nxt_is _ (Nat.zero_le _) (by omega) (fun j _ hj => hl j hj) (fun h => by omega)
theorem lw_zero {x : Nat} (h : x < 256) : lw x = 8 ↔ x = 0 := by
  constructor
  · intro e
    exact low_eq h (by decide) fun k hk => by rw [lw_low (by omega), zero_bit]
  · rintro rfl; exact lw_none fun j _ => zero_bit j
theorem lw_tz : ∀ n : Fin 256, Lib.trailingZeros8 n.val = lw n.val := by decide +kernel
/-- whether there is such a line -/
def ln (r : Int) : Bool := decide (0 ≤ r ∧ r < 8)
def lnE (r : Int) : Int := if ln r then 0 else 1
def raiseC (c : Nat) (r : Int) : Nat := if ln r then st c r.toNat else c
def maskM (m : Nat) (r : Int) (on : Bool) : Nat := if ln r then (if on then st m r.toNat else cl m r.toNat) else m
def nextL (c m : Nat) : Nat := if lw (bt c m) < 8 then lw (bt c m) else 0
def nextE (c m : Nat) : Int := if lw (bt c m) < 8 then 0 else 11
def nextC (c m : Nat) : Nat := if lw (bt c m) < 8 then cl c (lw (bt c m)) else c
theorem ln_nat {k : Nat} (hk : k < 8) : ln (k : Int) = true := by simp [ln]; omega
theorem ln_of {r : Int} (h : ln r = true) : ∃ k : Nat, r = (k : Int) ∧ k < 8 := by
  simp [ln] at h
  obtain ⟨k, rfl⟩ := Int.eq_ofNat_of_zero_le h.1
  exact ⟨k, rfl, by omega⟩
theorem raiseC_lt {c : Nat} (h : c < 256) (r : Int) : raiseC c r < 256 := by
  unfold raiseC
  split
  · rename_i hr
    obtain ⟨k, rfl, hk⟩ := ln_of hr
    exact st_lt h hk
  · exact h
theorem maskM_lt {m : Nat} (h : m < 256) (r : Int) (on : Bool) : maskM m r on < 256 := by
  unfold maskM
  split
  · rename_i hr
    obtain ⟨k, rfl, hk⟩ := ln_of hr
    split
    · exact st_lt h hk
    · exact cl_lt
  · exact h
theorem nextC_lt {c m : Nat} (h : c < 256) : nextC c m < 256 := by
  unfold nextC
  split
  · exact cl_lt
  · exact h
theorem raiseC_nat (c : Nat) {k : Nat} (hk : k < 8) : raiseC c (k : Int) = st c k := by unfold raiseC; rw [if_pos (ln_nat hk)]; rfl
theorem maskM_on (m : Nat) {k : Nat} (hk : k < 8) : maskM m (k : Int) true = st m k := by unfold maskM; rw [if_pos (ln_nat hk)]; rfl
theorem maskM_off (m : Nat) {k : Nat} (hk : k < 8) : maskM m (k : Int) false = cl m k := by unfold maskM; rw [if_pos (ln_nat hk)]; rfl
theorem lnE_nat {k : Nat} (hk : k < 8) : lnE (k : Int) = 0 := by unfold lnE; rw [if_pos (ln_nat hk)]
theorem next_yes {c m k : Nat} (hc : c < 256) (hm : m < 256) (hk : k < 8) (hy : c.testBit k = true) (hn : m.testBit k = false) (hl : ∀ j, j < k → c.testBit j = true → m.testBit j = true) : lw (bt c m) = k := by
  refine lw_is hk (by rw [bt_bit hc hm, hy, hn]; rfl) fun j hj => ?_
  rw [bt_bit hc hm]
  cases h : c.testBit j
  · rfl
  · rw [hl j hj h]; rfl
theorem next_none {c m : Nat} (hc : c < 256) (hm : m < 256) (hl : ∀ j, j < 8 → c.testBit j = true → m.testBit j = true) : lw (bt c m) = 8 := by
  refine lw_none fun j hj => ?_
  rw [bt_bit hc hm]
  cases h : c.testBit j
  · rfl
  · rw [hl j hj h]; rfl
end Go.Proofs.Ytedheamenlnfkab
