/- Ladders as numbers: the bit of a rank, a ladder with it and without it, the ranks that a ladder has, falling. No law of the program itself. -/
import Derived.Laws.BitsAllLaws
import Derived.Laws.MathBits
namespace Go.Proofs.YtjhpiecbolmleaaGreatDoor.Ld
open Go
set_option linter.unusedVariables false
/-- the bit of a rank; one that may not be has none -/
def bitOf (r : Int) : Nat := if 0 ≤ r ∧ r ≤ 31 then 2 ^ r.toNat else 0
def setL (l : Nat) (r : Int) : Nat := l ||| bitOf r
def clrL (l : Nat) (r : Int) : Nat := l &&& (4294967295 - bitOf r)
theorem bitOf_lt (r : Int) : bitOf r < 4294967296 := by
  unfold bitOf
  split
  · rename_i h
    have : 2 ^ r.toNat < 2 ^ 32 := Nat.pow_lt_pow_right (by decide) (by omega)
    simpa using this
  · decide
theorem bitOf_bit (r : Int) (k : Nat) : (bitOf r).testBit k = decide ((k : Int) = r ∧ k < 32) := by
  unfold bitOf
  split
  · rename_i h
    rw [Nat.testBit_two_pow]
    apply Bool.eq_iff_iff.2
    simp only [decide_eq_true_eq]
    omega
  · rename_i h
    rw [Nat.zero_testBit]
    symm
    rw [decide_eq_false_iff_not]
    omega
theorem setL_lt {l : Nat} (h : l < 4294967296) (r : Int) : setL l r < 4294967296 := Nat.or_lt_two_pow (n := 32) h (bitOf_lt r)
theorem clrL_lt {l : Nat} (h : l < 4294967296) (r : Int) : clrL l r < 4294967296 := by
  unfold clrL
  exact Nat.and_lt_two_pow (n := 32) _ (by omega)
theorem setL_bit (l : Nat) (r : Int) (k : Nat) : (setL l r).testBit k = (l.testBit k || decide ((k : Int) = r ∧ k < 32)) := by
  unfold setL
  rw [Nat.testBit_or, bitOf_bit]
theorem high_bit {l : Nat} (h : l < 4294967296) {k : Nat} (hk : 32 ≤ k) : l.testBit k = false :=
  Nat.testBit_lt_two_pow (Nat.lt_of_lt_of_le h (Nat.pow_le_pow_right (n := 2) (by decide) hk))
theorem bit_low {l : Nat} (h : l < 4294967296) {k : Nat} (hk : l.testBit k = true) : k < 32 := by
  rcases Nat.lt_or_ge k 32 with a | a
  · exact a
  · rw [high_bit h a] at hk; cases hk
theorem clrL_bit {l : Nat} (h : l < 4294967296) (r : Int) (k : Nat) : (clrL l r).testBit k = (l.testBit k && !decide ((k : Int) = r)) := by
  unfold clrL
  have e : 4294967295 - bitOf r = 2 ^ 32 - (bitOf r + 1) := by omega
  rw [Nat.testBit_and, e, Nat.testBit_two_pow_sub_succ (bitOf_lt r), bitOf_bit]
  rcases Nat.lt_or_ge k 32 with a | a
  · simp [a]
  · simp [high_bit h a]
theorem bits_eq {a b : Nat} (h : ∀ k, a.testBit k = b.testBit k) : a = b := Nat.eq_of_testBit_eq h
theorem setL_none (l : Nat) {r : Int} (h : ¬ (0 ≤ r ∧ r ≤ 31)) : setL l r = l := by
  unfold setL bitOf; rw [if_neg h]; simp
theorem clrL_none {l : Nat} (hl : l < 4294967296) {r : Int} (h : ¬ (0 ≤ r ∧ r ≤ 31)) : clrL l r = l := by
  apply bits_eq
  intro k
  rw [clrL_bit hl]
  rcases Nat.lt_or_ge k 32 with a | a
  · rw [show decide ((k : Int) = r) = false from by rw [decide_eq_false_iff_not]; omega]; simp
  · simp [high_bit hl a]
/-- the ranks below k that a ladder has, falling -/
def downs (l : Nat) : Nat → List Nat
  | 0 => []
  | k + 1 => if l.testBit k then k :: downs l k else downs l k
/-- the ranks that a ladder has, falling -/
def ranks (l : Nat) : List Nat := downs l 32
theorem downs_mem (l k n : Nat) : k ∈ downs l n ↔ k < n ∧ l.testBit k = true := by
  induction n with
  | zero => simp [downs]
  | succ n ih =>
    unfold downs
    split
    · rename_i h
      rw [List.mem_cons, ih]
      constructor
      · rintro (rfl | ⟨a, b⟩)
        · exact ⟨by omega, h⟩
        · exact ⟨by omega, b⟩
      · rintro ⟨a, b⟩
        by_cases e : k = n
        · exact Or.inl e
        · exact Or.inr ⟨by omega, b⟩
    · rename_i h
      rw [ih]
      constructor
      · rintro ⟨a, b⟩; exact ⟨by omega, b⟩
      · rintro ⟨a, b⟩
        refine ⟨?_, b⟩
        rcases Nat.lt_or_ge k n with c | c
        · exact c
        · obtain rfl : k = n := by omega
          exact absurd b h
theorem ranks_mem {l : Nat} (hl : l < 4294967296) (k : Nat) : k ∈ ranks l ↔ l.testBit k = true := by
  unfold ranks
  rw [downs_mem]
  exact ⟨fun h => h.2, fun h => ⟨bit_low hl h, h⟩⟩
theorem ranks_low {l k : Nat} (h : k ∈ ranks l) : k < 32 := ((downs_mem l k 32).1 h).1
theorem downs_congr {a b : Nat} (n : Nat) (h : ∀ k, k < n → a.testBit k = b.testBit k) : downs a n = downs b n := by
  induction n with
  | zero => rfl
  | succ n ih =>
    unfold downs
    rw [h n (by omega), ih (fun k hk => h k (by omega))]
theorem downs_skip {l t : Nat} : ∀ {n : Nat}, t ≤ n → (∀ k, t ≤ k → k < n → l.testBit k = false) → downs l n = downs l t
  | 0, ht, _ => by obtain rfl : t = 0 := by omega
                   rfl
  | n + 1, ht, h => by
    by_cases e : t = n + 1
    · rw [e]
    · rw [show downs l (n + 1) = downs l n from by simp [downs, h n (by omega) (by omega)]]
      exact downs_skip (by omega) fun k a b => h k a (by omega)
theorem downs_len (l n : Nat) : (downs l n).length ≤ n := by
  induction n with
  | zero => simp [downs]
  | succ n ih => unfold downs; split <;> (try rw [List.length_cons]) <;> omega
theorem ranks_len (l : Nat) : (ranks l).length ≤ 32 := downs_len l 32
theorem ranks_zero : ranks 0 = [] := by decide
theorem log_bit {l : Nat} (h : l ≠ 0) : l.testBit l.log2 = true := by
  rw [Nat.testBit_eq_decide_div_mod_eq, decide_eq_true_eq]
  have a := Nat.log2_self_le h
  have b : l < 2 ^ (l.log2 + 1) := Nat.lt_log2_self
  have hp : 0 < 2 ^ l.log2 := Nat.two_pow_pos _
  have c : 1 ≤ l / 2 ^ l.log2 := (Nat.le_div_iff_mul_le hp).2 (by omega)
  have d : l / 2 ^ l.log2 < 2 := (Nat.div_lt_iff_lt_mul hp).2 (by rw [Nat.pow_succ] at b; omega)
  omega
theorem log_high {l : Nat} {k : Nat} (hk : l.log2 < k) : l.testBit k = false :=
  Nat.testBit_lt_two_pow (Nat.lt_of_lt_of_le Nat.lt_log2_self (Nat.pow_le_pow_right (n := 2) (by decide) (by omega)))
theorem log_lt {l : Nat} (hl : l < 4294967296) : l.log2 < 32 := by
  by_cases h : l = 0
  · subst h; decide
  · exact (Nat.log2_lt h).2 hl
/-- the first, and what is left without it -/
theorem ranks_first {l : Nat} (h : l ≠ 0) (hl : l < 4294967296) : ranks l = l.log2 :: ranks (clrL l l.log2) := by
  have hb := log_bit h
  have ht := log_lt hl
  have e1 : ranks l = downs l (l.log2 + 1) := downs_skip (by omega) fun k a b => log_high (by omega)
  have e2 : ranks (clrL l l.log2) = downs (clrL l l.log2) l.log2 := downs_skip (by omega) fun k a b => by
    rw [clrL_bit hl]
    by_cases e : k = l.log2
    · subst e; simp
    · rw [log_high (by omega)]; simp
  rw [e1, e2, show downs l (l.log2 + 1) = l.log2 :: downs l l.log2 from by simp [downs, hb]]
  congr 1
  apply downs_congr
  intro k hk
  rw [clrL_bit hl, show decide ((k : Int) = (l.log2 : Int)) = false from by rw [decide_eq_false_iff_not]; omega]
  simp
theorem ranks_nil {l : Nat} (hl : l < 4294967296) (h : ranks l = []) : l = 0 := by
  by_cases e : l = 0
  · exact e
  · rw [ranks_first e hl] at h; cases h
/-- the list as numbers -/
def told (l : Nat) : List Int := (ranks l).map Int.ofNat
theorem told_len (l : Nat) : (told l).length = (ranks l).length := by simp [told]
theorem told_mem {l : Nat} (hl : l < 4294967296) (r : Int) : r ∈ told l ↔ 0 ≤ r ∧ l.testBit r.toNat = true := by
  unfold told
  rw [List.mem_map]
  constructor
  · rintro ⟨k, hk, rfl⟩
    exact ⟨Int.natCast_nonneg k, by simpa using (ranks_mem hl k).1 hk⟩
  · rintro ⟨a, b⟩
    exact ⟨r.toNat, (ranks_mem hl _).2 b, by show ((r.toNat : Nat) : Int) = r; omega⟩
theorem told_nat {l : Nat} (hl : l < 4294967296) (k : Nat) : decide ((k : Int) ∈ told l) = l.testBit k := by
  apply Bool.eq_iff_iff.2
  rw [decide_eq_true_eq, told_mem hl]
  simp
theorem told_zero : told 0 = [] := by decide
theorem told_first {l : Nat} (h : l ≠ 0) (hl : l < 4294967296) : told l = (l.log2 : Int) :: told (clrL l l.log2) := by
  unfold told; rw [ranks_first h hl]; rfl
theorem told_nil {l : Nat} (hl : l < 4294967296) (h : told l = []) : l = 0 := ranks_nil hl (by simpa [told] using h)
/-- how many -/
theorem both_len (a b n : Nat) : (downs (a ||| b) n).length + (downs (a &&& b) n).length = (downs a n).length + (downs b n).length := by
  induction n with
  | zero => rfl
  | succ n ih =>
    unfold downs
    rw [Nat.testBit_or, Nat.testBit_and]
    cases a.testBit n <;> cases b.testBit n <;> simp <;> omega
theorem set_len {l : Nat} (r : Int) (n : Nat) : (downs (setL l r) n).length ≤ (downs l n).length + (if r < n ∧ 0 ≤ r then 1 else 0) := by
  induction n with
  | zero => simp [downs]
  | succ n ih =>
    unfold downs
    rw [setL_bit]
    by_cases e : (n : Int) = r
    · have : (if r < (n : Int) ∧ 0 ≤ r then 1 else 0) = 0 := by rw [if_neg]; omega
      rw [this] at ih
      have h2 : (if r < ((n + 1 : Nat) : Int) ∧ 0 ≤ r then 1 else 0) = 1 := by rw [if_pos]; omega
      rw [h2]
      split <;> split <;> simp <;> omega
    · have h2 : (if r < ((n + 1 : Nat) : Int) ∧ 0 ≤ r then 1 else 0) = (if r < (n : Int) ∧ 0 ≤ r then 1 else 0) := by
        by_cases c : r < (n : Int) ∧ 0 ≤ r
        · rw [if_pos c, if_pos (by omega)]
        · rw [if_neg c, if_neg (by omega)]
      rw [h2, show decide ((n : Int) = r ∧ n < 32) = false from by rw [decide_eq_false_iff_not]; omega, Bool.or_false]
      split <;> simp <;> omega
theorem set_one (l : Nat) (r : Int) : (ranks (setL l r)).length ≤ (ranks l).length + 1 := by
  have := set_len (l := l) r 32
  unfold ranks
  split at this <;> omega
theorem log_or {a b : Nat} (ha : a ≠ 0) (hb : b ≠ 0) : (a ||| b).log2 = max a.log2 b.log2 := by
  have h0 : a ||| b ≠ 0 := by
    intro h
    have := congrArg (fun x => x.testBit a.log2) h
    simp [Nat.testBit_or, log_bit ha] at this
  have h1 := log_bit h0
  rw [Nat.testBit_or, Bool.or_eq_true] at h1
  apply Nat.le_antisymm
  · rcases h1 with h1 | h1
    · rcases Nat.lt_or_ge a.log2 (a ||| b).log2 with c | c
      · rw [log_high c] at h1; cases h1
      · omega
    · rcases Nat.lt_or_ge b.log2 (a ||| b).log2 with c | c
      · rw [log_high c] at h1; cases h1
      · omega
  · apply Nat.max_le.2
    constructor
    · rcases Nat.lt_or_ge (a ||| b).log2 a.log2 with c | c
      · have := log_high c; rw [Nat.testBit_or, log_bit ha] at this; cases this
      · exact c
    · rcases Nat.lt_or_ge (a ||| b).log2 b.log2 with c | c
      · have := log_high c; rw [Nat.testBit_or, log_bit hb, Bool.or_true] at this; cases this
      · exact c
end Go.Proofs.YtjhpiecbolmleaaGreatDoor.Ld
