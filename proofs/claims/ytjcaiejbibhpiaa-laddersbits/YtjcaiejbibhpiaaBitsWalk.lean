/- LaddersBits: a rank has somebody just if its bit is 1; a ladder of one rank is a power of 2. -/
import Derived.Test.YtjcaiejbibhpiaaSeen
namespace Go.Proofs.Ytjcaiejbibhpiaa
open Go Go.RowKit
set_option maxRecDepth 100000
set_option linter.unusedVariables false
theorem bitOf_nat' (k : Nat) (hk : k < 32) : bitOf (k : Int) = 2 ^ k := by
  unfold bitOf; rw [if_pos (by omega)]; simp
theorem one_set (k : Nat) (hk : k < 32) : setL 0 (k : Int) = 2 ^ k := by
  unfold setL; rw [bitOf_nat' k hk]; simp
theorem one_log (k : Nat) (hk : k < 32) : (setL 0 (k : Int)).log2 = k := by
  rw [one_set k hk, Nat.log2_two_pow]
theorem one_ne0 (k : Nat) (hk : k < 32) : setL 0 (k : Int) ≠ 0 := by
  rw [one_set k hk]; exact Nat.ne_of_gt (Nat.two_pow_pos k)
theorem one_clr (k : Nat) (hk : k < 32) : clrL (setL 0 (k : Int)) (k : Int) = 0 := by
  apply bits_eq
  intro j
  rw [clrL_bit (setL_lt (by decide) _), setL_bit]
  by_cases e : (j : Int) = k <;> simp [e]
theorem set_clr {l : Nat} (hl : l < 4294967296) (r : Int) : setL (clrL l r) r = setL l r := by
  apply bits_eq
  intro j
  rw [setL_bit, setL_bit, clrL_bit hl]
  by_cases e : (j : Int) = r
  · by_cases c : j < 32
    · simp [e, c]
    · simp [e, c, high_bit hl (Nat.le_of_not_lt c)]
  · simp [e]
theorem clr_set {l : Nat} (hl : l < 4294967296) (r : Int) : clrL (setL l r) r = clrL l r := by
  apply bits_eq
  intro j
  rw [clrL_bit (setL_lt hl r), clrL_bit hl, setL_bit]
  by_cases e : (j : Int) = r <;> simp [e]
theorem bit_of (l k : Nat) : decide ((l : Int) / 2 ^ k % 2 = 1) = l.testBit k := by
  rw [Nat.testBit_eq_decide_div_mod_eq]
  apply Bool.eq_iff_iff.2
  simp only [decide_eq_true_eq]
  have : ((l : Int) / 2 ^ k % 2) = ((l / 2 ^ k % 2 : Nat) : Int) := by simp
  rw [this]
  omega
theorem one_at (r : Int) (h : 0 ≤ r ∧ r ≤ 31) (w : World) : Calls Try.prog 8 #[.int .u32 0, .int .i64 r] w fun e w' => w' = w ∧ ∃ q : Nat, e = .returned (.int .u32 (q : Int)) ∧ Hid (q = setL 0 r) ∧ q < 4294967296 ∧ q ≠ 0 := by
  obtain ⟨k, rfl⟩ := Int.eq_ofNat_of_zero_le h.1
  exact (set_any 0 (by decide) (k : Int) w).mono fun e w' ⟨he, hw⟩ => ⟨hw, _, he, rfl, setL_lt (by decide) _, one_ne0 k (by omega)⟩
theorem first_one (r : Int) (h : 0 ≤ r ∧ r ≤ 31) (q : Nat) (hq : Hid (q = setL 0 r)) (w : World) : Calls Try.prog 15 #[.int .u32 (q : Int)] w fun e w' => e = .returned (.tuple #[.int .i64 r, .bool true]) ∧ w' = w := by
  obtain ⟨k, rfl⟩ := Int.eq_ofNat_of_zero_le h.1
  have hk : k < 32 := by omega
  refine first_n q k ?_ ?_ ?_ w
  · rw [hq.out]; exact setL_lt (by decide) _
  · rw [hq.out]; exact one_ne0 k hk
  · rw [hq.out]; exact one_log k hk
theorem and_one (x : Int) (h : 0 ≤ x ∧ x < 4294967296) : bits .and .u32 x 1 = x % 2 := by
  rw [u32_and x 1 h.1 h.2 (by decide) (by decide), show (1 : Int).toNat = 1 from rfl, Nat.and_one_is_mod]
  omega
theorem has_bit {w : World} {sp : Option Addr} {l : Nat} (hl : l < 4294967296) (hs : Src w sp (told l)) (c : Nat) (r : Int) (h : 0 ≤ r ∧ r ≤ 31) :
    Calls Try.prog 13 #[.slice sp (told l).length c, .int .i64 r] w fun e w' => e = .returned (.bool (bits .and .u32 ((l : Int) / 2 ^ r.toNat) 1 == 1)) ∧ w' = w := by
  have hp : (0 : Int) < 2 ^ r.toNat := Int.pow_pos (by decide)
  have h1 : 0 ≤ (l : Int) / 2 ^ r.toNat := Int.ediv_nonneg (by omega) (by omega)
  have h2 : (l : Int) / 2 ^ r.toNat ≤ l := Int.ediv_le_self _ (by omega)
  refine (has_any hs (by have := told_le l; omega) c r).mono fun e w' ⟨he, hw⟩ => ⟨?_, hw⟩
  rw [he, and_one _ ⟨h1, by omega⟩]
  congr 2
  obtain ⟨k, rfl⟩ := Int.eq_ofNat_of_zero_le h.1
  rw [told_nat hl, ← bit_of]
  simp [BEq.beq]
theorem one_pow (r : Int) (h : 0 ≤ r ∧ r ≤ 31) (q : Nat) (hq : Hid (q = setL 0 r)) : ((q : Int) == 2 ^ r.toNat % 4294967296) = true := by
  obtain ⟨k, rfl⟩ := Int.eq_ofNat_of_zero_le h.1
  rw [hq.out, one_set k (by omega), beq_iff_eq, Int.toNat_natCast, Int.natCast_pow]
  exact (Int.emod_eq_of_lt (Int.le_of_lt (Int.pow_pos (by decide))) (Int.pow_lt_pow_of_lt (a := 2) (b := k) (c := 32) (by decide) (by omega))).symm
theorem clr_one (r : Int) (h : 0 ≤ r ∧ r ≤ 31) (q : Nat) (hq : Hid (q = setL 0 r)) (w : World) : Calls Try.prog 10 #[.int .u32 (q : Int), .int .i64 r] w fun e w' => e = .returned (.int .u32 0) ∧ w' = w := by
  obtain ⟨k, rfl⟩ := Int.eq_ofNat_of_zero_le h.1
  have hk : k < 32 := by omega
  refine clear_n q k 0 ?_ ?_ w
  · rw [hq.out]; exact setL_lt (by decide) _
  · rw [hq.out]; exact one_clr k hk
set_option maxHeartbeats 2000000 in
theorem bits_any (l : Nat) (hl : l < 4294967296) (m : Int) (hm : 0 ≤ m ∧ m ≤ 255) (w : World) :
    Calls Try.prog 7 #[.int .u32 (l : Int), .int .u8 m] w fun e w' => e = .returned (.bool true) ∧ Below w.heap.size w w' := by
  have HR : Hid (0 ≤ m % 32 ∧ m % 32 ≤ 31) := ⟨by omega, by omega⟩
  go_enter Try.func7, Try.ntmps7
  go_wp2_with (first
    | (go_at_call 15; refine (first_one _ HR.out _ hq _).mono ?_; rintro e w' ⟨rfl, rfl⟩)
    | (go_at_call 14; refine (alive_any _).mono ?_; rintro e w1 ⟨rfl, hB⟩)
    | (go_at_call 12; refine (list_src l hl _).mono ?_; rintro e w2 ⟨sp, cap, rfl, hs, hb⟩; replace hB := hB.trans (hb.mono hB.size))
    | (go_at_call 13; refine (has_bit hl hs _ _ HR.out).mono ?_; rintro e w' ⟨rfl, rfl⟩)
    | (go_at_call_of 8 (Value.int IntKind.u32 0); refine (one_at _ HR.out _).mono ?_; rintro e w' ⟨rfl, q, rfl, hq, hq1, hq0⟩; have hq2 := one_pow _ HR.out q hq)
    | (go_at_call_of 10 (Value.int IntKind.u32 (q : Int)); refine (clr_one _ HR.out _ hq _).mono ?_; rintro e w' ⟨rfl, rfl⟩)
    | (go_at_call_of 10 (Value.int IntKind.u32 (l : Int)); refine (clear_any l hl _ _).mono ?_; rintro e w' ⟨rfl, rfl⟩)
    | (go_at_call_of 8 (Value.int IntKind.u32 (l : Int)); refine (set_any l hl _ _).mono ?_; rintro e w' ⟨rfl, rfl⟩)
    | (go_at_call 8; refine (set_n _ _ _ (clrL_lt hl _) (set_clr hl _) _).mono ?_; rintro e w' ⟨rfl, rfl⟩)
    | (go_at_call 10; refine (clear_n _ _ _ (setL_lt hl _) (clr_set hl _) _).mono ?_; rintro e w' ⟨rfl, rfl⟩))
  go_ret
  exact ⟨rfl, hB⟩
theorem bits_row (a : Int) (b : 0 ≤ a ∧ a ≤ 4294967295) (m : Int) (hm : 0 ≤ m ∧ m ≤ 255) (w : World) :
    Calls Try.prog 7 #[.int .u32 a, .int .u8 m] w fun e w' => e = .returned (.bool true) ∧ Below w.heap.size w w' := by
  obtain ⟨l, rfl⟩ := Int.eq_ofNat_of_zero_le b.1
  exact bits_any l (by omega) m hm w
end Go.Proofs.Ytjcaiejbibhpiaa
