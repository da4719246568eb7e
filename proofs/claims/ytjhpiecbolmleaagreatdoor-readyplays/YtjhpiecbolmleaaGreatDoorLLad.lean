/- What the functions of package ladders answer, but for the list: the bit of a rank, Set, Clear, First. -/
import Derived.Test.YtjhpiecbolmleaaGreatDoorLPure
import Derived.Test.YtjhpiecbolmleaaGreatDoorRows
import Derived.WalkKit
import Derived.ProofKit
import Derived.OpenShut
import Derived.Lib.BitFns
import Derived.Laws.ShiftsVarLaws
namespace Go.Proofs.YtjhpiecbolmleaaGreatDoor.Ld
open Go Go.RowKit
set_option maxRecDepth 100000
set_option linter.unusedVariables false
theorem bl_log : ∀ (n x : Nat), x < 2 ^ n → n ≤ 64 → x ≠ 0 → Lib.bitLen x = x.log2 + 1
  | 0, x, h, _, h0 => by omega
  | n + 1, x, h, hn, h0 => by
    have h64 : x < 2 ^ 64 := Nat.lt_of_lt_of_le h (Nat.pow_le_pow_right (by decide) hn)
    rw [Lib.bitLen_half x h0 h64]
    by_cases h1 : x / 2 = 0
    · obtain rfl : x = 1 := by omega
      decide
    · rw [bl_log n (x / 2) (by rw [Nat.pow_succ] at h; omega) (by omega) h1]
      have : x.log2 = (x / 2).log2 + 1 := by
        rw [Nat.log2_def x, if_pos (by omega)]
      omega
theorem bl_of {x : Nat} (h : x < 4294967296) (h0 : x ≠ 0) : Lib.bitLen x = x.log2 + 1 := bl_log 32 x h (by decide) h0
theorem wr_k (k a b : Nat) (hk : k ≤ 24) (l : a ≤ 8) (s : b = k + a) : wrap64 ((k : Int) + wrap64 (a : Int)) = (b : Int) := by
  simp only [wrap64]; omega
theorem wr_0 (a : Nat) (l : a ≤ 8) : wrap64 (wrap64 (a : Int)) = (a : Int) := by
  simp only [wrap64]; omega
theorem tab_get (i : Int) (h : i.toNat < Lib.len8tab.size) (h0 : 0 ≤ i) : ((Lib.len8tab[i.toNat]'h).toNat : Int) = (Lib.bitLen i.toNat : Int) := by
  have hs := Lib.len8tab_size
  have e : Lib.len8 i = ((Lib.len8tab[i.toNat]'h).toNat : Int) := by unfold Lib.len8; rw [getElem?_pos Lib.len8tab i.toNat h]; rfl
  rw [← e]
  exact Lib.len8_of i h0 (by omega)
set_option maxHeartbeats 4000000 in
theorem len32_any (x : Int) (w : World) (h0 : 0 ≤ x) (h1 : x ≤ 4294967295) :
    Calls Tryz.prog 65 #[.int .u32 x] w fun e w' => e = .returned (.int .i64 (Lib.bitLen x.toNat)) ∧ w' = w := by
  have hs := Lib.len8tab_size
  go_enter Tryz.func65, Tryz.ntmps65
  go_wp2
  all_goals (go_ret; refine ⟨congrArg Ending.returned (congrArg (Value.int IntKind.i64) ?_), rfl⟩)
  all_goals rw [tab_get _ _ (by omega)]
  · have e : (x / 65536 / 256).toNat = x.toNat / 16777216 := by omega
    have l := Lib.bitLen_le8' (x / 65536 / 256) (by omega) (by omega)
    have s := Lib.bitLen_shift24 x.toNat (by omega) (by omega)
    rw [e] at l ⊢
    exact wr_k _ _ _ (by decide) l s
  · have e : (x / 65536).toNat = x.toNat / 65536 := by omega
    have l := Lib.bitLen_le8' (x / 65536) (by omega) (by omega)
    have s := Lib.bitLen_shift16 x.toNat (by omega) (by omega)
    rw [e] at l ⊢
    exact wr_k _ _ _ (by decide) l s
  · have e : (x / 256).toNat = x.toNat / 256 := by omega
    have l := Lib.bitLen_le8' (x / 256) (by omega) (by omega)
    have s := Lib.bitLen_shift8 x.toNat (by omega) (by omega)
    rw [e] at l ⊢
    exact wr_k _ _ _ (by decide) l s
  · have l := Lib.bitLen_le8' x (by omega) (by omega)
    exact wr_0 _ l
theorem bit_any (r : Int) (w : World) :
    Calls Tryz.prog 94 #[.int .i64 r] w fun e w' => e = .returned (.int .u32 (bitOf r : Nat)) ∧ w' = w := by
  go_enter Tryz.func94, Tryz.ntmps94
  go_wp2
  all_goals (go_ret; refine ⟨congrArg Ending.returned (congrArg (Value.int IntKind.u32) ?_), rfl⟩)
  · unfold bitOf; rw [if_neg (by omega)]; rfl
  · unfold bitOf
    have h : 0 ≤ r ∧ r ≤ 31 := by assumption
    rw [if_pos h]
    have hp : (2 : Int) ^ r.toNat < 2 ^ 32 := Int.pow_lt_pow_of_lt (by decide) (by omega)
    rw [Int.natCast_pow]
    exact Int.emod_eq_of_lt (Int.le_of_lt (Int.pow_pos (by decide))) hp
  · unfold bitOf; rw [if_neg (by omega)]; rfl
theorem set_any (l : Nat) (hl : l < 4294967296) (r : Int) (w : World) :
    Calls Tryz.prog 85 #[.int .u32 (l : Int), .int .i64 r] w fun e w' => e = .returned (.int .u32 (setL l r : Nat)) ∧ w' = w := by
  have hb := bitOf_lt r
  go_enter Tryz.func85, Tryz.ntmps85
  go_wp2_with (go_at_call 94; refine (bit_any r _).mono ?_; rintro e w' ⟨rfl, rfl⟩)
  go_ret
  exact ⟨congrArg Ending.returned (congrArg (Value.int IntKind.u32) (u32_or_nat l _ hl hb)), rfl⟩
theorem clear_any (l : Nat) (hl : l < 4294967296) (r : Int) (w : World) :
    Calls Tryz.prog 62 #[.int .u32 (l : Int), .int .i64 r] w fun e w' => e = .returned (.int .u32 (clrL l r : Nat)) ∧ w' = w := by
  have hb := bitOf_lt r
  go_enter Tryz.func62, Tryz.ntmps62
  go_wp2_with (go_at_call 94; refine (bit_any r _).mono ?_; rintro e w' ⟨rfl, rfl⟩)
  go_ret
  exact ⟨congrArg Ending.returned (congrArg (Value.int IntKind.u32) (u32_andNot_nat l _ hl hb)), rfl⟩
theorem first_yes (l : Nat) (hl : l < 4294967296) (h0 : l ≠ 0) (w : World) :
    Calls Tryz.prog 28 #[.int .u32 (l : Int)] w fun e w' => e = .returned (.tuple #[.int .i64 (l.log2 : Nat), .bool true]) ∧ w' = w := by
  have e1 : Lib.bitLen l = l.log2 + 1 := bl_of hl h0
  have e2 := log_lt hl
  have h1 : ¬ ((l : Int) = 0) := by omega
  go_enter Tryz.func28, Tryz.ntmps28
  go_wp2_with (go_at_call 65; refine (len32_any (l : Int) _ (by omega) (by omega)).mono ?_; rintro e w' ⟨rfl, rfl⟩)
  go_ret2
  exact ⟨rfl, rfl⟩
theorem first_no (w : World) :
    Calls Tryz.prog 28 #[.int .u32 0] w fun e w' => e = .returned (.tuple #[.int .i64 0, .bool false]) ∧ w' = w := by
  go_enter Tryz.func28, Tryz.ntmps28
  go_wp2
  go_ret2
  exact ⟨rfl, rfl⟩
end Go.Proofs.YtjhpiecbolmleaaGreatDoor.Ld
