/- What may not be made. -/
import Derived.Test.YteicnekoogmmmaaGreatDoorKinds
namespace Go.Proofs.YteicnekoogmmmaaGreatDoor
open Go Go.RowKit
set_option maxRecDepth 100000
set_option linter.unusedVariables false
/-- of what a thing may be made -/
def May (k a b : Int) : Prop := (k = 1 ∧ a ≤ b ∧ 1 ≤ b ∧ b ≤ 1073741824) ∨ (k = 2 ∧ a = 0 ∧ b = 0) ∨ (k = 3 ∧ 1 ≤ a ∧ a ≤ 64 ∧ b = 0) ∨ (k = 4 ∧ b = 0) ∨ (k = 5 ∧ 1 ≤ a ∧ a ≤ 64 ∧ 1 ≤ b ∧ b ≤ 256) ∨ (k = 6 ∧ a ≠ 0)
set_option maxHeartbeats 1000000 in
theorem no_sem {w : World} {a b : Int} (h : ¬ (a ≤ b ∧ 1 ≤ b ∧ b ≤ 1073741824)) :
    Calls Tryz.prog 16 #[.agg #[.int .u8 1, .int .u32 a, .int .u32 b]] w fun e w' => e = .returned .nilIface ∧ Below w.heap.size w w' := by
  by_cases a1 : a ≤ b
  · by_cases a2 : 1 ≤ b
    · have a3 : ¬ b ≤ 1073741824 := fun h3 => h ⟨a1, a2, h3⟩
      clear h
      go_enter Tryz.func16, Tryz.ntmps16
      go_wp2
      go_ret
      exact ⟨rfl, alloc_below _ _⟩
    · clear h
      go_enter Tryz.func16, Tryz.ntmps16
      go_wp2
      go_ret
      exact ⟨rfl, alloc_below _ _⟩
  · clear h
    go_enter Tryz.func16, Tryz.ntmps16
    go_wp2
    go_ret
    exact ⟨rfl, alloc_below _ _⟩
set_option maxHeartbeats 1000000 in
theorem no_mut {w : World} {a b : Int} (h : ¬ (a = 0 ∧ b = 0)) :
    Calls Tryz.prog 16 #[.agg #[.int .u8 2, .int .u32 a, .int .u32 b]] w fun e w' => e = .returned .nilIface ∧ Below w.heap.size w w' := by
  by_cases a1 : a = 0
  · subst a1
    have a2 : (b == 0) = false := by simpa using h
    clear h
    go_enter Tryz.func16, Tryz.ntmps16
    go_wp2
    go_ret
    exact ⟨rfl, alloc_below _ _⟩
  · have a2 : (a == 0) = false := by simpa using a1
    clear h a1
    go_enter Tryz.func16, Tryz.ntmps16
    go_wp2
    go_ret
    exact ⟨rfl, alloc_below _ _⟩
set_option maxHeartbeats 1000000 in
theorem no_flg {w : World} {a b : Int} (h : b ≠ 0) :
    Calls Tryz.prog 16 #[.agg #[.int .u8 4, .int .u32 a, .int .u32 b]] w fun e w' => e = .returned .nilIface ∧ Below w.heap.size w w' := by
  have a2 : (b == 0) = false := by simpa using h
  clear h
  go_enter Tryz.func16, Tryz.ntmps16
  go_wp2
  go_ret
  exact ⟨rfl, alloc_below _ _⟩
set_option maxHeartbeats 1000000 in
theorem no_ala {w : World} {b : Int} :
    Calls Tryz.prog 16 #[.agg #[.int .u8 6, .int .u32 0, .int .u32 b]] w fun e w' => e = .returned .nilIface ∧ Below w.heap.size w w' := by
  go_enter Tryz.func16, Tryz.ntmps16
  go_wp2
  go_ret
  exact ⟨rfl, alloc_below _ _⟩
set_option maxHeartbeats 1000000 in
theorem no_kind {w : World} {k a b : Int} (h : k < 1 ∨ 6 < k) :
    Calls Tryz.prog 16 #[.agg #[.int .u8 k, .int .u32 a, .int .u32 b]] w fun e w' => e = .returned .nilIface ∧ Below w.heap.size w w' := by
  have h1 : (k == 1) = false := by simp; omega
  have h2 : (k == 2) = false := by simp; omega
  have h3 : (k == 3) = false := by simp; omega
  have h4 : (k == 4) = false := by simp; omega
  have h5 : (k == 5) = false := by simp; omega
  have h6 : (k == 6) = false := by simp; omega
  clear h
  go_enter Tryz.func16, Tryz.ntmps16
  go_wp2
  go_ret
  exact ⟨rfl, alloc_below _ _⟩
theorem wrap_a {n : Nat} (h : n ≤ 4294967295) : IntKind.i64.wrap ((n : Nat) : Int) = (n : Nat) := by
  simp only [IntKind.wrap]
  go_arith
set_option maxHeartbeats 1000000 in
theorem no_row {w : World} {b : Int} (n : Nat) (hn : n ≤ 4294967295) (h : ¬ (1 ≤ n ∧ n ≤ 64 ∧ b = 0)) :
    Calls Tryz.prog 16 #[.agg #[.int .u8 3, .int .u32 (n : Nat), .int .u32 b]] w fun e w' => e = .returned .nilIface ∧ Below w.heap.size w w' := by
  have hwr := wrap_a hn
  by_cases h1 : 1 ≤ n ∧ n ≤ 64
  · have a2 : (b == 0) = false := by simp; exact fun e => h ⟨h1.1, h1.2, e⟩
    have HC : Hid (1 ≤ n ∧ n ≤ 64) := h1
    clear h h1 hn
    go_enter Tryz.func16, Tryz.ntmps16
    go_wp2_with (first
      | (go_at_call 50; refine (new_yes n HC.out.1 HC.out.2).mono ?_; rintro e w1 ⟨rfl, hq, hb⟩; have k2 : w1.cell? ⟨w.heap.size, 2, none⟩ = some (.int .u32 b) := (by rw [cell_of ((hb.block w.heap.size (by simp)).trans (alloc_at w _))]; rfl); have HB : Hid (Below w.heap.size w w1) := (alloc_below w _).trans (hb.mono (by simp)); clear hq hb))
    go_ret
    exact ⟨rfl, HB.out⟩
  · have HC : Hid ((n : Int) < 1 ∨ 64 < (n : Int)) := by show _ ∨ _; omega
    clear h h1 hn
    go_enter Tryz.func16, Tryz.ntmps16
    go_wp2_with (first
      | (go_at_call 50; refine (new_no _ HC.out).mono ?_; rintro e w1 ⟨rfl, rfl⟩))
    go_ret
    exact ⟨rfl, alloc_below _ _⟩
set_option maxHeartbeats 1000000 in
theorem no_pool {w : World} (n m : Nat) (hn : n ≤ 4294967295) (hm : m ≤ 4294967295) (h : ¬ (1 ≤ n ∧ n ≤ 64 ∧ 1 ≤ m ∧ m ≤ 256)) :
    Calls Tryz.prog 16 #[.agg #[.int .u8 5, .int .u32 (n : Nat), .int .u32 (m : Nat)]] w fun e w' => e = .returned .nilIface ∧ Below w.heap.size w w' := by
  have hwr := wrap_a hn
  have hwm := wrap_a hm
  have HC : Hid ((n : Int) < 1 ∨ 64 < (n : Int) ∨ (m : Int) < 1 ∨ 256 < (m : Int)) := by show _ ∨ _; omega
  clear h hn hm
  go_enter Tryz.func16, Tryz.ntmps16
  go_wp2_with (first
    | (go_at_call 51; refine (Pl.new_no _ _ HC.out).mono ?_; rintro e w1 ⟨rfl, rfl⟩))
  go_ret
  exact ⟨rfl, alloc_below _ _⟩
theorem no_part {w : World} {k a b : Int} (ha : 0 ≤ a ∧ a ≤ 4294967295) (hb : 0 ≤ b ∧ b ≤ 4294967295) (h : ¬ May k a b) :
    Calls Tryz.prog 16 #[.agg #[.int .u8 k, .int .u32 a, .int .u32 b]] w fun e w' => e = .returned .nilIface ∧ Below w.heap.size w w' := by
  unfold May at h
  obtain ⟨n, rfl⟩ := Int.eq_ofNat_of_zero_le ha.1
  obtain ⟨m, rfl⟩ := Int.eq_ofNat_of_zero_le hb.1
  by_cases h1 : k = 1
  · subst h1; exact no_sem (by omega)
  by_cases h2 : k = 2
  · subst h2; exact no_mut (by omega)
  by_cases h3 : k = 3
  · subst h3; exact no_row n (by omega) (by omega)
  by_cases h4 : k = 4
  · subst h4; exact no_flg (by omega)
  by_cases h5 : k = 5
  · subst h5; exact no_pool n m (by omega) (by omega) (by omega)
  by_cases h6 : k = 6
  · subst h6
    obtain rfl : n = 0 := by omega
    exact no_ala
  exact no_kind (by omega)
theorem new_none {w : World} {k a b : Int} (ha : 0 ≤ a ∧ a ≤ 4294967295) (hb : 0 ≤ b ∧ b ≤ 4294967295) (h : ¬ May k a b) :
    Calls Tryz.prog 5 #[.agg #[.int .u8 k, .int .u32 a, .int .u32 b]] w fun e w' => e = .returned (.tuple #[.pointer none, .int .i64 1]) ∧ Below w.heap.size w w' := by
  have HC := no_part (w := w.alloc (.cells #[.int .u8 k, .int .u32 a, .int .u32 b] 25)) ha hb h
  clear h ha hb
  go_enter Tryz.func5, Tryz.ntmps5
  go_wp2_with (first
    | (go_at_call 16; refine HC.mono ?_; rintro e w1 ⟨rfl, hb⟩; have HB : Hid (Below w.heap.size w w1) := (alloc_below w _).trans (hb.mono (by simp)); clear hb))
  go_ret2
  exact ⟨rfl, HB.out⟩
end Go.Proofs.YteicnekoogmmmaaGreatDoor
