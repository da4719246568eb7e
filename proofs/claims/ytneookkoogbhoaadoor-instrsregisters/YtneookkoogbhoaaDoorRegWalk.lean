/- 'InstrsRegisters', walked: Op by Op, and field by field. -/
import Derived.Test.YtneookkoogbhoaaDoorAlive
import Derived.Test.YtneookkoogbhoaaDoorRef
namespace Go.Proofs.YtneookkoogbhoaaDoor
open Go Go.RowKit
set_option maxRecDepth 100000
set_option linter.unusedSimpArgs false
theorem may_lit (o : Nat) (a b c : Int) (ho : o < 23) : may o a b c = chk (ksOf o) [a, b, c] := by unfold may; rw [wrt_chk]; simp [ho]
set_option maxHeartbeats 2000000 in
theorem reg_0 (a b c : Int) (ha : byte a) (hb : byte b) (hc : byte c) (w : World) (hE : Env3 w) :
    Calls Tryd.prog 7 #[.int .u8 0, .agg #[.int .u8 a, .int .u8 b, .int .u8 c]] w fun e w' => e = .returned (.bool true) ∧ Below w.heap.size w w' := by
  have HE : Hid (Env3 w) := hE
  have Ha : Hid (byte a) := ha
  have Hb : Hid (byte b) := hb
  have Hc : Hid (byte c) := hc
  have Hm : Hid (may 0 a b c = (decide (a = 0) && (decide (b = 0) && decide (c = 0)))) := by
    show _ = _
    rw [may_lit 0 a b c (by decide)]
    simp [show ksOf 0 = [] from rfl, chk, kSz, kOk1 a _ Ha.out.1 Ha.out.2, kOk1 b _ Hb.out.1 Hb.out.2, kOk1 c _ Hc.out.1 Hc.out.2, kOk2 c _ Hc.out.1 Hc.out.2, kOk3 c _ Hc.out.1 Hc.out.2, kOk4 a b Ha.out.1 Ha.out.2 Hb.out.1 Hb.out.2, kOk4 b c Hb.out.1 Hb.out.2 Hc.out.1 Hc.out.2, kOk5 a _ Ha.out.1 Ha.out.2] <;> try (rw [Bool.eq_iff_iff]; simp; try omega)
  clear hE ha hb hc
  obtain a0 | ⟨rfl, b0⟩ | ⟨rfl, rfl, c0⟩ | ⟨rfl, rfl, rfl⟩ : a ≠ 0 ∨ (a = 0 ∧ b ≠ 0) ∨ (a = 0 ∧ b = 0 ∧ c ≠ 0) ∨ (a = 0 ∧ b = 0 ∧ c = 0) := by omega
  all_goals (
    go_enter Tryd.func7, Tryd.ntmps7
    go_wp2_with (first
      | (go_at_call 20; refine (alive_any _ (HE.out.on (((Below.refl _ _).alloc (Nat.le_refl _) _).alloc (by simp) _))).mono ?_; rintro e w1 ⟨rfl, hb1⟩
         have z1 : w.heap.size + 1 < w1.heap.size := by have := hb1.size; simp at this; omega
         have hca := (bcell hb1).1
         have hfa := (bcell hb1).2
         have HB : Hid (Below w.heap.size w w1) := (((Below.refl _ _).alloc (Nat.le_refl _) _).alloc (by simp) _).trans (hb1.mono (by simp; omega)))
      | (go_at_call 11; refine (Check_any 0 (by omega) _ _ _ _ (HE.out.on HB.out).two.env Ha.out Hb.out Hc.out).mono ?_; rintro e w2 ⟨rfl, hb2⟩))
    go_ret
    refine ⟨?_, HB.out.trans (hb2.mono (by omega))⟩
    simp [Hm.out, *])
set_option maxHeartbeats 2000000 in
theorem reg_22 (a b c : Int) (ha : byte a) (hb : byte b) (hc : byte c) (w : World) (hE : Env3 w) :
    Calls Tryd.prog 7 #[.int .u8 22, .agg #[.int .u8 a, .int .u8 b, .int .u8 c]] w fun e w' => e = .returned (.bool true) ∧ Below w.heap.size w w' := by
  have HE : Hid (Env3 w) := hE
  have Ha : Hid (byte a) := ha
  have Hb : Hid (byte b) := hb
  have Hc : Hid (byte c) := hc
  have Hm : Hid (may 22 a b c = (decide (a = 0) && (decide (b = 0) && decide (c = 0)))) := by
    show _ = _
    rw [may_lit 22 a b c (by decide)]
    simp [show ksOf 22 = [] from rfl, chk, kSz, kOk1 a _ Ha.out.1 Ha.out.2, kOk1 b _ Hb.out.1 Hb.out.2, kOk1 c _ Hc.out.1 Hc.out.2, kOk2 c _ Hc.out.1 Hc.out.2, kOk3 c _ Hc.out.1 Hc.out.2, kOk4 a b Ha.out.1 Ha.out.2 Hb.out.1 Hb.out.2, kOk4 b c Hb.out.1 Hb.out.2 Hc.out.1 Hc.out.2, kOk5 a _ Ha.out.1 Ha.out.2] <;> try (rw [Bool.eq_iff_iff]; simp; try omega)
  clear hE ha hb hc
  obtain a0 | ⟨rfl, b0⟩ | ⟨rfl, rfl, c0⟩ | ⟨rfl, rfl, rfl⟩ : a ≠ 0 ∨ (a = 0 ∧ b ≠ 0) ∨ (a = 0 ∧ b = 0 ∧ c ≠ 0) ∨ (a = 0 ∧ b = 0 ∧ c = 0) := by omega
  all_goals (
    go_enter Tryd.func7, Tryd.ntmps7
    go_wp2_with (first
      | (go_at_call 20; refine (alive_any _ (HE.out.on (((Below.refl _ _).alloc (Nat.le_refl _) _).alloc (by simp) _))).mono ?_; rintro e w1 ⟨rfl, hb1⟩
         have z1 : w.heap.size + 1 < w1.heap.size := by have := hb1.size; simp at this; omega
         have hca := (bcell hb1).1
         have hfa := (bcell hb1).2
         have HB : Hid (Below w.heap.size w w1) := (((Below.refl _ _).alloc (Nat.le_refl _) _).alloc (by simp) _).trans (hb1.mono (by simp; omega)))
      | (go_at_call 11; refine (Check_any 22 (by omega) _ _ _ _ (HE.out.on HB.out).two.env Ha.out Hb.out Hc.out).mono ?_; rintro e w2 ⟨rfl, hb2⟩))
    go_ret
    refine ⟨?_, HB.out.trans (hb2.mono (by omega))⟩
    simp [Hm.out, *])
set_option maxHeartbeats 2000000 in
theorem reg_1 (a b c : Int) (ha : byte a) (hb : byte b) (hc : byte c) (w : World) (hE : Env3 w) :
    Calls Tryd.prog 7 #[.int .u8 1, .agg #[.int .u8 a, .int .u8 b, .int .u8 c]] w fun e w' => e = .returned (.bool true) ∧ Below w.heap.size w w' := by
  have HE : Hid (Env3 w) := hE
  have Ha : Hid (byte a) := ha
  have Hb : Hid (byte b) := hb
  have Hc : Hid (byte c) := hc
  have Hm : Hid (may 1 a b c = (decide (a ≤ 7))) := by
    show _ = _
    rw [may_lit 1 a b c (by decide)]
    simp [show ksOf 1 = [1, 4] from rfl, chk, kSz, kOk1 a _ Ha.out.1 Ha.out.2, kOk1 b _ Hb.out.1 Hb.out.2, kOk1 c _ Hc.out.1 Hc.out.2, kOk2 c _ Hc.out.1 Hc.out.2, kOk3 c _ Hc.out.1 Hc.out.2, kOk4 a b Ha.out.1 Ha.out.2 Hb.out.1 Hb.out.2, kOk4 b c Hb.out.1 Hb.out.2 Hc.out.1 Hc.out.2, kOk5 a _ Ha.out.1 Ha.out.2] <;> try (rw [Bool.eq_iff_iff]; simp; try omega)
  clear hE ha hb hc
  by_cases a7 : a ≤ 7
  all_goals (
    go_enter Tryd.func7, Tryd.ntmps7
    go_wp2_with (first
      | (go_at_call 20; refine (alive_any _ (HE.out.on (((Below.refl _ _).alloc (Nat.le_refl _) _).alloc (by simp) _))).mono ?_; rintro e w1 ⟨rfl, hb1⟩
         have z1 : w.heap.size + 1 < w1.heap.size := by have := hb1.size; simp at this; omega
         have hca := (bcell hb1).1
         have hfa := (bcell hb1).2
         have HB : Hid (Below w.heap.size w w1) := (((Below.refl _ _).alloc (Nat.le_refl _) _).alloc (by simp) _).trans (hb1.mono (by simp; omega)))
      | (go_at_call 11; refine (Check_any 1 (by omega) _ _ _ _ (HE.out.on HB.out).two.env Ha.out Hb.out Hc.out).mono ?_; rintro e w2 ⟨rfl, hb2⟩))
    go_ret
    refine ⟨?_, HB.out.trans (hb2.mono (by omega))⟩
    simp [Hm.out, *])
set_option maxHeartbeats 2000000 in
theorem reg_2 (a b c : Int) (ha : byte a) (hb : byte b) (hc : byte c) (w : World) (hE : Env3 w) :
    Calls Tryd.prog 7 #[.int .u8 2, .agg #[.int .u8 a, .int .u8 b, .int .u8 c]] w fun e w' => e = .returned (.bool true) ∧ Below w.heap.size w w' := by
  have HE : Hid (Env3 w) := hE
  have Ha : Hid (byte a) := ha
  have Hb : Hid (byte b) := hb
  have Hc : Hid (byte c) := hc
  have Hm : Hid (may 2 a b c = (decide (a ≤ 7) && (decide (b ≤ 7) && decide (c = 0)))) := by
    show _ = _
    rw [may_lit 2 a b c (by decide)]
    simp [show ksOf 2 = [1, 1] from rfl, chk, kSz, kOk1 a _ Ha.out.1 Ha.out.2, kOk1 b _ Hb.out.1 Hb.out.2, kOk1 c _ Hc.out.1 Hc.out.2, kOk2 c _ Hc.out.1 Hc.out.2, kOk3 c _ Hc.out.1 Hc.out.2, kOk4 a b Ha.out.1 Ha.out.2 Hb.out.1 Hb.out.2, kOk4 b c Hb.out.1 Hb.out.2 Hc.out.1 Hc.out.2, kOk5 a _ Ha.out.1 Ha.out.2] <;> try (rw [Bool.eq_iff_iff]; simp; try omega)
  clear hE ha hb hc
  obtain a7 | ⟨a7, b7⟩ | ⟨a7, b7, c0⟩ | ⟨a7, b7, rfl⟩ : ¬ a ≤ 7 ∨ (a ≤ 7 ∧ ¬ b ≤ 7) ∨ (a ≤ 7 ∧ b ≤ 7 ∧ c ≠ 0) ∨ (a ≤ 7 ∧ b ≤ 7 ∧ c = 0) := by omega
  all_goals (
    go_enter Tryd.func7, Tryd.ntmps7
    go_wp2_with (first
      | (go_at_call 20; refine (alive_any _ (HE.out.on (((Below.refl _ _).alloc (Nat.le_refl _) _).alloc (by simp) _))).mono ?_; rintro e w1 ⟨rfl, hb1⟩
         have z1 : w.heap.size + 1 < w1.heap.size := by have := hb1.size; simp at this; omega
         have hca := (bcell hb1).1
         have hfa := (bcell hb1).2
         have HB : Hid (Below w.heap.size w w1) := (((Below.refl _ _).alloc (Nat.le_refl _) _).alloc (by simp) _).trans (hb1.mono (by simp; omega)))
      | (go_at_call 11; refine (Check_any 2 (by omega) _ _ _ _ (HE.out.on HB.out).two.env Ha.out Hb.out Hc.out).mono ?_; rintro e w2 ⟨rfl, hb2⟩))
    go_ret
    refine ⟨?_, HB.out.trans (hb2.mono (by omega))⟩
    simp [Hm.out, *])
set_option maxHeartbeats 2000000 in
theorem reg_3 (o : Nat) (h3 : 3 ≤ o) (h10 : o ≤ 10) (a b c : Int) (ha : byte a) (hb : byte b) (hc : byte c) (w : World) (hE : Env3 w) :
    Calls Tryd.prog 7 #[.int .u8 o, .agg #[.int .u8 a, .int .u8 b, .int .u8 c]] w fun e w' => e = .returned (.bool true) ∧ Below w.heap.size w w' := by
  have HE : Hid (Env3 w) := hE
  have Ha : Hid (byte a) := ha
  have Hb : Hid (byte b) := hb
  have Hc : Hid (byte c) := hc
  have Hm : Hid (may o a b c = (decide (a ≤ 7) && (decide (b ≤ 7) && decide (c ≤ 7)))) := by
    show _ = _
    rw [may_lit o a b c (by omega)]
    have hk : ksOf o = [1, 1, 1] := by
      obtain rfl | rfl | rfl | rfl | rfl | rfl | rfl | rfl : o = 3 ∨ o = 4 ∨ o = 5 ∨ o = 6 ∨ o = 7 ∨ o = 8 ∨ o = 9 ∨ o = 10 := by omega
      all_goals decide
    simp [hk, chk, kSz, kOk1 a _ Ha.out.1 Ha.out.2, kOk1 b _ Hb.out.1 Hb.out.2, kOk1 c _ Hc.out.1 Hc.out.2, kOk2 c _ Hc.out.1 Hc.out.2, kOk3 c _ Hc.out.1 Hc.out.2, kOk4 a b Ha.out.1 Ha.out.2 Hb.out.1 Hb.out.2, kOk4 b c Hb.out.1 Hb.out.2 Hc.out.1 Hc.out.2, kOk5 a _ Ha.out.1 Ha.out.2]
  have o1 : (3 : Int) ≤ (o : Int) := by omega
  have o2 : (o : Int) ≤ 10 := by omega
  have q0 : ((o : Int) == 0) = false := by rw [beq_eq_false_iff_ne]; omega
  have r0 : ¬ (o : Int) = 0 := by omega
  have q22 : ((o : Int) == 22) = false := by rw [beq_eq_false_iff_ne]; omega
  have r22 : ¬ (o : Int) = 22 := by omega
  have q1 : ((o : Int) == 1) = false := by rw [beq_eq_false_iff_ne]; omega
  have r1 : ¬ (o : Int) = 1 := by omega
  have q2 : ((o : Int) == 2) = false := by rw [beq_eq_false_iff_ne]; omega
  have r2 : ¬ (o : Int) = 2 := by omega
  have q19 : ((o : Int) == 19) = false := by rw [beq_eq_false_iff_ne]; omega
  have r19 : ¬ (o : Int) = 19 := by omega
  have q20 : ((o : Int) == 20) = false := by rw [beq_eq_false_iff_ne]; omega
  have r20 : ¬ (o : Int) = 20 := by omega
  have q21 : ((o : Int) == 21) = false := by rw [beq_eq_false_iff_ne]; omega
  have r21 : ¬ (o : Int) = 21 := by omega
  clear hE ha hb hc
  obtain a7 | ⟨a7, b7⟩ | ⟨a7, b7, c7⟩ | ⟨a7, b7, c7⟩ : ¬ a ≤ 7 ∨ (a ≤ 7 ∧ ¬ b ≤ 7) ∨ (a ≤ 7 ∧ b ≤ 7 ∧ ¬ c ≤ 7) ∨ (a ≤ 7 ∧ b ≤ 7 ∧ c ≤ 7) := by omega
  all_goals (
    go_enter Tryd.func7, Tryd.ntmps7
    go_wp2_with (first
      | (go_at_call 20; refine (alive_any _ (HE.out.on (((Below.refl _ _).alloc (Nat.le_refl _) _).alloc (by simp) _))).mono ?_; rintro e w1 ⟨rfl, hb1⟩
         have z1 : w.heap.size + 1 < w1.heap.size := by have := hb1.size; simp at this; omega
         have hca := (bcell hb1).1
         have hfa := (bcell hb1).2
         have HB : Hid (Below w.heap.size w w1) := (((Below.refl _ _).alloc (Nat.le_refl _) _).alloc (by simp) _).trans (hb1.mono (by simp; omega)))
      | (go_at_call 11; refine (Check_any o (by omega) _ _ _ _ (HE.out.on HB.out).two.env Ha.out Hb.out Hc.out).mono ?_; rintro e w2 ⟨rfl, hb2⟩))
    go_ret
    refine ⟨?_, HB.out.trans (hb2.mono (by omega))⟩
    simp [Hm.out, *])
set_option maxHeartbeats 2000000 in
theorem reg_11 (o : Nat) (h11 : 11 ≤ o) (h18 : o ≤ 18) (a b c : Int) (ha : byte a) (hb : byte b) (hc : byte c) (w : World) (hE : Env3 w) :
    Calls Tryd.prog 7 #[.int .u8 o, .agg #[.int .u8 a, .int .u8 b, .int .u8 c]] w fun e w' => e = .returned (.bool true) ∧ Below w.heap.size w w' := by
  have HE : Hid (Env3 w) := hE
  have Ha : Hid (byte a) := ha
  have Hb : Hid (byte b) := hb
  have Hc : Hid (byte c) := hc
  have Hm : Hid (may o a b c = (decide (a ≤ 7) && decide (b ≤ 7))) := by
    show _ = _
    rw [may_lit o a b c (by omega)]
    have hk : ksOf o = [1, 1, 2] ∨ ksOf o = [1, 1, 3] := by
      obtain rfl | rfl | rfl | rfl | rfl | rfl | rfl | rfl : o = 11 ∨ o = 12 ∨ o = 13 ∨ o = 14 ∨ o = 15 ∨ o = 16 ∨ o = 17 ∨ o = 18 := by omega
      all_goals decide
    rcases hk with hk | hk <;> simp [hk, chk, kSz, kOk1 a _ Ha.out.1 Ha.out.2, kOk1 b _ Hb.out.1 Hb.out.2, kOk1 c _ Hc.out.1 Hc.out.2, kOk2 c _ Hc.out.1 Hc.out.2, kOk3 c _ Hc.out.1 Hc.out.2, kOk4 a b Ha.out.1 Ha.out.2 Hb.out.1 Hb.out.2, kOk4 b c Hb.out.1 Hb.out.2 Hc.out.1 Hc.out.2, kOk5 a _ Ha.out.1 Ha.out.2]
  have o1 : (11 : Int) ≤ (o : Int) := by omega
  have o2 : (o : Int) ≤ 18 := by omega
  have q0 : ((o : Int) == 0) = false := by rw [beq_eq_false_iff_ne]; omega
  have r0 : ¬ (o : Int) = 0 := by omega
  have q22 : ((o : Int) == 22) = false := by rw [beq_eq_false_iff_ne]; omega
  have r22 : ¬ (o : Int) = 22 := by omega
  have q1 : ((o : Int) == 1) = false := by rw [beq_eq_false_iff_ne]; omega
  have r1 : ¬ (o : Int) = 1 := by omega
  have q2 : ((o : Int) == 2) = false := by rw [beq_eq_false_iff_ne]; omega
  have r2 : ¬ (o : Int) = 2 := by omega
  have q19 : ((o : Int) == 19) = false := by rw [beq_eq_false_iff_ne]; omega
  have r19 : ¬ (o : Int) = 19 := by omega
  have q20 : ((o : Int) == 20) = false := by rw [beq_eq_false_iff_ne]; omega
  have r20 : ¬ (o : Int) = 20 := by omega
  have q21 : ((o : Int) == 21) = false := by rw [beq_eq_false_iff_ne]; omega
  have r21 : ¬ (o : Int) = 21 := by omega
  clear hE ha hb hc
  obtain a7 | ⟨a7, b7⟩ | ⟨a7, b7⟩ : ¬ a ≤ 7 ∨ (a ≤ 7 ∧ ¬ b ≤ 7) ∨ (a ≤ 7 ∧ b ≤ 7) := by omega
  all_goals (
    go_enter Tryd.func7, Tryd.ntmps7
    go_wp2_with (first
      | (go_at_call 20; refine (alive_any _ (HE.out.on (((Below.refl _ _).alloc (Nat.le_refl _) _).alloc (by simp) _))).mono ?_; rintro e w1 ⟨rfl, hb1⟩
         have z1 : w.heap.size + 1 < w1.heap.size := by have := hb1.size; simp at this; omega
         have hca := (bcell hb1).1
         have hfa := (bcell hb1).2
         have HB : Hid (Below w.heap.size w w1) := (((Below.refl _ _).alloc (Nat.le_refl _) _).alloc (by simp) _).trans (hb1.mono (by simp; omega)))
      | (go_at_call 11; refine (Check_any o (by omega) _ _ _ _ (HE.out.on HB.out).two.env Ha.out Hb.out Hc.out).mono ?_; rintro e w2 ⟨rfl, hb2⟩))
    go_ret
    refine ⟨?_, HB.out.trans (hb2.mono (by omega))⟩
    simp [Hm.out, *])
set_option maxHeartbeats 2000000 in
theorem reg_19 (a b c : Int) (ha : byte a) (hb : byte b) (hc : byte c) (w : World) (hE : Env3 w) :
    Calls Tryd.prog 7 #[.int .u8 19, .agg #[.int .u8 a, .int .u8 b, .int .u8 c]] w fun e w' => e = .returned (.bool true) ∧ Below w.heap.size w w' := by
  have HE : Hid (Env3 w) := hE
  have Ha : Hid (byte a) := ha
  have Hb : Hid (byte b) := hb
  have Hc : Hid (byte c) := hc
  have Hm : Hid (may 19 a b c = (decide (c = 0))) := by
    show _ = _
    rw [may_lit 19 a b c (by decide)]
    simp [show ksOf 19 = [4] from rfl, chk, kSz, kOk1 a _ Ha.out.1 Ha.out.2, kOk1 b _ Hb.out.1 Hb.out.2, kOk1 c _ Hc.out.1 Hc.out.2, kOk2 c _ Hc.out.1 Hc.out.2, kOk3 c _ Hc.out.1 Hc.out.2, kOk4 a b Ha.out.1 Ha.out.2 Hb.out.1 Hb.out.2, kOk4 b c Hb.out.1 Hb.out.2 Hc.out.1 Hc.out.2, kOk5 a _ Ha.out.1 Ha.out.2] <;> try (rw [Bool.eq_iff_iff]; simp; try omega)
  clear hE ha hb hc
  obtain c0 | rfl : c ≠ 0 ∨ c = 0 := by omega
  all_goals (
    go_enter Tryd.func7, Tryd.ntmps7
    go_wp2_with (first
      | (go_at_call 20; refine (alive_any _ (HE.out.on (((Below.refl _ _).alloc (Nat.le_refl _) _).alloc (by simp) _))).mono ?_; rintro e w1 ⟨rfl, hb1⟩
         have z1 : w.heap.size + 1 < w1.heap.size := by have := hb1.size; simp at this; omega
         have hca := (bcell hb1).1
         have hfa := (bcell hb1).2
         have HB : Hid (Below w.heap.size w w1) := (((Below.refl _ _).alloc (Nat.le_refl _) _).alloc (by simp) _).trans (hb1.mono (by simp; omega)))
      | (go_at_call 11; refine (Check_any 19 (by omega) _ _ _ _ (HE.out.on HB.out).two.env Ha.out Hb.out Hc.out).mono ?_; rintro e w2 ⟨rfl, hb2⟩))
    go_ret
    refine ⟨?_, HB.out.trans (hb2.mono (by omega))⟩
    simp [Hm.out, *])
set_option maxHeartbeats 2000000 in
theorem reg_20 (a b c : Int) (ha : byte a) (hb : byte b) (hc : byte c) (w : World) (hE : Env3 w) :
    Calls Tryd.prog 7 #[.int .u8 20, .agg #[.int .u8 a, .int .u8 b, .int .u8 c]] w fun e w' => e = .returned (.bool true) ∧ Below w.heap.size w w' := by
  have HE : Hid (Env3 w) := hE
  have Ha : Hid (byte a) := ha
  have Hb : Hid (byte b) := hb
  have Hc : Hid (byte c) := hc
  have Hm : Hid (may 20 a b c = (decide (a ≤ 7) && (decide (b = 0) && decide (c = 0)))) := by
    show _ = _
    rw [may_lit 20 a b c (by decide)]
    simp [show ksOf 20 = [1] from rfl, chk, kSz, kOk1 a _ Ha.out.1 Ha.out.2, kOk1 b _ Hb.out.1 Hb.out.2, kOk1 c _ Hc.out.1 Hc.out.2, kOk2 c _ Hc.out.1 Hc.out.2, kOk3 c _ Hc.out.1 Hc.out.2, kOk4 a b Ha.out.1 Ha.out.2 Hb.out.1 Hb.out.2, kOk4 b c Hb.out.1 Hb.out.2 Hc.out.1 Hc.out.2, kOk5 a _ Ha.out.1 Ha.out.2] <;> try (rw [Bool.eq_iff_iff]; simp; try omega)
  clear hE ha hb hc
  obtain a7 | ⟨a7, b0⟩ | ⟨a7, rfl, c0⟩ | ⟨a7, rfl, rfl⟩ : ¬ a ≤ 7 ∨ (a ≤ 7 ∧ b ≠ 0) ∨ (a ≤ 7 ∧ b = 0 ∧ c ≠ 0) ∨ (a ≤ 7 ∧ b = 0 ∧ c = 0) := by omega
  all_goals (
    go_enter Tryd.func7, Tryd.ntmps7
    go_wp2_with (first
      | (go_at_call 20; refine (alive_any _ (HE.out.on (((Below.refl _ _).alloc (Nat.le_refl _) _).alloc (by simp) _))).mono ?_; rintro e w1 ⟨rfl, hb1⟩
         have z1 : w.heap.size + 1 < w1.heap.size := by have := hb1.size; simp at this; omega
         have hca := (bcell hb1).1
         have hfa := (bcell hb1).2
         have HB : Hid (Below w.heap.size w w1) := (((Below.refl _ _).alloc (Nat.le_refl _) _).alloc (by simp) _).trans (hb1.mono (by simp; omega)))
      | (go_at_call 11; refine (Check_any 20 (by omega) _ _ _ _ (HE.out.on HB.out).two.env Ha.out Hb.out Hc.out).mono ?_; rintro e w2 ⟨rfl, hb2⟩))
    go_ret
    refine ⟨?_, HB.out.trans (hb2.mono (by omega))⟩
    simp [Hm.out, *])
set_option maxHeartbeats 2000000 in
theorem reg_21 (a b c : Int) (ha : byte a) (hb : byte b) (hc : byte c) (w : World) (hE : Env3 w) :
    Calls Tryd.prog 7 #[.int .u8 21, .agg #[.int .u8 a, .int .u8 b, .int .u8 c]] w fun e w' => e = .returned (.bool true) ∧ Below w.heap.size w w' := by
  have HE : Hid (Env3 w) := hE
  have Ha : Hid (byte a) := ha
  have Hb : Hid (byte b) := hb
  have Hc : Hid (byte c) := hc
  have Hm : Hid (may 21 a b c = (decide (1 ≤ a) && (decide (a ≤ 20) && (decide (b = 0) && decide (c = 0))))) := by
    show _ = _
    rw [may_lit 21 a b c (by decide)]
    simp [show ksOf 21 = [5] from rfl, chk, kSz, kOk1 a _ Ha.out.1 Ha.out.2, kOk1 b _ Hb.out.1 Hb.out.2, kOk1 c _ Hc.out.1 Hc.out.2, kOk2 c _ Hc.out.1 Hc.out.2, kOk3 c _ Hc.out.1 Hc.out.2, kOk4 a b Ha.out.1 Ha.out.2 Hb.out.1 Hb.out.2, kOk4 b c Hb.out.1 Hb.out.2 Hc.out.1 Hc.out.2, kOk5 a _ Ha.out.1 Ha.out.2] <;> try (rw [Bool.eq_iff_iff]; simp; try omega)
  clear hE ha hb hc
  obtain a1 | ⟨a1, a20⟩ | ⟨a1, a20, b0⟩ | ⟨a1, a20, rfl, c0⟩ | ⟨a1, a20, rfl, rfl⟩ : ¬ 1 ≤ a ∨ (1 ≤ a ∧ ¬ a ≤ 20) ∨ (1 ≤ a ∧ a ≤ 20 ∧ b ≠ 0) ∨ (1 ≤ a ∧ a ≤ 20 ∧ b = 0 ∧ c ≠ 0) ∨ (1 ≤ a ∧ a ≤ 20 ∧ b = 0 ∧ c = 0) := by omega
  all_goals (
    go_enter Tryd.func7, Tryd.ntmps7
    go_wp2_with (first
      | (go_at_call 20; refine (alive_any _ (HE.out.on (((Below.refl _ _).alloc (Nat.le_refl _) _).alloc (by simp) _))).mono ?_; rintro e w1 ⟨rfl, hb1⟩
         have z1 : w.heap.size + 1 < w1.heap.size := by have := hb1.size; simp at this; omega
         have hca := (bcell hb1).1
         have hfa := (bcell hb1).2
         have HB : Hid (Below w.heap.size w w1) := (((Below.refl _ _).alloc (Nat.le_refl _) _).alloc (by simp) _).trans (hb1.mono (by simp; omega)))
      | (go_at_call 11; refine (Check_any 21 (by omega) _ _ _ _ (HE.out.on HB.out).two.env Ha.out Hb.out Hc.out).mono ?_; rintro e w2 ⟨rfl, hb2⟩))
    go_ret
    refine ⟨?_, HB.out.trans (hb2.mono (by omega))⟩
    simp [Hm.out, *])
set_option maxHeartbeats 2000000 in
theorem reg_23 (o : Nat) (h23 : 23 ≤ o) (h255 : o ≤ 255) (a b c : Int) (ha : byte a) (hb : byte b) (hc : byte c) (w : World) (hE : Env3 w) :
    Calls Tryd.prog 7 #[.int .u8 o, .agg #[.int .u8 a, .int .u8 b, .int .u8 c]] w fun e w' => e = .returned (.bool true) ∧ Below w.heap.size w w' := by
  have HE : Hid (Env3 w) := hE
  have Ha : Hid (byte a) := ha
  have Hb : Hid (byte b) := hb
  have Hc : Hid (byte c) := hc
  have Hm : Hid (may o a b c = false) := by show _ = _; unfold may; simp [show ¬ o < 23 by omega]
  have o1 : (23 : Int) ≤ (o : Int) := by omega
  have o2 : (o : Int) ≤ 255 := by omega
  have q0 : ((o : Int) == 0) = false := by rw [beq_eq_false_iff_ne]; omega
  have r0 : ¬ (o : Int) = 0 := by omega
  have q22 : ((o : Int) == 22) = false := by rw [beq_eq_false_iff_ne]; omega
  have r22 : ¬ (o : Int) = 22 := by omega
  have q1 : ((o : Int) == 1) = false := by rw [beq_eq_false_iff_ne]; omega
  have r1 : ¬ (o : Int) = 1 := by omega
  have q2 : ((o : Int) == 2) = false := by rw [beq_eq_false_iff_ne]; omega
  have r2 : ¬ (o : Int) = 2 := by omega
  have q19 : ((o : Int) == 19) = false := by rw [beq_eq_false_iff_ne]; omega
  have r19 : ¬ (o : Int) = 19 := by omega
  have q20 : ((o : Int) == 20) = false := by rw [beq_eq_false_iff_ne]; omega
  have r20 : ¬ (o : Int) = 20 := by omega
  have q21 : ((o : Int) == 21) = false := by rw [beq_eq_false_iff_ne]; omega
  have r21 : ¬ (o : Int) = 21 := by omega
  clear hE ha hb hc
  all_goals (
    go_enter Tryd.func7, Tryd.ntmps7
    go_wp2_with (first
      | (go_at_call 20; refine (alive_any _ (HE.out.on (((Below.refl _ _).alloc (Nat.le_refl _) _).alloc (by simp) _))).mono ?_; rintro e w1 ⟨rfl, hb1⟩
         have z1 : w.heap.size + 1 < w1.heap.size := by have := hb1.size; simp at this; omega
         have hca := (bcell hb1).1
         have hfa := (bcell hb1).2
         have HB : Hid (Below w.heap.size w w1) := (((Below.refl _ _).alloc (Nat.le_refl _) _).alloc (by simp) _).trans (hb1.mono (by simp; omega)))
      | (go_at_call 11; refine (Check_any o (by omega) _ _ _ _ (HE.out.on HB.out).two.env Ha.out Hb.out Hc.out).mono ?_; rintro e w2 ⟨rfl, hb2⟩))
    go_ret
    refine ⟨?_, HB.out.trans (hb2.mono (by omega))⟩
    simp [Hm.out, *])
theorem reg_any (o : Nat) (h255 : o ≤ 255) (a b c : Int) (ha : byte a) (hb : byte b) (hc : byte c) (w : World) (hE : Env3 w) :
    Calls Tryd.prog 7 #[.int .u8 o, .agg #[.int .u8 a, .int .u8 b, .int .u8 c]] w fun e w' => e = .returned (.bool true) ∧ Below w.heap.size w w' := by
  obtain rfl | rfl | rfl | ⟨h, h'⟩ | ⟨h, h'⟩ | rfl | rfl | rfl | rfl | h : o = 0 ∨ o = 1 ∨ o = 2 ∨ (3 ≤ o ∧ o ≤ 10) ∨ (11 ≤ o ∧ o ≤ 18) ∨ o = 19 ∨ o = 20 ∨ o = 21 ∨ o = 22 ∨ 23 ≤ o := by omega
  · exact reg_0 a b c ha hb hc w hE
  · exact reg_1 a b c ha hb hc w hE
  · exact reg_2 a b c ha hb hc w hE
  · exact reg_3 o h h' a b c ha hb hc w hE
  · exact reg_11 o h h' a b c ha hb hc w hE
  · exact reg_19 a b c ha hb hc w hE
  · exact reg_20 a b c ha hb hc w hE
  · exact reg_21 a b c ha hb hc w hE
  · exact reg_22 a b c ha hb hc w hE
  · exact reg_23 o h h255 a b c ha hb hc w hE
end Go.Proofs.YtneookkoogbhoaaDoor
