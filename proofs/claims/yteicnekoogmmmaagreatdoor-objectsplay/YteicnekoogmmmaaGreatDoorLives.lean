/- The chapter's things: what the statements' 'lives' answers. -/
import Derived.Test.YteicnekoogmmmaaGreatDoorNewNo
namespace Go.Proofs.YteicnekoogmmmaaGreatDoor
open Go Go.RowKit
set_option maxRecDepth 100000
set_option linter.unusedVariables false
theorem lv1 {w : World} {p f : Nat} (h : Sm w p f 1 2 1) : Calls Tryz.prog 7 #[.pointer (some ⟨p, 0, none⟩), .int .u32 9, .agg #[.int .u8 3, .int .u32 0, .int .u32 0, .int .u32 0, .int .i64 0]] w fun e w' => e = .returned (.tuple #[.int .u32 0, .int .i64 0]) ∧ Sm w' p f 1 2 0 ∧ Buts [f] w w' := by
  simpa using sm_take h 9 0 0 0 0 (by decide)
theorem lv2 {w : World} {p f : Nat} (h : Sm w p f 1 2 0) : Calls Tryz.prog 7 #[.pointer (some ⟨p, 0, none⟩), .int .u32 9, .agg #[.int .u8 3, .int .u32 0, .int .u32 0, .int .u32 0, .int .i64 0]] w fun e w' => e = .returned (.tuple #[.int .u32 0, .int .i64 7]) ∧ Sm w' p f 1 2 0 ∧ Buts [f] w w' := by
  simpa using sm_take h 9 0 0 0 0 (by decide)
theorem lv3 {w : World} {p f : Nat} (h : Sm w p f 1 2 0) : Calls Tryz.prog 7 #[.pointer (some ⟨p, 0, none⟩), .int .u32 9, .agg #[.int .u8 4, .int .u32 0, .int .u32 0, .int .u32 0, .int .i64 0]] w fun e w' => e = .returned (.tuple #[.int .u32 0, .int .i64 0]) ∧ Sm w' p f 1 2 1 ∧ Buts [f] w w' := by
  simpa using sm_give h 9 0 0 0 0 (by decide)
theorem lv4 {w : World} {p f : Nat} (h : Mx w p f 0) : Calls Tryz.prog 7 #[.pointer (some ⟨p, 0, none⟩), .int .u32 9, .agg #[.int .u8 5, .int .u32 0, .int .u32 0, .int .u32 0, .int .i64 0]] w fun e w' => e = .returned (.tuple #[.int .u32 0, .int .i64 0]) ∧ Mx w' p f 9 ∧ Buts [f] w w' := by
  simpa using mx_lock h 9 0 0 0 0 (by decide)
theorem lv5 {w : World} {p f : Nat} (h : Mx w p f 9) : Calls Tryz.prog 7 #[.pointer (some ⟨p, 0, none⟩), .int .u32 9, .agg #[.int .u8 5, .int .u32 0, .int .u32 0, .int .u32 0, .int .i64 0]] w fun e w' => e = .returned (.tuple #[.int .u32 0, .int .i64 13]) ∧ Mx w' p f 9 ∧ Buts [f] w w' := by
  simpa using mx_lock h 9 0 0 0 0 (by decide)
theorem lv6 {w : World} {p f : Nat} (h : Mx w p f 9) : Calls Tryz.prog 7 #[.pointer (some ⟨p, 0, none⟩), .int .u32 8, .agg #[.int .u8 5, .int .u32 0, .int .u32 0, .int .u32 0, .int .i64 0]] w fun e w' => e = .returned (.tuple #[.int .u32 0, .int .i64 7]) ∧ Mx w' p f 9 ∧ Buts [f] w w' := by
  simpa using mx_lock h 8 0 0 0 0 (by decide)
theorem lv7 {w : World} {p f : Nat} (h : Mx w p f 9) : Calls Tryz.prog 7 #[.pointer (some ⟨p, 0, none⟩), .int .u32 8, .agg #[.int .u8 6, .int .u32 0, .int .u32 0, .int .u32 0, .int .i64 0]] w fun e w' => e = .returned (.tuple #[.int .u32 0, .int .i64 13]) ∧ Mx w' p f 9 ∧ Buts [f] w w' := by
  simpa using mx_unlock h 8 0 0 0 0 (by decide)
theorem lv8 {w : World} {p f : Nat} (h : Mx w p f 9) : Calls Tryz.prog 8 #[.pointer (some ⟨p, 0, none⟩), .int .u32 9] w fun e w' => e = .returned (.bool true) ∧ Mx w' p f 0 ∧ Buts [f] w w' := by
  simpa using mx_leave h 9 (by decide)
theorem lv9 {w : World} {p f : Nat} (h : Mx w p f 0) : Calls Tryz.prog 8 #[.pointer (some ⟨p, 0, none⟩), .int .u32 9] w fun e w' => e = .returned (.bool false) ∧ Mx w' p f 0 ∧ Buts [f] w w' := by
  simpa using mx_leave h 9 (by decide)
theorem Sm.mx {w w' : World} {p f q g : Nat} {a b n o : Int} (h : Sm w p f a b n) (k : Mx w q g o) (hb : Buts [f] w w') : Mx w' q g o :=
  k.buts hb (by simpa using k.hh.ne h.hp (by decide)) (by simpa using k.hp.ne h.hp (by decide))
set_option maxHeartbeats 8000000 in
theorem lives_any (w : World) : Calls Tryz.prog 4 #[] w fun e w' => e = .returned (.bool true) ∧ Below w.heap.size w w' := by
  have H0 : Hid (∀ w : World, Calls Tryz.prog 5 #[.agg #[.int .u8 1, .int .u32 1, .int .u32 2]] w fun e w' => ∃ p f, e = .returned (.tuple #[.pointer (some ⟨p, 0, none⟩), .int .i64 0]) ∧ Sm w' p f 1 2 1 ∧ w.heap.size ≤ p ∧ w.heap.size ≤ f ∧ Below w.heap.size w w') := fun w => new_sem (by decide)
  have G0 : Hid (∀ w : World, Calls Tryz.prog 5 #[.agg #[.int .u8 2, .int .u32 0, .int .u32 0]] w fun e w' => ∃ p f, e = .returned (.tuple #[.pointer (some ⟨p, 0, none⟩), .int .i64 0]) ∧ Mx w' p f 0 ∧ w.heap.size ≤ p ∧ w.heap.size ≤ f ∧ Below w.heap.size w w') := fun w => new_mut
  go_enter Tryz.func4, Tryz.ntmps4
  go_wp2_with (first
    | (go_at_call 8; refine (lv9 X8.out).mono ?_; rintro e w9 ⟨rfl, hx, hb⟩; have X9 : Hid (Mx w9 q g 0) := hx; replace B := B.trans (one_below hb g0 B.size); clear hx hb)
    | (go_at_call 8; refine (lv8 X7.out).mono ?_; rintro e w8 ⟨rfl, hx, hb⟩; have X8 : Hid (Mx w8 q g 0) := hx; replace B := B.trans (one_below hb g0 B.size); clear hx hb)
    | (go_at_call 7; refine (lv7 X6.out).mono ?_; rintro e w7 ⟨rfl, hx, hb⟩; have X7 : Hid (Mx w7 q g 9) := hx; replace B := B.trans (one_below hb g0 B.size); clear hx hb)
    | (go_at_call 7; refine (lv6 X5.out).mono ?_; rintro e w6 ⟨rfl, hx, hb⟩; have X6 : Hid (Mx w6 q g 9) := hx; replace B := B.trans (one_below hb g0 B.size); clear hx hb)
    | (go_at_call 7; refine (lv5 X4.out).mono ?_; rintro e w5 ⟨rfl, hx, hb⟩; have X5 : Hid (Mx w5 q g 9) := hx; replace B := B.trans (one_below hb g0 B.size); clear hx hb)
    | (go_at_call 7; refine (lv4 X3.out).mono ?_; rintro e w4 ⟨rfl, hx, hb⟩; have X4 : Hid (Mx w4 q g 9) := hx; replace B := B.trans (one_below hb g0 B.size); clear hx hb)
    | (go_at_call 7; refine (lv3 S2.out).mono ?_; rintro e w3 ⟨rfl, hx, hb⟩; have S3 : Hid (Sm w3 p f 1 2 1) := hx; have X3 : Hid (Mx w3 q g 0) := S2.out.mx Y2.out hb; replace B := B.trans (one_below hb f0 B.size); clear hx hb)
    | (go_at_call 7; refine (lv2 S1.out).mono ?_; rintro e w2 ⟨rfl, hx, hb⟩; have S2 : Hid (Sm w2 p f 1 2 0) := hx; have Y2 : Hid (Mx w2 q g 0) := S1.out.mx Y1.out hb; replace B := B.trans (one_below hb f0 B.size); clear hx hb)
    | (go_at_call 7; refine (lv1 S0.out).mono ?_; rintro e w1 ⟨rfl, hx, hb⟩; have S1 : Hid (Sm w1 p f 1 2 0) := hx; have Y1 : Hid (Mx w1 q g 0) := S0.out.mx Y0.out hb; replace B := B.trans (one_below hb f0 B.size); clear hx hb)
    | (go_at_call 5; refine (G0.out wa).mono ?_; rintro e wb ⟨q, g, rfl, hx, q1, g1, hb⟩; have Y0 : Hid (Mx wb q g 0) := hx; have S0 : Hid (Sm wb p f 1 2 1) := SA.out.below hb; have g0 : w.heap.size ≤ g := Nat.le_trans B.size g1; replace B := B.trans (hb.mono B.size); clear hx hb q1 g1)
    | (go_at_call 5; refine (H0.out w).mono ?_; rintro e wa ⟨p, f, rfl, hx, p1, f0, B⟩; have SA : Hid (Sm wa p f 1 2 1) := hx; clear hx p1))
  go_ret
  exact ⟨rfl, B⟩
end Go.Proofs.YteicnekoogmmmaaGreatDoor
