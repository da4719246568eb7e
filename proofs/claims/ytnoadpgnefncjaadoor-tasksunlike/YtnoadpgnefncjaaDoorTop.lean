/- What the functions of package tasks, and the document's own, that answer yes or no answer. -/
import Derived.Test.YtnoadpgnefncjaaDoorPure
import Derived.Test.YtnoadpgnefncjaaDoorCalm
import Derived.Test.YtnoadpgnefncjaaDoorProg
import Derived.Test.YtnoadpgnefncjaaDoorRows
import Derived.Laws.StructEq
import Derived.Deep.QuietTactic
import Derived.BigQuiet
import Derived.Deep.CutRange
import Derived.Deep.RegionWith
namespace Go.Proofs.YtnoadpgnefncjaaDoor
open Go Go.RowKit
set_option maxRecDepth 100000
set_option linter.unusedVariables false
set_option linter.unusedSimpArgs false
theorem hold_iff {a b : Bool} (h : a = true ↔ b = true) : a = b := Bool.eq_iff_iff.2 h
theorem ret_b {a b : Bool} (h : a = true ↔ b = true) : Ending.returned (Value.bool a) = .returned (.bool b) := by rw [hold_iff h]
def inB (n l m : Int) : Bool := decide (l ≤ n ∧ n ≤ m)
def In (n l m : Int) : Prop := l ≤ n ∧ n ≤ m
theorem inB_iff (n l m : Int) : inB n l m = true ↔ In n l m := by unfold inB; exact decide_eq_true_iff
theorem inB_no (n l m : Int) : inB n l m = false ↔ ¬ In n l m := by unfold inB; exact decide_eq_false_iff_not
theorem mayB_iff (w : Int) : mayB w = true ↔ MayW w := by unfold mayB; exact decide_eq_true_iff
theorem mayB_no (w : Int) : mayB w = false ↔ ¬ MayW w := by unfold mayB; exact decide_eq_false_iff_not
theorem blkB_iff (w t : Int) : blkB w t = true ↔ Blk w t := by unfold blkB; exact decide_eq_true_iff
theorem blkB_no (w t : Int) : blkB w t = false ↔ ¬ Blk w t := by unfold blkB; exact decide_eq_false_iff_not
theorem leftB_iff (l t : Int) : leftB l t = true ↔ LeftOk l t := by unfold leftB; exact decide_eq_true_iff
theorem leftB_no (l t : Int) : leftB l t = false ↔ ¬ LeftOk l t := by unfold leftB; exact decide_eq_false_iff_not
theorem stB_iff (s wh ah av am aw lf : Int) : stB s wh ah av am aw lf = true ↔ StOk s wh ah av am aw lf := by unfold stB; exact decide_eq_true_iff
theorem stB_no (s wh ah av am aw lf : Int) : stB s wh ah av am aw lf = false ↔ ¬ StOk s wh ah av am aw lf := by unfold stB; exact decide_eq_false_iff_not
theorem okB_iff (h s b r wh ah av am aw lf an la : Int) : okB h s b r wh ah av am aw lf an la = true ↔ Ok h s b r wh ah av am aw lf an la := by unfold okB; exact decide_eq_true_iff
theorem okB_no (h s b r wh ah av am aw lf an la : Int) : okB h s b r wh ah av am aw lf an la = false ↔ ¬ Ok h s b r wh ah av am aw lf an la := by unfold okB; exact decide_eq_false_iff_not
set_option maxHeartbeats 1000000 in
theorem in_int (n l m : Int) (w : World) : Calls Tryd.prog 17 #[.int .i64 n, .int .i64 l, .int .i64 m] w fun e w' => e = .returned (.bool (inB n l m)) ∧ w = w' := by
  go_enter Tryd.func17, Tryd.ntmps17
  go_wp2
  all_goals (go_ret; refine ⟨ret_b ?_, rfl⟩; (try simp only [inB_iff, inB_no, mayB_iff, mayB_no, blkB_iff, blkB_no, leftB_iff, leftB_no, stB_iff, stB_no, okB_iff, okB_no, beq_iff_eq, beq_eq_false_iff_ne, bne_iff_ne, ne_eq, bne_eq_false_iff_eq, Bool.not_eq_true, Bool.not_eq_false, Bool.not_eq_true', Bool.not_eq_false', decide_eq_true_eq, decide_eq_false_iff_not, Bool.false_eq_true, false_iff, true_iff, Bool.and_eq_true] at *); simp only [In, MayW, Blk, LeftOk, StOk, Ok] at *; omega)
set_option maxHeartbeats 1000000 in
theorem in_err (n l m : Int) (w : World) : Calls Tryd.prog 18 #[.int .i64 n, .int .i64 l, .int .i64 m] w fun e w' => e = .returned (.bool (inB n l m)) ∧ w = w' := by
  go_enter Tryd.func18, Tryd.ntmps18
  go_wp2
  all_goals (go_ret; refine ⟨ret_b ?_, rfl⟩; (try simp only [inB_iff, inB_no, mayB_iff, mayB_no, blkB_iff, blkB_no, leftB_iff, leftB_no, stB_iff, stB_no, okB_iff, okB_no, beq_iff_eq, beq_eq_false_iff_ne, bne_iff_ne, ne_eq, bne_eq_false_iff_eq, Bool.not_eq_true, Bool.not_eq_false, Bool.not_eq_true', Bool.not_eq_false', decide_eq_true_eq, decide_eq_false_iff_not, Bool.false_eq_true, false_iff, true_iff, Bool.and_eq_true] at *); simp only [In, MayW, Blk, LeftOk, StOk, Ok] at *; omega)
set_option maxHeartbeats 1000000 in
theorem in_64 (n l m : Int) (w : World) : Calls Tryd.prog 39 #[.int .i64 n, .int .i64 l, .int .i64 m] w fun e w' => e = .returned (.bool (inB n l m)) ∧ w = w' := by
  go_enter Tryd.func39, Tryd.ntmps39
  go_wp2
  all_goals (go_ret; refine ⟨ret_b ?_, rfl⟩; (try simp only [inB_iff, inB_no, mayB_iff, mayB_no, blkB_iff, blkB_no, leftB_iff, leftB_no, stB_iff, stB_no, okB_iff, okB_no, beq_iff_eq, beq_eq_false_iff_ne, bne_iff_ne, ne_eq, bne_eq_false_iff_eq, Bool.not_eq_true, Bool.not_eq_false, Bool.not_eq_true', Bool.not_eq_false', decide_eq_true_eq, decide_eq_false_iff_not, Bool.false_eq_true, false_iff, true_iff, Bool.and_eq_true] at *); simp only [In, MayW, Blk, LeftOk, StOk, Ok] at *; omega)
set_option maxHeartbeats 1000000 in
theorem mayw_any (x : Int) (w : World) : Calls Tryd.prog 27 #[.int .u8 x] w fun e w' => e = .returned (.bool (mayB x)) ∧ w = w' := by
  go_enter Tryd.func27, Tryd.ntmps27
  go_wp2
  all_goals (go_ret; refine ⟨ret_b ?_, rfl⟩; (try simp only [inB_iff, inB_no, mayB_iff, mayB_no, blkB_iff, blkB_no, leftB_iff, leftB_no, stB_iff, stB_no, okB_iff, okB_no, beq_iff_eq, beq_eq_false_iff_ne, bne_iff_ne, ne_eq, bne_eq_false_iff_eq, Bool.not_eq_true, Bool.not_eq_false, Bool.not_eq_true', Bool.not_eq_false', decide_eq_true_eq, decide_eq_false_iff_not, Bool.false_eq_true, false_iff, true_iff, Bool.and_eq_true] at *); simp only [In, MayW, Blk, LeftOk, StOk, Ok] at *; omega)
set_option maxHeartbeats 1000000 in
theorem rmayw_any (x : Int) (w : World) : Calls Tryd.prog 28 #[.int .u8 x] w fun e w' => e = .returned (.bool (mayB x)) ∧ w = w' := by
  go_enter Tryd.func28, Tryd.ntmps28
  go_wp2
  all_goals (go_ret; refine ⟨ret_b ?_, rfl⟩; (try simp only [inB_iff, inB_no, mayB_iff, mayB_no, blkB_iff, blkB_no, leftB_iff, leftB_no, stB_iff, stB_no, okB_iff, okB_no, beq_iff_eq, beq_eq_false_iff_ne, bne_iff_ne, ne_eq, bne_eq_false_iff_eq, Bool.not_eq_true, Bool.not_eq_false, Bool.not_eq_true', Bool.not_eq_false', decide_eq_true_eq, decide_eq_false_iff_not, Bool.false_eq_true, false_iff, true_iff, Bool.and_eq_true] at *); simp only [In, MayW, Blk, LeftOk, StOk, Ok] at *; omega)
set_option maxHeartbeats 1000000 in
theorem blk_any (wh ah av am aw : Int) (w : World) : Calls Tryd.prog 12 #[.agg #[.int .u8 wh, .int .u32 ah, .int .u32 av, .int .u32 am, .int .i64 aw]] w fun e w' => e = .returned (.bool (blkB wh aw)) ∧ Below w.heap.size w w' := by
  go_enter Tryd.func12, Tryd.ntmps12
  go_wp2_with (first
    | (go_at_call 27; refine (mayw_any _ _).mono ?_; rintro e wx ⟨rfl, rfl⟩))
  all_goals (go_ret; refine ⟨ret_b ?_, (Below.refl _ _).alloc (Nat.le_refl _) _⟩; (try simp only [inB_iff, inB_no, mayB_iff, mayB_no, blkB_iff, blkB_no, leftB_iff, leftB_no, stB_iff, stB_no, okB_iff, okB_no, beq_iff_eq, beq_eq_false_iff_ne, bne_iff_ne, ne_eq, bne_eq_false_iff_eq, Bool.not_eq_true, Bool.not_eq_false, Bool.not_eq_true', Bool.not_eq_false', decide_eq_true_eq, decide_eq_false_iff_not, Bool.false_eq_true, false_iff, true_iff, Bool.and_eq_true] at *); simp only [In, MayW, Blk, LeftOk, StOk, Ok] at *; omega)
set_option maxHeartbeats 1000000 in
theorem rblk_any (wh ah av am aw : Int) (w : World) : Calls Tryd.prog 13 #[.agg #[.int .u8 wh, .int .u32 ah, .int .u32 av, .int .u32 am, .int .i64 aw]] w fun e w' => e = .returned (.bool (blkB wh aw)) ∧ Below w.heap.size w w' := by
  go_enter Tryd.func13, Tryd.ntmps13
  go_wp2_with (first
    | (go_at_call 28; refine (rmayw_any _ _).mono ?_; rintro e wx ⟨rfl, rfl⟩))
  all_goals (go_ret; refine ⟨ret_b ?_, (Below.refl _ _).alloc (Nat.le_refl _) _⟩; (try simp only [inB_iff, inB_no, mayB_iff, mayB_no, blkB_iff, blkB_no, leftB_iff, leftB_no, stB_iff, stB_no, okB_iff, okB_no, beq_iff_eq, beq_eq_false_iff_ne, bne_iff_ne, ne_eq, bne_eq_false_iff_eq, Bool.not_eq_true, Bool.not_eq_false, Bool.not_eq_true', Bool.not_eq_false', decide_eq_true_eq, decide_eq_false_iff_not, Bool.false_eq_true, false_iff, true_iff, Bool.and_eq_true] at *); simp only [In, MayW, Blk, LeftOk, StOk, Ok] at *; omega)
set_option maxHeartbeats 1000000 in
theorem left_any (lf aw : Int) (w : World) : Calls Tryd.prog 31 #[.int .i64 lf, .int .i64 aw] w fun e w' => e = .returned (.bool (leftB lf aw)) ∧ w = w' := by
  go_enter Tryd.func31, Tryd.ntmps31
  go_wp2_with (first
    | (go_at_call 39; refine (in_64 _ _ _ _).mono ?_; rintro e wx ⟨rfl, rfl⟩))
  all_goals (go_ret; refine ⟨ret_b ?_, rfl⟩; (try simp only [inB_iff, inB_no, mayB_iff, mayB_no, blkB_iff, blkB_no, leftB_iff, leftB_no, stB_iff, stB_no, okB_iff, okB_no, beq_iff_eq, beq_eq_false_iff_ne, bne_iff_ne, ne_eq, bne_eq_false_iff_eq, Bool.not_eq_true, Bool.not_eq_false, Bool.not_eq_true', Bool.not_eq_false', decide_eq_true_eq, decide_eq_false_iff_not, Bool.false_eq_true, false_iff, true_iff, Bool.and_eq_true] at *); simp only [In, MayW, Blk, LeftOk, StOk, Ok] at *; omega)
end Go.Proofs.YtnoadpgnefncjaaDoor
