/- Whether a task may be seen so: the code's answer, and the document's. -/
import Derived.Test.YtnoadpgnefncjaaDoorTop
namespace Go.Proofs.YtnoadpgnefncjaaDoor
open Go Go.RowKit
set_option maxRecDepth 100000
set_option linter.unusedVariables false
set_option linter.unusedSimpArgs false
def zB (wh ah av am aw : Int) : Bool := decide (wh = 0 ∧ ah = 0 ∧ av = 0 ∧ am = 0 ∧ aw = 0)
theorem zB_iff (wh ah av am aw : Int) : zB wh ah av am aw = true ↔ wh = 0 ∧ ah = 0 ∧ av = 0 ∧ am = 0 ∧ aw = 0 := by unfold zB; exact decide_eq_true_iff
theorem zB_no (wh ah av am aw : Int) : zB wh ah av am aw = false ↔ ¬ (wh = 0 ∧ ah = 0 ∧ av = 0 ∧ am = 0 ∧ aw = 0) := by unfold zB; exact decide_eq_false_iff_not
theorem eq_zero (wh ah av am aw : Int) (w : World) :
    (binOp .eql 26 (.agg #[.int .u8 wh, .int .u32 ah, .int .u32 av, .int .u32 am, .int .i64 aw]) (.agg #[.int .u8 0, .int .u32 0, .int .u32 0, .int .u32 0, .int .i64 0])).run Tryd.prog w = .ok (.bool (zB wh ah av am aw)) w := by
  unfold zB
  by_cases h1 : wh = 0 <;> by_cases h2 : ah = 0 <;> by_cases h3 : av = 0 <;> by_cases h4 : am = 0 <;> by_cases h5 : aw = 0 <;> simp [go_sem, h1, h2, h3, h4, h5]
set_option maxHeartbeats 1000000 in
theorem st_any (h s : Int) (d : Bool) (b r wh ah av am aw lf an la vl : Int) (w : World) : Calls Tryd.prog 19 #[.agg #[.int .u32 h, .int .u8 s, .bool d, .int .i64 b, .int .i64 r, .int .u8 wh, .int .u32 ah, .int .u32 av, .int .u32 am, .int .i64 aw, .int .i64 lf, .int .i64 an, .int .i64 la, .int .u32 vl]] w fun e w' => e = .returned (.bool (stB s wh ah av am aw lf)) ∧ Below w.heap.size w w' := by
  have EZ := eq_zero wh ah av am aw
  go_enter Tryd.func19, Tryd.ntmps19
  go_wp2_with (first
    | (go_at_call 12; refine (blk_any _ _ _ _ _ _).mono ?_; rintro e wx ⟨rfl, hb⟩; obtain ⟨hc, hf⟩ := bcell hb)
    | (go_at_call 31; refine (left_any _ _ _).mono ?_; rintro e wx ⟨rfl, rfl⟩))
  all_goals (go_ret; refine ⟨ret_b ?_, (by first | exact (Below.refl _ _).alloc (Nat.le_refl _) _ | exact ((Below.refl _ _).alloc (Nat.le_refl _) _).trans (hb.mono (by simp)))⟩; (try simp only [inB_iff, inB_no, mayB_iff, mayB_no, blkB_iff, blkB_no, leftB_iff, leftB_no, stB_iff, stB_no, okB_iff, okB_no, zB_iff, zB_no, beq_iff_eq, beq_eq_false_iff_ne, bne_iff_ne, ne_eq, bne_eq_false_iff_eq, Bool.not_eq_true, Bool.not_eq_false, Bool.not_eq_true', Bool.not_eq_false', decide_eq_true_eq, decide_eq_false_iff_not, Bool.false_eq_true, false_iff, true_iff, Bool.and_eq_true] at *); simp only [In, MayW, Blk, LeftOk, StOk, Ok] at *; omega)
set_option maxHeartbeats 1000000 in
theorem check_any (h s : Int) (d : Bool) (b r wh ah av am aw lf an la vl : Int) (w : World) : Calls Tryd.prog 7 #[.agg #[.int .u32 h, .int .u8 s, .bool d, .int .i64 b, .int .i64 r, .int .u8 wh, .int .u32 ah, .int .u32 av, .int .u32 am, .int .i64 aw, .int .i64 lf, .int .i64 an, .int .i64 la, .int .u32 vl]] w fun e w' => e = .returned (.bool (okB h s b r wh ah av am aw lf an la)) ∧ Below w.heap.size w w' := by
  go_enter Tryd.func7, Tryd.ntmps7
  go_wp2_with (first
    | (go_at_call 19; refine (st_any h s d b r wh ah av am aw lf an la vl _).mono ?_; rintro e wx ⟨rfl, hb⟩; obtain ⟨hc, hf⟩ := bcell hb)
    | (go_at_call 17; refine (in_int _ _ _ _).mono ?_; rintro e wx ⟨rfl, rfl⟩)
    | (go_at_call 18; refine (in_err _ _ _ _).mono ?_; rintro e wx ⟨rfl, rfl⟩))
  all_goals (go_ret; refine ⟨ret_b ?_, (by first | exact (Below.refl _ _).alloc (Nat.le_refl _) _ | exact ((Below.refl _ _).alloc (Nat.le_refl _) _).trans (hb.mono (by simp)))⟩; (try simp only [inB_iff, inB_no, mayB_iff, mayB_no, blkB_iff, blkB_no, leftB_iff, leftB_no, stB_iff, stB_no, okB_iff, okB_no, zB_iff, zB_no, beq_iff_eq, beq_eq_false_iff_ne, bne_iff_ne, ne_eq, bne_eq_false_iff_eq, Bool.not_eq_true, Bool.not_eq_false, Bool.not_eq_true', Bool.not_eq_false', decide_eq_true_eq, decide_eq_false_iff_not, Bool.false_eq_true, false_iff, true_iff, Bool.and_eq_true] at *); simp only [In, MayW, Blk, LeftOk, StOk, Ok] at *; omega)
set_option maxHeartbeats 1000000 in
theorem rcheck_any (h s : Int) (d : Bool) (b r wh ah av am aw lf an la vl : Int) (w : World) : Calls Tryd.prog 8 #[.agg #[.int .u32 h, .int .u8 s, .bool d, .int .i64 b, .int .i64 r, .int .u8 wh, .int .u32 ah, .int .u32 av, .int .u32 am, .int .i64 aw, .int .i64 lf, .int .i64 an, .int .i64 la, .int .u32 vl]] w fun e w' => e = .returned (.bool (okB h s b r wh ah av am aw lf an la)) ∧ Below w.heap.size w w' := by
  have EZ := eq_zero wh ah av am aw
  go_enter Tryd.func8, Tryd.ntmps8
  go_wp2_with (first
    | (go_at_call 13; refine (rblk_any _ _ _ _ _ _).mono ?_; rintro e wx ⟨rfl, hb⟩; obtain ⟨hc, hf⟩ := bcell hb))
  all_goals (go_ret; refine ⟨ret_b ?_, (by first | exact (Below.refl _ _).alloc (Nat.le_refl _) _ | exact ((Below.refl _ _).alloc (Nat.le_refl _) _).trans (hb.mono (by simp)))⟩; (try simp only [inB_iff, inB_no, mayB_iff, mayB_no, blkB_iff, blkB_no, leftB_iff, leftB_no, stB_iff, stB_no, okB_iff, okB_no, zB_iff, zB_no, beq_iff_eq, beq_eq_false_iff_ne, bne_iff_ne, ne_eq, bne_eq_false_iff_eq, Bool.not_eq_true, Bool.not_eq_false, Bool.not_eq_true', Bool.not_eq_false', decide_eq_true_eq, decide_eq_false_iff_not, Bool.false_eq_true, false_iff, true_iff, Bool.and_eq_true] at *); simp only [In, MayW, Blk, LeftOk, StOk, Ok] at *; omega)
end Go.Proofs.YtnoadpgnefncjaaDoor
