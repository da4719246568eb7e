/- What a core asks; what it says. -/
import Derived.Test.YtomccgodfimaiaaGreatDoorCGoes
namespace Go.Proofs.YtomccgodfimaiaaGreatDoor
set_option linter.all false
open Go Go.RowKit
set_option maxRecDepth 100000
set_option linter.unusedVariables false
theorem sgn_wrap (a : Int) (h : Un.num a) : IntKind.i64.wrap (IntKind.i32.wrap a) = Un.sgn a := by
  unfold Un.num at h
  unfold Un.sgn IntKind.wrap
  simp [IntKind.bits, IntKind.signed]
  split <;> split <;> omega
theorem sgn_wrap1 (a : Int) (h : Un.num a) : IntKind.i32.wrap a = Un.sgn a := by
  unfold Un.num at h
  unfold Un.sgn IntKind.wrap
  simp [IntKind.bits, IntKind.signed]
  split <;> split <;> omega
set_option maxHeartbeats 2000000 in
theorem ask_any {w : World} {G : Kp} {cv : Value} {c : Cr} (h : CM w G cv c) (o x y z : Int) :
    Calls Tryz.prog 87 #[.pointer (some ⟨G.p, 0, none⟩), .agg #[.int .u8 o, .int .u8 x, .int .u8 y, .int .u8 z]] w fun e w' => e = .returned (askV x (c.rs.getD 0 0) (c.rs.getD 1 0) (c.rs.getD 2 0) (Un.sgn (c.rs.getD 3 0))) ∧ Below w.heap.size w w' := by
  obtain ⟨w1, hw1, h1, b1, s1, x0, x1, x2, x3⟩ := h.boxed o x y z
  have hb2 := alloc_below w1 (.cells #[.int .u8 0, .int .u32 0, .int .u32 0, .int .u32 0, .int .i64 0] 41)
  have ha2 := alloc_at w1 (.cells #[.int .u8 0, .int .u32 0, .int .u32 0, .int .u32 0, .int .i64 0] 41)
  have h2 := h1.below hb2
  have r0 := h2.r 0 (by omega)
  have r1 := h2.r 1 (by omega)
  have r2 := h2.r 2 (by omega)
  have r3 := h2.r 3 (by omega)
  have y1 := ((bcell hb2).1 _ 1 (show w.heap.size < w1.heap.size by omega)).trans x1
  have HB : Hid (Below w.heap.size w w1) := b1
  have hw6 : wrap64 (Un.sgn (c.rs.getD 3 0)) = Un.sgn (c.rs.getD 3 0) := by have := h.rnum 3; unfold Un.num at this; unfold Un.sgn; split <;> unfold wrap64 <;> omega
  have hs1 := sgn_wrap1 _ (h.rnum 3)
  have hs2 := sgn_wrap _ (h.rnum 3)
  clear h h1 h2 b1 s1 hb2
  generalize Un.sgn (c.rs.getD 3 0) = s at *
  generalize c.rs.getD 0 0 = v0 at *
  generalize c.rs.getD 1 0 = v1 at *
  generalize c.rs.getD 2 0 = v2 at *
  generalize c.rs.getD 3 0 = v3 at *
  go_enter Tryz.func87, Tryz.ntmps87
  go_wp2
  clear hw1 x0 x1 x2 x3
  go_region
  go_wp2
  refine bodyPost_ret (results_cell_row (g := w1.heap.size) rfl _ _ _ _ _ (d := _) rfl (alloc_at w1 _) Tryz.underlying41 rfl (by kernel_rfl)) rfl ?_
  exact ⟨rfl, (HB.out.trans ((alloc_below w1 _).mono HB.out.size)).drew⟩
end Go.Proofs.YtomccgodfimaiaaGreatDoor
