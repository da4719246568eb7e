/- 'InstrsFour', walked. -/
import Derived.Test.YtneookkoogbhoaaDoorAlive
namespace Go.Proofs.YtneookkoogbhoaaDoor
open Go Go.RowKit
set_option maxRecDepth 100000
set_option maxHeartbeats 2000000 in
theorem four_any (o p : Nat) (a b c d e f : Int) (w : World) (hE : Env3 w) :
    Calls Tryd.prog 6 #[.agg #[.int .u8 o, .int .u8 a, .int .u8 b, .int .u8 c], .agg #[.int .u8 p, .int .u8 d, .int .u8 e, .int .u8 f]] w fun e w' => e = .returned (.bool true) ∧ Below w.heap.size w w' := by
  have HE : Hid (Env3 w) := hE
  have hca := @above_cell
  have he25 := eq_bytes
  have he24 := eq_instr
  clear hE
  go_enter Tryd.func6, Tryd.ntmps6
  go_wp2_with (go_at_call 13; refine (Put_any _ _ _ _ _).mono ?_; rintro e w1 ⟨rfl, hb1⟩)
  have z1 : w.heap.size + 1 < w1.heap.size := by have := hb1.size; simp at this; omega
  have z0 : w.heap.size < w1.heap.size := by omega
  have x0 : w1.cell? ⟨w.heap.size, 0, none⟩ = some (.int .u8 o) := by rw [(bcell hb1).1 _ _ (by simp; omega)]; simp [go_sem]
  have x1 : w1.cell? ⟨w.heap.size, 1, none⟩ = some (.int .u8 a) := by rw [(bcell hb1).1 _ _ (by simp; omega)]; simp [go_sem]
  have x2 : w1.cell? ⟨w.heap.size, 2, none⟩ = some (.int .u8 b) := by rw [(bcell hb1).1 _ _ (by simp; omega)]; simp [go_sem]
  have x3 : w1.cell? ⟨w.heap.size, 3, none⟩ = some (.int .u8 c) := by rw [(bcell hb1).1 _ _ (by simp; omega)]; simp [go_sem]
  have y0 : w1.cell? ⟨w.heap.size + 1, 0, none⟩ = some (.int .u8 p) := by rw [(bcell hb1).1 _ _ (by simp)]; simp [go_sem]
  have y1 : w1.cell? ⟨w.heap.size + 1, 1, none⟩ = some (.int .u8 d) := by rw [(bcell hb1).1 _ _ (by simp)]; simp [go_sem]
  have y2 : w1.cell? ⟨w.heap.size + 1, 2, none⟩ = some (.int .u8 e) := by rw [(bcell hb1).1 _ _ (by simp)]; simp [go_sem]
  have y3 : w1.cell? ⟨w.heap.size + 1, 3, none⟩ = some (.int .u8 f) := by rw [(bcell hb1).1 _ _ (by simp)]; simp [go_sem]
  have HB : Hid (Below w.heap.size w w1) := (((Below.refl _ _).alloc (Nat.le_refl _) _).alloc (by simp) _).trans (hb1.mono (by simp; omega))
  clear hb1
  refine wp_region_calm (by kernel_rfl) (by kernel_rfl) ?_
  repeat (go_big_quiet_step (first
    | (go_at_call 20; exact calm_call (alive_any _ (((HE.out.on HB.out).one _).on (below_above _ _))))
    | (go_at_call 13; exact calm_call (Put_any _ _ _ _ _))))
  refine wpQuiet_nil ?_
  intro w3 hb3
  go_wp2
  go_ret
  refine ⟨?_, (HB.out.alloc (by omega) _).trans (hb3.mono (by simp; omega))⟩
  first | rfl | simp
end Go.Proofs.YtneookkoogbhoaaDoor
