/- 'TasksAsk' walked. -/
import Derived.Test.YtnoadpgnefncjaaDoorLives
import Derived.Test.YtnoadpgnefncjaaDoorFit
namespace Go.Proofs.YtnoadpgnefncjaaDoor
open Go Go.RowKit
set_option maxRecDepth 100000
set_option linter.unusedVariables false
set_option linter.unusedSimpArgs false
set_option maxHeartbeats 4000000 in
theorem ask_any (wh ah av am aw k : Int) (hk : 0 ≤ k ∧ k ≤ 255) (w : World) (E : Env w) : Calls Tryd.prog 4 #[.agg #[.int .u8 wh, .int .u32 ah, .int .u32 av, .int .u32 am, .int .i64 aw], .int .u8 k] w fun e w' => e = .returned (.bool true) ∧ Below w.heap.size w w' := by
  have B0 : Hid (Below w.heap.size w (w.alloc (.cells #[.int .u8 wh, .int .u32 ah, .int .u32 av, .int .u32 am, .int .i64 aw] 26))) := alloc_below w _
  have EA : ∀ g, Env (above (w.alloc (.cells #[.int .u8 wh, .int .u32 ah, .int .u32 av, .int .u32 am, .int .i64 aw] 26)) g) := fun g => E.on (B0.out.trans ((below_above _ g).mono B0.out.size))
  have hca := @above_cell
  have C1 := fun w => blk_any wh ah av am aw w
  have C2 := fun w => rblk_any wh ah av am aw w
  have T1 := fun w => fits_any wh ah av am aw k hk w
  have T2 := fun w => rfits_any wh ah av am aw k hk w
  generalize blkB wh aw = q at *
  generalize fitB wh k = t at *
  have hq : (q == q) = true := beq_self_eq_true q
  have ht : (t == t) = true := beq_self_eq_true _
  go_enter Tryd.func4, Tryd.ntmps4
  go_wp2
  refine wp_region_calm (by kernel_rfl) (by kernel_rfl) ?_
  repeat (go_big_quiet_step (first
    | (go_at_call 12; exact calm_call (C1 _))
    | (go_at_call 13; exact calm_call (C2 _))
    | (go_at_call 14; exact calm_call (T1 _))
    | (go_at_call 15; exact calm_call (T2 _))
    | (go_at_call 11; exact calm_call (lives_any _ (EA _)))))
  refine wpQuiet_nil ?_
  intro w3 hb3
  go_wp2
  go_ret
  exact ⟨rfl, B0.out.trans (hb3.mono B0.out.size)⟩
end Go.Proofs.YtnoadpgnefncjaaDoor
