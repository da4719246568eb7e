/- 'TasksTell' walked. -/
import Derived.Test.YtnoadpgnefncjaaDoorLives
import Derived.Test.YtnoadpgnefncjaaDoorRTxt
namespace Go.Proofs.YtnoadpgnefncjaaDoor
open Go Go.RowKit
set_option maxRecDepth 100000
set_option linter.unusedVariables false
set_option linter.unusedSimpArgs false
set_option maxHeartbeats 4000000 in
theorem tell_any (h s : Int) (d : Bool) (b r wh ah av am aw lf an la vl : Int) (hB : Bd h s b r wh ah av am aw lf an la vl) (w : World) (E : Env w) : Calls Tryd.prog 3 #[.agg #[.int .u32 h, .int .u8 s, .bool d, .int .i64 b, .int .i64 r, .int .u8 wh, .int .u32 ah, .int .u32 av, .int .u32 am, .int .i64 aw, .int .i64 lf, .int .i64 an, .int .i64 la, .int .u32 vl]] w fun e w' => e = .returned (.bool true) ∧ Below w.heap.size w w' := by
  have B0 : Hid (Below w.heap.size w (w.alloc (.cells #[.int .u32 h, .int .u8 s, .bool d, .int .i64 b, .int .i64 r, .int .u8 wh, .int .u32 ah, .int .u32 av, .int .u32 am, .int .i64 aw, .int .i64 lf, .int .i64 an, .int .i64 la, .int .u32 vl] 29))) := alloc_below w _
  have EA : ∀ g, Env (above (w.alloc (.cells #[.int .u32 h, .int .u8 s, .bool d, .int .i64 b, .int .i64 r, .int .u8 wh, .int .u32 ah, .int .u32 av, .int .u32 am, .int .i64 aw, .int .i64 lf, .int .i64 an, .int .i64 la, .int .u32 vl] 29)) g) := fun g => E.on (B0.out.trans ((below_above _ g).mono B0.out.size))
  have hca := @above_cell
  have C1 := fun w => check_any h s d b r wh ah av am aw lf an la vl w
  have C2 := fun w => rcheck_any h s d b r wh ah av am aw lf an la vl w
  have T1 := fun w E => text_any h s d b r wh ah av am aw lf an la vl hB w E
  have T2 := fun w => rtext_any h s d b r wh ah av am aw lf an la vl hB w
  clear hB
  generalize okB h s b r wh ah av am aw lf an la = q at *
  generalize mk (txt h s d b r wh ah av am aw lf an la vl) = t at *
  have hq : (q == q) = true := beq_self_eq_true q
  have ht : (t.toList == t.toList) = true := beq_self_eq_true _
  go_enter Tryd.func3, Tryd.ntmps3
  go_wp2
  refine wp_region_calm (by kernel_rfl) (by kernel_rfl) ?_
  repeat (go_big_quiet_step (first
    | (go_at_call 7; exact calm_call (C1 _))
    | (go_at_call 8; exact calm_call (C2 _))
    | (go_at_call 9; exact calm_call (T1 _ (EA _)))
    | (go_at_call 10; exact calm_call (T2 _))
    | (go_at_call 11; exact calm_call (lives_any _ (EA _)))))
  refine wpQuiet_nil ?_
  intro w3 hb3
  go_wp2
  go_ret
  exact ⟨rfl, B0.out.trans (hb3.mono B0.out.size)⟩
end Go.Proofs.YtnoadpgnefncjaaDoor
