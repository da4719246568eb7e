/- The chapter's task is as the chapter says: 'lives' answers true. -/
import Derived.Test.YtnoadpgnefncjaaDoorTxt
namespace Go.Proofs.YtnoadpgnefncjaaDoor
open Go Go.RowKit
set_option maxRecDepth 100000
set_option linter.unusedVariables false
set_option linter.unusedSimpArgs false
theorem itoa_small (n : Nat) (h : n < 10) : Lib.itoa (n : Int) = [UInt8.ofNat (48 + n)] := by
  unfold Lib.itoa
  rw [if_neg (by omega), Int.toNat_natCast, decDigits_small n h]
theorem itoa_256 : Lib.itoa 256 = [50, 53, 54] := by
  unfold Lib.itoa
  rw [if_neg (by decide), show (256 : Int).toNat = 256 from rfl, decDigits_big 256 (by decide), decDigits_big (256 / 10) (by decide), decDigits_small (256 / 10 / 10) (by decide)]
  rfl
theorem bdC : Bd 256 1 3 5 0 0 0 0 0 0 2 8 0 := ⟨by decide, by decide, by decide, by decide, by decide, by decide, by decide, by decide, by decide, by decide, by decide, by decide, by decide⟩
theorem bdZ : Bd 0 0 0 0 0 0 0 0 0 0 0 0 0 := ⟨by decide, by decide, by decide, by decide, by decide, by decide, by decide, by decide, by decide, by decide, by decide, by decide, by decide⟩
theorem okC : Ok 256 1 3 5 0 0 0 0 0 0 2 8 := by decide
theorem okZ : ¬ Ok 0 0 0 0 0 0 0 0 0 0 0 0 := by decide
theorem txtC : txt 256 1 false 3 5 0 0 0 0 0 0 2 8 0 = [50, 53, 54, 32, 114, 101, 97, 100, 121, 32, 45, 32, 51, 32, 53, 32, 45, 32, 50, 32, 56, 32, 48] := by
  unfold txt
  rw [if_pos okC]
  unfold wds wtw
  rw [if_neg (by decide), itoa_256, show Lib.itoa 3 = [51] from itoa_small 3 (by decide), show Lib.itoa 5 = [53] from itoa_small 5 (by decide), show Lib.itoa 2 = [50] from itoa_small 2 (by decide), show Lib.itoa 8 = [56] from itoa_small 8 (by decide), show Lib.itoa 0 = [48] from itoa_small 0 (by decide)]
  rfl
theorem lv_c (w : World) : Calls Tryd.prog 7 #[.agg #[.int .u32 256, .int .u8 1, .bool false, .int .i64 3, .int .i64 5, .int .u8 0, .int .u32 0, .int .u32 0, .int .u32 0, .int .i64 0, .int .i64 0, .int .i64 2, .int .i64 8, .int .u32 0]] w fun e w' => e = .returned (.bool true) ∧ Below w.heap.size w w' := by
  have := check_any 256 1 false 3 5 0 0 0 0 0 0 2 8 0 w
  rw [(okB_iff 256 1 3 5 0 0 0 0 0 0 2 8).2 okC] at this
  exact this
theorem lv_t (w : World) (E : Env w) : Calls Tryd.prog 9 #[.agg #[.int .u32 256, .int .u8 1, .bool false, .int .i64 3, .int .i64 5, .int .u8 0, .int .u32 0, .int .u32 0, .int .u32 0, .int .i64 0, .int .i64 0, .int .i64 2, .int .i64 8, .int .u32 0]] w fun e w' => e = .returned (.string ⟨#[50, 53, 54, 32, 114, 101, 97, 100, 121, 32, 45, 32, 51, 32, 53, 32, 45, 32, 50, 32, 56, 32, 48]⟩) ∧ Below w.heap.size w w' := by
  have := text_any 256 1 false 3 5 0 0 0 0 0 0 2 8 0 bdC w E
  rw [txtC] at this
  exact this
theorem lv_z (w : World) : Calls Tryd.prog 9 #[.agg #[.int .u32 0, .int .u8 0, .bool false, .int .i64 0, .int .i64 0, .int .u8 0, .int .u32 0, .int .u32 0, .int .u32 0, .int .i64 0, .int .i64 0, .int .i64 0, .int .i64 0, .int .u32 0]] w fun e w' => e = .returned (.string ⟨#[]⟩) ∧ Below w.heap.size w w' := text_no 0 0 false 0 0 0 0 0 0 0 0 0 0 0 okZ w
theorem lv_b (a b c : Int) (q : Bool) (hq : blkB a c = q) (w : World) : Calls Tryd.prog 12 #[.agg #[.int .u8 a, .int .u32 0, .int .u32 0, .int .u32 0, .int .i64 c]] w fun e w' => e = .returned (.bool q) ∧ Below w.heap.size w w' := by
  have := blk_any a 0 0 0 c w
  rw [hq] at this
  exact this
set_option maxHeartbeats 4000000 in
theorem lives_any (w : World) (E : Env w) : Calls Tryd.prog 11 #[] w fun e w' => e = .returned (.bool true) ∧ Below w.heap.size w w' := by
  have HB : Hid (Below w.heap.size w w) := Below.refl w.heap.size w
  have E1 : ∀ w', Below w.heap.size w w' → Env w' := fun w' hb => E.on hb
  have b0 := fun w => lv_b 3 0 0 false (by decide) w
  have b1 := fun w => lv_b 3 0 (-1) true (by decide) w
  have b2 := fun w => lv_b 4 0 5 false (by decide) w
  go_enter Tryd.func11, Tryd.ntmps11
  go_wp2_with (first
    | (go_at_call 7; refine (lv_c _).mono ?_; rintro e w1 ⟨rfl, hb1⟩; obtain ⟨hc1, hf1⟩ := bcell hb1; have z1 : w.heap.size < w1.heap.size := (by have := hb1.size; rw [alloc_size] at this; omega); replace HB : Hid (Below w.heap.size w w1) := (alloc_below w _).trans (hb1.mono (by simp)))
    | (go_at_call 9; (with_reducible refine (lv_t _ (E1 _ HB.out)).mono ?_); rintro e wx ⟨rfl, hb⟩; replace HB : Hid (Below w.heap.size w wx) := HB.out.trans (hb.mono HB.out.size); clear hb)
    | (go_at_call 9; (with_reducible refine (lv_z _).mono ?_); rintro e wx ⟨rfl, hb⟩; replace HB : Hid (Below w.heap.size w wx) := HB.out.trans (hb.mono HB.out.size); clear hb)
    | (go_at_call 12; (with_reducible refine (b0 _).mono ?_); rintro e wx ⟨rfl, hb⟩; replace HB : Hid (Below w.heap.size w wx) := HB.out.trans (hb.mono HB.out.size); clear hb)
    | (go_at_call 12; (with_reducible refine (b1 _).mono ?_); rintro e wx ⟨rfl, hb⟩; replace HB : Hid (Below w.heap.size w wx) := HB.out.trans (hb.mono HB.out.size); clear hb)
    | (go_at_call 12; (with_reducible refine (b2 _).mono ?_); rintro e wx ⟨rfl, hb⟩; replace HB : Hid (Below w.heap.size w wx) := HB.out.trans (hb.mono HB.out.size); clear hb))
  go_ret
  exact ⟨rfl, HB.out⟩
end Go.Proofs.YtnoadpgnefncjaaDoor
