/- 'TasksOne' walked. -/
import Derived.Test.YtnoadpgnefncjaaDoorLives
import Derived.Test.YtnoadpgnefncjaaDoorFit
namespace Go.Proofs.YtnoadpgnefncjaaDoor
open Go Go.RowKit
set_option maxRecDepth 100000
set_option linter.unusedVariables false
set_option linter.unusedSimpArgs false
/-- how many of the first k kinds it fits -/
def cntF (w k : Int) : Int := if kd w ≠ 0 ∧ kd w < k then 1 else 0
theorem kd_bd (w : Int) : 0 ≤ kd w ∧ kd w ≤ 6 := by unfold kd; repeat (first | omega | split)
theorem cntF_bd (w k : Int) : 0 ≤ cntF w k ∧ cntF w k ≤ 1 := by unfold cntF; split <;> omega
theorem cntF_no (w k : Int) (h : fitB w k = false) : cntF w (k + 1) = cntF w k := by
  have h1 : ¬ (kd w ≠ 0 ∧ kd w = k) := fun e => by rw [(fitB_iff w k).2 e] at h; cases h
  unfold cntF
  split <;> split <;> omega
theorem cntF_yes (w k : Int) (h : fitB w k = true) : cntF w (k + 1) = cntF w k + 1 := by
  have h1 := (fitB_iff w k).1 h
  unfold cntF
  split <;> split <;> omega
theorem one_end (w t : Int) : (cntF w 256 = 1) ∨ (cntF w 256 = 0 ∧ (blkB w t = false ∨ w = 2)) := by
  have hb := kd_bd w
  by_cases h : kd w = 0
  · right
    refine ⟨by unfold cntF; rw [if_neg (by omega)], ?_⟩
    by_cases hk : Blk w t
    · right
      have := hk.1
      unfold MayW at this
      unfold kd at h
      repeat (first | omega | split at h)
    · left; exact (blkB_no w t).2 hk
  · left; unfold cntF; rw [if_pos ⟨h, by omega⟩]
set_option maxHeartbeats 4000000 in
theorem one_any (wh ah av am aw : Int) (hw : 0 ≤ wh ∧ wh ≤ 255) (w : World) (E : Env w) : Calls Tryd.prog 6 #[.agg #[.int .u8 wh, .int .u32 ah, .int .u32 av, .int .u32 am, .int .i64 aw]] w fun e w' => e = .returned (.bool true) ∧ Below w.heap.size w w' := by
  have B0 : Hid (Below w.heap.size w (w.alloc (.cells #[.int .u8 wh, .int .u32 ah, .int .u32 av, .int .u32 am, .int .i64 aw] 26))) := alloc_below w _
  have E1 : ∀ w', Below (w.alloc (.cells #[.int .u8 wh, .int .u32 ah, .int .u32 av, .int .u32 am, .int .i64 aw] 26)).heap.size (w.alloc (.cells #[.int .u8 wh, .int .u32 ah, .int .u32 av, .int .u32 am, .int .i64 aw] 26)) w' → Env w' := fun w' hb => E.on (B0.out.trans (hb.mono B0.out.size))
  have C1 := fun w => blk_any wh ah av am aw w
  have F1 := fun k hk w => fits_any wh ah av am aw k hk w
  have HO : Hid ((cntF wh 256 = 1) ∨ (cntF wh 256 = 0 ∧ (blkB wh aw = false ∨ wh = 2))) := one_end wh aw
  go_enter Tryd.func6, Tryd.ntmps6
  go_wp2
  go_loopg [3, 4] 256 (fun g s3 s4 wx => ∃ k : Nat, k + g = 256 ∧ s3 = .int .i64 (cntF wh k) ∧ s4 = .int .i64 (k : Nat) ∧ Hid (Below (w.alloc (.cells #[.int .u8 wh, .int .u32 ah, .int .u32 av, .int .u32 am, .int .i64 aw] 26)).heap.size (w.alloc (.cells #[.int .u8 wh, .int .u32 ah, .int .u32 av, .int .u32 am, .int .i64 aw] 26)) wx))
  case atStart => exact ⟨0, by omega, by have := kd_bd wh; simp only [cntF]; rw [if_neg (by omega)], rfl, Below.refl _ _⟩
  case round =>
    rename_i wr
    obtain ⟨k, hk, rfl, rfl, HB⟩ := hrel
    obtain ⟨hc, hf⟩ := bcell HB.out
    cases gk with
    | zero =>
      obtain rfl : k = 256 := by omega
      clear hk F1
      rw [show ((256 : Nat) : Int) = 256 from rfl]
      rcases HO.out with h1 | ⟨h0, h2⟩
      · rw [h1]
        clear h1 C1
        go_wp2_with (first
          | (go_at_call 11; refine (lives_any _ (E1 _ HB.out)).mono ?_; rintro e wx ⟨rfl, hb⟩))
        go_ret
        exact ⟨rfl, B0.out.trans ((HB.out.trans (hb.mono HB.out.size)).mono B0.out.size)⟩
      · rw [h0]
        clear h0
        rcases h2 with h2 | h2
        · rw [h2] at C1
          clear h2
          go_wp2_with (first
            | (go_at_call 12; refine (C1 _).mono ?_; rintro e wx ⟨rfl, hb⟩; replace HB : Hid (Below (w.alloc (.cells #[.int .u8 wh, .int .u32 ah, .int .u32 av, .int .u32 am, .int .i64 aw] 26)).heap.size (w.alloc (.cells #[.int .u8 wh, .int .u32 ah, .int .u32 av, .int .u32 am, .int .i64 aw] 26)) wx) := HB.out.trans (hb.mono HB.out.size); clear hb)
            | (go_at_call 11; refine (lives_any _ (E1 _ HB.out)).mono ?_; rintro e wx ⟨rfl, hb⟩))
          go_ret
          exact ⟨rfl, B0.out.trans ((HB.out.trans (hb.mono HB.out.size)).mono B0.out.size)⟩
        · subst h2
          cases q : blkB 2 aw
          all_goals rw [q] at C1
          all_goals clear q
          · go_wp2_with (first
              | (go_at_call 12; refine (C1 _).mono ?_; rintro e wx ⟨rfl, hb⟩; replace HB : Hid (Below (w.alloc (.cells #[.int .u8 2, .int .u32 ah, .int .u32 av, .int .u32 am, .int .i64 aw] 26)).heap.size (w.alloc (.cells #[.int .u8 2, .int .u32 ah, .int .u32 av, .int .u32 am, .int .i64 aw] 26)) wx) := HB.out.trans (hb.mono HB.out.size); clear hb)
              | (go_at_call 11; refine (lives_any _ (E1 _ HB.out)).mono ?_; rintro e wx ⟨rfl, hb⟩))
            go_ret
            exact ⟨rfl, B0.out.trans ((HB.out.trans (hb.mono HB.out.size)).mono B0.out.size)⟩
          · go_wp2_with (first
              | (go_at_call 12; refine (C1 _).mono ?_; rintro e wx ⟨rfl, hb⟩; replace HB : Hid (Below (w.alloc (.cells #[.int .u8 2, .int .u32 ah, .int .u32 av, .int .u32 am, .int .i64 aw] 26)).heap.size (w.alloc (.cells #[.int .u8 2, .int .u32 ah, .int .u32 av, .int .u32 am, .int .i64 aw] 26)) wx) := HB.out.trans (hb.mono HB.out.size); obtain ⟨hc2, hf2⟩ := bcell HB.out; clear hb)
              | (go_at_call 11; refine (lives_any _ (E1 _ HB.out)).mono ?_; rintro e wx ⟨rfl, hb⟩))
            go_ret
            exact ⟨rfl, B0.out.trans ((HB.out.trans (hb.mono HB.out.size)).mono B0.out.size)⟩
    | succ g =>
      clear HO C1 E1
      have hbd := cntF_bd wh k
      have F := F1 (k : Nat) ⟨by omega, by omega⟩
      cases q : fitB wh k
      · have HE : Hid (cntF wh ((k + 1 : Nat) : Int) = cntF wh k) := cntF_no wh k q
        rw [q] at F
        clear q F1
        generalize cntF wh k = c at *
        go_wp2_with (first
          | (go_at_call 14; refine (F _).mono ?_; rintro e wx ⟨rfl, hb⟩))
        go_roundg g
        case measure => omega
        case rel => exact ⟨k + 1, by omega, by rw [HE.out], by go_num, HB.out.trans (hb.mono HB.out.size)⟩
      · have HE : Hid (cntF wh ((k + 1 : Nat) : Int) = cntF wh k + 1) := cntF_yes wh k q
        rw [q] at F
        clear q F1
        generalize cntF wh k = c at *
        go_wp2_with (first
          | (go_at_call 14; refine (F _).mono ?_; rintro e wx ⟨rfl, hb⟩))
        go_roundg g
        case measure => omega
        case rel => exact ⟨k + 1, by omega, by rw [HE.out], by go_num, HB.out.trans (hb.mono HB.out.size)⟩
end Go.Proofs.YtnoadpgnefncjaaDoor
