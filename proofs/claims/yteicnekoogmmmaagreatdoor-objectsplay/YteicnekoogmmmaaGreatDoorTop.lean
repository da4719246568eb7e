/- What a thing answers who asks, by what its part answers. -/
import Derived.Test.YteicnekoogmmmaaGreatDoorNew1
import Derived.Test.YteicnekoogmmmaaGreatDoorTCalm
import Derived.Laws.Tables
import Derived.Laws.Rows
import Derived.Deep.Onto
namespace Go.Proofs.YteicnekoogmmmaaGreatDoor
open Go Go.RowKit
open Tk (above above_cell below_above wp_region_calm calm_call)
set_option maxRecDepth 100000
set_option linter.unusedVariables false
theorem there_any {w : World} {p f : Nat} {k a b : Int} {t : TypeId} (h : Blk w p (hdc k a b t f) 64) :
    Calls Tryz.prog 18 #[.pointer (some ⟨p, 0, none⟩)] w fun e w' => e = .returned (.bool true) ∧ w = w' := by
  have hlt := h.lt
  have c3 : w.cell? ⟨p, 3, none⟩ = some (.iface t (.pointer (some ⟨f, 0, none⟩))) := by rw [h.cell]; rfl
  clear h
  go_enter Tryz.func18, Tryz.ntmps18
  go_wp2
  go_ret
  exact ⟨rfl, rfl⟩
theorem oThere_nil {w : World} : Calls Tryz.prog 18 #[.pointer none] w fun e w' => e = .returned (.bool false) ∧ w = w' := by
  go_enter Tryz.func18, Tryz.ntmps18
  go_wp2
  go_ret
  exact ⟨rfl, rfl⟩
theorem try_nil {w : World} (who wh ah av am aw : Int) : Calls Tryz.prog 7 #[.pointer none, .int .u32 who, .agg #[.int .u8 wh, .int .u32 ah, .int .u32 av, .int .u32 am, .int .i64 aw]] w fun e w' => e = .returned (.tuple #[.int .u32 0, .int .i64 2]) ∧ Below w.heap.size w w' := by
  go_enter Tryz.func7, Tryz.ntmps7
  go_wp2_with (first
    | (go_at_call 18; refine oThere_nil.mono ?_; rintro e wx ⟨rfl, rfl⟩))
  go_ret2
  exact ⟨rfl, alloc_below _ _⟩
theorem leave_nil {w : World} (who : Int) : Calls Tryz.prog 8 #[.pointer none, .int .u32 who] w fun e w' => e = .returned (.bool false) ∧ w = w' := by
  go_enter Tryz.func8, Tryz.ntmps8
  go_wp2_with (first
    | (go_at_call 18; refine oThere_nil.mono ?_; rintro e wx ⟨rfl, rfl⟩))
  go_ret
  exact ⟨rfl, rfl⟩
set_option maxHeartbeats 4000000 in
theorem try_sem {w : World} {p f : Nat} {k a b : Int} (hh : Blk w p (hdc k a b 74 f) 64) (hk : 0 ≤ k ∧ k ≤ 255) (who wh ah av am aw : Int) (hw : who ≠ 0) (hf : Tk.fitB wh k = true) {R : World → Prop} {v er : Int}
    (HP : ∀ wx, Below w.heap.size w wx → Calls Tryz.prog 121 #[.pointer (some ⟨f, 0, none⟩), .int .u32 who, .agg #[.int .u8 wh, .int .u32 ah, .int .u32 av, .int .u32 am, .int .i64 aw]] wx fun e w' => e = .returned (.tuple #[.int .u32 v, .int .i64 er]) ∧ R w') :
    Calls Tryz.prog 7 #[.pointer (some ⟨p, 0, none⟩), .int .u32 who, .agg #[.int .u8 wh, .int .u32 ah, .int .u32 av, .int .u32 am, .int .i64 aw]] w fun e w' => e = .returned (.tuple #[.int .u32 v, .int .i64 er]) ∧ R w' := by
  have HC : Hid (∀ wx, Below w.heap.size w wx → Calls Tryz.prog 121 #[.pointer (some ⟨f, 0, none⟩), .int .u32 who, .agg #[.int .u8 wh, .int .u32 ah, .int .u32 av, .int .u32 am, .int .i64 aw]] wx fun e w' => e = .returned (.tuple #[.int .u32 v, .int .i64 er]) ∧ R w') := HP
  clear HP
  have hz : (who == 0) = false := by simpa using hw
  have B0 : Hid (Below w.heap.size w (w.alloc (.cells #[.int .u8 wh, .int .u32 ah, .int .u32 av, .int .u32 am, .int .i64 aw] 39))) := alloc_below w _
  have HH : Hid (Blk (w.alloc (.cells #[.int .u8 wh, .int .u32 ah, .int .u32 av, .int .u32 am, .int .i64 aw] 39)) p (hdc k a b 74 f) 64) := hh.below B0.out
  have HT := there_any HH.out
  have hs := alloc_size w (.cells #[.int .u8 wh, .int .u32 ah, .int .u32 av, .int .u32 am, .int .i64 aw] 39)
  have HA : Hid (Blk (w.alloc (.cells #[.int .u8 wh, .int .u32 ah, .int .u32 av, .int .u32 am, .int .i64 aw] 39)) w.heap.size #[.int .u8 wh, .int .u32 ah, .int .u32 av, .int .u32 am, .int .i64 aw] 39) := alloc_at w _
  have T1 := fun w => Tk.fits_any wh ah av am aw k hk w
  have hlt := hh.lt
  have c0 : (w.alloc (.cells #[.int .u8 wh, .int .u32 ah, .int .u32 av, .int .u32 am, .int .i64 aw] 39)).cell? ⟨p, 0, none⟩ = some (.int .u8 k) := by rw [HH.out.cell]; rfl
  have a0 : (w.alloc (.cells #[.int .u8 wh, .int .u32 ah, .int .u32 av, .int .u32 am, .int .i64 aw] 39)).cell? ⟨w.heap.size, 0, none⟩ = some (.int .u8 wh) := by rw [HA.out.cell]; rfl
  have a1 : (w.alloc (.cells #[.int .u8 wh, .int .u32 ah, .int .u32 av, .int .u32 am, .int .i64 aw] 39)).cell? ⟨w.heap.size, 1, none⟩ = some (.int .u32 ah) := by rw [HA.out.cell]; rfl
  have a2 : (w.alloc (.cells #[.int .u8 wh, .int .u32 ah, .int .u32 av, .int .u32 am, .int .i64 aw] 39)).cell? ⟨w.heap.size, 2, none⟩ = some (.int .u32 av) := by rw [HA.out.cell]; rfl
  have a3 : (w.alloc (.cells #[.int .u8 wh, .int .u32 ah, .int .u32 av, .int .u32 am, .int .i64 aw] 39)).cell? ⟨w.heap.size, 3, none⟩ = some (.int .u32 am) := by rw [HA.out.cell]; rfl
  have a4 : (w.alloc (.cells #[.int .u8 wh, .int .u32 ah, .int .u32 av, .int .u32 am, .int .i64 aw] 39)).cell? ⟨w.heap.size, 4, none⟩ = some (.int .i64 aw) := by rw [HA.out.cell]; rfl
  have hsz : w.heap.size < (w.alloc (.cells #[.int .u8 wh, .int .u32 ah, .int .u32 av, .int .u32 am, .int .i64 aw] 39)).heap.size := by omega
  have hpz : p < (w.alloc (.cells #[.int .u8 wh, .int .u32 ah, .int .u32 av, .int .u32 am, .int .i64 aw] 39)).heap.size := by omega
  rw [hf] at T1
  clear hh hf hk hw hs hlt
  go_enter Tryz.func7, Tryz.ntmps7
  go_wp2_with (first
    | (go_at_call 18; refine HT.mono ?_; rintro e wx ⟨rfl, rfl⟩))
  generalize hW : w.alloc (.cells #[.int .u8 wh, .int .u32 ah, .int .u32 av, .int .u32 am, .int .i64 aw] 39) = w2 at *
  have hca := @above_cell
  refine wp_region_calm (by kernel_rfl) (by kernel_rfl) ?_
  repeat (go_big_quiet_step (first
    | (go_at_call 19; exact calm_call (T1 _))))
  refine wpQuiet_nil ?_
  intro w3 hb3
  have B3 : Hid (Below w.heap.size w w3) := B0.out.trans (hb3.mono B0.out.size)
  have d3 : w3.cell? ⟨p, 3, none⟩ = some (.iface 74 (.pointer (some ⟨f, 0, none⟩))) := by rw [(HH.out.below hb3).cell]; rfl
  have e0 : w3.cell? ⟨w.heap.size, 0, none⟩ = some (.int .u8 wh) := by rw [(HA.out.below hb3).cell]; rfl
  have e1 : w3.cell? ⟨w.heap.size, 1, none⟩ = some (.int .u32 ah) := by rw [(HA.out.below hb3).cell]; rfl
  have e2 : w3.cell? ⟨w.heap.size, 2, none⟩ = some (.int .u32 av) := by rw [(HA.out.below hb3).cell]; rfl
  have e3 : w3.cell? ⟨w.heap.size, 3, none⟩ = some (.int .u32 am) := by rw [(HA.out.below hb3).cell]; rfl
  have e4 : w3.cell? ⟨w.heap.size, 4, none⟩ = some (.int .i64 aw) := by rw [(HA.out.below hb3).cell]; rfl
  clear hca hb3 HH HA B0 HT T1 c0 a0 a1 a2 a3 a4 hW hsz hpz
  go_wp2
  go_region_with (first
    | (go_at_call 121; refine (HC.out _ B3.out.drew).mono ?_; rintro e w4 ⟨rfl, hr⟩; have HR : Hid (R w4) := hr; clear hr))
  all_goals
    go_wp2
    go_ret2
    exact ⟨rfl, HR.out⟩
set_option maxHeartbeats 4000000 in
theorem try_mut {w : World} {p f : Nat} {k a b : Int} (hh : Blk w p (hdc k a b 77 f) 64) (hk : 0 ≤ k ∧ k ≤ 255) (who wh ah av am aw : Int) (hw : who ≠ 0) (hf : Tk.fitB wh k = true) {R : World → Prop} {v er : Int}
    (HP : ∀ wx, Below w.heap.size w wx → Calls Tryz.prog 122 #[.pointer (some ⟨f, 0, none⟩), .int .u32 who, .agg #[.int .u8 wh, .int .u32 ah, .int .u32 av, .int .u32 am, .int .i64 aw]] wx fun e w' => e = .returned (.tuple #[.int .u32 v, .int .i64 er]) ∧ R w') :
    Calls Tryz.prog 7 #[.pointer (some ⟨p, 0, none⟩), .int .u32 who, .agg #[.int .u8 wh, .int .u32 ah, .int .u32 av, .int .u32 am, .int .i64 aw]] w fun e w' => e = .returned (.tuple #[.int .u32 v, .int .i64 er]) ∧ R w' := by
  have HC : Hid (∀ wx, Below w.heap.size w wx → Calls Tryz.prog 122 #[.pointer (some ⟨f, 0, none⟩), .int .u32 who, .agg #[.int .u8 wh, .int .u32 ah, .int .u32 av, .int .u32 am, .int .i64 aw]] wx fun e w' => e = .returned (.tuple #[.int .u32 v, .int .i64 er]) ∧ R w') := HP
  clear HP
  have hz : (who == 0) = false := by simpa using hw
  have B0 : Hid (Below w.heap.size w (w.alloc (.cells #[.int .u8 wh, .int .u32 ah, .int .u32 av, .int .u32 am, .int .i64 aw] 39))) := alloc_below w _
  have HH : Hid (Blk (w.alloc (.cells #[.int .u8 wh, .int .u32 ah, .int .u32 av, .int .u32 am, .int .i64 aw] 39)) p (hdc k a b 77 f) 64) := hh.below B0.out
  have HT := there_any HH.out
  have hs := alloc_size w (.cells #[.int .u8 wh, .int .u32 ah, .int .u32 av, .int .u32 am, .int .i64 aw] 39)
  have HA : Hid (Blk (w.alloc (.cells #[.int .u8 wh, .int .u32 ah, .int .u32 av, .int .u32 am, .int .i64 aw] 39)) w.heap.size #[.int .u8 wh, .int .u32 ah, .int .u32 av, .int .u32 am, .int .i64 aw] 39) := alloc_at w _
  have T1 := fun w => Tk.fits_any wh ah av am aw k hk w
  have hlt := hh.lt
  have c0 : (w.alloc (.cells #[.int .u8 wh, .int .u32 ah, .int .u32 av, .int .u32 am, .int .i64 aw] 39)).cell? ⟨p, 0, none⟩ = some (.int .u8 k) := by rw [HH.out.cell]; rfl
  have a0 : (w.alloc (.cells #[.int .u8 wh, .int .u32 ah, .int .u32 av, .int .u32 am, .int .i64 aw] 39)).cell? ⟨w.heap.size, 0, none⟩ = some (.int .u8 wh) := by rw [HA.out.cell]; rfl
  have a1 : (w.alloc (.cells #[.int .u8 wh, .int .u32 ah, .int .u32 av, .int .u32 am, .int .i64 aw] 39)).cell? ⟨w.heap.size, 1, none⟩ = some (.int .u32 ah) := by rw [HA.out.cell]; rfl
  have a2 : (w.alloc (.cells #[.int .u8 wh, .int .u32 ah, .int .u32 av, .int .u32 am, .int .i64 aw] 39)).cell? ⟨w.heap.size, 2, none⟩ = some (.int .u32 av) := by rw [HA.out.cell]; rfl
  have a3 : (w.alloc (.cells #[.int .u8 wh, .int .u32 ah, .int .u32 av, .int .u32 am, .int .i64 aw] 39)).cell? ⟨w.heap.size, 3, none⟩ = some (.int .u32 am) := by rw [HA.out.cell]; rfl
  have a4 : (w.alloc (.cells #[.int .u8 wh, .int .u32 ah, .int .u32 av, .int .u32 am, .int .i64 aw] 39)).cell? ⟨w.heap.size, 4, none⟩ = some (.int .i64 aw) := by rw [HA.out.cell]; rfl
  have hsz : w.heap.size < (w.alloc (.cells #[.int .u8 wh, .int .u32 ah, .int .u32 av, .int .u32 am, .int .i64 aw] 39)).heap.size := by omega
  have hpz : p < (w.alloc (.cells #[.int .u8 wh, .int .u32 ah, .int .u32 av, .int .u32 am, .int .i64 aw] 39)).heap.size := by omega
  rw [hf] at T1
  clear hh hf hk hw hs hlt
  go_enter Tryz.func7, Tryz.ntmps7
  go_wp2_with (first
    | (go_at_call 18; refine HT.mono ?_; rintro e wx ⟨rfl, rfl⟩))
  generalize hW : w.alloc (.cells #[.int .u8 wh, .int .u32 ah, .int .u32 av, .int .u32 am, .int .i64 aw] 39) = w2 at *
  have hca := @above_cell
  refine wp_region_calm (by kernel_rfl) (by kernel_rfl) ?_
  repeat (go_big_quiet_step (first
    | (go_at_call 19; exact calm_call (T1 _))))
  refine wpQuiet_nil ?_
  intro w3 hb3
  have B3 : Hid (Below w.heap.size w w3) := B0.out.trans (hb3.mono B0.out.size)
  have d3 : w3.cell? ⟨p, 3, none⟩ = some (.iface 77 (.pointer (some ⟨f, 0, none⟩))) := by rw [(HH.out.below hb3).cell]; rfl
  have e0 : w3.cell? ⟨w.heap.size, 0, none⟩ = some (.int .u8 wh) := by rw [(HA.out.below hb3).cell]; rfl
  have e1 : w3.cell? ⟨w.heap.size, 1, none⟩ = some (.int .u32 ah) := by rw [(HA.out.below hb3).cell]; rfl
  have e2 : w3.cell? ⟨w.heap.size, 2, none⟩ = some (.int .u32 av) := by rw [(HA.out.below hb3).cell]; rfl
  have e3 : w3.cell? ⟨w.heap.size, 3, none⟩ = some (.int .u32 am) := by rw [(HA.out.below hb3).cell]; rfl
  have e4 : w3.cell? ⟨w.heap.size, 4, none⟩ = some (.int .i64 aw) := by rw [(HA.out.below hb3).cell]; rfl
  clear hca hb3 HH HA B0 HT T1 c0 a0 a1 a2 a3 a4 hW hsz hpz
  go_wp2
  go_region_with (first
    | (go_at_call 122; refine (HC.out _ B3.out.drew).mono ?_; rintro e w4 ⟨rfl, hr⟩; have HR : Hid (R w4) := hr; clear hr))
  all_goals
    go_wp2
    go_ret2
    exact ⟨rfl, HR.out⟩
set_option maxHeartbeats 4000000 in
theorem try_row {w : World} {p f : Nat} {k a b : Int} (hh : Blk w p (hdc k a b 83 f) 64) (hk : 0 ≤ k ∧ k ≤ 255) (who wh ah av am aw : Int) (hw : who ≠ 0) (hf : Tk.fitB wh k = true) {R : World → Prop} {v er : Int}
    (HP : ∀ wx, Below w.heap.size w wx → Calls Tryz.prog 124 #[.pointer (some ⟨f, 0, none⟩), .int .u32 who, .agg #[.int .u8 wh, .int .u32 ah, .int .u32 av, .int .u32 am, .int .i64 aw]] wx fun e w' => e = .returned (.tuple #[.int .u32 v, .int .i64 er]) ∧ R w') :
    Calls Tryz.prog 7 #[.pointer (some ⟨p, 0, none⟩), .int .u32 who, .agg #[.int .u8 wh, .int .u32 ah, .int .u32 av, .int .u32 am, .int .i64 aw]] w fun e w' => e = .returned (.tuple #[.int .u32 v, .int .i64 er]) ∧ R w' := by
  have HC : Hid (∀ wx, Below w.heap.size w wx → Calls Tryz.prog 124 #[.pointer (some ⟨f, 0, none⟩), .int .u32 who, .agg #[.int .u8 wh, .int .u32 ah, .int .u32 av, .int .u32 am, .int .i64 aw]] wx fun e w' => e = .returned (.tuple #[.int .u32 v, .int .i64 er]) ∧ R w') := HP
  clear HP
  have hz : (who == 0) = false := by simpa using hw
  have B0 : Hid (Below w.heap.size w (w.alloc (.cells #[.int .u8 wh, .int .u32 ah, .int .u32 av, .int .u32 am, .int .i64 aw] 39))) := alloc_below w _
  have HH : Hid (Blk (w.alloc (.cells #[.int .u8 wh, .int .u32 ah, .int .u32 av, .int .u32 am, .int .i64 aw] 39)) p (hdc k a b 83 f) 64) := hh.below B0.out
  have HT := there_any HH.out
  have hs := alloc_size w (.cells #[.int .u8 wh, .int .u32 ah, .int .u32 av, .int .u32 am, .int .i64 aw] 39)
  have HA : Hid (Blk (w.alloc (.cells #[.int .u8 wh, .int .u32 ah, .int .u32 av, .int .u32 am, .int .i64 aw] 39)) w.heap.size #[.int .u8 wh, .int .u32 ah, .int .u32 av, .int .u32 am, .int .i64 aw] 39) := alloc_at w _
  have T1 := fun w => Tk.fits_any wh ah av am aw k hk w
  have hlt := hh.lt
  have c0 : (w.alloc (.cells #[.int .u8 wh, .int .u32 ah, .int .u32 av, .int .u32 am, .int .i64 aw] 39)).cell? ⟨p, 0, none⟩ = some (.int .u8 k) := by rw [HH.out.cell]; rfl
  have a0 : (w.alloc (.cells #[.int .u8 wh, .int .u32 ah, .int .u32 av, .int .u32 am, .int .i64 aw] 39)).cell? ⟨w.heap.size, 0, none⟩ = some (.int .u8 wh) := by rw [HA.out.cell]; rfl
  have a1 : (w.alloc (.cells #[.int .u8 wh, .int .u32 ah, .int .u32 av, .int .u32 am, .int .i64 aw] 39)).cell? ⟨w.heap.size, 1, none⟩ = some (.int .u32 ah) := by rw [HA.out.cell]; rfl
  have a2 : (w.alloc (.cells #[.int .u8 wh, .int .u32 ah, .int .u32 av, .int .u32 am, .int .i64 aw] 39)).cell? ⟨w.heap.size, 2, none⟩ = some (.int .u32 av) := by rw [HA.out.cell]; rfl
  have a3 : (w.alloc (.cells #[.int .u8 wh, .int .u32 ah, .int .u32 av, .int .u32 am, .int .i64 aw] 39)).cell? ⟨w.heap.size, 3, none⟩ = some (.int .u32 am) := by rw [HA.out.cell]; rfl
  have a4 : (w.alloc (.cells #[.int .u8 wh, .int .u32 ah, .int .u32 av, .int .u32 am, .int .i64 aw] 39)).cell? ⟨w.heap.size, 4, none⟩ = some (.int .i64 aw) := by rw [HA.out.cell]; rfl
  have hsz : w.heap.size < (w.alloc (.cells #[.int .u8 wh, .int .u32 ah, .int .u32 av, .int .u32 am, .int .i64 aw] 39)).heap.size := by omega
  have hpz : p < (w.alloc (.cells #[.int .u8 wh, .int .u32 ah, .int .u32 av, .int .u32 am, .int .i64 aw] 39)).heap.size := by omega
  rw [hf] at T1
  clear hh hf hk hw hs hlt
  go_enter Tryz.func7, Tryz.ntmps7
  go_wp2_with (first
    | (go_at_call 18; refine HT.mono ?_; rintro e wx ⟨rfl, rfl⟩))
  generalize hW : w.alloc (.cells #[.int .u8 wh, .int .u32 ah, .int .u32 av, .int .u32 am, .int .i64 aw] 39) = w2 at *
  have hca := @above_cell
  refine wp_region_calm (by kernel_rfl) (by kernel_rfl) ?_
  repeat (go_big_quiet_step (first
    | (go_at_call 19; exact calm_call (T1 _))))
  refine wpQuiet_nil ?_
  intro w3 hb3
  have B3 : Hid (Below w.heap.size w w3) := B0.out.trans (hb3.mono B0.out.size)
  have d3 : w3.cell? ⟨p, 3, none⟩ = some (.iface 83 (.pointer (some ⟨f, 0, none⟩))) := by rw [(HH.out.below hb3).cell]; rfl
  have e0 : w3.cell? ⟨w.heap.size, 0, none⟩ = some (.int .u8 wh) := by rw [(HA.out.below hb3).cell]; rfl
  have e1 : w3.cell? ⟨w.heap.size, 1, none⟩ = some (.int .u32 ah) := by rw [(HA.out.below hb3).cell]; rfl
  have e2 : w3.cell? ⟨w.heap.size, 2, none⟩ = some (.int .u32 av) := by rw [(HA.out.below hb3).cell]; rfl
  have e3 : w3.cell? ⟨w.heap.size, 3, none⟩ = some (.int .u32 am) := by rw [(HA.out.below hb3).cell]; rfl
  have e4 : w3.cell? ⟨w.heap.size, 4, none⟩ = some (.int .i64 aw) := by rw [(HA.out.below hb3).cell]; rfl
  clear hca hb3 HH HA B0 HT T1 c0 a0 a1 a2 a3 a4 hW hsz hpz
  go_wp2
  go_region_with (first
    | (go_at_call 124; refine (HC.out _ B3.out.drew).mono ?_; rintro e w4 ⟨rfl, hr⟩; have HR : Hid (R w4) := hr; clear hr))
  all_goals
    go_wp2
    go_ret2
    exact ⟨rfl, HR.out⟩
set_option maxHeartbeats 4000000 in
theorem try_flg {w : World} {p f : Nat} {k a b : Int} (hh : Blk w p (hdc k a b 86 f) 64) (hk : 0 ≤ k ∧ k ≤ 255) (who wh ah av am aw : Int) (hw : who ≠ 0) (hf : Tk.fitB wh k = true) {R : World → Prop} {v er : Int}
    (HP : ∀ wx, Below w.heap.size w wx → Calls Tryz.prog 134 #[.pointer (some ⟨f, 0, none⟩), .int .u32 who, .agg #[.int .u8 wh, .int .u32 ah, .int .u32 av, .int .u32 am, .int .i64 aw]] wx fun e w' => e = .returned (.tuple #[.int .u32 v, .int .i64 er]) ∧ R w') :
    Calls Tryz.prog 7 #[.pointer (some ⟨p, 0, none⟩), .int .u32 who, .agg #[.int .u8 wh, .int .u32 ah, .int .u32 av, .int .u32 am, .int .i64 aw]] w fun e w' => e = .returned (.tuple #[.int .u32 v, .int .i64 er]) ∧ R w' := by
  have HC : Hid (∀ wx, Below w.heap.size w wx → Calls Tryz.prog 134 #[.pointer (some ⟨f, 0, none⟩), .int .u32 who, .agg #[.int .u8 wh, .int .u32 ah, .int .u32 av, .int .u32 am, .int .i64 aw]] wx fun e w' => e = .returned (.tuple #[.int .u32 v, .int .i64 er]) ∧ R w') := HP
  clear HP
  have hz : (who == 0) = false := by simpa using hw
  have B0 : Hid (Below w.heap.size w (w.alloc (.cells #[.int .u8 wh, .int .u32 ah, .int .u32 av, .int .u32 am, .int .i64 aw] 39))) := alloc_below w _
  have HH : Hid (Blk (w.alloc (.cells #[.int .u8 wh, .int .u32 ah, .int .u32 av, .int .u32 am, .int .i64 aw] 39)) p (hdc k a b 86 f) 64) := hh.below B0.out
  have HT := there_any HH.out
  have hs := alloc_size w (.cells #[.int .u8 wh, .int .u32 ah, .int .u32 av, .int .u32 am, .int .i64 aw] 39)
  have HA : Hid (Blk (w.alloc (.cells #[.int .u8 wh, .int .u32 ah, .int .u32 av, .int .u32 am, .int .i64 aw] 39)) w.heap.size #[.int .u8 wh, .int .u32 ah, .int .u32 av, .int .u32 am, .int .i64 aw] 39) := alloc_at w _
  have T1 := fun w => Tk.fits_any wh ah av am aw k hk w
  have hlt := hh.lt
  have c0 : (w.alloc (.cells #[.int .u8 wh, .int .u32 ah, .int .u32 av, .int .u32 am, .int .i64 aw] 39)).cell? ⟨p, 0, none⟩ = some (.int .u8 k) := by rw [HH.out.cell]; rfl
  have a0 : (w.alloc (.cells #[.int .u8 wh, .int .u32 ah, .int .u32 av, .int .u32 am, .int .i64 aw] 39)).cell? ⟨w.heap.size, 0, none⟩ = some (.int .u8 wh) := by rw [HA.out.cell]; rfl
  have a1 : (w.alloc (.cells #[.int .u8 wh, .int .u32 ah, .int .u32 av, .int .u32 am, .int .i64 aw] 39)).cell? ⟨w.heap.size, 1, none⟩ = some (.int .u32 ah) := by rw [HA.out.cell]; rfl
  have a2 : (w.alloc (.cells #[.int .u8 wh, .int .u32 ah, .int .u32 av, .int .u32 am, .int .i64 aw] 39)).cell? ⟨w.heap.size, 2, none⟩ = some (.int .u32 av) := by rw [HA.out.cell]; rfl
  have a3 : (w.alloc (.cells #[.int .u8 wh, .int .u32 ah, .int .u32 av, .int .u32 am, .int .i64 aw] 39)).cell? ⟨w.heap.size, 3, none⟩ = some (.int .u32 am) := by rw [HA.out.cell]; rfl
  have a4 : (w.alloc (.cells #[.int .u8 wh, .int .u32 ah, .int .u32 av, .int .u32 am, .int .i64 aw] 39)).cell? ⟨w.heap.size, 4, none⟩ = some (.int .i64 aw) := by rw [HA.out.cell]; rfl
  have hsz : w.heap.size < (w.alloc (.cells #[.int .u8 wh, .int .u32 ah, .int .u32 av, .int .u32 am, .int .i64 aw] 39)).heap.size := by omega
  have hpz : p < (w.alloc (.cells #[.int .u8 wh, .int .u32 ah, .int .u32 av, .int .u32 am, .int .i64 aw] 39)).heap.size := by omega
  rw [hf] at T1
  clear hh hf hk hw hs hlt
  go_enter Tryz.func7, Tryz.ntmps7
  go_wp2_with (first
    | (go_at_call 18; refine HT.mono ?_; rintro e wx ⟨rfl, rfl⟩))
  generalize hW : w.alloc (.cells #[.int .u8 wh, .int .u32 ah, .int .u32 av, .int .u32 am, .int .i64 aw] 39) = w2 at *
  have hca := @above_cell
  refine wp_region_calm (by kernel_rfl) (by kernel_rfl) ?_
  repeat (go_big_quiet_step (first
    | (go_at_call 19; exact calm_call (T1 _))))
  refine wpQuiet_nil ?_
  intro w3 hb3
  have B3 : Hid (Below w.heap.size w w3) := B0.out.trans (hb3.mono B0.out.size)
  have d3 : w3.cell? ⟨p, 3, none⟩ = some (.iface 86 (.pointer (some ⟨f, 0, none⟩))) := by rw [(HH.out.below hb3).cell]; rfl
  have e0 : w3.cell? ⟨w.heap.size, 0, none⟩ = some (.int .u8 wh) := by rw [(HA.out.below hb3).cell]; rfl
  have e1 : w3.cell? ⟨w.heap.size, 1, none⟩ = some (.int .u32 ah) := by rw [(HA.out.below hb3).cell]; rfl
  have e2 : w3.cell? ⟨w.heap.size, 2, none⟩ = some (.int .u32 av) := by rw [(HA.out.below hb3).cell]; rfl
  have e3 : w3.cell? ⟨w.heap.size, 3, none⟩ = some (.int .u32 am) := by rw [(HA.out.below hb3).cell]; rfl
  have e4 : w3.cell? ⟨w.heap.size, 4, none⟩ = some (.int .i64 aw) := by rw [(HA.out.below hb3).cell]; rfl
  clear hca hb3 HH HA B0 HT T1 c0 a0 a1 a2 a3 a4 hW hsz hpz
  go_wp2
  go_region_with (first
    | (go_at_call 134; refine (HC.out _ B3.out.drew).mono ?_; rintro e w4 ⟨rfl, hr⟩; have HR : Hid (R w4) := hr; clear hr))
  all_goals
    go_wp2
    go_ret2
    exact ⟨rfl, HR.out⟩
set_option maxHeartbeats 4000000 in
theorem try_pool {w : World} {p f : Nat} {k a b : Int} (hh : Blk w p (hdc k a b 92 f) 64) (hk : 0 ≤ k ∧ k ≤ 255) (who wh ah av am aw : Int) (hw : who ≠ 0) (hf : Tk.fitB wh k = true) {R : World → Prop} {v er : Int}
    (HP : ∀ wx, Below w.heap.size w wx → Calls Tryz.prog 142 #[.pointer (some ⟨f, 0, none⟩), .int .u32 who, .agg #[.int .u8 wh, .int .u32 ah, .int .u32 av, .int .u32 am, .int .i64 aw]] wx fun e w' => e = .returned (.tuple #[.int .u32 v, .int .i64 er]) ∧ R w') :
    Calls Tryz.prog 7 #[.pointer (some ⟨p, 0, none⟩), .int .u32 who, .agg #[.int .u8 wh, .int .u32 ah, .int .u32 av, .int .u32 am, .int .i64 aw]] w fun e w' => e = .returned (.tuple #[.int .u32 v, .int .i64 er]) ∧ R w' := by
  have HC : Hid (∀ wx, Below w.heap.size w wx → Calls Tryz.prog 142 #[.pointer (some ⟨f, 0, none⟩), .int .u32 who, .agg #[.int .u8 wh, .int .u32 ah, .int .u32 av, .int .u32 am, .int .i64 aw]] wx fun e w' => e = .returned (.tuple #[.int .u32 v, .int .i64 er]) ∧ R w') := HP
  clear HP
  have hz : (who == 0) = false := by simpa using hw
  have B0 : Hid (Below w.heap.size w (w.alloc (.cells #[.int .u8 wh, .int .u32 ah, .int .u32 av, .int .u32 am, .int .i64 aw] 39))) := alloc_below w _
  have HH : Hid (Blk (w.alloc (.cells #[.int .u8 wh, .int .u32 ah, .int .u32 av, .int .u32 am, .int .i64 aw] 39)) p (hdc k a b 92 f) 64) := hh.below B0.out
  have HT := there_any HH.out
  have hs := alloc_size w (.cells #[.int .u8 wh, .int .u32 ah, .int .u32 av, .int .u32 am, .int .i64 aw] 39)
  have HA : Hid (Blk (w.alloc (.cells #[.int .u8 wh, .int .u32 ah, .int .u32 av, .int .u32 am, .int .i64 aw] 39)) w.heap.size #[.int .u8 wh, .int .u32 ah, .int .u32 av, .int .u32 am, .int .i64 aw] 39) := alloc_at w _
  have T1 := fun w => Tk.fits_any wh ah av am aw k hk w
  have hlt := hh.lt
  have c0 : (w.alloc (.cells #[.int .u8 wh, .int .u32 ah, .int .u32 av, .int .u32 am, .int .i64 aw] 39)).cell? ⟨p, 0, none⟩ = some (.int .u8 k) := by rw [HH.out.cell]; rfl
  have a0 : (w.alloc (.cells #[.int .u8 wh, .int .u32 ah, .int .u32 av, .int .u32 am, .int .i64 aw] 39)).cell? ⟨w.heap.size, 0, none⟩ = some (.int .u8 wh) := by rw [HA.out.cell]; rfl
  have a1 : (w.alloc (.cells #[.int .u8 wh, .int .u32 ah, .int .u32 av, .int .u32 am, .int .i64 aw] 39)).cell? ⟨w.heap.size, 1, none⟩ = some (.int .u32 ah) := by rw [HA.out.cell]; rfl
  have a2 : (w.alloc (.cells #[.int .u8 wh, .int .u32 ah, .int .u32 av, .int .u32 am, .int .i64 aw] 39)).cell? ⟨w.heap.size, 2, none⟩ = some (.int .u32 av) := by rw [HA.out.cell]; rfl
  have a3 : (w.alloc (.cells #[.int .u8 wh, .int .u32 ah, .int .u32 av, .int .u32 am, .int .i64 aw] 39)).cell? ⟨w.heap.size, 3, none⟩ = some (.int .u32 am) := by rw [HA.out.cell]; rfl
  have a4 : (w.alloc (.cells #[.int .u8 wh, .int .u32 ah, .int .u32 av, .int .u32 am, .int .i64 aw] 39)).cell? ⟨w.heap.size, 4, none⟩ = some (.int .i64 aw) := by rw [HA.out.cell]; rfl
  have hsz : w.heap.size < (w.alloc (.cells #[.int .u8 wh, .int .u32 ah, .int .u32 av, .int .u32 am, .int .i64 aw] 39)).heap.size := by omega
  have hpz : p < (w.alloc (.cells #[.int .u8 wh, .int .u32 ah, .int .u32 av, .int .u32 am, .int .i64 aw] 39)).heap.size := by omega
  rw [hf] at T1
  clear hh hf hk hw hs hlt
  go_enter Tryz.func7, Tryz.ntmps7
  go_wp2_with (first
    | (go_at_call 18; refine HT.mono ?_; rintro e wx ⟨rfl, rfl⟩))
  generalize hW : w.alloc (.cells #[.int .u8 wh, .int .u32 ah, .int .u32 av, .int .u32 am, .int .i64 aw] 39) = w2 at *
  have hca := @above_cell
  refine wp_region_calm (by kernel_rfl) (by kernel_rfl) ?_
  repeat (go_big_quiet_step (first
    | (go_at_call 19; exact calm_call (T1 _))))
  refine wpQuiet_nil ?_
  intro w3 hb3
  have B3 : Hid (Below w.heap.size w w3) := B0.out.trans (hb3.mono B0.out.size)
  have d3 : w3.cell? ⟨p, 3, none⟩ = some (.iface 92 (.pointer (some ⟨f, 0, none⟩))) := by rw [(HH.out.below hb3).cell]; rfl
  have e0 : w3.cell? ⟨w.heap.size, 0, none⟩ = some (.int .u8 wh) := by rw [(HA.out.below hb3).cell]; rfl
  have e1 : w3.cell? ⟨w.heap.size, 1, none⟩ = some (.int .u32 ah) := by rw [(HA.out.below hb3).cell]; rfl
  have e2 : w3.cell? ⟨w.heap.size, 2, none⟩ = some (.int .u32 av) := by rw [(HA.out.below hb3).cell]; rfl
  have e3 : w3.cell? ⟨w.heap.size, 3, none⟩ = some (.int .u32 am) := by rw [(HA.out.below hb3).cell]; rfl
  have e4 : w3.cell? ⟨w.heap.size, 4, none⟩ = some (.int .i64 aw) := by rw [(HA.out.below hb3).cell]; rfl
  clear hca hb3 HH HA B0 HT T1 c0 a0 a1 a2 a3 a4 hW hsz hpz
  go_wp2
  go_region_with (first
    | (go_at_call 142; refine (HC.out _ B3.out.drew).mono ?_; rintro e w4 ⟨rfl, hr⟩; have HR : Hid (R w4) := hr; clear hr))
  all_goals
    go_wp2
    go_ret2
    exact ⟨rfl, HR.out⟩
set_option maxHeartbeats 4000000 in
theorem try_ala {w : World} {p f : Nat} {k a b : Int} (hh : Blk w p (hdc k a b 95 f) 64) (hk : 0 ≤ k ∧ k ≤ 255) (who wh ah av am aw : Int) (hw : who ≠ 0) (hf : Tk.fitB wh k = true) {R : World → Prop} {v er : Int}
    (HP : ∀ wx, Below w.heap.size w wx → Calls Tryz.prog 146 #[.pointer (some ⟨f, 0, none⟩), .int .u32 who, .agg #[.int .u8 wh, .int .u32 ah, .int .u32 av, .int .u32 am, .int .i64 aw]] wx fun e w' => e = .returned (.tuple #[.int .u32 v, .int .i64 er]) ∧ R w') :
    Calls Tryz.prog 7 #[.pointer (some ⟨p, 0, none⟩), .int .u32 who, .agg #[.int .u8 wh, .int .u32 ah, .int .u32 av, .int .u32 am, .int .i64 aw]] w fun e w' => e = .returned (.tuple #[.int .u32 v, .int .i64 er]) ∧ R w' := by
  have HC : Hid (∀ wx, Below w.heap.size w wx → Calls Tryz.prog 146 #[.pointer (some ⟨f, 0, none⟩), .int .u32 who, .agg #[.int .u8 wh, .int .u32 ah, .int .u32 av, .int .u32 am, .int .i64 aw]] wx fun e w' => e = .returned (.tuple #[.int .u32 v, .int .i64 er]) ∧ R w') := HP
  clear HP
  have hz : (who == 0) = false := by simpa using hw
  have B0 : Hid (Below w.heap.size w (w.alloc (.cells #[.int .u8 wh, .int .u32 ah, .int .u32 av, .int .u32 am, .int .i64 aw] 39))) := alloc_below w _
  have HH : Hid (Blk (w.alloc (.cells #[.int .u8 wh, .int .u32 ah, .int .u32 av, .int .u32 am, .int .i64 aw] 39)) p (hdc k a b 95 f) 64) := hh.below B0.out
  have HT := there_any HH.out
  have hs := alloc_size w (.cells #[.int .u8 wh, .int .u32 ah, .int .u32 av, .int .u32 am, .int .i64 aw] 39)
  have HA : Hid (Blk (w.alloc (.cells #[.int .u8 wh, .int .u32 ah, .int .u32 av, .int .u32 am, .int .i64 aw] 39)) w.heap.size #[.int .u8 wh, .int .u32 ah, .int .u32 av, .int .u32 am, .int .i64 aw] 39) := alloc_at w _
  have T1 := fun w => Tk.fits_any wh ah av am aw k hk w
  have hlt := hh.lt
  have c0 : (w.alloc (.cells #[.int .u8 wh, .int .u32 ah, .int .u32 av, .int .u32 am, .int .i64 aw] 39)).cell? ⟨p, 0, none⟩ = some (.int .u8 k) := by rw [HH.out.cell]; rfl
  have a0 : (w.alloc (.cells #[.int .u8 wh, .int .u32 ah, .int .u32 av, .int .u32 am, .int .i64 aw] 39)).cell? ⟨w.heap.size, 0, none⟩ = some (.int .u8 wh) := by rw [HA.out.cell]; rfl
  have a1 : (w.alloc (.cells #[.int .u8 wh, .int .u32 ah, .int .u32 av, .int .u32 am, .int .i64 aw] 39)).cell? ⟨w.heap.size, 1, none⟩ = some (.int .u32 ah) := by rw [HA.out.cell]; rfl
  have a2 : (w.alloc (.cells #[.int .u8 wh, .int .u32 ah, .int .u32 av, .int .u32 am, .int .i64 aw] 39)).cell? ⟨w.heap.size, 2, none⟩ = some (.int .u32 av) := by rw [HA.out.cell]; rfl
  have a3 : (w.alloc (.cells #[.int .u8 wh, .int .u32 ah, .int .u32 av, .int .u32 am, .int .i64 aw] 39)).cell? ⟨w.heap.size, 3, none⟩ = some (.int .u32 am) := by rw [HA.out.cell]; rfl
  have a4 : (w.alloc (.cells #[.int .u8 wh, .int .u32 ah, .int .u32 av, .int .u32 am, .int .i64 aw] 39)).cell? ⟨w.heap.size, 4, none⟩ = some (.int .i64 aw) := by rw [HA.out.cell]; rfl
  have hsz : w.heap.size < (w.alloc (.cells #[.int .u8 wh, .int .u32 ah, .int .u32 av, .int .u32 am, .int .i64 aw] 39)).heap.size := by omega
  have hpz : p < (w.alloc (.cells #[.int .u8 wh, .int .u32 ah, .int .u32 av, .int .u32 am, .int .i64 aw] 39)).heap.size := by omega
  rw [hf] at T1
  clear hh hf hk hw hs hlt
  go_enter Tryz.func7, Tryz.ntmps7
  go_wp2_with (first
    | (go_at_call 18; refine HT.mono ?_; rintro e wx ⟨rfl, rfl⟩))
  generalize hW : w.alloc (.cells #[.int .u8 wh, .int .u32 ah, .int .u32 av, .int .u32 am, .int .i64 aw] 39) = w2 at *
  have hca := @above_cell
  refine wp_region_calm (by kernel_rfl) (by kernel_rfl) ?_
  repeat (go_big_quiet_step (first
    | (go_at_call 19; exact calm_call (T1 _))))
  refine wpQuiet_nil ?_
  intro w3 hb3
  have B3 : Hid (Below w.heap.size w w3) := B0.out.trans (hb3.mono B0.out.size)
  have d3 : w3.cell? ⟨p, 3, none⟩ = some (.iface 95 (.pointer (some ⟨f, 0, none⟩))) := by rw [(HH.out.below hb3).cell]; rfl
  have e0 : w3.cell? ⟨w.heap.size, 0, none⟩ = some (.int .u8 wh) := by rw [(HA.out.below hb3).cell]; rfl
  have e1 : w3.cell? ⟨w.heap.size, 1, none⟩ = some (.int .u32 ah) := by rw [(HA.out.below hb3).cell]; rfl
  have e2 : w3.cell? ⟨w.heap.size, 2, none⟩ = some (.int .u32 av) := by rw [(HA.out.below hb3).cell]; rfl
  have e3 : w3.cell? ⟨w.heap.size, 3, none⟩ = some (.int .u32 am) := by rw [(HA.out.below hb3).cell]; rfl
  have e4 : w3.cell? ⟨w.heap.size, 4, none⟩ = some (.int .i64 aw) := by rw [(HA.out.below hb3).cell]; rfl
  clear hca hb3 HH HA B0 HT T1 c0 a0 a1 a2 a3 a4 hW hsz hpz
  go_wp2
  go_region_with (first
    | (go_at_call 146; refine (HC.out _ B3.out.drew).mono ?_; rintro e w4 ⟨rfl, hr⟩; have HR : Hid (R w4) := hr; clear hr))
  all_goals
    go_wp2
    go_ret2
    exact ⟨rfl, HR.out⟩
set_option maxHeartbeats 4000000 in
theorem try_no {w : World} {p f : Nat} {k a b : Int} {t : TypeId} (hh : Blk w p (hdc k a b t f) 64) (hk : 0 ≤ k ∧ k ≤ 255) (who wh ah av am aw : Int) (hw : who = 0 ∨ Tk.fitB wh k = false) :
    Calls Tryz.prog 7 #[.pointer (some ⟨p, 0, none⟩), .int .u32 who, .agg #[.int .u8 wh, .int .u32 ah, .int .u32 av, .int .u32 am, .int .i64 aw]] w fun e w' => e = .returned (.tuple #[.int .u32 0, .int .i64 1]) ∧ Below w.heap.size w w' := by
  have B0 : Hid (Below w.heap.size w (w.alloc (.cells #[.int .u8 wh, .int .u32 ah, .int .u32 av, .int .u32 am, .int .i64 aw] 39))) := alloc_below w _
  have HH : Hid (Blk (w.alloc (.cells #[.int .u8 wh, .int .u32 ah, .int .u32 av, .int .u32 am, .int .i64 aw] 39)) p (hdc k a b t f) 64) := hh.below B0.out
  have HT := there_any HH.out
  have hs := alloc_size w (.cells #[.int .u8 wh, .int .u32 ah, .int .u32 av, .int .u32 am, .int .i64 aw] 39)
  have HA : Hid (Blk (w.alloc (.cells #[.int .u8 wh, .int .u32 ah, .int .u32 av, .int .u32 am, .int .i64 aw] 39)) w.heap.size #[.int .u8 wh, .int .u32 ah, .int .u32 av, .int .u32 am, .int .i64 aw] 39) := alloc_at w _
  have T1 := fun w => Tk.fits_any wh ah av am aw k hk w
  have hlt := hh.lt
  have c0 : (w.alloc (.cells #[.int .u8 wh, .int .u32 ah, .int .u32 av, .int .u32 am, .int .i64 aw] 39)).cell? ⟨p, 0, none⟩ = some (.int .u8 k) := by rw [HH.out.cell]; rfl
  have a0 : (w.alloc (.cells #[.int .u8 wh, .int .u32 ah, .int .u32 av, .int .u32 am, .int .i64 aw] 39)).cell? ⟨w.heap.size, 0, none⟩ = some (.int .u8 wh) := by rw [HA.out.cell]; rfl
  have a1 : (w.alloc (.cells #[.int .u8 wh, .int .u32 ah, .int .u32 av, .int .u32 am, .int .i64 aw] 39)).cell? ⟨w.heap.size, 1, none⟩ = some (.int .u32 ah) := by rw [HA.out.cell]; rfl
  have a2 : (w.alloc (.cells #[.int .u8 wh, .int .u32 ah, .int .u32 av, .int .u32 am, .int .i64 aw] 39)).cell? ⟨w.heap.size, 2, none⟩ = some (.int .u32 av) := by rw [HA.out.cell]; rfl
  have a3 : (w.alloc (.cells #[.int .u8 wh, .int .u32 ah, .int .u32 av, .int .u32 am, .int .i64 aw] 39)).cell? ⟨w.heap.size, 3, none⟩ = some (.int .u32 am) := by rw [HA.out.cell]; rfl
  have a4 : (w.alloc (.cells #[.int .u8 wh, .int .u32 ah, .int .u32 av, .int .u32 am, .int .i64 aw] 39)).cell? ⟨w.heap.size, 4, none⟩ = some (.int .i64 aw) := by rw [HA.out.cell]; rfl
  have hsz : w.heap.size < (w.alloc (.cells #[.int .u8 wh, .int .u32 ah, .int .u32 av, .int .u32 am, .int .i64 aw] 39)).heap.size := by omega
  have hpz : p < (w.alloc (.cells #[.int .u8 wh, .int .u32 ah, .int .u32 av, .int .u32 am, .int .i64 aw] 39)).heap.size := by omega
  clear hh hk hs hlt
  have hca := @above_cell
  by_cases h0 : who = 0
  · subst h0
    clear hw
    go_enter Tryz.func7, Tryz.ntmps7
    go_wp2_with (first
      | (go_at_call 18; refine HT.mono ?_; rintro e wx ⟨rfl, rfl⟩))
    refine wp_region_calm (by kernel_rfl) (by kernel_rfl) ?_
    repeat (go_big_quiet_step (fail))
    refine wpQuiet_nil ?_
    intro w3 hb3
    have B3 : Hid (Below w.heap.size w w3) := B0.out.trans (hb3.mono B0.out.size)
    clear hca hb3
    go_wp2
    go_ret2
    exact ⟨rfl, B3.out⟩
  · have hz : (who == 0) = false := by simpa using h0
    have hf : Tk.fitB wh k = false := hw.resolve_left h0
    rw [hf] at T1
    clear hf hw h0
    go_enter Tryz.func7, Tryz.ntmps7
    go_wp2_with (first
      | (go_at_call 18; refine HT.mono ?_; rintro e wx ⟨rfl, rfl⟩))
    generalize hW : w.alloc (.cells #[.int .u8 wh, .int .u32 ah, .int .u32 av, .int .u32 am, .int .i64 aw] 39) = w2 at *
    refine wp_region_calm (by kernel_rfl) (by kernel_rfl) ?_
    repeat (go_big_quiet_step (first
      | (go_at_call 19; exact calm_call (T1 _))))
    refine wpQuiet_nil ?_
    intro w3 hb3
    have B3 : Hid (Below w.heap.size w w3) := B0.out.trans (hb3.mono B0.out.size)
    clear hca hb3 hW
    go_wp2
    go_ret2
    exact ⟨rfl, B3.out⟩
theorem leave_zero {w : World} {p f : Nat} {k a b : Int} {t : TypeId} (hh : Blk w p (hdc k a b t f) 64) : Calls Tryz.prog 8 #[.pointer (some ⟨p, 0, none⟩), .int .u32 0] w fun e w' => e = .returned (.bool false) ∧ w = w' := by
  have HT := there_any hh
  clear hh
  go_enter Tryz.func8, Tryz.ntmps8
  go_wp2_with (first
    | (go_at_call 18; refine HT.mono ?_; rintro e wx ⟨rfl, rfl⟩))
  go_ret
  exact ⟨rfl, rfl⟩
theorem leave_of {w : World} {p f : Nat} {k a b : Int} {t : TypeId} (hh : Blk w p (hdc k a b t f) 64) (who : Int) (hw : who ≠ 0) {R : World → Prop} {r : Bool}
    (HP : Calls Tryz.prog 20 #[.iface t (.pointer (some ⟨f, 0, none⟩)), .int .u32 who] w fun e w' => e = .returned (.bool r) ∧ R w') :
    Calls Tryz.prog 8 #[.pointer (some ⟨p, 0, none⟩), .int .u32 who] w fun e w' => e = .returned (.bool r) ∧ R w' := by
  have HC : Hid (Calls Tryz.prog 20 #[.iface t (.pointer (some ⟨f, 0, none⟩)), .int .u32 who] w fun e w' => e = .returned (.bool r) ∧ R w') := HP
  have HT := there_any hh
  have hz : (who != 0) = true := by simpa using hw
  have hlt := hh.lt
  have c3 : w.cell? ⟨p, 3, none⟩ = some (.iface t (.pointer (some ⟨f, 0, none⟩))) := by rw [hh.cell]; rfl
  clear hh HP hw
  go_enter Tryz.func8, Tryz.ntmps8
  go_wp2_with (first
    | (go_at_call 18; refine HT.mono ?_; rintro e wx ⟨rfl, rfl⟩)
    | (go_at_call 20; refine HC.out.mono ?_; rintro e w1 ⟨rfl, hr⟩; have HR : Hid (R w1) := hr; clear hr))
  go_ret
  exact ⟨rfl, HR.out⟩
theorem boxless {w : World} {g : Nat} {cs : Array Value} {t : TypeId} (h : Blk w g cs t) (k : Nat) (v : Value) : Buts [g] w (w.setCell ⟨g, k, none⟩ v) := Buts.cell w g k v
theorem ta_yes {P : Program} {t e : TypeId} (hu : P.underlying t = some (.pointer e)) (v : Value) (xT : TypeId) (w : World) : (Instr.typeAssert (.iface t v) xT t true).run P w = .ok (.tuple #[v, .bool true]) w := by
  simp [Instr.typeAssert, run_underlying hu, go_sem, Result.andThen]
theorem ta_no {P : Program} {t s e : TypeId} {z : Value} (hu : P.underlying s = some (.pointer e)) (hz : (P.info? s).map (·.zero) = some (some z)) (hne : t ≠ s) (v : Value) (xT : TypeId) (w : World) : (Instr.typeAssert (.iface t v) xT s true).run P w = .ok (.tuple #[z, .bool false]) w := by
  obtain ⟨j, hj, hz'⟩ := Option.map_eq_some_iff.1 hz
  simp [Instr.typeAssert, run_underlying hu, go_sem, Result.andThen, typeInfo, hj, zeroValue, hz', hne]
theorem ta_Sem_Sem (v : Value) (xT : TypeId) (w : World) : (Instr.typeAssert (.iface 74 v) xT 74 true).run Tryz.prog w = .ok (.tuple #[v, .bool true]) w := ta_yes Tryz.underlying74 v xT w
theorem ta_Sem_Mut (v : Value) (xT : TypeId) (w : World) : (Instr.typeAssert (.iface 74 v) xT 77 true).run Tryz.prog w = .ok (.tuple #[.pointer none, .bool false]) w := ta_no Tryz.underlying77 (by kernel_rfl) (by decide) v xT w
theorem ta_Sem_Row (v : Value) (xT : TypeId) (w : World) : (Instr.typeAssert (.iface 74 v) xT 83 true).run Tryz.prog w = .ok (.tuple #[.pointer none, .bool false]) w := ta_no Tryz.underlying83 (by kernel_rfl) (by decide) v xT w
theorem ta_Sem_Flg (v : Value) (xT : TypeId) (w : World) : (Instr.typeAssert (.iface 74 v) xT 86 true).run Tryz.prog w = .ok (.tuple #[.pointer none, .bool false]) w := ta_no Tryz.underlying86 (by kernel_rfl) (by decide) v xT w
theorem ta_Sem_Pl (v : Value) (xT : TypeId) (w : World) : (Instr.typeAssert (.iface 74 v) xT 92 true).run Tryz.prog w = .ok (.tuple #[.pointer none, .bool false]) w := ta_no Tryz.underlying92 (by kernel_rfl) (by decide) v xT w
theorem ta_Mut_Sem (v : Value) (xT : TypeId) (w : World) : (Instr.typeAssert (.iface 77 v) xT 74 true).run Tryz.prog w = .ok (.tuple #[.pointer none, .bool false]) w := ta_no Tryz.underlying74 (by kernel_rfl) (by decide) v xT w
theorem ta_Mut_Mut (v : Value) (xT : TypeId) (w : World) : (Instr.typeAssert (.iface 77 v) xT 77 true).run Tryz.prog w = .ok (.tuple #[v, .bool true]) w := ta_yes Tryz.underlying77 v xT w
theorem ta_Mut_Row (v : Value) (xT : TypeId) (w : World) : (Instr.typeAssert (.iface 77 v) xT 83 true).run Tryz.prog w = .ok (.tuple #[.pointer none, .bool false]) w := ta_no Tryz.underlying83 (by kernel_rfl) (by decide) v xT w
theorem ta_Mut_Flg (v : Value) (xT : TypeId) (w : World) : (Instr.typeAssert (.iface 77 v) xT 86 true).run Tryz.prog w = .ok (.tuple #[.pointer none, .bool false]) w := ta_no Tryz.underlying86 (by kernel_rfl) (by decide) v xT w
theorem ta_Mut_Pl (v : Value) (xT : TypeId) (w : World) : (Instr.typeAssert (.iface 77 v) xT 92 true).run Tryz.prog w = .ok (.tuple #[.pointer none, .bool false]) w := ta_no Tryz.underlying92 (by kernel_rfl) (by decide) v xT w
theorem ta_Row_Sem (v : Value) (xT : TypeId) (w : World) : (Instr.typeAssert (.iface 83 v) xT 74 true).run Tryz.prog w = .ok (.tuple #[.pointer none, .bool false]) w := ta_no Tryz.underlying74 (by kernel_rfl) (by decide) v xT w
theorem ta_Row_Mut (v : Value) (xT : TypeId) (w : World) : (Instr.typeAssert (.iface 83 v) xT 77 true).run Tryz.prog w = .ok (.tuple #[.pointer none, .bool false]) w := ta_no Tryz.underlying77 (by kernel_rfl) (by decide) v xT w
theorem ta_Row_Row (v : Value) (xT : TypeId) (w : World) : (Instr.typeAssert (.iface 83 v) xT 83 true).run Tryz.prog w = .ok (.tuple #[v, .bool true]) w := ta_yes Tryz.underlying83 v xT w
theorem ta_Row_Flg (v : Value) (xT : TypeId) (w : World) : (Instr.typeAssert (.iface 83 v) xT 86 true).run Tryz.prog w = .ok (.tuple #[.pointer none, .bool false]) w := ta_no Tryz.underlying86 (by kernel_rfl) (by decide) v xT w
theorem ta_Row_Pl (v : Value) (xT : TypeId) (w : World) : (Instr.typeAssert (.iface 83 v) xT 92 true).run Tryz.prog w = .ok (.tuple #[.pointer none, .bool false]) w := ta_no Tryz.underlying92 (by kernel_rfl) (by decide) v xT w
theorem ta_Flg_Sem (v : Value) (xT : TypeId) (w : World) : (Instr.typeAssert (.iface 86 v) xT 74 true).run Tryz.prog w = .ok (.tuple #[.pointer none, .bool false]) w := ta_no Tryz.underlying74 (by kernel_rfl) (by decide) v xT w
theorem ta_Flg_Mut (v : Value) (xT : TypeId) (w : World) : (Instr.typeAssert (.iface 86 v) xT 77 true).run Tryz.prog w = .ok (.tuple #[.pointer none, .bool false]) w := ta_no Tryz.underlying77 (by kernel_rfl) (by decide) v xT w
theorem ta_Flg_Row (v : Value) (xT : TypeId) (w : World) : (Instr.typeAssert (.iface 86 v) xT 83 true).run Tryz.prog w = .ok (.tuple #[.pointer none, .bool false]) w := ta_no Tryz.underlying83 (by kernel_rfl) (by decide) v xT w
theorem ta_Flg_Flg (v : Value) (xT : TypeId) (w : World) : (Instr.typeAssert (.iface 86 v) xT 86 true).run Tryz.prog w = .ok (.tuple #[v, .bool true]) w := ta_yes Tryz.underlying86 v xT w
theorem ta_Flg_Pl (v : Value) (xT : TypeId) (w : World) : (Instr.typeAssert (.iface 86 v) xT 92 true).run Tryz.prog w = .ok (.tuple #[.pointer none, .bool false]) w := ta_no Tryz.underlying92 (by kernel_rfl) (by decide) v xT w
theorem ta_Pl_Sem (v : Value) (xT : TypeId) (w : World) : (Instr.typeAssert (.iface 92 v) xT 74 true).run Tryz.prog w = .ok (.tuple #[.pointer none, .bool false]) w := ta_no Tryz.underlying74 (by kernel_rfl) (by decide) v xT w
theorem ta_Pl_Mut (v : Value) (xT : TypeId) (w : World) : (Instr.typeAssert (.iface 92 v) xT 77 true).run Tryz.prog w = .ok (.tuple #[.pointer none, .bool false]) w := ta_no Tryz.underlying77 (by kernel_rfl) (by decide) v xT w
theorem ta_Pl_Row (v : Value) (xT : TypeId) (w : World) : (Instr.typeAssert (.iface 92 v) xT 83 true).run Tryz.prog w = .ok (.tuple #[.pointer none, .bool false]) w := ta_no Tryz.underlying83 (by kernel_rfl) (by decide) v xT w
theorem ta_Pl_Flg (v : Value) (xT : TypeId) (w : World) : (Instr.typeAssert (.iface 92 v) xT 86 true).run Tryz.prog w = .ok (.tuple #[.pointer none, .bool false]) w := ta_no Tryz.underlying86 (by kernel_rfl) (by decide) v xT w
theorem ta_Pl_Pl (v : Value) (xT : TypeId) (w : World) : (Instr.typeAssert (.iface 92 v) xT 92 true).run Tryz.prog w = .ok (.tuple #[v, .bool true]) w := ta_yes Tryz.underlying92 v xT w
theorem ta_Ala_Sem (v : Value) (xT : TypeId) (w : World) : (Instr.typeAssert (.iface 95 v) xT 74 true).run Tryz.prog w = .ok (.tuple #[.pointer none, .bool false]) w := ta_no Tryz.underlying74 (by kernel_rfl) (by decide) v xT w
theorem ta_Ala_Mut (v : Value) (xT : TypeId) (w : World) : (Instr.typeAssert (.iface 95 v) xT 77 true).run Tryz.prog w = .ok (.tuple #[.pointer none, .bool false]) w := ta_no Tryz.underlying77 (by kernel_rfl) (by decide) v xT w
theorem ta_Ala_Row (v : Value) (xT : TypeId) (w : World) : (Instr.typeAssert (.iface 95 v) xT 83 true).run Tryz.prog w = .ok (.tuple #[.pointer none, .bool false]) w := ta_no Tryz.underlying83 (by kernel_rfl) (by decide) v xT w
theorem ta_Ala_Flg (v : Value) (xT : TypeId) (w : World) : (Instr.typeAssert (.iface 95 v) xT 86 true).run Tryz.prog w = .ok (.tuple #[.pointer none, .bool false]) w := ta_no Tryz.underlying86 (by kernel_rfl) (by decide) v xT w
theorem ta_Ala_Pl (v : Value) (xT : TypeId) (w : World) : (Instr.typeAssert (.iface 95 v) xT 92 true).run Tryz.prog w = .ok (.tuple #[.pointer none, .bool false]) w := ta_no Tryz.underlying92 (by kernel_rfl) (by decide) v xT w
attribute [local go_sem] ta_Sem_Sem ta_Sem_Mut ta_Sem_Row ta_Sem_Flg ta_Sem_Pl ta_Mut_Sem ta_Mut_Mut ta_Mut_Row ta_Mut_Flg ta_Mut_Pl ta_Row_Sem ta_Row_Mut ta_Row_Row ta_Row_Flg ta_Row_Pl ta_Flg_Sem ta_Flg_Mut ta_Flg_Row ta_Flg_Flg ta_Flg_Pl ta_Pl_Sem ta_Pl_Mut ta_Pl_Row ta_Pl_Flg ta_Pl_Pl ta_Ala_Sem ta_Ala_Mut ta_Ala_Row ta_Ala_Flg ta_Ala_Pl
theorem back_mut {w : World} {g : Nat} {o : Int} (h : Blk w g (onec o) 79) (who : Int) :
    Calls Tryz.prog 20 #[.iface 77 (.pointer (some ⟨g, 0, none⟩)), .int .u32 who] w fun e w' => e = .returned (.bool (decide (o = who))) ∧ Blk w' g (onec (if o = who then 0 else o)) 79 ∧ Buts [g] w w' := by
  have HB : Hid (Blk w g (onec o) 79) := h
  have hlt := h.lt
  have c0 : w.cell? ⟨g, 0, none⟩ = some (.int .u32 o) := by rw [h.cell]; rfl
  have f0 := h.free 0
  clear h
  by_cases e0 : o = who
  · subst e0
    rw [if_pos rfl, decide_eq_true rfl]
    have hz : (o != o) = false := by simp
    go_enter Tryz.func20, Tryz.ntmps20
    go_wp2
    go_ret
    exact ⟨rfl, HB.out.set 0 _, (boxless HB.out 0 _)⟩
  · have hz : (o != who) = true := by simpa using e0
    rw [if_neg e0, decide_eq_false e0]
    go_enter Tryz.func20, Tryz.ntmps20
    go_wp2
    go_ret
    exact ⟨rfl, HB.out, Buts.refl _ _⟩
theorem back_pool {w : World} {g q n : Nat} {zs : List Int} (h : Blk w g (ptrc q) 94) (hq : Pl.Pool w q n zs) (who : Int) (hw : 0 < who) :
    Calls Tryz.prog 20 #[.iface 92 (.pointer (some ⟨g, 0, none⟩)), .int .u32 who] w fun e w' => e = .returned (.bool (decide (0 < Pl.cnt who zs))) ∧ Pl.Pool w' q n (Pl.clr who zs) ∧ Buts [q] w w' := by
  have hlt := h.lt
  have c0 : w.cell? ⟨g, 0, none⟩ = some (.pointer (some ⟨q, 0, none⟩)) := by rw [h.cell]; rfl
  have HP := Pl.all_any hq who hw
  have hl := hq.len
  have hh := hq.hi
  have hc := Pl.cnt_le who zs
  clear h hq
  have he : decide ((0 : Int) < (Pl.cnt who zs : Nat)) = decide (0 < Pl.cnt who zs) := by simp
  go_enter Tryz.func20, Tryz.ntmps20
  go_wp2_with (first
    | (go_at_call 54; refine HP.mono ?_; rintro e w1 ⟨rfl, hr, hb⟩; have HR : Hid (Pl.Pool w1 q n (Pl.clr who zs)) := hr; have HB : Hid (Buts [q] w w1) := but_buts hb; clear hr hb))
  go_ret
  refine ⟨?_, HR.out, HB.out⟩
  simp
theorem back_other {w : World} {t : TypeId} {v : Value} (who : Int) (ht : t = 74 ∨ t = 83 ∨ t = 86 ∨ t = 95) :
    Calls Tryz.prog 20 #[.iface t v, .int .u32 who] w fun e w' => e = .returned (.bool false) ∧ w = w' := by
  rcases ht with rfl | rfl | rfl | rfl
  all_goals
    go_enter Tryz.func20, Tryz.ntmps20
    go_wp2
    go_ret
    exact ⟨rfl, rfl⟩
theorem Blk.setRow {w : World} {g : Nat} {cs : Array Value} {t : TypeId} (h : Blk w g cs t) (ds : Array Value) : Blk (w.setRow g ds) g ds t := by
  have hh := (Array.getElem?_eq_some_iff.1 h).2
  unfold Blk World.setRow
  rw [Array.getElem?_eq_getElem (by simpa using h.lt), Array.getElem_modify]
  simp [hh]
theorem setRow_buts (w : World) (g : Nat) (ds : Array Value) : Buts [g] w (w.setRow g ds) :=
  ⟨rfl, rfl, rfl, by simp, fun k hk hg => by unfold World.setRow; simp only [List.mem_singleton] at hg; rw [Array.getElem?_modify]; simp [Ne.symm hg]⟩
theorem wrap_c {c : Nat} (h : c ≤ 64) : IntKind.u32.wrap (c : Nat) = ((c : Nat) : Int) := by
  simp only [IntKind.wrap]
  go_arith
theorem own_far {w : World} {B z n c k : Nat} {t : TypeId} {s : Nat} {vs : List Value} (ho : w.ownsRow B t s (.slice (some ⟨z, 0, none⟩) n c) n vs) (hB : k < B) : z ≠ k := by
  intro e; subst e
  have := (ho.lt z rfl).1
  omega
def seec (k a b c o : Int) (r os : Value) : Array Value := #[.int .u32 0, .int .u8 k, .int .u32 a, .int .u32 b, .int .u32 c, .int .u32 o, r, os, .int .i64 0, .slice none 0 0]
set_option maxHeartbeats 1000000 in
theorem seen_sem {w : World} {g : Nat} {n b : Int} (h : Blk w g (semc n b) 76) :
    Calls Tryz.prog 23 #[.iface 74 (.pointer (some ⟨g, 0, none⟩))] w fun e w' => e = .returned (.agg (seec 0 0 0 n 0 (.slice none 0 0) (.slice none 0 0))) ∧ Below w.heap.size w w' := by
  have hlt := h.lt
  have c0 : w.cell? ⟨g, 0, none⟩ = some (.int .u32 n) := by rw [h.cell]; rfl
  clear h
  go_enter Tryz.func23, Tryz.ntmps23
  go_wp2
  go_returns
  exact ⟨rfl, alloc_below _ _⟩
set_option maxHeartbeats 1000000 in
theorem seen_mut {w : World} {g : Nat} {o : Int} (h : Blk w g (onec o) 79) :
    Calls Tryz.prog 23 #[.iface 77 (.pointer (some ⟨g, 0, none⟩))] w fun e w' => e = .returned (.agg (seec 0 0 0 0 o (.slice none 0 0) (.slice none 0 0))) ∧ Below w.heap.size w w' := by
  have hlt := h.lt
  have c0 : w.cell? ⟨g, 0, none⟩ = some (.int .u32 o) := by rw [h.cell]; rfl
  clear h
  go_enter Tryz.func23, Tryz.ntmps23
  go_wp2
  go_returns
  exact ⟨rfl, alloc_below _ _⟩
set_option maxHeartbeats 1000000 in
theorem seen_flg {w : World} {g : Nat} {o : Int} (h : Blk w g (onec o) 88) :
    Calls Tryz.prog 23 #[.iface 86 (.pointer (some ⟨g, 0, none⟩))] w fun e w' => e = .returned (.agg (seec 0 0 0 o 0 (.slice none 0 0) (.slice none 0 0))) ∧ Below w.heap.size w w' := by
  have hlt := h.lt
  have c0 : w.cell? ⟨g, 0, none⟩ = some (.int .u32 o) := by rw [h.cell]; rfl
  clear h
  go_enter Tryz.func23, Tryz.ntmps23
  go_wp2
  go_returns
  exact ⟨rfl, alloc_below _ _⟩
set_option maxHeartbeats 1000000 in
theorem seen_ala {w : World} {v : Value} :
    Calls Tryz.prog 23 #[.iface 95 v] w fun e w' => e = .returned (.agg (seec 0 0 0 0 0 (.slice none 0 0) (.slice none 0 0))) ∧ Below w.heap.size w w' := by
  go_enter Tryz.func23, Tryz.ntmps23
  go_wp2
  go_returns
  exact ⟨rfl, alloc_below _ _⟩
set_option maxHeartbeats 1000000 in
theorem seen_row {w : World} {g q n : Nat} {xs : List Int} (h : Blk w g (ptrc q) 85) (hq : Que w q n xs) :
    Calls Tryz.prog 23 #[.iface 83 (.pointer (some ⟨g, 0, none⟩))] w fun e w' => ∃ z, e = .returned (.agg (seec 0 0 0 0 0 (.slice (some ⟨z, 0, none⟩) xs.length xs.length) (.slice none 0 0))) ∧ w.heap.size ≤ z ∧ Row w' z xs ∧ Below w.heap.size w w' := by
  have hlt := h.lt
  have c0 : w.cell? ⟨g, 0, none⟩ = some (.pointer (some ⟨q, 0, none⟩)) := by rw [h.cell]; rfl
  have HB0 : Hid (Below w.heap.size w (w.alloc (.cells (seec 0 0 0 0 0 (.slice none 0 0) (.slice none 0 0)) 55))) := alloc_below w _
  have H0 : Hid (Blk (w.alloc (.cells (seec 0 0 0 0 0 (.slice none 0 0) (.slice none 0 0)) 55)) w.heap.size (seec 0 0 0 0 0 (.slice none 0 0) (.slice none 0 0)) 55) := alloc_at w _
  have HL := list_any (hq.below HB0.out)
  have hs := alloc_size w (.cells (seec 0 0 0 0 0 (.slice none 0 0) (.slice none 0 0)) 55)
  rw [hs] at HL
  clear h hq
  go_enter Tryz.func23, Tryz.ntmps23
  go_wp2_with (first
    | (go_at_call 58; (refine HL.mono ?_; rintro e w1 ⟨rfl, hr, hb⟩; have HR : Hid (Row w1 (w.heap.size + 1) xs) := hr; have HB : Hid (Below w.heap.size w w1) := HB0.out.trans (hb.mono (by omega)); have H1 : Hid (Blk w1 w.heap.size (seec 0 0 0 0 0 (.slice none 0 0) (.slice none 0 0)) 55) := H0.out.below (hb.mono (by omega)); clear hr hb))
    | (refine wpList_store_row rfl _ _ _ rfl w.heap.size (seec 0 0 0 0 0 (.slice (some ⟨w.heap.size + 1, 0, none⟩) xs.length xs.length) (.slice none 0 0)) rfl rfl 55 _ H1.out (by kernel_rfl) rfl (by kernel_rfl) ?_))
  refine bodyPost_ret (results_cell_row (g := w.heap.size) rfl _ _ _ _ _ (d := _) rfl (H1.out.setRow _) Tryz.underlying55 rfl (by kernel_rfl)) rfl ?_
  refine ⟨_, rfl, Nat.le_succ _, ?_, ?_⟩
  · exact ((setRow_buts w1 _ _).block _ HR.out.lt (by simp)).trans HR.out
  · exact HB.out.trans (one_below (setRow_buts w1 _ _) (Nat.le_refl _) HB.out.size)
theorem zero_cells {w : World} {B : Nat} (h : Blk w B (seec 0 0 0 0 0 (.slice none 0 0) (.slice none 0 0)) 55) : w.cell? ⟨B, 0, none⟩ = some (.int .u32 0) ∧ w.cell? ⟨B, 1, none⟩ = some (.int .u8 0) ∧ w.cell? ⟨B, 2, none⟩ = some (.int .u32 0) ∧ w.cell? ⟨B, 3, none⟩ = some (.int .u32 0) ∧ w.cell? ⟨B, 4, none⟩ = some (.int .u32 0) ∧ w.cell? ⟨B, 5, none⟩ = some (.int .u32 0) ∧ w.cell? ⟨B, 6, none⟩ = some (.slice none 0 0) ∧ w.cell? ⟨B, 7, none⟩ = some (.slice none 0 0) ∧ w.cell? ⟨B, 8, none⟩ = some (.int .i64 0) ∧ w.cell? ⟨B, 9, none⟩ = some (.slice none 0 0) ∧ w.frozen? ⟨B, 0, none⟩ = false ∧ w.frozen? ⟨B, 1, none⟩ = false ∧ w.frozen? ⟨B, 2, none⟩ = false ∧ w.frozen? ⟨B, 3, none⟩ = false ∧ w.frozen? ⟨B, 4, none⟩ = false ∧ w.frozen? ⟨B, 5, none⟩ = false ∧ w.frozen? ⟨B, 6, none⟩ = false ∧ w.frozen? ⟨B, 7, none⟩ = false ∧ w.frozen? ⟨B, 8, none⟩ = false ∧ w.frozen? ⟨B, 9, none⟩ = false :=
  ⟨by rw [h.cell]; rfl, by rw [h.cell]; rfl, by rw [h.cell]; rfl, by rw [h.cell]; rfl, by rw [h.cell]; rfl, by rw [h.cell]; rfl, by rw [h.cell]; rfl, by rw [h.cell]; rfl, by rw [h.cell]; rfl, by rw [h.cell]; rfl, h.free 0, h.free 1, h.free 2, h.free 3, h.free 4, h.free 5, h.free 6, h.free 7, h.free 8, h.free 9⟩
set_option maxHeartbeats 2000000 in
theorem ten_sets {w : World} {B : Nat} (h : Blk w B (seec 0 0 0 0 0 (.slice none 0 0) (.slice none 0 0)) 55) (v0 v1 v2 v3 v4 v5 v6 v7 v8 v9 : Value) : Blk ((((((((((w.setCell ⟨B, 0, none⟩ v0).setCell ⟨B, 1, none⟩ v1).setCell ⟨B, 2, none⟩ v2).setCell ⟨B, 3, none⟩ v3).setCell ⟨B, 4, none⟩ v4).setCell ⟨B, 5, none⟩ v5).setCell ⟨B, 6, none⟩ v6).setCell ⟨B, 7, none⟩ v7).setCell ⟨B, 8, none⟩ v8).setCell ⟨B, 9, none⟩ v9) B #[v0, v1, v2, v3, v4, v5, v6, v7, v8, v9] 55 ∧ Buts [B] w ((((((((((w.setCell ⟨B, 0, none⟩ v0).setCell ⟨B, 1, none⟩ v1).setCell ⟨B, 2, none⟩ v2).setCell ⟨B, 3, none⟩ v3).setCell ⟨B, 4, none⟩ v4).setCell ⟨B, 5, none⟩ v5).setCell ⟨B, 6, none⟩ v6).setCell ⟨B, 7, none⟩ v7).setCell ⟨B, 8, none⟩ v8).setCell ⟨B, 9, none⟩ v9) := by
  have h0 := h.set 0 v0
  have h1 := h0.set 1 v1
  have h2 := h1.set 2 v2
  have h3 := h2.set 3 v3
  have h4 := h3.set 4 v4
  have h5 := h4.set 5 v5
  have h6 := h5.set 6 v6
  have h7 := h6.set 7 v7
  have h8 := h7.set 8 v8
  have h9 := h8.set 9 v9
  refine ⟨?_, ((((((((((Buts.cell w B 0 v0).trans (Buts.cell _ _ 1 v1)).trans (Buts.cell _ _ 2 v2)).trans (Buts.cell _ _ 3 v3)).trans (Buts.cell _ _ 4 v4)).trans (Buts.cell _ _ 5 v5)).trans (Buts.cell _ _ 6 v6)).trans (Buts.cell _ _ 7 v7)).trans (Buts.cell _ _ 8 v8)).trans (Buts.cell _ _ 9 v9))⟩
  simp only [seec, List.setIfInBounds_toArray, List.set_cons_succ, List.set_cons_zero] at h9
  exact h9
set_option maxHeartbeats 4000000 in
theorem seen_pool {w : World} {g q n : Nat} {zs : List Int} (h : Blk w g (ptrc q) 94) (hq : Pl.Pool w q n zs) :
    Calls Tryz.prog 23 #[.iface 92 (.pointer (some ⟨g, 0, none⟩))] w fun e w' => ∃ z c, e = .returned (.agg (seec 0 0 0 (Pl.cnt 0 zs : Nat) 0 (.slice none 0 0) (.slice (some ⟨z, 0, none⟩) n c))) ∧ w'.ownsRow w.heap.size 23 1 (.slice (some ⟨z, 0, none⟩) n c) n (wrd zs) ∧ Below w.heap.size w w' := by
  have hlt := h.lt
  have hne2 : g ≠ w.heap.size := Nat.ne_of_lt hlt
  have hne3 : w.heap.size ≠ g := Ne.symm hne2
  have HB0 : Hid (Below w.heap.size w (w.alloc (.cells (seec 0 0 0 0 0 (.slice none 0 0) (.slice none 0 0)) 55))) := alloc_below w _
  have H0 : Hid (Blk (w.alloc (.cells (seec 0 0 0 0 0 (.slice none 0 0) (.slice none 0 0)) 55)).drew w.heap.size (seec 0 0 0 0 0 (.slice none 0 0) (.slice none 0 0)) 55) := alloc_at w _
  have HLf : Hid (∀ wx, Below w.heap.size w wx → Calls Tryz.prog 59 #[.pointer (some ⟨q, 0, none⟩)] wx fun e w' => e = .returned (.int .i64 (Pl.cnt 0 zs : Nat)) ∧ Below wx.heap.size wx w') := fun wx hb => Pl.left_any (hq.below hb)
  have HOw : Hid (∀ wx, Below w.heap.size w wx → Calls Tryz.prog 60 #[.pointer (some ⟨q, 0, none⟩)] wx fun e w' => ∃ g cap, e = .returned (.slice (some ⟨g, 0, none⟩) n cap) ∧ w'.ownsRow wx.heap.size 23 1 (.slice (some ⟨g, 0, none⟩) n cap) n (wrd zs) ∧ Below wx.heap.size wx w') := fun wx hb => Pl.owners_any (hq.below hb)
  have hc : Pl.cnt 0 zs ≤ 64 := by have := Pl.cnt_le 0 zs; have := hq.len; have := hq.hi; omega
  have c0 : w.cell? ⟨g, 0, none⟩ = some (.pointer (some ⟨q, 0, none⟩)) := by rw [h.cell]; rfl
  have HG : Hid (Blk w g (ptrc q) 94) := h
  clear h hq
  generalize Pl.cnt 0 zs = c at *
  generalize wrd zs = vs at *
  have HW : Hid (IntKind.u32.wrap (c : Nat) = ((c : Nat) : Int)) := wrap_c hc
  have hs := alloc_size w (.cells (seec 0 0 0 0 0 (.slice none 0 0) (.slice none 0 0)) 55)
  have HS : Hid (w.heap.size + 1 = (w.alloc (.cells (seec 0 0 0 0 0 (.slice none 0 0) (.slice none 0 0)) 55)).heap.size) := hs.symm
  clear hs
  go_enter Tryz.func23, Tryz.ntmps23
  go_wp2
  go_region_held3 (fun w' => w'.cell? ⟨g, 0, none⟩ = some (.pointer (some ⟨q, 0, none⟩))) (go_keep) (first
    | (go_at_call 60; refine (HOw.out _ BL.out).mono ?_; rintro e w2 ⟨z, cc, rfl, ho, hb⟩; have HO2 : Hid (w2.ownsRow w.heap.size 23 1 (.slice (some ⟨z, 0, none⟩) n cc) n vs) := ho.mono BL.out.size; have B2 : Hid (Below w.heap.size w w2) := BL.out.trans (hb.mono BL.out.size); have Z2 : Hid (Blk w2 w.heap.size (seec 0 0 0 0 0 (.slice none 0 0) (.slice none 0 0)) 55) := ZL.out.below hb; have N2 : Hid (z ≠ w.heap.size) := own_far ho ZL.out.lt; have kg : w2.cell? ⟨g, 0, none⟩ = some (.pointer (some ⟨q, 0, none⟩)) := (by rw [(HG.out.below B2.out).cell]; rfl); obtain ⟨z0, z1, z2, z3, z4, z5, z6, z7, z8, z9, x0, x1, x2, x3, x4, x5, x6, x7, x8, x9⟩ := zero_cells Z2.out; have hz2 := Z2.out.lt; clear ho hb)
    | (go_at_call 59; refine (HLf.out _ BO.out).mono ?_; rintro e w2 ⟨rfl, hb⟩; have HO2 : Hid (w2.ownsRow w.heap.size 23 1 (.slice (some ⟨z, 0, none⟩) n cc) n vs) := owns_buts HO.out (Buts.of (l := []) hb) (fun _ _ => List.not_mem_nil); have B2 : Hid (Below w.heap.size w w2) := BO.out.trans (hb.mono BO.out.size); have Z2 : Hid (Blk w2 w.heap.size (seec 0 0 0 0 0 (.slice none 0 0) (.slice none 0 0)) 55) := ZO.out.below hb; have N2 : Hid (z ≠ w.heap.size) := NO.out; have kg : w2.cell? ⟨g, 0, none⟩ = some (.pointer (some ⟨q, 0, none⟩)) := (by rw [(HG.out.below B2.out).cell]; rfl); obtain ⟨z0, z1, z2, z3, z4, z5, z6, z7, z8, z9, x0, x1, x2, x3, x4, x5, x6, x7, x8, x9⟩ := zero_cells Z2.out; have hz2 := Z2.out.lt; clear hb)
    | (go_at_call 59; refine (HLf.out _ HB0.out.drew).mono ?_; rintro e wl ⟨rfl, hb⟩; have BL : Hid (Below w.heap.size w wl) := HB0.out.drew.trans (hb.mono HB0.out.drew.size); have ZL : Hid (Blk wl w.heap.size (seec 0 0 0 0 0 (.slice none 0 0) (.slice none 0 0)) 55) := H0.out.below hb; have kl : wl.cell? ⟨g, 0, none⟩ = some (.pointer (some ⟨q, 0, none⟩)) := (by rw [(HG.out.below BL.out).cell]; rfl); clear hb)
    | (go_at_call 60; refine (HOw.out _ HB0.out.drew).mono ?_; rintro e wo ⟨z, cc, rfl, ho, hb⟩; have HO : Hid (wo.ownsRow w.heap.size 23 1 (.slice (some ⟨z, 0, none⟩) n cc) n vs) := ho.mono HB0.out.drew.size; have BO : Hid (Below w.heap.size w wo) := HB0.out.drew.trans (hb.mono HB0.out.drew.size); have ZO : Hid (Blk wo w.heap.size (seec 0 0 0 0 0 (.slice none 0 0) (.slice none 0 0)) 55) := H0.out.below hb; have NO : Hid (z ≠ w.heap.size) := own_far ho H0.out.lt; have kl : wo.cell? ⟨g, 0, none⟩ = some (.pointer (some ⟨q, 0, none⟩)) := (by rw [(HG.out.below BO.out).cell]; rfl); clear ho hb)
    | fail)
  all_goals
    go_wp2
    obtain ⟨T1, T2⟩ := ten_sets Z2.out (.int .u32 0) (.int .u8 0) (.int .u32 0) (.int .u32 0) (.int .u32 (IntKind.u32.wrap (c : Nat))) (.int .u32 0) (.slice none 0 0) (.slice (some ⟨z, 0, none⟩) n cc) (.int .i64 0) (.slice none 0 0)
    refine bodyPost_ret (results_cell_row (g := w.heap.size) rfl _ _ _ _ _ (d := _) rfl T1 Tryz.underlying55 rfl (by kernel_rfl)) rfl ?_
    refine ⟨z, cc, ?_, ?_, ?_⟩
    · rw [HW.out]; rfl
    · exact owns_buts HO2.out T2 (fun k hk => by simp only [Value.ownBlock] at hk; cases hk; simpa using N2.out)
    · exact B2.out.trans (one_below T2 (Nat.le_refl _) B2.out.size)
/-- a list of one's own -/
def Lst (w : World) (B : Nat) (v : Value) (xs : List Int) : Prop := w.ownsRow B 23 1 v xs.length (wrd xs)
theorem Lst.nil (w : World) (B : Nat) : Lst w B (.slice none 0 0) [] := World.ownsRow_nil w B _ _
theorem Lst.mono {w : World} {B B' : Nat} {v : Value} {xs : List Int} (h : Lst w B v xs) (hb : B' ≤ B) : Lst w B' v xs := World.ownsRow.mono h hb
theorem Lst.below {w w' : World} {B : Nat} {v : Value} {xs : List Int} (h : Lst w B v xs) (hb : Below w.heap.size w w') : Lst w' B v xs := owns_buts h (Buts.of (l := []) hb) (fun _ _ => List.not_mem_nil)
theorem Lst.but {w w' : World} {B k : Nat} {v : Value} {xs : List Int} (h : Lst w B v xs) (hb : Buts [k] w w') (hk : k < B) : Lst w' B v xs :=
  owns_buts h hb (fun g hg => by have := (World.ownsRow.lt h g hg).1; simp only [List.mem_singleton]; omega)
theorem Lst.row {w : World} {B z : Nat} {xs : List Int} (h : Row w z xs) (hz : B ≤ z) (hm : xs.length ≤ 64) : Lst w B (.slice (some ⟨z, 0, none⟩) xs.length xs.length) xs := by
  refine ⟨by simp [wrd], Or.inr ⟨z, xs.length, (wrd xs).toArray, rfl, hz, h, Nat.le_refl _, ?_, by simp [wrd], by simp [wrd, List.take_of_length_le]⟩⟩
  have : (64 : Nat) ≤ maxLen := by decide
  omega
set_option maxHeartbeats 4000000 in
theorem see_of {w : World} {p f : Nat} {k a b : Int} {t : TypeId} (hh : Blk w p (hdc k a b t f) 64) {c o : Int} {xs zs : List Int}
    (HP : ∀ wx, Below w.heap.size w wx → Calls Tryz.prog 23 #[.iface t (.pointer (some ⟨f, 0, none⟩))] wx fun e w' => ∃ s1 n1 c1 s2 n2 c2, e = .returned (.agg (seec 0 0 0 c o (.slice s1 n1 c1) (.slice s2 n2 c2))) ∧ Lst w' wx.heap.size (.slice s1 n1 c1) xs ∧ Lst w' wx.heap.size (.slice s2 n2 c2) zs ∧ Below wx.heap.size wx w') :
    Calls Tryz.prog 11 #[.pointer (some ⟨p, 0, none⟩)] w fun e w' => ∃ s1 n1 c1 s2 n2 c2, e = .returned (.agg (seec k a b c o (.slice s1 n1 c1) (.slice s2 n2 c2))) ∧ Lst w' w.heap.size (.slice s1 n1 c1) xs ∧ Lst w' w.heap.size (.slice s2 n2 c2) zs ∧ Below w.heap.size w w' := by
  have HB0 : Hid (Below w.heap.size w (w.alloc (.cells (seec 0 0 0 0 0 (.slice none 0 0) (.slice none 0 0)) 55))) := alloc_below w _
  have H0 : Hid (Blk (w.alloc (.cells (seec 0 0 0 0 0 (.slice none 0 0) (.slice none 0 0)) 55)) w.heap.size (seec 0 0 0 0 0 (.slice none 0 0) (.slice none 0 0)) 55) := alloc_at w _
  have HH : Hid (Blk w p (hdc k a b t f) 64) := hh
  have HT := there_any (hh.below HB0.out)
  have hs := alloc_size w (.cells (seec 0 0 0 0 0 (.slice none 0 0) (.slice none 0 0)) 55)
  have HC := HP _ HB0.out
  rw [hs] at HC
  have c3 : (w.alloc (.cells (seec 0 0 0 0 0 (.slice none 0 0) (.slice none 0 0)) 55)).cell? ⟨p, 3, none⟩ = some (.iface t (.pointer (some ⟨f, 0, none⟩))) := by rw [(hh.below HB0.out).cell]; rfl
  have HS : Hid ((w.alloc (.cells (seec 0 0 0 0 0 (.slice none 0 0) (.slice none 0 0)) 55)).heap.size = w.heap.size + 1) := hs
  clear hh HP hs
  go_enter Tryz.func11, Tryz.ntmps11
  go_wp2_with (first
    | (go_at_call 18; refine HT.mono ?_; rintro e wx ⟨rfl, rfl⟩)
    | (go_at_call 23; refine HC.mono ?_; rintro e w1 ⟨s1, n1, c1, s2, n2, c2, he, hr, ho, hb⟩; unfold seec at he; subst he; have HR : Hid (Lst w1 (w.heap.size + 1) (.slice s1 n1 c1) xs) := hr; have HO : Hid (Lst w1 (w.heap.size + 1) (.slice s2 n2 c2) zs) := ho; have HB : Hid (Below w.heap.size w w1) := HB0.out.trans (hb.mono (Nat.le_succ _)); have H1 : Hid (Blk w1 w.heap.size (seec 0 0 0 0 0 (.slice none 0 0) (.slice none 0 0)) 55) := H0.out.below (by rw [HS.out]; exact hb); have k0 : w1.cell? ⟨p, 0, none⟩ = some (.int .u8 k) := (by rw [(HH.out.below HB.out).cell]; rfl); have k1 : w1.cell? ⟨p, 1, none⟩ = some (.int .u32 a) := (by rw [(HH.out.below HB.out).cell]; rfl); have k2 : w1.cell? ⟨p, 2, none⟩ = some (.int .u32 b) := (by rw [(HH.out.below HB.out).cell]; rfl); have hp1 := (HH.out.below HB.out).lt; have hl1 := H1.out.lt; clear hr ho hb HC c3 HT)
    | (refine wpList_store_row rfl _ _ _ rfl w.heap.size (seec k a b c o (.slice s1 n1 c1) (.slice s2 n2 c2)) rfl rfl 55 _ (H1.out.below (alloc_below w1 (.cells (seec k a b c o (.slice s1 n1 c1) (.slice s2 n2 c2)) 55))) (by kernel_rfl) rfl (by kernel_rfl) ?_)
    | fail)
  have b2 := alloc_below w1 (.cells (seec k a b c o (.slice s1 n1 c1) (.slice s2 n2 c2)) 55)
  refine bodyPost_ret (results_cell_row (g := w.heap.size) rfl _ _ _ _ _ (d := _) rfl ((H1.out.below b2).setRow _) Tryz.underlying55 rfl (by kernel_rfl)) rfl ?_
  refine ⟨s1, n1, c1, s2, n2, c2, rfl, ?_, ?_, ?_⟩
  · exact ((HR.out.below b2).but (setRow_buts _ _ _) (Nat.lt_succ_self _)).mono (Nat.le_succ _)
  · exact ((HO.out.below b2).but (setRow_buts _ _ _) (Nat.lt_succ_self _)).mono (Nat.le_succ _)
  · have b3 := HB.out.trans (b2.mono HB.out.size)
    exact b3.trans (one_below (setRow_buts _ _ _) (Nat.le_refl _) b3.size)
end Go.Proofs.YteicnekoogmmmaaGreatDoor
