/- What flags answer who waits for them. -/
import Derived.Test.YteicnekoogmmmaaGreatDoorParts
namespace Go.Proofs.YteicnekoogmmmaaGreatDoor
open Go Go.RowKit
set_option maxRecDepth 100000
set_option linter.unusedVariables false
def awV (f v : Nat) (all : Bool) : Nat := if Mk.hold f v all = true then f &&& v else 0
def awE (f v : Nat) (all : Bool) : Int := if Mk.hold f v all = true then 0 else 7
def awF (f v : Nat) (all gone : Bool) : Nat := if Mk.hold f v all = true then Mk.aft f v all gone else f
theorem awF_lt {f v : Nat} (hf : f < 4294967296) (all gone : Bool) : awF f v all gone < 4294967296 := by
  unfold awF
  split
  · exact Mk.aft_lt hf _ _
  · exact hf
set_option maxHeartbeats 1000000 in
theorem await_in {w : World} {g : Nat} {f v : Nat} (h : Blk w g (onec f) 88) (hf : f < 4294967296) (hv : v < 4294967296) (m : Nat) (hm : m < 4) :
    Calls Tryz.prog 133 #[.pointer (some ⟨g, 0, none⟩), .int .u32 (v : Nat), .int .u32 (m : Nat)] w fun e w' => e = .returned (.tuple #[.int .u32 ((awV f v (decide (m % 2 = 1)) : Nat) : Int), .int .i64 (awE f v (decide (m % 2 = 1)))]) ∧ Blk w' g (onec ((awF f v (decide (m % 2 = 1)) (decide (2 ≤ m)) : Nat) : Int)) 88 ∧ Buts [g] w w' := by
  have HB : Hid (Blk w g (onec f) 88) := h
  have c0 : w.cell? ⟨g, 0, none⟩ = some (.int .u32 f) := by rw [h.cell]; rfl
  clear h
  have hH := fun all wx => Mk.holds_any f v hf hv all wx
  have hM := fun wx => Mk.met_any f v hf hv wx
  have hA := fun all gone wx => Mk.after_any f v hf hv all gone wx
  obtain rfl | rfl | rfl | rfl : m = 0 ∨ m = 1 ∨ m = 2 ∨ m = 3 := by omega
  all_goals
    first
    | (have q1 : decide (0 % 2 = 1) = false := rfl; have q2 : decide (2 ≤ 0) = false := rfl; rw [q1, q2]; clear q1 q2; replace hH := hH false; replace hA := hA false false; cases q : Mk.hold f v false)
    | (have q1 : decide (1 % 2 = 1) = true := rfl; have q2 : decide (2 ≤ 1) = false := rfl; rw [q1, q2]; clear q1 q2; replace hH := hH true; replace hA := hA true false; cases q : Mk.hold f v true)
    | (have q1 : decide (2 % 2 = 1) = false := rfl; have q2 : decide (2 ≤ 2) = true := rfl; rw [q1, q2]; clear q1 q2; replace hH := hH false; replace hA := hA false true; cases q : Mk.hold f v false)
    | (have q1 : decide (3 % 2 = 1) = true := rfl; have q2 : decide (2 ≤ 3) = true := rfl; rw [q1, q2]; clear q1 q2; replace hH := hH true; replace hA := hA true true; cases q : Mk.hold f v true)
  all_goals
    rw [q] at hH
    unfold awV awE awF
    rw [q]
    first
    | (rw [if_neg (by decide), if_neg (by decide), if_neg (by decide)]
       clear q hA hM
       go_enter Tryz.func133, Tryz.ntmps133
       go_wp2_with (first
         | (go_at_call 135; refine (hH _).mono ?_; rintro e w1 ⟨rfl, hb⟩))
       go_ret2
       exact ⟨rfl, HB.out.below hb, Buts.of hb⟩)
    | (rw [if_pos rfl, if_pos rfl, if_pos rfl]
       clear q
       generalize Mk.aft f v _ _ = y at *
       generalize f &&& v = x at *
       go_enter Tryz.func133, Tryz.ntmps133
       go_wp2_with (first
         | (go_at_call 135; refine (hH _).mono ?_; rintro e w1 ⟨rfl, hb⟩; have c1 := (hb.cell (p := ⟨g, 0, none⟩) HB.out.lt).trans c0)
         | (go_at_call 136; refine (hM _).mono ?_; rintro e wx ⟨rfl, rfl⟩)
         | (go_at_call 137; refine (hA _).mono ?_; rintro e w2 ⟨rfl, hb2⟩; have B1 := HB.out.below hb; have B2 := B1.below hb2; have c2 := B2.cell 0; have f2 := B2.free 0; have HB2 : Hid (Blk w2 g (onec f) 88) := B2; clear B1 B2))
       go_ret2
       exact ⟨rfl, HB2.out.set 0 _, ((Buts.of hb).trans (Buts.of hb2)).trans (Buts.cell _ _ _ _)⟩)
theorem await_far {w : World} {g : Nat} (v m : Int) (hm : 4 ≤ m) :
    Calls Tryz.prog 133 #[.pointer (some ⟨g, 0, none⟩), .int .u32 v, .int .u32 m] w fun e w' => e = .returned (.tuple #[.int .u32 0, .int .i64 1]) ∧ w = w' := by
  go_enter Tryz.func133, Tryz.ntmps133
  go_wp2
  go_ret2
  exact ⟨rfl, rfl⟩
theorem flg_await {w : World} {g : Nat} {f v : Nat} (h : Blk w g (onec f) 88) (hf : f < 4294967296) (hv : v < 4294967296) (m : Nat) (hm : m < 4) (who ah aw : Int) :
    Calls Tryz.prog 134 #[.pointer (some ⟨g, 0, none⟩), .int .u32 who, .agg #[.int .u8 11, .int .u32 ah, .int .u32 (v : Nat), .int .u32 (m : Nat), .int .i64 aw]] w fun e w' => e = .returned (.tuple #[.int .u32 ((awV f v (decide (m % 2 = 1)) : Nat) : Int), .int .i64 (awE f v (decide (m % 2 = 1)))]) ∧ Blk w' g (onec ((awF f v (decide (m % 2 = 1)) (decide (2 ≤ m)) : Nat) : Int)) 88 ∧ Buts [g] w w' := by
  have HC : Hid (∀ o, Calls Tryz.prog 133 #[.pointer (some ⟨g, 0, none⟩), .int .u32 (v : Nat), .int .u32 (m : Nat)] (w.alloc o) fun e w' => e = .returned (.tuple #[.int .u32 ((awV f v (decide (m % 2 = 1)) : Nat) : Int), .int .i64 (awE f v (decide (m % 2 = 1)))]) ∧ Blk w' g (onec ((awF f v (decide (m % 2 = 1)) (decide (2 ≤ m)) : Nat) : Int)) 88 ∧ Buts [g] (w.alloc o) w') := fun o => await_in (boxed h o).1 hf hv m hm
  clear h
  generalize awV f v (decide (m % 2 = 1)) = x at *
  generalize awE f v (decide (m % 2 = 1)) = y at *
  generalize awF f v (decide (m % 2 = 1)) (decide (2 ≤ m)) = z at *
  go_enter Tryz.func134, Tryz.ntmps134
  go_wp2_with (first
    | (go_at_call 133; refine (HC.out _).mono ?_; rintro e w1 ⟨rfl, hB, hb⟩; have HB : Hid (Blk w1 g (onec z) 88) := hB; have Hb := (Buts.of (l := [g]) (alloc_below w _)).trans hb; clear hB hb))
  go_ret2
  exact ⟨rfl, HB.out, Hb⟩
theorem flg_awfar {w : World} {g : Nat} (v m : Int) (hm : 4 ≤ m) (who ah aw : Int) :
    Calls Tryz.prog 134 #[.pointer (some ⟨g, 0, none⟩), .int .u32 who, .agg #[.int .u8 11, .int .u32 ah, .int .u32 v, .int .u32 m, .int .i64 aw]] w fun e w' => e = .returned (.tuple #[.int .u32 0, .int .i64 1]) ∧ Below w.heap.size w w' := by
  go_enter Tryz.func134, Tryz.ntmps134
  go_wp2_with (first
    | (go_at_call 133; refine (await_far _ _ hm).mono ?_; rintro e wx ⟨rfl, rfl⟩))
  go_ret2
  exact ⟨rfl, alloc_below _ _⟩
end Go.Proofs.YteicnekoogmmmaaGreatDoor
