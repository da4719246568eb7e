/- The statements' own examples hold: 'alive' returns true; 'of' makes a pool; what they make in memory is new. -/
import Derived.Test.YtpdibhgbaclbaabSame
namespace Go.Proofs.Ytpdibhgbaclbaab
open Go Go.RowKit
set_option maxRecDepth 100000
set_option linter.unusedVariables false
theorem of_any {w : World} (m : Int) (hm : 0 ≤ m ∧ m ≤ 255) (n : Nat) (hn : (n : Int) = 1 + m % 64) :
    Calls Try.prog 6 #[.int .u8 m] w fun e w' => e = .returned (.pointer (some ⟨w.heap.size, 0, none⟩)) ∧ Pool w' w.heap.size n (List.replicate n 0) ∧ Below w.heap.size w w' := by
  have HN : Hid ((n : Int) = 1 + m % 64) := hn
  have h1 : 1 ≤ n := by omega
  have h2 : n ≤ 64 := by omega
  clear hn
  go_enter Try.func6, Try.ntmps6
  go_wp2_with (go_at_call 13; refine (new_zero n h1 h2 1 (by omega) _ HN.out.symm).mono ?_; rintro e w' ⟨rfl, hp, hb⟩)
  go_ret
  exact ⟨rfl, hp, hb⟩
theorem src3 (w : World) : Src (w.alloc (.cells #[.int .u32 5, .int .u32 6, .int .u32 5] 28)).heap.size (w.alloc (.cells #[.int .u32 5, .int .u32 6, .int .u32 5] 28)) (some ⟨w.heap.size, 0, none⟩) [5, 6, 5] :=
  Src.row (n := 0) (alloc_at w _) (by unfold isW; decide)
theorem new3 (w : World) : Calls Try.prog 13 #[.int .i64 3, .int .i64 8] w fun e w' => e = .returned (.tuple #[.pointer (some ⟨w.heap.size, 0, none⟩), .int .i64 0]) ∧ Pool w' w.heap.size 3 [0, 0, 0] ∧ Below w.heap.size w w' := new_yes 3 8 (by decide) (by decide) (by decide)
theorem al1 {w : World} {p : Nat} (h : Pool w p 3 [0, 0, 0]) : Calls Try.prog 8 #[.pointer (some ⟨p, 0, none⟩), .int .u32 5] w fun e w' => e = .returned (.tuple #[.int .i64 0, .int .i64 0]) ∧ Pool w' p 3 [5, 0, 0] ∧ But p w w' := alloc_yes h 5 (by decide) 0 (by decide) rfl (fun j hj => by omega)
theorem al2 {w : World} {p : Nat} (h : Pool w p 3 [5, 0, 0]) : Calls Try.prog 8 #[.pointer (some ⟨p, 0, none⟩), .int .u32 6] w fun e w' => e = .returned (.tuple #[.int .i64 1, .int .i64 0]) ∧ Pool w' p 3 [5, 6, 0] ∧ But p w w' := alloc_yes h 6 (by decide) 1 (by decide) rfl (fun j hj => by obtain rfl : j = 0 := (by omega); decide)
theorem al3 {w : World} {p : Nat} (h : Pool w p 3 [5, 6, 0]) : Calls Try.prog 8 #[.pointer (some ⟨p, 0, none⟩), .int .u32 5] w fun e w' => e = .returned (.tuple #[.int .i64 2, .int .i64 0]) ∧ Pool w' p 3 [5, 6, 5] ∧ But p w w' := alloc_yes h 5 (by decide) 2 (by decide) rfl (fun j hj => by obtain rfl | rfl : j = 0 ∨ j = 1 := (by omega) <;> decide)
theorem al4 {w : World} {p : Nat} (h : Pool w p 3 [5, 6, 5]) : Calls Try.prog 8 #[.pointer (some ⟨p, 0, none⟩), .int .u32 7] w fun e w' => e = .returned (.tuple #[.int .i64 0, .int .i64 11]) ∧ Below w.heap.size w w' := alloc_full h 7 (by decide) (fun j hj => by obtain rfl | rfl | rfl : j = 0 ∨ j = 1 ∨ j = 2 := (by omega) <;> decide)
theorem same3 (w : World) {B g cap : Nat} (h : w.ownsRow B 28 1 (.slice (some ⟨g, 0, none⟩) 3 cap) 3 (wrd [5, 6, 5])) :
    Calls Try.prog 11 #[.slice (some ⟨g, 0, none⟩) 3 cap, .slice (some ⟨w.heap.size, 0, none⟩) 3 3] (w.alloc (.cells #[.int .u32 5, .int .u32 6, .int .u32 5] 28)) fun e w' => e = .returned (.bool true) ∧ Below w.heap.size w w' :=
  (same_yes (zs := [5, 6, 5]) (own_src (owns_of h fun g hg => (alloc_below w _).block g (h.lt g hg).2) (by unfold isW; decide)) (src3 w) (by decide) cap 3).mono fun e w' ⟨he, hb⟩ => ⟨he, (alloc_below w _).trans (hb.mono (by rw [alloc_size]; omega))⟩
theorem fr1 {w : World} {p : Nat} (h : Pool w p 3 [5, 6, 5]) : Calls Try.prog 9 #[.pointer (some ⟨p, 0, none⟩), .int .u32 6, .int .i64 0] w fun e w' => e = .returned (.int .i64 13) ∧ w' = w := free_other h 6 0 (by decide) (by decide) (by decide)
theorem fr2 {w : World} {p : Nat} (h : Pool w p 3 [5, 6, 5]) : Calls Try.prog 9 #[.pointer (some ⟨p, 0, none⟩), .int .u32 5, .int .i64 0] w fun e w' => e = .returned (.int .i64 0) ∧ Pool w' p 3 [0, 6, 5] ∧ But p w w' := free_yes h 5 0 (by decide) (by decide) (by decide)
theorem all1 {w : World} {p : Nat} (h : Pool w p 3 [0, 6, 5]) : Calls Try.prog 10 #[.pointer (some ⟨p, 0, none⟩), .int .u32 5] w fun e w' => e = .returned (.int .i64 1) ∧ Pool w' p 3 [0, 6, 0] ∧ But p w w' := all_any h 5 (by decide)
theorem left1 {w : World} {p : Nat} (h : Pool w p 3 [0, 6, 0]) : Calls Try.prog 12 #[.pointer (some ⟨p, 0, none⟩)] w fun e w' => e = .returned (.int .i64 2) ∧ Below w.heap.size w w' := left_any h
set_option maxHeartbeats 1000000 in
theorem alive_any (w : World) : Calls Try.prog 5 #[] w fun e w' => e = .returned (.bool true) ∧ Below w.heap.size w w' := by
  go_enter Try.func5, Try.ntmps5
  go_wp2_with (first
    | (go_at_call_of 13 (Value.int IntKind.i64 3); refine (new3 _).mono ?_; rintro e w1 ⟨rfl, hP, hB⟩; have hlt := hP.lt)
    | (go_at_call_of 13 (Value.int IntKind.i64 65); refine (new_no 65 1 (by omega)).mono ?_; rintro e wx ⟨rfl, rfl⟩)
    | (go_at_call_of 13 (Value.int IntKind.i64 257); refine (new_no 1 257 (by omega)).mono ?_; rintro e wx ⟨rfl, rfl⟩)
    | (go_at_call 8; refine (al4 hP3).mono ?_; rintro e w5 ⟨rfl, hb⟩; have hP4 := hP3.below hb; replace hB := hB.trans (hb.mono hB.size); clear hP3 hb)
    | (go_at_call 8; refine (al3 hP2).mono ?_; rintro e w4 ⟨rfl, hP3, hb⟩; replace hB := hB.trans (hb.below (Nat.le_refl _) hB.size); clear hP2 hb)
    | (go_at_call 8; refine (al2 hP1).mono ?_; rintro e w3 ⟨rfl, hP2, hb⟩; replace hB := hB.trans (hb.below (Nat.le_refl _) hB.size); clear hP1 hb)
    | (go_at_call 8; refine (al1 hP).mono ?_; rintro e w2 ⟨rfl, hP1, hb⟩; replace hB := hB.trans (hb.below (Nat.le_refl _) hB.size); clear hP hb)
    | (go_at_call 7; refine (owners_any hP4).mono ?_; rintro e w6 ⟨g, cap, rfl, hr, hb⟩; have hP5 := hP4.below hb; replace hB := hB.trans (hb.mono hB.size); clear hP4 hb)
    | (go_at_call 11; refine (same3 _ hr).mono ?_; rintro e w7 ⟨rfl, hb⟩; have hP6 := hP5.below hb; replace hB := hB.trans (hb.mono hB.size); clear hP5 hb hr)
    | (go_at_call_of 9 (Value.int IntKind.u32 6); refine (fr1 hP6).mono ?_; rintro e wx ⟨rfl, rfl⟩)
    | (go_at_call 9; refine (free_no hP9 5 3 (by omega) (by omega)).mono ?_; rintro e wx ⟨rfl, rfl⟩)
    | (go_at_call 9; refine (fr2 hP6).mono ?_; rintro e w8 ⟨rfl, hP7, hb⟩; replace hB := hB.trans (hb.below (Nat.le_refl _) hB.size); clear hP6 hb)
    | (go_at_call 10; refine (all1 hP7).mono ?_; rintro e w9 ⟨rfl, hP8, hb⟩; replace hB := hB.trans (hb.below (Nat.le_refl _) hB.size); clear hP7 hb)
    | (go_at_call 12; refine (left1 hP8).mono ?_; rintro e w10 ⟨rfl, hb⟩; have hP9 := hP8.below hb; replace hB := hB.trans (hb.mono hB.size); clear hP8 hb))
  go_ret
  exact ⟨rfl, hB⟩
end Go.Proofs.Ytpdibhgbaclbaab
