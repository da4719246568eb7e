/- An image's bytes, by the program's own function. -/
import Derived.Test.YtcjghnnliepjjaaGreatDoorChecks
namespace Go.Proofs.YtcjghnnliepjjaaGreatDoor
open Go Go.RowKit
set_option maxRecDepth 100000
set_option linter.unusedVariables false
theorem idx3 (a b c : Int) (W : World) :
    (Instr.index 88 (.agg #[.int .i64 a, .int .i64 b, .int .i64 c]) (.int .i64 0)).run Tryz.prog W = .ok (.int .i64 a) W ∧ (Instr.index 88 (.agg #[.int .i64 a, .int .i64 b, .int .i64 c]) (.int .i64 1)).run Tryz.prog W = .ok (.int .i64 b) W ∧ (Instr.index 88 (.agg #[.int .i64 a, .int .i64 b, .int .i64 c]) (.int .i64 2)).run Tryz.prog W = .ok (.int .i64 c) W := by
  refine ⟨?_, ?_, ?_⟩ <;> simp [Instr.index, asIntOf, run_underlying Tryz.underlying88, part, go_sem]
/-- two bytes in a row of their own, read -/
theorem Src.pair (w : World) (x y : Int) (t : TypeId) : Src (w.alloc (.cells #[.int .u8 x, .int .u8 y] t)) (some ⟨w.heap.size, 0, none⟩) [x, y] := fun _ => ⟨_, 0, rfl, fun i hi => by
  rw [cell_of (alloc_at w _), Nat.zero_add]
  have hi' : i < 2 := hi
  obtain rfl | rfl : i = 0 ∨ i = 1 := by omega
  all_goals rfl⟩
theorem Src.four (w : World) (x y z u : Int) (t : TypeId) : Src (w.alloc (.cells #[.int .u8 x, .int .u8 y, .int .u8 z, .int .u8 u] t)) (some ⟨w.heap.size, 0, none⟩) [x, y, z, u] := fun _ => ⟨_, 0, rfl, fun i hi => by
  rw [cell_of (alloc_at w _), Nat.zero_add]
  have hi' : i < 4 := hi
  obtain rfl | rfl | rfl | rfl : i = 0 ∨ i = 1 ∨ i = 2 ∨ i = 3 := by omega
  all_goals rfl⟩
theorem hi_byte (n : Int) (h0 : 0 ≤ n) (h1 : n < 65536) : IntKind.u8.wrap (n / 256) = n / 256 := by rw [IntKind.wrap_u8]; omega
theorem lo_byte (n : Int) : IntKind.u8.wrap n = n % 256 := by rw [IntKind.wrap_u8]
theorem more_low {w W w1 : World} {B n t s : Nat} {v : Value} {xs : List Value} {o : Obj} (O : Hid (W.ownsRow B t s v n xs)) (hB : Hid (Below B w W)) (G : Hid ((W.alloc o).grownBy w1 v.ownBlock)) (z : B ≤ W.heap.size) : Hid (Below B w w1) := by
  show Below B w w1
  exact hB.out.trans (((alloc_below W o).mono z).trans (own_grown (owns_below O.out (alloc_below W o)) G.out (by rw [alloc_size]; omega)))
theorem more_size {W w1 : World} {B : Nat} {r : Option Nat} {o : Obj} (G : Hid ((W.alloc o).grownBy w1 r)) (z : B ≤ W.heap.size) : B ≤ w1.heap.size := by
  have := G.out.size
  rw [alloc_size] at this
  omega
set_option maxHeartbeats 4000000 in
theorem appendTo_any {w : World} {B n : Nat} {v : Value} {xs : List Int} (size d k : Int) (h0 : 0 ≤ size ∧ size < 65536) (h1 : 0 ≤ d ∧ d < 65536) (h2 : 0 ≤ k ∧ k < 65536) (hown : w.ownsRow B 5 1 v n (byt xs)) (hn : n ≤ 1000) (hB : B ≤ w.heap.size) :
    Calls Tryz.prog 31 #[.agg #[.int .i64 size, .int .i64 d, .int .i64 k], v] w fun e w' => ∃ v', e = .returned v' ∧ w'.ownsRow B 5 1 v' (n + 2 + 2 + 2) (byt (xs ++ two size ++ two d ++ two k)) ∧ Below B w w' := by
  have i0 := fun W => (idx3 size d k W).1
  have i1 := fun W => (idx3 size d k W).2.1
  have i2 := fun W => (idx3 size d k W).2.2
  have p0 := hi_byte size h0.1 h0.2
  have p1 := hi_byte d h1.1 h1.2
  have p2 := hi_byte k h2.1 h2.2
  have l0 := lo_byte size
  have l1 := lo_byte d
  have l2 := lo_byte k
  have HO : Hid (w.ownsRow B 5 1 v n (byt xs)) := hown
  clear hown
  go_enter Tryz.func31, Tryz.ntmps31
  go_wp2
  have O0 : Hid ((w.alloc (.cells #[.int .i64 size, .int .i64 d, .int .i64 k] 59)).ownsRow B 5 1 v n (byt xs)) := owns_below HO.out (alloc_below w _)
  have B0 : Hid (Below B w (w.alloc (.cells #[.int .i64 size, .int .i64 d, .int .i64 k] 59))) := (alloc_below w _).mono hB
  have z0 : B ≤ (w.alloc (.cells #[.int .i64 size, .int .i64 d, .int .i64 k] 59)).heap.size := by rw [alloc_size]; omega
  generalize w.alloc (.cells #[.int .i64 size, .int .i64 d, .int .i64 k] 59) = W at *
  refine wp_loop_rounds 4 ?_
  rw [rounds_succ]
  go_wp2_with (at_builtin; refine wpList_more rfl (.tmp 17) (.tmp 23) rfl (zs := two size) rfl rfl (owns_below O0.out (alloc_below _ _)) (Src.pair _ _ _ _) (fun h => by cases h) (by show n + 2 ≤ _; omega) (by rw [alloc_size]; omega) ?_; intro v1 w1 O1 G1)
  have B1 : Hid (Below B w w1) := more_low O0 B0 G1 z0
  have z1 : B ≤ w1.heap.size := more_size G1 z0
  clear O0 B0 G1 z0
  rw [rounds_succ]
  go_wp2_with (at_builtin; refine wpList_more rfl (.tmp 17) (.tmp 23) rfl (zs := two d) rfl rfl (owns_below O1.out (alloc_below _ _)) (Src.pair _ _ _ _) (fun h => by cases h) (by show n + 2 + 2 ≤ _; omega) (by rw [alloc_size]; omega) ?_; intro v2 w2 O2 G2)
  have B2 : Hid (Below B w w2) := more_low O1 B1 G2 z1
  have z2 : B ≤ w2.heap.size := more_size G2 z1
  clear O1 B1 G2 z1
  rw [rounds_succ]
  go_wp2_with (at_builtin; refine wpList_more rfl (.tmp 17) (.tmp 23) rfl (zs := two k) rfl rfl (owns_below O2.out (alloc_below _ _)) (Src.pair _ _ _ _) (fun h => by cases h) (by show n + 2 + 2 + 2 ≤ _; omega) (by rw [alloc_size]; omega) ?_; intro v3 w3 O3 G3)
  have B3 : Hid (Below B w w3) := more_low O2 B2 G3 z2
  clear O2 B2 G3 z2
  rw [rounds_succ]
  go_wp2
  go_ret
  exact ⟨_, rfl, O3.out, B3.out⟩
end Go.Proofs.YtcjghnnliepjjaaGreatDoor
