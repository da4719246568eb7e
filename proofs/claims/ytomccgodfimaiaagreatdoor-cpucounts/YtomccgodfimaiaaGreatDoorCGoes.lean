/- Loads that find nothing; where a core goes; what it asks: each function by its contract. -/
import Derived.Test.YtomccgodfimaiaaGreatDoorCTurn
import Derived.Test.YtomccgodfimaiaaGreatDoorCDie
namespace Go.Proofs.YtomccgodfimaiaaGreatDoor
set_option linter.all false
open Go Go.RowKit
set_option maxRecDepth 100000
set_option linter.unusedVariables false
/-- a byte from -128 to 127 -/
def sx (z : Int) : Int := if 127 < z then z - 256 else z
theorem sx_wrap (z : Int) (h : 0 ≤ z ∧ z ≤ 255) : IntKind.i8.wrap z = sx z := by
  unfold sx IntKind.wrap
  simp [IntKind.bits, IntKind.signed]
  split <;> split <;> omega
theorem w64 {n : Int} (h : -9223372036854775808 ≤ n ∧ n ≤ 9223372036854775807) : IntKind.i64.wrap n = n := by
  rw [IntKind.wrap_i64]; omega
theorem sx_bound (z : Int) (h : 0 ≤ z ∧ z ≤ 255) : -128 ≤ sx z ∧ sx z ≤ 127 := by unfold sx; split <;> omega

set_option maxHeartbeats 2000000 in
theorem load_no {w : World} {G : Kp} {cv : Value} {c : Cr} (h : CM w G cv c) (o z : Int) {a b : Nat} (ha : a < 8) (hb : b < 8) (hz : 0 ≤ z ∧ z ≤ 255) {k : Nat} (hk : plc c b z = k) (hat : c.zs.length < k + 4) :
    Calls Tryz.prog 80 #[.pointer (some ⟨G.p, 0, none⟩), .agg #[.int .u8 o, .int .u8 (a : Nat), .int .u8 (b : Nat), .int .u8 z]] w fun e w' => e = .panicked [{ v := fltV, recovered := false }] ∧ Below w.heap.size w w' := by
  obtain ⟨w1, hw1, h1, b1, s1, x0, x1, x2, x3⟩ := h.boxed o (a : Nat) (b : Nat) z
  have ha' : (a : Int) < 8 := by omega
  have hb' : (b : Int) < 8 := by omega
  have pw := h1.plt
  have S1 : Hid (w1.heap.size = w.heap.size + 1) := s1
  have c9 := h1.c9
  have hpl : ∀ W, CM W G cv c → Calls Tryz.prog 118 #[.pointer (some ⟨G.p, 0, none⟩), .agg #[.int .u8 o, .int .u8 (a : Nat), .int .u8 (b : Nat), .int .u8 z]] W fun e w' => e = .returned (.int .u32 (k : Nat)) ∧ Below W.heap.size W w' := fun W hW => by rw [← hk]; exact place_any hW o a z hb hz
  have hk32 : (k : Int) ≤ 4294967295 := by rw [← hk]; unfold plc; omega
  have hwd : ∀ W, CM W G cv c → Calls Tryz.prog 117 #[.pointer (some ⟨G.q, 0, none⟩), .int .u32 (k : Nat)] W fun e w' => e = .returned (.tuple #[.int .u32 0, .int .i64 4]) ∧ w' = W := fun W hW => Rn.word_no hW.reg k ⟨by omega, hk32⟩ (by omega)
  have ra := h1.r a ha
  have fa := h1.fz a
  generalize c.rs.getD a 0 = va at *
  have H : Hid (CM w1 G cv c) := h1
  have HB : Hid (Below w.heap.size w w1) := b1
  clear h h1 b1 s1
  go_enter Tryz.func80, Tryz.ntmps80
  go_wp2
  clear hw1 hk hk32 hat
  have hlw : w.heap.size < w1.heap.size := by rw [S1.out]; omega
  have ca := @above_cell
  refine wp_region_dies' 13 0 2 _ (by kernel_rfl) rfl (by kernel_rfl) (by kernel_rfl) (by decide) (fun o v c a w h => bodyPost_back o.dst v c a w h) ?_
  simp only [List.take_succ_cons, List.take_zero, List.drop_succ_cons, List.drop_zero, List.cons_append, List.nil_append]
  repeat (go_big_quiet_step (first | (go_at_call 118; exact calm_call (hpl _ (H.out.below (below_above _ _)))) | (go_at_call 117; exact calm_same (hwd _ (H.out.below (below_above _ _))))))
  refine wpQuiet_nil ?_
  refine ⟨by rfl, 115, #[.int .u32 0, .int .i64 4], fun w5 h5 => by go_simp, fun w5 h5 => ?_⟩
  obtain ⟨g5, rfl⟩ := h5
  refine (found32_no _ _ (by decide) _).mono ?_
  rintro e w7 ⟨rfl, rfl⟩
  exact ⟨_, rfl, rfl, rfl, HB.out.trans ((below_above w1 g5).mono HB.out.size)⟩

set_option maxHeartbeats 2000000 in
theorem loadB_no {w : World} {G : Kp} {cv : Value} {c : Cr} (h : CM w G cv c) (o z : Int) {a b : Nat} (ha : a < 8) (hb : b < 8) (hz : 0 ≤ z ∧ z ≤ 255) {k : Nat} (hk : plc c b z = k) (hat : c.zs.length ≤ k) :
    Calls Tryz.prog 82 #[.pointer (some ⟨G.p, 0, none⟩), .agg #[.int .u8 o, .int .u8 (a : Nat), .int .u8 (b : Nat), .int .u8 z]] w fun e w' => e = .panicked [{ v := fltV, recovered := false }] ∧ Below w.heap.size w w' := by
  obtain ⟨w1, hw1, h1, b1, s1, x0, x1, x2, x3⟩ := h.boxed o (a : Nat) (b : Nat) z
  have ha' : (a : Int) < 8 := by omega
  have hb' : (b : Int) < 8 := by omega
  have pw := h1.plt
  have S1 : Hid (w1.heap.size = w.heap.size + 1) := s1
  have c9 := h1.c9
  have hpl : ∀ W, CM W G cv c → Calls Tryz.prog 118 #[.pointer (some ⟨G.p, 0, none⟩), .agg #[.int .u8 o, .int .u8 (a : Nat), .int .u8 (b : Nat), .int .u8 z]] W fun e w' => e = .returned (.int .u32 (k : Nat)) ∧ Below W.heap.size W w' := fun W hW => by rw [← hk]; exact place_any hW o a z hb hz
  have hk32 : (k : Int) ≤ 4294967295 := by rw [← hk]; unfold plc; omega
  have hwd : ∀ W, CM W G cv c → Calls Tryz.prog 122 #[.pointer (some ⟨G.q, 0, none⟩), .int .u32 (k : Nat)] W fun e w' => e = .returned (.tuple #[.int .u8 0, .int .i64 4]) ∧ w' = W := fun W hW => Rn.byte_no hW.reg k ⟨by omega, hk32⟩ (by omega)
  have ra := h1.r a ha
  have fa := h1.fz a
  generalize c.rs.getD a 0 = va at *
  have H : Hid (CM w1 G cv c) := h1
  have HB : Hid (Below w.heap.size w w1) := b1
  clear h h1 b1 s1
  go_enter Tryz.func82, Tryz.ntmps82
  go_wp2
  clear hw1 hk hk32 hat
  have hlw : w.heap.size < w1.heap.size := by rw [S1.out]; omega
  have ca := @above_cell
  refine wp_region_dies' 13 1 2 _ (by kernel_rfl) rfl (by kernel_rfl) (by kernel_rfl) (by decide) (fun o v c a w h => bodyPost_back o.dst v c a w h) ?_
  simp only [List.take_succ_cons, List.take_zero, List.drop_succ_cons, List.drop_zero, List.cons_append, List.nil_append]
  repeat (go_big_quiet_step (first | (go_at_call 118; exact calm_call (hpl _ (H.out.below (below_above _ _)))) | (go_at_call 122; exact calm_same (hwd _ (H.out.below (below_above _ _))))))
  refine wpQuiet_nil ?_
  refine ⟨by rfl, 121, #[.int .u8 0, .int .i64 4], fun w5 h5 => by go_simp, fun w5 h5 => ?_⟩
  obtain ⟨g5, rfl⟩ := h5
  refine (found8_no _ _ (by decide) _).mono ?_
  rintro e w7 ⟨rfl, rfl⟩
  exact ⟨_, rfl, rfl, rfl, HB.out.trans ((below_above w1 g5).mono HB.out.size)⟩

set_option maxHeartbeats 1000000 in
theorem further_no {w : World} {G : Kp} {cv : Value} {c : Cr} (h : CM w G cv c) (o z : Int) (ho : 15 ≤ o ∧ o ≤ 18) {a b : Nat} (ha : a < 8) (hb : b < 8) (hz : 0 ≤ z ∧ z ≤ 255) (hh : Un.hov o (c.rs.getD a 0) (c.rs.getD b 0) = false) :
    Calls Tryz.prog 84 #[.pointer (some ⟨G.p, 0, none⟩), .agg #[.int .u8 o, .int .u8 (a : Nat), .int .u8 (b : Nat), .int .u8 z]] w fun e w' => e = .returned (.int .i64 (c.pc + 1)) ∧ Below w.heap.size w w' := by
  obtain ⟨w1, hw1, h1, b1, s1, x0, x1, x2, x3⟩ := h.boxed o (a : Nat) (b : Nat) z
  have ha' : (a : Int) < 8 := by omega
  have hb' : (b : Int) < 8 := by omega
  have pw := h1.plt
  have S1 : Hid (w1.heap.size = w.heap.size + 1) := s1
  have ra := h1.r a ha
  have na : Un.num (c.rs.getD a 0) := h1.rnum a
  generalize hva : c.rs.getD a 0 = va at *
  have rb := h1.r b hb
  have nb : Un.num (c.rs.getD b 0) := h1.rnum b
  generalize hvb : c.rs.getD b 0 = vb at *
  have hho : ∀ W, Calls Tryz.prog 125 #[.int .u8 o, .int .u32 va, .int .u32 vb] W fun e w' => e = .returned (.tuple #[.bool (Un.hov o va vb), .int .i64 0]) ∧ Below W.heap.size W w' := fun W => by have := Un.Holds_any o va vb na nb W; rwa [show Un.hoe o = 0 from if_pos ho] at this
  rw [hh] at hho
  have hpc := h1.pc
  have hnx : ∀ W, CM W G cv c → Calls Tryz.prog 92 #[.pointer (some ⟨G.p, 0, none⟩)] W fun e w' => e = .returned (.int .i64 (c.pc + 1)) ∧ w' = W := fun W hW => next_any hW
  have hsx := sx_wrap z hz
  have hsb := sx_bound z hz
  clear na nb ho hh hva hvb
  generalize c.pc = pc at *
  generalize sx z = s at *
  have H : Hid (CM w1 G cv c) := h1
  have HB : Hid (Below w.heap.size w w1) := b1
  clear h h1 b1 s1
  go_enter Tryz.func84, Tryz.ntmps84
  go_wp2
  clear hw1
  have ca := @above_cell
  have hlw : w.heap.size < w1.heap.size := by rw [S1.out]; omega
  refine wp_region_calm (by kernel_rfl) (by kernel_rfl) ?_
  repeat (go_big_quiet_step (first | (go_at_call 125; exact calm_call (hho _)) | (go_at_call 124; exact calm_same (foundB_ok _ _))))
  refine wpQuiet_nil ?_
  intro w2 b2
  have H2 : Hid (CM w2 G cv c) := H.out.below b2
  have HB2 : Hid (Below w.heap.size w w2) := HB.out.trans (b2.mono HB.out.size)
  have y3 := ((bcell b2).1 _ 3 hlw).trans x3
  have hl2 : w.heap.size < w2.heap.size := Nat.lt_of_lt_of_le hlw b2.size
  clear ca b2 hho x0 x1 x2 x3 pw ra rb
  go_wp2_with (go_at_call 92; refine (hnx _ H2.out).mono ?_; rintro e w3 ⟨rfl, rfl⟩)
  go_ret
  exact ⟨rfl, HB2.out⟩

set_option maxHeartbeats 1000000 in
theorem further_yes {w : World} {G : Kp} {cv : Value} {c : Cr} (h : CM w G cv c) (o z : Int) (ho : 15 ≤ o ∧ o ≤ 18) {a b : Nat} (ha : a < 8) (hb : b < 8) (hz : 0 ≤ z ∧ z ≤ 255) (hh : Un.hov o (c.rs.getD a 0) (c.rs.getD b 0) = true) :
    Calls Tryz.prog 84 #[.pointer (some ⟨G.p, 0, none⟩), .agg #[.int .u8 o, .int .u8 (a : Nat), .int .u8 (b : Nat), .int .u8 z]] w fun e w' => e = .returned (.int .i64 (c.pc + 1 + sx z)) ∧ Below w.heap.size w w' := by
  obtain ⟨w1, hw1, h1, b1, s1, x0, x1, x2, x3⟩ := h.boxed o (a : Nat) (b : Nat) z
  have ha' : (a : Int) < 8 := by omega
  have hb' : (b : Int) < 8 := by omega
  have pw := h1.plt
  have S1 : Hid (w1.heap.size = w.heap.size + 1) := s1
  have ra := h1.r a ha
  have na : Un.num (c.rs.getD a 0) := h1.rnum a
  generalize hva : c.rs.getD a 0 = va at *
  have rb := h1.r b hb
  have nb : Un.num (c.rs.getD b 0) := h1.rnum b
  generalize hvb : c.rs.getD b 0 = vb at *
  have hho : ∀ W, Calls Tryz.prog 125 #[.int .u8 o, .int .u32 va, .int .u32 vb] W fun e w' => e = .returned (.tuple #[.bool (Un.hov o va vb), .int .i64 0]) ∧ Below W.heap.size W w' := fun W => by have := Un.Holds_any o va vb na nb W; rwa [show Un.hoe o = 0 from if_pos ho] at this
  rw [hh] at hho
  have hpc := h1.pc
  have hnx : ∀ W, CM W G cv c → Calls Tryz.prog 92 #[.pointer (some ⟨G.p, 0, none⟩)] W fun e w' => e = .returned (.int .i64 (c.pc + 1)) ∧ w' = W := fun W hW => next_any hW
  have hsx := sx_wrap z hz
  have hsb := sx_bound z hz
  clear na nb ho hh hva hvb
  generalize c.pc = pc at *
  generalize sx z = s at *
  have H : Hid (CM w1 G cv c) := h1
  have HB : Hid (Below w.heap.size w w1) := b1
  clear h h1 b1 s1
  go_enter Tryz.func84, Tryz.ntmps84
  go_wp2
  clear hw1
  have ca := @above_cell
  have hlw : w.heap.size < w1.heap.size := by rw [S1.out]; omega
  refine wp_region_calm (by kernel_rfl) (by kernel_rfl) ?_
  repeat (go_big_quiet_step (first | (go_at_call 125; exact calm_call (hho _)) | (go_at_call 124; exact calm_same (foundB_ok _ _))))
  refine wpQuiet_nil ?_
  intro w2 b2
  have H2 : Hid (CM w2 G cv c) := H.out.below b2
  have HB2 : Hid (Below w.heap.size w w2) := HB.out.trans (b2.mono HB.out.size)
  have y3 := ((bcell b2).1 _ 3 hlw).trans x3
  have hl2 : w.heap.size < w2.heap.size := Nat.lt_of_lt_of_le hlw b2.size
  clear ca b2 hho x0 x1 x2 x3 pw ra rb
  go_wp2
  go_region_held3 (fun w' => w'.cell? ⟨w.heap.size, 3, none⟩ = some (.int .u8 z)) (go_keep) (first
    | (go_at_call 92; refine (hnx _ H2.out.drew).mono ?_; rintro e w3 ⟨rfl, rfl⟩))
  go_wp2
  go_ret
  exact ⟨Un.ret_int (by rw [w64 (n := s) (by omega), w64 (by omega)]), HB2.out.drew⟩

set_option maxHeartbeats 1000000 in
theorem elsewhere_any {w : World} {G : Kp} {cv : Value} {c : Cr} (h : CM w G cv c) (o x y z : Int) (hx : 0 ≤ x ∧ x ≤ 255) (hy : 0 ≤ y ∧ y ≤ 255) :
    Calls Tryz.prog 85 #[.pointer (some ⟨G.p, 0, none⟩), .agg #[.int .u8 o, .int .u8 x, .int .u8 y, .int .u8 z]] w fun e w' => e = .returned (.int .i64 (x * 256 + y)) ∧ Below w.heap.size w w' := by
  obtain ⟨w1, hw1, h1, b1, s1, x0, x1, x2, x3⟩ := h.boxed o x y z
  have pw := h1.plt
  have S1 : Hid (w1.heap.size = w.heap.size + 1) := s1
  have hc := wide_any x y hx hy
  have H : Hid (CM w1 G cv c) := h1
  have HB : Hid (Below w.heap.size w w1) := b1
  clear h h1 b1 s1
  go_enter Tryz.func85, Tryz.ntmps85
  go_wp2_with (go_at_call 114; refine (hc _).mono ?_; rintro e w3 ⟨rfl, rfl⟩)
  go_ret
  exact ⟨rfl, HB.out⟩

/-- what an ask asks -/
def askV (wh h v m wt : Int) : Value := .agg #[.int .u8 wh, .int .u32 h, .int .u32 v, .int .u32 m, .int .i64 wt]
theorem res_ask {w : World} {p : Nat} {cs : Array Value} {x0 x1 x2 x3 x4 : Value} (h : w.heap[p]? = some (.cells #[x0, x1, x2, x3, x4] 41 (0, 0))) (a : Array Value) (r : Tmp) (hr : a.getD r undef = .pointer (some ⟨p, 0, none⟩)) : True := trivial

set_option maxHeartbeats 1000000 in
theorem end_any {w : World} {G : Kp} {cv : Value} {c : Cr} (h : CM w G cv c) (o x y z : Int) :
    Calls Tryz.prog 88 #[.pointer (some ⟨G.p, 0, none⟩), .agg #[.int .u8 o, .int .u8 x, .int .u8 y, .int .u8 z]] w fun e w' => e = .returned (askV 20 0 0 0 0) ∧ Below w.heap.size w w' := by
  obtain ⟨w1, hw1, h1, b1, s1, x0, x1, x2, x3⟩ := h.boxed o x y z
  have pw := h1.plt
  have S1 : Hid (w1.heap.size = w.heap.size + 1) := s1

  have H : Hid (CM w1 G cv c) := h1
  have HB : Hid (Below w.heap.size w w1) := b1
  clear h h1 b1 s1
  go_enter Tryz.func88, Tryz.ntmps88
  go_wp2
  clear hw1
  refine bodyPost_ret (results_cell_row (g := w1.heap.size) rfl _ _ _ _ _ (d := _) rfl (alloc_at w1 _) Tryz.underlying41 rfl (by kernel_rfl)) rfl ?_
  exact ⟨rfl, HB.out.trans ((alloc_below w1 _).mono HB.out.size)⟩

end Go.Proofs.YtomccgodfimaiaaGreatDoor
