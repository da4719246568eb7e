/- What turns a core's registers, region, console, and where it goes: each function by its contract. -/
import Derived.Test.YtomccgodfimaiaaGreatDoorCFn
import Derived.Test.YtomccgodfimaiaaGreatDoorRegs
namespace Go.Proofs.YtomccgodfimaiaaGreatDoor
set_option linter.all false
open Go Go.RowKit
set_option maxRecDepth 100000
set_option linter.unusedVariables false
theorem box_c (w : World) (o a b c : Int) : (w.alloc (.cells #[.int .u8 o, .int .u8 a, .int .u8 b, .int .u8 c] 70)).cell? ⟨w.heap.size, 0, none⟩ = some (.int .u8 o) ∧ (w.alloc (.cells #[.int .u8 o, .int .u8 a, .int .u8 b, .int .u8 c] 70)).cell? ⟨w.heap.size, 1, none⟩ = some (.int .u8 a) ∧ (w.alloc (.cells #[.int .u8 o, .int .u8 a, .int .u8 b, .int .u8 c] 70)).cell? ⟨w.heap.size, 2, none⟩ = some (.int .u8 b) ∧ (w.alloc (.cells #[.int .u8 o, .int .u8 a, .int .u8 b, .int .u8 c] 70)).cell? ⟨w.heap.size, 3, none⟩ = some (.int .u8 c) := by
  refine ⟨?_, ?_, ?_, ?_⟩ <;> simp [go_sem]
/-- a core, and an instruction's box beside it -/
theorem CM.boxed {w : World} {G : Kp} {cv : Value} {c : Cr} (h : CM w G cv c) (o x y z : Int) : ∃ w1, w.alloc (.cells #[.int .u8 o, .int .u8 x, .int .u8 y, .int .u8 z] 70) = w1 ∧ CM w1 G cv c ∧ Below w.heap.size w w1 ∧ w1.heap.size = w.heap.size + 1 ∧ w1.cell? ⟨w.heap.size, 0, none⟩ = some (.int .u8 o) ∧ w1.cell? ⟨w.heap.size, 1, none⟩ = some (.int .u8 x) ∧ w1.cell? ⟨w.heap.size, 2, none⟩ = some (.int .u8 y) ∧ w1.cell? ⟨w.heap.size, 3, none⟩ = some (.int .u8 z) := by
  obtain ⟨x0, x1, x2, x3⟩ := box_c w o x y z
  exact ⟨_, rfl, h.one _, alloc_below w _, alloc_size w _, x0, x1, x2, x3⟩
theorem Buts.drop {w w1 w2 : World} {l : List Nat} (h : Below w.heap.size w w1) (k : Buts l w1 w2) : Buts l w w2 := (Buts.of h).trans k
theorem wv_num {zs : List Int} {k : Nat} (h : Rn.isB zs) (hat : k + 4 ≤ zs.length) : Un.num (Rn.wv ((zs.drop k).take 4)) := by
  rw [Rn.four_of hat]
  have h0 := Rn.isB_at h k
  have h1 := Rn.isB_at h (k + 1)
  have h2 := Rn.isB_at h (k + 2)
  have h3 := Rn.isB_at h (k + 3)
  simp only [Rn.wv, List.foldl]
  constructor <;> omega

set_option maxHeartbeats 1000000 in
theorem move_any {w : World} {G : Kp} {cv : Value} {c : Cr} (h : CM w G cv c) (o z : Int) {a b : Nat} (ha : a < 8) (hb : b < 8) :
    Calls Tryz.prog 78 #[.pointer (some ⟨G.p, 0, none⟩), .agg #[.int .u8 o, .int .u8 (a : Nat), .int .u8 (b : Nat), .int .u8 z]] w fun e w' => e = .returned (.tuple #[]) ∧ CM w' G cv { c with rs := c.rs.set a (c.rs.getD b 0) } ∧ Buts [G.p] w w' := by
  obtain ⟨w1, hw1, h1, b1, s1, x0, x1, x2, x3⟩ := h.boxed o (a : Nat) (b : Nat) z
  have ha' : (a : Int) < 8 := by omega
  have hb' : (b : Int) < 8 := by omega
  have rb := h1.r b hb
  have nb : Hid (Un.num (c.rs.getD b 0)) := h1.rnum b
  generalize hvb : c.rs.getD b 0 = vb at *
  have ra := h1.r a ha
  have fa := h1.fz a
  generalize c.rs.getD a 0 = va at *
  clear hvb
  have H : Hid (CM w1 G cv c) := h1
  have HB : Hid (Below w.heap.size w w1) := b1
  clear h h1 b1 s1
  go_enter Tryz.func78, Tryz.ntmps78
  go_wp2
  clear hw1
  go_region
  go_end0
  exact ⟨rfl, (H.out.setR a ha nb.out).drew, Buts.drop HB.out (Buts.cell _ _ _ _).drew⟩

set_option maxHeartbeats 1000000 in
theorem set_any {w : World} {G : Kp} {cv : Value} {c : Cr} (h : CM w G cv c) (o y z : Int) {a : Nat} (ha : a < 8) (hy : 0 ≤ y ∧ y ≤ 255) (hz : 0 ≤ z ∧ z ≤ 255) :
    Calls Tryz.prog 77 #[.pointer (some ⟨G.p, 0, none⟩), .agg #[.int .u8 o, .int .u8 (a : Nat), .int .u8 y, .int .u8 z]] w fun e w' => e = .returned (.tuple #[]) ∧ CM w' G cv { c with rs := c.rs.set a (y * 256 + z) } ∧ Buts [G.p] w w' := by
  obtain ⟨w1, hw1, h1, b1, s1, x0, x1, x2, x3⟩ := h.boxed o (a : Nat) y z
  have ha' : (a : Int) < 8 := by omega
  have pw := h1.plt
  have S1 : Hid (w1.heap.size = w.heap.size + 1) := s1
  have hc := wide_any y z hy hz
  have HN : Hid (Un.num (y * 256 + z)) := (show Un.num (y * 256 + z) from ⟨by omega, by omega⟩)
  have hwr : IntKind.u32.wrap (y * 256 + z) = y * 256 + z := by rw [IntKind.wrap_u32]; omega
  generalize y * 256 + z = v at *
  have H : Hid (CM w1 G cv c) := h1
  have HB : Hid (Below w.heap.size w w1) := b1
  clear h h1 b1 s1
  go_enter Tryz.func77, Tryz.ntmps77
  go_wp2
  clear hw1
  have ca := @above_cell
  have hlw : w.heap.size < w1.heap.size := by rw [S1.out]; omega
  refine Lx.wp_calm_then 12 1 (by kernel_rfl) rfl (by kernel_rfl) ?_
  simp only [List.take_succ_cons, List.take_zero, List.drop_succ_cons, List.drop_zero]
  repeat (go_big_quiet_step (first | (go_at_call 114; exact calm_same (hc _))))
  refine wpQuiet_nil ?_
  intro w2 b2
  have H2 : Hid (CM w2 G cv c) := H.out.below b2
  have HB2 : Hid (Below w.heap.size w w2) := HB.out.trans (b2.mono HB.out.size)
  have ra := H2.out.r a ha
  have fa := H2.out.fz a
  clear x0 x1 x2 x3 pw
  clear ca b2
  go_wp2
  go_end0
  exact ⟨rfl, H2.out.setR a ha HN.out, (Buts.of HB2.out).trans (Buts.cell _ _ _ _)⟩

theorem dov_num (o : Int) {a b : Int} (ha : Un.num a) (hb : Un.num b) : Un.num (Un.dov o a b) := by
  unfold Un.dov
  split
  · exact Un.addv_num a b
  split
  · exact Un.subv_num a b
  split
  · exact Un.mulv_num a b
  split
  · exact Un.andv_num a b ha hb
  split
  · exact Un.orv_num a b ha hb
  split
  · exact Un.xorv_num a b ha hb
  split
  · exact Un.leftv_num a b
  split
  · exact Un.rightv_num a b ha
  · exact ⟨by decide, by decide⟩

set_option maxHeartbeats 1000000 in
theorem reckon_any {w : World} {G : Kp} {cv : Value} {c : Cr} (h : CM w G cv c) (o : Int) (ho : 3 ≤ o ∧ o ≤ 10) {a b d : Nat} (ha : a < 8) (hb : b < 8) (hd : d < 8) :
    Calls Tryz.prog 79 #[.pointer (some ⟨G.p, 0, none⟩), .agg #[.int .u8 o, .int .u8 (a : Nat), .int .u8 (b : Nat), .int .u8 (d : Nat)]] w fun e w' => e = .returned (.tuple #[]) ∧ CM w' G cv { c with rs := c.rs.set a (Un.dov o (c.rs.getD b 0) (c.rs.getD d 0)) } ∧ Buts [G.p] w w' := by
  obtain ⟨w1, hw1, h1, b1, s1, x0, x1, x2, x3⟩ := h.boxed o (a : Nat) (b : Nat) (d : Nat)
  have ha' : (a : Int) < 8 := by omega
  have hb' : (b : Int) < 8 := by omega
  have hd' : (d : Int) < 8 := by omega
  have pw := h1.plt
  have S1 : Hid (w1.heap.size = w.heap.size + 1) := s1
  have rb := h1.r b hb
  have nb : Un.num (c.rs.getD b 0) := h1.rnum b
  generalize hvb : c.rs.getD b 0 = vb at *
  have rd := h1.r d hd
  have nd : Un.num (c.rs.getD d 0) := h1.rnum d
  generalize hvd : c.rs.getD d 0 = vd at *
  have hdo : ∀ W, Calls Tryz.prog 116 #[.int .u8 o, .int .u32 vb, .int .u32 vd] W fun e w' => e = .returned (.tuple #[.int .u32 (Un.dov o vb vd), .int .i64 0]) ∧ Below W.heap.size W w' := fun W => by have := Un.Do_any o vb vd nd W; rwa [show Un.doe o = 0 from if_pos ho] at this
  have HN : Hid (Un.num (Un.dov o vb vd)) := dov_num o nb nd
  generalize Un.dov o vb vd = v at *
  clear nb nd ho
  have H : Hid (CM w1 G cv c) := h1
  have HB : Hid (Below w.heap.size w w1) := b1
  clear h h1 b1 s1
  go_enter Tryz.func79, Tryz.ntmps79
  go_wp2
  clear hw1
  have ca := @above_cell
  have hlw : w.heap.size < w1.heap.size := by rw [S1.out]; omega
  refine Lx.wp_calm_then 26 1 (by kernel_rfl) rfl (by kernel_rfl) ?_
  simp only [List.take_succ_cons, List.take_zero, List.drop_succ_cons, List.drop_zero]
  repeat (go_big_quiet_step (first | (go_at_call 116; exact calm_call (hdo _)) | (go_at_call 115; exact calm_same (found32_ok _ _))))
  refine wpQuiet_nil ?_
  intro w2 b2
  have H2 : Hid (CM w2 G cv c) := H.out.below b2
  have HB2 : Hid (Below w.heap.size w w2) := HB.out.trans (b2.mono HB.out.size)
  clear rb rd hdo
  have ra := H2.out.r a ha
  have fa := H2.out.fz a
  clear x0 x1 x2 x3 pw
  clear ca b2
  go_wp2
  go_end0
  exact ⟨rfl, H2.out.setR a ha HN.out, (Buts.of HB2.out).trans (Buts.cell _ _ _ _)⟩

/-- where an instruction finds, or leaves, bytes -/
def plc (c : Cr) (b : Nat) (z : Int) : Int := (c.rs.getD b 0 + z) % 4294967296

set_option maxHeartbeats 1000000 in
theorem place_any {w : World} {G : Kp} {cv : Value} {c : Cr} (h : CM w G cv c) (o x z : Int) {b : Nat} (hb : b < 8) (hz : 0 ≤ z ∧ z ≤ 255) :
    Calls Tryz.prog 118 #[.pointer (some ⟨G.p, 0, none⟩), .agg #[.int .u8 o, .int .u8 x, .int .u8 (b : Nat), .int .u8 z]] w fun e w' => e = .returned (.int .u32 (plc c b z)) ∧ Below w.heap.size w w' := by
  obtain ⟨w1, hw1, h1, b1, s1, x0, x1, x2, x3⟩ := h.boxed o x (b : Nat) z
  have hb' : (b : Int) < 8 := by omega
  have pw := h1.plt
  have S1 : Hid (w1.heap.size = w.heap.size + 1) := s1
  unfold plc
  have rb := h1.r b hb
  have nb : Un.num (c.rs.getD b 0) := h1.rnum b
  generalize hvb : c.rs.getD b 0 = vb at *
  clear nb
  have H : Hid (CM w1 G cv c) := h1
  have HB : Hid (Below w.heap.size w w1) := b1
  clear h h1 b1 s1
  go_enter Tryz.func118, Tryz.ntmps118
  go_wp2
  clear hw1
  go_quiet ((fail))
  go_wp2
  go_ret
  exact ⟨by go_num, HB.out.trans ((below_drewN w1 _).mono HB.out.size)⟩

set_option maxHeartbeats 1000000 in
theorem load_yes {w : World} {G : Kp} {cv : Value} {c : Cr} (h : CM w G cv c) (o z : Int) {a b : Nat} (ha : a < 8) (hb : b < 8) (hz : 0 ≤ z ∧ z ≤ 255) {k : Nat} (hk : plc c b z = k) (hat : k + 4 ≤ c.zs.length) :
    Calls Tryz.prog 80 #[.pointer (some ⟨G.p, 0, none⟩), .agg #[.int .u8 o, .int .u8 (a : Nat), .int .u8 (b : Nat), .int .u8 z]] w fun e w' => e = .returned (.tuple #[]) ∧ CM w' G cv { c with rs := c.rs.set a (Rn.wv ((c.zs.drop k).take 4)) } ∧ Buts [G.p] w w' := by
  obtain ⟨w1, hw1, h1, b1, s1, x0, x1, x2, x3⟩ := h.boxed o (a : Nat) (b : Nat) z
  have ha' : (a : Int) < 8 := by omega
  have hb' : (b : Int) < 8 := by omega
  have pw := h1.plt
  have S1 : Hid (w1.heap.size = w.heap.size + 1) := s1
  have c9 := h1.c9
  have hpl : ∀ W, CM W G cv c → Calls Tryz.prog 118 #[.pointer (some ⟨G.p, 0, none⟩), .agg #[.int .u8 o, .int .u8 (a : Nat), .int .u8 (b : Nat), .int .u8 z]] W fun e w' => e = .returned (.int .u32 (k : Nat)) ∧ Below W.heap.size W w' := fun W hW => by rw [← hk]; exact place_any hW o a z hb hz
  have hwd : ∀ W, CM W G cv c → Calls Tryz.prog 117 #[.pointer (some ⟨G.q, 0, none⟩), .int .u32 (k : Nat)] W fun e w' => e = .returned (.tuple #[.int .u32 (Rn.wv ((c.zs.drop k).take 4)), .int .i64 0]) ∧ w' = W := fun W hW => Rn.word_yes hW.reg k hat
  have HN : Hid (Un.num (Rn.wv ((c.zs.drop k).take 4))) := wv_num h1.reg.wf hat
  generalize Rn.wv ((c.zs.drop k).take 4) = v at *
  have H : Hid (CM w1 G cv c) := h1
  have HB : Hid (Below w.heap.size w w1) := b1
  clear h h1 b1 s1
  go_enter Tryz.func80, Tryz.ntmps80
  go_wp2
  clear hw1
  have ca := @above_cell
  have hlw : w.heap.size < w1.heap.size := by rw [S1.out]; omega
  refine Lx.wp_calm_then 17 1 (by kernel_rfl) rfl (by kernel_rfl) ?_
  simp only [List.take_succ_cons, List.take_zero, List.drop_succ_cons, List.drop_zero]
  repeat (go_big_quiet_step (first | (go_at_call 118; exact calm_call (hpl _ (H.out.below (below_above _ _)))) | (go_at_call 117; exact calm_same (hwd _ (H.out.below (below_above _ _)))) | (go_at_call 115; exact calm_same (found32_ok _ _))))
  refine wpQuiet_nil ?_
  intro w2 b2
  have H2 : Hid (CM w2 G cv c) := H.out.below b2
  have HB2 : Hid (Below w.heap.size w w2) := HB.out.trans (b2.mono HB.out.size)
  clear hpl hwd c9
  have ra := H2.out.r a ha
  have fa := H2.out.fz a
  clear x0 x1 x2 x3 pw
  clear ca b2
  go_wp2
  go_end0
  exact ⟨rfl, H2.out.setR a ha HN.out, (Buts.of HB2.out).trans (Buts.cell _ _ _ _)⟩

set_option maxHeartbeats 1000000 in
theorem loadB_yes {w : World} {G : Kp} {cv : Value} {c : Cr} (h : CM w G cv c) (o z : Int) {a b : Nat} (ha : a < 8) (hb : b < 8) (hz : 0 ≤ z ∧ z ≤ 255) {k : Nat} (hk : plc c b z = k) (hat : k < c.zs.length) :
    Calls Tryz.prog 82 #[.pointer (some ⟨G.p, 0, none⟩), .agg #[.int .u8 o, .int .u8 (a : Nat), .int .u8 (b : Nat), .int .u8 z]] w fun e w' => e = .returned (.tuple #[]) ∧ CM w' G cv { c with rs := c.rs.set a (c.zs.getD k 0) } ∧ Buts [G.p] w w' := by
  obtain ⟨w1, hw1, h1, b1, s1, x0, x1, x2, x3⟩ := h.boxed o (a : Nat) (b : Nat) z
  have ha' : (a : Int) < 8 := by omega
  have hb' : (b : Int) < 8 := by omega
  have pw := h1.plt
  have S1 : Hid (w1.heap.size = w.heap.size + 1) := s1
  have c9 := h1.c9
  have hpl : ∀ W, CM W G cv c → Calls Tryz.prog 118 #[.pointer (some ⟨G.p, 0, none⟩), .agg #[.int .u8 o, .int .u8 (a : Nat), .int .u8 (b : Nat), .int .u8 z]] W fun e w' => e = .returned (.int .u32 (k : Nat)) ∧ Below W.heap.size W w' := fun W hW => by rw [← hk]; exact place_any hW o a z hb hz
  have hwd : ∀ W, CM W G cv c → Calls Tryz.prog 122 #[.pointer (some ⟨G.q, 0, none⟩), .int .u32 (k : Nat)] W fun e w' => e = .returned (.tuple #[.int .u8 (c.zs.getD k 0), .int .i64 0]) ∧ w' = W := fun W hW => Rn.byte_yes hW.reg k hat
  have hbb := Rn.isB_at h1.reg.wf k
  have HN : Hid (Un.num (c.zs.getD k 0)) := (show Un.num (c.zs.getD k 0) from ⟨hbb.1, by have := hbb.2; omega⟩)
  have hwr : IntKind.u32.wrap (c.zs.getD k 0) = c.zs.getD k 0 := by rw [IntKind.wrap_u32]; omega
  generalize c.zs.getD k 0 = v at *
  clear hbb
  have H : Hid (CM w1 G cv c) := h1
  have HB : Hid (Below w.heap.size w w1) := b1
  clear h h1 b1 s1
  go_enter Tryz.func82, Tryz.ntmps82
  go_wp2
  clear hw1
  have ca := @above_cell
  have hlw : w.heap.size < w1.heap.size := by rw [S1.out]; omega
  refine Lx.wp_calm_then 18 1 (by kernel_rfl) rfl (by kernel_rfl) ?_
  simp only [List.take_succ_cons, List.take_zero, List.drop_succ_cons, List.drop_zero]
  repeat (go_big_quiet_step (first | (go_at_call 118; exact calm_call (hpl _ (H.out.below (below_above _ _)))) | (go_at_call 122; exact calm_same (hwd _ (H.out.below (below_above _ _)))) | (go_at_call 121; exact calm_same (found8_ok _ _))))
  refine wpQuiet_nil ?_
  intro w2 b2
  have H2 : Hid (CM w2 G cv c) := H.out.below b2
  have HB2 : Hid (Below w.heap.size w w2) := HB.out.trans (b2.mono HB.out.size)
  clear hpl hwd c9
  have ra := H2.out.r a ha
  have fa := H2.out.fz a
  clear x0 x1 x2 x3 pw
  clear ca b2
  go_wp2
  go_end0
  exact ⟨rfl, H2.out.setR a ha HN.out, (Buts.of HB2.out).trans (Buts.cell _ _ _ _)⟩

set_option maxHeartbeats 1000000 in
theorem store_yes {w : World} {G : Kp} {cv : Value} {c : Cr} (h : CM w G cv c) (o z : Int) {a b : Nat} (ha : a < 8) (hb : b < 8) (hz : 0 ≤ z ∧ z ≤ 255) {k : Nat} (hk : plc c b z = k) (hat : k + 4 ≤ c.zs.length) :
    Calls Tryz.prog 81 #[.pointer (some ⟨G.p, 0, none⟩), .agg #[.int .u8 o, .int .u8 (a : Nat), .int .u8 (b : Nat), .int .u8 z]] w fun e w' => e = .returned (.tuple #[]) ∧ CM w' G cv { c with zs := splice c.zs k (Rn.bs4 (c.rs.getD a 0)) } ∧ Buts [G.g] w w' := by
  obtain ⟨w1, hw1, h1, b1, s1, x0, x1, x2, x3⟩ := h.boxed o (a : Nat) (b : Nat) z
  have ha' : (a : Int) < 8 := by omega
  have hb' : (b : Int) < 8 := by omega
  have pw := h1.plt
  have S1 : Hid (w1.heap.size = w.heap.size + 1) := s1
  have c9 := h1.c9
  have hpl : ∀ W, CM W G cv c → Calls Tryz.prog 118 #[.pointer (some ⟨G.p, 0, none⟩), .agg #[.int .u8 o, .int .u8 (a : Nat), .int .u8 (b : Nat), .int .u8 z]] W fun e w' => e = .returned (.int .u32 (k : Nat)) ∧ Below W.heap.size W w' := fun W hW => by rw [← hk]; exact place_any hW o a z hb hz
  have ra := h1.r a ha
  have HN : Hid (Un.num (c.rs.getD a 0)) := h1.rnum a
  generalize hva : c.rs.getD a 0 = va at *
  have hwd : ∀ W, CM W G cv c → Calls Tryz.prog 120 #[.pointer (some ⟨G.q, 0, none⟩), .int .u32 (k : Nat), .int .u32 va] W fun e w' => e = .returned (.int .i64 0) ∧ Rn.Reg w' G.q G.g (splice c.zs k (Rn.bs4 va)) ∧ Rn.But G.g W w' := fun W hW => Rn.setWord_yes hW.reg k hat va HN.out
  have H : Hid (CM w1 G cv c) := h1
  have HB : Hid (Below w.heap.size w w1) := b1
  clear h h1 b1 s1
  go_enter Tryz.func81, Tryz.ntmps81
  go_wp2
  clear hw1
  have ca := @above_cell
  have hlw : w.heap.size < w1.heap.size := by rw [S1.out]; omega
  refine Lx.wp_calm_then 14 2 (by kernel_rfl) rfl (by kernel_rfl) ?_
  simp only [List.take_succ_cons, List.take_zero, List.drop_succ_cons, List.drop_zero]
  repeat (go_big_quiet_step (first | (go_at_call 118; exact calm_call (hpl _ (H.out.below (below_above _ _))))))
  refine wpQuiet_nil ?_
  intro w2 b2
  have H2 : Hid (CM w2 G cv c) := H.out.below b2
  have HB2 : Hid (Below w.heap.size w w2) := HB.out.trans (b2.mono HB.out.size)
  clear hpl c9 ra x0 x1 x2 x3 pw
  clear ca b2
  go_wp2_with (first
    | (go_at_call 120; refine (hwd _ H2.out).mono ?_; rintro e w3 ⟨rfl, hr3, hb3⟩; have R3 : Hid (Rn.Reg w3 G.q G.g (splice c.zs k (Rn.bs4 va))) := hr3; have B3 : Hid (Rn.But G.g w2 w3) := hb3; clear hr3 hb3)
    | (go_at_call 119; refine (must_ok _).mono ?_; rintro e w4 ⟨rfl, rfl⟩))
  go_end0
  exact ⟨rfl, H2.out.setReg R3.out B3.out, (Buts.of HB2.out).trans (Buts.of_but B3.out)⟩

set_option maxHeartbeats 1000000 in
theorem storeB_yes {w : World} {G : Kp} {cv : Value} {c : Cr} (h : CM w G cv c) (o z : Int) {a b : Nat} (ha : a < 8) (hb : b < 8) (hz : 0 ≤ z ∧ z ≤ 255) {k : Nat} (hk : plc c b z = k) (hat : k < c.zs.length) :
    Calls Tryz.prog 83 #[.pointer (some ⟨G.p, 0, none⟩), .agg #[.int .u8 o, .int .u8 (a : Nat), .int .u8 (b : Nat), .int .u8 z]] w fun e w' => e = .returned (.tuple #[]) ∧ CM w' G cv { c with zs := c.zs.set k (c.rs.getD a 0 % 256) } ∧ Buts [G.g] w w' := by
  obtain ⟨w1, hw1, h1, b1, s1, x0, x1, x2, x3⟩ := h.boxed o (a : Nat) (b : Nat) z
  have ha' : (a : Int) < 8 := by omega
  have hb' : (b : Int) < 8 := by omega
  have pw := h1.plt
  have S1 : Hid (w1.heap.size = w.heap.size + 1) := s1
  have c9 := h1.c9
  have hpl : ∀ W, CM W G cv c → Calls Tryz.prog 118 #[.pointer (some ⟨G.p, 0, none⟩), .agg #[.int .u8 o, .int .u8 (a : Nat), .int .u8 (b : Nat), .int .u8 z]] W fun e w' => e = .returned (.int .u32 (k : Nat)) ∧ Below W.heap.size W w' := fun W hW => by rw [← hk]; exact place_any hW o a z hb hz
  have ra := h1.r a ha
  have HN : Hid (Un.num (c.rs.getD a 0)) := h1.rnum a
  generalize hva : c.rs.getD a 0 = va at *
  have hwd : ∀ W, CM W G cv c → Calls Tryz.prog 123 #[.pointer (some ⟨G.q, 0, none⟩), .int .u32 (k : Nat), .int .u8 (va % 256)] W fun e w' => e = .returned (.int .i64 0) ∧ Rn.Reg w' G.q G.g (c.zs.set k (va % 256)) ∧ Rn.But G.g W w' := fun W hW => Rn.setByte_yes hW.reg k hat (va % 256) (by omega)
  have hwr : IntKind.u8.wrap va = va % 256 := by rw [IntKind.wrap_u8]
  have H : Hid (CM w1 G cv c) := h1
  have HB : Hid (Below w.heap.size w w1) := b1
  clear h h1 b1 s1
  go_enter Tryz.func83, Tryz.ntmps83
  go_wp2
  clear hw1
  have ca := @above_cell
  have hlw : w.heap.size < w1.heap.size := by rw [S1.out]; omega
  refine Lx.wp_calm_then 15 2 (by kernel_rfl) rfl (by kernel_rfl) ?_
  simp only [List.take_succ_cons, List.take_zero, List.drop_succ_cons, List.drop_zero]
  repeat (go_big_quiet_step (first | (go_at_call 118; exact calm_call (hpl _ (H.out.below (below_above _ _))))))
  refine wpQuiet_nil ?_
  intro w2 b2
  have H2 : Hid (CM w2 G cv c) := H.out.below b2
  have HB2 : Hid (Below w.heap.size w w2) := HB.out.trans (b2.mono HB.out.size)
  clear hpl c9 ra x0 x1 x2 x3 pw
  clear ca b2
  go_wp2_with (first
    | (go_at_call 123; refine (hwd _ H2.out).mono ?_; rintro e w3 ⟨rfl, hr3, hb3⟩; have R3 : Hid (Rn.Reg w3 G.q G.g (c.zs.set k (va % 256))) := hr3; have B3 : Hid (Rn.But G.g w2 w3) := hb3; clear hr3 hb3)
    | (go_at_call 119; refine (must_ok _).mono ?_; rintro e w4 ⟨rfl, rfl⟩))
  go_end0
  exact ⟨rfl, H2.out.setReg R3.out B3.out, (Buts.of HB2.out).trans (Buts.of_but B3.out)⟩

set_option maxHeartbeats 1000000 in
theorem store_no {w : World} {G : Kp} {cv : Value} {c : Cr} (h : CM w G cv c) (o z : Int) {a b : Nat} (ha : a < 8) (hb : b < 8) (hz : 0 ≤ z ∧ z ≤ 255) {k : Nat} (hk : plc c b z = k) (hat : c.zs.length < k + 4) :
    Calls Tryz.prog 81 #[.pointer (some ⟨G.p, 0, none⟩), .agg #[.int .u8 o, .int .u8 (a : Nat), .int .u8 (b : Nat), .int .u8 z]] w fun e w' => e = .panicked [{ v := fltV, recovered := false }] ∧ Below w.heap.size w w' := by
  obtain ⟨w1, hw1, h1, b1, s1, x0, x1, x2, x3⟩ := h.boxed o (a : Nat) (b : Nat) z
  have ha' : (a : Int) < 8 := by omega
  have hb' : (b : Int) < 8 := by omega
  have pw := h1.plt
  have S1 : Hid (w1.heap.size = w.heap.size + 1) := s1
  have c9 := h1.c9
  have hpl : ∀ W, CM W G cv c → Calls Tryz.prog 118 #[.pointer (some ⟨G.p, 0, none⟩), .agg #[.int .u8 o, .int .u8 (a : Nat), .int .u8 (b : Nat), .int .u8 z]] W fun e w' => e = .returned (.int .u32 (k : Nat)) ∧ Below W.heap.size W w' := fun W hW => by rw [← hk]; exact place_any hW o a z hb hz
  have ra := h1.r a ha
  have HN : Hid (Un.num (c.rs.getD a 0)) := h1.rnum a
  generalize hva : c.rs.getD a 0 = va at *
  have hk32 : (k : Int) ≤ 4294967295 := by rw [← hk]; unfold plc; omega
  have hwd : ∀ W, CM W G cv c → Calls Tryz.prog 120 #[.pointer (some ⟨G.q, 0, none⟩), .int .u32 (k : Nat), .int .u32 va] W fun e w' => e = .returned (.int .i64 4) ∧ w' = W := fun W hW => Rn.setWord_no hW.reg k ⟨by omega, hk32⟩ (by omega) va
  have H : Hid (CM w1 G cv c) := h1
  have HB : Hid (Below w.heap.size w w1) := b1
  clear h h1 b1 s1
  go_enter Tryz.func81, Tryz.ntmps81
  go_wp2
  clear hw1
  have ca := @above_cell
  have hlw : w.heap.size < w1.heap.size := by rw [S1.out]; omega
  refine Lx.wp_calm_then 14 2 (by kernel_rfl) rfl (by kernel_rfl) ?_
  simp only [List.take_succ_cons, List.take_zero, List.drop_succ_cons, List.drop_zero]
  repeat (go_big_quiet_step (first | (go_at_call 118; exact calm_call (hpl _ (H.out.below (below_above _ _))))))
  refine wpQuiet_nil ?_
  intro w2 b2
  have H2 : Hid (CM w2 G cv c) := H.out.below b2
  have HB2 : Hid (Below w.heap.size w w2) := HB.out.trans (b2.mono HB.out.size)
  clear hpl c9 ra x0 x1 x2 x3 pw
  clear ca b2
  go_wp2_with (first
    | (go_at_call 120; refine (hwd _ H2.out).mono ?_; rintro e w3 ⟨rfl, rfl⟩)
    | (go_at_call 119; refine (must_no _ (by decide) _).mono ?_; rintro e w4 ⟨rfl, rfl⟩))
  exact ⟨rfl, rfl, HB2.out⟩

set_option maxHeartbeats 1000000 in
theorem storeB_no {w : World} {G : Kp} {cv : Value} {c : Cr} (h : CM w G cv c) (o z : Int) {a b : Nat} (ha : a < 8) (hb : b < 8) (hz : 0 ≤ z ∧ z ≤ 255) {k : Nat} (hk : plc c b z = k) (hat : c.zs.length ≤ k) :
    Calls Tryz.prog 83 #[.pointer (some ⟨G.p, 0, none⟩), .agg #[.int .u8 o, .int .u8 (a : Nat), .int .u8 (b : Nat), .int .u8 z]] w fun e w' => e = .panicked [{ v := fltV, recovered := false }] ∧ Below w.heap.size w w' := by
  obtain ⟨w1, hw1, h1, b1, s1, x0, x1, x2, x3⟩ := h.boxed o (a : Nat) (b : Nat) z
  have ha' : (a : Int) < 8 := by omega
  have hb' : (b : Int) < 8 := by omega
  have pw := h1.plt
  have S1 : Hid (w1.heap.size = w.heap.size + 1) := s1
  have c9 := h1.c9
  have hpl : ∀ W, CM W G cv c → Calls Tryz.prog 118 #[.pointer (some ⟨G.p, 0, none⟩), .agg #[.int .u8 o, .int .u8 (a : Nat), .int .u8 (b : Nat), .int .u8 z]] W fun e w' => e = .returned (.int .u32 (k : Nat)) ∧ Below W.heap.size W w' := fun W hW => by rw [← hk]; exact place_any hW o a z hb hz
  have ra := h1.r a ha
  have HN : Hid (Un.num (c.rs.getD a 0)) := h1.rnum a
  generalize hva : c.rs.getD a 0 = va at *
  have hk32 : (k : Int) ≤ 4294967295 := by rw [← hk]; unfold plc; omega
  have hwd : ∀ W, CM W G cv c → Calls Tryz.prog 123 #[.pointer (some ⟨G.q, 0, none⟩), .int .u32 (k : Nat), .int .u8 (va % 256)] W fun e w' => e = .returned (.int .i64 4) ∧ w' = W := fun W hW => Rn.setByte_no hW.reg k ⟨by omega, hk32⟩ (by omega) (va % 256)
  have hwr : IntKind.u8.wrap va = va % 256 := by rw [IntKind.wrap_u8]
  have H : Hid (CM w1 G cv c) := h1
  have HB : Hid (Below w.heap.size w w1) := b1
  clear h h1 b1 s1
  go_enter Tryz.func83, Tryz.ntmps83
  go_wp2
  clear hw1
  have ca := @above_cell
  have hlw : w.heap.size < w1.heap.size := by rw [S1.out]; omega
  refine Lx.wp_calm_then 15 2 (by kernel_rfl) rfl (by kernel_rfl) ?_
  simp only [List.take_succ_cons, List.take_zero, List.drop_succ_cons, List.drop_zero]
  repeat (go_big_quiet_step (first | (go_at_call 118; exact calm_call (hpl _ (H.out.below (below_above _ _))))))
  refine wpQuiet_nil ?_
  intro w2 b2
  have H2 : Hid (CM w2 G cv c) := H.out.below b2
  have HB2 : Hid (Below w.heap.size w w2) := HB.out.trans (b2.mono HB.out.size)
  clear hpl c9 ra x0 x1 x2 x3 pw
  clear ca b2
  go_wp2_with (first
    | (go_at_call 123; refine (hwd _ H2.out).mono ?_; rintro e w3 ⟨rfl, rfl⟩)
    | (go_at_call 119; refine (must_no _ (by decide) _).mono ?_; rintro e w4 ⟨rfl, rfl⟩))
  exact ⟨rfl, rfl, HB2.out⟩

end Go.Proofs.YtomccgodfimaiaaGreatDoor
