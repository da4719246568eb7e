/- An instruction is done, by each function. -/
import Derived.Test.YtomccgodfimaiaaGreatDoorCDo2
namespace Go.Proofs.YtomccgodfimaiaaGreatDoor
open Go Go.RowKit
set_option maxRecDepth 100000
set_option linter.all false
theorem fnT_y (w : World) (n : Nat) : (binOp .neq 101 (.func (.func n) #[] #[]) .nilFunc).run Tryz.prog w = .ok (.bool true) w := by kernel_rfl
theorem fnT_n (w : World) : (binOp .neq 101 .nilFunc .nilFunc).run Tryz.prog w = .ok (.bool false) w := by kernel_rfl
theorem fnG_y (w : World) (n : Nat) : (binOp .neq 102 (.func (.func n) #[] #[]) .nilFunc).run Tryz.prog w = .ok (.bool true) w := by kernel_rfl
theorem fnG_n (w : World) : (binOp .neq 102 .nilFunc .nilFunc).run Tryz.prog w = .ok (.bool false) w := by kernel_rfl
theorem fnA_y (w : World) (n : Nat) : (binOp .neq 103 (.func (.func n) #[] #[]) .nilFunc).run Tryz.prog w = .ok (.bool true) w := by kernel_rfl
theorem fnA_n (w : World) : (binOp .neq 103 .nilFunc .nilFunc).run Tryz.prog w = .ok (.bool false) w := by kernel_rfl
/-- ahead of an instruction: the three variables, the core, what lies below -/
theorem do_start {w : World} {G : Kp} {cv : Value} {c : Cr} (h : CM w G cv c) : ∃ w3, ((w.alloc (.cells #[.bool false] 4)).alloc (.cells #[.int .u8 0, .int .u32 0, .int .u32 0, .int .u32 0, .int .i64 0] 41)).alloc (.cells #[.int .i64 0] 31) = w3 ∧ CM w3 G cv c ∧ Rv w3 w.heap.size false (.int .u8 0) (.int .u32 0) (.int .u32 0) (.int .u32 0) (.int .i64 0) 0 ∧ Below w.heap.size w w3 := by
  have b1 := alloc_below w (.cells #[.bool false] 4)
  have b2 := b1.trans ((alloc_below (w.alloc (.cells #[.bool false] 4)) (.cells #[.int .u8 0, .int .u32 0, .int .u32 0, .int .u32 0, .int .i64 0] 41)).mono b1.size)
  have b3 := b2.trans ((alloc_below _ (.cells #[.int .i64 0] 31)).mono b2.size)
  exact ⟨_, rfl, h.below b3, Rv.start w, b3⟩
/-- what is not a core's own stays -/
theorem keep_cell {w6 w7 : World} {l : List Nat} {x y : Nat} (hb : Buts l w6 w7) (hx : x ≤ y ∧ y < w6.heap.size) (hl : ∀ b, b ∈ l → b < x) (i : Nat) : w7.cell? ⟨y, i, none⟩ = w6.cell? ⟨y, i, none⟩ :=
  cell_block (hb.block _ hx.2 (fun hh => by have := hl _ hh; omega))
theorem lt_of_some {w : World} {p i : Nat} {v : Value} (h : w.cell? ⟨p, i, none⟩ = some v) : p < w.heap.size := cell_lt h
/-- behind the look into the map -/
theorem do_mid {w w4 w5 : World} {G : Kp} {cv : Value} {c : Cr} {x : Nat} {b : Bool} {a0 a1 a2 a3 a4 : Value} {n : Int} {o p q r : Int} {v : Array Value} (h : CM w5 G cv c) (hr : Rv w5 x b a0 a1 a2 a3 a4 n) (hb : Below x w w5) (hs : w5.heap.size = w4.heap.size + 1)
    (y0 : w5.cell? ⟨w4.heap.size, 0, none⟩ = some (.int .u8 o)) (y1 : w5.cell? ⟨w4.heap.size, 1, none⟩ = some (.int .u8 p)) (y2 : w5.cell? ⟨w4.heap.size, 2, none⟩ = some (.int .u8 q)) (y3 : w5.cell? ⟨w4.heap.size, 3, none⟩ = some (.int .u8 r)) :
    CM (w5.alloc (.cells v 105)).drew G cv c ∧ Rv (w5.alloc (.cells v 105)).drew x b a0 a1 a2 a3 a4 n ∧ Below x w (w5.alloc (.cells v 105)).drew ∧ (w5.alloc (.cells v 105)).drew.cell? ⟨w5.heap.size, 0, none⟩ = v[0]? ∧ (w5.alloc (.cells v 105)).drew.cell? ⟨w5.heap.size, 1, none⟩ = v[1]? ∧ (w5.alloc (.cells v 105)).drew.cell? ⟨w5.heap.size, 2, none⟩ = v[2]? ∧
    (w5.alloc (.cells v 105)).drew.cell? ⟨w4.heap.size, 0, none⟩ = some (.int .u8 o) ∧ (w5.alloc (.cells v 105)).drew.cell? ⟨w4.heap.size, 1, none⟩ = some (.int .u8 p) ∧ (w5.alloc (.cells v 105)).drew.cell? ⟨w4.heap.size, 2, none⟩ = some (.int .u8 q) ∧ (w5.alloc (.cells v 105)).drew.cell? ⟨w4.heap.size, 3, none⟩ = some (.int .u8 r) := by
  have ba : Below w5.heap.size w5 (w5.alloc (.cells v 105)).drew := (alloc_below w5 _).drew
  have hd : (w5.alloc (.cells v 105)).drew.heap[w5.heap.size]? = some (.cells v 105 (0, 0)) := alloc_at w5 _
  have hx := at_lt hr.x0
  have d := bcell ba
  exact ⟨h.below ba, hr.below ba, hb.trans (ba.mono (by omega)), cell_of hd, cell_of hd, cell_of hd, (d.1 _ _ (by omega)).trans y0, (d.1 _ _ (by omega)).trans y1, (d.1 _ _ (by omega)).trans y2, (d.1 _ _ (by omega)).trans y3⟩
theorem core_lt {w : World} {G : Kp} {cv : Value} {c : Cr} (h : CM w G cv c) : (∀ b, b ∈ ownL G cv → b < w.heap.size) ∧ G.q < w.heap.size ∧ G.g < w.heap.size ∧ G.mb < w.heap.size ∧ (∀ b, (Value.slice G.cp G.k G.kc).ownBlock = some b → b < w.heap.size) ∧ (∀ b, cv.ownBlock = some b → b < w.heap.size) := by
  refine ⟨fun b hb => ?_, at_lt h.reg.head, at_lt h.gt, ?_, fun b hb => ?_, fun b hb => (h.con.lt hb).1⟩
  · simp only [ownL, List.mem_cons, Option.mem_toList] at hb
    rcases hb with rfl | rfl | hb
    · exact h.plt
    · exact at_lt h.gt
    · exact (h.con.lt hb).1
  · obtain ⟨ck, h1⟩ := h.map
    exact at_lt h1
  · obtain ⟨cur, h1⟩ := h.coded hb
    exact at_lt h1
theorem Buts.high {l m : List Nat} {a b c : World} (h : Buts l a b) (k : Buts m b c) (hm : ∀ x ∈ m, a.heap.size ≤ x ∨ x ∈ l) : Buts l a c :=
  ⟨k.os.trans h.os, k.tape.trans h.tape, k.output.trans h.output, Nat.le_trans h.size k.size, fun i hi hg => (k.block i (Nat.lt_of_lt_of_le hi h.size) (fun e => by
    rcases hm i e with hh | hh
    · omega
    · exact hg hh)).trans (h.block i hi hg)⟩
/-- a core stays where three variables turn that lie above it -/
theorem CM.beside {w6 w8 w9 : World} {G : Kp} {cv cv7 : Value} {c : Cr} {x : Nat} (hb : Buts [x, x + 1, x + 1 + 1] w8 w9) (h : CM w8 G cv7 c) (hp : G.p < x) (hw : (∀ b, b ∈ ownL G cv → b < x) ∧ G.q < x ∧ G.g < x ∧ G.mb < x ∧ (∀ b, (Value.slice G.cp G.k G.kc).ownBlock = some b → b < x) ∧ (∀ b, cv.ownBlock = some b → b < x)) (hn : ∀ b, cv7.ownBlock = some b → cv.ownBlock = some b ∨ w6.heap.size ≤ b) (h6 : x + 1 + 1 < w6.heap.size) : CM w9 G cv7 c := by
  obtain ⟨_, a1, a2, a3, a4, a5⟩ := hw
  refine h.buts hb (by simp; omega) (by simp; omega) (by simp; omega) (by simp; omega) (fun b hb' => ?_) (fun b hb' => ?_)
  · have := a4 b hb'; simp; omega
  · rcases hn b hb' with e | e
    · have := a5 b e; simp; omega
    · simp; omega

end Go.Proofs.YtomccgodfimaiaaGreatDoor
