/- The calls of package cpu, each by its contract: a step, an answer, what a core has. -/
import Derived.Test.YtomccgodfimaiaaGreatDoorCStep
namespace Go.Proofs.YtomccgodfimaiaaGreatDoor
open Go Go.RowKit
set_option maxRecDepth 100000
set_option linter.all false
theorem step_results {w : World} {x : Nat} {a0 a1 a2 a3 a4 : Value} {b : Bool} {n : Int} (h : w.heap[x]? = some (.cells #[a0, a1, a2, a3, a4] 41 (0, 0))) (tmps : Array Value) (t2 : tmps.getD 2 undef = .bool b) (t3 : tmps.getD 3 undef = .pointer (some ⟨x, 0, none⟩)) (t4 : tmps.getD 4 undef = .int .i64 n) :
    (results Tryz.f13 tmps).run Tryz.prog w = .ok (.tuple #[.bool b, .agg #[a0, a1, a2, a3, a4], .int .i64 n]) w := by
  have d0 := cell_of (i := 0) h
  have d1 := cell_of (i := 1) h
  have d2 := cell_of (i := 2) h
  have d3 := cell_of (i := 3) h
  have d4 := cell_of (i := 4) h
  simp at t2 t3 t4 d0 d1 d2 d3 d4
  simp [results, Tryz.results13, asAddr, t2, t3, t4, d0, d1, d2, d3, d4, go_sem]
theorem set5 {w : World} {x : Nat} {a0 a1 a2 a3 a4 : Value} (h : w.heap[x]? = some (.cells #[a0, a1, a2, a3, a4] 41 (0, 0))) (v0 v1 v2 v3 v4 : Value) :
    (((((w.setCell ⟨x, 0, none⟩ v0).setCell ⟨x, 1, none⟩ v1).setCell ⟨x, 2, none⟩ v2).setCell ⟨x, 3, none⟩ v3).setCell ⟨x, 4, none⟩ v4).heap[x]? = some (.cells #[v0, v1, v2, v3, v4] 41 (0, 0)) ∧ Buts [x] w (((((w.setCell ⟨x, 0, none⟩ v0).setCell ⟨x, 1, none⟩ v1).setCell ⟨x, 2, none⟩ v2).setCell ⟨x, 3, none⟩ v3).setCell ⟨x, 4, none⟩ v4) :=
  ⟨by simpa using set_at (set_at (set_at (set_at (set_at h 0 v0) 1 v1) 2 v2) 3 v3) 4 v4, ((((Buts.cell w x 0 v0).trans (Buts.cell _ x 1 v1)).trans (Buts.cell _ x 2 v2)).trans (Buts.cell _ x 3 v3)).trans (Buts.cell _ x 4 v4)⟩
theorem CM.above1 {w8 w9 : World} {G : Kp} {cv cv7 : Value} {c : Cr} {x m : Nat} (hb : Buts [x] w8 w9) (h : CM w8 G cv7 c) (hp : G.p < x) (hw : (∀ b, b ∈ ownL G cv → b < x) ∧ G.q < x ∧ G.g < x ∧ G.mb < x ∧ (∀ b, (Value.slice G.cp G.k G.kc).ownBlock = some b → b < x) ∧ (∀ b, cv.ownBlock = some b → b < x)) (hn : ∀ b, cv7.ownBlock = some b → cv.ownBlock = some b ∨ m ≤ b) (h6 : x < m) : CM w9 G cv7 c := by
  obtain ⟨_, a1, a2, a3, a4, a5⟩ := hw
  refine h.buts hb (by simp; omega) (by simp; omega) (by simp; omega) (by simp; omega) (fun b hb' => ?_) (fun b hb' => ?_)
  · have := a4 b hb'; simp; omega
  · rcases hn b hb' with e | e
    · have := a5 b e; simp; omega
    · simp; omega

set_option maxHeartbeats 2000000 in
theorem step_none {w : World} {G : Kp} {cv : Value} {c : Cr} (h : CM w G cv c) (hq : c.asked = false) (hcl : c.con.length ≤ 256) (hs : stepC G.k c = none) :
    Calls Tryz.prog 13 #[.pointer (some ⟨G.p, 0, none⟩)] w fun e w' => e = .returned (.tuple #[.bool false, zAsk, .int .i64 15]) ∧ Below w.heap.size w w' := by
  have hT : ∀ W, CM W G cv c → Calls Tryz.prog 39 #[.pointer (some ⟨G.p, 0, none⟩)] W fun e w' => e = .returned (.bool true) ∧ w' = W := fun W hW => isThere_any hW
  have hD : ∀ W, CM W G cv c → Calls Tryz.prog 40 #[.pointer (some ⟨G.p, 0, none⟩)] W fun e w' => e = .returned (.tuple #[.bool false, .agg #[.int .u8 0, .int .u32 0, .int .u32 0, .int .u32 0, .int .i64 0], .int .i64 15]) ∧ Below W.heap.size W w' := fun W hW => by
    have := do_any hW hcl
    rw [hs] at this
    exact this
  have b1 := alloc_below w (.cells #[.int .u8 0, .int .u32 0, .int .u32 0, .int .u32 0, .int .i64 0] 41)
  have x1 := alloc_at w (.cells #[.int .u8 0, .int .u32 0, .int .u32 0, .int .u32 0, .int .i64 0] 41)
  have h1 := h.below b1
  have H1 : Hid (CM (w.alloc (.cells #[.int .u8 0, .int .u32 0, .int .u32 0, .int .u32 0, .int .i64 0] 41)) G cv c) := h1
  have c12 := h1.c12
  rw [hq] at c12
  have HX1 : Hid (_ = _) := x1
  have HB1 : Hid (Below w.heap.size w (w.alloc (.cells #[.int .u8 0, .int .u32 0, .int .u32 0, .int .u32 0, .int .i64 0] 41))) := b1
  have HPW : Hid (G.p < w.heap.size ∧ _) := ⟨h.plt, core_lt h⟩
  have HLT : Hid (w.heap.size < (w.alloc (.cells #[.int .u8 0, .int .u32 0, .int .u32 0, .int .u32 0, .int .i64 0] 41)).heap.size) := at_lt x1
  clear h h1 hs b1 x1 hq hcl
  go_enter Tryz.func13, Tryz.ntmps13
  go_wp2_with (first
    | (go_at_call 39; refine (hT _ H1.out).mono ?_; rintro e w2 ⟨rfl, rfl⟩)
    | (go_at_call 40; refine (hD _ H1.out).mono ?_; rintro e w4 ⟨rfl, hb4⟩; have HB4 : Hid (Below w.heap.size w w4) := HB1.out.trans (hb4.mono HB1.out.size); have HX4 : Hid (w4.heap[w.heap.size]? = some (.cells #[.int .u8 0, .int .u32 0, .int .u32 0, .int .u32 0, .int .i64 0] 41 (0, 0))) := (hb4.block _ HLT.out).trans HX1.out; clear hb4; have fz : ∀ i, w4.frozen? ⟨w.heap.size, i, none⟩ = false := (fun i => by simp [World.frozen?, HX4.out]); have z0 := cell_of (i := 0) HX4.out; have z1 := cell_of (i := 1) HX4.out; have z2 := cell_of (i := 2) HX4.out; have z3 := cell_of (i := 3) HX4.out; have z4 := cell_of (i := 4) HX4.out; have f0 := fz 0; have f1 := fz 1; have f2 := fz 2; have f3 := fz 3; have f4 := fz 4; simp at z0 z1 z2 z3 z4; clear fz))
  obtain ⟨r9, b9⟩ := set5 HX4.out (.int .u8 0) (.int .u32 0) (.int .u32 0) (.int .u32 0) (.int .i64 0)
  refine bodyPost_ret (step_results r9 _ rfl rfl rfl) rfl ?_
  exact ⟨rfl, HB4.out.trans (b9.below (fun q hq => by simp at hq; omega) HB4.out.size)⟩

set_option maxHeartbeats 2000000 in
theorem step_some {w : World} {G : Kp} {cv : Value} {c : Cr} (h : CM w G cv c) (hq : c.asked = false) (hcl : c.con.length ≤ 256) {c' : Cr} (hs : stepC G.k c = some (c', none)) :
    Calls Tryz.prog 13 #[.pointer (some ⟨G.p, 0, none⟩)] w fun e w' => e = .returned (.tuple #[.bool false, zAsk, .int .i64 0]) ∧ ∃ cv', CM w' G cv' c' ∧ Buts (ownL G cv) w w' ∧ ∀ b, cv'.ownBlock = some b → cv.ownBlock = some b ∨ w.heap.size ≤ b := by
  have hT : ∀ W, CM W G cv c → Calls Tryz.prog 39 #[.pointer (some ⟨G.p, 0, none⟩)] W fun e w' => e = .returned (.bool true) ∧ w' = W := fun W hW => isThere_any hW
  have hD : ∀ W, CM W G cv c → Calls Tryz.prog 40 #[.pointer (some ⟨G.p, 0, none⟩)] W fun e w' => e = .returned (.tuple #[.bool false, .agg #[.int .u8 0, .int .u32 0, .int .u32 0, .int .u32 0, .int .i64 0], .int .i64 0]) ∧ ∃ cv', CM w' G cv' c' ∧ Buts (ownL G cv) W w' ∧ ∀ b, cv'.ownBlock = some b → cv.ownBlock = some b ∨ W.heap.size ≤ b := fun W hW => by
    have := do_any hW hcl
    rw [hs] at this
    exact this
  have b1 := alloc_below w (.cells #[.int .u8 0, .int .u32 0, .int .u32 0, .int .u32 0, .int .i64 0] 41)
  have x1 := alloc_at w (.cells #[.int .u8 0, .int .u32 0, .int .u32 0, .int .u32 0, .int .i64 0] 41)
  have h1 := h.below b1
  have H1 : Hid (CM (w.alloc (.cells #[.int .u8 0, .int .u32 0, .int .u32 0, .int .u32 0, .int .i64 0] 41)) G cv c) := h1
  have c12 := h1.c12
  rw [hq] at c12
  have HX1 : Hid (_ = _) := x1
  have HB1 : Hid (Below w.heap.size w (w.alloc (.cells #[.int .u8 0, .int .u32 0, .int .u32 0, .int .u32 0, .int .i64 0] 41))) := b1
  have HPW : Hid (G.p < w.heap.size ∧ _) := ⟨h.plt, core_lt h⟩
  have HLT : Hid (w.heap.size < (w.alloc (.cells #[.int .u8 0, .int .u32 0, .int .u32 0, .int .u32 0, .int .i64 0] 41)).heap.size) := at_lt x1
  clear h h1 hs b1 x1 hq hcl
  go_enter Tryz.func13, Tryz.ntmps13
  go_wp2_with (first
    | (go_at_call 39; refine (hT _ H1.out).mono ?_; rintro e w2 ⟨rfl, rfl⟩)
    | (go_at_call 40; refine (hD _ H1.out).mono ?_; rintro e w4 ⟨rfl, cv4, h4, b4, n4⟩; have H4 : Hid (CM w4 G cv4 c') := h4; have HB4 : Hid (Buts (ownL G cv) (w.alloc (.cells #[.int .u8 0, .int .u32 0, .int .u32 0, .int .u32 0, .int .i64 0] 41)) w4) := b4; have HN4 : Hid (∀ b, cv4.ownBlock = some b → cv.ownBlock = some b ∨ (w.alloc (.cells #[.int .u8 0, .int .u32 0, .int .u32 0, .int .u32 0, .int .i64 0] 41)).heap.size ≤ b) := n4; have HX4 : Hid (w4.heap[w.heap.size]? = some (.cells #[.int .u8 0, .int .u32 0, .int .u32 0, .int .u32 0, .int .i64 0] 41 (0, 0))) := (b4.block _ HLT.out (fun hh => by have := HPW.out.2.1 _ hh; omega)).trans HX1.out; clear h4 b4 n4; have fz : ∀ i, w4.frozen? ⟨w.heap.size, i, none⟩ = false := (fun i => by simp [World.frozen?, HX4.out]); have z0 := cell_of (i := 0) HX4.out; have z1 := cell_of (i := 1) HX4.out; have z2 := cell_of (i := 2) HX4.out; have z3 := cell_of (i := 3) HX4.out; have z4 := cell_of (i := 4) HX4.out; have f0 := fz 0; have f1 := fz 1; have f2 := fz 2; have f3 := fz 3; have f4 := fz 4; simp at z0 z1 z2 z3 z4; clear fz))
  obtain ⟨r9, b9⟩ := set5 HX4.out (.int .u8 0) (.int .u32 0) (.int .u32 0) (.int .u32 0) (.int .i64 0)
  refine bodyPost_ret (step_results r9 _ rfl rfl rfl) rfl ?_
  refine ⟨rfl, cv4, CM.above1 b9 H4.out HPW.out.1 HPW.out.2 HN4.out HLT.out, ?_, fun b hb => ?_⟩
  · exact ((Buts.of HB1.out).trans HB4.out).high b9 (fun q hq => by simp at hq; omega)
  · rcases HN4.out b hb with e | e
    · exact Or.inl e
    · exact Or.inr (Nat.le_trans HB1.out.size e)

set_option maxHeartbeats 2000000 in
theorem step_asks {w : World} {G : Kp} {cv : Value} {c : Cr} (h : CM w G cv c) (hq : c.asked = false) (hcl : c.con.length ≤ 256) {c' : Cr} {v0 v1 v2 v3 v4 : Int} (hs : stepC G.k c = some (c', some (v0, v1, v2, v3, v4))) :
    Calls Tryz.prog 13 #[.pointer (some ⟨G.p, 0, none⟩)] w fun e w' => e = .returned (.tuple #[.bool true, .agg #[.int .u8 v0, .int .u32 v1, .int .u32 v2, .int .u32 v3, .int .i64 v4], .int .i64 0]) ∧ ∃ cv', CM w' G cv' c' ∧ Buts (ownL G cv) w w' ∧ ∀ b, cv'.ownBlock = some b → cv.ownBlock = some b ∨ w.heap.size ≤ b := by
  have hT : ∀ W, CM W G cv c → Calls Tryz.prog 39 #[.pointer (some ⟨G.p, 0, none⟩)] W fun e w' => e = .returned (.bool true) ∧ w' = W := fun W hW => isThere_any hW
  have hD : ∀ W, CM W G cv c → Calls Tryz.prog 40 #[.pointer (some ⟨G.p, 0, none⟩)] W fun e w' => e = .returned (.tuple #[.bool true, .agg #[.int .u8 v0, .int .u32 v1, .int .u32 v2, .int .u32 v3, .int .i64 v4], .int .i64 0]) ∧ ∃ cv', CM w' G cv' c' ∧ Buts (ownL G cv) W w' ∧ ∀ b, cv'.ownBlock = some b → cv.ownBlock = some b ∨ W.heap.size ≤ b := fun W hW => by
    have := do_any hW hcl
    rw [hs] at this
    exact this
  have b1 := alloc_below w (.cells #[.int .u8 0, .int .u32 0, .int .u32 0, .int .u32 0, .int .i64 0] 41)
  have x1 := alloc_at w (.cells #[.int .u8 0, .int .u32 0, .int .u32 0, .int .u32 0, .int .i64 0] 41)
  have h1 := h.below b1
  have H1 : Hid (CM (w.alloc (.cells #[.int .u8 0, .int .u32 0, .int .u32 0, .int .u32 0, .int .i64 0] 41)) G cv c) := h1
  have c12 := h1.c12
  rw [hq] at c12
  have HX1 : Hid (_ = _) := x1
  have HB1 : Hid (Below w.heap.size w (w.alloc (.cells #[.int .u8 0, .int .u32 0, .int .u32 0, .int .u32 0, .int .i64 0] 41))) := b1
  have HPW : Hid (G.p < w.heap.size ∧ _) := ⟨h.plt, core_lt h⟩
  have HLT : Hid (w.heap.size < (w.alloc (.cells #[.int .u8 0, .int .u32 0, .int .u32 0, .int .u32 0, .int .i64 0] 41)).heap.size) := at_lt x1
  clear h h1 hs b1 x1 hq hcl
  go_enter Tryz.func13, Tryz.ntmps13
  go_wp2_with (first
    | (go_at_call 39; refine (hT _ H1.out).mono ?_; rintro e w2 ⟨rfl, rfl⟩)
    | (go_at_call 40; refine (hD _ H1.out).mono ?_; rintro e w4 ⟨rfl, cv4, h4, b4, n4⟩; have H4 : Hid (CM w4 G cv4 c') := h4; have HB4 : Hid (Buts (ownL G cv) (w.alloc (.cells #[.int .u8 0, .int .u32 0, .int .u32 0, .int .u32 0, .int .i64 0] 41)) w4) := b4; have HN4 : Hid (∀ b, cv4.ownBlock = some b → cv.ownBlock = some b ∨ (w.alloc (.cells #[.int .u8 0, .int .u32 0, .int .u32 0, .int .u32 0, .int .i64 0] 41)).heap.size ≤ b) := n4; have HX4 : Hid (w4.heap[w.heap.size]? = some (.cells #[.int .u8 0, .int .u32 0, .int .u32 0, .int .u32 0, .int .i64 0] 41 (0, 0))) := (b4.block _ HLT.out (fun hh => by have := HPW.out.2.1 _ hh; omega)).trans HX1.out; clear h4 b4 n4; have fz : ∀ i, w4.frozen? ⟨w.heap.size, i, none⟩ = false := (fun i => by simp [World.frozen?, HX4.out]); have z0 := cell_of (i := 0) HX4.out; have z1 := cell_of (i := 1) HX4.out; have z2 := cell_of (i := 2) HX4.out; have z3 := cell_of (i := 3) HX4.out; have z4 := cell_of (i := 4) HX4.out; have f0 := fz 0; have f1 := fz 1; have f2 := fz 2; have f3 := fz 3; have f4 := fz 4; simp at z0 z1 z2 z3 z4; clear fz))
  obtain ⟨r9, b9⟩ := set5 HX4.out (.int .u8 v0) (.int .u32 v1) (.int .u32 v2) (.int .u32 v3) (.int .i64 v4)
  refine bodyPost_ret (step_results r9 _ rfl rfl rfl) rfl ?_
  refine ⟨rfl, cv4, CM.above1 b9 H4.out HPW.out.1 HPW.out.2 HN4.out HLT.out, ?_, fun b hb => ?_⟩
  · exact ((Buts.of HB1.out).trans HB4.out).high b9 (fun q hq => by simp at hq; omega)
  · rcases HN4.out b hb with e | e
    · exact Or.inl e
    · exact Or.inr (Nat.le_trans HB1.out.size e)

theorem Step_any {w : World} {G : Kp} {cv : Value} {c : Cr} (h : CM w G cv c) (hq : c.asked = false) (hcl : c.con.length ≤ 256) :
    Calls Tryz.prog 13 #[.pointer (some ⟨G.p, 0, none⟩)] w fun e w' => StepPost G cv w e w' (stepC G.k c) := by
  match hs : stepC G.k c with
  | none => exact step_none h hq hcl hs
  | some (c', none) => exact step_some h hq hcl hs
  | some (c', some (v0, v1, v2, v3, v4)) => exact step_asks h hq hcl hs
set_option maxHeartbeats 2000000 in
theorem Step_asked {w : World} {G : Kp} {cv : Value} {c : Cr} (h : CM w G cv c) (hq : c.asked = true) :
    Calls Tryz.prog 13 #[.pointer (some ⟨G.p, 0, none⟩)] w fun e w' => e = .returned (.tuple #[.bool false, zAsk, .int .i64 7]) ∧ Below w.heap.size w w' := by
  have hT : ∀ W, CM W G cv c → Calls Tryz.prog 39 #[.pointer (some ⟨G.p, 0, none⟩)] W fun e w' => e = .returned (.bool true) ∧ w' = W := fun W hW => isThere_any hW
  have b1 := alloc_below w (.cells #[.int .u8 0, .int .u32 0, .int .u32 0, .int .u32 0, .int .i64 0] 41)
  have h1 := h.below b1
  have H1 : Hid (CM (w.alloc (.cells #[.int .u8 0, .int .u32 0, .int .u32 0, .int .u32 0, .int .i64 0] 41)) G cv c) := h1
  have c12 := h1.c12
  rw [hq] at c12
  have HB1 : Hid (Below w.heap.size w (w.alloc (.cells #[.int .u8 0, .int .u32 0, .int .u32 0, .int .u32 0, .int .i64 0] 41))) := b1
  clear h h1 b1
  go_enter Tryz.func13, Tryz.ntmps13
  go_wp2_with (go_at_call 39; refine (hT _ H1.out).mono ?_; rintro e w2 ⟨rfl, rfl⟩)
  refine bodyPost_ret (step_results (alloc_at w _) _ rfl rfl rfl) rfl ?_
  exact ⟨rfl, HB1.out⟩
theorem Step_nil (w : World) :
    Calls Tryz.prog 13 #[.pointer none] w fun e w' => e = .returned (.tuple #[.bool false, zAsk, .int .i64 2]) ∧ Below w.heap.size w w' := by
  have hT := isThere_nil
  go_enter Tryz.func13, Tryz.ntmps13
  go_wp2_with (go_at_call 39; refine (hT _).mono ?_; rintro e w2 ⟨rfl, rfl⟩)
  refine bodyPost_ret (step_results (alloc_at w _) _ rfl rfl rfl) rfl ?_
  exact ⟨rfl, alloc_below w _⟩
theorem At_any {w : World} {G : Kp} {cv : Value} {c : Cr} (h : CM w G cv c) : Calls Tryz.prog 14 #[.pointer (some ⟨G.p, 0, none⟩)] w fun e w' => e = .returned (.int .i64 c.pc) ∧ w' = w := by
  have hT := isThere_any h
  have c8 := h.c8
  clear h
  go_enter Tryz.func14, Tryz.ntmps14
  go_wp2_with (go_at_call 39; refine hT.mono ?_; rintro e w2 ⟨rfl, rfl⟩)
  go_ret
  exact ⟨rfl, rfl⟩
theorem At_nil (w : World) : Calls Tryz.prog 14 #[.pointer none] w fun e w' => e = .returned (.int .i64 0) ∧ w' = w := by
  have hT := isThere_nil w
  go_enter Tryz.func14, Tryz.ntmps14
  go_wp2_with (go_at_call 39; refine hT.mono ?_; rintro e w2 ⟨rfl, rfl⟩)
  go_ret
  exact ⟨rfl, rfl⟩
theorem Bytes_core {w : World} {G : Kp} {cv : Value} {c : Cr} (h : CM w G cv c) : Calls Tryz.prog 15 #[.pointer (some ⟨G.p, 0, none⟩)] w fun e w' => e = .returned (.slice (some ⟨w.heap.size, 0, none⟩) c.zs.length c.zs.length) ∧ Rn.Row w' w.heap.size c.zs ∧ Below w.heap.size w w' := by
  have hT := isThere_any h
  have c9 := h.c9
  have hB := Rn.bytes_any h.reg
  clear h
  go_enter Tryz.func15, Tryz.ntmps15
  go_wp2_with (first
    | (go_at_call 39; refine hT.mono ?_; rintro e w2 ⟨rfl, rfl⟩)
    | (go_at_call 41; refine hB.mono ?_; rintro e w3 ⟨rfl, hr, hb⟩))
  go_ret
  exact ⟨rfl, hr, hb⟩
theorem Bytes_none (w : World) : Calls Tryz.prog 15 #[.pointer none] w fun e w' => e = .returned (.slice none 0 0) ∧ w' = w := by
  have hT := isThere_nil w
  go_enter Tryz.func15, Tryz.ntmps15
  go_wp2_with (go_at_call 39; refine hT.mono ?_; rintro e w2 ⟨rfl, rfl⟩)
  go_ret
  exact ⟨rfl, rfl⟩
end Go.Proofs.YtomccgodfimaiaaGreatDoor
