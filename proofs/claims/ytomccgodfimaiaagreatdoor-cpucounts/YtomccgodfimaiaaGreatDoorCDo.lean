/- An instruction is found, or none; a fault is recovered; an instruction is done. -/
import Derived.Test.YtomccgodfimaiaaGreatDoorCMap
import Derived.Defers
namespace Go.Proofs.YtomccgodfimaiaaGreatDoor
open Go Go.RowKit
set_option maxRecDepth 100000
set_option linter.all false
/-- the instruction at a place -/
def inAt (cs : List Int) (i : Nat) : Value := .agg #[.int .u8 (cs.getD (4 * i) 0), .int .u8 (cs.getD (4 * i + 1) 0), .int .u8 (cs.getD (4 * i + 2) 0), .int .u8 (cs.getD (4 * i + 3) 0)]
theorem CM.quad {w : World} {G : Kp} {cv : Value} {c : Cr} (h : CM w G cv c) {i : Nat} (hi : i < G.k) : ∃ b, G.cp = some ⟨b, 0, none⟩ ∧ b < w.heap.size ∧ w.cell? ⟨b, i * 4, none⟩ = some (.int .u8 (c.cs.getD (4 * i) 0)) ∧ w.cell? ⟨b, i * 4 + 1, none⟩ = some (.int .u8 (c.cs.getD (4 * i + 1) 0)) ∧ w.cell? ⟨b, i * 4 + 2, none⟩ = some (.int .u8 (c.cs.getD (4 * i + 2) 0)) ∧ w.cell? ⟨b, i * 4 + 3, none⟩ = some (.int .u8 (c.cs.getD (4 * i + 3) 0)) := by
  rcases h.code.2 with ⟨e, h0⟩ | ⟨g, cap, cur, e, _, hh, hc, hm, hs, ht⟩
  · simp only [Value.slice.injEq] at e; omega
  · simp only [Value.slice.injEq] at e
    obtain ⟨e1, _, rfl⟩ := e
    have hl := h.clen
    have hcell : ∀ j, j < 4 * G.k → w.cell? ⟨g, j, none⟩ = some (.int .u8 (c.cs.getD j 0)) := fun j hj => by
      have : (byt c.cs)[j]? = some (.int .u8 (c.cs.getD j 0)) := byt_at c.cs j (by omega)
      rw [← ht, List.getElem?_take, if_pos (by omega)] at this
      rw [cell_of hh]
      simpa using this
    refine ⟨g, e1, at_lt hh, ?_, ?_, ?_, ?_⟩
    · rw [show i * 4 = 4 * i by omega]; exact hcell _ (by omega)
    · rw [show i * 4 = 4 * i by omega]; exact hcell _ (by omega)
    · rw [show i * 4 = 4 * i by omega]; exact hcell _ (by omega)
    · rw [show i * 4 = 4 * i by omega]; exact hcell _ (by omega)
theorem set_at {w : World} {g : Nat} {cs : Array Value} {t : TypeId} {f : Nat × Nat} (h : w.heap[g]? = some (.cells cs t f)) (i : Nat) (v : Value) : (w.setCell ⟨g, i, none⟩ v).heap[g]? = some (.cells (cs.setIfInBounds i v) t f) := by
  have hl := at_lt h
  have hv := (Array.getElem?_eq_some_iff.1 h).2
  unfold World.setCell
  rw [Array.getElem?_eq_getElem (by simpa using hl), Array.getElem_modify]
  simp [hv]
set_option maxHeartbeats 2000000 in
theorem instr_yes {w : World} {G : Kp} {cv : Value} {c : Cr} (h : CM w G cv c) {i : Nat} (hi : i < G.k) (hpc : c.pc = (i : Nat)) :
    Calls Tryz.prog 91 #[.pointer (some ⟨G.p, 0, none⟩)] w fun e w' => e = .returned (inAt c.cs i) ∧ Below w.heap.size w w' := by
  have hb2 := alloc_below w (.cells #[.int .u8 0, .int .u8 0, .int .u8 0, .int .u8 0] 70)
  have h2 := h.one (.cells #[.int .u8 0, .int .u8 0, .int .u8 0, .int .u8 0] 70)
  obtain ⟨b, hcp, hbw, q0, q1, q2, q3⟩ := h2.quad hi
  have hpw := h.plt
  have c8 := h2.c8
  have c10 := h2.c10
  rw [hcp] at c10
  rw [hpc] at c8
  have h0 : ¬ ((i : Nat) : Int) < 0 := by omega
  have h1 : ¬ ((G.k : Nat) : Int) ≤ ((i : Nat) : Int) := by omega
  have h3 : ((i : Nat) : Int) < ((G.k : Nat) : Int) := by omega
  unfold inAt
  generalize c.cs.getD (4 * i) 0 = y0 at *
  generalize c.cs.getD (4 * i + 1) 0 = y1 at *
  generalize c.cs.getD (4 * i + 2) 0 = y2 at *
  generalize c.cs.getD (4 * i + 3) 0 = y3 at *
  have hlt : ¬ b = w.heap.size := by
    intro e
    obtain ⟨cur, hh⟩ := h.coded (b := b) (by rw [hcp]; rfl)
    have := at_lt hh
    omega
  generalize G.k = k at *
  clear h h2 hpc hcp hi
  go_enter Tryz.func91, Tryz.ntmps91
  go_wp2
  go_quiet ((fail))
  go_wp2
  have d := bcell (below_drewN (w.alloc (.cells #[.int .u8 0, .int .u8 0, .int .u8 0, .int .u8 0] 70)) nq)
  have hz : ((w.alloc (.cells #[.int .u8 0, .int .u8 0, .int .u8 0, .int .u8 0] 70)).drewN nq).heap[w.heap.size]? = some (.cells #[.int .u8 0, .int .u8 0, .int .u8 0, .int .u8 0] 70 (0, 0)) := ((below_drewN (w.alloc (.cells #[.int .u8 0, .int .u8 0, .int .u8 0, .int .u8 0] 70)) nq).block _ (by rw [alloc_size]; omega)).trans (alloc_at w _)
  have t0 := (d.1 _ _ hbw).trans q0
  have t1 := (d.1 _ _ hbw).trans q1
  have t2 := (d.1 _ _ hbw).trans q2
  have t3 := (d.1 _ _ hbw).trans q3
  have t8 := (d.1 G.p 8 (Nat.lt_of_lt_of_le hpw hb2.size)).trans c8
  have t10 := (d.1 G.p 10 (Nat.lt_of_lt_of_le hpw hb2.size)).trans c10
  have hb3 : Below w.heap.size w ((w.alloc (.cells #[.int .u8 0, .int .u8 0, .int .u8 0, .int .u8 0] 70)).drewN nq) := hb2.trans ((below_drewN _ nq).mono hb2.size)
  clear d q0 q1 q2 q3 c8 c10 hb2 hbw
  generalize (w.alloc (.cells #[.int .u8 0, .int .u8 0, .int .u8 0, .int .u8 0] 70)).drewN nq = w1 at *
  have z0 := cell_of (i := 0) hz
  have z1 := cell_of (i := 1) hz
  have z2 := cell_of (i := 2) hz
  have z3 := cell_of (i := 3) hz
  have HZ : Hid (w1.heap[w.heap.size]? = some (.cells #[.int .u8 0, .int .u8 0, .int .u8 0, .int .u8 0] 70 (0, 0))) := hz
  have HB3 : Hid (Below w.heap.size w w1) := hb3
  have fz : ∀ i, w1.frozen? ⟨w.heap.size, i, none⟩ = false := fun i => by simp [World.frozen?, hz]
  have f0 := fz 0
  have f1 := fz 1
  have f2 := fz 2
  have f3 := fz 3
  simp at z0 z1 z2 z3
  clear fz hz hb3
  go_region
  go_wp2
  have q0 := set_at HZ.out 0 (.int .u8 y0)
  have q1 := set_at q0 1 (.int .u8 y1)
  have q2 := set_at q1 2 (.int .u8 y2)
  have q3 := set_at q2 3 (.int .u8 y3)
  have hbs := ((((Buts.cell w1 w.heap.size 0 (.int .u8 y0)).trans (Buts.cell _ w.heap.size 1 (.int .u8 y1))).trans (Buts.cell _ w.heap.size 2 (.int .u8 y2))).trans (Buts.cell _ w.heap.size 3 (.int .u8 y3))).drew
  refine bodyPost_ret (results_cell_row (g := w.heap.size) rfl _ _ _ _ _ (d := _) rfl q3 Tryz.underlying70 rfl (by kernel_rfl)) rfl ?_
  exact ⟨rfl, HB3.out.trans (hbs.below (fun x hx => by simp at hx; omega) HB3.out.size)⟩
theorem instr_no {w : World} {G : Kp} {cv : Value} {c : Cr} (h : CM w G cv c) (hpc : c.pc < 0 ∨ (G.k : Int) ≤ c.pc) :
    Calls Tryz.prog 91 #[.pointer (some ⟨G.p, 0, none⟩)] w fun e w' => e = .panicked [{ v := fltV, recovered := false }] ∧ Below w.heap.size w w' := by
  have hb2 := alloc_below w (.cells #[.int .u8 0, .int .u8 0, .int .u8 0, .int .u8 0] 70)
  have h2 := h.one (.cells #[.int .u8 0, .int .u8 0, .int .u8 0, .int .u8 0] 70)
  have c8 := h2.c8
  have c10 := h2.c10
  generalize c.pc = pc at *
  generalize G.k = k at *
  clear h h2
  by_cases h0 : pc < 0
  · go_enter Tryz.func91, Tryz.ntmps91
    go_wp2
    go_quiet ((fail))
    go_wp2
    exact ⟨rfl, rfl, hb2.trans ((below_drewN _ nq).mono hb2.size)⟩
  · have h1 : ((k : Nat) : Int) ≤ pc := by omega
    clear hpc
    go_enter Tryz.func91, Tryz.ntmps91
    go_wp2
    go_quiet ((fail))
    go_wp2
    exact ⟨rfl, rfl, hb2.trans ((below_drewN _ nq).mono hb2.size)⟩
/-- the deferred function, behind a fault -/
def zAsk : Value := .agg #[.int .u8 0, .int .u32 0, .int .u32 0, .int .u32 0, .int .i64 0]
theorem catch_fault {w : World} {x y z : Nat} {b : Bool} {n : Int} {a0 a1 a2 a3 a4 : Value} (hx : w.heap[x]? = some (.cells #[.bool b] 4 (0, 0))) (hy : w.heap[y]? = some (.cells #[a0, a1, a2, a3, a4] 41 (0, 0))) (hz : w.heap[z]? = some (.cells #[.int .i64 n] 31 (0, 0))) (hxy : x ≠ y) (hxz : x ≠ z) (hyz : y ≠ z) :
    CallsD Tryz.prog 90 #[.pointer (some ⟨x, 0, none⟩), .pointer (some ⟨y, 0, none⟩), .pointer (some ⟨z, 0, none⟩)] (.panicking ({ v := fltV, recovered := false } :: [])) w fun e u' w' =>
      e = .returned (.tuple #[]) ∧ u' = .panicking ({ v := fltV, recovered := true } :: []) ∧ w'.heap[x]? = some (.cells #[.bool false] 4 (0, 0)) ∧ w'.heap[y]? = some (.cells #[.int .u8 0, .int .u32 0, .int .u32 0, .int .u32 0, .int .i64 0] 41 (0, 0)) ∧ w'.heap[z]? = some (.cells #[.int .i64 15] 31 (0, 0)) ∧ Buts [x, y, z] w w' := by
  refine callsD_of_wpS Tryz.func90 rfl fun c₀ cs hu => ?_
  apply wpS_seq
  apply wpS_region
  simp [wpOpsS, go_sem, recoverD, hu, Tryz.ntmps90, Exit.thenS, fltV]
  refine wpS_cond (t := true) (by simp [Act.eval, Array.replicate]) ?_
  simp only [if_true]
  have cx := cell_of (i := 0) hx
  have fx : w.frozen? ⟨x, 0, none⟩ = false := by simp [World.frozen?, hx]
  have cy0 := cell_of (i := 0) hy
  have cy1 := cell_of (i := 1) hy
  have cy2 := cell_of (i := 2) hy
  have cy3 := cell_of (i := 3) hy
  have cy4 := cell_of (i := 4) hy
  have fy : ∀ i, w.frozen? ⟨y, i, none⟩ = false := fun i => by simp [World.frozen?, hy]
  have cz := cell_of (i := 0) hz
  have fz : w.frozen? ⟨z, 0, none⟩ = false := by simp [World.frozen?, hz]
  simp at cx cy0 cy1 cy2 cy3 cy4 cz
  have hyx := Ne.symm hxy
  have hzx := Ne.symm hxz
  have hzy := Ne.symm hyz
  apply wpS_region
  simp [wpOpsS, go_sem, cx, fx, cy0, cy1, cy2, cy3, cy4, fy, cz, fz, hxy, hxz, hyz, hyx, hzx, hzy, bodyPostS, results, Tryz.results90]
  have so : ∀ (W : World) (g k j : Nat) (v : Value), j ≠ g → (W.setCell ⟨g, k, none⟩ v).heap[j]? = W.heap[j]? := fun W g k j v h => Below.heap_setCell _ _ _ _ h
  refine ⟨?_, ?_, ?_, ?_⟩
  · rw [so _ _ _ _ _ hxz, so _ _ _ _ _ hxy, so _ _ _ _ _ hxy, so _ _ _ _ _ hxy, so _ _ _ _ _ hxy, so _ _ _ _ _ hxy]
    simpa using set_at hx 0 (.bool false)
  · rw [so _ _ _ _ _ hyz]
    have e0 := (so w x 0 y (.bool false) hyx).trans hy
    simpa using set_at (set_at (set_at (set_at (set_at e0 0 (.int .u8 0)) 1 (.int .u32 0)) 2 (.int .u32 0)) 3 (.int .u32 0)) 4 (.int .i64 0)
  · have e0 := (so w x 0 z (.bool false) hzx).trans hz
    have e1 := (so _ y 0 z (.int .u8 0) hzy).trans e0
    have e2 := (so _ y 1 z (.int .u32 0) hzy).trans e1
    have e3 := (so _ y 2 z (.int .u32 0) hzy).trans e2
    have e4 := (so _ y 3 z (.int .u32 0) hzy).trans e3
    have e5 := (so _ y 4 z (.int .i64 0) hzy).trans e4
    simpa using set_at e5 0 (.int .i64 15)
  · have m : ∀ (W : World) (g k : Nat) (v : Value), g ∈ [x, y, z] → Buts [x, y, z] W (W.setCell ⟨g, k, none⟩ v) := fun W g k v h => (Buts.cell W g k v).mono (fun q hq => by rw [List.mem_singleton] at hq; subst hq; exact h)
    exact ((((((m w x 0 _ (by simp)).trans (m _ y 0 _ (by simp))).trans (m _ y 1 _ (by simp))).trans (m _ y 2 _ (by simp))).trans (m _ y 3 _ (by simp))).trans (m _ y 4 _ (by simp))).trans (m _ z 0 _ (by simp))
theorem catch_idle (w : World) (x y z : Value) :
    CallsD Tryz.prog 90 #[x, y, z] .returning w fun e u' w' => e = .returned (.tuple #[]) ∧ u' = .returning ∧ w' = w := by
  refine callsD_of_wpS Tryz.func90 rfl fun c₀ cs hu => ?_
  apply wpS_seq
  apply wpS_region
  simp [wpOpsS, go_sem, recoverD, hu, Tryz.ntmps90, Exit.thenS]
  refine wpS_cond (t := false) (by simp [Act.eval, Array.replicate]) ?_
  simp only [Bool.false_eq_true, if_false]
  refine wpS_of_wp (wp_skip ?_)
  cases c₀
  simp_all [bodyPostS, results, Tryz.results90]
end Go.Proofs.YtomccgodfimaiaaGreatDoor
