/- An instruction is done, or is at fault. -/
import Derived.Test.YtomccgodfimaiaaGreatDoorCDo
namespace Go.Proofs.YtomccgodfimaiaaGreatDoor
open Go Go.RowKit
set_option maxRecDepth 100000
set_option linter.all false
theorem hmf : ∀ (fn : Fn) (first cap : Array Value) (w : World), (Instr.makeFunc fn first cap).run Tryz.prog w = .ok (.func fn first cap) w := fun _ _ _ _ => rfl
/-- what is answered lies in three variables -/
structure Rv (w : World) (x : Nat) (b : Bool) (a0 a1 a2 a3 a4 : Value) (n : Int) : Prop where
  x0 : w.heap[x]? = some (.cells #[.bool b] 4 (0, 0))
  x1 : w.heap[x + 1]? = some (.cells #[a0, a1, a2, a3, a4] 41 (0, 0))
  x2 : w.heap[x + 1 + 1]? = some (.cells #[.int .i64 n] 31 (0, 0))
theorem Rv.start (w : World) : Rv (((w.alloc (.cells #[.bool false] 4)).alloc (.cells #[.int .u8 0, .int .u32 0, .int .u32 0, .int .u32 0, .int .i64 0] 41)).alloc (.cells #[.int .i64 0] 31)) w.heap.size false (.int .u8 0) (.int .u32 0) (.int .u32 0) (.int .u32 0) (.int .i64 0) 0 := by
  have s1 := alloc_size w (.cells #[.bool false] 4)
  have h1 := alloc_at w (.cells #[.bool false] 4)
  generalize w.alloc (.cells #[.bool false] 4) = w1 at *
  have s2 := alloc_size w1 (.cells #[.int .u8 0, .int .u32 0, .int .u32 0, .int .u32 0, .int .i64 0] 41)
  have h2 := alloc_at w1 (.cells #[.int .u8 0, .int .u32 0, .int .u32 0, .int .u32 0, .int .i64 0] 41)
  have k2 := ((alloc_below w1 (.cells #[.int .u8 0, .int .u32 0, .int .u32 0, .int .u32 0, .int .i64 0] 41)).block w.heap.size (by omega)).trans h1
  generalize w1.alloc (.cells #[.int .u8 0, .int .u32 0, .int .u32 0, .int .u32 0, .int .i64 0] 41) = w2 at *
  have h3 := alloc_at w2 (.cells #[.int .i64 0] 31)
  have b3 := alloc_below w2 (.cells #[.int .i64 0] 31)
  rw [s1] at h2 s2
  rw [s2] at h3
  exact ⟨(b3.block _ (by omega)).trans k2, (b3.block _ (by omega)).trans h2, h3⟩
theorem Rv.buts {w w' : World} {x : Nat} {b : Bool} {a0 a1 a2 a3 a4 : Value} {n : Int} {l : List Nat} (h : Rv w x b a0 a1 a2 a3 a4 n) (hb : Buts l w w') (h0 : x ∉ l) (h1 : x + 1 ∉ l) (h2 : x + 1 + 1 ∉ l) : Rv w' x b a0 a1 a2 a3 a4 n :=
  ⟨(hb.block _ (at_lt h.x0) h0).trans h.x0, (hb.block _ (at_lt h.x1) h1).trans h.x1, (hb.block _ (at_lt h.x2) h2).trans h.x2⟩
theorem Rv.below {w w' : World} {x : Nat} {b : Bool} {a0 a1 a2 a3 a4 : Value} {n : Int} (h : Rv w x b a0 a1 a2 a3 a4 n) (hb : Below w.heap.size w w') : Rv w' x b a0 a1 a2 a3 a4 n := h.buts (l := []) (Buts.of hb) (by simp) (by simp) (by simp)
theorem Rv.drew {w : World} {x : Nat} {b : Bool} {a0 a1 a2 a3 a4 : Value} {n : Int} (h : Rv w x b a0 a1 a2 a3 a4 n) : Rv w.drew x b a0 a1 a2 a3 a4 n := ⟨h.x0, h.x1, h.x2⟩
/-- what a walk wants of the three variables -/
theorem Rv.all {w : World} {x : Nat} {b : Bool} {a0 a1 a2 a3 a4 : Value} {n : Int} (h : Rv w x b a0 a1 a2 a3 a4 n) : w.cell? ⟨x, 0, none⟩ = some (.bool b) ∧ w.frozen? ⟨x, 0, none⟩ = false ∧ w.cell? ⟨x + 1, 0, none⟩ = some a0 ∧ w.cell? ⟨x + 1, 1, none⟩ = some a1 ∧ w.cell? ⟨x + 1, 2, none⟩ = some a2 ∧ w.cell? ⟨x + 1, 3, none⟩ = some a3 ∧ w.cell? ⟨x + 1, 4, none⟩ = some a4 ∧ w.frozen? ⟨x + 1, 0, none⟩ = false ∧ w.frozen? ⟨x + 1, 1, none⟩ = false ∧ w.frozen? ⟨x + 1, 2, none⟩ = false ∧ w.frozen? ⟨x + 1, 3, none⟩ = false ∧ w.frozen? ⟨x + 1, 4, none⟩ = false ∧ w.cell? ⟨x + 1 + 1, 0, none⟩ = some (.int .i64 n) ∧ w.frozen? ⟨x + 1 + 1, 0, none⟩ = false := by
  have f : ∀ (p : Nat) cs t k, w.heap[p]? = some (.cells cs t (0, 0)) → w.frozen? ⟨p, k, none⟩ = false := fun p cs t k hh => by simp [World.frozen?, hh]
  exact ⟨cell_of h.x0, f _ _ _ _ h.x0, cell_of h.x1, cell_of h.x1, cell_of h.x1, cell_of h.x1, cell_of h.x1, f _ _ _ _ h.x1, f _ _ _ _ h.x1, f _ _ _ _ h.x1, f _ _ _ _ h.x1, f _ _ _ _ h.x1, cell_of h.x2, f _ _ _ _ h.x2⟩
theorem do_results {w : World} {x : Nat} {b : Bool} {a0 a1 a2 a3 a4 : Value} {n : Int} (h : Rv w x b a0 a1 a2 a3 a4 n) (tmps : Array Value) (t2 : tmps.getD 2 undef = .pointer (some ⟨x, 0, none⟩)) (t3 : tmps.getD 3 undef = .pointer (some ⟨x + 1, 0, none⟩)) (t4 : tmps.getD 4 undef = .pointer (some ⟨x + 1 + 1, 0, none⟩)) :
    (results Tryz.f40 tmps).run Tryz.prog w = .ok (.tuple #[.bool b, .agg #[a0, a1, a2, a3, a4], .int .i64 n]) w := by
  have c0 := cell_of (i := 0) h.x0
  have c2 := cell_of (i := 0) h.x2
  have d0 := cell_of (i := 0) h.x1
  have d1 := cell_of (i := 1) h.x1
  have d2 := cell_of (i := 2) h.x1
  have d3 := cell_of (i := 3) h.x1
  have d4 := cell_of (i := 4) h.x1
  simp at c0 c2 t2 t3 t4 d0 d1 d2 d3 d4
  simp [results, Tryz.results40, asAddr, t2, t3, t4, c0, c2, d0, d1, d2, d3, d4, go_sem]
theorem set7 {w : World} {x y z : Nat} {b : Bool} {a0 a1 a2 a3 a4 : Value} {n : Int} (hx : w.heap[x]? = some (.cells #[.bool b] 4 (0, 0))) (hy : w.heap[y]? = some (.cells #[a0, a1, a2, a3, a4] 41 (0, 0))) (hz : w.heap[z]? = some (.cells #[.int .i64 n] 31 (0, 0))) (hxy : x ≠ y) (hxz : x ≠ z) (hyz : y ≠ z) (b' : Bool) (v0 v1 v2 v3 v4 : Value) (n' : Int) :
    (((((((w.setCell ⟨x, 0, none⟩ (.bool b')).setCell ⟨y, 0, none⟩ v0).setCell ⟨y, 1, none⟩ v1).setCell ⟨y, 2, none⟩ v2).setCell ⟨y, 3, none⟩ v3).setCell ⟨y, 4, none⟩ v4).setCell ⟨z, 0, none⟩ (.int .i64 n')).heap[x]? = some (.cells #[.bool b'] 4 (0, 0)) ∧ (((((((w.setCell ⟨x, 0, none⟩ (.bool b')).setCell ⟨y, 0, none⟩ v0).setCell ⟨y, 1, none⟩ v1).setCell ⟨y, 2, none⟩ v2).setCell ⟨y, 3, none⟩ v3).setCell ⟨y, 4, none⟩ v4).setCell ⟨z, 0, none⟩ (.int .i64 n')).heap[y]? = some (.cells #[v0, v1, v2, v3, v4] 41 (0, 0)) ∧ (((((((w.setCell ⟨x, 0, none⟩ (.bool b')).setCell ⟨y, 0, none⟩ v0).setCell ⟨y, 1, none⟩ v1).setCell ⟨y, 2, none⟩ v2).setCell ⟨y, 3, none⟩ v3).setCell ⟨y, 4, none⟩ v4).setCell ⟨z, 0, none⟩ (.int .i64 n')).heap[z]? = some (.cells #[.int .i64 n'] 31 (0, 0)) ∧ Buts [x, y, z] w (((((((w.setCell ⟨x, 0, none⟩ (.bool b')).setCell ⟨y, 0, none⟩ v0).setCell ⟨y, 1, none⟩ v1).setCell ⟨y, 2, none⟩ v2).setCell ⟨y, 3, none⟩ v3).setCell ⟨y, 4, none⟩ v4).setCell ⟨z, 0, none⟩ (.int .i64 n')) := by
  have so : ∀ (W : World) (g k j : Nat) (v : Value), j ≠ g → (W.setCell ⟨g, k, none⟩ v).heap[j]? = W.heap[j]? := fun W g k j v h => Below.heap_setCell _ _ _ _ h
  have hyx := Ne.symm hxy
  have hzx := Ne.symm hxz
  have hzy := Ne.symm hyz
  refine ⟨?_, ?_, ?_, ?_⟩
  · rw [so _ _ _ _ _ hxz, so _ _ _ _ _ hxy, so _ _ _ _ _ hxy, so _ _ _ _ _ hxy, so _ _ _ _ _ hxy, so _ _ _ _ _ hxy]
    simpa using set_at hx 0 (.bool b')
  · rw [so _ _ _ _ _ hyz]
    have e0 := (so w x 0 y (.bool b') hyx).trans hy
    simpa using set_at (set_at (set_at (set_at (set_at e0 0 v0) 1 v1) 2 v2) 3 v3) 4 v4
  · have e0 := (so w x 0 z (.bool b') hzx).trans hz
    have e1 := (so _ y 0 z v0 hzy).trans e0
    have e2 := (so _ y 1 z v1 hzy).trans e1
    have e3 := (so _ y 2 z v2 hzy).trans e2
    have e4 := (so _ y 3 z v3 hzy).trans e3
    have e5 := (so _ y 4 z v4 hzy).trans e4
    simpa using set_at e5 0 (.int .i64 n')
  · have m : ∀ (W : World) (g k : Nat) (v : Value), g ∈ [x, y, z] → Buts [x, y, z] W (W.setCell ⟨g, k, none⟩ v) := fun W g k v h => (Buts.cell W g k v).mono (fun q hq => by rw [List.mem_singleton] at hq; subst hq; exact h)
    exact ((((((m w x 0 _ (by simp)).trans (m _ y 0 _ (by simp))).trans (m _ y 1 _ (by simp))).trans (m _ y 2 _ (by simp))).trans (m _ y 3 _ (by simp))).trans (m _ y 4 _ (by simp))).trans (m _ z 0 _ (by simp))
theorem rv_set {w : World} {x : Nat} {b : Bool} {a0 a1 a2 a3 a4 : Value} {n : Int} (h : Rv w x b a0 a1 a2 a3 a4 n) (b' : Bool) (v0 v1 v2 v3 v4 : Value) (n' : Int) :
    Rv (((((((w.setCell ⟨x, 0, none⟩ (.bool b')).setCell ⟨x + 1, 0, none⟩ v0).setCell ⟨x + 1, 1, none⟩ v1).setCell ⟨x + 1, 2, none⟩ v2).setCell ⟨x + 1, 3, none⟩ v3).setCell ⟨x + 1, 4, none⟩ v4).setCell ⟨x + 1 + 1, 0, none⟩ (.int .i64 n')) x b' v0 v1 v2 v3 v4 n' ∧
    Buts [x, x + 1, x + 1 + 1] w (((((((w.setCell ⟨x, 0, none⟩ (.bool b')).setCell ⟨x + 1, 0, none⟩ v0).setCell ⟨x + 1, 1, none⟩ v1).setCell ⟨x + 1, 2, none⟩ v2).setCell ⟨x + 1, 3, none⟩ v3).setCell ⟨x + 1, 4, none⟩ v4).setCell ⟨x + 1 + 1, 0, none⟩ (.int .i64 n')) := by
  obtain ⟨h1, h2, h3, h4⟩ := set7 h.x0 h.x1 h.x2 (by omega) (by omega) (by omega) b' v0 v1 v2 v3 v4 n'
  exact ⟨⟨h1, h2, h3⟩, h4⟩
theorem rv_set6 {w : World} {x : Nat} {b : Bool} {a0 a1 a2 a3 a4 : Value} {n : Int} (h : Rv w x b a0 a1 a2 a3 a4 n) (b' : Bool) (v0 v1 v2 v3 v4 : Value) :
    Rv ((((((w.setCell ⟨x, 0, none⟩ (.bool b')).setCell ⟨x + 1, 0, none⟩ v0).setCell ⟨x + 1, 1, none⟩ v1).setCell ⟨x + 1, 2, none⟩ v2).setCell ⟨x + 1, 3, none⟩ v3).setCell ⟨x + 1, 4, none⟩ v4) x b' v0 v1 v2 v3 v4 n ∧ Buts [x, x + 1, x + 1 + 1] w ((((((w.setCell ⟨x, 0, none⟩ (.bool b')).setCell ⟨x + 1, 0, none⟩ v0).setCell ⟨x + 1, 1, none⟩ v1).setCell ⟨x + 1, 2, none⟩ v2).setCell ⟨x + 1, 3, none⟩ v3).setCell ⟨x + 1, 4, none⟩ v4) := by
  have so : ∀ (W : World) (g k j : Nat) (v : Value), j ≠ g → (W.setCell ⟨g, k, none⟩ v).heap[j]? = W.heap[j]? := fun W g k j v h => Below.heap_setCell _ _ _ _ h
  have hxy : x ≠ x + 1 := by omega
  have hyx : x + 1 ≠ x := by omega
  have hzx : x + 1 + 1 ≠ x := by omega
  have hzy : x + 1 + 1 ≠ x + 1 := by omega
  refine ⟨⟨?_, ?_, ?_⟩, ?_⟩
  · rw [so _ _ _ _ _ hxy, so _ _ _ _ _ hxy, so _ _ _ _ _ hxy, so _ _ _ _ _ hxy, so _ _ _ _ _ hxy]
    simpa using set_at h.x0 0 (.bool b')
  · have e0 := (so w x 0 (x + 1) (.bool b') hyx).trans h.x1
    simpa using set_at (set_at (set_at (set_at (set_at e0 0 v0) 1 v1) 2 v2) 3 v3) 4 v4
  · rw [so _ _ _ _ _ hzy, so _ _ _ _ _ hzy, so _ _ _ _ _ hzy, so _ _ _ _ _ hzy, so _ _ _ _ _ hzy, so _ _ _ _ _ hzx]
    exact h.x2
  · have m : ∀ (W : World) (g k : Nat) (v : Value), g ∈ [x, x + 1, x + 1 + 1] → Buts [x, x + 1, x + 1 + 1] W (W.setCell ⟨g, k, none⟩ v) := fun W g k v h => (Buts.cell W g k v).mono (fun q hq => by rw [List.mem_singleton] at hq; subst hq; exact h)
    exact (((((m w x 0 _ (by simp)).trans (m _ (x + 1) 0 _ (by simp))).trans (m _ (x + 1) 1 _ (by simp))).trans (m _ (x + 1) 2 _ (by simp))).trans (m _ (x + 1) 3 _ (by simp))).trans (m _ (x + 1) 4 _ (by simp))
set_option maxHeartbeats 4000000 in
theorem do_none {w : World} {G : Kp} {cv : Value} {c : Cr} (h : CM w G cv c) (hpc : c.pc < 0 ∨ (G.k : Int) ≤ c.pc) :
    Calls Tryz.prog 40 #[.pointer (some ⟨G.p, 0, none⟩)] w fun e w' => e = .returned (.tuple #[.bool false, zAsk, .int .i64 15]) ∧ Below w.heap.size w w' := by
  have hm := hmf
  have hI : ∀ W, CM W G cv c → Calls Tryz.prog 91 #[.pointer (some ⟨G.p, 0, none⟩)] W fun e w' => e = .panicked [{ v := fltV, recovered := false }] ∧ Below W.heap.size W w' := fun W hW => instr_no hW hpc
  have b1 := alloc_below w (.cells #[.bool false] 4)
  have b2 := b1.trans ((alloc_below (w.alloc (.cells #[.bool false] 4)) (.cells #[.int .u8 0, .int .u32 0, .int .u32 0, .int .u32 0, .int .i64 0] 41)).mono b1.size)
  have b3 := b2.trans ((alloc_below _ (.cells #[.int .i64 0] 31)).mono b2.size)
  have H3 : Hid (CM _ G cv c) := h.below b3
  have HB3 : Hid (Below w.heap.size w _) := b3
  have R3 : Hid (Rv _ w.heap.size false _ _ _ _ _ 0) := Rv.start w
  clear b1 b2 b3 h hpc
  go_enter_defers Tryz.func40, Tryz.ntmps40
  go_wp2_with (go_at_call 91; refine (hI _ H3.out).mono ?_; rintro e w4 ⟨rfl, hb4⟩)
  have R4 := R3.out.below hb4
  refine leaves_cons (f := 90) (args := #[.pointer (some ⟨w.heap.size, 0, none⟩), .pointer (some ⟨w.heap.size + 1, 0, none⟩), .pointer (some ⟨w.heap.size + 1 + 1, 0, none⟩)]) (by simp) (by simp [go_sem]) ?_
  refine (catch_fault R4.x0 R4.x1 R4.x2 (by omega) (by omega) (by omega)).mono ?_
  rintro e u' w5 ⟨rfl, rfl, y0, y1, y2, hb5⟩
  refine ⟨_, do_results ⟨y0, y1, y2⟩ _ rfl rfl rfl, rfl, ?_⟩
  have b4 := HB3.out.trans (hb4.mono HB3.out.size)
  exact b4.trans (hb5.below (fun x hx => by simp at hx; omega) b4.size)
end Go.Proofs.YtomccgodfimaiaaGreatDoor
