/- The document's own thing: a block that is taken back; flags that are awaited. -/
import Derived.Test.YteicnekoogmmmaaGreatDoorKM2
import Derived.Deep.RegionHeld3
namespace Go.Proofs.YteicnekoogmmmaaGreatDoor
open Go Go.RowKit
set_option maxRecDepth 100000
set_option linter.unusedVariables false
theorem askc (w : World) (wh ah av am aw : Int) : (w.alloc (.cells #[.int .u8 wh, .int .u32 ah, .int .u32 av, .int .u32 am, .int .i64 aw] 39)).cell? ⟨w.heap.size, 2, none⟩ = some (.int .u32 av) ∧ (w.alloc (.cells #[.int .u8 wh, .int .u32 ah, .int .u32 av, .int .u32 am, .int .i64 aw] 39)).cell? ⟨w.heap.size, 3, none⟩ = some (.int .u32 am) := by
  constructor <;> (rw [cell_of (alloc_at w _)]; rfl)
set_option maxHeartbeats 4000000 in
theorem kfree_arg {s : Nat} {w : World} {q z : Nat} {u v : Value} {T : Sx} (h : KR s w q z u v T) (hm : T.zs.length ≤ 64) (x : Nat) (hx : T.zs.length ≤ x) (who ah am aw : Int) :
    Calls Tryz.prog 22 #[.pointer (some ⟨q, 0, none⟩), .int .u32 who, .agg #[.int .u8 15, .int .u32 ah, .int .u32 (x : Nat), .int .u32 am, .int .i64 aw]] w (KAns s w q z v (0, 1, T)) := by
  obtain ⟨_, _, _, _, _, _, c6⟩ := h.c
  have hlt := h.head.lt
  obtain ⟨sp, rfl, -⟩ := h.own.form
  have HK : Hid (KR s w q z u (.slice sp T.zs.length T.zs.length) T) := h
  clear h
  unfold KAns
  obtain ⟨m, hml⟩ : ∃ m, T.zs.length = m := ⟨_, rfl⟩
  rw [hml] at hm c6 HK hx ⊢
  have hwr : IntKind.u32.wrap ((m : Nat) : Int) = (m : Nat) := wrap_c hm
  have hd : decide ((m : Int) ≤ (x : Int)) = true := by simp; omega
  have hd2 : decide (m ≤ x) = true := by simpa using hx
  have hxi : (m : Int) ≤ (x : Int) := by omega
  clear hml
  go_enter Tryz.func22, Tryz.ntmps22
  go_wp2
  go_quiet ((fail))
  go_wp2
  go_ret2
  exact ⟨rfl, HK.out.same ((alloc_below _ _).trans ((below_drewN _ _).mono (alloc_below _ _).size))⟩
set_option maxHeartbeats 4000000 in
theorem kfree_no {s : Nat} {w : World} {q z : Nat} {u v : Value} {T : Sx} (h : KR s w q z u v T) (hm : T.zs.length ≤ 64) (x : Nat) (hx : x < T.zs.length) (who ah am aw : Int) (ho : T.zs.getD x 0 ≠ who) :
    Calls Tryz.prog 22 #[.pointer (some ⟨q, 0, none⟩), .int .u32 who, .agg #[.int .u8 15, .int .u32 ah, .int .u32 (x : Nat), .int .u32 am, .int .i64 aw]] w (KAns s w q z v (0, 13, T)) := by
  obtain ⟨_, _, _, _, _, _, c6⟩ := h.c
  have hlt := h.head.lt
  obtain ⟨sp, rfl, hsp⟩ := h.own.form
  obtain ⟨rfl, hR⟩ := hsp (by omega)
  have HK : Hid (KR s w q z u (.slice (some ⟨z, 0, none⟩) T.zs.length T.zs.length) T) := h
  have kk := hR.cell x hx
  have kl := hR.lt
  clear h hR hsp
  unfold KAns
  obtain ⟨m, hml⟩ : ∃ m, T.zs.length = m := ⟨_, rfl⟩
  rw [hml] at hm c6 HK hx ⊢
  have hwr : IntKind.u32.wrap ((m : Nat) : Int) = (m : Nat) := wrap_c hm
  have hd : decide ((m : Int) ≤ (x : Int)) = false := by simp; omega
  have hd2 : decide (m ≤ x) = false := by simp; omega
  have hxi : ¬ (m : Int) ≤ (x : Int) := by omega
  have hxl : (x : Int) < (m : Int) := by omega
  have hyw : (T.zs.getD x 0 != who) = true := by simpa using ho
  obtain ⟨y, hy⟩ : ∃ y, T.zs.getD x 0 = y := ⟨_, rfl⟩
  rw [hy] at kk hyw
  clear hml hy ho
  go_enter Tryz.func22, Tryz.ntmps22
  go_wp2
  go_quiet ((fail))
  go_wp2
  go_quiet ((fail))
  go_wp2
  go_ret2
  refine ⟨rfl, HK.out.same ?_⟩
  have a1 := alloc_below w (.cells #[.int .u8 15, .int .u32 ah, .int .u32 (x : Nat), .int .u32 am, .int .i64 aw] 39)
  exact (a1.trans ((below_drewN _ _).mono a1.size)).trans ((below_drewN _ _).mono a1.size)
set_option maxHeartbeats 4000000 in
theorem kfree_yes {s : Nat} {w : World} {q z : Nat} {u v : Value} {T : Sx} (h : KR s w q z u v T) (hm : T.zs.length ≤ 64) (x : Nat) (hx : x < T.zs.length) (who ah am aw : Int) (ho : T.zs.getD x 0 = who) :
    Calls Tryz.prog 22 #[.pointer (some ⟨q, 0, none⟩), .int .u32 who, .agg #[.int .u8 15, .int .u32 ah, .int .u32 (x : Nat), .int .u32 am, .int .i64 aw]] w (KAns s w q z v (0, 0, { T with zs := T.zs.set x 0 })) := by
  obtain ⟨_, _, _, _, _, _, c6⟩ := h.c
  have hlt := h.head.lt
  obtain ⟨sp, rfl, hsp⟩ := h.own.form
  obtain ⟨rfl, hR⟩ := hsp (by omega)
  have HK : Hid (KR s w q z u (.slice (some ⟨z, 0, none⟩) T.zs.length T.zs.length) T) := h
  have HR : Hid (Row w z T.zs) := hR
  have kk := hR.cell x hx
  have kl := hR.lt
  have QZ : q ≠ z := h.head.ne (t' := 23) hR (by decide)
  rw [ho] at kk
  clear h hR hsp ho
  unfold KAns
  obtain ⟨m, hml⟩ : ∃ m, T.zs.length = m := ⟨_, rfl⟩
  have HL : Hid (T.zs.length = m) := hml
  rw [hml] at hm c6 HK hx ⊢
  have hwr : IntKind.u32.wrap ((m : Nat) : Int) = (m : Nat) := wrap_c hm
  have hd : decide ((m : Int) ≤ (x : Int)) = false := by simp; omega
  have hd2 : decide (m ≤ x) = false := by simp; omega
  have hxi : ¬ (m : Int) ≤ (x : Int) := by omega
  have hxl : (x : Int) < (m : Int) := by omega
  clear hml
  have a1 := alloc_below w (.cells #[.int .u8 15, .int .u32 ah, .int .u32 (x : Nat), .int .u32 am, .int .i64 aw] 39)
  have A1 : Hid (Below w.heap.size w (w.alloc (.cells #[.int .u8 15, .int .u32 ah, .int .u32 (x : Nat), .int .u32 am, .int .i64 aw] 39))) := a1
  clear a1
  go_enter Tryz.func22, Tryz.ntmps22
  go_wp2
  go_quiet ((fail))
  generalize nq = k1 at *
  go_wp2
  go_quiet ((fail))
  have hbd : Below w.heap.size w (((w.alloc (.cells #[.int .u8 15, .int .u32 ah, .int .u32 (x : Nat), .int .u32 am, .int .i64 aw] 39)).drewN k1).drewN nq) := (A1.out.trans ((below_drewN _ _).mono A1.out.size)).trans ((below_drewN _ _).mono A1.out.size)
  have hX : (((w.alloc (.cells #[.int .u8 15, .int .u32 ah, .int .u32 (x : Nat), .int .u32 am, .int .i64 aw] 39)).drewN k1).drewN nq).cell? ⟨w.heap.size, 2, none⟩ = some (.int .u32 (x : Nat)) := (askc w 15 ah x am aw).1
  have hXl : w.heap.size < (((w.alloc (.cells #[.int .u8 15, .int .u32 ah, .int .u32 (x : Nat), .int .u32 am, .int .i64 aw] 39)).drewN k1).drewN nq).heap.size := by show _ < (w.alloc _).heap.size; rw [alloc_size]; omega
  generalize ((w.alloc (.cells #[.int .u8 15, .int .u32 ah, .int .u32 (x : Nat), .int .u32 am, .int .i64 aw] 39)).drewN k1).drewN nq = w1 at *
  have HB : Hid (Buts [q, z] w w1) := Buts.of hbd
  have P1 : Hid (KR s w1 q z u (.slice (some ⟨z, 0, none⟩) m m) T) := HK.out.below hbd
  have R1 : Hid (Row w1 z T.zs) := HR.out.below' hbd
  have d6 := P1.out.c.2.2.2.2.2.2
  have dk : w1.cell? ⟨z, x, none⟩ = some (.int .u32 who) := by rw [hbd.cell (p := ⟨z, x, none⟩) kl]; exact kk
  have df := R1.out.free x
  have ZX : z ≠ w.heap.size := by omega
  have XQ : w.heap.size ≠ q := by omega
  have ql := Nat.lt_trans hlt hXl
  have zl := Nat.lt_trans kl hXl
  have ZQ : z ≠ q := fun e => QZ e.symm
  have XZ : w.heap.size ≠ z := fun e => ZX e.symm
  clear hbd c6 kk hlt kl
  generalize w.heap.size = X at *
  go_wp2
  go_region_held3 (fun w' => w'.cell? ⟨q, 6, none⟩ = some (.slice (some ⟨z, 0, none⟩) m m) ∧ w'.cell? ⟨X, 2, none⟩ = some (.int .u32 (x : Nat))) (go_keep) (fail)
  all_goals
    go_wp2
    go_ret2
    obtain ⟨h1, h2⟩ := (P1.out.below (drew_below w1)).owner (R1.out.below' (drew_below w1)) HL.out x 0
    exact ⟨rfl, ⟨u, h1⟩, HB.out.trans ((Buts.of (drew_below w1)).trans h2)⟩
theorem quiet_sym {P : Program} {f : FuncId} {args : Array Value} {w : World} {v : Value} (h : Calls P f args w fun e w' => e = .returned v ∧ w = w') : Calls P f args w fun e w' => e = .returned v ∧ w' = w := h.mono fun e w' ⟨h1, h2⟩ => ⟨h1, h2.symm⟩
set_option maxHeartbeats 4000000 in
theorem kawait_no {s : Nat} {w : World} {q z : Nat} {u v : Value} {T : Sx} (h : KR s w q z u v T) (hf : T.n < 4294967296) (x am : Nat) (hx : x < 4294967296) (ham : am < 4) (who ah aw : Int) (all : Bool) (hal : decide (am % 2 = 1) = all) (ho : Mk.hold T.n x all = false) :
    Calls Tryz.prog 22 #[.pointer (some ⟨q, 0, none⟩), .int .u32 who, .agg #[.int .u8 11, .int .u32 ah, .int .u32 (x : Nat), .int .u32 (am : Nat), .int .i64 aw]] w (KAns s w q z v (0, 7, T)) := by
  have HK : Hid (KR s w q z u v T) := h
  obtain ⟨_, _, _, c3, _, _, _⟩ := h.c
  have hlt := h.head.lt
  have HC := fun W => quiet_sym (Mk.rholds_any T.n x hf hx all W)
  rw [ho] at HC
  have e1 : ((am : Int) % 2 == 1) = all := by rw [← hal]; rw [Bool.eq_iff_iff]; simp; omega
  have A1 : Hid (Below w.heap.size w (w.alloc (.cells #[.int .u8 11, .int .u32 ah, .int .u32 (x : Nat), .int .u32 (am : Nat), .int .i64 aw] 39))) := alloc_below w _
  clear h ho hal
  unfold KAns
  go_enter Tryz.func22, Tryz.ntmps22
  go_wp2
  go_quiet ((go_at_call 55; exact Calls.quiet_of_same (HC _)))
  go_wp2
  go_ret2
  exact ⟨rfl, HK.out.same (A1.out.trans ((below_drewN _ _).mono A1.out.size))⟩
set_option maxHeartbeats 4000000 in
theorem kawait_yes {s : Nat} {w : World} {q z : Nat} {u v : Value} {T : Sx} (h : KR s w q z u v T) (hf : T.n < 4294967296) (x am : Nat) (hx : x < 4294967296) (ham : am < 4) (who ah aw : Int) (all gone : Bool) (hal : decide (am % 2 = 1) = all) (hgo : decide (2 ≤ am) = gone) (ho : Mk.hold T.n x all = true) :
    Calls Tryz.prog 22 #[.pointer (some ⟨q, 0, none⟩), .int .u32 who, .agg #[.int .u8 11, .int .u32 ah, .int .u32 (x : Nat), .int .u32 (am : Nat), .int .i64 aw]] w (KAns s w q z v (((T.n &&& x : Nat) : Int), 0, { T with n := Mk.aft T.n x all gone })) := by
  have HK : Hid (KR s w q z u v T) := h
  obtain ⟨_, _, _, c3, _, _, _⟩ := h.c
  have hlt := h.head.lt
  have HC := fun W => quiet_sym (Mk.rholds_any T.n x hf hx all W)
  have HM := fun W => quiet_sym (Mk.rmet_any T.n x hf hx W)
  have HA : Hid (∀ W, Calls Tryz.prog 57 #[.int .u32 (T.n : Nat), .int .u32 (x : Nat), .bool all, .bool gone] W fun e w' => e = .returned (.int .u32 (Mk.aft T.n x all gone : Nat)) ∧ W = w') := fun W => Mk.rafter_any T.n x hf hx all gone W
  rw [ho] at HC
  have e1 : ((am : Int) % 2 == 1) = all := by rw [← hal]; rw [Bool.eq_iff_iff]; simp; omega
  have e2 : decide ((2 : Int) ≤ (am : Int)) = gone := by rw [← hgo]; rw [Bool.eq_iff_iff]; simp; omega
  have e3 : decide (2 ≤ am) = gone := hgo
  have A1 : Hid (Below w.heap.size w (w.alloc (.cells #[.int .u8 11, .int .u32 ah, .int .u32 (x : Nat), .int .u32 (am : Nat), .int .i64 aw] 39))) := alloc_below w _
  clear h ho hal hgo
  unfold KAns
  generalize T.n &&& x = y at *
  generalize Mk.aft T.n x all gone = t at *
  go_enter Tryz.func22, Tryz.ntmps22
  go_wp2
  go_quiet ((go_at_call 55; exact Calls.quiet_of_same (HC _)))
  have hbd : Below w.heap.size w ((w.alloc (.cells #[.int .u8 11, .int .u32 ah, .int .u32 (x : Nat), .int .u32 (am : Nat), .int .i64 aw] 39)).drewN nq) := A1.out.trans ((below_drewN _ _).mono A1.out.size)
  have hX : ((w.alloc (.cells #[.int .u8 11, .int .u32 ah, .int .u32 (x : Nat), .int .u32 (am : Nat), .int .i64 aw] 39)).drewN nq).cell? ⟨w.heap.size, 2, none⟩ = some (.int .u32 (x : Nat)) := (askc w 11 ah x am aw).1
  have hY : ((w.alloc (.cells #[.int .u8 11, .int .u32 ah, .int .u32 (x : Nat), .int .u32 (am : Nat), .int .i64 aw] 39)).drewN nq).cell? ⟨w.heap.size, 3, none⟩ = some (.int .u32 (am : Nat)) := (askc w 11 ah x am aw).2
  have hXl : w.heap.size < ((w.alloc (.cells #[.int .u8 11, .int .u32 ah, .int .u32 (x : Nat), .int .u32 (am : Nat), .int .i64 aw] 39)).drewN nq).heap.size := by show _ < (w.alloc _).heap.size; rw [alloc_size]; omega
  generalize (w.alloc (.cells #[.int .u8 11, .int .u32 ah, .int .u32 (x : Nat), .int .u32 (am : Nat), .int .i64 aw] 39)).drewN nq = w1 at *
  have HB : Hid (Buts [q, z] w w1) := Buts.of hbd
  have P1 : Hid (KR s w1 q z u v T) := HK.out.below hbd
  have d3 := P1.out.c.2.2.2.1
  have df := P1.out.head.free 3
  have QX : q ≠ w.heap.size := by omega
  have XQ : w.heap.size ≠ q := fun e => QX e.symm
  have ql := Nat.lt_trans hlt hXl
  clear hbd c3 hlt A1 nq
  generalize w.heap.size = X at *
  go_wp2
  go_quiet ((go_at_call 56; exact Calls.quiet_of_same (HM _)))
  have P2 : Hid (KR s (w1.drewN nq) q z u v T) := P1.out.below (below_drewN _ _)
  have HB2 : Hid (Buts [q, z] w (w1.drewN nq)) := HB.out.trans (Buts.of (below_drewN _ _))
  replace hX : (w1.drewN nq).cell? ⟨X, 2, none⟩ = some (.int .u32 (x : Nat)) := hX
  replace hY : (w1.drewN nq).cell? ⟨X, 3, none⟩ = some (.int .u32 (am : Nat)) := hY
  replace hXl : X < (w1.drewN nq).heap.size := hXl
  replace ql : q < (w1.drewN nq).heap.size := ql
  generalize w1.drewN nq = w2 at *
  replace d3 := P2.out.c.2.2.2.1
  replace df := P2.out.head.free 3
  go_wp2
  go_region_with (first
    | (go_at_call 57; refine (HA.out _).mono ?_; rintro e wx ⟨rfl, rfl⟩))
  all_goals
    go_wp2
    go_ret2
    obtain ⟨h1, h2⟩ := (P2.out.below (drew_below w2)).num t
    exact ⟨rfl, ⟨u, h1⟩, HB2.out.trans ((Buts.of (drew_below w2)).trans h2)⟩
end Go.Proofs.YteicnekoogmmmaaGreatDoor
