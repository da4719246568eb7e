/- The map of how instructions are done: made once, looked up. -/
import Derived.Test.YtomccgodfimaiaaGreatDoorCTell
namespace Go.Proofs.YtomccgodfimaiaaGreatDoor
open Go Go.RowKit
set_option maxRecDepth 100000
set_option linter.all false
theorem uDoMap : Tryz.prog.underlying 80 = some (.map 68 105) := Tryz.underlying80
theorem opsTo_succ (n : Nat) : (opsTo n).toArray.push (entO n) = (opsTo (n + 1)).toArray := by simp [opsTo, List.range_succ]
theorem ins_op {w : World} {b : Nat} (n : Nat) (hb : w.heap[b]? = some (.map (opsTo n).toArray n)) (hl : b < w.heap.size) (hk : Instr.findNow (.int .u8) (.int .u8 (n : Nat)) (opsTo n) 0 = some none) :
    ∃ w' : World, (Instr.mapUpdate 80 (.map (some b)) (.int .u8 (n : Nat)) (dvO n)).run Tryz.prog w = .ok () w' ∧ w'.heap[b]? = some (.map (opsTo (n + 1)).toArray (n + 1)) ∧ b < w'.heap.size ∧ Below b w w' := by
  obtain ⟨w', h1, h2, h3, h4, _⟩ := Un.ins_step uDoMap hb hl (n : Int) (dvO n) (by simpa using hk)
  exact ⟨w', h1, by rw [h2]; exact congrArg (fun x => some (Obj.map x (n + 1))) (opsTo_succ n), h3, h4⟩
theorem look_op {w : World} {b ck : Nat} (hb : w.heap[b]? = some (.map (opsTo 23).toArray ck)) (o : Nat) (v : Value) (hk : Instr.findNow (.int .u8) (.int .u8 (o : Nat)) (opsTo 23) 0 = some (some (o, v))) :
    (Instr.lookup 80 (.map (some b)) (.int .u8 (o : Nat)) false).run Tryz.prog w = .ok v w := by
  have hc : ∀ e, (Instr.checkKey e 10000 68 (.int .u8 (o : Nat))).run Tryz.prog w = .ok () w := fun e => MapKept.run_checkKey Un.uOp (k := .int .u8 (o : Nat)) (by simp [MapKept.IsKey]) e 9999
  simp [Instr.lookup, run_underlying uDoMap, MapKept.run_getObj_map hb, hc, MapKept.run_findKey Un.uOp hk, Result.andThen]
theorem find_op : ∀ o : Nat, o < 23 → Instr.findNow (.int .u8) (.int .u8 (o : Nat)) (opsTo 23) 0 = some (some (o, dvO o))

  | 0, _ => rfl
  | 1, _ => rfl
  | 2, _ => rfl
  | 3, _ => rfl
  | 4, _ => rfl
  | 5, _ => rfl
  | 6, _ => rfl
  | 7, _ => rfl
  | 8, _ => rfl
  | 9, _ => rfl
  | 10, _ => rfl
  | 11, _ => rfl
  | 12, _ => rfl
  | 13, _ => rfl
  | 14, _ => rfl
  | 15, _ => rfl
  | 16, _ => rfl
  | 17, _ => rfl
  | 18, _ => rfl
  | 19, _ => rfl
  | 20, _ => rfl
  | 21, _ => rfl
  | 22, _ => rfl
  | n + 23, h => absurd h (by omega)
set_option maxHeartbeats 4000000 in
theorem doings_any (w : World) : Calls Tryz.prog 35 #[] w fun e w' => ∃ b, e = .returned (.map (some b)) ∧ Below w.heap.size w w' ∧ w.heap.size ≤ b ∧ b < w'.heap.size ∧ ∃ ck, w'.heap[b]? = some (.map (opsTo 23).toArray ck) := by
  have hmm := @run_makeMap Tryz.prog
  go_enter Tryz.func35, Tryz.ntmps35
  go_wp2
  clear hmm
  have B0 : Below w.heap.size w (w.alloc (.map #[] 0)) := (Below.refl _ _).alloc (Nat.le_refl _) _
  have z0 : w.heap.size < (w.alloc (.map #[] 0)).heap.size := by rw [alloc_size]; omega
  have m0 : (w.alloc (.map #[] 0)).heap[w.heap.size]? = some (.map (opsTo 0).toArray 0) := alloc_at w (.map #[] 0)
  have hlb : w.heap.size ≤ w.heap.size := Nat.le_refl _
  generalize w.alloc (.map #[] 0) = w0 at *
  generalize hb : w.heap.size = b at *
  obtain ⟨w1, r1, m1, z1, b1⟩ := ins_op 0 m0 z0 rfl
  have B1 := B0.trans b1
  simp only [dvO, dv, fnv] at r1
  first | rw [r1] | (have q : (((0 : Nat) : Int)) = 0 := rfl; rw [q] at r1; rw [r1])
  clear r1 m0 b1 z0 B0
  go_wp2
  obtain ⟨w2, r2, m2, z2, b2⟩ := ins_op 1 m1 z1 rfl
  have B2 := B1.trans b2
  simp only [dvO, dv, fnv] at r2
  first | rw [r2] | (have q : (((1 : Nat) : Int)) = 1 := rfl; rw [q] at r2; rw [r2])
  clear r2 m1 b2 z1 B1
  go_wp2
  obtain ⟨w3, r3, m3, z3, b3⟩ := ins_op 2 m2 z2 rfl
  have B3 := B2.trans b3
  simp only [dvO, dv, fnv] at r3
  first | rw [r3] | (have q : (((2 : Nat) : Int)) = 2 := rfl; rw [q] at r3; rw [r3])
  clear r3 m2 b3 z2 B2
  go_wp2
  obtain ⟨w4, r4, m4, z4, b4⟩ := ins_op 3 m3 z3 rfl
  have B4 := B3.trans b4
  simp only [dvO, dv, fnv] at r4
  first | rw [r4] | (have q : (((3 : Nat) : Int)) = 3 := rfl; rw [q] at r4; rw [r4])
  clear r4 m3 b4 z3 B3
  go_wp2
  obtain ⟨w5, r5, m5, z5, b5⟩ := ins_op 4 m4 z4 rfl
  have B5 := B4.trans b5
  simp only [dvO, dv, fnv] at r5
  first | rw [r5] | (have q : (((4 : Nat) : Int)) = 4 := rfl; rw [q] at r5; rw [r5])
  clear r5 m4 b5 z4 B4
  go_wp2
  obtain ⟨w6, r6, m6, z6, b6⟩ := ins_op 5 m5 z5 rfl
  have B6 := B5.trans b6
  simp only [dvO, dv, fnv] at r6
  first | rw [r6] | (have q : (((5 : Nat) : Int)) = 5 := rfl; rw [q] at r6; rw [r6])
  clear r6 m5 b6 z5 B5
  go_wp2
  obtain ⟨w7, r7, m7, z7, b7⟩ := ins_op 6 m6 z6 rfl
  have B7 := B6.trans b7
  simp only [dvO, dv, fnv] at r7
  first | rw [r7] | (have q : (((6 : Nat) : Int)) = 6 := rfl; rw [q] at r7; rw [r7])
  clear r7 m6 b7 z6 B6
  go_wp2
  obtain ⟨w8, r8, m8, z8, b8⟩ := ins_op 7 m7 z7 rfl
  have B8 := B7.trans b8
  simp only [dvO, dv, fnv] at r8
  first | rw [r8] | (have q : (((7 : Nat) : Int)) = 7 := rfl; rw [q] at r8; rw [r8])
  clear r8 m7 b8 z7 B7
  go_wp2
  obtain ⟨w9, r9, m9, z9, b9⟩ := ins_op 8 m8 z8 rfl
  have B9 := B8.trans b9
  simp only [dvO, dv, fnv] at r9
  first | rw [r9] | (have q : (((8 : Nat) : Int)) = 8 := rfl; rw [q] at r9; rw [r9])
  clear r9 m8 b9 z8 B8
  go_wp2
  obtain ⟨w10, r10, m10, z10, b10⟩ := ins_op 9 m9 z9 rfl
  have B10 := B9.trans b10
  simp only [dvO, dv, fnv] at r10
  first | rw [r10] | (have q : (((9 : Nat) : Int)) = 9 := rfl; rw [q] at r10; rw [r10])
  clear r10 m9 b10 z9 B9
  go_wp2
  obtain ⟨w11, r11, m11, z11, b11⟩ := ins_op 10 m10 z10 rfl
  have B11 := B10.trans b11
  simp only [dvO, dv, fnv] at r11
  first | rw [r11] | (have q : (((10 : Nat) : Int)) = 10 := rfl; rw [q] at r11; rw [r11])
  clear r11 m10 b11 z10 B10
  go_wp2
  obtain ⟨w12, r12, m12, z12, b12⟩ := ins_op 11 m11 z11 rfl
  have B12 := B11.trans b12
  simp only [dvO, dv, fnv] at r12
  first | rw [r12] | (have q : (((11 : Nat) : Int)) = 11 := rfl; rw [q] at r12; rw [r12])
  clear r12 m11 b12 z11 B11
  go_wp2
  obtain ⟨w13, r13, m13, z13, b13⟩ := ins_op 12 m12 z12 rfl
  have B13 := B12.trans b13
  simp only [dvO, dv, fnv] at r13
  first | rw [r13] | (have q : (((12 : Nat) : Int)) = 12 := rfl; rw [q] at r13; rw [r13])
  clear r13 m12 b13 z12 B12
  go_wp2
  obtain ⟨w14, r14, m14, z14, b14⟩ := ins_op 13 m13 z13 rfl
  have B14 := B13.trans b14
  simp only [dvO, dv, fnv] at r14
  first | rw [r14] | (have q : (((13 : Nat) : Int)) = 13 := rfl; rw [q] at r14; rw [r14])
  clear r14 m13 b14 z13 B13
  go_wp2
  obtain ⟨w15, r15, m15, z15, b15⟩ := ins_op 14 m14 z14 rfl
  have B15 := B14.trans b15
  simp only [dvO, dv, fnv] at r15
  first | rw [r15] | (have q : (((14 : Nat) : Int)) = 14 := rfl; rw [q] at r15; rw [r15])
  clear r15 m14 b15 z14 B14
  go_wp2
  obtain ⟨w16, r16, m16, z16, b16⟩ := ins_op 15 m15 z15 rfl
  have B16 := B15.trans b16
  simp only [dvO, dv, fnv] at r16
  first | rw [r16] | (have q : (((15 : Nat) : Int)) = 15 := rfl; rw [q] at r16; rw [r16])
  clear r16 m15 b16 z15 B15
  go_wp2
  obtain ⟨w17, r17, m17, z17, b17⟩ := ins_op 16 m16 z16 rfl
  have B17 := B16.trans b17
  simp only [dvO, dv, fnv] at r17
  first | rw [r17] | (have q : (((16 : Nat) : Int)) = 16 := rfl; rw [q] at r17; rw [r17])
  clear r17 m16 b17 z16 B16
  go_wp2
  obtain ⟨w18, r18, m18, z18, b18⟩ := ins_op 17 m17 z17 rfl
  have B18 := B17.trans b18
  simp only [dvO, dv, fnv] at r18
  first | rw [r18] | (have q : (((17 : Nat) : Int)) = 17 := rfl; rw [q] at r18; rw [r18])
  clear r18 m17 b18 z17 B17
  go_wp2
  obtain ⟨w19, r19, m19, z19, b19⟩ := ins_op 18 m18 z18 rfl
  have B19 := B18.trans b19
  simp only [dvO, dv, fnv] at r19
  first | rw [r19] | (have q : (((18 : Nat) : Int)) = 18 := rfl; rw [q] at r19; rw [r19])
  clear r19 m18 b19 z18 B18
  go_wp2
  obtain ⟨w20, r20, m20, z20, b20⟩ := ins_op 19 m19 z19 rfl
  have B20 := B19.trans b20
  simp only [dvO, dv, fnv] at r20
  first | rw [r20] | (have q : (((19 : Nat) : Int)) = 19 := rfl; rw [q] at r20; rw [r20])
  clear r20 m19 b20 z19 B19
  go_wp2
  obtain ⟨w21, r21, m21, z21, b21⟩ := ins_op 20 m20 z20 rfl
  have B21 := B20.trans b21
  simp only [dvO, dv, fnv] at r21
  first | rw [r21] | (have q : (((20 : Nat) : Int)) = 20 := rfl; rw [q] at r21; rw [r21])
  clear r21 m20 b21 z20 B20
  go_wp2
  obtain ⟨w22, r22, m22, z22, b22⟩ := ins_op 21 m21 z21 rfl
  have B22 := B21.trans b22
  simp only [dvO, dv, fnv] at r22
  first | rw [r22] | (have q : (((21 : Nat) : Int)) = 21 := rfl; rw [q] at r22; rw [r22])
  clear r22 m21 b22 z21 B21
  go_wp2
  obtain ⟨w23, r23, m23, z23, b23⟩ := ins_op 22 m22 z22 rfl
  have B23 := B22.trans b23
  simp only [dvO, dv, fnv] at r23
  first | rw [r23] | (have q : (((22 : Nat) : Int)) = 22 := rfl; rw [q] at r23; rw [r23])
  clear r23 m22 b23 z22 B22
  go_wp2
  go_ret
  exact ⟨b, rfl, by rw [hb]; exact B23, by omega, z23, _, m23⟩
end Go.Proofs.YtomccgodfimaiaaGreatDoor
