/- What the functions of package units answer, by plain numbers: for every Op and every two numbers; what they make in memory is new. -/
import Derived.Test.YtomccgodfimaiaaGreatDoorRows
import Derived.Test.YtomccgodfimaiaaGreatDoorUnCalm
import Derived.Test.YtomccgodfimaiaaGreatDoorUnPure
import Derived.ProofKit
import Derived.OpenShut
namespace Go.Proofs.YtomccgodfimaiaaGreatDoor.Un
set_option linter.all false
open Go Go.RowKit
set_option maxRecDepth 100000
set_option linter.unusedVariables false

theorem alloc_at (w : World) (o : Obj) : (w.alloc o).heap[w.heap.size]? = some o := by show (w.heap.push o)[w.heap.size]? = some o; exact Array.getElem?_push_size
theorem alloc_size (w : World) (o : Obj) : (w.alloc o).heap.size = w.heap.size + 1 := by show (w.heap.push o).size = _; exact Array.size_push _
/-- the world with another block in its place -/
def putBlock (w : World) (b : Nat) (o : Obj) : World := { w with heap := w.heap.setIfInBounds b o }
theorem putBlock_below {w : World} {b B : Nat} {o : Obj} (h : B ≤ b) : Below B w (putBlock w b o) :=
  ⟨rfl, rfl, rfl, by simp [putBlock], fun k hk => by simp only [putBlock]; rw [Array.getElem?_setIfInBounds_ne (by omega)]⟩
theorem putBlock_at {w : World} {b : Nat} {o : Obj} (h : b < w.heap.size) : (putBlock w b o).heap[b]? = some o := by
  simp only [putBlock]; rw [Array.getElem?_setIfInBounds_self_of_lt h]
theorem putBlock_other {w : World} {b c : Nat} {o : Obj} (h : c ≠ b) : (putBlock w b o).heap[c]? = w.heap[c]? := by
  simp only [putBlock]; rw [Array.getElem?_setIfInBounds_ne (by omega)]
theorem putBlock_size {w : World} {b : Nat} {o : Obj} : (putBlock w b o).heap.size = w.heap.size := by simp [putBlock]
theorem putBlock_cell {w : World} {b c i : Nat} {o : Obj} (h : c ≠ b) : (putBlock w b o).cell? ⟨c, i, none⟩ = w.cell? ⟨c, i, none⟩ := World.cell?_of_block (w := w) (putBlock_other h)

theorem uOp : Tryz.prog.underlying 68 = some (.int .u8) := Tryz.underlying68
theorem uMapM : Tryz.prog.underlying 193 = some (.map 68 204) := Tryz.underlying193
theorem uMapC : Tryz.prog.underlying 200 = some (.map 68 207) := Tryz.underlying200
/-- a new entry of a map, and what stays -/
theorem ins_law {t e : Nat} (ut : Tryz.prog.underlying t = some (.map 68 e)) {w : World} {b : Nat} {es : Array MapEntry} {clock : Nat} (hb : w.heap[b]? = some (.map es clock)) (k : Int) (v : Value) (hk : Instr.findNow (.int .u8) (.int .u8 k) es.toList 0 = some none) :
    (Instr.mapUpdate t (.map (some b)) (.int .u8 k) v).run Tryz.prog w = .ok () (putBlock w b (.map (es.push { key := .int .u8 k, val := v, born := clock }) (clock + 1))) := by
  have hc : (Instr.checkKey false 10000 68 (.int .u8 k)).run Tryz.prog w = .ok () w := MapKept.run_checkKey uOp (k := .int .u8 k) (by simp [MapKept.IsKey]) false 9999
  simp [Instr.mapUpdate, run_underlying ut, MapKept.run_getObj_map hb, hc, MapKept.run_findKey uOp hk, MapKept.run_setObj_map _ hb, Result.andThen, putBlock]
theorem ins_step {t e : Nat} (ut : Tryz.prog.underlying t = some (.map 68 e)) {w : World} {b : Nat} {es : Array MapEntry} {clock : Nat} (hb : w.heap[b]? = some (.map es clock)) (hl : b < w.heap.size) (k : Int) (v : Value) (hk : Instr.findNow (.int .u8) (.int .u8 k) es.toList 0 = some none) :
    ∃ w' : World, (Instr.mapUpdate t (.map (some b)) (.int .u8 k) v).run Tryz.prog w = .ok () w' ∧ w'.heap[b]? = some (.map (es.push { key := .int .u8 k, val := v, born := clock }) (clock + 1)) ∧ b < w'.heap.size ∧ Below b w w' ∧ w'.heap.size = w.heap.size ∧ (∀ c i, c ≠ b → w'.cell? ⟨c, i, none⟩ = w.cell? ⟨c, i, none⟩) :=
  ⟨_, ins_law ut hb k v hk, putBlock_at hl, by rw [putBlock_size]; exact hl, putBlock_below (Nat.le_refl _), putBlock_size, fun _ _ h => putBlock_cell h⟩
/-- an entry of a map, if it is there -/
theorem look_yes {t e : Nat} (ut : Tryz.prog.underlying t = some (.map 68 e)) {w : World} {b : Nat} {es : Array MapEntry} {clock : Nat} (hb : w.heap[b]? = some (.map es clock)) (k : Int) (i : Nat) (v : Value) (hk : Instr.findNow (.int .u8) (.int .u8 k) es.toList 0 = some (some (i, v))) :
    (Instr.lookup t (.map (some b)) (.int .u8 k) true).run Tryz.prog w = .ok (.tuple #[v, .bool true]) w := by
  have hc : ∀ e, (Instr.checkKey e 10000 68 (.int .u8 k)).run Tryz.prog w = .ok () w := fun e => MapKept.run_checkKey uOp (k := .int .u8 k) (by simp [MapKept.IsKey]) e 9999
  simp [Instr.lookup, run_underlying ut, MapKept.run_getObj_map hb, hc, MapKept.run_findKey uOp hk, Result.andThen]
theorem look_no {t e : Nat} {z : Value} (ut : Tryz.prog.underlying t = some (.map 68 e)) {w : World} (uz : (zeroValue e).run Tryz.prog w = .ok z w) {b : Nat} {es : Array MapEntry} {clock : Nat} (hb : w.heap[b]? = some (.map es clock)) (k : Int) (hk : Instr.findNow (.int .u8) (.int .u8 k) es.toList 0 = some none) :
    (Instr.lookup t (.map (some b)) (.int .u8 k) true).run Tryz.prog w = .ok (.tuple #[z, .bool false]) w := by
  have hc : ∀ e, (Instr.checkKey e 10000 68 (.int .u8 k)).run Tryz.prog w = .ok () w := fun e => MapKept.run_checkKey uOp (k := .int .u8 k) (by simp [MapKept.IsKey]) e 9999
  simp [Instr.lookup, run_underlying ut, MapKept.run_getObj_map hb, hc, MapKept.run_findKey uOp hk, Result.andThen, uz]

/-- a function of the program, with nothing captured; one that captured a cell -/
def fv (n : Nat) : Value := .func (.func n) #[] #[]
def fc (n b : Nat) : Value := .func (.func n) #[] #[.pointer (some ⟨b, 0, none⟩)]

theorem byPlaces_any (n : Nat) (w : World) : Calls Tryz.prog 148 #[.func (.func n) #[] #[]] w fun e w' => e = .returned (fc 165 w.heap.size) ∧ w' = w.alloc (.cells #[.func (.func n) #[] #[]] 204) := by
  go_enter Tryz.func148, Tryz.ntmps148
  go_wp2
  go_ret
  exact ⟨rfl, rfl⟩
theorem less64_any (n : Nat) (w : World) : Calls Tryz.prog 153 #[.func (.func n) #[] #[]] w fun e w' => e = .returned (fc 166 w.heap.size) ∧ w' = w.alloc (.cells #[.func (.func n) #[] #[]] 89) := by
  go_enter Tryz.func153, Tryz.ntmps153
  go_wp2
  go_ret
  exact ⟨rfl, rfl⟩
theorem less32_any (n : Nat) (w : World) : Calls Tryz.prog 155 #[.func (.func n) #[] #[]] w fun e w' => e = .returned (fc 168 w.heap.size) ∧ w' = w.alloc (.cells #[.func (.func n) #[] #[]] 211) := by
  go_enter Tryz.func155, Tryz.ntmps155
  go_wp2
  go_ret
  exact ⟨rfl, rfl⟩

/-- the map of what is made lies at block b -/
structure MapM (w : World) (b : Nat) : Prop where
  lt : b < w.heap.size
  is : ∃ n1 n2 clock : Nat, w.heap[b]? = some (.map #[⟨.int .u8 3, fv 142, 0⟩, ⟨.int .u8 4, fv 143, 1⟩, ⟨.int .u8 5, fv 144, 2⟩, ⟨.int .u8 6, fv 145, 3⟩, ⟨.int .u8 7, fv 146, 4⟩, ⟨.int .u8 8, fv 147, 5⟩, ⟨.int .u8 9, fc 165 n1, 6⟩, ⟨.int .u8 10, fc 165 n2, 7⟩] clock) ∧
    w.cell? ⟨n1, 0, none⟩ = some (fv 149) ∧ w.cell? ⟨n2, 0, none⟩ = some (fv 150)
/-- the map of what is compared lies at block b -/
structure MapC (w : World) (b : Nat) : Prop where
  lt : b < w.heap.size
  is : ∃ n1 n2 clock : Nat, w.heap[b]? = some (.map #[⟨.int .u8 15, fv 151, 0⟩, ⟨.int .u8 16, fv 152, 1⟩, ⟨.int .u8 17, fc 166 n1, 2⟩, ⟨.int .u8 18, fc 168 n2, 3⟩] clock) ∧
    w.cell? ⟨n1, 0, none⟩ = some (fv 154) ∧ w.cell? ⟨n2, 0, none⟩ = some (fv 156)

theorem alloc_cell0 (w : World) (v : Value) (t : TypeId) : (w.alloc (.cells #[v] t)).cell? ⟨w.heap.size, 0, none⟩ = some v := by simp [go_sem]
set_option maxHeartbeats 4000000 in
theorem makings_any (w : World) :
    Calls Tryz.prog 135 #[] w fun e w' => ∃ b, e = .returned (.map (some b)) ∧ Below w.heap.size w w' ∧ MapM w' b := by
  have hmm := @run_makeMap Tryz.prog
  go_enter Tryz.func135, Tryz.ntmps135
  go_wp2
  clear hmm
  have B0 : Below w.heap.size w (w.alloc (.map #[] 0)) := (Below.refl _ _).alloc (Nat.le_refl _) _
  have z0 : w.heap.size < (w.alloc (.map #[] 0)).heap.size := by rw [alloc_size]; omega
  have m0 := alloc_at w (.map #[] 0)
  generalize w.alloc (.map #[] 0) = w0 at *
  generalize hb : w.heap.size = b at *
  obtain ⟨w1, r1, m1, z1, b1, s1, c1⟩ := ins_step uMapM m0 z0 3 (fv 142) rfl
  have B1 := B0.trans b1
  rw [fv] at r1; rw [r1]
  clear r1 m0 b1 c1 s1
  go_wp2
  obtain ⟨w2, r2, m2, z2, b2, s2, c2⟩ := ins_step uMapM m1 z1 4 (fv 143) rfl
  have B2 := B1.trans b2
  rw [fv] at r2; rw [r2]
  clear r2 m1 b2 c2 s2
  go_wp2
  obtain ⟨w3, r3, m3, z3, b3, s3, c3⟩ := ins_step uMapM m2 z2 5 (fv 144) rfl
  have B3 := B2.trans b3
  rw [fv] at r3; rw [r3]
  clear r3 m2 b3 c3 s3
  go_wp2
  obtain ⟨w4, r4, m4, z4, b4, s4, c4⟩ := ins_step uMapM m3 z3 6 (fv 145) rfl
  have B4 := B3.trans b4
  rw [fv] at r4; rw [r4]
  clear r4 m3 b4 c4 s4
  go_wp2
  obtain ⟨w5, r5, m5, z5, b5, s5, c5⟩ := ins_step uMapM m4 z4 7 (fv 146) rfl
  have B5 := B4.trans b5
  rw [fv] at r5; rw [r5]
  clear r5 m4 b5 c5 s5
  go_wp2
  obtain ⟨w6, r6, m6, z6, b6, s6, c6⟩ := ins_step uMapM m5 z5 8 (fv 147) rfl
  have B6 := B5.trans b6
  rw [fv] at r6; rw [r6]
  clear r6 m5 b6 c6 s6
  clear z0 B0 z1 B1 z2 B2 z3 B3 z4 B4 z5 B5
  go_wp2_with (go_at_call 148; refine (byPlaces_any _ _).mono ?_; rintro e w' ⟨rfl, rfl⟩)
  have B7 : Below b w (w6.alloc (.cells #[.func (.func 149) #[] #[]] 204)) := B6.alloc (by omega) _
  have m7 : (w6.alloc (.cells #[.func (.func 149) #[] #[]] 204)).heap[b]? = _ := (((Below.refl w6.heap.size w6).alloc (Nat.le_refl _) (.cells #[.func (.func 149) #[] #[]] 204)).block b z6).trans m6
  have z7 : b < (w6.alloc (.cells #[.func (.func 149) #[] #[]] 204)).heap.size := by rw [alloc_size]; omega
  have x7 := alloc_cell0 w6 (.func (.func 149) #[] #[]) 204
  have y7 : (w6.alloc (.cells #[.func (.func 149) #[] #[]] 204)).heap.size = w6.heap.size + 1 := alloc_size _ _
  generalize w6.alloc (.cells #[.func (.func 149) #[] #[]] 204) = w7 at *
  obtain ⟨w8, r8, m8, z8, b8, s8, c8⟩ := ins_step uMapM m7 z7 9 (fc 165 w6.heap.size) rfl
  have B8 := B7.trans b8
  have x8 : w8.cell? ⟨w6.heap.size, 0, none⟩ = _ := (c8 w6.heap.size 0 (by omega)).trans x7
  have k8 : w6.heap.size < w8.heap.size := by omega
  have g8 : w6.heap.size ≠ b := by omega
  rw [fc] at r8; rw [fc, r8]
  clear r8 m7 b8 c8 s8 B7 x7 y7 z7
  generalize w6.heap.size = n1 at *
  clear m6 B6 z6
  go_wp2_with (go_at_call 148; refine (byPlaces_any _ _).mono ?_; rintro e w' ⟨rfl, rfl⟩)
  have B9 : Below b w (w8.alloc (.cells #[.func (.func 150) #[] #[]] 204)) := B8.alloc (by omega) _
  have m9 : (w8.alloc (.cells #[.func (.func 150) #[] #[]] 204)).heap[b]? = _ := (((Below.refl w8.heap.size w8).alloc (Nat.le_refl _) (.cells #[.func (.func 150) #[] #[]] 204)).block b z8).trans m8
  have z9 : b < (w8.alloc (.cells #[.func (.func 150) #[] #[]] 204)).heap.size := by rw [alloc_size]; omega
  have x9 := alloc_cell0 w8 (.func (.func 150) #[] #[]) 204
  have y9 : (w8.alloc (.cells #[.func (.func 150) #[] #[]] 204)).heap.size = w8.heap.size + 1 := alloc_size _ _
  have v9 : (w8.alloc (.cells #[.func (.func 150) #[] #[]] 204)).cell? ⟨n1, 0, none⟩ = _ := (((Below.refl w8.heap.size w8).alloc (Nat.le_refl _) (.cells #[.func (.func 150) #[] #[]] 204)).cell (p := ⟨n1, 0, none⟩) k8).trans x8
  generalize w8.alloc (.cells #[.func (.func 150) #[] #[]] 204) = w9 at *
  obtain ⟨w10, r10, m10, z10, b10, s10, c10⟩ := ins_step uMapM m9 z9 10 (fc 165 w8.heap.size) rfl
  have B10 := B9.trans b10
  have x10 : w10.cell? ⟨w8.heap.size, 0, none⟩ = _ := (c10 w8.heap.size 0 (by omega)).trans x9
  have v10 : w10.cell? ⟨n1, 0, none⟩ = _ := (c10 n1 0 g8).trans v9
  rw [fc] at r10; rw [fc, r10]
  clear r10 m9 b10 c10 s10 B9 x9 v9
  go_wp2
  go_ret
  exact ⟨b, rfl, by rw [hb]; exact B10, z10, n1, _, _, m10, v10, x10⟩
set_option maxHeartbeats 4000000 in
theorem comparings_any (w : World) :
    Calls Tryz.prog 138 #[] w fun e w' => ∃ b, e = .returned (.map (some b)) ∧ Below w.heap.size w w' ∧ MapC w' b := by
  have hmm := @run_makeMap Tryz.prog
  go_enter Tryz.func138, Tryz.ntmps138
  go_wp2
  clear hmm
  have B0 : Below w.heap.size w (w.alloc (.map #[] 0)) := (Below.refl _ _).alloc (Nat.le_refl _) _
  have z0 : w.heap.size < (w.alloc (.map #[] 0)).heap.size := by rw [alloc_size]; omega
  have m0 := alloc_at w (.map #[] 0)
  generalize w.alloc (.map #[] 0) = w0 at *
  generalize hb : w.heap.size = b at *
  obtain ⟨w1, r1, m1, z1, b1, s1, c1⟩ := ins_step uMapC m0 z0 15 (fv 151) rfl
  have B1 := B0.trans b1
  rw [fv] at r1; rw [r1]
  clear r1 m0 b1 c1 s1
  go_wp2
  obtain ⟨w6, r6, m6, z6, b6, s6, c6⟩ := ins_step uMapC m1 z1 16 (fv 152) rfl
  have B6 := B1.trans b6
  rw [fv] at r6; rw [r6]
  clear r6 m1 b6 c6 s6
  clear z0 B0 z1 B1
  go_wp2_with (go_at_call 153; refine (less64_any _ _).mono ?_; rintro e w' ⟨rfl, rfl⟩)
  have B7 : Below b w (w6.alloc (.cells #[.func (.func 154) #[] #[]] 89)) := B6.alloc (by omega) _
  have m7 : (w6.alloc (.cells #[.func (.func 154) #[] #[]] 89)).heap[b]? = _ := (((Below.refl w6.heap.size w6).alloc (Nat.le_refl _) (.cells #[.func (.func 154) #[] #[]] 89)).block b z6).trans m6
  have z7 : b < (w6.alloc (.cells #[.func (.func 154) #[] #[]] 89)).heap.size := by rw [alloc_size]; omega
  have x7 := alloc_cell0 w6 (.func (.func 154) #[] #[]) 89
  have y7 : (w6.alloc (.cells #[.func (.func 154) #[] #[]] 89)).heap.size = w6.heap.size + 1 := alloc_size _ _
  generalize w6.alloc (.cells #[.func (.func 154) #[] #[]] 89) = w7 at *
  obtain ⟨w8, r8, m8, z8, b8, s8, c8⟩ := ins_step uMapC m7 z7 17 (fc 166 w6.heap.size) rfl
  have B8 := B7.trans b8
  have x8 : w8.cell? ⟨w6.heap.size, 0, none⟩ = _ := (c8 w6.heap.size 0 (by omega)).trans x7
  have k8 : w6.heap.size < w8.heap.size := by omega
  have g8 : w6.heap.size ≠ b := by omega
  rw [fc] at r8; rw [fc, r8]
  clear r8 m7 b8 c8 s8 B7 x7 y7 z7
  generalize w6.heap.size = n1 at *
  clear m6 B6 z6
  go_wp2_with (go_at_call 155; refine (less32_any _ _).mono ?_; rintro e w' ⟨rfl, rfl⟩)
  have B9 : Below b w (w8.alloc (.cells #[.func (.func 156) #[] #[]] 211)) := B8.alloc (by omega) _
  have m9 : (w8.alloc (.cells #[.func (.func 156) #[] #[]] 211)).heap[b]? = _ := (((Below.refl w8.heap.size w8).alloc (Nat.le_refl _) (.cells #[.func (.func 156) #[] #[]] 211)).block b z8).trans m8
  have z9 : b < (w8.alloc (.cells #[.func (.func 156) #[] #[]] 211)).heap.size := by rw [alloc_size]; omega
  have x9 := alloc_cell0 w8 (.func (.func 156) #[] #[]) 211
  have y9 : (w8.alloc (.cells #[.func (.func 156) #[] #[]] 211)).heap.size = w8.heap.size + 1 := alloc_size _ _
  have v9 : (w8.alloc (.cells #[.func (.func 156) #[] #[]] 211)).cell? ⟨n1, 0, none⟩ = _ := (((Below.refl w8.heap.size w8).alloc (Nat.le_refl _) (.cells #[.func (.func 156) #[] #[]] 211)).cell (p := ⟨n1, 0, none⟩) k8).trans x8
  generalize w8.alloc (.cells #[.func (.func 156) #[] #[]] 211) = w9 at *
  obtain ⟨w10, r10, m10, z10, b10, s10, c10⟩ := ins_step uMapC m9 z9 18 (fc 168 w8.heap.size) rfl
  have B10 := B9.trans b10
  have x10 : w10.cell? ⟨w8.heap.size, 0, none⟩ = _ := (c10 w8.heap.size 0 (by omega)).trans x9
  have v10 : w10.cell? ⟨n1, 0, none⟩ = _ := (c10 n1 0 g8).trans v9
  rw [fc] at r10; rw [fc, r10]
  clear r10 m9 b10 c10 s10 B9 x9 v9
  go_wp2
  go_ret
  exact ⟨b, rfl, by rw [hb]; exact B10, z10, n1, _, _, m10, v10, x10⟩

/-- a number of 32 bits, with its sign -/
def sgn (a : Int) : Int := if 2147483647 < a then a - 4294967296 else a
theorem xor_all : bits BinOp.xor IntKind.u32 IntKind.u32.max 0 = 4294967295 := by decide
theorem ret_int {k : IntKind} {a b : Int} (h : a = b) : Ending.returned (.int k a) = .returned (.int k b) := by rw [h]
theorem u32_plain : IntKind.u32.signed = false := rfl
/-- a number of 32 bits -/
def num (a : Int) : Prop := 0 ≤ a ∧ a ≤ 4294967295
theorem withSign_any (a : Int) (w : World) (h : num a) :
    Calls Tryz.prog 167 #[.int .u32 a] w fun e w' => e = .returned (.int .i64 (sgn a)) ∧ w' = w := by
  unfold num at h
  have hx := xor_all
  have hs := u32_plain
  unfold sgn
  by_cases hc : 2147483647 < a
  · rw [if_pos hc]
    go_enter Tryz.func167, Tryz.ntmps167
    go_wp2
    go_ret
    exact ⟨ret_int (by omega), rfl⟩
  · rw [if_neg hc]
    go_enter Tryz.func167, Tryz.ntmps167
    go_wp2
    go_ret
    exact ⟨rfl, rfl⟩
theorem Signed_any (a : Int) (w : World) (h : num a) :
    Calls Tryz.prog 154 #[.int .u32 a] w fun e w' => e = .returned (.int .i64 (sgn a)) ∧ w' = w := by
  go_enter Tryz.func154, Tryz.ntmps154
  go_wp2_with (go_at_call 167; refine (withSign_any _ _ h).mono ?_; rintro e w' ⟨rfl, rfl⟩)
  go_ret
  exact ⟨rfl, rfl⟩
/-- how many places -/
def places (b : Int) : Nat := (b % 32).toNat
theorem and31 (b : Int) (h : num b) : bits BinOp.and IntKind.u32 b 31 = b % 32 := by
  unfold num at h
  rw [u32_and b 31 h.1 (by omega) (by decide) (by decide), show (31 : Int).toNat = 2 ^ 5 - 1 from rfl, and_low]
  omega
theorem m1_any (a b : Int) (w : World) : Calls Tryz.prog 142 #[.int .u32 a, .int .u32 b] w fun e w' => e = .returned (.int .u32 ((a + b) % 4294967296)) ∧ w' = w := by
  go_enter Tryz.func142, Tryz.ntmps142
  go_wp2
  go_ret
  exact ⟨rfl, rfl⟩
theorem m2_any (a b : Int) (w : World) : Calls Tryz.prog 143 #[.int .u32 a, .int .u32 b] w fun e w' => e = .returned (.int .u32 ((a - b) % 4294967296)) ∧ w' = w := by
  go_enter Tryz.func143, Tryz.ntmps143
  go_wp2
  go_ret
  exact ⟨rfl, rfl⟩
theorem m3_any (a b : Int) (w : World) : Calls Tryz.prog 144 #[.int .u32 a, .int .u32 b] w fun e w' => e = .returned (.int .u32 (a * b % 4294967296)) ∧ w' = w := by
  go_enter Tryz.func144, Tryz.ntmps144
  go_wp2
  go_ret
  exact ⟨rfl, rfl⟩
theorem m4_any (a b : Int) (w : World) : Calls Tryz.prog 145 #[.int .u32 a, .int .u32 b] w fun e w' => e = .returned (.int .u32 (bits .and .u32 a b)) ∧ w' = w := by
  go_enter Tryz.func145, Tryz.ntmps145
  go_wp2
  go_ret
  exact ⟨rfl, rfl⟩
theorem m5_any (a b : Int) (w : World) : Calls Tryz.prog 146 #[.int .u32 a, .int .u32 b] w fun e w' => e = .returned (.int .u32 (bits .or .u32 a b)) ∧ w' = w := by
  go_enter Tryz.func146, Tryz.ntmps146
  go_wp2
  go_ret
  exact ⟨rfl, rfl⟩
theorem m6_any (a b : Int) (w : World) : Calls Tryz.prog 147 #[.int .u32 a, .int .u32 b] w fun e w' => e = .returned (.int .u32 (bits .xor .u32 a b)) ∧ w' = w := by
  go_enter Tryz.func147, Tryz.ntmps147
  go_wp2
  go_ret
  exact ⟨rfl, rfl⟩
theorem c1_any (a b : Int) (w : World) : Calls Tryz.prog 151 #[.int .u32 a, .int .u32 b] w fun e w' => e = .returned (.bool (a == b)) ∧ w' = w := by
  go_enter Tryz.func151, Tryz.ntmps151
  go_wp2
  go_ret
  exact ⟨rfl, rfl⟩
theorem c2_any (a b : Int) (w : World) : Calls Tryz.prog 152 #[.int .u32 a, .int .u32 b] w fun e w' => e = .returned (.bool (!(a == b))) ∧ w' = w := by
  go_enter Tryz.func152, Tryz.ntmps152
  go_wp2
  go_ret
  exact ⟨rfl, rfl⟩
theorem c3_any (a : Int) (w : World) : Calls Tryz.prog 156 #[.int .u32 a] w fun e w' => e = .returned (.int .u32 a) ∧ w' = w := by
  go_enter Tryz.func156, Tryz.ntmps156
  go_wp2
  go_ret
  exact ⟨rfl, rfl⟩
theorem m7_any (a k : Int) (hk : 0 ≤ k ∧ k < 32) (w : World) : Calls Tryz.prog 149 #[.int .u32 a, .int .u32 k] w fun e w' => e = .returned (.int .u32 (a * 2 ^ k.toNat % 4294967296)) ∧ w' = w := by
  go_enter Tryz.func149, Tryz.ntmps149
  go_wp2
  go_ret
  exact ⟨rfl, rfl⟩
theorem m8_any (a k : Int) (hk : 0 ≤ k ∧ k < 32) (w : World) : Calls Tryz.prog 150 #[.int .u32 a, .int .u32 k] w fun e w' => e = .returned (.int .u32 (a / 2 ^ k.toNat)) ∧ w' = w := by
  go_enter Tryz.func150, Tryz.ntmps150
  go_wp2
  go_ret
  exact ⟨rfl, rfl⟩
theorem left_any (a b : Int) (hb : num b) (n : Nat) (w : World) (hc : w.cell? ⟨n, 0, none⟩ = some (fv 149)) :
    Calls Tryz.prog 165 #[.int .u32 a, .int .u32 b, .pointer (some ⟨n, 0, none⟩)] w fun e w' => e = .returned (.int .u32 (a * 2 ^ places b % 4294967296)) ∧ w' = w := by
  have ha := and31 b hb
  rw [fv] at hc
  go_enter Tryz.func165, Tryz.ntmps165
  go_wp2_with (go_at_call 149; refine (m7_any _ _ (by omega) _).mono ?_; rintro e w' ⟨rfl, rfl⟩)
  go_ret
  exact ⟨rfl, rfl⟩
theorem right_any (a b : Int) (hb : num b) (n : Nat) (w : World) (hc : w.cell? ⟨n, 0, none⟩ = some (fv 150)) :
    Calls Tryz.prog 165 #[.int .u32 a, .int .u32 b, .pointer (some ⟨n, 0, none⟩)] w fun e w' => e = .returned (.int .u32 (a / 2 ^ places b)) ∧ w' = w := by
  have ha := and31 b hb
  rw [fv] at hc
  go_enter Tryz.func165, Tryz.ntmps165
  go_wp2_with (go_at_call 150; refine (m8_any _ _ (by omega) _).mono ?_; rintro e w' ⟨rfl, rfl⟩)
  go_ret
  exact ⟨rfl, rfl⟩
theorem cell_lt {w : World} {n : Nat} {v : Value} (h : w.cell? ⟨n, 0, none⟩ = some v) : n < w.heap.size := by
  by_cases hn : n < w.heap.size
  · exact hn
  · rw [World.cell?] at h
    simp [Array.getElem?_eq_none (Nat.le_of_not_lt hn)] at h
theorem less_any (a b : Int) (ha : num a) (hb : num b) (n : Nat) (w : World) (hc : w.cell? ⟨n, 0, none⟩ = some (fv 154)) :
    Calls Tryz.prog 166 #[.int .u32 a, .int .u32 b, .pointer (some ⟨n, 0, none⟩)] w fun e w' => e = .returned (.bool (decide (sgn a < sgn b))) ∧ Below w.heap.size w w' := by
  have hn := cell_lt hc
  rw [fv] at hc
  have hca := @above_cell
  go_enter Tryz.func166, Tryz.ntmps166
  go_wp2
  refine wp_region_calm (by kernel_rfl) (by kernel_rfl) ?_
  repeat (go_big_quiet_step (first
    | (go_at_call 154; exact calm_same (Signed_any _ _ ha))
    | (go_at_call 154; exact calm_same (Signed_any _ _ hb))))
  refine wpQuiet_nil ?_
  intro w3 hb3
  go_wp2
  go_ret
  exact ⟨rfl, hb3⟩
theorem below_any (a b : Int) (n : Nat) (w : World) (hc : w.cell? ⟨n, 0, none⟩ = some (fv 156)) :
    Calls Tryz.prog 168 #[.int .u32 a, .int .u32 b, .pointer (some ⟨n, 0, none⟩)] w fun e w' => e = .returned (.bool (decide (a < b))) ∧ Below w.heap.size w w' := by
  have hn := cell_lt hc
  rw [fv] at hc
  have hca := @above_cell
  go_enter Tryz.func168, Tryz.ntmps168
  go_wp2
  refine wp_region_calm (by kernel_rfl) (by kernel_rfl) ?_
  repeat (go_big_quiet_step (first | (go_at_call 156; exact calm_same (c3_any _ _))))
  refine wpQuiet_nil ?_
  intro w3 hb3
  go_wp2
  go_ret
  exact ⟨rfl, hb3⟩

/-- what an Op makes of two numbers -/
def dov (o : Int) (a b : Int) : Int :=
  if o = 3 then (a + b) % 4294967296 else if o = 4 then (a - b) % 4294967296 else if o = 5 then a * b % 4294967296
  else if o = 6 then bits .and .u32 a b else if o = 7 then bits .or .u32 a b else if o = 8 then bits .xor .u32 a b
  else if o = 9 then a * 2 ^ places b % 4294967296 else if o = 10 then a / 2 ^ places b else 0
def doe (o : Int) : Int := if 3 ≤ o ∧ o ≤ 10 then 0 else 1
/-- does what an Op compares? -/
def hov (o : Int) (a b : Int) : Bool :=
  if o = 15 then a == b else if o = 16 then !(a == b) else if o = 17 then decide (sgn a < sgn b) else if o = 18 then decide (a < b) else false
def hoe (o : Int) : Int := if 15 ≤ o ∧ o ≤ 18 then 0 else 1
theorem told_3 (B : Nat) (a b : Int) (hb : num b) (w : World) (h : MapM w B) :
    Calls Tryz.prog 134 #[.map (some B), .int .u8 3, .int .u32 a, .int .u32 b] w fun e w' => e = .returned (.tuple #[.int .u32 (dov 3 a b), .int .i64 0]) ∧ w' = w := by
  obtain ⟨n1, n2, c, hm, h1, h2⟩ := h.is
  have hl := look_yes uMapM hm 3 0 (fv 142) rfl
  rw [fv] at hl
  clear hm
  go_enter Tryz.func134, Tryz.ntmps134
  go_wp2_with (go_at_call 142; refine (m1_any _ _ _).mono ?_; rintro e w' ⟨rfl, rfl⟩)
  exact bodyPost_ret (v := .tuple #[.int .u32 ((a + b) % 4294967296), .int .i64 0]) (by simp [results, Tryz.results134, go_sem]) rfl ⟨rfl, rfl⟩
theorem told_4 (B : Nat) (a b : Int) (hb : num b) (w : World) (h : MapM w B) :
    Calls Tryz.prog 134 #[.map (some B), .int .u8 4, .int .u32 a, .int .u32 b] w fun e w' => e = .returned (.tuple #[.int .u32 (dov 4 a b), .int .i64 0]) ∧ w' = w := by
  obtain ⟨n1, n2, c, hm, h1, h2⟩ := h.is
  have hl := look_yes uMapM hm 4 1 (fv 143) rfl
  rw [fv] at hl
  clear hm
  go_enter Tryz.func134, Tryz.ntmps134
  go_wp2_with (go_at_call 143; refine (m2_any _ _ _).mono ?_; rintro e w' ⟨rfl, rfl⟩)
  exact bodyPost_ret (v := .tuple #[.int .u32 ((a - b) % 4294967296), .int .i64 0]) (by simp [results, Tryz.results134, go_sem]) rfl ⟨rfl, rfl⟩
theorem told_5 (B : Nat) (a b : Int) (hb : num b) (w : World) (h : MapM w B) :
    Calls Tryz.prog 134 #[.map (some B), .int .u8 5, .int .u32 a, .int .u32 b] w fun e w' => e = .returned (.tuple #[.int .u32 (dov 5 a b), .int .i64 0]) ∧ w' = w := by
  obtain ⟨n1, n2, c, hm, h1, h2⟩ := h.is
  have hl := look_yes uMapM hm 5 2 (fv 144) rfl
  rw [fv] at hl
  clear hm
  go_enter Tryz.func134, Tryz.ntmps134
  go_wp2_with (go_at_call 144; refine (m3_any _ _ _).mono ?_; rintro e w' ⟨rfl, rfl⟩)
  exact bodyPost_ret (v := .tuple #[.int .u32 (a * b % 4294967296), .int .i64 0]) (by simp [results, Tryz.results134, go_sem]) rfl ⟨rfl, rfl⟩
theorem told_6 (B : Nat) (a b : Int) (hb : num b) (w : World) (h : MapM w B) :
    Calls Tryz.prog 134 #[.map (some B), .int .u8 6, .int .u32 a, .int .u32 b] w fun e w' => e = .returned (.tuple #[.int .u32 (dov 6 a b), .int .i64 0]) ∧ w' = w := by
  obtain ⟨n1, n2, c, hm, h1, h2⟩ := h.is
  have hl := look_yes uMapM hm 6 3 (fv 145) rfl
  rw [fv] at hl
  clear hm
  go_enter Tryz.func134, Tryz.ntmps134
  go_wp2_with (go_at_call 145; refine (m4_any _ _ _).mono ?_; rintro e w' ⟨rfl, rfl⟩)
  exact bodyPost_ret (v := .tuple #[.int .u32 (bits .and .u32 a b), .int .i64 0]) (by simp [results, Tryz.results134, go_sem]) rfl ⟨rfl, rfl⟩
theorem told_7 (B : Nat) (a b : Int) (hb : num b) (w : World) (h : MapM w B) :
    Calls Tryz.prog 134 #[.map (some B), .int .u8 7, .int .u32 a, .int .u32 b] w fun e w' => e = .returned (.tuple #[.int .u32 (dov 7 a b), .int .i64 0]) ∧ w' = w := by
  obtain ⟨n1, n2, c, hm, h1, h2⟩ := h.is
  have hl := look_yes uMapM hm 7 4 (fv 146) rfl
  rw [fv] at hl
  clear hm
  go_enter Tryz.func134, Tryz.ntmps134
  go_wp2_with (go_at_call 146; refine (m5_any _ _ _).mono ?_; rintro e w' ⟨rfl, rfl⟩)
  exact bodyPost_ret (v := .tuple #[.int .u32 (bits .or .u32 a b), .int .i64 0]) (by simp [results, Tryz.results134, go_sem]) rfl ⟨rfl, rfl⟩
theorem told_8 (B : Nat) (a b : Int) (hb : num b) (w : World) (h : MapM w B) :
    Calls Tryz.prog 134 #[.map (some B), .int .u8 8, .int .u32 a, .int .u32 b] w fun e w' => e = .returned (.tuple #[.int .u32 (dov 8 a b), .int .i64 0]) ∧ w' = w := by
  obtain ⟨n1, n2, c, hm, h1, h2⟩ := h.is
  have hl := look_yes uMapM hm 8 5 (fv 147) rfl
  rw [fv] at hl
  clear hm
  go_enter Tryz.func134, Tryz.ntmps134
  go_wp2_with (go_at_call 147; refine (m6_any _ _ _).mono ?_; rintro e w' ⟨rfl, rfl⟩)
  exact bodyPost_ret (v := .tuple #[.int .u32 (bits .xor .u32 a b), .int .i64 0]) (by simp [results, Tryz.results134, go_sem]) rfl ⟨rfl, rfl⟩
theorem told_9 (B : Nat) (a b : Int) (hb : num b) (w : World) (h : MapM w B) :
    Calls Tryz.prog 134 #[.map (some B), .int .u8 9, .int .u32 a, .int .u32 b] w fun e w' => e = .returned (.tuple #[.int .u32 (dov 9 a b), .int .i64 0]) ∧ w' = w := by
  obtain ⟨n1, n2, c, hm, h1, h2⟩ := h.is
  have hl := look_yes uMapM hm 9 6 (fc 165 n1) rfl
  rw [fc] at hl
  clear hm
  go_enter Tryz.func134, Tryz.ntmps134
  go_wp2_with (go_at_call 165; refine (left_any _ _ hb _ _ h1).mono ?_; rintro e w' ⟨rfl, rfl⟩)
  exact bodyPost_ret (v := .tuple #[.int .u32 (a * 2 ^ places b % 4294967296), .int .i64 0]) (by simp [results, Tryz.results134, go_sem]) rfl ⟨rfl, rfl⟩
theorem told_10 (B : Nat) (a b : Int) (hb : num b) (w : World) (h : MapM w B) :
    Calls Tryz.prog 134 #[.map (some B), .int .u8 10, .int .u32 a, .int .u32 b] w fun e w' => e = .returned (.tuple #[.int .u32 (dov 10 a b), .int .i64 0]) ∧ w' = w := by
  obtain ⟨n1, n2, c, hm, h1, h2⟩ := h.is
  have hl := look_yes uMapM hm 10 7 (fc 165 n2) rfl
  rw [fc] at hl
  clear hm
  go_enter Tryz.func134, Tryz.ntmps134
  go_wp2_with (go_at_call 165; refine (right_any _ _ hb _ _ h2).mono ?_; rintro e w' ⟨rfl, rfl⟩)
  exact bodyPost_ret (v := .tuple #[.int .u32 (a / 2 ^ places b), .int .i64 0]) (by simp [results, Tryz.results134, go_sem]) rfl ⟨rfl, rfl⟩
theorem find_no (k o : Int) (v : Value) (c i : Nat) (l : List MapEntry) (h : ¬ o = k) (hl : Instr.findNow (.int .u8) (.int .u8 o) l (i + 1) = some none) :
    Instr.findNow (.int .u8) (.int .u8 o) (⟨.int .u8 k, v, c⟩ :: l) i = some none := by
  have e : Instr.sameNow (.int .u8) (.int .u8 o) (.int .u8 k) = some false := by simp [Instr.sameNow, h]
  simp only [Instr.findNow, e]
  exact hl
theorem told_no (B : Nat) (o a b : Int) (ho : ¬ (3 ≤ o ∧ o ≤ 10)) (w : World) (h : MapM w B) :
    Calls Tryz.prog 134 #[.map (some B), .int .u8 o, .int .u32 a, .int .u32 b] w fun e w' => e = .returned (.tuple #[.int .u32 0, .int .i64 1]) ∧ w' = w := by
  obtain ⟨n1, n2, c, hm, h1, h2⟩ := h.is
  have hl := look_no (z := .nilFunc) uMapM rfl hm o (by
    refine find_no _ _ _ _ _ _ (by omega) (find_no _ _ _ _ _ _ (by omega) (find_no _ _ _ _ _ _ (by omega) (find_no _ _ _ _ _ _ (by omega) (find_no _ _ _ _ _ _ (by omega) (find_no _ _ _ _ _ _ (by omega) (find_no _ _ _ _ _ _ (by omega) (find_no _ _ _ _ _ _ (by omega) rfl))))))))
  clear hm h1 h2 h ho
  go_enter Tryz.func134, Tryz.ntmps134
  go_wp2
  exact bodyPost_ret (v := .tuple #[.int .u32 0, .int .i64 1]) (by simp [results, Tryz.results134, go_sem]) rfl ⟨rfl, rfl⟩
end Go.Proofs.YtomccgodfimaiaaGreatDoor.Un
