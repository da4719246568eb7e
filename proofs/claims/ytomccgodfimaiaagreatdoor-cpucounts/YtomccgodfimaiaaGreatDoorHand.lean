/- What is done with a field: the map of package instrs and its closures, as they lie in memory. -/
import Derived.Test.YtomccgodfimaiaaGreatDoorRows
import Derived.Test.YtomccgodfimaiaaGreatDoorCalm
namespace Go.Proofs.YtomccgodfimaiaaGreatDoor
set_option linter.all false
open Go Go.RowKit
set_option maxRecDepth 100000

/-- what a kind of field is: its mark, its bytes, its least and its greatest number -/
def ptr (n : Nat) : Value := .pointer (some ⟨n, 0, none⟩)
/-- the handling whose captured cells lie from block n on -/
def hv (n : Nat) (size : Int) : Value :=
  .agg #[.int .i64 size, .func (.func 159) #[] #[.pointer (some ⟨n + 1 + 1 + 1, 0, none⟩), .pointer (some ⟨n + 1, 0, none⟩), .pointer (some ⟨n, 0, none⟩), .pointer (some ⟨n + 1 + 1 + 1 + 1 + 1, 0, none⟩)],
    .func (.func 161) #[] #[.pointer (some ⟨n, 0, none⟩), .pointer (some ⟨n + 1 + 1 + 1 + 1 + 1, 0, none⟩), .pointer (some ⟨n + 1, 0, none⟩)]]

structure Hcells (w : World) (n : Nat) (mark : ByteArray) (size least most : Int) : Prop where
  mark : w.cell? ⟨n, 0, none⟩ = some (.string mark)
  size : w.cell? ⟨n + 1, 0, none⟩ = some (.int .i64 size)
  least : w.cell? ⟨n + 1 + 1, 0, none⟩ = some (.int .i64 least)
  most : w.cell? ⟨n + 1 + 1 + 1, 0, none⟩ = some (.int .i64 most)
  may : w.cell? ⟨n + 1 + 1 + 1 + 1 + 1, 0, none⟩ = some (.func (.func 158) #[] #[.pointer (some ⟨n + 1 + 1, 0, none⟩), .pointer (some ⟨n + 1 + 1 + 1, 0, none⟩)])
  lt : n + 1 + 1 + 1 + 1 + 1 < w.heap.size

theorem Hcells.below {w w' : World} {n : Nat} {mark : ByteArray} {size least most : Int} {B : Nat} (h : Hcells w n mark size least most) (hb : Below B w w') (hB : n + 1 + 1 + 1 + 1 + 1 < B) : Hcells w' n mark size least most where
  mark := by rw [(bcell hb).1 _ _ (by omega)]; exact h.mark
  size := by rw [(bcell hb).1 _ _ (by omega)]; exact h.size
  least := by rw [(bcell hb).1 _ _ (by omega)]; exact h.least
  most := by rw [(bcell hb).1 _ _ (by omega)]; exact h.most
  may := by rw [(bcell hb).1 _ _ (by omega)]; exact h.may
  lt := by have := hb.size; have := h.lt; omega

set_option maxHeartbeats 4000000 in
theorem between_any (mark : ByteArray) (size least most : Int) (w : World) :
    Calls Tryz.prog 140 #[.string mark, .int .i64 size, .int .i64 least, .int .i64 most] w fun e w' => e = .returned (hv w.heap.size size) ∧ Below w.heap.size w w' ∧ Hcells w' w.heap.size mark size least most := by
  go_enter Tryz.func140, Tryz.ntmps140
  go_wp2
  refine bodyPost_ret (v := hv w.heap.size size) (by simp [results, Tryz.results140, go_sem, hv]) rfl ⟨rfl, ?_, ?_⟩
  · exact ((((((Below.refl _ _).alloc (Nat.le_refl _) _).alloc (by simp) _).alloc (by simp; omega) _).alloc (by simp; omega) _).alloc (by simp; omega) _).alloc (by simp; omega) _
  · constructor <;> simp [go_sem]

/-- the world with another block in its place -/
def putBlock (w : World) (b : Nat) (o : Obj) : World := { w with heap := w.heap.setIfInBounds b o }
theorem putBlock_below {w : World} {b B : Nat} {o : Obj} (h : B ≤ b) : Below B w (putBlock w b o) :=
  ⟨rfl, rfl, rfl, by simp [putBlock], fun k hk => by simp only [putBlock]; rw [Array.getElem?_setIfInBounds_ne (by omega)]⟩
theorem putBlock_at {w : World} {b : Nat} {o : Obj} (h : b < w.heap.size) : (putBlock w b o).heap[b]? = some o := by
  simp only [putBlock]; rw [Array.getElem?_setIfInBounds_self_of_lt h]
theorem putBlock_other {w : World} {b c : Nat} {o : Obj} (h : c ≠ b) : (putBlock w b o).heap[c]? = w.heap[c]? := by
  simp only [putBlock]; rw [Array.getElem?_setIfInBounds_ne (by omega)]
theorem putBlock_size {w : World} {b : Nat} {o : Obj} : (putBlock w b o).heap.size = w.heap.size := by simp [putBlock]
theorem putBlock_cell {w : World} {b c i : Nat} {o : Obj} (h : c ≠ b) : (putBlock w b o).cell? ⟨c, i, none⟩ = w.cell? ⟨c, i, none⟩ := World.cell?_of_block (w := w) (putBlock_other h)

theorem u59 : Tryz.prog.underlying 176 = some (.int .u8) := Tryz.underlying176
theorem u64 : Tryz.prog.underlying 181 = some (.map 176 188) := Tryz.underlying181
/-- a new entry of the map -/
theorem ins_law {w : World} {b : Nat} {es : Array MapEntry} {clock : Nat} (hb : w.heap[b]? = some (.map es clock)) (k : Int) (v : Value) (hk : Instr.findNow (.int .u8) (.int .u8 k) es.toList 0 = some none) :
    (Instr.mapUpdate 181 (.map (some b)) (.int .u8 k) v).run Tryz.prog w = .ok () (putBlock w b (.map (es.push { key := .int .u8 k, val := v, born := clock }) (clock + 1))) := by
  have hc : (Instr.checkKey false 10000 176 (.int .u8 k)).run Tryz.prog w = .ok () w := MapKept.run_checkKey u59 (k := .int .u8 k) (by simp [MapKept.IsKey]) false 9999
  simp [Instr.mapUpdate, run_underlying u64, MapKept.run_getObj_map hb, hc, MapKept.run_findKey u59 hk, MapKept.run_setObj_map _ hb, Result.andThen, putBlock]
/-- a kind's entry -/
theorem look_law {w : World} {b : Nat} {es : Array MapEntry} {clock : Nat} (hb : w.heap[b]? = some (.map es clock)) (k : Int) (i : Nat) (v : Value) (hk : Instr.findNow (.int .u8) (.int .u8 k) es.toList 0 = some (some (i, v))) :
    (Instr.lookup 181 (.map (some b)) (.int .u8 k) false).run Tryz.prog w = .ok v w := by
  have hc : ∀ e, (Instr.checkKey e 10000 176 (.int .u8 k)).run Tryz.prog w = .ok () w := fun e => MapKept.run_checkKey u59 (k := .int .u8 k) (by simp [MapKept.IsKey]) e 9999
  simp [Instr.lookup, run_underlying u64, MapKept.run_getObj_map hb, hc, MapKept.run_findKey u59 hk, Result.andThen]

def rB : ByteArray := ⟨#[114]⟩
def eB : ByteArray := ⟨#[]⟩
def kMark (k : Nat) : ByteArray := if k = 1 then rB else eB
def kSize (k : Nat) : Int := if k = 4 then 2 else 1
def kLeast (k : Nat) : Int := if k = 3 then -128 else if k = 5 then 1 else 0
def kMost (k : Nat) : Int := if k = 1 then 7 else if k = 2 then 255 else if k = 3 then 127 else if k = 4 then 65535 else 20

theorem Hcells.put {w : World} {n b : Nat} {o : Obj} {mark : ByteArray} {size least most : Int} (h : Hcells w n mark size least most) (hb : b < n) : Hcells (putBlock w b o) n mark size least most where
  mark := by rw [putBlock_cell (by omega)]; exact h.mark
  size := by rw [putBlock_cell (by omega)]; exact h.size
  least := by rw [putBlock_cell (by omega)]; exact h.least
  most := by rw [putBlock_cell (by omega)]; exact h.most
  may := by rw [putBlock_cell (by omega)]; exact h.may
  lt := by rw [putBlock_size]; exact h.lt
theorem Hcells.on {w w' : World} {n : Nat} {mark : ByteArray} {size least most : Int} (h : Hcells w n mark size least most) (hb : Below w.heap.size w w') : Hcells w' n mark size least most := h.below hb h.lt
theorem Hcells.on2 {w w' : World} {n b : Nat} {o : Obj} {mark : ByteArray} {size least most : Int} (h : Hcells w n mark size least most) (hn : b < n) (hb : Below (putBlock w b o).heap.size (putBlock w b o) w') : Hcells w' n mark size least most := (h.put hn).on hb
theorem alloc_at (w : World) (o : Obj) : (w.alloc o).heap[w.heap.size]? = some o := by show (w.heap.push o)[w.heap.size]? = some o; exact Array.getElem?_push_size
theorem alloc_size (w : World) (o : Obj) : (w.alloc o).heap.size = w.heap.size + 1 := by show (w.heap.push o).size = _; exact Array.size_push _

/-- the map of handlings lies at block b -/
structure Hmap (w : World) (b : Nat) : Prop where
  lt : b < w.heap.size
  is : ∃ n1 n2 n3 n4 n5 clock : Nat, w.heap[b]? = some (.map #[⟨.int .u8 1, hv n1 1, 0⟩, ⟨.int .u8 2, hv n2 1, 1⟩, ⟨.int .u8 3, hv n3 1, 2⟩, ⟨.int .u8 4, hv n4 2, 3⟩, ⟨.int .u8 5, hv n5 1, 4⟩] clock) ∧
    (b < n1 ∧ b < n2 ∧ b < n3 ∧ b < n4 ∧ b < n5) ∧ Hcells w n1 rB 1 0 7 ∧ Hcells w n2 eB 1 0 255 ∧ Hcells w n3 eB 1 (-128) 127 ∧ Hcells w n4 eB 2 0 65535 ∧ Hcells w n5 eB 1 1 20

theorem Hmap.below {w w' : World} {b : Nat} (h : Hmap w b) (hb : Below w.heap.size w w') : Hmap w' b where
  lt := by have := hb.size; have := h.lt; omega
  is := by
    obtain ⟨n1, n2, n3, n4, n5, c, h1, l, a1, a2, a3, a4, a5⟩ := h.is
    exact ⟨n1, n2, n3, n4, n5, c, by rw [hb.block _ h.lt]; exact h1, l, a1.on hb, a2.on hb, a3.on hb, a4.on hb, a5.on hb⟩

theorem setCell_cell {w : World} {p : Addr} {v : Value} {b o : Nat} (h : b ≠ p.block) : (w.setCell p v).cell? ⟨b, o, none⟩ = w.cell? ⟨b, o, none⟩ := World.cell?_of_block (w := w) (Below.heap_setCell w p v b h)
theorem setCell_size {w : World} {p : Addr} {v : Value} : (w.setCell p v).heap.size = w.heap.size := by simp [World.setCell]
theorem Hcells.set {w : World} {n : Nat} {p : Addr} {v : Value} {mark : ByteArray} {size least most : Int} (h : Hcells w n mark size least most) (hb : p.block < n) : Hcells (w.setCell p v) n mark size least most where
  mark := by rw [setCell_cell (by omega)]; exact h.mark
  size := by rw [setCell_cell (by omega)]; exact h.size
  least := by rw [setCell_cell (by omega)]; exact h.least
  most := by rw [setCell_cell (by omega)]; exact h.most
  may := by rw [setCell_cell (by omega)]; exact h.may
  lt := by rw [setCell_size]; exact h.lt
/-- a store ahead of it does not touch the map -/
theorem Hmap.set {w : World} {b : Nat} {p : Addr} {v : Value} (h : Hmap w b) (hp : p.block < b) : Hmap (w.setCell p v) b where
  lt := by rw [setCell_size]; exact h.lt
  is := by
    obtain ⟨n1, n2, n3, n4, n5, c, h1, ⟨l1, l2, l3, l4, l5⟩, a1, a2, a3, a4, a5⟩ := h.is
    exact ⟨n1, n2, n3, n4, n5, c, by rw [Below.heap_setCell w p v b (by omega)]; exact h1, ⟨l1, l2, l3, l4, l5⟩, a1.set (by omega), a2.set (by omega), a3.set (by omega), a4.set (by omega), a5.set (by omega)⟩

theorem Hmap.look {w : World} {b : Nat} (h : Hmap w b) (k : Nat) (h1 : 1 ≤ k) (h5 : k ≤ 5) :
    ∃ n, (Instr.lookup 181 (.map (some b)) (.int .u8 k) false).run Tryz.prog w = .ok (hv n (kSize k)) w ∧ Hcells w n (kMark k) (kSize k) (kLeast k) (kMost k) := by
  obtain ⟨n1, n2, n3, n4, n5, c, e, _, a1, a2, a3, a4, a5⟩ := h.is
  obtain rfl | rfl | rfl | rfl | rfl : k = 1 ∨ k = 2 ∨ k = 3 ∨ k = 4 ∨ k = 5 := by omega
  · exact ⟨n1, look_law e 1 0 _ rfl, a1⟩
  · exact ⟨n2, look_law e 2 1 _ rfl, a2⟩
  · exact ⟨n3, look_law e 3 2 _ rfl, a3⟩
  · exact ⟨n4, look_law e 4 3 _ rfl, a4⟩
  · exact ⟨n5, look_law e 5 4 _ rfl, a5⟩

theorem step_map {w w' : World} {b : Nat} {o : Obj} (hw : b < w.heap.size) (hb : Below (putBlock w b o).heap.size (putBlock w b o) w') : w'.heap[b]? = some o ∧ b < w'.heap.size ∧ w.heap.size ≤ w'.heap.size := by
  have hs := hb.size
  rw [putBlock_size] at hs
  exact ⟨by rw [hb.block _ (by rw [putBlock_size]; exact hw)]; exact putBlock_at hw, by omega, hs⟩

set_option maxHeartbeats 4000000 in
theorem all_any (w : World) :
    Calls Tryz.prog 130 #[] w fun e w' => ∃ b, e = .returned (.map (some b)) ∧ w.heap.size ≤ b ∧ Below w.heap.size w w' ∧ Hmap w' b := by
  have hmm := @run_makeMap Tryz.prog
  go_enter Tryz.func130, Tryz.ntmps130
  go_wp2_with (go_at_call 140; refine (between_any _ _ _ _ _).mono ?_; rintro e w1 ⟨rfl, hB1, hc1⟩)
  have z1 : w.heap.size < w1.heap.size := by have := hB1.size; rw [alloc_size] at this; omega
  have m1 : w1.heap[w.heap.size]? = some (.map #[] 0) := by rw [hB1.block _ (by rw [alloc_size]; omega)]; exact alloc_at _ _
  have b1 : Below w.heap.size w w1 := ((Below.refl _ _).alloc (Nat.le_refl _) _).trans (hB1.mono (by rw [alloc_size]; omega))
  clear hmm
  rw [alloc_size] at hc1
  clear hB1
  generalize hn1 : w.heap.size + 1 = n1 at hc1 ⊢
  have l1 : w.heap.size < n1 := by omega
  clear hn1
  rw [ins_law m1 _ _ rfl]
  go_wp2_with (go_at_call 140; refine (between_any _ _ _ _ _).mono ?_; rintro e w2 ⟨rfl, hB2, hc2⟩)
  obtain ⟨m2, z2, s2⟩ := step_map z1 hB2
  have hc1 := hc1.on2 l1 hB2
  have b2 : Below w.heap.size w w2 := b1.trans ((putBlock_below (Nat.le_refl _)).trans (hB2.mono (by rw [putBlock_size]; omega)))
  clear hB2 m1
  rw [putBlock_size] at hc2 ⊢
  generalize hn2 : w1.heap.size = n2 at hc2 ⊢
  have l2 : w.heap.size < n2 := by omega
  clear hn2
  rw [ins_law m2 _ _ rfl]
  go_wp2_with (go_at_call 140; refine (between_any _ _ _ _ _).mono ?_; rintro e w3 ⟨rfl, hB3, hc3⟩)
  obtain ⟨m3, z3, s3⟩ := step_map z2 hB3
  have hc1 := hc1.on2 l1 hB3
  have hc2 := hc2.on2 l2 hB3
  have b3 : Below w.heap.size w w3 := b2.trans ((putBlock_below (Nat.le_refl _)).trans (hB3.mono (by rw [putBlock_size]; omega)))
  clear hB3 m2
  rw [putBlock_size] at hc3 ⊢
  generalize hn3 : w2.heap.size = n3 at hc3 ⊢
  have l3 : w.heap.size < n3 := by omega
  clear hn3
  rw [ins_law m3 _ _ rfl]
  go_wp2_with (go_at_call 140; refine (between_any _ _ _ _ _).mono ?_; rintro e w4 ⟨rfl, hB4, hc4⟩)
  obtain ⟨m4, z4, s4⟩ := step_map z3 hB4
  have hc1 := hc1.on2 l1 hB4
  have hc2 := hc2.on2 l2 hB4
  have hc3 := hc3.on2 l3 hB4
  have b4 : Below w.heap.size w w4 := b3.trans ((putBlock_below (Nat.le_refl _)).trans (hB4.mono (by rw [putBlock_size]; omega)))
  clear hB4 m3
  rw [putBlock_size] at hc4 ⊢
  generalize hn4 : w3.heap.size = n4 at hc4 ⊢
  have l4 : w.heap.size < n4 := by omega
  clear hn4
  rw [ins_law m4 _ _ rfl]
  go_wp2_with (go_at_call 140; refine (between_any _ _ _ _ _).mono ?_; rintro e w5 ⟨rfl, hB5, hc5⟩)
  obtain ⟨m5, z5, s5⟩ := step_map z4 hB5
  have hc1 := hc1.on2 l1 hB5
  have hc2 := hc2.on2 l2 hB5
  have hc3 := hc3.on2 l3 hB5
  have hc4 := hc4.on2 l4 hB5
  have b5 : Below w.heap.size w w5 := b4.trans ((putBlock_below (Nat.le_refl _)).trans (hB5.mono (by rw [putBlock_size]; omega)))
  clear hB5 m4
  rw [putBlock_size] at hc5 ⊢
  generalize hn5 : w4.heap.size = n5 at hc5 ⊢
  have l5 : w.heap.size < n5 := by omega
  clear hn5
  rw [ins_law m5 _ _ rfl]
  go_wp2
  go_ret
  refine ⟨_, rfl, Nat.le_refl _, b5.trans (putBlock_below (Nat.le_refl _)), by rw [putBlock_size]; exact z5, n1, n2, n3, n4, n5, 5, putBlock_at z5, ⟨l1, l2, l3, l4, l5⟩, hc1.put l1, hc2.put l2, hc3.put l3, hc4.put l4, hc5.put l5⟩
end Go.Proofs.YtomccgodfimaiaaGreatDoor
