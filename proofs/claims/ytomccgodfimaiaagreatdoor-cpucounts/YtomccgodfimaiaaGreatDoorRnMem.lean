/- What serves every walk of package regions in this seat: rows of bytes in memory, a region in memory, a slice that is read; what stays as it was. No law of the program itself. -/
import Derived.Test.YtomccgodfimaiaaGreatDoorRows
import Derived.WalkKit
import Derived.ProofKit
import Derived.OpenShut
import Derived.Laws.CopyOwn
import Derived.Laws.MakeOwn
namespace Go.Proofs.YtomccgodfimaiaaGreatDoor.Rn
set_option linter.all false
open Go Go.RowKit
set_option maxRecDepth 100000
set_option linter.unusedVariables false

/-- bytes as cells -/
def byt (zs : List Int) : List Value := zs.map (Value.int .u8)
theorem byt_len (zs : List Int) : (byt zs).length = zs.length := by simp [byt]
theorem byt_at (zs : List Int) (i : Nat) (h : i < zs.length) : (byt zs)[i]? = some (.int .u8 (zs.getD i 0)) := by
  simp [byt, h]
theorem byt_one (zs : List Int) : ∀ v ∈ byt zs, v.oneCell' = true := by
  intro v hv
  obtain ⟨z, _, rfl⟩ := List.mem_map.1 hv
  rfl
theorem byt_take (zs : List Int) (n : Nat) : (byt zs).take n = byt (zs.take n) := by simp [byt]
theorem byt_drop (zs : List Int) (n : Nat) : (byt zs).drop n = byt (zs.drop n) := by simp [byt]
theorem byt_app (xs ys : List Int) : byt (xs ++ ys) = byt xs ++ byt ys := by simp [byt]
theorem byt_splice (zs : List Int) (n : Nat) (ys : List Int) : splice (byt zs) n (byt ys) = byt (splice zs n ys) := by
  simp [splice, byt]
/-- numbers of 8 bits -/
def isB (zs : List Int) : Prop := ∀ z ∈ zs, 0 ≤ z ∧ z ≤ 255
theorem isB_at {zs : List Int} (h : isB zs) (i : Nat) : 0 ≤ zs.getD i 0 ∧ zs.getD i 0 ≤ 255 := by
  by_cases hi : i < zs.length
  · rw [show zs.getD i 0 = zs[i] by simp [hi]]; exact h _ (List.getElem_mem hi)
  · rw [show zs.getD i 0 = 0 by simp [Nat.le_of_not_lt hi]]; exact ⟨by decide, by decide⟩
theorem isB_app {xs ys : List Int} (h : isB xs) (k : isB ys) : isB (xs ++ ys) := by
  intro z hz
  rcases List.mem_append.1 hz with hz | hz
  · exact h z hz
  · exact k z hz
theorem isB_zero (n : Nat) : isB (List.replicate n 0) := by
  intro z hz
  rw [(List.mem_replicate.1 hz).2]; exact ⟨by decide, by decide⟩
theorem isB_take {zs : List Int} (h : isB zs) (n : Nat) : isB (zs.take n) := fun z hz => h z (List.mem_of_mem_take hz)
theorem isB_drop {zs : List Int} (h : isB zs) (n : Nat) : isB (zs.drop n) := fun z hz => h z (List.mem_of_mem_drop hz)
theorem isB_splice {zs ys : List Int} (h : isB zs) (k : isB ys) (n : Nat) : isB (splice zs n ys) :=
  isB_app (isB_take h n) (isB_app k (isB_drop h _))

/-- a row of bytes -/
def Row (w : World) (g : Nat) (zs : List Int) : Prop := w.heap[g]? = some (.cells (byt zs).toArray 5 (0, 0))
theorem cell_of {w : World} {b i : Nat} {cs : Array Value} {t : TypeId} {k : Nat × Nat} (h : w.heap[b]? = some (.cells cs t k)) : w.cell? ⟨b, i, none⟩ = cs[i]? := by
  simp [World.cell?, h]
theorem Row.cell {w : World} {g : Nat} {zs : List Int} (h : Row w g zs) (i : Nat) (hi : i < zs.length) : w.cell? ⟨g, i, none⟩ = some (.int .u8 (zs.getD i 0)) := by
  rw [cell_of h]
  simpa using byt_at zs i hi
theorem Row.lt {w : World} {g : Nat} {zs : List Int} (h : Row w g zs) : g < w.heap.size := by
  rcases Nat.lt_or_ge g w.heap.size with k | k
  · exact k
  · unfold Row at h; rw [Array.getElem?_eq_none k] at h; cases h
theorem at_lt {w : World} {g : Nat} {o : Obj} (h : w.heap[g]? = some o) : g < w.heap.size := by
  rcases Nat.lt_or_ge g w.heap.size with k | k
  · exact k
  · rw [Array.getElem?_eq_none k] at h; cases h
/-- all but one block is as it was -/
structure But (g : Nat) (w w' : World) : Prop where
  os : w'.os = w.os
  tape : w'.tape = w.tape
  output : w'.output = w.output
  size : w.heap.size ≤ w'.heap.size
  block : ∀ k, k < w.heap.size → k ≠ g → w'.heap[k]? = w.heap[k]?
theorem But.below {g B : Nat} {w w' : World} (h : But g w w') (hg : B ≤ g) (hB : B ≤ w.heap.size) : Below B w w' :=
  ⟨h.os, h.tape, h.output, h.size, fun k hk => h.block k (by omega) (by omega)⟩
theorem But.of {g : Nat} {w w' : World} (h : Below w.heap.size w w') : But g w w' := ⟨h.os, h.tape, h.output, h.size, fun k hk _ => h.block k hk⟩
theorem But.trans {g : Nat} {a b c : World} (h : But g a b) (k : But g b c) : But g a c :=
  ⟨k.os.trans h.os, k.tape.trans h.tape, k.output.trans h.output, Nat.le_trans h.size k.size, fun i hi hg => (k.block i (Nat.lt_of_lt_of_le hi h.size) hg).trans (h.block i hi hg)⟩
/-- a region lies at block p, its bytes at g -/
structure Reg (w : World) (p g : Nat) (zs : List Int) : Prop where
  head : w.heap[p]? = some (.cells #[.bool true, .slice (some ⟨g, 0, none⟩) zs.length zs.length] 100 (0, 0))
  row : Row w g zs
  len : zs.length ≤ 4096
  wf : isB zs
  ne : p ≠ g
theorem Reg.below {w w' : World} {p g : Nat} {zs : List Int} (h : Reg w p g zs) (hb : Below w.heap.size w w') : Reg w' p g zs :=
  ⟨(hb.block p (at_lt h.head)).trans h.head, (hb.block g h.row.lt).trans h.row, h.len, h.wf, h.ne⟩
theorem Reg.but {w w' : World} {p g k : Nat} {zs : List Int} (h : Reg w p g zs) (hb : But k w w') (hp : p ≠ k) (hg : g ≠ k) : Reg w' p g zs :=
  ⟨(hb.block p (at_lt h.head) hp).trans h.head, (hb.block g h.row.lt hg).trans h.row, h.len, h.wf, h.ne⟩
theorem Row.set {w : World} {g k : Nat} {zs : List Int} (h : Row w g zs) (v : Int) : Row (w.setCell ⟨g, k, none⟩ (.int .u8 v)) g (zs.set k v) := by
  have hl := h.lt
  have hv : w.heap[g] = .cells (byt zs).toArray 5 (0, 0) := (Array.getElem?_eq_some_iff.1 h).2
  unfold Row World.setCell
  rw [Array.getElem?_eq_getElem (by simpa using hl), Array.getElem_modify]
  simp [hv, byt]
theorem But.setCell (w : World) (g k : Nat) (v : Value) : But g w (w.setCell ⟨g, k, none⟩ v) :=
  ⟨rfl, rfl, rfl, by simp [World.setCell], fun j hj hg => Below.heap_setCell _ _ _ _ hg⟩
theorem isB_set {zs : List Int} (h : isB zs) (k : Nat) {v : Int} (hv : 0 ≤ v ∧ v ≤ 255) : isB (zs.set k v) := by
  intro z hz
  rcases List.mem_or_eq_of_mem_set hz with hz | rfl
  · exact h z hz
  · exact hv
theorem Reg.set {w : World} {p g k : Nat} {zs : List Int} (h : Reg w p g zs) (hk : k < zs.length) {v : Int} (hv : 0 ≤ v ∧ v ≤ 255) : Reg (w.setCell ⟨g, k, none⟩ (.int .u8 v)) p g (zs.set k v) :=
  ⟨by rw [(But.setCell w g k _).block p (at_lt h.head) h.ne, List.length_set]; exact h.head, h.row.set v, by rw [List.length_set]; exact h.len, isB_set h.wf k hv, h.ne⟩
/-- a slice that is read lies below B -/
structure Src (B : Nat) (w : World) (sp : Option Addr) (zs : List Int) : Prop where
  spot : 0 < zs.length → ∃ b off, sp = some ⟨b, off, none⟩ ∧ b < B ∧ ∀ i, i < zs.length → w.cell? ⟨b, off + i, none⟩ = some (.int .u8 (zs.getD i 0))
  wf : isB zs
theorem Src.below {B : Nat} {w w' : World} {sp : Option Addr} {zs : List Int} (h : Src B w sp zs) (hb : Below B w w') : Src B w' sp zs :=
  ⟨fun hz => by
    obtain ⟨b, off, e, hB, hc⟩ := h.spot hz
    exact ⟨b, off, e, hB, fun i hi => by rw [hb.cell (p := ⟨b, off + i, none⟩) hB]; exact hc i hi⟩, h.wf⟩
theorem Src.mono {B B' : Nat} {w : World} {sp : Option Addr} {zs : List Int} (h : Src B w sp zs) (hb : B ≤ B') : Src B' w sp zs :=
  ⟨fun hz => by
    obtain ⟨b, off, e, hB, hc⟩ := h.spot hz
    exact ⟨b, off, e, by omega, hc⟩, h.wf⟩
theorem Src.row {w : World} {g n : Nat} {zs : List Int} (h : Row w g zs) (hw : isB zs) : Src w.heap.size w (some ⟨g, 0, none⟩) zs :=
  ⟨fun _ => ⟨g, 0, rfl, h.lt, fun i hi => by rw [Nat.zero_add]; exact h.cell i hi⟩, hw⟩
theorem Src.rowPre {w : World} {g n : Nat} {zs ys : List Int} (h : Row w g (zs ++ ys)) (hw : isB zs) : Src w.heap.size w (some ⟨g, 0, none⟩) zs :=
  ⟨fun _ => ⟨g, 0, rfl, h.lt, fun i hi => by
    rw [Nat.zero_add, h.cell i (by simp; omega)]
    simp [List.getElem?_append_left hi, hi]⟩, hw⟩
theorem Src.nil' {w : World} (B : Nat) : Src B w none [] := ⟨fun h => absurd h (by simp), fun z hz => absurd hz (by simp)⟩
/-- what a copy out of such a slice wants -/
theorem Src.pos {B : Nat} {w : World} {sp : Option Addr} {zs : List Int} (h : Src B w sp zs) (hz : 0 < (byt zs).length) :
    ∃ ad, sp = some ad ∧ ∀ j v, (byt zs)[j]? = some v → w.cell? (ad.add j) = some v := by
  rw [byt_len] at hz
  obtain ⟨b, off, e, _, hc⟩ := h.spot hz
  refine ⟨⟨b, off, none⟩, e, fun j v hj => ?_⟩
  have hadd : (⟨b, off, none⟩ : Addr).add j = ⟨b, off + j, none⟩ := by unfold Addr.add; split <;> simp_all
  have hjl : j < zs.length := by
    rcases Nat.lt_or_ge j zs.length with k | k
    · exact k
    · rw [List.getElem?_eq_none (by rw [byt_len]; exact k)] at hj; cases hj
  rw [byt_at zs j hjl] at hj
  rw [hadd, hc j hjl, ← Option.some.inj hj]
theorem alloc_at (w : World) (o : Obj) : (w.alloc o).heap[w.heap.size]? = some o := by show (w.heap.push o)[w.heap.size]? = some o; exact Array.getElem?_push_size
theorem alloc_size (w : World) (o : Obj) : (w.alloc o).heap.size = w.heap.size + 1 := by show (w.heap.push o).size = _; exact Array.size_push _
theorem alloc_below (w : World) (o : Obj) : Below w.heap.size w (w.alloc o) := (Below.refl _ _).alloc (Nat.le_refl _) _
theorem made_zero (n : Nat) : madeCells (Value.int .u8 0).cells n = (byt (List.replicate n 0)).toArray := by
  apply Array.ext_getElem?
  intro i
  by_cases hi : i < n
  · simp [madeCells, Value.cells, byt, hi, Nat.mod_one]
  · simp [madeCells, Value.cells, byt, hi]
theorem info5 : (Tryz.prog.info? 5).map (fun i => (i.zero, i.size, i.bytes)) = some (some (.int .u8 0), 1, 1) := by kernel_rfl
theorem size5 : (Tryz.prog.info? 5).map (·.size) = some 1 := by kernel_rfl
/-- a new row of bytes 0 -/
theorem make_row (w : World) (l c : Nat) (hl : l ≤ c) (hc : c ≤ 1000000) :
    (Instr.makeSlice 22 (.int .i64 l) (.int .i64 c)).run Tryz.prog w = .ok (.slice (some ⟨w.heap.size, 0, none⟩) l c) (w.alloc (.cells (byt (List.replicate c 0)).toArray 5)) := by
  obtain ⟨i, hi, he⟩ := Option.map_eq_some_iff.1 info5
  have h1 : i.zero = some (.int .u8 0) := by simpa using congrArg Prod.fst he
  have h2 : i.size = 1 := by simpa using congrArg (fun x => x.2.1) he
  have h3 : i.bytes = 1 := by simpa using congrArg (fun x => x.2.2) he
  have := run_make w 22 5 i (.int .u8 0) Tryz.underlying22 hi h1 .i64 .i64 l c (by omega) (by omega) (by rw [h3]; omega) (by omega)
  rw [this, h2, Nat.mul_one, made_zero]
  simp
/-- a copy into a row of bytes -/
theorem copy_row (w : World) (g off dl dc : Nat) (sp : Option Addr) (sl sc : Nat) (cur cs : List Int) (B : Nat) (hg : Row w g cur) (hs : Src B w sp cs) (hsl : sl = cs.length) (hd : cs.length ≤ dl) (hfit : off + cs.length ≤ cur.length) :
    ∃ w', (Builtin.copy_ #[22, 22] 3 #[.slice (some ⟨g, off, none⟩) dl dc, .slice sp sl sc]).run Tryz.prog w = .ok (.int .i64 (cs.length : Nat)) w' ∧ Row w' g (splice cur off cs) ∧ But g w w' ∧ w'.heap.size = w.heap.size := by
  subst hsl
  by_cases h0 : cs.length = 0
  · obtain rfl : cs = [] := List.eq_nil_of_length_eq_zero h0
    have := run_copy_none (P := Tryz.prog) w 22 22 3 5 (some ⟨g, off, none⟩) sp dl dc 0 sc Tryz.underlying22 size5 (by simp)
    exact ⟨w, this, by simpa [splice] using hg, But.of (Below.refl _ _), rfl⟩
  · obtain ⟨ad, rfl, hc⟩ := hs.pos (by rw [byt_len]; omega)
    have := run_copy_row Tryz.prog w 22 22 3 5 g off dl dc ad cs.length sc (byt cur).toArray 5 (byt cs) Tryz.underlying22 size5 hg (by rw [byt_len]; exact (Nat.min_eq_left hd).symm) hc (by simp [byt_len]; exact hfit) (byt_one cs)
    rw [byt_len] at this
    refine ⟨_, this, ?_, ⟨rfl, rfl, rfl, by simp [World.setRow], fun k hk hg => setRow_other w g k _ hg⟩, by simp [World.setRow]⟩
    have e := setRow_heap w g _ (List.take off (byt cur).toArray.toList ++ byt cs ++ List.drop (off + cs.length) (byt cur).toArray.toList).toArray 5 (0, 0) hg
    unfold Row
    rw [e, ← byt_splice]
    simp [splice, byt_len]
theorem splice_all {α : Type} (L cs : List α) (h : cs.length ≤ L.length) : splice L 0 cs = cs ++ L.drop cs.length := by simp [splice]
end Go.Proofs.YtomccgodfimaiaaGreatDoor.Rn
