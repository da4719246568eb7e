/- What lies in memory: lines; blocks that stay as they were. No law of the program itself. -/
import Derived.Test.YtedheamenlnfkabPure
import Derived.Laws.OwnMore
import Derived.Deep.RegionLaw
import Derived.Deep.QuietTactic
import Derived.BigQuiet
import Derived.Deep.CutRange
import Derived.Deep.RegionWith
import Derived.Deep.RegionHeld3
import Derived.Deep.CutBlock
namespace Go.Proofs.Ytedheamenlnfkab
open Go Go.RowKit
set_option maxRecDepth 100000
set_option linter.unusedVariables false
theorem alloc_at (w : World) (o : Obj) : (w.alloc o).heap[w.heap.size]? = some o := by show (w.heap.push o)[w.heap.size]? = some o; exact Array.getElem?_push_size
theorem alloc_size (w : World) (o : Obj) : (w.alloc o).heap.size = w.heap.size + 1 := by show (w.heap.push o).size = _; exact Array.size_push _
theorem alloc_below (w : World) (o : Obj) : Below w.heap.size w (w.alloc o) := (Below.refl _ _).alloc (Nat.le_refl _) _
theorem cell_of {w : World} {b i : Nat} {cs : Array Value} {t : TypeId} {k : Nat × Nat} (h : w.heap[b]? = some (.cells cs t k)) : w.cell? ⟨b, i, none⟩ = cs[i]? := by
  simp [World.cell?, h]
theorem at_lt {w : World} {g : Nat} {o : Obj} (h : w.heap[g]? = some o) : g < w.heap.size := by
  rcases Nat.lt_or_ge g w.heap.size with k | k
  · exact k
  · rw [Array.getElem?_eq_none k] at h; cases h
theorem cell_lt {w : World} {n i : Nat} {v : Value} (h : w.cell? ⟨n, i, none⟩ = some v) : n < w.heap.size := by
  by_cases hn : n < w.heap.size
  · exact hn
  · rw [World.cell?] at h
    simp [Array.getElem?_eq_none (Nat.le_of_not_lt hn)] at h
theorem below_drewN (w : World) : ∀ n, Below w.heap.size w (w.drewN n)
  | 0 => Below.refl _ _
  | n + 1 => by
    have := below_drewN w n
    exact ⟨this.os, this.tape, this.output, this.size, this.block⟩
/-- blocks that are as they were, but for those of a list -/
structure Buts (l : List Nat) (w w' : World) : Prop where
  os : w'.os = w.os
  tape : w'.tape = w.tape
  output : w'.output = w.output
  size : w.heap.size ≤ w'.heap.size
  block : ∀ k, k < w.heap.size → k ∉ l → w'.heap[k]? = w.heap[k]?
theorem Buts.refl (l : List Nat) (w : World) : Buts l w w := ⟨rfl, rfl, rfl, Nat.le_refl _, fun _ _ _ => rfl⟩
theorem Buts.trans {l : List Nat} {a b c : World} (h : Buts l a b) (k : Buts l b c) : Buts l a c :=
  ⟨k.os.trans h.os, k.tape.trans h.tape, k.output.trans h.output, Nat.le_trans h.size k.size, fun i hi hg => (k.block i (Nat.lt_of_lt_of_le hi h.size) hg).trans (h.block i hi hg)⟩
theorem Buts.mono {l m : List Nat} {a b : World} (h : Buts l a b) (hm : ∀ x ∈ l, x ∈ m) : Buts m a b :=
  ⟨h.os, h.tape, h.output, h.size, fun i hi hg => h.block i hi fun e => hg (hm i e)⟩
theorem Buts.of {l : List Nat} {w w' : World} (h : Below w.heap.size w w') : Buts l w w' := ⟨h.os, h.tape, h.output, h.size, fun k hk _ => h.block k hk⟩
theorem Buts.below {l : List Nat} {B : Nat} {w w' : World} (h : Buts l w w') (hg : ∀ x ∈ l, B ≤ x) (hB : B ≤ w.heap.size) : Below B w w' :=
  ⟨h.os, h.tape, h.output, h.size, fun k hk => h.block k (by omega) (fun e => by have := hg k e; omega)⟩
theorem Buts.drew {l : List Nat} {a b : World} (h : Buts l a b) : Buts l a b.drew := ⟨h.os, h.tape, h.output, h.size, h.block⟩
theorem Buts.cell (w : World) (g k : Nat) (v : Value) : Buts [g] w (w.setCell ⟨g, k, none⟩ v) :=
  ⟨rfl, rfl, rfl, by simp [World.setCell], fun j hj hg => Below.heap_setCell _ _ _ _ (by simpa using hg)⟩
theorem set_block {w : World} {p : Nat} {cs : Array Value} {t : TypeId} (h : w.heap[p]? = some (.cells cs t (0, 0))) (k : Nat) (v : Value) : (w.setCell ⟨p, k, none⟩ v).heap[p]? = some (.cells (cs.setIfInBounds k v) t (0, 0)) := by
  have hl := at_lt h
  have hh := (Array.getElem?_eq_some_iff.1 h).2
  unfold World.setCell
  rw [Array.getElem?_eq_getElem (by simpa using hl), Array.getElem_modify]
  simp [hh]
theorem get_lt {cs : Array Value} {i : Nat} {v : Value} (h : cs[i]? = some v) : i < cs.size := (Array.getElem?_eq_some_iff.1 h).1
theorem one_below {p B : Nat} {w w' : World} (h : Buts [p] w w') (hp : B ≤ p) (hB : B ≤ w.heap.size) : Below B w w' :=
  h.below (fun x hx => by simp only [List.mem_cons, List.not_mem_nil, or_false] at hx; omega) hB
/-- lines as they lie at block p: who calls, who is masked -/
structure Tab (w : World) (p c m : Nat) : Prop where
  lay : w.heap[p]? = some (.cells #[.bool true, .int .u8 (c : Nat), .int .u8 (m : Nat)] 39 (0, 0))
  hc : c < 256
  hm : m < 256
theorem Tab.lt {w : World} {p c m : Nat} (h : Tab w p c m) : p < w.heap.size := at_lt h.lay
theorem Tab.c0 {w : World} {p c m : Nat} (h : Tab w p c m) : w.cell? ⟨p, 0, none⟩ = some (.bool true) := by rw [cell_of h.lay]; rfl
theorem Tab.c1 {w : World} {p c m : Nat} (h : Tab w p c m) : w.cell? ⟨p, 1, none⟩ = some (.int .u8 (c : Nat)) := by rw [cell_of h.lay]; rfl
theorem Tab.c2 {w : World} {p c m : Nat} (h : Tab w p c m) : w.cell? ⟨p, 2, none⟩ = some (.int .u8 (m : Nat)) := by rw [cell_of h.lay]; rfl
theorem Tab.free {w : World} {p c m : Nat} (h : Tab w p c m) (i : Nat) : w.frozen? ⟨p, i, none⟩ = false := by simp [World.frozen?, h.lay]
theorem Tab.buts {w w' : World} {p c m : Nat} {l : List Nat} (h : Tab w p c m) (hb : Buts l w w') (hp : p ∉ l) : Tab w' p c m :=
  ⟨(hb.block p h.lt hp).trans h.lay, h.hc, h.hm⟩
theorem Tab.below {w w' : World} {p c m : Nat} (h : Tab w p c m) (hb : Below w.heap.size w w') : Tab w' p c m := h.buts (l := []) (Buts.of hb) (by simp)
theorem Tab.drew {w : World} {p c m : Nat} (h : Tab w p c m) (k : Nat) : Tab (w.drewN k) p c m := h.below (below_drewN _ _)
theorem Tab.setC {w : World} {p c m : Nat} (h : Tab w p c m) {x : Nat} (hx : x < 256) : Tab (w.setCell ⟨p, 1, none⟩ (.int .u8 (x : Nat))) p x m :=
  ⟨by rw [set_block h.lay]; rfl, hx, h.hm⟩
theorem Tab.setM {w : World} {p c m : Nat} (h : Tab w p c m) {x : Nat} (hx : x < 256) : Tab (w.setCell ⟨p, 2, none⟩ (.int .u8 (x : Nat))) p c x :=
  ⟨by rw [set_block h.lay]; rfl, h.hc, hx⟩
end Go.Proofs.Ytedheamenlnfkab
