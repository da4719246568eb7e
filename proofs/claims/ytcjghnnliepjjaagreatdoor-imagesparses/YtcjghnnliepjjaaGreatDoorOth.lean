/- Blocks of other types than some stay as they were. No law of the program itself. -/
import Derived.Test.YtcjghnnliepjjaaGreatDoorLeft
namespace Go.Proofs.YtcjghnnliepjjaaGreatDoor
open Go Go.RowKit
set_option linter.unusedVariables false
/-- all blocks but those of these types stay -/
def Oth (l : List TypeId) (w w' : World) : Prop := w.heap.size ≤ w'.heap.size ∧ ∀ (g : Nat) (cs : Array Value) (T : TypeId) (f : Nat × Nat), w.heap[g]? = some (Obj.cells cs T f) → T ∉ l → w'.heap[g]? = some (Obj.cells cs T f)
theorem Oth.refl (l : List TypeId) (w : World) : Oth l w w := ⟨Nat.le_refl _, fun _ _ _ _ h _ => h⟩
theorem Oth.trans {l : List TypeId} {a b c : World} (h : Oth l a b) (k : Oth l b c) : Oth l a c := ⟨Nat.le_trans h.1 k.1, fun g cs T f hg ht => k.2 g cs T f (h.2 g cs T f hg ht) ht⟩
theorem Oth.below {l : List TypeId} {w w' : World} (h : Below w.heap.size w w') : Oth l w w' := ⟨h.size, fun g cs T f hg _ => (h.block g (at_lt hg)).trans hg⟩
theorem Oth.mono {l m : List TypeId} {w w' : World} (h : Oth l w w') (hm : ∀ x ∈ l, x ∈ m) : Oth m w w' := ⟨h.1, fun g cs T f hg ht => h.2 g cs T f hg fun e => ht (hm T e)⟩
theorem Oth.buts {l : List TypeId} {bl : List Nat} {w w' : World} (h : Buts bl w w') (hl : ∀ g ∈ bl, ∀ (cs : Array Value) (T : TypeId) (f : Nat × Nat), w.heap[g]? = some (.cells cs T f) → T ∈ l) : Oth l w w' :=
  ⟨h.size, fun g cs T f hg ht => (h.block g (at_lt hg) fun e => ht (hl g e cs T f hg)).trans hg⟩
theorem own_type {w : World} {B g : Nat} {t : TypeId} {s n : Nat} {v : Value} {xs : List Value} (h : w.ownsRow B t s v n xs) (hv : v.ownBlock = some g) {cs : Array Value} {T : TypeId} {f : Nat × Nat} (hg : w.heap[g]? = some (.cells cs T f)) : T = t := by
  rcases h.2 with ⟨rfl, _⟩ | ⟨g', cap, cur, rfl, _, hh, _⟩
  · simp [Value.ownBlock] at hv
  · simp only [Value.ownBlock, Option.some.injEq] at hv
    subst hv
    rw [hg] at hh
    simp only [Option.some.injEq, Obj.cells.injEq] at hh
    exact hh.2.1
theorem Oth.own {l : List TypeId} {w w' : World} {B : Nat} {t : TypeId} {s n : Nat} {v : Value} {xs : List Value} (h : w.ownsRow B t s v n xs) (hb : Buts v.ownBlock.toList w w') (ht : t ∈ l) : Oth l w w' :=
  Oth.buts hb fun g hg cs T f hh => by rw [own_type h (by simpa using hg) hh]; exact ht
theorem Oth.cell {l : List TypeId} {w : World} {B : Nat} {t : TypeId} {s n g k : Nat} {v : Value} {xs : List Value} (h : w.ownsRow B t s v n xs) (hv : v.ownBlock = some g) (ht : t ∈ l) (x : Value) : Oth l w (w.setCell ⟨g, k, none⟩ x) :=
  Oth.buts (Buts.cell w g k x) fun g' hg cs T f hh => by
    rw [List.mem_singleton] at hg
    subst hg
    rw [own_type h hv hh]; exact ht
theorem Oth.row {l : List TypeId} {w w' : World} {B : Nat} {t : TypeId} {s n : Nat} {v : Value} {xs : List Value} (ho : Oth l w w') (h : w.ownsRow B t s v n xs) (ht : t ∉ l) : w'.ownsRow B t s v n xs := by
  refine owns_of h fun g hg => ?_
  rcases h.2 with ⟨rfl, _⟩ | ⟨g', cap, cur, rfl, _, hh, _⟩
  · simp [Value.ownBlock] at hg
  · simp only [Value.ownBlock, Option.some.injEq] at hg
    subst hg
    rw [ho.2 _ _ _ _ hh ht, hh]
end Go.Proofs.YtcjghnnliepjjaaGreatDoor
