/- What serves every walk of this seat: a region that draws its order and whose operations only read, but for calls that make new memory, is walked once, in the order of the text. No law of the program itself. -/
import Derived.WalkKit
import Derived.BigQuiet
import Derived.Laws.EntriesVeiled
import Derived.Carry
namespace Go.Proofs.YtomccgodfimaiaaGreatDoor.Un
set_option linter.all false
open Go Go.RowKit

/-- a world that is w below, and g above -/
def above (w g : World) : World := { g with heap := w.heap ++ g.heap.extract w.heap.size g.heap.size, os := w.os, tape := w.tape, output := w.output }
theorem above_of {w g : World} (h : Below w.heap.size w g) : above w g = g := by
  have hh : w.heap ++ g.heap.extract w.heap.size g.heap.size = g.heap := by
    have hs := h.size
    apply Array.ext_getElem?
    intro i
    by_cases hi : i < w.heap.size
    · rw [Array.getElem?_append_left hi, h.block i hi]
    · rw [Array.getElem?_append_right (by omega), Array.getElem?_extract]
      split
      · rw [show w.heap.size + (i - w.heap.size) = i by omega]
      · rw [Array.getElem?_eq_none (by omega)]
  unfold above
  rw [hh, ← h.os, ← h.tape, ← h.output]
theorem below_above (w g : World) : Below w.heap.size w (above w g) :=
  ⟨rfl, rfl, rfl, by simp [above], fun k hk => by simp only [above]; rw [Array.getElem?_append_left hk]⟩
theorem above_cell {w g : World} {b o : Nat} (h : b < w.heap.size) : (above w g).cell? ⟨b, o, none⟩ = w.cell? ⟨b, o, none⟩ := (below_above w g).cell (p := ⟨b, o, none⟩) h
theorem above_frozen {w g : World} {b o : Nat} (h : b < w.heap.size) : (above w g).frozen? ⟨b, o, none⟩ = w.frozen? ⟨b, o, none⟩ := (below_above w g).frozen (p := ⟨b, o, none⟩) h
theorem above_size (w g : World) : w.heap.size ≤ (above w g).heap.size := (below_above w g).size

theorem wp_region_calm {P : Program} {id : Nat} {Q : Exit → Act → World → Prop} {a : Act} {w : World} {l : List Oper} (hm : P.follows .mixedOrders = true) (hB : Region.lexB .any l.toArray = true)
    (h : wpQuiet P l.toArray (fun w' => ∃ g, w' = above w g) (fun a' => ∀ w', Below w.heap.size w w' → Q .normal a' w') l a) : (Code.region id l.toArray true).wp P Q a w :=
  wp_region_quiet (C := fun w' => ∃ g, w' = above w g) hm hB
    ⟨w.drew, (above_of (Below.refl _ _).drew).symm⟩
    (by
      simp only
      have mono : ∀ (l' : List Oper) (a' : Act), wpQuiet P l.toArray (fun w' => ∃ g, w' = above w g) (fun a' => ∀ w', Below w.heap.size w w' → Q .normal a' w') l' a' →
          wpQuiet P l.toArray (fun w' => ∃ g, w' = above w g) (fun a' => ∀ w', (∃ g, w' = above w g) → Q .normal a' w') l' a' := by
        intro l'
        induction l' with
        | nil => intro a' h w' ⟨g, hg⟩; subst hg; exact h _ (below_above _ _)
        | cons o rest ih =>
          intro a' h
          simp only [wpQuiet] at h ⊢
          split at h
          · rename_i hw; rw [if_pos hw]; exact Oper.quiet_mono ih h
          · rename_i hw; rw [if_neg hw]; exact ih _ h
      exact mono _ _ h)

theorem calm_call {P : Program} {f : FuncId} {args : Array Value} {w g : World} {v : Value}
    (h : Calls P f args (above w g) fun e w' => e = .returned v ∧ Below (above w g).heap.size (above w g) w') : Calls P f args (above w g) fun e w'' => e = .returned v ∧ ∃ g', w'' = above w g' :=
  h.mono fun _ w' ⟨he, hb⟩ => ⟨he, w', (above_of ((below_above w g).trans (hb.mono (above_size w g)))).symm⟩
theorem calm_same {P : Program} {f : FuncId} {args : Array Value} {w g : World} {v : Value}
    (h : Calls P f args (above w g) fun e w' => e = .returned v ∧ w' = above w g) : Calls P f args (above w g) fun e w'' => e = .returned v ∧ ∃ g', w'' = above w g' :=
  h.mono fun _ _ ⟨he, hb⟩ => ⟨he, g, hb⟩
theorem below_drewN (w : World) : ∀ n, Below w.heap.size w (w.drewN n)
  | 0 => Below.refl _ _
  | n + 1 => by
    have := below_drewN w n
    exact ⟨this.os, this.tape, this.output, this.size, this.block⟩
/-- below any number that the world has -/
theorem bcell {W w1 : World} {B : Nat} (hb : Below B W w1) : (∀ b o, b < B → w1.cell? ⟨b, o, none⟩ = W.cell? ⟨b, o, none⟩) ∧ (∀ b o, b < B → w1.frozen? ⟨b, o, none⟩ = W.frozen? ⟨b, o, none⟩) :=
  ⟨fun b o h => hb.cell (p := ⟨b, o, none⟩) h, fun b o h => hb.frozen (p := ⟨b, o, none⟩) h⟩
end Go.Proofs.YtomccgodfimaiaaGreatDoor.Un
