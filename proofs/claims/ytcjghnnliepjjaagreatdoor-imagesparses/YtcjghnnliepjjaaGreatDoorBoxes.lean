/- Images that came in, and blocks that stay as they were. -/
import Derived.Test.YtcjghnnliepjjaaGreatDoorSeen
namespace Go.Proofs.YtcjghnnliepjjaaGreatDoor
open Go Go.RowKit
set_option maxRecDepth 100000
set_option linter.unusedVariables false
/-- an image that came in -/
structure ImgA (w : World) (sp : Option Addr) (ds : List Int) (dc : Nat) (cp : Option Addr) (cs : List Int) (k kc : Nat) : Prop where
  i : Img w sp ds cp cs k
  dn : sp = none → dc = 0
  dl : ds.length ≤ maxLen
  kl : k ≤ maxLen
  dcl : ds.length ≤ dc
theorem ImgA.on {w w' : World} {sp cp : Option Addr} {ds cs : List Int} {dc k kc : Nat} (h : ImgA w sp ds dc cp cs k kc) (hb : Below w.heap.size w w') : ImgA w' sp ds dc cp cs k kc := ⟨h.i.on hb, h.dn, h.dl, h.kl, h.dcl⟩
/-- what Put answers of an image that may be -/
theorem put_src {w : World} {size : Int} {sp : Option Addr} {ds : List Int} {cp : Option Addr} {cs : List Int} {k : Nat} (hE : Env w) (hI : Img w sp ds cp cs k) (dc kc : Nat) (hdc : sp = none → dc = 0) (hyes : okI size ds cs k = true) :
    Calls Tryz.prog 10 #[.agg #[.int .i64 size, .slice sp ds.length dc, .slice cp k kc]] w fun e w' => ∃ q d, e = .returned (.tuple #[.slice q (putB size ds cs k).length d, .int .i64 0]) ∧ (Src w' q (putB size ds cs k) ∧ (putB size ds cs k).length ≤ d ∧ (q = none → d = 0)) ∧ Below w.heap.size w w' := by
  refine (Put_yes hE hI dc kc hdc hyes).mono fun e w' h => ?_
  obtain ⟨v, rfl, o, hb⟩ := h
  rw [← putB_len size ds cs k] at o
  obtain ⟨q, d, rfl, _⟩ := owns_form o
  exact ⟨q, d, rfl, ⟨src_own o, (owns_cap o).2, (owns_cap o).1⟩, hb⟩
/-- three cells of a block, as they were -/
structure Box (w : World) (B : Nat) (a b c : Value) : Prop where
  c0 : w.cell? ⟨B, 0, none⟩ = some a
  c1 : w.cell? ⟨B, 1, none⟩ = some b
  c2 : w.cell? ⟨B, 2, none⟩ = some c
theorem Box.on {w w' : World} {B : Nat} {a b c : Value} (h : Box w B a b c) (hb : Below w.heap.size w w') : Box w' B a b c :=
  ⟨((bcell hb).1 _ _ (cell_lt h.c0)).trans h.c0, ((bcell hb).1 _ _ (cell_lt h.c0)).trans h.c1, ((bcell hb).1 _ _ (cell_lt h.c0)).trans h.c2⟩
theorem Box.new (w : World) (a b c : Value) (t : TypeId) : Box (w.alloc (.cells #[a, b, c] t)) w.heap.size a b c := by
  have h := alloc_at w (.cells #[a, b, c] t)
  exact ⟨by rw [cell_of h]; rfl, by rw [cell_of h]; rfl, by rw [cell_of h]; rfl⟩
end Go.Proofs.YtcjghnnliepjjaaGreatDoor
