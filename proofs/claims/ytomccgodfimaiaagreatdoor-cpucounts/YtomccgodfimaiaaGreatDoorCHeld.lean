/- A region that draws its order and loads a cell that it stores at its end, from where some have come up: the load first, then what reads, then what makes memory, then what waits for the load. No law of the program itself. -/
import Derived.Test.YtomccgodfimaiaaGreatDoorRegs
namespace Go.Proofs.YtomccgodfimaiaaGreatDoor
set_option linter.all false
open Go Go.RowKit
set_option linter.unusedVariables false
def heldB1 (ops : Array Oper) (i1 : Nat) (is : List Nat) (j : Nat) (js : List Nat) (L0 : Array Bool) : Bool :=
  Region.free .any ops L0 i1 && (Region.ready .any ops L0).contains i1 &&
  (js.all fun x => reachB .any ops ops.size x i1) && thenB ops is (j :: js) (L0.setIfInBounds i1 true) &&
  (List.range ops.size).all (fun x => !L0.getD x false || match ops[x]? with | none => false | some o => o.after.all fun e => L0.getD e.on false)
theorem any_load_then {P : Program} {Q : Exit → Act → World → Prop} {a : Act} {w W : World} {l : List Oper} (S : World → Prop) (listed : Array Bool) (i1 : Nat) (o1 : Oper) (v1 : Value) (is : List Nat) (j : Nat) (oj : Oper) (js : List Nat)
    (h1 : l.toArray[i1]? = some o1) (hj : l.toArray[j]? = some oj) (hB : heldB1 l.toArray i1 is j js listed = true) (hW : Below w.heap.size w W)
    (hS : ∀ w', Below w.heap.size w w' → S w') (hQ1 : ∀ c a w, Q (.panic c) (a.put o1.dst v1) w → Q (.panic c) a w) (hy1 : YieldsIf P l.toArray S o1 v1 a)
    (h : wpQuiet P l.toArray (fun w' => ∃ g, w' = above w g) (fun a' => ∀ w', Below w.heap.size w w' → ∀ K : Act → World → Prop, (∀ a w, (S w ∧ wpList P l.toArray Q (pick l.toArray js) a w) → K a w) → if Region.wanted oj (yielded l.toArray a'.tmps) then oj.wp P a' w' K Q else K (a'.put oj.dst undef) w') (pick l.toArray is) (a.put o1.dst v1)) : wpAny P .any l.toArray Q (js.length + 1 + is.length + 1) listed a W := by
  simp only [heldB1, Bool.and_eq_true, List.all_eq_true, List.mem_range] at hB
  obtain ⟨⟨⟨⟨hf1, hr1⟩, hla⟩, hT⟩, hcl⟩ := hB
  have hT' := hT
  simp only [thenB, Bool.and_eq_true] at hT'
  obtain ⟨⟨⟨⟨⟨⟨⟨hs, hw⟩, hp⟩, hln⟩, _⟩, _⟩, _⟩, _⟩ := hT'
  refine any_of_first (S := S) (late := js) h1 (Region.noSelect_spec hs) hQ1 hla _ _ _ _ (fun x ox hx hlx e he _ => ?_) (Region.free_spec h1 hf1) (by simpa using hr1) hy1 (hS _ hW) ?_
  · have hlt : x < l.toArray.size := (Array.getElem?_eq_some_iff.1 hx).1
    have h2 := hcl x hlt
    simp only [hlx, hx, Bool.not_true, Bool.false_or, Array.all_eq_true_iff_forall_mem] at h2
    exact h2 e he
  refine any_of_TL (C := fun w' => ∃ g, w' = above w g) (m := js.length + 1) (fun w' ⟨g, hg⟩ => by subst hg; exact hS _ (below_above w g)) is.length _ _ _ ⟨W, (above_of hW).symm⟩ ?_
  refine anyT_lex (P := P) (C := fun w' => ∃ g, w' = above w g) (T := fun li a' => ∀ w', (∃ g, w' = above w g) → wpAnyL P .any l.toArray Q S js (js.length + 1) li a' w') (all := is) hw hs is _ _ is (fun i hi => hi) (rem0 hT) rfl (fun i hi => hi) hp ?_
  have mono : ∀ (l' : List Oper) (a' : Act), wpQuiet P l.toArray (fun w' => ∃ g, w' = above w g) (fun a' => ∀ w', Below w.heap.size w w' → ∀ K : Act → World → Prop, (∀ a w, (S w ∧ wpList P l.toArray Q (pick l.toArray js) a w) → K a w) → if Region.wanted oj (yielded l.toArray a'.tmps) then oj.wp P a' w' K Q else K (a'.put oj.dst undef) w') l' a' →
      wpQuiet P l.toArray (fun w' => ∃ g, w' = above w g) (fun a' => ∀ w', (∃ g, w' = above w g) → wpAnyL P .any l.toArray Q S js (js.length + 1) (after is (listed.setIfInBounds i1 true)) a' w') l' a' := by
    intro l'
    induction l' with
    | nil =>
      intro a' h w' ⟨g, hg⟩
      subst hg
      simp only [lineFrom, Bool.and_eq_true, beq_iff_eq] at hln
      obtain ⟨hr, hln'⟩ := hln
      refine ⟨fun h0 => (by rw [hr] at h0; cases h0), fun i hi => ?_⟩
      rw [hr, List.mem_singleton] at hi
      subst hi
      have h2 := h _ (below_above w g) _ (fun a w hh => (⟨fun _ => hh.1, L_of_line js _ a w (fun j hj => hj) hln' hh.2⟩ : (i ∉ js → S w) ∧ wpAnyL P .any l.toArray Q S js js.length _ a w))
      unfold wpOp
      simp only [hj]
      split
      · rename_i hw; rw [if_pos hw] at h2; exact Or.inl h2
      · rename_i hw; rw [if_neg hw] at h2; exact h2
    | cons o rest ih =>
      intro a' h
      simp only [wpQuiet] at h ⊢
      split at h
      · rename_i hw; rw [if_pos hw]; exact Oper.quiet_mono ih h
      · rename_i hw; rw [if_neg hw]; exact ih _ h
  exact mono _ _ h
theorem pick_two {l : List Oper} (x y : Nat) (hx : x < l.length) (hy : y < l.length) : pick l.toArray [x, y] = (l.drop x).take 1 ++ (l.drop y).take 1 := by
  have h1 := pick_range (l := l) 1 x (by omega)
  have h2 := pick_range (l := l) 1 y (by omega)
  rw [← h1, ← h2]
  unfold pick
  rw [← List.filterMap_append]
  rfl
end Go.Proofs.YtomccgodfimaiaaGreatDoor
