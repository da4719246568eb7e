/- From the row's conditions to the walk. -/
import Derived.Test.YteicnekoogmmmaaGreatDoorPlayWalk
import Derived.Shelf.Vars
import Derived.HandedShaped
import Derived.Lay
import Derived.OpenShut
import Derived.Laws.IdiomArrays
import Derived.Deep.Strs
namespace Go.Proofs.YteicnekoogmmmaaGreatDoor
open Go Go.ChangeShapes Go.WideShapes Go.ChangeAt Go.RowKit
set_option maxRecDepth 100000
set_option linter.unusedVariables false
theorem own : ownKnob Tryz.prog.godebug = none := by kernel_rfl
theorem returns_and_shaped {H : Type} {enc : TypeId × Value → H} {a : Assume} {C : Checked} {os : Os} {f : FuncId} {fn : Func} {s : ChangeSpec} {conds : List PathCond} {apart fresh handsOn again : Bool} {X : World → Array Value → Prop}
    (hX : ∀ (w w' : World) (args : Array Value), w.heap = w'.heap → X w args → X w' args)
    (own : ownKnob C.prog.godebug = none) (started : os.Started) (noInit : C.prog.inits.idxOf? f = none) (hfn : C.prog.funcs[f]? = some fn)
    (witness : ∃ (w : World) (tape : Tape) (i : Input), w.os = os ∧ (w.forCall tape i).Shaped C.prog ∧ i.vars = [] ∧ Input.okWide C.prog (w.forCall tape i) .any w.heap.size f i ∧
      ((s.pre enc C.prog fn conds apart (w.forCall tape i).memory i.args ∧ X (w.forCall tape i).memory i.args) ∧ sizedMet enc C.prog fn (OpenSpec.ofChange s) apart (w.forCall tape i).memory i.args) ∧ a.holds C.prog (lone (Frame.enter C.prog f i.args .normal) [] (w.forCall tape i)))
    (contract : ∀ (W : World) (base : Nat) (args : Array Value) (ds gs : List (DataW H)) (before : List MemPlace),
      (∀ (j : Nat) t v, fn.params[j]? = some t → args[j]? = some v → Value.okWide C.prog W .any base t v) →
      DataW.Whole enc C.prog fn.params.toList s.vars apart W args.toList ds gs before → X W args → W.ShapedOpen C.prog →
      Calls C.prog f args W fun e W' => ∃ v, e = .returned v ∧ s.post enc C.prog fn apart fresh handsOn again W args v W') :
    ReturnsInHanded a C os f .any (fun w args => (s.pre enc C.prog fn conds apart w args ∧ X w args) ∧ sizedMet enc C.prog fn (OpenSpec.ofChange s) apart w args) (s.post enc C.prog fn apart fresh handsOn again) := by
  refine returnsInHanded_of_calls own started noInit witness ?_
  intro w tape i _ hsh _ hok hpre _
  obtain ⟨_, _, _, fn', hfn', _, _, _, _, hval⟩ := hok
  have e : fn' = fn := Option.some.inj (hfn'.symm.trans hfn)
  subst e
  obtain ⟨⟨⟨ds, gs, before, hw, _⟩, hx⟩, _⟩ := hpre
  have hw' := DataW.Whole.of_heap (w' := w.forCall tape i) (by rfl) hw
  refine (contract (w.forCall tape i) w.heap.size i.args ds gs before hval hw' (hX _ _ _ (by rfl) hx) hsh).mono fun e W' ⟨v, he, hp⟩ => ?_
  subst he
  exact ChangeSpec.post_blind hp
variable {H : Type} {enc : TypeId × Value → H}
theorem make_cells {w : World} {base : Nat} {sp : Nat → Bool} {held : Bool} {fuel : Nat} {c0 c1 c2 : Value} {x : DataW H × List MemPlace} (hf : DataW.trod enc Tryz.prog w base sp held fuel 25 [c0, c1, c2] = some x) :
    ∃ k a b : Int, c0 = .int .u8 k ∧ c1 = .int .u32 a ∧ c2 = .int .u32 b ∧ (0 ≤ k ∧ k ≤ 255) ∧ (0 ≤ a ∧ a ≤ 4294967295) ∧ (0 ≤ b ∧ b ≤ 4294967295) := by
  obtain ⟨xs, m, _, _, _, hl, helA⟩ := DataW.trod_struct Tryz.underlying25 hf
  match xs, hl with
  | [xA0, xA1, xA2], _ =>
    have fA0 : DataW.trod enc Tryz.prog w base sp held m 22 (([c0, c1, c2].drop 0).take (Tryz.prog.cellsOf 22)) = some xA0 := helA 0 _ rfl
    rw [show Tryz.prog.cellsOf 22 = 1 by kernel_rfl] at fA0
    have eA0 : DataW.trod enc Tryz.prog w base sp held m 22 [c0] = some xA0 := fA0
    obtain ⟨k, qA0, _, wA0⟩ := DataW.trod_int Tryz.underlying22 eA0
    simp only [List.cons.injEq, and_true] at qA0
    have fA1 : DataW.trod enc Tryz.prog w base sp held m 23 (([c0, c1, c2].drop 1).take (Tryz.prog.cellsOf 23)) = some xA1 := helA 1 _ rfl
    rw [show Tryz.prog.cellsOf 23 = 1 by kernel_rfl] at fA1
    have eA1 : DataW.trod enc Tryz.prog w base sp held m 23 [c1] = some xA1 := fA1
    obtain ⟨a, qA1, _, wA1⟩ := DataW.trod_int Tryz.underlying23 eA1
    simp only [List.cons.injEq, and_true] at qA1
    have fA2 : DataW.trod enc Tryz.prog w base sp held m 23 (([c0, c1, c2].drop 2).take (Tryz.prog.cellsOf 23)) = some xA2 := helA 2 _ rfl
    rw [show Tryz.prog.cellsOf 23 = 1 by kernel_rfl] at fA2
    have eA2 : DataW.trod enc Tryz.prog w base sp held m 23 [c2] = some xA2 := fA2
    obtain ⟨b, qA2, _, wA2⟩ := DataW.trod_int Tryz.underlying23 eA2
    simp only [List.cons.injEq, and_true] at qA2
    subst qA0 qA1 qA2
    exact ⟨k, a, b, rfl, rfl, rfl, bounds_u8 wA0, bounds_u32 wA1, bounds_u32 wA2⟩
theorem open_make {w : World} {r : Reach} {b0 base : Nat} {sp : Nat → Bool} {held : Bool} {v : Value} {d : DataW H} {ps : List MemPlace} (hval : Value.okWide Tryz.prog w r b0 25 v) (hd : DataW.Trod enc Tryz.prog w base sp held 25 v d ps) :
    ∃ k a b : Int, v = .agg #[.int .u8 k, .int .u32 a, .int .u32 b] ∧ (0 ≤ k ∧ k ≤ 255) ∧ (0 ≤ a ∧ a ≤ 4294967295) ∧ (0 ≤ b ∧ b ≤ 4294967295) := by
  obtain ⟨cs, rfl, hn⟩ := okWide_struct Tryz.underlying25 hval
  rw [show Tryz.prog.cellsOf 25 = 3 by kernel_rfl] at hn
  obtain ⟨fuel, hf⟩ := hd
  obtain ⟨l⟩ := cs
  match l, hn with
  | [c0, c1, c2], _ =>
    obtain ⟨k, a, b, rfl, rfl, rfl, h1, h2, h3⟩ := make_cells hf
    exact ⟨k, a, b, rfl, h1, h2, h3⟩
end Go.Proofs.YteicnekoogmmmaaGreatDoor
