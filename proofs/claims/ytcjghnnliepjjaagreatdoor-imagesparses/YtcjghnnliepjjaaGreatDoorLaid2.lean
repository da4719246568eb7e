/- From the listed variables, and the world's own shape, to what the walks with texts ask of memory. -/
import Derived.Test.YtcjghnnliepjjaaGreatDoorLaid
import Derived.Test.YtcjghnnliepjjaaGreatDoorParse
import Derived.Shelf.Vars
import Derived.HandedShaped
import Derived.Lay
namespace Go.Proofs.YtcjghnnliepjjaaGreatDoor
open Go Go.ChangeShapes Go.WideShapes Go.ChangeAt Go.RowKit
set_option maxRecDepth 100000
theorem returns_and_shaped {H : Type} {enc : TypeId × Value → H} {a : Assume} {C : Checked} {os : Os} {f : FuncId} {fn : Func} {s : ChangeSpec} {conds : List PathCond} {apart fresh handsOn again : Bool} {X : World → Array Value → Prop}
    (hX : ∀ (w w' : World) (args : Array Value), w.heap = w'.heap → X w args → X w' args)
    (own : ownKnob C.prog.godebug = none) (started : os.Started) (noInit : C.prog.inits.idxOf? f = none) (hfn : C.prog.funcs[f]? = some fn)
    (witness : ∃ (w : World) (tape : Tape) (i : Input), w.os = os ∧ (w.forCall tape i).Shaped C.prog ∧ i.vars = [] ∧ Input.okWide C.prog (w.forCall tape i) .any w.heap.size f i ∧
      ((s.pre enc C.prog fn conds apart (w.forCall tape i).memory i.args ∧ X (w.forCall tape i).memory i.args) ∧ sizedMet enc C.prog fn (OpenSpec.ofChange s) apart (w.forCall tape i).memory i.args) ∧ a.holds C.prog (lone (Frame.enter C.prog f i.args .normal) [] (w.forCall tape i)))
    (contract : ∀ (W : World) (base : Nat) (args : Array Value) (ds gs : List (DataW H)) (before : List MemPlace),
      (∀ (j : Nat) t v, fn.params[j]? = some t → args[j]? = some v → Value.okWide C.prog W .any base t v) →
      DataW.Whole enc C.prog fn.params.toList s.vars apart W args.toList ds gs before → X W args → W.ShapedOpen C.prog →
      Calls C.prog f args W fun e W' => ∃ v, e = .returned v ∧ s.post enc C.prog fn apart fresh handsOn again W args v W') :
    ReturnsInHanded a C os f .any (fun w args => (s.pre enc C.prog fn conds apart w args ∧ X w args) ∧ sizedMet enc C.prog fn (OpenSpec.ofChange s) apart w args) (s.post enc C.prog fn apart fresh handsOn again) := by
  refine returnsInHanded_of_calls own started noInit witness ?_
  intro w tape i _ hsh _ hok hpre _
  obtain ⟨_, _, _, fn', hfn', _, _, _, _, hval⟩ := hok
  have e : fn' = fn := Option.some.inj (hfn'.symm.trans hfn)
  subst e
  obtain ⟨⟨⟨ds, gs, before, hw, _⟩, hx⟩, _⟩ := hpre
  have hw' := DataW.Whole.of_heap (w' := w.forCall tape i) (by rfl) hw
  refine (contract (w.forCall tape i) w.heap.size i.args ds gs before hval hw' (hX _ _ _ (by rfl) hx) hsh).mono fun e W' ⟨v, he, hp⟩ => ?_
  subst he
  exact ChangeSpec.post_blind hp
theorem num_of {W : World} (h : W.ShapedOpen Tryz.prog) : ∃ m, W.cell? ⟨1, 0, none⟩ = some (.int .i64 m) :=
  cell_of_shapedOpen_int (t := 3) (zero := #[.int .i64 0]) h (of_decide_eq_true (by kernel_rfl)) (by kernel_rfl) rfl (by kernel_rfl) (by kernel_rfl) Tryz.underlying3
theorem row_of {W : World} {rest : List (String × DataW Unit)} (h : laidMet Tryz.prog (("timekeeper/instrs.forms", Rows.laid_timekeeper_instrs_forms) :: rest) W) : Row W := by
  have hf := forms_of h
  obtain ⟨ps, ⟨g', t', cs, fuel, p, q, hg', ht', hvar, hd, _, _⟩, _⟩ := h
  obtain rfl := Option.some.inj (formsAt.symm.trans hg')
  obtain rfl := Option.some.inj (formsTy.symm.trans ht')
  obtain ⟨xs, m, rfl, hx, hl, hn, hel⟩ := DataW.trod_array Tryz.underlying152 hd
  rw [show Tryz.prog.cellsOf 152 = 92 by kernel_rfl] at hl
  have at_ : ∀ i, W.cell? ⟨0, i, none⟩ = cs[i]? := fun i => World.var?_cell hg' hvar i
  have hcs : cs = fCells := by
    apply Array.ext_getElem?
    intro i
    by_cases hi : i < 92
    · obtain ⟨o, r, ho, hr, rfl⟩ : ∃ o r, o < 23 ∧ r < 4 ∧ i = o * 4 + r := ⟨i / 4, i % 4, by omega, by omega, by omega⟩
      have h4 := (part_at o ho).1
      have hfc : ∀ r v, r < 4 → (#[Value.string (fWord o), Value.int .u8 (fK o).1, Value.int .u8 (fK o).2.1, Value.int .u8 (fK o).2.2] : Array Value)[r]? = some v → fCells[o * 4 + r]? = some v := fun r v hr hv => by
        rw [← h4, Array.getElem?_extract] at hv
        split at hv
        · exact hv
        · cases hv
      obtain ⟨e0, e1, e2, e3⟩ := hf o ho
      rw [at_] at e0 e1 e2 e3
      obtain rfl | rfl | rfl | rfl : r = 0 ∨ r = 1 ∨ r = 2 ∨ r = 3 := by omega
      · rw [hfc 0 _ (by decide) rfl]; exact e0
      · rw [hfc 1 _ (by decide) rfl]; exact e1
      · rw [hfc 2 _ (by decide) rfl]; exact e2
      · rw [hfc 3 _ (by decide) rfl]; exact e3
    · rw [Array.getElem?_eq_none (by rw [← Array.length_toList, hl]; omega), Array.getElem?_eq_none (by rw [fCells_size]; omega)]
  unfold World.var? at hvar
  simp only [hg', Option.bind_some] at hvar
  unfold Row
  split at hvar
  · rename_i cs' t fr hh
    injection hvar with hvar
    exact ⟨t, fr, by rw [hh, hvar, hcs]⟩
  · cases hvar
theorem errAt {W : World} {n : String} {g : Nat} {txt : List UInt8} {rest : List (String × DataW Unit)} (hg : Tryz.prog.globalNamed n = some g) (hty : (Tryz.prog.globals[g]?).map (·.type) = some 175)
    (h : laidMet Tryz.prog ((n, .iface "*errors.errorString" (.ptr (.agg [.lit (.string txt)]))) :: rest) W) : (∃ t p, W.cell? ⟨g, 0, none⟩ = some (.iface t p)) ∧ g < W.heap.size := by
  obtain ⟨ps, ⟨g', t', cs, fuel, p, q, hg', ht', hvar, hd, _, _⟩, _⟩ := h
  obtain rfl := Option.some.inj (hg.symm.trans hg')
  obtain rfl := Option.some.inj (hty.symm.trans ht')
  obtain ⟨_, u, x, hcs, _⟩ := iface_of_trod u80 hd
  have at_ : W.cell? ⟨g, 0, none⟩ = cs[0]? := World.var?_cell hg' hvar 0
  refine ⟨⟨u, x, ?_⟩, var_lt hg' hvar⟩
  rw [at_, ← Array.getElem?_toList, hcs]
  rfl
end Go.Proofs.YtcjghnnliepjjaaGreatDoor
