/- From the listed variables to what the walks ask of memory; a task, and what is asked, as they come in. -/
import Derived.Test.YtnoadpgnefncjaaDoorDig
import Derived.Lib.LaidTab
import Derived.LaidMore
import Derived.Stop.LaidErr
import Derived.ProofKit
import Derived.OpenShut
import Derived.Laws.IdiomArrays
import Derived.Stop.Joined
import Derived.HandedShaped
import Derived.Lay
import Derived.Carry
namespace Go.Proofs.YtnoadpgnefncjaaDoor
open Go Go.ChangeShapes Go.WideShapes Go.ChangeAt Go.RowKit
set_option maxRecDepth 100000
set_option linter.unusedVariables false
theorem own : ownKnob Tryd.prog.godebug = none := by kernel_rfl
theorem laidOut : laidOutB Tryd.prog = true := by kernel_rfl
theorem pow_of {W : World} {rest : List (String × DataW Unit)} (h : laidMet Tryd.prog (("internal/strconv.uint64pow10", Rows.laid_internal_strconv_uint64pow10) :: rest) W) : Pow W :=
  Lib.tabIs_of_head (t := 81) (e := 71) (n := 20) powAt (by kernel_rfl) Tryd.underlying81 Tryd.underlying71 (by kernel_rfl) (by kernel_rfl) h
theorem wordsAt : Tryd.prog.globalNamed "timekeeper/tasks.stateWords" = some 0 := by kernel_rfl
theorem wordsTy : (Tryd.prog.globals[0]?).map (·.type) = some 40 := by kernel_rfl
theorem words_of {W : World} {rest : List (String × DataW Unit)} (h : laidMet Tryd.prog (("timekeeper/tasks.stateWords", Rows.laid_timekeeper_tasks_stateWords) :: rest) W) :
    (∀ s : Int, (s = 1 ∨ s = 2 ∨ s = 3) → W.cell? ⟨0, s.toNat, none⟩ = some (.string (mk (stw s)))) ∧ 0 < W.heap.size := by
  obtain ⟨ps, ⟨g', t', cs, fuel, p, q, hg', ht', hvar, hd, _, _⟩, _⟩ := h
  obtain rfl := Option.some.inj (wordsAt.symm.trans hg')
  obtain rfl := Option.some.inj (wordsTy.symm.trans ht')
  refine ⟨fun s hs => ?_, var_lt hg' hvar⟩
  have hcell : ∀ i, W.cell? ⟨0, i, none⟩ = cs[i]? := fun i => World.var?_cell hg' hvar i
  obtain ⟨xs, m, rfl, hx, hl, hn, hel⟩ := DataW.trod_array Tryd.underlying40 hd
  rw [show Tryd.prog.cellsOf 40 = 4 by kernel_rfl] at hl
  rw [show Tryd.prog.cellsOf 9 = 1 by kernel_rfl] at hel
  obtain ⟨l⟩ := cs
  match l, hl with
  | [c0, c1, c2, c3], _ =>
    match xs, hn with
    | [x0, x1, x2, x3], _ =>
      have e1 := hel 1 (by decide)
      have e2 := hel 2 (by decide)
      have e3 := hel 3 (by decide)
      obtain ⟨b1, q1, r1, _⟩ := DataW.trod_string Tryd.underlying9 (show DataW.trod _ Tryd.prog W _ _ _ m 9 [c1] = some x1 from e1)
      obtain ⟨b2, q2, r2, _⟩ := DataW.trod_string Tryd.underlying9 (show DataW.trod _ Tryd.prog W _ _ _ m 9 [c2] = some x2 from e2)
      obtain ⟨b3, q3, r3, _⟩ := DataW.trod_string Tryd.underlying9 (show DataW.trod _ Tryd.prog W _ _ _ m 9 [c3] = some x3 from e3)
      have hx1 := congrArg Prod.fst hx
      simp only [Rows.laid_timekeeper_tasks_stateWords, r1, r2, r3, List.map_cons, List.map_nil, DataW.agg.injEq, List.cons.injEq, DataW.lit.injEq, Lit.string.injEq, and_true] at hx1
      simp only [List.cons.injEq, and_true] at q1 q2 q3
      rw [hcell]
      have dm : ∀ x : ByteArray, mk x.data.toList = x := fun x => by cases x; simp [mk]
      rcases hs with rfl | rfl | rfl
      · show some c1 = _
        rw [q1, ← dm b1, ← hx1.2.1]; rfl
      · show some c2 = _
        rw [q2, ← dm b2, ← hx1.2.2.1]; rfl
      · show some c3 = _
        rw [q3, ← dm b3, ← hx1.2.2.2]; rfl
theorem returns_and_shaped {H : Type} {enc : TypeId × Value → H} {a : Assume} {C : Checked} {os : Os} {f : FuncId} {fn : Func} {s : ChangeSpec} {conds : List PathCond} {apart fresh handsOn again : Bool} {X : World → Array Value → Prop}
    (hX : ∀ (w w' : World) (args : Array Value), w.heap = w'.heap → X w args → X w' args)
    (own : ownKnob C.prog.godebug = none) (started : os.Started) (noInit : C.prog.inits.idxOf? f = none) (hfn : C.prog.funcs[f]? = some fn)
    (witness : ∃ (w : World) (tape : Tape) (i : Input), w.os = os ∧ (w.forCall tape i).Shaped C.prog ∧ i.vars = [] ∧ Input.okWide C.prog (w.forCall tape i) .any w.heap.size f i ∧
      ((s.pre enc C.prog fn conds apart (w.forCall tape i).memory i.args ∧ X (w.forCall tape i).memory i.args) ∧ sizedMet enc C.prog fn (OpenSpec.ofChange s) apart (w.forCall tape i).memory i.args) ∧ a.holds C.prog (lone (Frame.enter C.prog f i.args .normal) [] (w.forCall tape i)))
    (contract : ∀ (W : World) (base : Nat) (args : Array Value) (ds gs : List (DataW H)) (before : List MemPlace),
      (∀ (j : Nat) t v, fn.params[j]? = some t → args[j]? = some v → Value.okWide C.prog W .any base t v) →
      DataW.Whole enc C.prog fn.params.toList s.vars apart W args.toList ds gs before → X W args → W.ShapedOpen C.prog →
      Calls C.prog f args W fun e W' => ∃ v, e = .returned v ∧ s.post enc C.prog fn apart fresh handsOn again W args v W') :
    ReturnsInHanded a C os f .any (fun w args => (s.pre enc C.prog fn conds apart w args ∧ X w args) ∧ sizedMet enc C.prog fn (OpenSpec.ofChange s) apart w args) (s.post enc C.prog fn apart fresh handsOn again) := by
  refine returnsInHanded_of_calls own started noInit witness ?_
  intro w tape i _ hsh _ hok hpre _
  obtain ⟨_, _, _, fn', hfn', _, _, _, _, hval⟩ := hok
  have e : fn' = fn := Option.some.inj (hfn'.symm.trans hfn)
  subst e
  obtain ⟨⟨⟨ds, gs, before, hw, _⟩, hx⟩, _⟩ := hpre
  have hw' := DataW.Whole.of_heap (w' := w.forCall tape i) (by rfl) hw
  refine (contract (w.forCall tape i) w.heap.size i.args ds gs before hval hw' (hX _ _ _ (by rfl) hx) hsh).mono fun e W' ⟨v, he, hp⟩ => ?_
  subst he
  exact ChangeSpec.post_blind hp
variable {H : Type} {enc : TypeId × Value → H}
theorem ask_cells {w : World} {base : Nat} {sp : Nat → Bool} {held : Bool} {fuel : Nat} {c0 c1 c2 c3 c4 : Value} {x : DataW H × List MemPlace} (hf : DataW.trod enc Tryd.prog w base sp held fuel 26 [c0, c1, c2, c3, c4] = some x) :
    ∃ wh ah av am aw : Int, c0 = .int .u8 wh ∧ c1 = .int .u32 ah ∧ c2 = .int .u32 av ∧ c3 = .int .u32 am ∧ c4 = .int .i64 aw ∧ (0 ≤ wh ∧ wh ≤ 255) ∧ (0 ≤ ah ∧ ah ≤ 4294967295) ∧ (0 ≤ av ∧ av ≤ 4294967295) ∧ (0 ≤ am ∧ am ≤ 4294967295) ∧ (-9223372036854775808 ≤ aw ∧ aw ≤ 9223372036854775807) := by
  obtain ⟨xs, m, _, _, _, hl, helA⟩ := DataW.trod_struct Tryd.underlying26 hf
  match xs, hl with
  | [xA0, xA1, xA2, xA3, xA4], _ =>
    have fA0 : DataW.trod enc Tryd.prog w base sp held m 24 (([c0, c1, c2, c3, c4].drop 0).take (Tryd.prog.cellsOf 24)) = some xA0 := helA 0 _ rfl
    rw [show Tryd.prog.cellsOf 24 = 1 by kernel_rfl] at fA0
    have eA0 : DataW.trod enc Tryd.prog w base sp held m 24 [c0] = some xA0 := fA0
    obtain ⟨wh, qA0, _, wA0⟩ := DataW.trod_int Tryd.underlying24 eA0
    simp only [List.cons.injEq, and_true] at qA0
    have fA1 : DataW.trod enc Tryd.prog w base sp held m 22 (([c0, c1, c2, c3, c4].drop 1).take (Tryd.prog.cellsOf 22)) = some xA1 := helA 1 _ rfl
    rw [show Tryd.prog.cellsOf 22 = 1 by kernel_rfl] at fA1
    have eA1 : DataW.trod enc Tryd.prog w base sp held m 22 [c1] = some xA1 := fA1
    obtain ⟨ah, qA1, _, wA1⟩ := DataW.trod_int Tryd.underlying22 eA1
    simp only [List.cons.injEq, and_true] at qA1
    have fA2 : DataW.trod enc Tryd.prog w base sp held m 22 (([c0, c1, c2, c3, c4].drop 2).take (Tryd.prog.cellsOf 22)) = some xA2 := helA 2 _ rfl
    rw [show Tryd.prog.cellsOf 22 = 1 by kernel_rfl] at fA2
    have eA2 : DataW.trod enc Tryd.prog w base sp held m 22 [c2] = some xA2 := fA2
    obtain ⟨av, qA2, _, wA2⟩ := DataW.trod_int Tryd.underlying22 eA2
    simp only [List.cons.injEq, and_true] at qA2
    have fA3 : DataW.trod enc Tryd.prog w base sp held m 22 (([c0, c1, c2, c3, c4].drop 3).take (Tryd.prog.cellsOf 22)) = some xA3 := helA 3 _ rfl
    rw [show Tryd.prog.cellsOf 22 = 1 by kernel_rfl] at fA3
    have eA3 : DataW.trod enc Tryd.prog w base sp held m 22 [c3] = some xA3 := fA3
    obtain ⟨am, qA3, _, wA3⟩ := DataW.trod_int Tryd.underlying22 eA3
    simp only [List.cons.injEq, and_true] at qA3
    have fA4 : DataW.trod enc Tryd.prog w base sp held m 2 (([c0, c1, c2, c3, c4].drop 4).take (Tryd.prog.cellsOf 2)) = some xA4 := helA 4 _ rfl
    rw [show Tryd.prog.cellsOf 2 = 1 by kernel_rfl] at fA4
    have eA4 : DataW.trod enc Tryd.prog w base sp held m 2 [c4] = some xA4 := fA4
    obtain ⟨aw, qA4, _, wA4⟩ := DataW.trod_int Tryd.underlying2 eA4
    simp only [List.cons.injEq, and_true] at qA4
    subst qA0 qA1 qA2 qA3 qA4
    exact ⟨wh, ah, av, am, aw, rfl, rfl, rfl, rfl, rfl, bounds_u8 wA0, bounds_u32 wA1, bounds_u32 wA2, bounds_u32 wA3, bounds_i64 wA4⟩
theorem open_ask {w : World} {r : Reach} {b0 base : Nat} {sp : Nat → Bool} {held : Bool} {v : Value} {d : DataW H} {ps : List MemPlace} (hval : Value.okWide Tryd.prog w r b0 26 v) (hd : DataW.Trod enc Tryd.prog w base sp held 26 v d ps) :
    ∃ wh ah av am aw : Int, v = .agg #[.int .u8 wh, .int .u32 ah, .int .u32 av, .int .u32 am, .int .i64 aw] ∧ (0 ≤ wh ∧ wh ≤ 255) := by
  obtain ⟨cs, rfl, hn⟩ := okWide_struct Tryd.underlying26 hval
  rw [show Tryd.prog.cellsOf 26 = 5 by kernel_rfl] at hn
  obtain ⟨fuel, hf⟩ := hd
  obtain ⟨l⟩ := cs
  match l, hn with
  | [c0, c1, c2, c3, c4], _ =>
    obtain ⟨wh, ah, av, am, aw, rfl, rfl, rfl, rfl, rfl, h1, _⟩ := ask_cells hf
    exact ⟨wh, ah, av, am, aw, rfl, h1⟩
theorem open_task {w : World} {r : Reach} {b0 base : Nat} {sp : Nat → Bool} {held : Bool} {v : Value} {d : DataW H} {ps : List MemPlace} (hval : Value.okWide Tryd.prog w r b0 29 v) (hd : DataW.Trod enc Tryd.prog w base sp held 29 v d ps) :
    ∃ (h s : Int) (d : Bool) (b r wh ah av am aw lf an la vl : Int), v = .agg #[.int .u32 h, .int .u8 s, .bool d, .int .i64 b, .int .i64 r, .int .u8 wh, .int .u32 ah, .int .u32 av, .int .u32 am, .int .i64 aw, .int .i64 lf, .int .i64 an, .int .i64 la, .int .u32 vl] ∧ Bd h s b r wh ah av am aw lf an la vl := by
  obtain ⟨cs, rfl, hn⟩ := okWide_struct Tryd.underlying29 hval
  rw [show Tryd.prog.cellsOf 29 = 14 by kernel_rfl] at hn
  obtain ⟨fuel, hf⟩ := hd
  obtain ⟨xs, m, _, _, _, hl, helT⟩ := DataW.trod_struct Tryd.underlying29 hf
  obtain ⟨l⟩ := cs
  match l, hn with
  | [c0, c1, c2, c3, c4, c5, c6, c7, c8, c9, c10, c11, c12, c13], _ =>
    match xs, hl with
    | [xT0, xT1, xT2, xT3, xT4, xT5, xT6, xT7, xT8, xT9], _ =>
      have fT0 : DataW.trod enc Tryd.prog w base sp held m 22 (([c0, c1, c2, c3, c4, c5, c6, c7, c8, c9, c10, c11, c12, c13].drop 0).take (Tryd.prog.cellsOf 22)) = some xT0 := helT 0 _ rfl
      rw [show Tryd.prog.cellsOf 22 = 1 by kernel_rfl] at fT0
      have eT0 : DataW.trod enc Tryd.prog w base sp held m 22 [c0] = some xT0 := fT0
      obtain ⟨h, qT0, _, wT0⟩ := DataW.trod_int Tryd.underlying22 eT0
      simp only [List.cons.injEq, and_true] at qT0
      have fT1 : DataW.trod enc Tryd.prog w base sp held m 23 (([c0, c1, c2, c3, c4, c5, c6, c7, c8, c9, c10, c11, c12, c13].drop 1).take (Tryd.prog.cellsOf 23)) = some xT1 := helT 1 _ rfl
      rw [show Tryd.prog.cellsOf 23 = 1 by kernel_rfl] at fT1
      have eT1 : DataW.trod enc Tryd.prog w base sp held m 23 [c1] = some xT1 := fT1
      obtain ⟨s, qT1, _, wT1⟩ := DataW.trod_int Tryd.underlying23 eT1
      simp only [List.cons.injEq, and_true] at qT1
      have fT2 : DataW.trod enc Tryd.prog w base sp held m 4 (([c0, c1, c2, c3, c4, c5, c6, c7, c8, c9, c10, c11, c12, c13].drop 2).take (Tryd.prog.cellsOf 4)) = some xT2 := helT 2 _ rfl
      rw [show Tryd.prog.cellsOf 4 = 1 by kernel_rfl] at fT2
      have eT2 : DataW.trod enc Tryd.prog w base sp held m 4 [c2] = some xT2 := fT2
      obtain ⟨d, qT2, _⟩ := DataW.trod_bool Tryd.underlying4 eT2
      simp only [List.cons.injEq, and_true] at qT2
      have fT3 : DataW.trod enc Tryd.prog w base sp held m 3 (([c0, c1, c2, c3, c4, c5, c6, c7, c8, c9, c10, c11, c12, c13].drop 3).take (Tryd.prog.cellsOf 3)) = some xT3 := helT 3 _ rfl
      rw [show Tryd.prog.cellsOf 3 = 1 by kernel_rfl] at fT3
      have eT3 : DataW.trod enc Tryd.prog w base sp held m 3 [c3] = some xT3 := fT3
      obtain ⟨b, qT3, _, wT3⟩ := DataW.trod_int Tryd.underlying3 eT3
      simp only [List.cons.injEq, and_true] at qT3
      have fT4 : DataW.trod enc Tryd.prog w base sp held m 3 (([c0, c1, c2, c3, c4, c5, c6, c7, c8, c9, c10, c11, c12, c13].drop 4).take (Tryd.prog.cellsOf 3)) = some xT4 := helT 4 _ rfl
      rw [show Tryd.prog.cellsOf 3 = 1 by kernel_rfl] at fT4
      have eT4 : DataW.trod enc Tryd.prog w base sp held m 3 [c4] = some xT4 := fT4
      obtain ⟨r, qT4, _, wT4⟩ := DataW.trod_int Tryd.underlying3 eT4
      simp only [List.cons.injEq, and_true] at qT4
      have fT5 : DataW.trod enc Tryd.prog w base sp held m 26 (([c0, c1, c2, c3, c4, c5, c6, c7, c8, c9, c10, c11, c12, c13].drop 5).take (Tryd.prog.cellsOf 26)) = some xT5 := helT 5 _ rfl
      rw [show Tryd.prog.cellsOf 26 = 5 by kernel_rfl] at fT5
      have eT5 : DataW.trod enc Tryd.prog w base sp held m 26 [c5, c6, c7, c8, c9] = some xT5 := fT5
      have fT6 : DataW.trod enc Tryd.prog w base sp held m 2 (([c0, c1, c2, c3, c4, c5, c6, c7, c8, c9, c10, c11, c12, c13].drop 10).take (Tryd.prog.cellsOf 2)) = some xT6 := helT 6 _ rfl
      rw [show Tryd.prog.cellsOf 2 = 1 by kernel_rfl] at fT6
      have eT6 : DataW.trod enc Tryd.prog w base sp held m 2 [c10] = some xT6 := fT6
      obtain ⟨lf, qT6, _, wT6⟩ := DataW.trod_int Tryd.underlying2 eT6
      simp only [List.cons.injEq, and_true] at qT6
      have fT7 : DataW.trod enc Tryd.prog w base sp held m 3 (([c0, c1, c2, c3, c4, c5, c6, c7, c8, c9, c10, c11, c12, c13].drop 11).take (Tryd.prog.cellsOf 3)) = some xT7 := helT 7 _ rfl
      rw [show Tryd.prog.cellsOf 3 = 1 by kernel_rfl] at fT7
      have eT7 : DataW.trod enc Tryd.prog w base sp held m 3 [c11] = some xT7 := fT7
      obtain ⟨an, qT7, _, wT7⟩ := DataW.trod_int Tryd.underlying3 eT7
      simp only [List.cons.injEq, and_true] at qT7
      have fT8 : DataW.trod enc Tryd.prog w base sp held m 27 (([c0, c1, c2, c3, c4, c5, c6, c7, c8, c9, c10, c11, c12, c13].drop 12).take (Tryd.prog.cellsOf 27)) = some xT8 := helT 8 _ rfl
      rw [show Tryd.prog.cellsOf 27 = 1 by kernel_rfl] at fT8
      have eT8 : DataW.trod enc Tryd.prog w base sp held m 27 [c12] = some xT8 := fT8
      obtain ⟨la, qT8, _, wT8⟩ := DataW.trod_int Tryd.underlying27 eT8
      simp only [List.cons.injEq, and_true] at qT8
      have fT9 : DataW.trod enc Tryd.prog w base sp held m 22 (([c0, c1, c2, c3, c4, c5, c6, c7, c8, c9, c10, c11, c12, c13].drop 13).take (Tryd.prog.cellsOf 22)) = some xT9 := helT 9 _ rfl
      rw [show Tryd.prog.cellsOf 22 = 1 by kernel_rfl] at fT9
      have eT9 : DataW.trod enc Tryd.prog w base sp held m 22 [c13] = some xT9 := fT9
      obtain ⟨vl, qT9, _, wT9⟩ := DataW.trod_int Tryd.underlying22 eT9
      simp only [List.cons.injEq, and_true] at qT9
      subst qT0 qT1 qT2 qT3 qT4 qT6 qT7 qT8 qT9
      obtain ⟨wh, ah, av, am, aw, rfl, rfl, rfl, rfl, rfl, k1, k2, k3, k4, k5⟩ := ask_cells eT5
      exact ⟨h, s, d, b, r, wh, ah, av, am, aw, lf, an, la, vl, rfl, ⟨bounds_u32 wT0, bounds_u8 wT1, bounds_i64 wT3, bounds_i64 wT4, k1, k2, k3, k4, k5, bounds_i64 wT6, bounds_i64 wT7, bounds_i64 wT8, bounds_u32 wT9⟩⟩
end Go.Proofs.YtnoadpgnefncjaaDoor
