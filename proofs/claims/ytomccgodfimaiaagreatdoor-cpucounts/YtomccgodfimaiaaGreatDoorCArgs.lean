/- What came in: an image, bytes; they are read alone. -/
import Derived.Test.YtomccgodfimaiaaGreatDoorCLives
import Derived.Test.YtomccgodfimaiaaGreatDoorLaid
import Derived.Shelf.Vars
import Derived.HandedShaped
import Derived.Lay
import Derived.Laws.OwnMore
import Derived.Carry
import Derived.ChangeMaps5
import Derived.Deep.Strs
import Derived.SizedLaws
namespace Go.Proofs.YtomccgodfimaiaaGreatDoor
set_option linter.all false
open Go Go.RowKit
open Go.ChangeShapes Go.WideShapes Go.WideElems
set_option maxRecDepth 100000
set_option linter.unusedVariables false
/-- the way from a contract to the returns, the world's shape kept -/
theorem returns_and_shaped {H : Type} {enc : TypeId × Value → H} {a : Assume} {C : Checked} {os : Os} {f : FuncId} {fn : Func} {s : ChangeSpec} {conds : List PathCond} {apart fresh handsOn again : Bool} {X : World → Array Value → Prop}
    (hX : ∀ (w w' : World) (args : Array Value), w.heap = w'.heap → X w args → X w' args)
    (own : ownKnob C.prog.godebug = none) (started : os.Started) (noInit : C.prog.inits.idxOf? f = none) (hfn : C.prog.funcs[f]? = some fn)
    (witness : ∃ (w : World) (tape : Tape) (i : Input), w.os = os ∧ (w.forCall tape i).Shaped C.prog ∧ i.vars = [] ∧ Input.okWide C.prog (w.forCall tape i) .any w.heap.size f i ∧
      ((s.pre enc C.prog fn conds apart (w.forCall tape i).memory i.args ∧ X (w.forCall tape i).memory i.args) ∧ sizedMet enc C.prog fn (OpenSpec.ofChange s) apart (w.forCall tape i).memory i.args) ∧ a.holds C.prog (lone (Frame.enter C.prog f i.args .normal) [] (w.forCall tape i)))
    (contract : ∀ (W : World) (base : Nat) (args : Array Value) (ds gs : List (DataW H)) (before : List MemPlace),
      (∀ (j : Nat) t v, fn.params[j]? = some t → args[j]? = some v → Value.okWide C.prog W .any base t v) →
      DataW.Whole enc C.prog fn.params.toList s.vars apart W args.toList ds gs before → X W args → W.ShapedOpen C.prog →
      Calls C.prog f args W fun e W' => ∃ v, e = .returned v ∧ s.post enc C.prog fn apart fresh handsOn again W args v W') :
    ReturnsInHanded a C os f .any (fun w args => (s.pre enc C.prog fn conds apart w args ∧ X w args) ∧ sizedMet enc C.prog fn (OpenSpec.ofChange s) apart w args) (s.post enc C.prog fn apart fresh handsOn again) := by
  refine returnsInHanded_of_calls own started noInit witness ?_
  intro w tape i _ hsh _ hok hpre _
  obtain ⟨_, _, _, fn', hfn', _, _, _, _, hval⟩ := hok
  have e : fn' = fn := Option.some.inj (hfn'.symm.trans hfn)
  subst e
  obtain ⟨⟨⟨ds, gs, before, hw, _⟩, hx⟩, _⟩ := hpre
  have hw' := DataW.Whole.of_heap (w' := w.forCall tape i) (by rfl) hw
  refine (contract (w.forCall tape i) w.heap.size i.args ds gs before hval hw' (hX _ _ _ (by rfl) hx) hsh).mono fun e W' ⟨v, he, hp⟩ => ?_
  subst he
  exact ChangeSpec.post_blind hp
/-- an image that came in -/
structure ImgA (w : World) (sp : Option Addr) (ds : List Int) (dc : Nat) (cp : Option Addr) (cs : List Int) (k kc : Nat) : Prop where
  i : Img w sp ds cp cs k
  dn : sp = none → dc = 0
  dl : ds.length ≤ maxLen
  kl : k ≤ maxLen
  dcl : ds.length ≤ dc
variable {H : Type} {enc : TypeId × Value → H}
/-- a slice of bytes, by its one cell -/
theorem bytes_cell {W : World} {fuel : Nat} {c : Value} {x : DataW H × List MemPlace} (hf : DataW.trod enc Tryz.prog W 0 (fun _ => true) true fuel 22 [c] = some x) :
    ∃ sp zs cap, c = .slice sp zs.length cap ∧ Src W sp zs ∧ Bs zs ∧ zs.length ≤ maxLen ∧ zs.length ≤ cap ∧ (sp = none → cap = 0) := by
  rcases open_ints Tryz.underlying22 Tryz.underlying5 (by kernel_rfl) hf with ⟨hcs, hx⟩ | ⟨a, len, cap, zs, hcs, _, hl, hm, hz, hx, hcell, hwz⟩
  · simp only [List.cons.injEq, and_true] at hcs
    exact ⟨none, [], 0, hcs, Src.nil _ _, Bs.nil, by simp, by simp, fun _ => rfl⟩
  · simp only [List.cons.injEq, and_true] at hcs
    simp at hz
    have hll : (zs.take len).length = len := by simp; omega
    refine ⟨some a, zs.take len, cap, by rw [hll]; exact hcs, fun hp => ?_, fun z hz' => u8_bd (hwz z (List.mem_of_mem_take hz')), by rw [hll]; omega, by rw [hll]; omega, fun h => by cases h⟩
    rw [hll] at hp
    obtain ⟨b, off, rfl, hc⟩ := ints_at hcell (by omega)
    refine ⟨b, off, rfl, fun i hi => ?_⟩
    rw [hll] at hi
    rw [hc i (by omega)]
    simp [hi]
def comp (x : Int × Int × Int × Int) (r : Nat) : Int := if r = 0 then x.1 else if r = 1 then x.2.1 else if r = 2 then x.2.2.1 else x.2.2.2
/-- a slice of instructions, by its one cell -/
theorem instrs_cell {W : World} {fuel : Nat} {c : Value} {x : DataW H × List MemPlace} (hf : DataW.trod enc Tryz.prog W 0 (fun _ => true) true fuel 23 [c] = some x) :
    ∃ sp cs k cap, c = .slice sp k cap ∧ Src W sp cs ∧ cs.length = 4 * k ∧ Bs cs ∧ k ≤ maxLen := by
  rcases Deep.open_slice Tryz.underlying23 hf with ⟨hcs, hx⟩ | ⟨a, len, cap, m, n, D, Pl, hcs, _, hl, hm, hmm, hx, hel⟩
  · simp only [List.cons.injEq, and_true] at hcs
    exact ⟨none, [], 0, 0, hcs, Src.nil _ _, rfl, Bs.nil, by simp⟩
  · simp only [List.cons.injEq, and_true] at hcs
    simp at hmm
    subst hmm
    have each : ∀ i, i < len → ∃ x : Int × Int × Int × Int, (W.cell? (a.add (i * 4)) = some (.int .u8 x.1) ∧ W.cell? (a.add (i * 4 + 1)) = some (.int .u8 x.2.1) ∧ W.cell? (a.add (i * 4 + 2)) = some (.int .u8 x.2.2.1) ∧ W.cell? (a.add (i * 4 + 3)) = some (.int .u8 x.2.2.2)) ∧ byte x.1 ∧ byte x.2.1 ∧ byte x.2.2.1 ∧ byte x.2.2.2 := by
      intro i hi
      obtain ⟨cs', h1, h2⟩ := hel i (by omega)
      rw [show Tryz.prog.cellsOf 70 = 4 by kernel_rfl] at h1
      obtain ⟨_, hlen, hcell⟩ := World.cells?_some h1
      obtain ⟨xs, k, _, _, _, hxl, hels⟩ := DataW.trod_struct Tryz.underlying70 h2
      match cs', hlen with
      | [c0, c1, c2, c3], _ =>
        match xs, hxl with
        | [x0, x1, x2, x3], _ =>
          have k22 : Tryz.prog.cellsOf 68 = 1 := by kernel_rfl
          have k5 : Tryz.prog.cellsOf 5 = 1 := by kernel_rfl
          have e0 : DataW.trod enc Tryz.prog W 0 (fun _ => true) true k 68 (([c0, c1, c2, c3].drop 0).take (Tryz.prog.cellsOf 68)) = some x0 := hels 0 _ rfl
          have e1 : DataW.trod enc Tryz.prog W 0 (fun _ => true) true k 5 (([c0, c1, c2, c3].drop 1).take (Tryz.prog.cellsOf 5)) = some x1 := hels 1 _ rfl
          have e2 : DataW.trod enc Tryz.prog W 0 (fun _ => true) true k 5 (([c0, c1, c2, c3].drop 2).take (Tryz.prog.cellsOf 5)) = some x2 := hels 2 _ rfl
          have e3 : DataW.trod enc Tryz.prog W 0 (fun _ => true) true k 5 (([c0, c1, c2, c3].drop 3).take (Tryz.prog.cellsOf 5)) = some x3 := hels 3 _ rfl
          rw [k22] at e0
          rw [k5] at e1 e2 e3
          obtain ⟨n0, q0, _, w0⟩ := DataW.trod_int Tryz.underlying68 (show DataW.trod enc Tryz.prog W 0 (fun _ => true) true k 68 [c0] = some x0 from e0)
          obtain ⟨n1, q1, _, w1⟩ := DataW.trod_int Tryz.underlying5 (show DataW.trod enc Tryz.prog W 0 (fun _ => true) true k 5 [c1] = some x1 from e1)
          obtain ⟨n2, q2, _, w2⟩ := DataW.trod_int Tryz.underlying5 (show DataW.trod enc Tryz.prog W 0 (fun _ => true) true k 5 [c2] = some x2 from e2)
          obtain ⟨n3, q3, _, w3⟩ := DataW.trod_int Tryz.underlying5 (show DataW.trod enc Tryz.prog W 0 (fun _ => true) true k 5 [c3] = some x3 from e3)
          simp only [List.cons.injEq, and_true] at q0 q1 q2 q3
          subst q0 q1 q2 q3
          have g0 := hcell 0 (by omega)
          have g1 := hcell 1 (by omega)
          have g2 := hcell 2 (by omega)
          have g3 := hcell 3 (by omega)
          rw [Deep.add_add] at g0 g1 g2 g3
          exact ⟨(n0, n1, n2, n3), ⟨by simpa using g0, by simpa using g1, by simpa using g2, by simpa using g3⟩, u8_bd w0, u8_bd w1, u8_bd w2, u8_bd w3⟩
    obtain ⟨q, hq⟩ := Deep.choose_lt each
    have hgd : ∀ j, j < 4 * len → ((List.range (4 * len)).map fun j => comp (q (j / 4)) (j % 4)).getD j 0 = comp (q (j / 4)) (j % 4) := fun j hj => by simp [hj]
    refine ⟨some a, (List.range (4 * len)).map fun j => comp (q (j / 4)) (j % 4), len, _, hcs, fun hp => ?_, by simp, fun z hz => ?_, by omega⟩
    · have hp' : 0 < len := by simp at hp; omega
      have h0 := (hq 0 hp').1.1
      obtain ⟨b, off, rfl⟩ : ∃ b off, a = ⟨b, off, none⟩ := by
        obtain ⟨b, off, spot⟩ := a
        have hspot : spot = none := by simpa [Addr.add] using World.cell?_spot h0
        exact ⟨b, off, by rw [hspot]⟩
      refine ⟨b, off, rfl, fun j hj => ?_⟩
      have hj' : j < 4 * len := by simpa using hj
      rw [hgd j hj']
      have h4 := (hq (j / 4) (by omega)).1
      simp only [WideShapes.add_plain] at h4
      obtain h0 | h0 | h0 | h0 : j % 4 = 0 ∨ j % 4 = 1 ∨ j % 4 = 2 ∨ j % 4 = 3 := by omega
      · rw [h0, show off + j = off + j / 4 * 4 by omega]; exact h4.1
      · rw [h0, show off + j = off + (j / 4 * 4 + 1) by omega]; exact h4.2.1
      · rw [h0, show off + j = off + (j / 4 * 4 + 2) by omega]; exact h4.2.2.1
      · rw [h0, show off + j = off + (j / 4 * 4 + 3) by omega]; exact h4.2.2.2
    · obtain ⟨j, hj, rfl⟩ := List.mem_map.1 hz
      have hj' : j < 4 * len := by simpa using hj
      have h4 := (hq (j / 4) (by omega)).2
      unfold comp
      split
      · exact h4.1
      · split
        · exact h4.2.1
        · split
          · exact h4.2.2.1
          · exact h4.2.2.2
/-- an image that came in -/
theorem open_image {W : World} {base : Nat} {v : Value} {d : DataW H} {p : List MemPlace} (hval : Value.okWide Tryz.prog W .any base 25 v) (h : DataW.Trod enc Tryz.prog W 0 (fun _ => true) true 25 v d p) :
    ∃ n sp ds dc cp cs k kc, v = .agg #[.int .i64 n, .slice sp ds.length dc, .slice cp k kc] ∧ ImgA W sp ds dc cp cs k kc ∧ -9223372036854775808 ≤ n ∧ n ≤ 9223372036854775807 := by
  obtain ⟨cs, rfl, hn⟩ := okWide_struct Tryz.underlying25 hval
  rw [show Tryz.prog.cellsOf 25 = 3 by kernel_rfl] at hn
  obtain ⟨fuel, hf⟩ := h
  obtain ⟨xs, m, _, _, _, hl, hel⟩ := DataW.trod_struct Tryz.underlying25 hf
  obtain ⟨l⟩ := cs
  match l, hn with
  | [c0, c1, c2], _ =>
    match xs, hl with
    | [x0, x1, x2], _ =>
      have k3 : Tryz.prog.cellsOf 3 = 1 := by kernel_rfl
      have kB : Tryz.prog.cellsOf 22 = 1 := by kernel_rfl
      have kI : Tryz.prog.cellsOf 23 = 1 := by kernel_rfl
      have e0 : DataW.trod enc Tryz.prog W 0 (fun _ => true) true m 3 (([c0, c1, c2].drop 0).take (Tryz.prog.cellsOf 3)) = some x0 := hel 0 _ rfl
      have e1 : DataW.trod enc Tryz.prog W 0 (fun _ => true) true m 22 (([c0, c1, c2].drop 1).take (Tryz.prog.cellsOf 22)) = some x1 := hel 1 _ rfl
      have e2 : DataW.trod enc Tryz.prog W 0 (fun _ => true) true m 23 (([c0, c1, c2].drop 2).take (Tryz.prog.cellsOf 23)) = some x2 := hel 2 _ rfl
      rw [k3] at e0
      rw [kB] at e1
      rw [kI] at e2
      obtain ⟨n0, q0, _, w0⟩ := DataW.trod_int Tryz.underlying3 (show DataW.trod enc Tryz.prog W 0 (fun _ => true) true m 3 [c0] = some x0 from e0)
      obtain ⟨sp, ds, dc, hc1, s1, b1, m1, l1, z1⟩ := bytes_cell (show DataW.trod enc Tryz.prog W 0 (fun _ => true) true m 22 [c1] = some x1 from e1)
      obtain ⟨cp, cs, k, kc, hc2, s2, l2, b2, m2⟩ := instrs_cell (show DataW.trod enc Tryz.prog W 0 (fun _ => true) true m 23 [c2] = some x2 from e2)
      simp only [List.cons.injEq, and_true] at q0
      subst q0 hc1 hc2
      have b0 := bounds_i64 w0
      exact ⟨n0, sp, ds, dc, cp, cs, k, kc, rfl, ⟨⟨s1, s2, l2, b1, b2⟩, z1, m1, m2, l1⟩, b0.1, b0.2⟩
/-- bytes that came in -/
theorem open_bytes' {W : World} {base : Nat} {v : Value} {d : DataW H} {p : List MemPlace} (hval : Value.okWide Tryz.prog W .any base 22 v) (h : DataW.Trod enc Tryz.prog W 0 (fun _ => true) true 22 v d p) :
    ∃ sp zs cap, v = .slice sp zs.length cap ∧ Src W sp zs ∧ Bs zs ∧ zs.length ≤ maxLen ∧ zs.length ≤ cap ∧ (sp = none → cap = 0) := by
  obtain ⟨a0, len, cap, rfl⟩ := okWide_slice Tryz.underlying22 hval
  obtain ⟨fuel, hf⟩ := h
  exact bytes_cell hf
end Go.Proofs.YtomccgodfimaiaaGreatDoor
