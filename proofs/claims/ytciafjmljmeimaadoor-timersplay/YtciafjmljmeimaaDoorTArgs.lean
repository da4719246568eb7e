/- What came in: what is done, one after the other; a struct of two bytes, such a list, and a byte; it is read alone. -/
import Derived.Test.YtciafjmljmeimaaDoorAPure
import Derived.Laws.OwnMore
import Derived.Carry
import Derived.ChangeMaps5
import Derived.Deep.Strs
namespace Go.Proofs.YtciafjmljmeimaaDoor
open Go Go.RowKit
open Go.ChangeShapes Go.WideShapes Go.WideElems
set_option maxRecDepth 100000
set_option linter.unusedVariables false
/-- what is done: how, to whom, in how many ticks, in how many again -/
structure Ac where
  k : Int
  who : Int
  i : Int
  e : Int
  deriving Inhabited
structure Ac.Ok (x : Ac) : Prop where
  k : 0 ≤ x.k ∧ x.k ≤ 255
  who : -9223372036854775808 ≤ x.who ∧ x.who ≤ 9223372036854775807
  i : -9223372036854775808 ≤ x.i ∧ x.i ≤ 9223372036854775807
  e : -9223372036854775808 ≤ x.e ∧ x.e ≤ 9223372036854775807
/-- the cells of one act, from a place on -/
structure Ac.At (x : Ac) (w : World) (b off : Nat) : Prop where
  k : w.cell? ⟨b, off, none⟩ = some (.int .u8 x.k)
  who : w.cell? ⟨b, off + 1, none⟩ = some (.int .i64 x.who)
  i : w.cell? ⟨b, off + 2, none⟩ = some (.int .i64 x.i)
  e : w.cell? ⟨b, off + 3, none⟩ = some (.int .i64 x.e)
theorem Ac.At.below {x : Ac} {B : Nat} {w w' : World} {b off : Nat} (h : x.At w b off) (hB : b < B) (hb : Below B w w') : x.At w' b off :=
  ⟨by rw [hb.cell (p := ⟨b, off, none⟩) hB]; exact h.k, by rw [hb.cell (p := ⟨b, off + 1, none⟩) hB]; exact h.who, by rw [hb.cell (p := ⟨b, off + 2, none⟩) hB]; exact h.i, by rw [hb.cell (p := ⟨b, off + 3, none⟩) hB]; exact h.e⟩
structure Acts (B : Nat) (w : World) (sp : Option Addr) (acts : List Ac) : Prop where
  spot : 0 < acts.length → ∃ b off, sp = some ⟨b, off, none⟩ ∧ b < B ∧ ∀ (i : Nat) (x : Ac), acts[i]? = some x → x.At w b (off + i * 4)
  wf : ∀ (i : Nat) (x : Ac), acts[i]? = some x → x.Ok
theorem Acts.below {B : Nat} {w w' : World} {sp : Option Addr} {acts : List Ac} (h : Acts B w sp acts) (hb : Below B w w') : Acts B w' sp acts :=
  ⟨fun hz => by
    obtain ⟨b, off, e, hB, hc⟩ := h.spot hz
    exact ⟨b, off, e, hB, fun i x hi => (hc i x hi).below hB hb⟩, h.wf⟩
theorem acts_cell {H : Type} {enc : TypeId × Value → H} {W : World} {fuel : Nat} {c : Value} {x : DataW H × List MemPlace} (hf : DataW.trod enc Tryd.prog W 0 (fun _ => true) true fuel 22 [c] = some x) :
    ∃ sp acts cap, c = .slice sp acts.length cap ∧ Acts W.heap.size W sp acts ∧ acts.length ≤ maxLen := by
  rcases Deep.open_slice Tryd.underlying22 hf with ⟨hcs, hx⟩ | ⟨a, len, cap, m, n, D, Pl, hcs, _, hl, hm, hmm, hx, hel⟩
  · simp only [List.cons.injEq, and_true] at hcs
    exact ⟨none, [], 0, hcs, ⟨fun h => by simp at h, fun i x h => by simp at h⟩, by simp⟩
  · simp only [List.cons.injEq, and_true] at hcs
    simp at hmm
    subst hmm
    have each : ∀ i, i < len → ∃ x : Ac, (W.cell? (a.add (i * 4)) = some (.int .u8 x.k) ∧ W.cell? (a.add (i * 4 + 1)) = some (.int .i64 x.who) ∧ W.cell? (a.add (i * 4 + 2)) = some (.int .i64 x.i) ∧ W.cell? (a.add (i * 4 + 3)) = some (.int .i64 x.e)) ∧ x.Ok := by
      intro i hi
      obtain ⟨cs', h1, h2⟩ := hel i (by omega)
      rw [show Tryd.prog.cellsOf 39 = 4 by kernel_rfl] at h1
      obtain ⟨_, hlen, hcell⟩ := World.cells?_some h1
      obtain ⟨xs, k, _, _, _, hxl, hels⟩ := DataW.trod_struct Tryd.underlying39 h2
      match cs', hlen with
      | [v0, v1, v2, v3], _ =>
        have e0 := hcell 0 (by omega)
        have e1 := hcell 1 (by omega)
        have e2 := hcell 2 (by omega)
        have e3 := hcell 3 (by omega)
        rw [Deep.add_add] at e0 e1 e2 e3
        match xs, hxl with
        | [x0, x1, x2, x3], _ =>
          have k5 : Tryd.prog.cellsOf 5 = 1 := by kernel_rfl
          have kw : Tryd.prog.cellsOf 3 = 1 := by kernel_rfl
          have ki : Tryd.prog.cellsOf 2 = 1 := by kernel_rfl
          have g0 : DataW.trod enc Tryd.prog W 0 (fun _ => true) true k 5 (([v0, v1, v2, v3].drop 0).take (Tryd.prog.cellsOf 5)) = some x0 := hels 0 _ rfl
          have g1 : DataW.trod enc Tryd.prog W 0 (fun _ => true) true k 3 (([v0, v1, v2, v3].drop 1).take (Tryd.prog.cellsOf 3)) = some x1 := hels 1 _ rfl
          have g2 : DataW.trod enc Tryd.prog W 0 (fun _ => true) true k 2 (([v0, v1, v2, v3].drop 2).take (Tryd.prog.cellsOf 2)) = some x2 := hels 2 _ rfl
          have g3 : DataW.trod enc Tryd.prog W 0 (fun _ => true) true k 2 (([v0, v1, v2, v3].drop 3).take (Tryd.prog.cellsOf 2)) = some x3 := hels 3 _ rfl
          rw [k5] at g0
          rw [kw] at g1
          rw [ki] at g2 g3
          obtain ⟨n0, q0, _, w0⟩ := DataW.trod_int Tryd.underlying5 (show DataW.trod enc Tryd.prog W 0 (fun _ => true) true k 5 [v0] = some x0 from g0)
          obtain ⟨n1, q1, _, w1⟩ := DataW.trod_int Tryd.underlying3 (show DataW.trod enc Tryd.prog W 0 (fun _ => true) true k 3 [v1] = some x1 from g1)
          obtain ⟨n2, q2, _, w2⟩ := DataW.trod_int Tryd.underlying2 (show DataW.trod enc Tryd.prog W 0 (fun _ => true) true k 2 [v2] = some x2 from g2)
          obtain ⟨n3, q3, _, w3⟩ := DataW.trod_int Tryd.underlying2 (show DataW.trod enc Tryd.prog W 0 (fun _ => true) true k 2 [v3] = some x3 from g3)
          simp only [List.cons.injEq, and_true] at q0 q1 q2 q3
          subst q0 q1 q2 q3
          exact ⟨⟨n0, n1, n2, n3⟩, ⟨by simpa using e0, by simpa using e1, by simpa using e2, by simpa using e3⟩, bounds_u8 w0, bounds_i64 w1, bounds_i64 w2, bounds_i64 w3⟩
    obtain ⟨q, hq⟩ := Deep.choose_lt each
    have hat : ∀ (i : Nat) (x : Ac), ((List.range len).map q)[i]? = some x → i < len ∧ x = q i := by
      intro i x hi
      have hil : i < len := by have := (List.getElem?_eq_some_iff.1 hi).1; simpa using this
      simp [hil] at hi
      exact ⟨hil, hi.symm⟩
    refine ⟨some a, (List.range len).map q, _, by simpa using hcs, ⟨fun hp => ?_, fun i x hi => ?_⟩, by simp; omega⟩
    · have hp' : 0 < len := by simpa using hp
      have h0 := (hq 0 hp').1.1
      obtain ⟨b, off, rfl⟩ : ∃ b off, a = ⟨b, off, none⟩ := by
        obtain ⟨b, off, spot⟩ := a
        have hspot : spot = none := by simpa [Addr.add] using World.cell?_spot h0
        exact ⟨b, off, by rw [hspot]⟩
      refine ⟨b, off, rfl, ?_, fun i x hi => ?_⟩
      · rw [WideShapes.add_plain] at h0
        exact cell_lt h0
      · obtain ⟨hil, rfl⟩ := hat i x hi
        have := (hq i hil).1
        rw [WideShapes.add_plain, WideShapes.add_plain, WideShapes.add_plain, WideShapes.add_plain, ← Nat.add_assoc, ← Nat.add_assoc, ← Nat.add_assoc] at this
        exact ⟨this.1, this.2.1, this.2.2.1, this.2.2.2⟩
    · obtain ⟨hil, rfl⟩ := hat i x hi
      exact (hq i hil).2
theorem open_acts {H : Type} {enc : TypeId × Value → H} {W : World} {base : Nat} {v : Value} {d : DataW H} {p : List MemPlace}
    (hval : Value.okWide Tryd.prog W .any base 22 v) (h : DataW.Trod enc Tryd.prog W 0 (fun _ => true) true 22 v d p) :
    ∃ sp acts cap, v = .slice sp acts.length cap ∧ Acts W.heap.size W sp acts ∧ acts.length ≤ maxLen := by
  obtain ⟨a0, len, cap, rfl⟩ := okWide_slice Tryd.underlying22 hval
  obtain ⟨fuel, hf⟩ := h
  exact acts_cell (show DataW.trod enc Tryd.prog W 0 (fun _ => true) true fuel 22 [.slice a0 len cap] = some (d, p) from by simpa [Value.cells] using hf)
theorem laidOut : laidOutB Tryd.prog = true := by kernel_rfl
end Go.Proofs.YtciafjmljmeimaaDoor
