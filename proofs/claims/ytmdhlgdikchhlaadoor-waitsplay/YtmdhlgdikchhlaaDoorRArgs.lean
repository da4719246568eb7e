/- What came in: what is done, one after the other; it is read alone. -/
import Derived.Test.YtmdhlgdikchhlaaDoorSame
import Derived.Laws.OwnMore
import Derived.Carry
import Derived.ChangeMaps5
import Derived.Deep.Strs
namespace Go.Proofs.YtmdhlgdikchhlaaDoor
open Go Go.RowKit
open Go.ChangeShapes Go.WideShapes Go.WideElems
set_option maxRecDepth 100000
set_option linter.unusedVariables false
/-- what is done, one after the other: a slice that is read -/
structure Acts (B : Nat) (w : World) (sp : Option Addr) (acts : List (Int × Int × Int)) : Prop where
  spot : 0 < acts.length → ∃ b off, sp = some ⟨b, off, none⟩ ∧ b < B ∧ ∀ i x, acts[i]? = some x → w.cell? ⟨b, off + i * 3, none⟩ = some (.int .u8 x.1) ∧ w.cell? ⟨b, off + i * 3 + 1, none⟩ = some (.int .i64 x.2.1) ∧ w.cell? ⟨b, off + i * 3 + 2, none⟩ = some (.int .i64 x.2.2)
  wf : ∀ (i : Nat) (x : Int × Int × Int), acts[i]? = some x → (0 ≤ x.1 ∧ x.1 ≤ 255) ∧ (-9223372036854775808 ≤ x.2.1 ∧ x.2.1 ≤ 9223372036854775807) ∧ (-9223372036854775808 ≤ x.2.2 ∧ x.2.2 ≤ 9223372036854775807)
theorem Acts.below {B : Nat} {w w' : World} {sp : Option Addr} {acts : List (Int × Int × Int)} (h : Acts B w sp acts) (hb : Below B w w') : Acts B w' sp acts :=
  ⟨fun hz => by
    obtain ⟨b, off, e, hB, hc⟩ := h.spot hz
    exact ⟨b, off, e, hB, fun i x hi => by
      rw [hb.cell (p := ⟨b, off + i * 3, none⟩) hB, hb.cell (p := ⟨b, off + i * 3 + 1, none⟩) hB, hb.cell (p := ⟨b, off + i * 3 + 2, none⟩) hB]; exact hc i x hi⟩, h.wf⟩
theorem open_acts {H : Type} {enc : TypeId × Value → H} {W : World} {base : Nat} {v : Value} {d : DataW H} {p : List MemPlace}
    (hval : Value.okWide Tryd.prog W .any base 22 v) (h : DataW.Trod enc Tryd.prog W 0 (fun _ => true) true 22 v d p) :
    ∃ sp acts cap, v = .slice sp acts.length cap ∧ Acts W.heap.size W sp acts ∧ acts.length ≤ maxLen := by
  obtain ⟨a0, len, cap, rfl⟩ := okWide_slice Tryd.underlying22 hval
  obtain ⟨fuel, hf⟩ := h
  rcases Deep.open_slice Tryd.underlying22 hf with ⟨hcs, hx⟩ | ⟨a, len', cap', m, n, D, Pl, hcs, _, hl, hm, hmm, hx, hel⟩
  · simp [Value.cells] at hcs
    obtain ⟨rfl, rfl, rfl⟩ := hcs
    exact ⟨none, [], 0, rfl, ⟨fun h => by simp at h, fun i x h => by simp at h⟩, by simp⟩
  · simp [Value.cells] at hcs
    obtain ⟨rfl, rfl, rfl⟩ := hcs
    simp at hmm
    subst hmm
    have each : ∀ i, i < len → ∃ x : Int × Int × Int, (W.cell? (a.add (i * 3)) = some (.int .u8 x.1) ∧ W.cell? (a.add (i * 3 + 1)) = some (.int .i64 x.2.1) ∧ W.cell? (a.add (i * 3 + 2)) = some (.int .i64 x.2.2)) ∧ (0 ≤ x.1 ∧ x.1 ≤ 255) ∧ (-9223372036854775808 ≤ x.2.1 ∧ x.2.1 ≤ 9223372036854775807) ∧ (-9223372036854775808 ≤ x.2.2 ∧ x.2.2 ≤ 9223372036854775807) := by
      intro i hi
      obtain ⟨cs', h1, h2⟩ := hel i (by omega)
      rw [show Tryd.prog.cellsOf 39 = 3 by kernel_rfl] at h1
      obtain ⟨_, hlen, hcell⟩ := World.cells?_some h1
      obtain ⟨y0, y1, y2, k, _, _, g0, g1, g2⟩ := Deep.trod_struct3 Tryd.underlying39 h2
      match cs', hlen with
      | [v0, v1, v2], _ =>
        have e0 := hcell 0 (by omega)
        have e1 := hcell 1 (by omega)
        have e2 := hcell 2 (by omega)
        rw [Deep.add_add] at e0 e1 e2
        obtain ⟨n0, q0, _, w0⟩ := DataW.trod_int Tryd.underlying5 (show DataW.trod enc Tryd.prog W 0 (fun _ => true) true k 5 [v0] = some y0 from g0)
        obtain ⟨n1, q1, _, w1⟩ := DataW.trod_int Tryd.underlying3 (show DataW.trod enc Tryd.prog W 0 (fun _ => true) true k 3 [v1] = some y1 from g1)
        obtain ⟨n2, q2, _, w2⟩ := DataW.trod_int Tryd.underlying3 (show DataW.trod enc Tryd.prog W 0 (fun _ => true) true k 3 [v2] = some y2 from g2)
        simp only [List.cons.injEq, and_true] at q0 q1 q2
        subst q0 q1 q2
        exact ⟨(n0, n1, n2), ⟨by simpa using e0, by simpa using e1, by simpa using e2⟩, bounds_u8 w0, bounds_i64 w1, bounds_i64 w2⟩
    obtain ⟨q, hq⟩ := Deep.choose_lt each
    have hat : ∀ (i : Nat) (x : Int × Int × Int), ((List.range len).map q)[i]? = some x → i < len ∧ x = q i := by
      intro i x hi
      have hil : i < len := by have := (List.getElem?_eq_some_iff.1 hi).1; simpa using this
      simp [hil] at hi
      exact ⟨hil, hi.symm⟩
    refine ⟨some a, (List.range len).map q, _, by simp; rfl, ⟨fun hp => ?_, fun i x hi => ?_⟩, by simp; omega⟩
    · have hp' : 0 < len := by simpa using hp
      have h0 := (hq 0 hp').1.1
      obtain ⟨b, off, rfl⟩ : ∃ b off, a = ⟨b, off, none⟩ := by
        obtain ⟨b, off, spot⟩ := a
        have hspot : spot = none := by simpa [Addr.add] using World.cell?_spot h0
        exact ⟨b, off, by rw [hspot]⟩
      refine ⟨b, off, rfl, ?_, fun i x hi => ?_⟩
      · rw [WideShapes.add_plain] at h0
        exact cell_lt h0
      · obtain ⟨hil, rfl⟩ := hat i x hi
        have := (hq i hil).1
        rw [WideShapes.add_plain, WideShapes.add_plain, WideShapes.add_plain, ← Nat.add_assoc, ← Nat.add_assoc] at this
        exact this
    · obtain ⟨hil, rfl⟩ := hat i x hi
      exact (hq i hil).2
theorem laidOut : laidOutB Tryd.prog = true := by kernel_rfl
end Go.Proofs.YtmdhlgdikchhlaaDoor
