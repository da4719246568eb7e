/- What came in: slices of numbers; they are read alone. -/
import Derived.Test.YtcjjaofmicegfaaDoorSeen
import Derived.Laws.OwnMore
import Derived.Carry
import Derived.ChangeMaps5
import Derived.Deep.Strs
namespace Go.Proofs.YtcjjaofmicegfaaDoor
open Go Go.RowKit
open Go.ChangeShapes Go.WideShapes Go.WideElems
set_option maxRecDepth 100000
set_option linter.unusedVariables false
/-- a slice of numbers that came in -/
theorem open_nums {H : Type} {enc : TypeId × Value → H} {W : World} {base : Nat} {v : Value} {d : DataW H} {p : List MemPlace}
    (hval : Value.okWide Tryd.prog W .any base 22 v) (h : DataW.Trod enc Tryd.prog W 0 (fun _ => true) true 22 v d p) :
    ∃ sp zs cap, v = .slice sp zs.length cap ∧ Src W sp zs ∧ zs.length ≤ maxLen := by
  obtain ⟨a0, len, cap, rfl⟩ := okWide_slice Tryd.underlying22 hval
  obtain ⟨fuel, hf⟩ := h
  rcases open_ints Tryd.underlying22 Tryd.underlying3 (by kernel_rfl) hf with ⟨hcs, hx⟩ | ⟨a, len', cap', zs, hcs, _, hl, hm, hz, hx, hcell, hwz⟩
  · simp [Value.cells] at hcs
    obtain ⟨rfl, rfl, rfl⟩ := hcs
    exact ⟨none, [], 0, rfl, fun h => absurd h (by simp), by simp⟩
  · simp [Value.cells] at hcs
    obtain ⟨rfl, rfl, rfl⟩ := hcs
    simp at hz
    have hll : (zs.take len).length = len := by simp; omega
    refine ⟨some a, zs.take len, cap, by rw [hll], fun hp => ?_, by rw [hll]; omega⟩
    rw [hll] at hp
    obtain ⟨b, off, rfl, hc⟩ := ints_at hcell (by omega)
    refine ⟨b, off, rfl, fun i hi => ?_⟩
    rw [hll] at hi
    rw [hc i (by omega)]
    simp [hi]
theorem laidOut : laidOutB Tryd.prog = true := by kernel_rfl
theorem Ls.cell {B : Nat} {w : World} {g n cap : Nat} {zs : List Int} (h : Ls B w (some ⟨g, 0, none⟩) n cap zs) {i : Nat} (hi : i < n) : w.cell? ⟨g, i, none⟩ = some (.int .i64 (zs.getD i 0)) := by
  obtain ⟨rfl, h⟩ := h
  rw [h.cellAt i (by omega)]
  simp [hi]
theorem Ls.spot {B : Nat} {w : World} {sp : Option Addr} {n cap : Nat} {zs : List Int} (h : Ls B w sp n cap zs) (hn : 0 < n) : ∃ g, sp = some ⟨g, 0, none⟩ := by
  obtain ⟨g, c, e, _⟩ := owns_spot h.2 hn
  simp only [Value.slice.injEq] at e
  exact ⟨g, e.1⟩
end Go.Proofs.YtcjjaofmicegfaaDoor
