/- What came in: a slice of bytes; it is read alone. -/
import Derived.Test.YtmdhlgdikchhlaaFPure
import Derived.Laws.OwnMore
import Derived.Carry
import Derived.ChangeMaps5
import Derived.Deep.Strs
namespace Go.Proofs.Ytmdhlgdikchhlaa
open Go Go.RowKit
open Go.ChangeShapes Go.WideShapes Go.WideElems
set_option maxRecDepth 100000
set_option linter.unusedVariables false
/-- a slice of bytes that is read lies below B -/
structure BSrc (B : Nat) (w : World) (sp : Option Addr) (zs : List Int) : Prop where
  spot : 0 < zs.length → ∃ b off, sp = some ⟨b, off, none⟩ ∧ b < B ∧ ∀ i, i < zs.length → w.cell? ⟨b, off + i, none⟩ = some (.int .u8 (zs.getD i 0))
  wf : ∀ z ∈ zs, 0 ≤ z ∧ z ≤ 255
theorem BSrc.below {B : Nat} {w w' : World} {sp : Option Addr} {zs : List Int} (h : BSrc B w sp zs) (hb : Below B w w') : BSrc B w' sp zs :=
  ⟨fun hz => by
    obtain ⟨b, off, e, hB, hc⟩ := h.spot hz
    exact ⟨b, off, e, hB, fun i hi => by rw [hb.cell (p := ⟨b, off + i, none⟩) hB]; exact hc i hi⟩, h.wf⟩
theorem BSrc.nil' {w : World} (B : Nat) : BSrc B w none [] := ⟨fun h => absurd h (by simp), fun z hz => absurd hz (by simp)⟩
theorem BSrc.at {B : Nat} {w : World} {sp : Option Addr} {zs : List Int} (h : BSrc B w sp zs) (i : Nat) : 0 ≤ zs.getD i 0 ∧ zs.getD i 0 ≤ 255 := by
  by_cases hi : i < zs.length
  · rw [show zs.getD i 0 = zs[i] by simp [hi]]; exact h.wf _ (List.getElem_mem hi)
  · rw [show zs.getD i 0 = 0 by simp [Nat.le_of_not_lt hi]]; exact ⟨by decide, by decide⟩
/-- a slice of bytes that came in -/
theorem open_bytes {H : Type} {enc : TypeId × Value → H} {W : World} {base : Nat} {v : Value} {d : DataW H} {p : List MemPlace}
    (hval : Value.okWide Try.prog W .any base 22 v) (h : DataW.Trod enc Try.prog W 0 (fun _ => true) true 22 v d p) :
    ∃ sp zs cap, v = .slice sp zs.length cap ∧ BSrc W.heap.size W sp zs ∧ zs.length ≤ maxLen := by
  obtain ⟨a0, len, cap, rfl⟩ := okWide_slice Try.underlying22 hval
  obtain ⟨fuel, hf⟩ := h
  rcases open_ints Try.underlying22 Try.underlying5 (by kernel_rfl) hf with ⟨hcs, hx⟩ | ⟨a, len', cap', zs, hcs, _, hl, hm, hz, hx, hcell, hwz⟩
  · simp [Value.cells] at hcs
    obtain ⟨rfl, rfl, rfl⟩ := hcs
    exact ⟨none, [], 0, rfl, BSrc.nil' _, by simp⟩
  · simp [Value.cells] at hcs
    obtain ⟨rfl, rfl, rfl⟩ := hcs
    simp at hz
    have hll : (zs.take len).length = len := by simp; omega
    refine ⟨some a, zs.take len, cap, by rw [hll], ⟨fun hp => ?_, fun z hz' => bounds_u8 (hwz z (List.mem_of_mem_take hz'))⟩, by rw [hll]; omega⟩
    rw [hll] at hp
    obtain ⟨b, off, rfl, hc⟩ := ints_at hcell (by omega)
    refine ⟨b, off, rfl, cell_lt (hc 0 (by omega)), fun i hi => ?_⟩
    rw [hll] at hi
    rw [hc i (by omega)]
    simp [hi]
theorem laidOut : laidOutB Try.prog = true := by kernel_rfl
theorem BSrc.spot' {B : Nat} {w : World} {sp : Option Addr} {zs : List Int} (h : BSrc B w sp zs) (hz : 0 < zs.length) : ∃ b off, sp = some ⟨b, off, none⟩ ∧ b < B := by
  obtain ⟨b, off, e, hb, _⟩ := h.spot hz
  exact ⟨b, off, e, hb⟩
theorem BSrc.cell {B : Nat} {w : World} {b off : Nat} {zs : List Int} (h : BSrc B w (some ⟨b, off, none⟩) zs) {i : Nat} (hi : i < zs.length) : w.cell? ⟨b, off + i, none⟩ = some (.int .u8 (zs.getD i 0)) := by
  obtain ⟨b', off', e, _, hc⟩ := h.spot (by omega)
  simp only [Option.some.injEq, Addr.mk.injEq] at e
  obtain ⟨rfl, rfl, _⟩ := e
  exact hc i hi
theorem Ls.cell {B : Nat} {w : World} {g n cap : Nat} {zs : List Int} (h : Ls B w (some ⟨g, 0, none⟩) n cap zs) {i : Nat} (hi : i < n) : w.cell? ⟨g, i, none⟩ = some (.int .i64 (zs.getD i 0)) := by
  obtain ⟨rfl, h⟩ := h
  rw [h.cellAt i (by omega)]
  simp [hi]
theorem Ls.spot {B : Nat} {w : World} {sp : Option Addr} {n cap : Nat} {zs : List Int} (h : Ls B w sp n cap zs) (hn : 0 < n) : ∃ g, sp = some ⟨g, 0, none⟩ := by
  obtain ⟨g, c, e, _⟩ := owns_spot h.2 hn
  simp only [Value.slice.injEq] at e
  exact ⟨g, e.1⟩
end Go.Proofs.Ytmdhlgdikchhlaa
