/- What came in: a slice of words; it is read alone. -/
import Derived.Test.YteicnekoogmmmaaGreatDoorQSame
import Derived.Laws.OwnMore
import Derived.Carry
import Derived.ChangeMaps5
import Derived.Deep.Strs
import Derived.SizedLaws
namespace Go.Proofs.YteicnekoogmmmaaGreatDoor
open Go Go.RowKit
open Go.ChangeShapes Go.WideShapes Go.WideElems
set_option maxRecDepth 100000
set_option linter.unusedVariables false
/-- a slice of words that is read lies below B -/
structure WSrc (B : Nat) (w : World) (sp : Option Addr) (zs : List Int) : Prop where
  spot : 0 < zs.length → ∃ b off, sp = some ⟨b, off, none⟩ ∧ b < B ∧ ∀ i, i < zs.length → w.cell? ⟨b, off + i, none⟩ = some (.int .u32 (zs.getD i 0))
  wf : ∀ z ∈ zs, 0 ≤ z ∧ z ≤ 4294967295
theorem WSrc.below {B : Nat} {w w' : World} {sp : Option Addr} {zs : List Int} (h : WSrc B w sp zs) (hb : Below B w w') : WSrc B w' sp zs :=
  ⟨fun hz => by
    obtain ⟨b, off, e, hB, hc⟩ := h.spot hz
    exact ⟨b, off, e, hB, fun i hi => by rw [hb.cell (p := ⟨b, off + i, none⟩) hB]; exact hc i hi⟩, h.wf⟩
theorem WSrc.nil' {w : World} (B : Nat) : WSrc B w none [] := ⟨fun h => absurd h (by simp), fun z hz => absurd hz (by simp)⟩
theorem WSrc.at {B : Nat} {w : World} {sp : Option Addr} {zs : List Int} (h : WSrc B w sp zs) (i : Nat) : 0 ≤ zs.getD i 0 ∧ zs.getD i 0 ≤ 4294967295 := by
  by_cases hi : i < zs.length
  · rw [show zs.getD i 0 = zs[i] by simp [hi]]; exact h.wf _ (List.getElem_mem hi)
  · rw [show zs.getD i 0 = 0 by simp [Nat.le_of_not_lt hi]]; exact ⟨by decide, by decide⟩
/-- a slice of words that came in -/
theorem open_words {H : Type} {enc : TypeId × Value → H} {W : World} {base : Nat} {v : Value} {d : DataW H} {p : List MemPlace}
    (hval : Value.okWide Tryz.prog W .any base 53 v) (h : DataW.Trod enc Tryz.prog W 0 (fun _ => true) true 53 v d p) :
    ∃ sp zs cap, v = .slice sp zs.length cap ∧ WSrc W.heap.size W sp zs ∧ zs.length ≤ maxLen := by
  obtain ⟨a0, len, cap, rfl⟩ := okWide_slice Tryz.underlying53 hval
  obtain ⟨fuel, hf⟩ := h
  rcases open_ints Tryz.underlying53 Tryz.underlying23 (by kernel_rfl) hf with ⟨hcs, hx⟩ | ⟨a, len', cap', zs, hcs, _, hl, hm, hz, hx, hcell, hwz⟩
  · simp [Value.cells] at hcs
    obtain ⟨rfl, rfl, rfl⟩ := hcs
    exact ⟨none, [], 0, rfl, WSrc.nil' _, by simp⟩
  · simp [Value.cells] at hcs
    obtain ⟨rfl, rfl, rfl⟩ := hcs
    simp at hz
    have hll : (zs.take len).length = len := by simp; omega
    refine ⟨some a, zs.take len, cap, by rw [hll], ⟨fun hp => ?_, fun z hz' => bounds_u32 (hwz z (List.mem_of_mem_take hz'))⟩, by rw [hll]; omega⟩
    rw [hll] at hp
    obtain ⟨b, off, rfl, hc⟩ := ints_at hcell (by omega)
    refine ⟨b, off, rfl, cell_lt (hc 0 (by omega)), fun i hi => ?_⟩
    rw [hll] at hi
    rw [hc i (by omega)]
    simp [hi]
theorem WSrc.src {B : Nat} {w : World} {sp : Option Addr} {zs : List Int} (h : WSrc B w sp zs) : Src w sp zs := fun hz => by
  obtain ⟨b, off, e, _, hc⟩ := h.spot hz
  exact ⟨b, off, e, hc⟩
theorem WSrc.mono {B B' : Nat} {w : World} {sp : Option Addr} {zs : List Int} (h : WSrc B w sp zs) (hb : B ≤ B') : WSrc B' w sp zs :=
  ⟨fun hz => by obtain ⟨b, off, e, hB, hc⟩ := h.spot hz; exact ⟨b, off, e, by omega, hc⟩, h.wf⟩
/-- how long such a slice may be -/
theorem few_words {H : Type} {enc : TypeId × Value → H} {W : World} {sp : Option Addr} {len cap : Nat} {d : DataW H} {p : List MemPlace}
    (h : DataW.Trod enc Tryz.prog W 0 (fun _ => true) true 53 (.slice sp len cap) d p) (hz : ∀ elems spare, d = .slice elems spare → (elems.length + spare.length) * Tryz.prog.bytesOf 23 ≤ reachBytes) : len ≤ 4611686018427387903 := by
  obtain ⟨fuel, hf⟩ := h
  rcases open_ints Tryz.underlying53 Tryz.underlying23 (by kernel_rfl) hf with ⟨hcs, hx⟩ | ⟨a, len', cap', zs, hcs, _, hl, hm, hzl, hx, _, _⟩
  · simp [Value.cells] at hcs
    omega
  · simp [Value.cells] at hcs
    obtain ⟨rfl, rfl, rfl⟩ := hcs
    simp at hzl
    simp only [Prod.mk.injEq] at hx
    have := hz _ _ hx.1
    rw [show Tryz.prog.bytesOf 23 = 4 by kernel_rfl, show reachBytes = 140737488351232 by rfl] at this
    simp [lits] at this
    omega
theorem laidOut : laidOutB Tryz.prog = true := by kernel_rfl
end Go.Proofs.YteicnekoogmmmaaGreatDoor
