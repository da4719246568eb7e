/- What came in: two slices of numbers and two bytes in a struct; they are read alone. -/
import Derived.Test.YtcjjaofmicegfaaArgs
namespace Go.Proofs.Ytcjjaofmicegfaa
open Go Go.RowKit
open Go.ChangeShapes Go.WideShapes Go.WideElems
set_option maxRecDepth 100000
set_option linter.unusedVariables false
variable {H : Type} {enc : TypeId × Value → H}
/-- a slice of numbers, by its one cell -/
theorem nums_cell {W : World} {fuel : Nat} {c : Value} {x : DataW H × List MemPlace} (hf : DataW.trod enc Try.prog W 0 (fun _ => true) true fuel 22 [c] = some x) :
    ∃ sp zs cap, c = .slice sp zs.length cap ∧ Src W sp zs ∧ zs.length ≤ maxLen := by
  rcases open_ints Try.underlying22 Try.underlying3 (by kernel_rfl) hf with ⟨hcs, hx⟩ | ⟨a, len, cap, zs, hcs, _, hl, hm, hz, hx, hcell, hwz⟩
  · simp only [List.cons.injEq, and_true] at hcs
    exact ⟨none, [], 0, hcs, fun h => absurd h (by simp), by simp⟩
  · simp only [List.cons.injEq, and_true] at hcs
    simp at hz
    have hll : (zs.take len).length = len := by simp; omega
    refine ⟨some a, zs.take len, cap, by rw [hll]; exact hcs, fun hp => ?_, by rw [hll]; omega⟩
    rw [hll] at hp
    obtain ⟨b, off, rfl, hc⟩ := ints_at hcell (by omega)
    refine ⟨b, off, rfl, fun i hi => ?_⟩
    rw [hll] at hi
    rw [hc i (by omega)]
    simp [hi]
theorem open_more {W : World} {base : Nat} {v : Value} {d : DataW H} {p : List MemPlace} (hval : Value.okWide Try.prog W .any base 31 v) (h : DataW.Trod enc Try.prog W 0 (fun _ => true) true 31 v d p) :
    ∃ sp bs c sq ws d a b, v = .agg #[.slice sp bs.length c, .slice sq ws.length d, .int .u8 a, .int .u8 b] ∧ Src W sp bs ∧ Src W sq ws ∧ bs.length ≤ maxLen ∧ ws.length ≤ maxLen ∧ (0 ≤ a ∧ a ≤ 255) ∧ (0 ≤ b ∧ b ≤ 255) := by
  obtain ⟨cs, rfl, hn⟩ := okWide_struct Try.underlying31 hval
  rw [show Try.prog.cellsOf 31 = 4 by kernel_rfl] at hn
  obtain ⟨fuel, hf⟩ := h
  obtain ⟨xs, m, _, _, _, hl, hel⟩ := DataW.trod_struct Try.underlying31 hf
  obtain ⟨l⟩ := cs
  match l, hn with
  | [c0, c1, c2, c3], _ =>
    match xs, hl with
    | [x0, x1, x2, x3], _ =>
      have kB : Try.prog.cellsOf 22 = 1 := by kernel_rfl
      have k5 : Try.prog.cellsOf 5 = 1 := by kernel_rfl
      have e0 : DataW.trod enc Try.prog W 0 (fun _ => true) true m 22 (([c0, c1, c2, c3].drop 0).take (Try.prog.cellsOf 22)) = some x0 := hel 0 _ rfl
      have e1 : DataW.trod enc Try.prog W 0 (fun _ => true) true m 22 (([c0, c1, c2, c3].drop 1).take (Try.prog.cellsOf 22)) = some x1 := hel 1 _ rfl
      have e2 : DataW.trod enc Try.prog W 0 (fun _ => true) true m 5 (([c0, c1, c2, c3].drop 2).take (Try.prog.cellsOf 5)) = some x2 := hel 2 _ rfl
      have e3 : DataW.trod enc Try.prog W 0 (fun _ => true) true m 5 (([c0, c1, c2, c3].drop 3).take (Try.prog.cellsOf 5)) = some x3 := hel 3 _ rfl
      rw [kB] at e0 e1
      rw [k5] at e2 e3
      obtain ⟨sp, bs, c, q0, s0, l0⟩ := nums_cell (show DataW.trod enc Try.prog W 0 (fun _ => true) true m 22 [c0] = some x0 from e0)
      obtain ⟨sq, ws, d, q1, s1, l1⟩ := nums_cell (show DataW.trod enc Try.prog W 0 (fun _ => true) true m 22 [c1] = some x1 from e1)
      obtain ⟨a, q2, _, w2⟩ := DataW.trod_int Try.underlying5 (show DataW.trod enc Try.prog W 0 (fun _ => true) true m 5 [c2] = some x2 from e2)
      obtain ⟨b, q3, _, w3⟩ := DataW.trod_int Try.underlying5 (show DataW.trod enc Try.prog W 0 (fun _ => true) true m 5 [c3] = some x3 from e3)
      simp only [List.cons.injEq, and_true] at q2 q3
      subst q0 q1 q2 q3
      exact ⟨sp, bs, c, sq, ws, d, a, b, rfl, s0, s1, l0, l1, bounds_u8 w2, bounds_u8 w3⟩
end Go.Proofs.Ytcjjaofmicegfaa
