/- What came in: an array of two bytes. -/
import Derived.Test.YtedheamenlnfkabArgs
namespace Go.Proofs.Ytedheamenlnfkab
open Go Go.ChangeShapes Go.WideShapes Go.RowKit
set_option maxRecDepth 100000
theorem open_two {H : Type} {enc : TypeId × Value → H} {w : World} {r : Reach} {b0 base : Nat} {sp : Nat → Bool} {held : Bool} {v : Value} {d : DataW H} {ps : List MemPlace} (hval : Value.okWide Try.prog w r b0 33 v) (hd : DataW.Trod enc Try.prog w base sp held 33 v d ps) :
    ∃ x y : Int, v = .agg #[.int .u8 x, .int .u8 y] ∧ (0 ≤ x ∧ x ≤ 255) ∧ (0 ≤ y ∧ y ≤ 255) := by
  obtain ⟨cs, rfl, hn⟩ : ∃ xs : Array Value, v = .agg xs ∧ xs.size = 2 := by
    have h := hval
    simp only [Value.okWide, Try.underlying33] at h
    obtain ⟨cs, h1, h2, _⟩ := h
    exact ⟨cs, h1, by rw [h2]; kernel_rfl⟩
  obtain ⟨fuel, hf⟩ := hd
  obtain ⟨xs, m, _, _, _, hl, hel⟩ := DataW.trod_array Try.underlying33 hf
  rw [show Try.prog.cellsOf 5 = 1 by kernel_rfl] at hel
  obtain ⟨l⟩ := cs
  match l, hn with
  | [c0, c1], _ =>
    match xs, hl with
    | [x0, x1], _ =>
      obtain ⟨n0, q0, _, w0⟩ := DataW.trod_int Try.underlying5 (show DataW.trod enc Try.prog w base sp held m 5 [c0] = some x0 from hel 0 (by decide))
      obtain ⟨n1, q1, _, w1⟩ := DataW.trod_int Try.underlying5 (show DataW.trod enc Try.prog w base sp held m 5 [c1] = some x1 from hel 1 (by decide))
      simp only [List.cons.injEq, and_true] at q0 q1
      subst q0 q1
      exact ⟨n0, n1, rfl, bounds_u8 w0, bounds_u8 w1⟩
end Go.Proofs.Ytedheamenlnfkab
