/- An array of four bytes that came in. -/
import Derived.Test.YthglgpiaffgnfaaOwn
namespace Go.Proofs.Ythglgpiaffgnfaa
open Go Go.RowKit Go.ChangeShapes Go.WideShapes
set_option maxRecDepth 100000
set_option linter.unusedVariables false
theorem open_arr4 {H : Type} {enc : TypeId × Value → H} {w : World} {r : Reach} {b0 base : Nat} {sp : Nat → Bool} {held : Bool} {v : Value} {d : DataW H} {ps : List MemPlace} (hval : Value.okWide Try.prog w r b0 43 v) (hd : DataW.Trod enc Try.prog w base sp held 43 v d ps) :
    ∃ x y z t : Int, v = .agg #[.int .u8 x, .int .u8 y, .int .u8 z, .int .u8 t] ∧ (0 ≤ x ∧ x ≤ 255) ∧ (0 ≤ y ∧ y ≤ 255) ∧ (0 ≤ z ∧ z ≤ 255) ∧ (0 ≤ t ∧ t ≤ 255) := by
  obtain ⟨cs, rfl, hn⟩ : ∃ xs : Array Value, v = .agg xs ∧ xs.size = 4 := by
    have h := hval
    simp only [Value.okWide, Try.underlying43] at h
    obtain ⟨cs, h1, h2, _⟩ := h
    exact ⟨cs, h1, by rw [h2]; kernel_rfl⟩
  obtain ⟨fuel, hf⟩ := hd
  obtain ⟨xs, m, _, _, _, hl, hel⟩ := DataW.trod_array Try.underlying43 hf
  rw [show Try.prog.cellsOf 5 = 1 by kernel_rfl] at hel
  obtain ⟨l⟩ := cs
  match l, hn with
  | [c0, c1, c2, c3], _ =>
    match xs, hl with
    | [x0, x1, x2, x3], _ =>
      obtain ⟨n0, q0, _, w0⟩ := DataW.trod_int Try.underlying5 (show DataW.trod enc Try.prog w base sp held m 5 [c0] = some x0 from hel 0 (by decide))
      obtain ⟨n1, q1, _, w1⟩ := DataW.trod_int Try.underlying5 (show DataW.trod enc Try.prog w base sp held m 5 [c1] = some x1 from hel 1 (by decide))
      obtain ⟨n2, q2, _, w2⟩ := DataW.trod_int Try.underlying5 (show DataW.trod enc Try.prog w base sp held m 5 [c2] = some x2 from hel 2 (by decide))
      obtain ⟨n3, q3, _, w3⟩ := DataW.trod_int Try.underlying5 (show DataW.trod enc Try.prog w base sp held m 5 [c3] = some x3 from hel 3 (by decide))
      simp only [List.cons.injEq, and_true] at q0 q1 q2 q3
      subst q0 q1 q2 q3
      exact ⟨n0, n1, n2, n3, rfl, bounds_u8 w0, bounds_u8 w1, bounds_u8 w2, bounds_u8 w3⟩
end Go.Proofs.Ythglgpiaffgnfaa
