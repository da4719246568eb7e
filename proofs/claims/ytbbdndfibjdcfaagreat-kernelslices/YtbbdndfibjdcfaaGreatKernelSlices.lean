/-
  For every slice, number of tasks, rank and number of ticks the function KernelSlices returns true, and its argument reads as it did.
-/
import Derived.Test.YtbbdndfibjdcfaaGreatKtHd1
import Derived.Test.YtbbdndfibjdcfaaGreatKtRd1
import Derived.Test.YtbbdndfibjdcfaaGreatKtWt1
import Derived.Test.YtbbdndfibjdcfaaGreatKtHr1
import Derived.Test.YtbbdndfibjdcfaaGreatKtOb2
import Derived.Test.YtbbdndfibjdcfaaGreatKtTm3
import Derived.Test.YtbbdndfibjdcfaaGreatKtK6
import Derived.Carry
import Derived.ChangeMaps5
namespace Go.Proofs.YtbbdndfibjdcfaaGreat.kernelSlices
open Go Go.ChangeShapes Go.WideShapes Go.ChangeAt Go.RowKit
set_option linter.unusedVariables false

theorem own : ownKnob Tryz.prog.godebug = none := by kernel_rfl

set_option maxRecDepth 100000 in
theorem lifted (os : Os) (started : os.Started) (H : Type) (enc : TypeId × Value → H) :
    ReturnsInHanded {} Tryz.checked os 7 .any (Rows.kernelSlicesSpec.pre6 enc Tryz.prog Tryz.f7 Rows.kernelSlicesRow.domain false) (Rows.kernelSlicesSpec.post enc Tryz.prog Tryz.f7 false true false false) := by
  refine returnsInHanded_of_change (C := Tryz.checked) own started (by kernel_rfl) Tryz.func7
    (ChangeSpec.witness6 (enc := enc) (C := Tryz.checked) false ⟨#[], #[.agg #[.int .u8 0, .int .u8 0, .int .u8 0, .int .u16 0]], []⟩ 8 (by kernel_rfl) (by kernel_rfl) (by kernel_rfl) (by kernel_rfl)) ?_
  intro W base args ds gs before hval0 hW hcnd _
  have hval : ∀ (j : Nat) t v, Tryz.f7.params[j]? = some t → args[j]? = some v → Value.okWide Tryz.prog W .any base t v := hval0
  have hW' := hW
  obtain ⟨p, q, hA0, hV, rfl, hfz, hnd⟩ := hW
  have hA : DataW.TrodAll enc Tryz.prog W 0 (fun _ => true) true Tryz.f7.params.toList args.toList ds p := hA0
  rw [Tryz.params7] at hA hval
  obtain ⟨v0, vs0, d0, ds0, p0, q0, hargs, rfl, rfl, h0, r0⟩ := trodAll_cons hA
  obtain ⟨rfl, rfl, rfl⟩ := trodAll_nil r0
  obtain rfl : args = #[v0] := by cases args; simp_all
  obtain ⟨rfl, rfl⟩ := trodVars_none hV
  have lt0 : ∀ x ∈ p0, x.block < W.heap.size := by obtain ⟨m, hm⟩ := h0; exact DataW.trod_lt m _ _ _ hm
  obtain ⟨x0, y0, z0, t0, e0, bx0, by0, bz0, bt0⟩ := open_sl (hval 0 68 v0 rfl rfl) h0
  subst e0
  clear hA0 hval0
  refine (slices_law x0 y0 z0 t0 bx0 by0 bz0 bt0 _).mono fun e W' ⟨he, bel⟩ => ?_
  subst he
  exact ⟨_, rfl, _, _, _, [], _, [], hW', trodAll_mk1 (shut_bool Tryz.underlying4 _), (trodAll_cons_mk (Below.trod laidOut (by kernel_rfl) (of_decide_eq_true (by kernel_rfl)) h0 bel lt0) trodAll_mk0), rfl, bel.frame _, fun h => by cases h⟩

theorem over : Rows.kernelSlicesRow.holds Tryz.pinned (OpenSpec.ofChange Rows.kernelSlicesSpec) :=
  OpenClaim.holds_of_wide 7 Tryz.f7 rfl rfl rfl rfl rfl rfl rfl ⟨rfl, rfl, rfl, rfl, rfl⟩ rfl rfl rfl rfl rfl (by kernel_rfl) Tryz.func7 (by kernel_rfl)
    (of_decide_eq_true (by kernel_rfl)) (by unfold Func.isWrapper; first | (rw [if_pos (by decide +kernel)]; kernel_rfl) | (rw [if_neg (by decide +kernel)]; exact ⟨rfl, rfl⟩))
    (fun os started H enc _ => lifted os started H enc)

theorem proved : Rows.KernelSlicesSaid :=
  over
end Go.Proofs.YtbbdndfibjdcfaaGreat.kernelSlices
namespace Go.Proofs.YtbbdndfibjdcfaaGreat
/-- The given statement, whole. -/
theorem kernelSlices_holds : Rows.KernelSlicesSaid := kernelSlices.proved
#print axioms kernelSlices_holds
end Go.Proofs.YtbbdndfibjdcfaaGreat
