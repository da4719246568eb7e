/-
  Proved: 'UnitsRing' returns true for every three numbers of 32 bits: sums and products go by their laws, going round, and what is added is taken off again (P3.3, P3.1). No condition.
-/
import Derived.Test.YtdpjkpekafgfeaaRows
import Derived.WalkKit
import Derived.ProofKit
import Derived.OpenShut
import Derived.Test.YtdpjkpekafgfeaaDo
namespace Go.Proofs.Ytdpjkpekafgfeaa.unitsRing
open Go.ChangeShapes Go.WideShapes Go.ChangeAt Go.RowKit
set_option linter.unusedVariables false

theorem own : ownKnob Try.prog.godebug = none := by kernel_rfl

set_option maxRecDepth 100000 in
set_option maxHeartbeats 1000000 in
theorem walk (a0 : Int) (a1 : Int) (a2 : Int) (w0 : (Lit.int .u32 a0).wf = true) (w1 : (Lit.int .u32 a1).wf = true) (w2 : (Lit.int .u32 a2).wf = true) (w : World) :
    Calls Try.prog 5 #[.int .u32 a0, .int .u32 a1, .int .u32 a2] w fun e w' => e = .returned (.bool true) ∧ Below w.heap.size w w' := by
  have b0 : num a0 := bounds_u32 w0
  have b1 : num a1 := bounds_u32 w1
  have b2 : num a2 := bounds_u32 w2
  have l0 : num 0 := ⟨by decide, by decide⟩
  have l1 : num 1 := ⟨by decide, by decide⟩
  have n1 : num (addv a1 a2) := addv_num _ _
  have n2 : num (mulv a1 a2) := mulv_num _ _
  have n3 : num (mulv a1 a2) := mulv_num _ _
  have k1 : addv a1 a0 = addv a0 a1 := by unfold addv; omega
  have k2 : mulv a1 a0 = mulv a0 a1 := by unfold mulv; rw [Int.mul_comm]
  have k3 : addv a0 (addv a1 a2) = addv (addv a0 a1) a2 := by unfold addv; omega
  have k4 : mulv a0 (mulv a1 a2) = mulv (mulv a0 a1) a2 := by unfold mulv; rw [em_l, em_r, Int.mul_assoc]
  have k5 : addv (mulv a0 a2) (mulv a1 a2) = mulv (addv a0 a1) a2 := by
    unfold mulv addv; rw [em_l, Int.add_mul, ← Int.add_emod]
  have k6 : subv (addv a0 a1) a1 = a0 := by unfold num at b0; unfold subv addv; omega
  have k7 : addv (subv a0 a1) a1 = a0 := by unfold num at b0; unfold subv addv; omega
  have k8 : mulv a0 1 = a0 := by unfold num at b0; unfold mulv; omega
  have k9 : addv a0 0 = a0 := by unfold num at b0; unfold addv; omega
  have hB : Below w.heap.size w w := Below.refl _ _
  go_enter Try.func5, Try.ntmps5
  go_wp2_with (first
    | (go_at_call 14; refine (alive_any _).mono ?_; rintro e wx ⟨rfl, hbx⟩; replace hB : Below w.heap.size w wx := hB.trans (hbx.mono hB.size); clear hbx)
    | (go_at_call_of 13 (Value.int IntKind.u8 3); refine (do_add _ _ (by first | assumption | exact addv_num _ _ | exact mulv_num _ _ | exact subv_num _ _ | exact ⟨by decide, by decide⟩) _).mono ?_; rintro e wx ⟨rfl, hbx⟩; replace hB : Below w.heap.size w wx := hB.trans (hbx.mono hB.size); clear hbx)
    | (go_at_call_of 13 (Value.int IntKind.u8 4); refine (do_sub _ _ (by first | assumption | exact addv_num _ _ | exact mulv_num _ _ | exact subv_num _ _ | exact ⟨by decide, by decide⟩) _).mono ?_; rintro e wx ⟨rfl, hbx⟩; replace hB : Below w.heap.size w wx := hB.trans (hbx.mono hB.size); clear hbx)
    | (go_at_call_of 13 (Value.int IntKind.u8 5); refine (do_mul _ _ (by first | assumption | exact addv_num _ _ | exact mulv_num _ _ | exact subv_num _ _ | exact ⟨by decide, by decide⟩) _).mono ?_; rintro e wx ⟨rfl, hbx⟩; replace hB : Below w.heap.size w wx := hB.trans (hbx.mono hB.size); clear hbx))
  go_ret
  exact ⟨rfl, hB⟩

set_option maxRecDepth 100000 in
theorem lifted (os : Os) (started : os.Started) (H : Type) (enc : TypeId × Value → H) :
    ReturnsInHanded {} Try.checked os 5 .any (Rows.unitsRingSpec.pre6 enc Try.prog Try.f5 Rows.unitsRingRow.domain false) (Rows.unitsRingSpec.post enc Try.prog Try.f5 false true false false) := by
  refine returnsInHanded_of_change (C := Try.checked) own started (by kernel_rfl) Try.func5
    (ChangeSpec.witness6 (enc := enc) (C := Try.checked) false ⟨#[], #[.int .u32 0, .int .u32 0, .int .u32 0], []⟩ 8 (by kernel_rfl) (by kernel_rfl) (by kernel_rfl) (by kernel_rfl)) ?_
  intro W base args ds gs before hval0 hW hcnd _
  have hval : ∀ (j : Nat) t v, Try.f5.params[j]? = some t → args[j]? = some v → Value.okWide Try.prog W .any base t v := hval0
  have hW' := hW
  obtain ⟨p, q, hA0, hV, rfl, hfz, hnd⟩ := hW
  have hA : DataW.TrodAll enc Try.prog W 0 (fun _ => true) true Try.f5.params.toList args.toList ds p := hA0
  rw [Try.params5] at hA hval
  obtain ⟨v0, vs0, d0, ds0, p0, q0, hargs, rfl, rfl, h0, r0⟩ := trodAll_cons hA
  obtain ⟨v1, vs1, d1, ds1, p1, q1, rfl, rfl, rfl, h1, r1⟩ := trodAll_cons r0
  obtain ⟨v2, vs2, d2, ds2, p2, q2, rfl, rfl, rfl, h2, r2⟩ := trodAll_cons r1
  obtain ⟨rfl, rfl, rfl⟩ := trodAll_nil r2
  obtain rfl : args = #[v0, v1, v2] := by cases args; simp_all
  obtain ⟨rfl, rfl⟩ := trodVars_none hV
  obtain ⟨a0, rfl, rfl, rfl, w0⟩ := open_int Try.underlying23 (hval 0 23 v0 rfl rfl) h0
  obtain ⟨a1, rfl, rfl, rfl, w1⟩ := open_int Try.underlying23 (hval 1 23 v1 rfl rfl) h1
  obtain ⟨a2, rfl, rfl, rfl, w2⟩ := open_int Try.underlying23 (hval 2 23 v2 rfl rfl) h2
  clear hA0 hval0
  simp only [List.append_nil] at hW'
  refine (walk a0 a1 a2 w0 w1 w2 W).mono fun e W' ⟨he, hg⟩ => ?_
  subst he
  exact ⟨_, rfl, _, _, _, [], _, [], hW', trodAll_mk1 (shut_bool Try.underlying4 _), (trodAll_cons_mk (shut_int Try.underlying23 w0) (trodAll_cons_mk (shut_int Try.underlying23 w1) (trodAll_cons_mk (shut_int Try.underlying23 w2) trodAll_mk0))), rfl, hg.frame _, fun h => by cases h⟩

theorem over : Rows.unitsRingRow.holds Try.pinned (OpenSpec.ofChange Rows.unitsRingSpec) :=
  OpenClaim.holds_of_wide 5 Try.f5 rfl rfl rfl rfl rfl rfl rfl ⟨rfl, rfl, rfl, rfl, rfl⟩ rfl rfl rfl rfl rfl (by kernel_rfl) Try.func5 (by kernel_rfl)
    (of_decide_eq_true (by kernel_rfl)) (by unfold Func.isWrapper; first | (rw [if_pos (by decide +kernel)]; kernel_rfl) | (rw [if_neg (by decide +kernel)]; exact ⟨rfl, rfl⟩))
    (fun os started H enc _ => lifted os started H enc)

theorem proved : Rows.UnitsRingSaid :=
  over
end Go.Proofs.Ytdpjkpekafgfeaa.unitsRing
namespace Go.Proofs.Ytdpjkpekafgfeaa
/-- The given statement, whole. -/
theorem unitsRing_holds : Rows.UnitsRingSaid := unitsRing.proved
#print axioms unitsRing_holds
end Go.Proofs.Ytdpjkpekafgfeaa
