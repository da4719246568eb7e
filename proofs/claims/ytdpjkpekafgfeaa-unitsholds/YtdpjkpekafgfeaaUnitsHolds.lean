/-
  Proved: 'UnitsHolds' returns true for every Op and every two numbers of 32 bits: whether an Op's comparison holds is as documented, or it is refused (P3.2). No condition.
-/
import Derived.Test.YtdpjkpekafgfeaaRows
import Derived.WalkKit
import Derived.ProofKit
import Derived.OpenShut
import Derived.Test.YtdpjkpekafgfeaaDo
namespace Go.Proofs.Ytdpjkpekafgfeaa.unitsHolds
open Go.ChangeShapes Go.WideShapes Go.ChangeAt Go.RowKit
set_option linter.unusedVariables false

theorem own : ownKnob Try.prog.godebug = none := by kernel_rfl

theorem refSigned_any (a : Int) (w : World) (h : num a) :
    Calls Try.prog 23 #[.int .u32 a] w fun e w' => e = .returned (.int .i64 (sgn a)) ∧ w' = w := by
  unfold num at h
  unfold sgn
  by_cases hc : 2147483647 < a
  · rw [if_pos hc]
    go_enter Try.func23, Try.ntmps23
    go_wp2
    go_ret
    exact ⟨rfl, rfl⟩
  · rw [if_neg hc]
    go_enter Try.func23, Try.ntmps23
    go_wp2
    go_ret
    exact ⟨rfl, rfl⟩
theorem refHolds_15 (a b : Int) (ha : num a) (hb : num b) (w : World) :
    Calls Try.prog 12 #[.int .u8 15, .int .u32 a, .int .u32 b] w fun e w' => e = .returned (.tuple #[.bool (hov 15 a b), .int .i64 0]) ∧ w' = w := by
  go_enter Try.func12, Try.ntmps12
  go_wp2_with (first | (go_at_call_of 23 (Value.int IntKind.u32 a); refine (refSigned_any _ _ ha).mono ?_; rintro e w' ⟨rfl, rfl⟩) | (go_at_call_of 23 (Value.int IntKind.u32 b); refine (refSigned_any _ _ hb).mono ?_; rintro e w' ⟨rfl, rfl⟩))
  exact bodyPost_ret (v := .tuple #[.bool (a == b), .int .i64 0]) (by simp [results, Try.results12, go_sem]) rfl ⟨rfl, rfl⟩
theorem refHolds_16 (a b : Int) (ha : num a) (hb : num b) (w : World) :
    Calls Try.prog 12 #[.int .u8 16, .int .u32 a, .int .u32 b] w fun e w' => e = .returned (.tuple #[.bool (hov 16 a b), .int .i64 0]) ∧ w' = w := by
  go_enter Try.func12, Try.ntmps12
  go_wp2_with (first | (go_at_call_of 23 (Value.int IntKind.u32 a); refine (refSigned_any _ _ ha).mono ?_; rintro e w' ⟨rfl, rfl⟩) | (go_at_call_of 23 (Value.int IntKind.u32 b); refine (refSigned_any _ _ hb).mono ?_; rintro e w' ⟨rfl, rfl⟩))
  exact bodyPost_ret (v := .tuple #[.bool (!(a == b)), .int .i64 0]) (by simp [results, Try.results12, go_sem]; rfl) rfl ⟨rfl, rfl⟩
theorem refHolds_17 (a b : Int) (ha : num a) (hb : num b) (w : World) :
    Calls Try.prog 12 #[.int .u8 17, .int .u32 a, .int .u32 b] w fun e w' => e = .returned (.tuple #[.bool (hov 17 a b), .int .i64 0]) ∧ w' = w := by
  go_enter Try.func12, Try.ntmps12
  go_wp2_with (first | (go_at_call_of 23 (Value.int IntKind.u32 a); refine (refSigned_any _ _ ha).mono ?_; rintro e w' ⟨rfl, rfl⟩) | (go_at_call_of 23 (Value.int IntKind.u32 b); refine (refSigned_any _ _ hb).mono ?_; rintro e w' ⟨rfl, rfl⟩))
  exact bodyPost_ret (v := .tuple #[.bool (decide (sgn a < sgn b)), .int .i64 0]) (by simp [results, Try.results12, go_sem]) rfl ⟨rfl, rfl⟩
theorem refHolds_18 (a b : Int) (ha : num a) (hb : num b) (w : World) :
    Calls Try.prog 12 #[.int .u8 18, .int .u32 a, .int .u32 b] w fun e w' => e = .returned (.tuple #[.bool (hov 18 a b), .int .i64 0]) ∧ w' = w := by
  go_enter Try.func12, Try.ntmps12
  go_wp2_with (first | (go_at_call_of 23 (Value.int IntKind.u32 a); refine (refSigned_any _ _ ha).mono ?_; rintro e w' ⟨rfl, rfl⟩) | (go_at_call_of 23 (Value.int IntKind.u32 b); refine (refSigned_any _ _ hb).mono ?_; rintro e w' ⟨rfl, rfl⟩))
  exact bodyPost_ret (v := .tuple #[.bool (decide (a < b)), .int .i64 0]) (by simp [results, Try.results12, go_sem]) rfl ⟨rfl, rfl⟩
theorem refHolds_no (o a b : Int) (ho : ¬ (15 ≤ o ∧ o ≤ 18)) (w : World) :
    Calls Try.prog 12 #[.int .u8 o, .int .u32 a, .int .u32 b] w fun e w' => e = .returned (.tuple #[.bool false, .int .i64 1]) ∧ w' = w := by
  have e1 : (o == 15) = false := by rw [beq_eq_false_iff_ne]; omega
  have e2 : (o == 16) = false := by rw [beq_eq_false_iff_ne]; omega
  have e3 : (o == 17) = false := by rw [beq_eq_false_iff_ne]; omega
  have e4 : (o == 18) = false := by rw [beq_eq_false_iff_ne]; omega
  clear ho
  go_enter Try.func12, Try.ntmps12
  go_wp2
  exact bodyPost_ret (v := .tuple #[.bool false, .int .i64 1]) (by simp [results, Try.results12, go_sem]) rfl ⟨rfl, rfl⟩
theorem refHolds_any (o a b : Int) (ha : num a) (hb : num b) (w : World) :
    Calls Try.prog 12 #[.int .u8 o, .int .u32 a, .int .u32 b] w fun e w' => e = .returned (.tuple #[.bool (hov o a b), .int .i64 (hoe o)]) ∧ w' = w := by
  by_cases ho : 15 ≤ o ∧ o ≤ 18
  · rw [show hoe o = 0 from if_pos ho]
    obtain rfl | rfl | rfl | rfl : o = 15 ∨ o = 16 ∨ o = 17 ∨ o = 18 := by omega
    · exact refHolds_15 a b ha hb w
    · exact refHolds_16 a b ha hb w
    · exact refHolds_17 a b ha hb w
    · exact refHolds_18 a b ha hb w
  · rw [show hoe o = 1 from if_neg ho, show hov o a b = false by
      unfold hov
      rw [if_neg (by omega), if_neg (by omega), if_neg (by omega), if_neg (by omega)]]
    exact refHolds_no o a b ho w
set_option maxRecDepth 100000 in
set_option maxHeartbeats 1000000 in
theorem walk (a0 : Int) (a1 : Int) (a2 : Int) (w0 : (Lit.int .u8 a0).wf = true) (w1 : (Lit.int .u32 a1).wf = true) (w2 : (Lit.int .u32 a2).wf = true) (w : World) :
    Calls Try.prog 4 #[.int .u8 a0, .int .u32 a1, .int .u32 a2] w fun e w' => e = .returned (.bool true) ∧ Below w.heap.size w w' := by
  have b0 : num a1 := bounds_u32 w1
  have b1 : num a2 := bounds_u32 w2
  have hd : ∀ W, ∃ x, ∃ y, (Calls Try.prog 11 #[.int .u8 a0, .int .u32 a1, .int .u32 a2] W fun e w' => e = .returned (.tuple #[.bool x, .int .i64 y]) ∧ Below W.heap.size W w') ∧ x = hov a0 a1 a2 ∧ y = hoe a0 := fun W => ⟨_, _, Holds_any a0 a1 a2 b0 b1 W, rfl, rfl⟩
  have hr : ∀ W, Calls Try.prog 12 #[.int .u8 a0, .int .u32 a1, .int .u32 a2] W fun e w' => e = .returned (.tuple #[.bool (hov a0 a1 a2), .int .i64 (hoe a0)]) ∧ w' = W := refHolds_any a0 a1 a2 b0 b1
  have hh := Holds_any a0 a1 a2 b0 b1 w
  clear hd
  generalize hov a0 a1 a2 = x at *
  generalize hoe a0 = y at *
  go_enter Try.func4, Try.ntmps4
  go_wp2_with (first
    | (go_at_call 11; refine hh.mono ?_; rintro e w1 ⟨rfl, hb1⟩)
    | (go_at_call 12; refine (hr _).mono ?_; rintro e w2 ⟨rfl, rfl⟩))
  go_ret
  exact ⟨rfl, hb1⟩

set_option maxRecDepth 100000 in
theorem lifted (os : Os) (started : os.Started) (H : Type) (enc : TypeId × Value → H) :
    ReturnsInHanded {} Try.checked os 4 .any (Rows.unitsHoldsSpec.pre6 enc Try.prog Try.f4 Rows.unitsHoldsRow.domain false) (Rows.unitsHoldsSpec.post enc Try.prog Try.f4 false true false false) := by
  refine returnsInHanded_of_change (C := Try.checked) own started (by kernel_rfl) Try.func4
    (ChangeSpec.witness6 (enc := enc) (C := Try.checked) false ⟨#[], #[.int .u8 0, .int .u32 0, .int .u32 0], []⟩ 8 (by kernel_rfl) (by kernel_rfl) (by kernel_rfl) (by kernel_rfl)) ?_
  intro W base args ds gs before hval0 hW hcnd _
  have hval : ∀ (j : Nat) t v, Try.f4.params[j]? = some t → args[j]? = some v → Value.okWide Try.prog W .any base t v := hval0
  have hW' := hW
  obtain ⟨p, q, hA0, hV, rfl, hfz, hnd⟩ := hW
  have hA : DataW.TrodAll enc Try.prog W 0 (fun _ => true) true Try.f4.params.toList args.toList ds p := hA0
  rw [Try.params4] at hA hval
  obtain ⟨v0, vs0, d0, ds0, p0, q0, hargs, rfl, rfl, h0, r0⟩ := trodAll_cons hA
  obtain ⟨v1, vs1, d1, ds1, p1, q1, rfl, rfl, rfl, h1, r1⟩ := trodAll_cons r0
  obtain ⟨v2, vs2, d2, ds2, p2, q2, rfl, rfl, rfl, h2, r2⟩ := trodAll_cons r1
  obtain ⟨rfl, rfl, rfl⟩ := trodAll_nil r2
  obtain rfl : args = #[v0, v1, v2] := by cases args; simp_all
  obtain ⟨rfl, rfl⟩ := trodVars_none hV
  obtain ⟨a0, rfl, rfl, rfl, w0⟩ := open_int Try.underlying22 (hval 0 22 v0 rfl rfl) h0
  obtain ⟨a1, rfl, rfl, rfl, w1⟩ := open_int Try.underlying23 (hval 1 23 v1 rfl rfl) h1
  obtain ⟨a2, rfl, rfl, rfl, w2⟩ := open_int Try.underlying23 (hval 2 23 v2 rfl rfl) h2
  clear hA0 hval0
  simp only [List.append_nil] at hW'
  refine (walk a0 a1 a2 w0 w1 w2 W).mono fun e W' ⟨he, hg⟩ => ?_
  subst he
  exact ⟨_, rfl, _, _, _, [], _, [], hW', trodAll_mk1 (shut_bool Try.underlying4 _), (trodAll_cons_mk (shut_int Try.underlying22 w0) (trodAll_cons_mk (shut_int Try.underlying23 w1) (trodAll_cons_mk (shut_int Try.underlying23 w2) trodAll_mk0))), rfl, hg.frame _, fun h => by cases h⟩

theorem over : Rows.unitsHoldsRow.holds Try.pinned (OpenSpec.ofChange Rows.unitsHoldsSpec) :=
  OpenClaim.holds_of_wide 4 Try.f4 rfl rfl rfl rfl rfl rfl rfl ⟨rfl, rfl, rfl, rfl, rfl⟩ rfl rfl rfl rfl rfl (by kernel_rfl) Try.func4 (by kernel_rfl)
    (of_decide_eq_true (by kernel_rfl)) (by unfold Func.isWrapper; first | (rw [if_pos (by decide +kernel)]; kernel_rfl) | (rw [if_neg (by decide +kernel)]; exact ⟨rfl, rfl⟩))
    (fun os started H enc _ => lifted os started H enc)

theorem proved : Rows.UnitsHoldsSaid :=
  over
end Go.Proofs.Ytdpjkpekafgfeaa.unitsHolds
namespace Go.Proofs.Ytdpjkpekafgfeaa
/-- The given statement, whole. -/
theorem unitsHolds_holds : Rows.UnitsHoldsSaid := unitsHolds.proved
#print axioms unitsHolds_holds
end Go.Proofs.Ytdpjkpekafgfeaa
