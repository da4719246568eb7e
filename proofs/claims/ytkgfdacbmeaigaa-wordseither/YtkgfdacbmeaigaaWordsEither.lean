/-
  Proved: 'WordsEither' returns true for every three numbers of 32 bits: of two unlike ones that do not differ by half the round just one is past where the other one is (P1.4, P1.3). No condition.
-/
import Derived.Test.YtkgfdacbmeaigaaRows
import Derived.WalkKit
import Derived.ProofKit
import Derived.OpenShut
import Derived.Test.YtkgfdacbmeaigaaWords
namespace Go.Proofs.Ytkgfdacbmeaigaa.wordsEither
open Go.ChangeShapes Go.WideShapes Go.ChangeAt Go.RowKit
set_option linter.unusedVariables false

theorem own : ownKnob Try.prog.godebug = none := by kernel_rfl

theorem walk (a0 : Int) (a1 : Int) (a2 : Int) (w0 : (Lit.int .u32 a0).wf = true) (w1 : (Lit.int .u32 a1).wf = true) (w2 : (Lit.int .u32 a2).wf = true) (w : World) :
    Calls Try.prog 7 #[.int .u32 a0, .int .u32 a1, .int .u32 a2] w fun e w' => e = .returned (.bool true) ∧ Grown w w' := by
  have b0 := bounds_u32 w0
  have b1 := bounds_u32 w1
  have b2 := bounds_u32 w2
  have hby : pst ((a0 + a2) % 4294967296) ((a1 + a2) % 4294967296) = pst a0 a1 := by
    unfold pst; rw [decide_eq_decide]; omega
  have hself : pst a0 a0 = true := by unfold pst; rw [decide_eq_true_iff]; omega
  have hway : (a1 - a0) % 4294967296 = 0 ∧ pst a0 a1 = true ∧ pst a1 a0 = true
      ∨ (a1 - a0) % 4294967296 = 2147483648 ∧ pst a0 a1 = false ∧ pst a1 a0 = false
      ∨ ((a1 - a0) % 4294967296 == 0) = false ∧ ((a1 - a0) % 4294967296 == 2147483648) = false ∧ pst a0 a1 = true ∧ pst a1 a0 = false ∧ 0 < sgn ((a1 - a0) % 4294967296)
      ∨ ((a1 - a0) % 4294967296 == 0) = false ∧ ((a1 - a0) % 4294967296 == 2147483648) = false ∧ pst a0 a1 = false ∧ pst a1 a0 = true ∧ ¬ 0 < sgn ((a1 - a0) % 4294967296) := by
    have hs : sgn ((a1 - a0) % 4294967296) = if 2147483647 < (a1 - a0) % 4294967296 then (a1 - a0) % 4294967296 - 4294967296 else (a1 - a0) % 4294967296 := rfl
    rw [hs]
    unfold pst
    simp only [decide_eq_true_iff, decide_eq_false_iff_not, beq_eq_false_iff_ne, ne_eq]
    split <;> omega
  rcases hway with ⟨d0, p1, p2⟩ | ⟨d0, p1, p2⟩ | ⟨d0, d1, p1, p2, p3⟩ | ⟨d0, d1, p1, p2, p3⟩
  all_goals
    go_enter Try.func7, Try.ntmps7
    go_wp2_with (first
      | (go_at_call 17; refine (alive_any _).mono ?_; rintro e w' ⟨rfl, rfl⟩)
      | (go_at_call 9; refine (Signed_any _ _ (by omega)).mono ?_; rintro e w' ⟨rfl, rfl⟩)
      | (go_at_call 15; refine (Past_any _ _ _).mono ?_; rintro e w' ⟨rfl, rfl⟩)
      | (go_at_call 13; refine (Since_any _ _ _).mono ?_; rintro e w' ⟨rfl, rfl⟩))
    go_ret
    exact ⟨by first | rfl | simp [p3], Grown.refl _⟩

set_option maxRecDepth 100000 in
theorem lifted (os : Os) (started : os.Started) (H : Type) (enc : TypeId × Value → H) :
    ReturnsInHanded {} Try.checked os 7 .any (Rows.wordsEitherSpec.pre6 enc Try.prog Try.f7 Rows.wordsEitherRow.domain false) (Rows.wordsEitherSpec.post enc Try.prog Try.f7 false true false false) := by
  refine returnsInHanded_of_change (C := Try.checked) own started (by kernel_rfl) Try.func7
    (ChangeSpec.witness6 (enc := enc) (C := Try.checked) false ⟨#[], #[.int .u32 0, .int .u32 0, .int .u32 0], []⟩ 8 (by kernel_rfl) (by kernel_rfl) (by kernel_rfl) (by kernel_rfl)) ?_
  intro W base args ds gs before hval0 hW hcnd _
  have hval : ∀ (j : Nat) t v, Try.f7.params[j]? = some t → args[j]? = some v → Value.okWide Try.prog W .any base t v := hval0
  have hW' := hW
  obtain ⟨p, q, hA0, hV, rfl, hfz, hnd⟩ := hW
  have hA : DataW.TrodAll enc Try.prog W 0 (fun _ => true) true Try.f7.params.toList args.toList ds p := hA0
  rw [Try.params7] at hA hval
  obtain ⟨v0, vs0, d0, ds0, p0, q0, hargs, rfl, rfl, h0, r0⟩ := trodAll_cons hA
  obtain ⟨v1, vs1, d1, ds1, p1, q1, rfl, rfl, rfl, h1, r1⟩ := trodAll_cons r0
  obtain ⟨v2, vs2, d2, ds2, p2, q2, rfl, rfl, rfl, h2, r2⟩ := trodAll_cons r1
  obtain ⟨rfl, rfl, rfl⟩ := trodAll_nil r2
  obtain rfl : args = #[v0, v1, v2] := by cases args; simp_all
  obtain ⟨rfl, rfl⟩ := trodVars_none hV
  obtain ⟨a0, rfl, rfl, rfl, w0⟩ := open_int Try.underlying22 (hval 0 22 v0 rfl rfl) h0
  obtain ⟨a1, rfl, rfl, rfl, w1⟩ := open_int Try.underlying22 (hval 1 22 v1 rfl rfl) h1
  obtain ⟨a2, rfl, rfl, rfl, w2⟩ := open_int Try.underlying22 (hval 2 22 v2 rfl rfl) h2
  clear hA0 hval0
  simp only [List.append_nil] at hW'
  refine (walk a0 a1 a2 w0 w1 w2 W).mono fun e W' ⟨he, hg⟩ => ?_
  subst he
  exact ⟨_, rfl, post_of_same (pa := []) (pv := []) hW' (fun _ _ _ => (trodAll_cons_mk (shut_bool Try.underlying4 _) trodAll_mk0)) (fun sp _ => (trodAll_cons_mk (shut_int Try.underlying22 w0) (trodAll_cons_mk (shut_int Try.underlying22 w1) (trodAll_cons_mk (shut_int Try.underlying22 w2) trodAll_mk0)))) (fun _ _ => rfl) rfl
    (hg.frame _) hg.2.1 (ok_one (by kernel_rfl) rfl (okWide_bool_mk Try.underlying4 _))⟩

theorem over : Rows.wordsEitherRow.holds Try.pinned (OpenSpec.ofChange Rows.wordsEitherSpec) :=
  OpenClaim.holds_of_wide 7 Try.f7 rfl rfl rfl rfl rfl rfl rfl ⟨rfl, rfl, rfl, rfl, rfl⟩ rfl rfl rfl rfl rfl (by kernel_rfl) Try.func7 (by kernel_rfl)
    (of_decide_eq_true (by kernel_rfl)) (by unfold Func.isWrapper; first | (rw [if_pos (by decide +kernel)]; kernel_rfl) | (rw [if_neg (by decide +kernel)]; exact ⟨rfl, rfl⟩))
    (fun os started H enc _ => lifted os started H enc)

theorem proved : Rows.WordsEitherSaid :=
  over
end Go.Proofs.Ytkgfdacbmeaigaa.wordsEither
namespace Go.Proofs.Ytkgfdacbmeaigaa
/-- The given statement, whole. -/
theorem wordsEither_holds : Rows.WordsEitherSaid := wordsEither.proved
#print axioms wordsEither_holds
end Go.Proofs.Ytkgfdacbmeaigaa
