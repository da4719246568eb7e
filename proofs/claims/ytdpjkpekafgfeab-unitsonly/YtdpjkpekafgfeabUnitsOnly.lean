/-
  Proved: 'UnitsOnly' returns true for every Op and every two numbers of 32 bits: what computes does not compare, what compares does not compute, and all other Ops do neither (P3.1, P3.2). No condition.
-/
import Derived.Test.YtdpjkpekafgfeabRows
import Derived.WalkKit
import Derived.ProofKit
import Derived.OpenShut
import Derived.Test.YtdpjkpekafgfeabOrder
namespace Go.Proofs.Ytdpjkpekafgfeab.unitsOnly
open Go.ChangeShapes Go.WideShapes Go.ChangeAt Go.RowKit
set_option linter.unusedVariables false

theorem own : ownKnob Try.prog.godebug = none := by kernel_rfl

theorem doe_one (o a b : Int) (h : ¬ (3 ≤ o ∧ o ≤ 10)) : dov o a b = 0 ∧ doe o = 1 := by
  refine ⟨?_, if_neg h⟩
  unfold dov
  rw [if_neg (by omega), if_neg (by omega), if_neg (by omega), if_neg (by omega), if_neg (by omega), if_neg (by omega), if_neg (by omega), if_neg (by omega)]
theorem hoe_one (o a b : Int) (h : ¬ (15 ≤ o ∧ o ≤ 18)) : hov o a b = false ∧ hoe o = 1 := by
  refine ⟨?_, if_neg h⟩
  unfold hov
  rw [if_neg (by omega), if_neg (by omega), if_neg (by omega), if_neg (by omega)]
set_option maxRecDepth 100000 in
set_option maxHeartbeats 2000000 in
theorem walk (a0 : Int) (a1 : Int) (a2 : Int) (w0 : (Lit.int .u8 a0).wf = true) (w1 : (Lit.int .u32 a1).wf = true) (w2 : (Lit.int .u32 a2).wf = true) (w : World) :
    Calls Try.prog 3 #[.int .u8 a0, .int .u32 a1, .int .u32 a2] w fun e w' => e = .returned (.bool true) ∧ Below w.heap.size w w' := by
  have b1 : num a1 := bounds_u32 w1
  have b2 : num a2 := bounds_u32 w2
  have hd := Do_any a0 a1 a2 b2
  have hh := Holds_any a0 a1 a2 b1 b2
  have hB : Below w.heap.size w w := Below.refl _ _
  rcases (show a0 < 3 ∨ 3 ≤ a0 ∧ a0 ≤ 10 ∨ 10 < a0 ∧ a0 < 15 ∨ 15 ≤ a0 ∧ a0 ≤ 18 ∨ 18 < a0 by omega) with hc | ⟨hc, hc'⟩ | ⟨hc, hc'⟩ | ⟨hc, hc'⟩ | hc
  · have f1 : ¬ 3 ≤ a0 := by omega
    have f2 : ¬ 15 ≤ a0 := by omega
    rw [(doe_one a0 a1 a2 (by omega)).1, (doe_one a0 a1 a2 (by omega)).2] at hd
    rw [(hoe_one a0 a1 a2 (by omega)).1, (hoe_one a0 a1 a2 (by omega)).2] at hh
    go_enter Try.func3, Try.ntmps3
    go_wp2_with (first
      | (go_at_call 8; refine (alive_any _).mono ?_; rintro e wx ⟨rfl, hbx⟩; replace hB : Below w.heap.size w wx := hB.trans (hbx.mono hB.size); clear hbx)
      | (go_at_call 6; refine (hd _).mono ?_; rintro e wx ⟨rfl, hbx⟩; replace hB : Below w.heap.size w wx := hB.trans (hbx.mono hB.size); clear hbx)
      | (go_at_call 7; refine (hh _).mono ?_; rintro e wx ⟨rfl, hbx⟩; replace hB : Below w.heap.size w wx := hB.trans (hbx.mono hB.size); clear hbx))
    go_ret
    exact ⟨by first | rfl | (simp; omega), hB⟩
  · have f1 : ¬ 15 ≤ a0 := by omega
    rw [show doe a0 = 0 from if_pos (by omega)] at hd
    generalize dov a0 a1 a2 = v at hd
    rw [(hoe_one a0 a1 a2 (by omega)).1, (hoe_one a0 a1 a2 (by omega)).2] at hh
    go_enter Try.func3, Try.ntmps3
    go_wp2_with (first
      | (go_at_call 8; refine (alive_any _).mono ?_; rintro e wx ⟨rfl, hbx⟩; replace hB : Below w.heap.size w wx := hB.trans (hbx.mono hB.size); clear hbx)
      | (go_at_call 6; refine (hd _).mono ?_; rintro e wx ⟨rfl, hbx⟩; replace hB : Below w.heap.size w wx := hB.trans (hbx.mono hB.size); clear hbx)
      | (go_at_call 7; refine (hh _).mono ?_; rintro e wx ⟨rfl, hbx⟩; replace hB : Below w.heap.size w wx := hB.trans (hbx.mono hB.size); clear hbx))
    go_ret
    exact ⟨by first | rfl | (simp; omega), hB⟩
  · have f1 : 3 ≤ a0 := by omega
    have f2 : ¬ a0 ≤ 10 := by omega
    have f3 : ¬ 15 ≤ a0 := by omega
    rw [(doe_one a0 a1 a2 (by omega)).1, (doe_one a0 a1 a2 (by omega)).2] at hd
    rw [(hoe_one a0 a1 a2 (by omega)).1, (hoe_one a0 a1 a2 (by omega)).2] at hh
    go_enter Try.func3, Try.ntmps3
    go_wp2_with (first
      | (go_at_call 8; refine (alive_any _).mono ?_; rintro e wx ⟨rfl, hbx⟩; replace hB : Below w.heap.size w wx := hB.trans (hbx.mono hB.size); clear hbx)
      | (go_at_call 6; refine (hd _).mono ?_; rintro e wx ⟨rfl, hbx⟩; replace hB : Below w.heap.size w wx := hB.trans (hbx.mono hB.size); clear hbx)
      | (go_at_call 7; refine (hh _).mono ?_; rintro e wx ⟨rfl, hbx⟩; replace hB : Below w.heap.size w wx := hB.trans (hbx.mono hB.size); clear hbx))
    go_ret
    exact ⟨by first | rfl | (simp; omega), hB⟩
  · have f1 : 3 ≤ a0 := by omega
    have f2 : ¬ a0 ≤ 10 := by omega
    rw [(doe_one a0 a1 a2 (by omega)).1, (doe_one a0 a1 a2 (by omega)).2] at hd
    rw [show hoe a0 = 0 from if_pos (by omega)] at hh
    generalize hov a0 a1 a2 = v at hh
    go_enter Try.func3, Try.ntmps3
    go_wp2_with (first
      | (go_at_call 8; refine (alive_any _).mono ?_; rintro e wx ⟨rfl, hbx⟩; replace hB : Below w.heap.size w wx := hB.trans (hbx.mono hB.size); clear hbx)
      | (go_at_call 6; refine (hd _).mono ?_; rintro e wx ⟨rfl, hbx⟩; replace hB : Below w.heap.size w wx := hB.trans (hbx.mono hB.size); clear hbx)
      | (go_at_call 7; refine (hh _).mono ?_; rintro e wx ⟨rfl, hbx⟩; replace hB : Below w.heap.size w wx := hB.trans (hbx.mono hB.size); clear hbx))
    go_ret
    exact ⟨by first | rfl | (simp; omega), hB⟩
  · have f1 : 3 ≤ a0 := by omega
    have f2 : ¬ a0 ≤ 10 := by omega
    have f3 : 15 ≤ a0 := by omega
    have f4 : ¬ a0 ≤ 18 := by omega
    rw [(doe_one a0 a1 a2 (by omega)).1, (doe_one a0 a1 a2 (by omega)).2] at hd
    rw [(hoe_one a0 a1 a2 (by omega)).1, (hoe_one a0 a1 a2 (by omega)).2] at hh
    go_enter Try.func3, Try.ntmps3
    go_wp2_with (first
      | (go_at_call 8; refine (alive_any _).mono ?_; rintro e wx ⟨rfl, hbx⟩; replace hB : Below w.heap.size w wx := hB.trans (hbx.mono hB.size); clear hbx)
      | (go_at_call 6; refine (hd _).mono ?_; rintro e wx ⟨rfl, hbx⟩; replace hB : Below w.heap.size w wx := hB.trans (hbx.mono hB.size); clear hbx)
      | (go_at_call 7; refine (hh _).mono ?_; rintro e wx ⟨rfl, hbx⟩; replace hB : Below w.heap.size w wx := hB.trans (hbx.mono hB.size); clear hbx))
    go_ret
    exact ⟨by first | rfl | (simp; omega), hB⟩

set_option maxRecDepth 100000 in
theorem lifted (os : Os) (started : os.Started) (H : Type) (enc : TypeId × Value → H) :
    ReturnsInHanded {} Try.checked os 3 .any (Rows.unitsOnlySpec.pre6 enc Try.prog Try.f3 Rows.unitsOnlyRow.domain false) (Rows.unitsOnlySpec.post enc Try.prog Try.f3 false true false false) := by
  refine returnsInHanded_of_change (C := Try.checked) own started (by kernel_rfl) Try.func3
    (ChangeSpec.witness6 (enc := enc) (C := Try.checked) false ⟨#[], #[.int .u8 0, .int .u32 0, .int .u32 0], []⟩ 8 (by kernel_rfl) (by kernel_rfl) (by kernel_rfl) (by kernel_rfl)) ?_
  intro W base args ds gs before hval0 hW hcnd _
  have hval : ∀ (j : Nat) t v, Try.f3.params[j]? = some t → args[j]? = some v → Value.okWide Try.prog W .any base t v := hval0
  have hW' := hW
  obtain ⟨p, q, hA0, hV, rfl, hfz, hnd⟩ := hW
  have hA : DataW.TrodAll enc Try.prog W 0 (fun _ => true) true Try.f3.params.toList args.toList ds p := hA0
  rw [Try.params3] at hA hval
  obtain ⟨v0, vs0, d0, ds0, p0, q0, hargs, rfl, rfl, h0, r0⟩ := trodAll_cons hA
  obtain ⟨v1, vs1, d1, ds1, p1, q1, rfl, rfl, rfl, h1, r1⟩ := trodAll_cons r0
  obtain ⟨v2, vs2, d2, ds2, p2, q2, rfl, rfl, rfl, h2, r2⟩ := trodAll_cons r1
  obtain ⟨rfl, rfl, rfl⟩ := trodAll_nil r2
  obtain rfl : args = #[v0, v1, v2] := by cases args; simp_all
  obtain ⟨rfl, rfl⟩ := trodVars_none hV
  obtain ⟨a0, rfl, rfl, rfl, w0⟩ := open_int Try.underlying22 (hval 0 22 v0 rfl rfl) h0
  obtain ⟨a1, rfl, rfl, rfl, w1⟩ := open_int Try.underlying23 (hval 1 23 v1 rfl rfl) h1
  obtain ⟨a2, rfl, rfl, rfl, w2⟩ := open_int Try.underlying23 (hval 2 23 v2 rfl rfl) h2
  clear hA0 hval0
  simp only [List.append_nil] at hW'
  refine (walk a0 a1 a2 w0 w1 w2 W).mono fun e W' ⟨he, hg⟩ => ?_
  subst he
  exact ⟨_, rfl, _, _, _, [], _, [], hW', trodAll_mk1 (shut_bool Try.underlying4 _), (trodAll_cons_mk (shut_int Try.underlying22 w0) (trodAll_cons_mk (shut_int Try.underlying23 w1) (trodAll_cons_mk (shut_int Try.underlying23 w2) trodAll_mk0))), rfl, hg.frame _, fun h => by cases h⟩

theorem over : Rows.unitsOnlyRow.holds Try.pinned (OpenSpec.ofChange Rows.unitsOnlySpec) :=
  OpenClaim.holds_of_wide 3 Try.f3 rfl rfl rfl rfl rfl rfl rfl ⟨rfl, rfl, rfl, rfl, rfl⟩ rfl rfl rfl rfl rfl (by kernel_rfl) Try.func3 (by kernel_rfl)
    (of_decide_eq_true (by kernel_rfl)) (by unfold Func.isWrapper; first | (rw [if_pos (by decide +kernel)]; kernel_rfl) | (rw [if_neg (by decide +kernel)]; exact ⟨rfl, rfl⟩))
    (fun os started H enc _ => lifted os started H enc)

theorem proved : Rows.UnitsOnlySaid :=
  over
end Go.Proofs.Ytdpjkpekafgfeab.unitsOnly
namespace Go.Proofs.Ytdpjkpekafgfeab
/-- The given statement, whole. -/
theorem unitsOnly_holds : Rows.UnitsOnlySaid := unitsOnly.proved
#print axioms unitsOnly_holds
end Go.Proofs.Ytdpjkpekafgfeab
