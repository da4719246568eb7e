/-
  Proved: 'UnitsBits' returns true for every two numbers of 32 bits: bits that both have, and that just one has, are together those that one of them has, and what is taken against a number twice is as it was (P3.1). No condition.
-/
import Derived.Test.YtdpjkpekafgfeaaRows
import Derived.WalkKit
import Derived.ProofKit
import Derived.OpenShut
import Derived.Test.YtdpjkpekafgfeaaDo
namespace Go.Proofs.Ytdpjkpekafgfeaa.unitsBits
open Go.ChangeShapes Go.WideShapes Go.ChangeAt Go.RowKit
set_option linter.unusedVariables false

theorem own : ownKnob Try.prog.godebug = none := by kernel_rfl

set_option maxRecDepth 100000 in
set_option maxHeartbeats 1000000 in
theorem walk (a0 : Int) (a1 : Int) (w0 : (Lit.int .u32 a0).wf = true) (w1 : (Lit.int .u32 a1).wf = true) (w : World) :
    Calls Try.prog 6 #[.int .u32 a0, .int .u32 a1] w fun e w' => e = .returned (.bool true) ∧ Below w.heap.size w w' := by
  have b0 : num a0 := bounds_u32 w0
  have b1 : num a1 := bounds_u32 w1
  have lm : num 4294967295 := ⟨by decide, by decide⟩
  have n1 : num (andv a0 a1) := andv_num _ _ b0 b1
  have n2 : num (xorv a0 a1) := xorv_num _ _ b0 b1
  have n3 : num (orv a0 a1) := orv_num _ _ b0 b1
  have n4 : num (leftv (andv a0 a1) 1) := leftv_num _ _
  have n5 : num (xorv a1 4294967295) := xorv_num _ _ b1 lm
  have eA := andv_nat a0 a1 b0 b1
  have eX := xorv_nat a0 a1 b0 b1
  have eO := orv_nat a0 a1 b0 b1
  have tA : (andv a0 a1).toNat = a0.toNat &&& a1.toNat := by rw [eA]; rfl
  have tX : (xorv a0 a1).toNat = a0.toNat ^^^ a1.toNat := by rw [eX]; rfl
  have k1 : addv (andv a0 a1) (xorv a0 a1) = orv a0 a1 := by
    have := or_bits a0.toNat a1.toNat
    unfold num at n3
    unfold addv; rw [eA, eX]; rw [eO] at n3 ⊢; omega
  have k2 : andv (andv a0 a1) (xorv a0 a1) = 0 := by rw [andv_nat _ _ n1 n2, tA, tX, and_xor_zero]; rfl
  have k3 : orv (andv a0 a1) (xorv a0 a1) = orv a0 a1 := by rw [orv_nat _ _ n1 n2, tA, tX, and_or_xor, eO]
  have k4 : xorv (xorv a0 a1) a1 = a0 := by
    rw [xorv_nat _ _ n2 b1, tX, xor_back]; unfold num at b0; omega
  have k5 : subv a0 (andv a0 a1) = andv a0 (xorv a1 4294967295) := by
    rw [andv_nat _ _ b0 n5, xorv_nat _ _ b1 lm]
    unfold subv; rw [eA]
    have h := and_not a0.toNat a1.toNat (by unfold num at b0; omega)
    have e : ((a1.toNat ^^^ (4294967295 : Int).toNat : Nat) : Int).toNat = a1.toNat ^^^ 4294967295 := rfl
    rw [e]
    unfold num at b0
    omega
  have k6 : addv (xorv a0 a1) (leftv (andv a0 a1) 1) = addv a0 a1 := by
    have h := add_bits a0.toNat a1.toNat
    have e : places 1 = 1 := by decide
    unfold addv leftv; rw [e, eA, eX]; unfold num at b0 b1; omega
  have k7 : xorv a0 a0 = 0 := by rw [xorv_nat _ _ b0 b0, Nat.xor_self]; rfl
  clear eA eX eO tA tX
  have hB : Below w.heap.size w w := Below.refl _ _
  go_enter Try.func6, Try.ntmps6
  go_wp2_with (first
    | (go_at_call 14; refine (alive_any _).mono ?_; rintro e wx ⟨rfl, hbx⟩; replace hB : Below w.heap.size w wx := hB.trans (hbx.mono hB.size); clear hbx)
    | (go_at_call_of 13 (Value.int IntKind.u8 3); refine (do_add _ _ (by first | assumption | exact ⟨by decide, by decide⟩) _).mono ?_; rintro e wx ⟨rfl, hbx⟩; replace hB : Below w.heap.size w wx := hB.trans (hbx.mono hB.size); clear hbx)
    | (go_at_call_of 13 (Value.int IntKind.u8 4); refine (do_sub _ _ (by first | assumption | exact ⟨by decide, by decide⟩) _).mono ?_; rintro e wx ⟨rfl, hbx⟩; replace hB : Below w.heap.size w wx := hB.trans (hbx.mono hB.size); clear hbx)
    | (go_at_call_of 13 (Value.int IntKind.u8 6); refine (do_and _ _ (by first | assumption | exact ⟨by decide, by decide⟩) _).mono ?_; rintro e wx ⟨rfl, hbx⟩; replace hB : Below w.heap.size w wx := hB.trans (hbx.mono hB.size); clear hbx)
    | (go_at_call_of 13 (Value.int IntKind.u8 7); refine (do_or _ _ (by first | assumption | exact ⟨by decide, by decide⟩) _).mono ?_; rintro e wx ⟨rfl, hbx⟩; replace hB : Below w.heap.size w wx := hB.trans (hbx.mono hB.size); clear hbx)
    | (go_at_call_of 13 (Value.int IntKind.u8 8); refine (do_xor _ _ (by first | assumption | exact ⟨by decide, by decide⟩) _).mono ?_; rintro e wx ⟨rfl, hbx⟩; replace hB : Below w.heap.size w wx := hB.trans (hbx.mono hB.size); clear hbx)
    | (go_at_call_of 13 (Value.int IntKind.u8 9); refine (do_left _ _ (by first | assumption | exact ⟨by decide, by decide⟩) _).mono ?_; rintro e wx ⟨rfl, hbx⟩; replace hB : Below w.heap.size w wx := hB.trans (hbx.mono hB.size); clear hbx))
  go_ret
  exact ⟨rfl, hB⟩

set_option maxRecDepth 100000 in
theorem lifted (os : Os) (started : os.Started) (H : Type) (enc : TypeId × Value → H) :
    ReturnsInHanded {} Try.checked os 6 .any (Rows.unitsBitsSpec.pre6 enc Try.prog Try.f6 Rows.unitsBitsRow.domain false) (Rows.unitsBitsSpec.post enc Try.prog Try.f6 false true false false) := by
  refine returnsInHanded_of_change (C := Try.checked) own started (by kernel_rfl) Try.func6
    (ChangeSpec.witness6 (enc := enc) (C := Try.checked) false ⟨#[], #[.int .u32 0, .int .u32 0], []⟩ 8 (by kernel_rfl) (by kernel_rfl) (by kernel_rfl) (by kernel_rfl)) ?_
  intro W base args ds gs before hval0 hW hcnd _
  have hval : ∀ (j : Nat) t v, Try.f6.params[j]? = some t → args[j]? = some v → Value.okWide Try.prog W .any base t v := hval0
  have hW' := hW
  obtain ⟨p, q, hA0, hV, rfl, hfz, hnd⟩ := hW
  have hA : DataW.TrodAll enc Try.prog W 0 (fun _ => true) true Try.f6.params.toList args.toList ds p := hA0
  rw [Try.params6] at hA hval
  obtain ⟨v0, vs0, d0, ds0, p0, q0, hargs, rfl, rfl, h0, r0⟩ := trodAll_cons hA
  obtain ⟨v1, vs1, d1, ds1, p1, q1, rfl, rfl, rfl, h1, r1⟩ := trodAll_cons r0
  obtain ⟨rfl, rfl, rfl⟩ := trodAll_nil r1
  obtain rfl : args = #[v0, v1] := by cases args; simp_all
  obtain ⟨rfl, rfl⟩ := trodVars_none hV
  obtain ⟨a0, rfl, rfl, rfl, w0⟩ := open_int Try.underlying23 (hval 0 23 v0 rfl rfl) h0
  obtain ⟨a1, rfl, rfl, rfl, w1⟩ := open_int Try.underlying23 (hval 1 23 v1 rfl rfl) h1
  clear hA0 hval0
  simp only [List.append_nil] at hW'
  refine (walk a0 a1 w0 w1 W).mono fun e W' ⟨he, hg⟩ => ?_
  subst he
  exact ⟨_, rfl, _, _, _, [], _, [], hW', trodAll_mk1 (shut_bool Try.underlying4 _), (trodAll_cons_mk (shut_int Try.underlying23 w0) (trodAll_cons_mk (shut_int Try.underlying23 w1) trodAll_mk0)), rfl, hg.frame _, fun h => by cases h⟩

theorem over : Rows.unitsBitsRow.holds Try.pinned (OpenSpec.ofChange Rows.unitsBitsSpec) :=
  OpenClaim.holds_of_wide 6 Try.f6 rfl rfl rfl rfl rfl rfl rfl ⟨rfl, rfl, rfl, rfl, rfl⟩ rfl rfl rfl rfl rfl (by kernel_rfl) Try.func6 (by kernel_rfl)
    (of_decide_eq_true (by kernel_rfl)) (by unfold Func.isWrapper; first | (rw [if_pos (by decide +kernel)]; kernel_rfl) | (rw [if_neg (by decide +kernel)]; exact ⟨rfl, rfl⟩))
    (fun os started H enc _ => lifted os started H enc)

theorem proved : Rows.UnitsBitsSaid :=
  over
end Go.Proofs.Ytdpjkpekafgfeaa.unitsBits
namespace Go.Proofs.Ytdpjkpekafgfeaa
/-- The given statement, whole. -/
theorem unitsBits_holds : Rows.UnitsBitsSaid := unitsBits.proved
#print axioms unitsBits_holds
end Go.Proofs.Ytdpjkpekafgfeaa
