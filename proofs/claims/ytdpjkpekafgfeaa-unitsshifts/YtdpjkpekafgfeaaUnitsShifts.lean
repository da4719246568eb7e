/-
  Proved: 'UnitsShifts' returns true for every number of 32 bits and every number of places: places up are a product with 2 as often, up and down again a number lacks its upper bits alone, and 32 places more say nothing (P3.1). No condition.
-/
import Derived.Test.YtdpjkpekafgfeaaRows
import Derived.WalkKit
import Derived.ProofKit
import Derived.OpenShut
import Derived.Test.YtdpjkpekafgfeaaDo
namespace Go.Proofs.Ytdpjkpekafgfeaa.unitsShifts
open Go.ChangeShapes Go.WideShapes Go.ChangeAt Go.RowKit
set_option linter.unusedVariables false

theorem own : ownKnob Try.prog.godebug = none := by kernel_rfl

theorem places_of (b z : Int) (h : b % 32 = z) : places b = z.toNat := by unfold places; rw [h]
theorem places_low (z : Int) (h : 0 ≤ z ∧ z < 32) : places z = z.toNat := by unfold places; rw [Int.emod_eq_of_lt h.1 h.2]
theorem pow_cast (k : Nat) : ((2 ^ k : Nat) : Int) = 2 ^ k := by simp
theorem pow_bd (k : Nat) (h : k < 32) : 1 ≤ 2 ^ k ∧ 2 ^ k ≤ 2147483648 := ⟨Nat.one_le_two_pow, Nat.pow_le_pow_right (by decide) (show k ≤ 31 by omega)⟩
/-- what the statement asks of a number and of so many places -/
theorem shifts (a : Int) (z : Int) (ha : num a) (hz : 0 ≤ z ∧ z < 32) :
    mulv a ((2 ^ z.toNat : Nat) : Int) = leftv a z ∧ leftv (rightv a z) z = subv a (andv a (((2 ^ z.toNat : Nat) : Int) - 1)) ∧ rightv a z / 2 ^ (32 - z).toNat = 0 := by
  obtain ⟨k, rfl⟩ := Int.eq_ofNat_of_zero_le hz.1
  obtain ⟨A, rfl⟩ := Int.eq_ofNat_of_zero_le ha.1
  have hk : k < 32 := by omega
  have hA : A < 4294967296 := by unfold num at ha; omega
  have hb := pow_bd k hk
  have hpl : places (k : Int) = k := places_low _ hz
  have hp0 : 0 < 2 ^ k := by omega
  refine ⟨?_, ?_, ?_⟩
  · unfold mulv leftv; rw [hpl, Int.toNat_natCast, pow_cast]
  · have hn : num (((2 ^ k : Nat) : Int) - 1) := ⟨by omega, by omega⟩
    rw [Int.toNat_natCast, andv_nat _ _ ha hn]
    unfold leftv rightv subv
    rw [hpl, show (((2 ^ k : Nat) : Int) - 1).toNat = 2 ^ k - 1 by omega, Int.toNat_natCast, and_low, ← pow_cast, ← Int.natCast_ediv]
    have hd := Nat.div_add_mod A (2 ^ k)
    have hm : A % 2 ^ k ≤ A := Nat.mod_le _ _
    rw [Nat.mul_comm] at hd
    generalize A / 2 ^ k = q at *
    rw [← Int.natCast_mul]
    generalize q * 2 ^ k = x at *
    generalize A % 2 ^ k = r at *
    omega
  · unfold rightv
    rw [hpl, show (32 - (k : Int)).toNat = 32 - k by omega, ← pow_cast, ← pow_cast, ← Int.natCast_ediv, ← Int.natCast_ediv, Nat.div_div_eq_div_mul, ← Nat.pow_add, show k + (32 - k) = 32 by omega, Nat.div_eq_of_lt hA]
    rfl
/-- 2, taken so many times -/
def pw (i : Nat) : Int := ((2 ^ i : Nat) : Int)
theorem pw_num (i : Nat) (h : i < 32) : num (pw i) := by
  have hb := pow_bd i h
  unfold num pw
  omega
theorem twice (i : Nat) (h : i < 31) : addv (pw i) (pw i) = pw (i + 1) := by
  have hb := pow_bd (i + 1) (by omega)
  unfold addv pw
  rw [Nat.pow_succ] at *
  omega
set_option maxRecDepth 100000 in
set_option maxHeartbeats 2000000 in
theorem walk (a0 : Int) (a1 : Int) (w0 : (Lit.int .u32 a0).wf = true) (w1 : (Lit.int .u32 a1).wf = true) (w : World) :
    Calls Try.prog 7 #[.int .u32 a0, .int .u32 a1] w fun e w' => e = .returned (.bool true) ∧ Below w.heap.size w w' := by
  have b0 : num a0 := bounds_u32 w0
  have b1 : num a1 := bounds_u32 w1
  obtain ⟨z, hz⟩ : ∃ z, a1 % 32 = z := ⟨_, rfl⟩
  have hzb : 0 ≤ z ∧ z < 32 := by omega
  have hzt : a1.tmod 32 = z := by unfold num at b1; rw [Int.tmod_eq_emod_of_nonneg b1.1]; exact hz
  have nz : num z := ⟨by omega, by omega⟩
  obtain ⟨P, hP⟩ : ∃ P, ((2 ^ z.toNat : Nat) : Int) = P := ⟨_, rfl⟩
  have hs := shifts a0 z b0 hzb
  rw [hP] at hs
  obtain ⟨s1, s2, s3⟩ := hs
  have hPb : 1 ≤ P ∧ P ≤ 2147483648 := by have := pow_bd z.toNat (by omega); omega
  have nP : num P := ⟨by omega, by omega⟩
  have nP1 : num (P - 1) := ⟨by omega, by omega⟩
  have na : num (andv a0 (P - 1)) := andv_num _ _ b0 nP1
  have e1 : leftv a0 a1 = leftv a0 z := by unfold leftv; rw [places_of a1 z hz, places_low z hzb]
  have e2 : rightv a0 a1 = rightv a0 z := by unfold rightv; rw [places_of a1 z hz, places_low z hzb]
  have e3 : leftv a0 0 = a0 := by
    have e : places 0 = 0 := by decide
    unfold num at b0; unfold leftv; rw [e]; omega
  have e4 : rightv a0 0 = a0 := by
    have e : places 0 = 0 := by decide
    unfold rightv; rw [e]; omega
  have nr : num (rightv a0 z) := rightv_num _ _ b0
  have l0 : num 0 := ⟨by decide, by decide⟩
  have HP : Hid (((2 ^ z.toNat : Nat) : Int) = P) := hP
  clear hP
  have hB : Below w.heap.size w w := Below.refl _ _
  go_enter Try.func7, Try.ntmps7
  go_wp2_with (first
      | (go_at_call 14; refine (alive_any _).mono ?_; rintro e wx ⟨rfl, hbx⟩; replace hB : Below w.heap.size w wx := hB.trans (hbx.mono hB.size); clear hbx)
      | (go_at_call_of 13 (Value.int IntKind.u8 9); refine (do_left _ _ (by first | assumption | exact ⟨by decide, by decide⟩) _).mono ?_; rintro e wx ⟨rfl, hbx⟩; replace hB : Below w.heap.size w wx := hB.trans (hbx.mono hB.size); clear hbx)
      | (go_at_call_of 13 (Value.int IntKind.u8 10); refine (do_right _ _ (by first | assumption | exact ⟨by decide, by decide⟩) _).mono ?_; rintro e wx ⟨rfl, hbx⟩; replace hB : Below w.heap.size w wx := hB.trans (hbx.mono hB.size); clear hbx))
  have B0 := hB
  clear hB
  go_loopg [8, 9] z.toNat (fun g s8 s9 wx => ∃ i : Nat, i + g = z.toNat ∧ s8 = .int .u32 (pw i) ∧ s9 = .int .u32 i ∧ Below w.heap.size w wx)
  case atStart => exact ⟨0, by omega, rfl, rfl, B0⟩
  case round =>
    obtain ⟨i, hig, rfl, rfl, hB⟩ := hrel
    cases gk with
    | zero =>
      have hlt : ¬ ((i : Int) < z) := by omega
      have hPi : pw i = P := by rw [← HP.out, show z.toNat = i by omega]; rfl
      rw [hPi]
      clear hPi hig
      by_cases h0 : z = 0
      · have h00 : (z == 0) = true := by simpa using h0
        have H0 : Hid (z = 0) := h0
        clear h0
        go_wp2_with (first
        | (go_at_call 14; refine (alive_any _).mono ?_; rintro e wx ⟨rfl, hbx⟩; replace hB : Below w.heap.size w wx := hB.trans (hbx.mono hB.size); clear hbx)
        | (go_at_call_of 13 (Value.int IntKind.u8 4); refine (do_sub _ _ (by first | assumption | exact ⟨by decide, by decide⟩) _).mono ?_; rintro e wx ⟨rfl, hbx⟩; replace hB : Below w.heap.size w wx := hB.trans (hbx.mono hB.size); clear hbx)
        | (go_at_call_of 13 (Value.int IntKind.u8 5); refine (do_mul _ _ (by first | assumption | exact ⟨by decide, by decide⟩) _).mono ?_; rintro e wx ⟨rfl, hbx⟩; replace hB : Below w.heap.size w wx := hB.trans (hbx.mono hB.size); clear hbx)
        | (go_at_call_of 13 (Value.int IntKind.u8 6); refine (do_and _ _ (by first | assumption | exact ⟨by decide, by decide⟩) _).mono ?_; rintro e wx ⟨rfl, hbx⟩; replace hB : Below w.heap.size w wx := hB.trans (hbx.mono hB.size); clear hbx)
        | (go_at_call_of 13 (Value.int IntKind.u8 9); refine (do_left _ _ (by first | assumption | exact ⟨by decide, by decide⟩) _).mono ?_; rintro e wx ⟨rfl, hbx⟩; replace hB : Below w.heap.size w wx := hB.trans (hbx.mono hB.size); clear hbx)
        | (go_at_call_of 13 (Value.int IntKind.u8 10); refine (do_right _ _ (by first | assumption | exact ⟨by decide, by decide⟩) _).mono ?_; rintro e wx ⟨rfl, hbx⟩; replace hB : Below w.heap.size w wx := hB.trans (hbx.mono hB.size); clear hbx))
        go_ret
        exact ⟨rfl, hB⟩
      · have h00 : (z == 0) = false := by simpa using h0
        go_wp2_with (first
        | (go_at_call 14; refine (alive_any _).mono ?_; rintro e wx ⟨rfl, hbx⟩; replace hB : Below w.heap.size w wx := hB.trans (hbx.mono hB.size); clear hbx)
        | (go_at_call_of 13 (Value.int IntKind.u8 4); refine (do_sub _ _ (by first | assumption | exact ⟨by decide, by decide⟩) _).mono ?_; rintro e wx ⟨rfl, hbx⟩; replace hB : Below w.heap.size w wx := hB.trans (hbx.mono hB.size); clear hbx)
        | (go_at_call_of 13 (Value.int IntKind.u8 5); refine (do_mul _ _ (by first | assumption | exact ⟨by decide, by decide⟩) _).mono ?_; rintro e wx ⟨rfl, hbx⟩; replace hB : Below w.heap.size w wx := hB.trans (hbx.mono hB.size); clear hbx)
        | (go_at_call_of 13 (Value.int IntKind.u8 6); refine (do_and _ _ (by first | assumption | exact ⟨by decide, by decide⟩) _).mono ?_; rintro e wx ⟨rfl, hbx⟩; replace hB : Below w.heap.size w wx := hB.trans (hbx.mono hB.size); clear hbx)
        | (go_at_call_of 13 (Value.int IntKind.u8 9); refine (do_left _ _ (by first | assumption | exact ⟨by decide, by decide⟩) _).mono ?_; rintro e wx ⟨rfl, hbx⟩; replace hB : Below w.heap.size w wx := hB.trans (hbx.mono hB.size); clear hbx)
        | (go_at_call_of 13 (Value.int IntKind.u8 10); refine (do_right _ _ (by first | assumption | exact ⟨by decide, by decide⟩) _).mono ?_; rintro e wx ⟨rfl, hbx⟩; replace hB : Below w.heap.size w wx := hB.trans (hbx.mono hB.size); clear hbx))
        go_ret
        exact ⟨rfl, hB⟩
    | succ g =>
      have hlt : (i : Int) < z := by omega
      have ht := twice i (by omega)
      have ni := pw_num i (by omega)
      go_wp2_with (first
        | (go_at_call_of 13 (Value.int IntKind.u8 3); refine (do_add _ _ ni _).mono ?_; rintro e wx ⟨rfl, hbx⟩; replace hB : Below w.heap.size w wx := hB.trans (hbx.mono hB.size); clear hbx))
      go_roundg g
      case measure => omega
      case rel => exact ⟨i + 1, by omega, rfl, by go_num, hB⟩

set_option maxRecDepth 100000 in
theorem lifted (os : Os) (started : os.Started) (H : Type) (enc : TypeId × Value → H) :
    ReturnsInHanded {} Try.checked os 7 .any (Rows.unitsShiftsSpec.pre6 enc Try.prog Try.f7 Rows.unitsShiftsRow.domain false) (Rows.unitsShiftsSpec.post enc Try.prog Try.f7 false true false false) := by
  refine returnsInHanded_of_change (C := Try.checked) own started (by kernel_rfl) Try.func7
    (ChangeSpec.witness6 (enc := enc) (C := Try.checked) false ⟨#[], #[.int .u32 0, .int .u32 0], []⟩ 8 (by kernel_rfl) (by kernel_rfl) (by kernel_rfl) (by kernel_rfl)) ?_
  intro W base args ds gs before hval0 hW hcnd _
  have hval : ∀ (j : Nat) t v, Try.f7.params[j]? = some t → args[j]? = some v → Value.okWide Try.prog W .any base t v := hval0
  have hW' := hW
  obtain ⟨p, q, hA0, hV, rfl, hfz, hnd⟩ := hW
  have hA : DataW.TrodAll enc Try.prog W 0 (fun _ => true) true Try.f7.params.toList args.toList ds p := hA0
  rw [Try.params7] at hA hval
  obtain ⟨v0, vs0, d0, ds0, p0, q0, hargs, rfl, rfl, h0, r0⟩ := trodAll_cons hA
  obtain ⟨v1, vs1, d1, ds1, p1, q1, rfl, rfl, rfl, h1, r1⟩ := trodAll_cons r0
  obtain ⟨rfl, rfl, rfl⟩ := trodAll_nil r1
  obtain rfl : args = #[v0, v1] := by cases args; simp_all
  obtain ⟨rfl, rfl⟩ := trodVars_none hV
  obtain ⟨a0, rfl, rfl, rfl, w0⟩ := open_int Try.underlying23 (hval 0 23 v0 rfl rfl) h0
  obtain ⟨a1, rfl, rfl, rfl, w1⟩ := open_int Try.underlying23 (hval 1 23 v1 rfl rfl) h1
  clear hA0 hval0
  simp only [List.append_nil] at hW'
  refine (walk a0 a1 w0 w1 W).mono fun e W' ⟨he, hg⟩ => ?_
  subst he
  exact ⟨_, rfl, _, _, _, [], _, [], hW', trodAll_mk1 (shut_bool Try.underlying4 _), (trodAll_cons_mk (shut_int Try.underlying23 w0) (trodAll_cons_mk (shut_int Try.underlying23 w1) trodAll_mk0)), rfl, hg.frame _, fun h => by cases h⟩

theorem over : Rows.unitsShiftsRow.holds Try.pinned (OpenSpec.ofChange Rows.unitsShiftsSpec) :=
  OpenClaim.holds_of_wide 7 Try.f7 rfl rfl rfl rfl rfl rfl rfl ⟨rfl, rfl, rfl, rfl, rfl⟩ rfl rfl rfl rfl rfl (by kernel_rfl) Try.func7 (by kernel_rfl)
    (of_decide_eq_true (by kernel_rfl)) (by unfold Func.isWrapper; first | (rw [if_pos (by decide +kernel)]; kernel_rfl) | (rw [if_neg (by decide +kernel)]; exact ⟨rfl, rfl⟩))
    (fun os started H enc _ => lifted os started H enc)

theorem proved : Rows.UnitsShiftsSaid :=
  over
end Go.Proofs.Ytdpjkpekafgfeaa.unitsShifts
namespace Go.Proofs.Ytdpjkpekafgfeaa
/-- The given statement, whole. -/
theorem unitsShifts_holds : Rows.UnitsShiftsSaid := unitsShifts.proved
#print axioms unitsShifts_holds
end Go.Proofs.Ytdpjkpekafgfeaa
