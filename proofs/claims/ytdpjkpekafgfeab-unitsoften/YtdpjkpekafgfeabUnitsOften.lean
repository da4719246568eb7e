/-
  Proved: 'UnitsOften' returns true for every number of 32 bits and every number of times (a byte): a number added so many times is its product, and taken off as often there is nothing left (P3.1). No condition.
-/
import Derived.Test.YtdpjkpekafgfeabRows
import Derived.WalkKit
import Derived.ProofKit
import Derived.OpenShut
import Derived.Test.YtdpjkpekafgfeabOrder
namespace Go.Proofs.Ytdpjkpekafgfeab.unitsOften
open Go.ChangeShapes Go.WideShapes Go.ChangeAt Go.RowKit
set_option linter.unusedVariables false

theorem own : ownKnob Try.prog.godebug = none := by kernel_rfl

/-- a number, taken so many times -/
def oft (i : Nat) (a : Int) : Int := (i : Int) * a % 4294967296
theorem oft_add (i : Nat) (a : Int) : addv (oft i a) a = oft (i + 1) a := by
  unfold addv oft
  rw [show ((i + 1 : Nat) : Int) * a = (i : Int) * a + a by rw [Int.natCast_add, Int.add_mul]; simp]
  omega
theorem oft_sub (i : Nat) (a : Int) : subv (oft (i + 1) a) a = oft i a := by
  unfold subv oft
  rw [show ((i + 1 : Nat) : Int) * a = (i : Int) * a + a by rw [Int.natCast_add, Int.add_mul]; simp]
  omega
theorem oft_mul (i : Nat) (a : Int) : mulv a i = oft i a := by unfold mulv oft; rw [Int.mul_comm]
theorem oft_none (a : Int) : oft 0 a = 0 := by unfold oft; simp
set_option maxRecDepth 100000 in
set_option maxHeartbeats 2000000 in
theorem walk (a0 : Int) (a1 : Int) (w0 : (Lit.int .u32 a0).wf = true) (w1 : (Lit.int .u8 a1).wf = true) (w : World) :
    Calls Try.prog 4 #[.int .u32 a0, .int .u8 a1] w fun e w' => e = .returned (.bool true) ∧ Below w.heap.size w w' := by
  have b0 : num a0 := bounds_u32 w0
  have bn := bounds_u8 w1
  obtain ⟨n, rfl⟩ := Int.eq_ofNat_of_zero_le bn.1
  have nn : num (n : Int) := ⟨by omega, by omega⟩
  have km := oft_mul n a0
  have kz := oft_none a0
  go_enter Try.func4, Try.ntmps4
  go_wp2
  go_loopg [5, 6] n (fun g s5 s6 wx => ∃ i : Nat, i + g = n ∧ s5 = .int .u32 (oft i a0) ∧ s6 = .int .i64 i ∧ Below w.heap.size w wx)
  case atStart => exact ⟨0, by omega, by rw [kz], rfl, Below.refl _ _⟩
  case round =>
    obtain ⟨i, hig, rfl, rfl, hB⟩ := hrel
    cases gk with
    | zero =>
      have hlt : ¬ ((i : Int) < n) := by omega
      obtain rfl : i = n := by omega
      go_wp2_with (go_at_call 9; refine (do_mul _ _ nn _).mono ?_; rintro e wx ⟨rfl, hbx⟩; replace hB : Below w.heap.size w wx := hB.trans (hbx.mono hB.size); clear hbx)
      have B0 := hB
      clear hB
      go_loopg [5, 7] i (fun g s5 s7 wx => ∃ j : Nat, j + g = i ∧ s5 = .int .u32 (oft g a0) ∧ s7 = .int .i64 j ∧ Below w.heap.size w wx)
      case atStart => exact ⟨0, by omega, rfl, rfl, B0⟩
      case round =>
        obtain ⟨j, hjg, rfl, rfl, hB⟩ := hrel
        cases gk with
        | zero =>
          have hlt2 : ¬ ((j : Int) < i) := by omega
          rw [kz]
          go_wp2_with (go_at_call 8; refine (alive_any _).mono ?_; rintro e wx ⟨rfl, hbx⟩; replace hB : Below w.heap.size w wx := hB.trans (hbx.mono hB.size); clear hbx)
          go_ret
          exact ⟨rfl, hB⟩
        | succ g =>
          have hlt2 : (j : Int) < i := by omega
          have ks := oft_sub g a0
          go_wp2_with (go_at_call 9; refine (do_sub _ _ b0 _).mono ?_; rintro e wx ⟨rfl, hbx⟩; replace hB : Below w.heap.size w wx := hB.trans (hbx.mono hB.size); clear hbx)
          go_roundg g
          case measure => omega
          case rel => exact ⟨j + 1, by omega, rfl, by go_num, hB⟩
    | succ g =>
      have hlt : (i : Int) < n := by omega
      have ka := oft_add i a0
      go_wp2_with (go_at_call 9; refine (do_add _ _ b0 _).mono ?_; rintro e wx ⟨rfl, hbx⟩; replace hB : Below w.heap.size w wx := hB.trans (hbx.mono hB.size); clear hbx)
      go_roundg g
      case measure => omega
      case rel => exact ⟨i + 1, by omega, rfl, by go_num, hB⟩

set_option maxRecDepth 100000 in
theorem lifted (os : Os) (started : os.Started) (H : Type) (enc : TypeId × Value → H) :
    ReturnsInHanded {} Try.checked os 4 .any (Rows.unitsOftenSpec.pre6 enc Try.prog Try.f4 Rows.unitsOftenRow.domain false) (Rows.unitsOftenSpec.post enc Try.prog Try.f4 false true false false) := by
  refine returnsInHanded_of_change (C := Try.checked) own started (by kernel_rfl) Try.func4
    (ChangeSpec.witness6 (enc := enc) (C := Try.checked) false ⟨#[], #[.int .u32 0, .int .u8 0], []⟩ 8 (by kernel_rfl) (by kernel_rfl) (by kernel_rfl) (by kernel_rfl)) ?_
  intro W base args ds gs before hval0 hW hcnd _
  have hval : ∀ (j : Nat) t v, Try.f4.params[j]? = some t → args[j]? = some v → Value.okWide Try.prog W .any base t v := hval0
  have hW' := hW
  obtain ⟨p, q, hA0, hV, rfl, hfz, hnd⟩ := hW
  have hA : DataW.TrodAll enc Try.prog W 0 (fun _ => true) true Try.f4.params.toList args.toList ds p := hA0
  rw [Try.params4] at hA hval
  obtain ⟨v0, vs0, d0, ds0, p0, q0, hargs, rfl, rfl, h0, r0⟩ := trodAll_cons hA
  obtain ⟨v1, vs1, d1, ds1, p1, q1, rfl, rfl, rfl, h1, r1⟩ := trodAll_cons r0
  obtain ⟨rfl, rfl, rfl⟩ := trodAll_nil r1
  obtain rfl : args = #[v0, v1] := by cases args; simp_all
  obtain ⟨rfl, rfl⟩ := trodVars_none hV
  obtain ⟨a0, rfl, rfl, rfl, w0⟩ := open_int Try.underlying23 (hval 0 23 v0 rfl rfl) h0
  obtain ⟨a1, rfl, rfl, rfl, w1⟩ := open_int Try.underlying5 (hval 1 5 v1 rfl rfl) h1
  clear hA0 hval0
  simp only [List.append_nil] at hW'
  refine (walk a0 a1 w0 w1 W).mono fun e W' ⟨he, hg⟩ => ?_
  subst he
  exact ⟨_, rfl, _, _, _, [], _, [], hW', trodAll_mk1 (shut_bool Try.underlying4 _), (trodAll_cons_mk (shut_int Try.underlying23 w0) (trodAll_cons_mk (shut_int Try.underlying5 w1) trodAll_mk0)), rfl, hg.frame _, fun h => by cases h⟩

theorem over : Rows.unitsOftenRow.holds Try.pinned (OpenSpec.ofChange Rows.unitsOftenSpec) :=
  OpenClaim.holds_of_wide 4 Try.f4 rfl rfl rfl rfl rfl rfl rfl ⟨rfl, rfl, rfl, rfl, rfl⟩ rfl rfl rfl rfl rfl (by kernel_rfl) Try.func4 (by kernel_rfl)
    (of_decide_eq_true (by kernel_rfl)) (by unfold Func.isWrapper; first | (rw [if_pos (by decide +kernel)]; kernel_rfl) | (rw [if_neg (by decide +kernel)]; exact ⟨rfl, rfl⟩))
    (fun os started H enc _ => lifted os started H enc)

theorem proved : Rows.UnitsOftenSaid :=
  over
end Go.Proofs.Ytdpjkpekafgfeab.unitsOften
namespace Go.Proofs.Ytdpjkpekafgfeab
/-- The given statement, whole. -/
theorem unitsOften_holds : Rows.UnitsOftenSaid := unitsOften.proved
#print axioms unitsOften_holds
end Go.Proofs.Ytdpjkpekafgfeab
