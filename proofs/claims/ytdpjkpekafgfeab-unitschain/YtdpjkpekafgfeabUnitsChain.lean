/-
  Proved: 'UnitsChain' returns true for every three numbers of 32 bits: the order goes on, either way, and the same are alike in all (P3.2, P3.3). No condition.
-/
import Derived.Test.YtdpjkpekafgfeabRows
import Derived.WalkKit
import Derived.ProofKit
import Derived.OpenShut
import Derived.Test.YtdpjkpekafgfeabOrder
namespace Go.Proofs.Ytdpjkpekafgfeab.unitsChain
open Go.ChangeShapes Go.WideShapes Go.ChangeAt Go.RowKit
set_option linter.unusedVariables false

theorem own : ownKnob Try.prog.godebug = none := by kernel_rfl

/-- the order goes on, and the same are alike -/
theorem goes_on (o a b c : Int) (ho : o = 17 ∨ o = 18 ∨ o = 15) :
    (hov o a b = true → hov o b c = true → hov o a c = true) ∧ (hov 15 a b = true → hov o a c = hov o b c) := by
  have e15 : ∀ x y, hov 15 x y = (x == y) := fun _ _ => rfl
  have e17 : ∀ x y, hov 17 x y = decide (sgn x < sgn y) := fun _ _ => rfl
  have e18 : ∀ x y, hov 18 x y = decide (x < y) := fun _ _ => rfl
  refine ⟨?_, fun h => ?_⟩
  · rcases ho with rfl | rfl | rfl
    · simp only [e17, decide_eq_true_iff]; omega
    · simp only [e18, decide_eq_true_iff]; omega
    · simp only [e15, beq_iff_eq]; omega
  · rw [e15, beq_iff_eq] at h
    rw [h]
set_option maxRecDepth 100000 in
set_option maxHeartbeats 8000000 in
theorem walk (a0 : Int) (a1 : Int) (a2 : Int) (w0 : (Lit.int .u32 a0).wf = true) (w1 : (Lit.int .u32 a1).wf = true) (w2 : (Lit.int .u32 a2).wf = true) (w : World) :
    Calls Try.prog 5 #[.int .u32 a0, .int .u32 a1, .int .u32 a2] w fun e w' => e = .returned (.bool true) ∧ Below w.heap.size w w' := by
  have b0 : num a0 := bounds_u32 w0
  have b1 : num a1 := bounds_u32 w1
  have b2 : num a2 := bounds_u32 w2
  have hca := @above_cell
  go_enter Try.func5, Try.ntmps5
  go_wp2
  have HO0 : OpsAt (w.alloc (.cells #[.int .u8 17, .int .u8 18, .int .u8 15] 22)) w.heap.size [17, 18, 15] := ⟨by rw [alloc_size]; omega, fun j x hx => by
      rcases j with _ | _ | _ | j
      · obtain rfl : (17 : Int) = x := by simpa using hx
        simp [go_sem]
      · obtain rfl : (18 : Int) = x := by simpa using hx
        simp [go_sem]
      · obtain rfl : (15 : Int) = x := by simpa using hx
        simp [go_sem]
      · simp at hx⟩
  go_loopg [8] 3 (fun g s8 wx => ∃ i : Nat, i + g = 3 ∧ s8 = .int .i64 i ∧ Below w.heap.size w wx ∧ Hid (OpsAt wx w.heap.size [17, 18, 15]))
  case atStart => exact ⟨0, rfl, rfl, (Below.refl _ _).alloc (Nat.le_refl _) _, HO0⟩
  case round =>
    obtain ⟨i, hig, rfl, hB, HO⟩ := hrel
    cases gk with
    | zero =>
      have hl3 : ¬ ((i : Int) < 3) := by omega
      clear HO hca
      go_wp2_with (go_at_call 8; refine (alive_any _).mono ?_; rintro e wx ⟨rfl, hbx⟩; replace hB : Below w.heap.size w wx := hB.trans (hbx.mono hB.size); clear hbx)
      go_ret
      exact ⟨rfl, hB⟩
    | succ g =>
      have hl3 : (i : Int) < 3 := by omega
      obtain ⟨o, hx, h1, h2⟩ : ∃ o : Int, ([17, 18, 15] : List Int)[i]? = some o ∧ (hov o a0 a1 = true → hov o a1 a2 = true → hov o a0 a2 = true) ∧ (hov 15 a0 a1 = true → hov o a0 a2 = hov o a1 a2) := by
        obtain rfl | rfl | rfl : i = 0 ∨ i = 1 ∨ i = 2 := by omega
        · exact ⟨17, rfl, goes_on 17 a0 a1 a2 (by simp)⟩
        · exact ⟨18, rfl, goes_on 18 a0 a1 a2 (by simp)⟩
        · exact ⟨15, rfl, goes_on 15 a0 a1 a2 (by simp)⟩
      have hc := HO.out.at_ i o hx
      have hlt := HO.out.lt
      clear hx
      rcases hp : hov o a0 a1 <;> rcases hq : hov o a1 a2 <;> rcases hr : hov o a0 a2 <;> rcases hs : hov 15 a0 a1 <;>
        first
        | (exfalso; have h3 := h1 hp hq; rw [hr] at h3; exact absurd h3 (by decide))
        | (exfalso; have h3 := h2 hs; rw [hr, hq] at h3; exact absurd h3 (by decide))
        | (clear h1 h2
           go_wp2_with (go_at_call 10; refine (holds_any _ _ _ (by assumption) (by assumption) _).mono ?_; rintro e wx ⟨rfl, hbx⟩; replace hB : Below w.heap.size w wx := hB.trans (hbx.mono hB.size); replace hc : wx.cell? ⟨w.heap.size, i, none⟩ = some (.int .u8 o) := (by rw [(bcell hbx).1 _ _ hlt]; exact hc); replace hlt : w.heap.size < wx.heap.size := Nat.lt_of_lt_of_le hlt hbx.size; replace HO : Hid (OpsAt wx w.heap.size [17, 18, 15]) := HO.out.on hbx; clear hbx)
           refine wp_region_calm (by kernel_rfl) (by kernel_rfl) ?_
           have hS := holds_any 15 a0 a1 b0 b1
           have hQ := holds_any o a1 a2 b1 b2
           have hR := holds_any o a0 a2 b0 b2
           rw [hs] at hS
           rw [hq] at hQ
           rw [hr] at hR
           repeat (go_big_quiet_step (first
             | (go_at_call_of 10 (Value.int IntKind.u8 15); exact calm_call (hS _))
             | (go_at_call_of 10 (Value.int IntKind.u32 a0); exact calm_call (hR _))
             | (go_at_call_of 10 (Value.int IntKind.u32 a1); exact calm_call (hQ _))))
           refine wpQuiet_nil ?_
           intro w3 hb3
           go_wp2
           go_roundg g
           case measure => omega
           case rel => exact ⟨i + 1, by omega, by go_num, hB.trans (hb3.mono hB.size), HO.out.on hb3⟩)

set_option maxRecDepth 100000 in
theorem lifted (os : Os) (started : os.Started) (H : Type) (enc : TypeId × Value → H) :
    ReturnsInHanded {} Try.checked os 5 .any (Rows.unitsChainSpec.pre6 enc Try.prog Try.f5 Rows.unitsChainRow.domain false) (Rows.unitsChainSpec.post enc Try.prog Try.f5 false true false false) := by
  refine returnsInHanded_of_change (C := Try.checked) own started (by kernel_rfl) Try.func5
    (ChangeSpec.witness6 (enc := enc) (C := Try.checked) false ⟨#[], #[.int .u32 0, .int .u32 0, .int .u32 0], []⟩ 8 (by kernel_rfl) (by kernel_rfl) (by kernel_rfl) (by kernel_rfl)) ?_
  intro W base args ds gs before hval0 hW hcnd _
  have hval : ∀ (j : Nat) t v, Try.f5.params[j]? = some t → args[j]? = some v → Value.okWide Try.prog W .any base t v := hval0
  have hW' := hW
  obtain ⟨p, q, hA0, hV, rfl, hfz, hnd⟩ := hW
  have hA : DataW.TrodAll enc Try.prog W 0 (fun _ => true) true Try.f5.params.toList args.toList ds p := hA0
  rw [Try.params5] at hA hval
  obtain ⟨v0, vs0, d0, ds0, p0, q0, hargs, rfl, rfl, h0, r0⟩ := trodAll_cons hA
  obtain ⟨v1, vs1, d1, ds1, p1, q1, rfl, rfl, rfl, h1, r1⟩ := trodAll_cons r0
  obtain ⟨v2, vs2, d2, ds2, p2, q2, rfl, rfl, rfl, h2, r2⟩ := trodAll_cons r1
  obtain ⟨rfl, rfl, rfl⟩ := trodAll_nil r2
  obtain rfl : args = #[v0, v1, v2] := by cases args; simp_all
  obtain ⟨rfl, rfl⟩ := trodVars_none hV
  obtain ⟨a0, rfl, rfl, rfl, w0⟩ := open_int Try.underlying23 (hval 0 23 v0 rfl rfl) h0
  obtain ⟨a1, rfl, rfl, rfl, w1⟩ := open_int Try.underlying23 (hval 1 23 v1 rfl rfl) h1
  obtain ⟨a2, rfl, rfl, rfl, w2⟩ := open_int Try.underlying23 (hval 2 23 v2 rfl rfl) h2
  clear hA0 hval0
  simp only [List.append_nil] at hW'
  refine (walk a0 a1 a2 w0 w1 w2 W).mono fun e W' ⟨he, hg⟩ => ?_
  subst he
  exact ⟨_, rfl, _, _, _, [], _, [], hW', trodAll_mk1 (shut_bool Try.underlying4 _), (trodAll_cons_mk (shut_int Try.underlying23 w0) (trodAll_cons_mk (shut_int Try.underlying23 w1) (trodAll_cons_mk (shut_int Try.underlying23 w2) trodAll_mk0))), rfl, hg.frame _, fun h => by cases h⟩

theorem over : Rows.unitsChainRow.holds Try.pinned (OpenSpec.ofChange Rows.unitsChainSpec) :=
  OpenClaim.holds_of_wide 5 Try.f5 rfl rfl rfl rfl rfl rfl rfl ⟨rfl, rfl, rfl, rfl, rfl⟩ rfl rfl rfl rfl rfl (by kernel_rfl) Try.func5 (by kernel_rfl)
    (of_decide_eq_true (by kernel_rfl)) (by unfold Func.isWrapper; first | (rw [if_pos (by decide +kernel)]; kernel_rfl) | (rw [if_neg (by decide +kernel)]; exact ⟨rfl, rfl⟩))
    (fun os started H enc _ => lifted os started H enc)

theorem proved : Rows.UnitsChainSaid :=
  over
end Go.Proofs.Ytdpjkpekafgfeab.unitsChain
namespace Go.Proofs.Ytdpjkpekafgfeab
/-- The given statement, whole. -/
theorem unitsChain_holds : Rows.UnitsChainSaid := unitsChain.proved
#print axioms unitsChain_holds
end Go.Proofs.Ytdpjkpekafgfeab
