/-
  Proved: 'UnitsOrder' returns true for every two numbers of 32 bits: one is less than the other one, or they are the same, either way, and with the sign's bit turned in both the one way is the other one (P3.3, P3.2). No condition.
-/
import Derived.Test.YtdpjkpekafgfeaaRows
import Derived.WalkKit
import Derived.ProofKit
import Derived.OpenShut
import Derived.Test.YtdpjkpekafgfeaaOrder
namespace Go.Proofs.Ytdpjkpekafgfeaa.unitsOrder
open Go.ChangeShapes Go.WideShapes Go.ChangeAt Go.RowKit
set_option linter.unusedVariables false

theorem own : ownKnob Try.prog.godebug = none := by kernel_rfl

theorem turned (a : Int) (ha : num a) : bits .xor .u32 a 2147483648 = if a < 2147483648 then a + 2147483648 else a - 2147483648 := by
  unfold num at ha
  rw [u32_xor a 2147483648 ha.1 (by omega) (by decide) (by decide), show (2147483648 : Int).toNat = 2147483648 from rfl, xor_top _ (by omega)]
  split <;> split <;> omega
theorem sgn_is (a : Int) (ha : num a) : sgn a = if a < 2147483648 then a else a - 4294967296 := by unfold sgn; split <;> split <;> omega
/-- of two numbers just one of three holds, by either of both orders -/
theorem three (o a b : Int) (ha : num a) (hb : num b) (ho : o = 17 ∨ o = 18) :
    hov o a b = true ∧ hov o b a = false ∧ (a == b) = false ∨ hov o a b = false ∧ hov o b a = true ∧ (a == b) = false ∨ hov o a b = false ∧ hov o b a = false ∧ (a == b) = true := by
  unfold num at ha hb
  rcases ho with rfl | rfl
  · show decide (sgn a < sgn b) = true ∧ decide (sgn b < sgn a) = false ∧ _ ∨ decide (sgn a < sgn b) = false ∧ decide (sgn b < sgn a) = true ∧ _ ∨ decide (sgn a < sgn b) = false ∧ decide (sgn b < sgn a) = false ∧ _
    rw [sgn_is a ha, sgn_is b hb]
    simp only [decide_eq_true_iff, decide_eq_false_iff_not, beq_eq_false_iff_ne, beq_iff_eq, ne_eq]
    split <;> split <;> omega
  · show decide (a < b) = true ∧ decide (b < a) = false ∧ _ ∨ decide (a < b) = false ∧ decide (b < a) = true ∧ _ ∨ decide (a < b) = false ∧ decide (b < a) = false ∧ _
    simp only [decide_eq_true_iff, decide_eq_false_iff_not, beq_eq_false_iff_ne, beq_iff_eq, ne_eq]
    omega
set_option maxRecDepth 100000 in
set_option maxHeartbeats 4000000 in
theorem walk (a0 : Int) (a1 : Int) (w0 : (Lit.int .u32 a0).wf = true) (w1 : (Lit.int .u32 a1).wf = true) (w : World) :
    Calls Try.prog 8 #[.int .u32 a0, .int .u32 a1] w fun e w' => e = .returned (.bool true) ∧ Below w.heap.size w w' := by
  have b0 : num a0 := bounds_u32 w0
  have b1 : num a1 := bounds_u32 w1
  have l0 : num 0 := ⟨by decide, by decide⟩
  obtain ⟨xa, hxa⟩ : ∃ x, bits .xor .u32 a0 2147483648 = x := ⟨_, rfl⟩
  obtain ⟨xb, hxb⟩ : ∃ x, bits .xor .u32 a1 2147483648 = x := ⟨_, rfl⟩
  have fa := turned a0 b0
  have fb := turned a1 b1
  rw [hxa] at fa
  rw [hxb] at fb
  have na : num xa := by unfold num at b0 ⊢; rw [fa]; split <;> omega
  have nb : num xb := by unfold num at b1 ⊢; rw [fb]; split <;> omega
  have k1 : belowh xa xb = lessh a0 a1 := by
    unfold belowh lessh
    rw [sgn_is a0 b0, sgn_is a1 b1, fa, fb, decide_eq_decide]
    unfold num at b0 b1
    split <;> split <;> omega
  have k2 : lessh a0 0 = (a0 / 2147483648 == 1) := by
    unfold lessh
    rw [sgn_is a0 b0, sgn_is 0 l0, Bool.eq_iff_iff]
    simp only [decide_eq_true_iff, beq_iff_eq]
    unfold num at b0
    split <;> split <;> omega
  have k3 : lessh a0 a1 = decide (sgn a0 < sgn a1) := rfl
  have k4 : otherh a0 a1 = !(a0 == a1) := rfl
  have c17 := three 17 a0 a1 b0 b1 (Or.inl rfl)
  have c18 := three 18 a0 a1 b0 b1 (Or.inr rfl)
  clear fa fb
  obtain ⟨s, hsE⟩ : ∃ s, (a0 == a1) = s := ⟨_, rfl⟩
  rw [hsE] at c17 c18 k4
  have H17 : Hid _ := c17
  have H18 : Hid _ := c18
  clear c17 c18
  have hs : ∀ W, Calls Try.prog 15 #[.int .u8 15, .int .u32 a0, .int .u32 a1] W fun e w' => e = .returned (.bool s) ∧ Below W.heap.size W w' := by rw [← hsE]; exact holds_same a0 a1 b0 b1
  have HS : Hid ((a0 == a1) = s) := hsE
  clear hsE
  go_enter Try.func8, Try.ntmps8
  go_wp2_with (go_at_call_of 15 (Value.int IntKind.u8 15); refine (hs _).mono ?_; rintro e wy ⟨rfl, hby⟩)
  have HO0 : OpsAt wy w.heap.size [17, 18] := by
    have h0 : OpsAt (w.alloc (.cells #[.int .u8 17, .int .u8 18] 22)) w.heap.size [17, 18] := ⟨by rw [alloc_size]; omega, fun j x hx => by
      rcases j with _ | _ | j
      · obtain rfl : (17 : Int) = x := by simpa using hx
        simp [go_sem]
      · obtain rfl : (18 : Int) = x := by simpa using hx
        simp [go_sem]
      · simp at hx⟩
    exact h0.on hby
  have B0 : Below w.heap.size w wy := ((Below.refl _ _).alloc (Nat.le_refl _) _).trans (hby.mono (by rw [alloc_size]; omega))
  clear hby
  go_loopg [7] 2 (fun g s7 wx => ∃ i : Nat, i + g = 2 ∧ s7 = .int .i64 i ∧ Below w.heap.size w wx ∧ Hid (OpsAt wx w.heap.size [17, 18]))
  case atStart => exact ⟨0, rfl, rfl, B0, HO0⟩
  case round =>
    obtain ⟨i, hig, rfl, hB, HO⟩ := hrel
    cases gk with
    | zero =>
      have hl2 : ¬ ((i : Int) < 2) := by omega
      clear HO hs
      have hsE := HS.out
      go_wp2_with (first
        | (go_at_call 14; refine (alive_any _).mono ?_; rintro e wx ⟨rfl, hbx⟩; replace hB : Below w.heap.size w wx := hB.trans (hbx.mono hB.size); clear hbx)
        | (go_at_call_of 15 (Value.int IntKind.u8 16); refine (holds_other _ _ b0 b1 _).mono ?_; rintro e wx ⟨rfl, hbx⟩; replace hB : Below w.heap.size w wx := hB.trans (hbx.mono hB.size); clear hbx)
        | (go_at_call_of 15 (Value.int IntKind.u32 0); refine (holds_less _ _ b0 l0 _).mono ?_; rintro e wx ⟨rfl, hbx⟩; replace hB : Below w.heap.size w wx := hB.trans (hbx.mono hB.size); clear hbx)
        | (go_at_call_of 15 (Value.int IntKind.u8 17); refine (holds_less _ _ b0 b1 _).mono ?_; rintro e wx ⟨rfl, hbx⟩; replace hB : Below w.heap.size w wx := hB.trans (hbx.mono hB.size); clear hbx)
        | (go_at_call_of 15 (Value.int IntKind.u8 18); refine (holds_below _ _ na nb _).mono ?_; rintro e wx ⟨rfl, hbx⟩; replace hB : Below w.heap.size w wx := hB.trans (hbx.mono hB.size); clear hbx)
        | (go_at_call_of 16 (Value.int IntKind.u32 a0); refine (Signed_any _ _ b0).mono ?_; rintro e w' ⟨rfl, rfl⟩)
        | (go_at_call_of 16 (Value.int IntKind.u32 a1); refine (Signed_any _ _ b1).mono ?_; rintro e w' ⟨rfl, rfl⟩))
      go_ret
      exact ⟨rfl, hB⟩
    | succ g =>
      have hl2 : (i : Int) < 2 := by omega
      clear hxa hxb na nb k1 k2 k3 k4 hs
      obtain ⟨o, hx, h3⟩ : ∃ o : Int, ([17, 18] : List Int)[i]? = some o ∧ (hov o a0 a1 = true ∧ hov o a1 a0 = false ∧ s = false ∨ hov o a0 a1 = false ∧ hov o a1 a0 = true ∧ s = false ∨ hov o a0 a1 = false ∧ hov o a1 a0 = false ∧ s = true) := by
        obtain rfl | rfl : i = 0 ∨ i = 1 := by omega
        · exact ⟨17, rfl, H17.out⟩
        · exact ⟨18, rfl, H18.out⟩
      have hc := HO.out.at_ i o hx
      have hlt := HO.out.lt
      clear hx
      rcases h3 with ⟨e1, e2, rfl⟩ | ⟨e1, e2, rfl⟩ | ⟨e1, e2, rfl⟩
      all_goals
        go_wp2_with (go_at_call 15; refine (holds_any _ _ _ (by assumption) (by assumption) _).mono ?_; rintro e wx ⟨rfl, hbx⟩; replace hB : Below w.heap.size w wx := hB.trans (hbx.mono hB.size); replace hc : wx.cell? ⟨w.heap.size, i, none⟩ = some (.int .u8 o) := (by rw [(bcell hbx).1 _ _ hlt]; exact hc); replace hlt : w.heap.size < wx.heap.size := Nat.lt_of_lt_of_le hlt hbx.size; replace HO : Hid (OpsAt wx w.heap.size [17, 18]) := HO.out.on hbx; clear hbx)
        go_roundg g
        case measure => omega
        case rel => exact ⟨i + 1, by omega, by go_num, hB, HO⟩

set_option maxRecDepth 100000 in
theorem lifted (os : Os) (started : os.Started) (H : Type) (enc : TypeId × Value → H) :
    ReturnsInHanded {} Try.checked os 8 .any (Rows.unitsOrderSpec.pre6 enc Try.prog Try.f8 Rows.unitsOrderRow.domain false) (Rows.unitsOrderSpec.post enc Try.prog Try.f8 false true false false) := by
  refine returnsInHanded_of_change (C := Try.checked) own started (by kernel_rfl) Try.func8
    (ChangeSpec.witness6 (enc := enc) (C := Try.checked) false ⟨#[], #[.int .u32 0, .int .u32 0], []⟩ 8 (by kernel_rfl) (by kernel_rfl) (by kernel_rfl) (by kernel_rfl)) ?_
  intro W base args ds gs before hval0 hW hcnd _
  have hval : ∀ (j : Nat) t v, Try.f8.params[j]? = some t → args[j]? = some v → Value.okWide Try.prog W .any base t v := hval0
  have hW' := hW
  obtain ⟨p, q, hA0, hV, rfl, hfz, hnd⟩ := hW
  have hA : DataW.TrodAll enc Try.prog W 0 (fun _ => true) true Try.f8.params.toList args.toList ds p := hA0
  rw [Try.params8] at hA hval
  obtain ⟨v0, vs0, d0, ds0, p0, q0, hargs, rfl, rfl, h0, r0⟩ := trodAll_cons hA
  obtain ⟨v1, vs1, d1, ds1, p1, q1, rfl, rfl, rfl, h1, r1⟩ := trodAll_cons r0
  obtain ⟨rfl, rfl, rfl⟩ := trodAll_nil r1
  obtain rfl : args = #[v0, v1] := by cases args; simp_all
  obtain ⟨rfl, rfl⟩ := trodVars_none hV
  obtain ⟨a0, rfl, rfl, rfl, w0⟩ := open_int Try.underlying23 (hval 0 23 v0 rfl rfl) h0
  obtain ⟨a1, rfl, rfl, rfl, w1⟩ := open_int Try.underlying23 (hval 1 23 v1 rfl rfl) h1
  clear hA0 hval0
  simp only [List.append_nil] at hW'
  refine (walk a0 a1 w0 w1 W).mono fun e W' ⟨he, hg⟩ => ?_
  subst he
  exact ⟨_, rfl, _, _, _, [], _, [], hW', trodAll_mk1 (shut_bool Try.underlying4 _), (trodAll_cons_mk (shut_int Try.underlying23 w0) (trodAll_cons_mk (shut_int Try.underlying23 w1) trodAll_mk0)), rfl, hg.frame _, fun h => by cases h⟩

theorem over : Rows.unitsOrderRow.holds Try.pinned (OpenSpec.ofChange Rows.unitsOrderSpec) :=
  OpenClaim.holds_of_wide 8 Try.f8 rfl rfl rfl rfl rfl rfl rfl ⟨rfl, rfl, rfl, rfl, rfl⟩ rfl rfl rfl rfl rfl (by kernel_rfl) Try.func8 (by kernel_rfl)
    (of_decide_eq_true (by kernel_rfl)) (by unfold Func.isWrapper; first | (rw [if_pos (by decide +kernel)]; kernel_rfl) | (rw [if_neg (by decide +kernel)]; exact ⟨rfl, rfl⟩))
    (fun os started H enc _ => lifted os started H enc)

theorem proved : Rows.UnitsOrderSaid :=
  over
end Go.Proofs.Ytdpjkpekafgfeaa.unitsOrder
namespace Go.Proofs.Ytdpjkpekafgfeaa
/-- The given statement, whole. -/
theorem unitsOrder_holds : Rows.UnitsOrderSaid := unitsOrder.proved
#print axioms unitsOrder_holds
end Go.Proofs.Ytdpjkpekafgfeaa
