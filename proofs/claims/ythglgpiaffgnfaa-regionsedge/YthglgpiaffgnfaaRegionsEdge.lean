/-
  Proved: 'RegionsEdge' returns true for every number of 16 bits and every byte: the last place of a number is four ahead of the end, and places do not go round (P4.2, P4.3). No condition.
-/
import Derived.Test.YthglgpiaffgnfaaRows
import Derived.WalkKit
import Derived.ProofKit
import Derived.OpenShut
import Derived.Test.YthglgpiaffgnfaaAlive
namespace Go.Proofs.Ythglgpiaffgnfaa.regionsEdge
open Go Go.ChangeShapes Go.WideShapes Go.ChangeAt Go.RowKit
set_option linter.unusedVariables false

theorem own : ownKnob Try.prog.godebug = none := by kernel_rfl

def RegN (w : World) (p g n : Nat) : Prop := ∃ zs, zs.length = n ∧ Reg w p g zs
theorem new_n (w : World) (n : Nat) (hn : n ≤ 4096) :
    Calls Try.prog 14 #[.int .i64 n, .slice none 0 0] w fun e w' => ∃ p g, e = .returned (.tuple #[.pointer (some ⟨p, 0, none⟩), .int .i64 0]) ∧ RegN w' p g n ∧ Below w.heap.size w w' ∧ w.heap.size ≤ g :=
  (new_yes (zs := []) (Src.nil' 0) (Nat.zero_le _) 0 n hn (Nat.zero_le _)).mono fun e w' ⟨p, g, he, hr, hb, hg, _⟩ => ⟨p, g, he, ⟨_, by simp, hr⟩, hb, hg⟩
theorem word_n {w : World} {p g n : Nat} (h : RegN w p g n) (k : Int) (h0 : 0 ≤ k) (hk : k + 4 ≤ n) :
    Calls Try.prog 8 #[.pointer (some ⟨p, 0, none⟩), .int .u32 k] w fun e w' => ∃ v, e = .returned (.tuple #[.int .u32 v, .int .i64 0]) ∧ w' = w := by
  obtain ⟨zs, hl, hr⟩ := h
  obtain ⟨m, rfl⟩ := Int.eq_ofNat_of_zero_le h0
  exact (word_yes hr m (by omega)).mono fun e w' ⟨he, hw⟩ => ⟨_, he, hw⟩
theorem word_nn {w : World} {p g n : Nat} (h : RegN w p g n) (k : Int) (h0 : 0 ≤ k ∧ k ≤ 4294967295) (hk : n < k + 4) :
    Calls Try.prog 8 #[.pointer (some ⟨p, 0, none⟩), .int .u32 k] w fun e w' => e = .returned (.tuple #[.int .u32 0, .int .i64 4]) ∧ w' = w := by
  obtain ⟨zs, hl, hr⟩ := h
  exact word_no hr k h0 (by omega)
theorem byte_n {w : World} {p g n : Nat} (h : RegN w p g n) (k : Int) (h0 : 0 ≤ k) (hk : k < n) :
    Calls Try.prog 9 #[.pointer (some ⟨p, 0, none⟩), .int .u32 k] w fun e w' => ∃ v, e = .returned (.tuple #[.int .u8 v, .int .i64 0]) ∧ w' = w := by
  obtain ⟨zs, hl, hr⟩ := h
  obtain ⟨m, rfl⟩ := Int.eq_ofNat_of_zero_le h0
  exact (byte_yes hr m (by omega)).mono fun e w' ⟨he, hw⟩ => ⟨_, he, hw⟩
theorem byte_nn {w : World} {p g n : Nat} (h : RegN w p g n) (k : Int) (h0 : 0 ≤ k ∧ k ≤ 4294967295) (hk : n ≤ k) :
    Calls Try.prog 9 #[.pointer (some ⟨p, 0, none⟩), .int .u32 k] w fun e w' => e = .returned (.tuple #[.int .u8 0, .int .i64 4]) ∧ w' = w := by
  obtain ⟨zs, hl, hr⟩ := h
  exact byte_no hr k h0 (by omega)
theorem setWord_n {w : World} {p g n : Nat} (h : RegN w p g n) (k : Int) (h0 : 0 ≤ k) (hk : k + 4 ≤ n) :
    Calls Try.prog 10 #[.pointer (some ⟨p, 0, none⟩), .int .u32 k, .int .u32 1] w fun e w' => e = .returned (.int .i64 0) ∧ RegN w' p g n ∧ But g w w' := by
  obtain ⟨zs, hl, hr⟩ := h
  obtain ⟨m, rfl⟩ := Int.eq_ofNat_of_zero_le h0
  exact (setWord_yes hr m (by omega) 1 (by omega)).mono fun e w' ⟨he, hr', hb⟩ => ⟨he, ⟨_, by rw [length_splice _ _ _ (by show m + 4 ≤ _; omega)]; exact hl, hr'⟩, hb⟩
theorem setWord_nn {w : World} {p g n : Nat} (h : RegN w p g n) (k : Int) (h0 : 0 ≤ k ∧ k ≤ 4294967295) (hk : n < k + 4) :
    Calls Try.prog 10 #[.pointer (some ⟨p, 0, none⟩), .int .u32 k, .int .u32 1] w fun e w' => e = .returned (.int .i64 4) ∧ w' = w := by
  obtain ⟨zs, hl, hr⟩ := h
  exact setWord_no hr k h0 (by omega) 1
set_option maxRecDepth 100000 in
set_option maxHeartbeats 2000000 in
theorem walk (a0 : Int) (a1 : Int) (w0 : (Lit.int .u16 a0).wf = true) (w1 : (Lit.int .u8 a1).wf = true) (w : World) :
    Calls Try.prog 7 #[.int .u16 a0, .int .u8 a1] w fun e w' => e = .returned (.bool true) ∧ Below w.heap.size w w' := by
  have b0 := bounds_u16 w0
  have b1 := bounds_u8 w1
  clear w0 w1
  obtain ⟨n, hn⟩ : ∃ n : Nat, a0 % 4097 = (n : Int) := ⟨(a0 % 4097).toNat, by omega⟩
  have hn4 : n ≤ 4096 := by omega
  obtain ⟨k, hk⟩ : ∃ k : Int, (n : Int) - 8 + a1 % 16 = k := ⟨_, rfl⟩
  have hkb : (n : Int) - 8 ≤ k ∧ k ≤ n + 7 := by omega
  obtain ⟨m, hm⟩ : ∃ m : Int, a1 % 4 = m := ⟨_, rfl⟩
  have hmb : 0 ≤ m ∧ m ≤ 3 := by omega
  by_cases c0 : 0 ≤ k
  · by_cases c1 : k + 4 ≤ n
    · go_enter Try.func7, Try.ntmps7
      go_wp2_with (first
        | (go_at_call 14; refine (new_n _ n hn4).mono ?_; rintro e w1 ⟨p, g, rfl, hR, hB, hg⟩)
        | (go_at_call 8; refine (word_n hR _ (by omega) (by omega)).mono ?_; rintro e wx ⟨v, rfl, rfl⟩)
        | (go_at_call 8; refine (word_nn hR _ (by omega) (by omega)).mono ?_; rintro e wx ⟨rfl, rfl⟩)
        | (go_at_call 10; refine (setWord_n hR _ (by omega) (by omega)).mono ?_; rintro e w2 ⟨rfl, hR2, hb2⟩; replace hB := hB.trans (hb2.below hg hB.size); clear hb2 hR; have hR := hR2; clear hR2)
        | (go_at_call 9; refine (byte_n hR _ (by omega) (by omega)).mono ?_; rintro e wx ⟨v2, rfl, rfl⟩)
        | (go_at_call 13; refine (alive_any _).mono ?_; rintro e wx ⟨rfl, hb⟩; replace hB := hB.trans (hb.mono hB.size); clear hb))
      go_ret
      exact ⟨rfl, hB⟩
    · have d1 : decide (k + 4 ≤ (n : Int)) = false := by simpa using c1
      by_cases c2 : k < n
      · go_enter Try.func7, Try.ntmps7
        go_wp2_with (first
          | (go_at_call 14; refine (new_n _ n hn4).mono ?_; rintro e w1 ⟨p, g, rfl, hR, hB, hg⟩)
          | (go_at_call 8; refine (word_nn hR _ (by omega) (by omega)).mono ?_; rintro e wx ⟨rfl, rfl⟩)
          | (go_at_call 10; refine (setWord_nn hR _ (by omega) (by omega)).mono ?_; rintro e wx ⟨rfl, rfl⟩)
          | (go_at_call 9; refine (byte_n hR _ (by omega) (by omega)).mono ?_; rintro e wx ⟨v2, rfl, rfl⟩)
          | (go_at_call 13; refine (alive_any _).mono ?_; rintro e wx ⟨rfl, hb⟩; replace hB := hB.trans (hb.mono hB.size); clear hb))
        go_ret
        exact ⟨rfl, hB⟩
      · have d2 : decide (k < (n : Int)) = false := by simpa using c2
        go_enter Try.func7, Try.ntmps7
        go_wp2_with (first
          | (go_at_call 14; refine (new_n _ n hn4).mono ?_; rintro e w1 ⟨p, g, rfl, hR, hB, hg⟩)
          | (go_at_call 8; refine (word_nn hR _ (by omega) (by omega)).mono ?_; rintro e wx ⟨rfl, rfl⟩)
          | (go_at_call 10; refine (setWord_nn hR _ (by omega) (by omega)).mono ?_; rintro e wx ⟨rfl, rfl⟩)
          | (go_at_call 9; refine (byte_nn hR _ (by omega) (by omega)).mono ?_; rintro e wx ⟨rfl, rfl⟩)
          | (go_at_call 13; refine (alive_any _).mono ?_; rintro e wx ⟨rfl, hb⟩; replace hB := hB.trans (hb.mono hB.size); clear hb))
        go_ret
        exact ⟨rfl, hB⟩
  · go_enter Try.func7, Try.ntmps7
    go_wp2_with (first
      | (go_at_call 14; refine (new_n _ n hn4).mono ?_; rintro e w1 ⟨p, g, rfl, hR, hB, hg⟩)
      | (go_at_call 8; refine (word_nn hR _ (by omega) (by omega)).mono ?_; rintro e wx ⟨rfl, rfl⟩)
      | (go_at_call 10; refine (setWord_nn hR _ (by omega) (by omega)).mono ?_; rintro e wx ⟨rfl, rfl⟩)
      | (go_at_call 9; refine (byte_nn hR _ (by omega) (by omega)).mono ?_; rintro e wx ⟨rfl, rfl⟩)
      | (go_at_call 13; refine (alive_any _).mono ?_; rintro e wx ⟨rfl, hb⟩; replace hB := hB.trans (hb.mono hB.size); clear hb))
    go_ret
    exact ⟨rfl, hB⟩

set_option maxRecDepth 100000 in
theorem lifted (os : Os) (started : os.Started) (H : Type) (enc : TypeId × Value → H) :
    ReturnsInHanded {} Try.checked os 7 .any (Rows.regionsEdgeSpec.pre6 enc Try.prog Try.f7 Rows.regionsEdgeRow.domain false) (Rows.regionsEdgeSpec.post enc Try.prog Try.f7 false true false false) := by
  refine returnsInHanded_of_change (C := Try.checked) own started (by kernel_rfl) Try.func7
    (ChangeSpec.witness6 (enc := enc) (C := Try.checked) false ⟨#[], #[.int .u16 0, .int .u8 0], []⟩ 8 (by kernel_rfl) (by kernel_rfl) (by kernel_rfl) (by kernel_rfl)) ?_
  intro W base args ds gs before hval0 hW hcnd _
  have hval : ∀ (j : Nat) t v, Try.f7.params[j]? = some t → args[j]? = some v → Value.okWide Try.prog W .any base t v := hval0
  have hW' := hW
  obtain ⟨p, q, hA0, hV, rfl, hfz, hnd⟩ := hW
  have hA : DataW.TrodAll enc Try.prog W 0 (fun _ => true) true Try.f7.params.toList args.toList ds p := hA0
  rw [Try.params7] at hA hval
  obtain ⟨v0, vs0, d0, ds0, p0, q0, hargs, rfl, rfl, h0, r0⟩ := trodAll_cons hA
  obtain ⟨v1, vs1, d1, ds1, p1, q1, rfl, rfl, rfl, h1, r1⟩ := trodAll_cons r0
  obtain ⟨rfl, rfl, rfl⟩ := trodAll_nil r1
  obtain rfl : args = #[v0, v1] := by cases args; simp_all
  obtain ⟨rfl, rfl⟩ := trodVars_none hV
  obtain ⟨a0, rfl, rfl, rfl, w0⟩ := open_int Try.underlying45 (hval 0 45 v0 rfl rfl) h0
  obtain ⟨a1, rfl, rfl, rfl, w1⟩ := open_int Try.underlying5 (hval 1 5 v1 rfl rfl) h1
  clear hA0 hval0
  simp only [List.append_nil] at hW'
  refine (walk a0 a1 w0 w1 W).mono fun e W' ⟨he, hg⟩ => ?_
  subst he
  exact ⟨_, rfl, _, _, _, [], _, [], hW', trodAll_mk1 (shut_bool Try.underlying4 _), (trodAll_cons_mk (shut_int Try.underlying45 w0) (trodAll_cons_mk (shut_int Try.underlying5 w1) trodAll_mk0)), rfl, hg.frame _, fun h => by cases h⟩

theorem over : Rows.regionsEdgeRow.holds Try.pinned (OpenSpec.ofChange Rows.regionsEdgeSpec) :=
  OpenClaim.holds_of_wide 7 Try.f7 rfl rfl rfl rfl rfl rfl rfl ⟨rfl, rfl, rfl, rfl, rfl⟩ rfl rfl rfl rfl rfl (by kernel_rfl) Try.func7 (by kernel_rfl)
    (of_decide_eq_true (by kernel_rfl)) (by unfold Func.isWrapper; first | (rw [if_pos (by decide +kernel)]; kernel_rfl) | (rw [if_neg (by decide +kernel)]; exact ⟨rfl, rfl⟩))
    (fun os started H enc _ => lifted os started H enc)

theorem proved : Rows.RegionsEdgeSaid :=
  over
end Go.Proofs.Ythglgpiaffgnfaa.regionsEdge
namespace Go.Proofs.Ythglgpiaffgnfaa
/-- The given statement, whole. -/
theorem regionsEdge_holds : Rows.RegionsEdgeSaid := regionsEdge.proved
#print axioms regionsEdge_holds
end Go.Proofs.Ythglgpiaffgnfaa
