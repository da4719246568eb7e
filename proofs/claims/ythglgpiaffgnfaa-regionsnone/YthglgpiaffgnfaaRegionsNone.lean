/-
  Proved: 'RegionsNone' returns true for every place and every number: a region that is not there, or that no call made, answers nothing (P4.2 to P4.4, R3). No condition.
-/
import Derived.Test.YthglgpiaffgnfaaRows
import Derived.WalkKit
import Derived.ProofKit
import Derived.OpenShut
import Derived.Test.YthglgpiaffgnfaaAlive
namespace Go.Proofs.Ythglgpiaffgnfaa.regionsNone
open Go Go.ChangeShapes Go.WideShapes Go.ChangeAt Go.RowKit
set_option linter.unusedVariables false

theorem own : ownKnob Try.prog.godebug = none := by kernel_rfl

/-- what the list holds -/
structure Two (s : Nat) (w : World) : Prop where
  c0 : w.cell? ⟨s + 1, 0, none⟩ = some (.pointer none)
  c1 : w.cell? ⟨s + 1, 1, none⟩ = some (.pointer (some ⟨s, 0, none⟩))
  c2 : w.cell? ⟨s, 0, none⟩ = some (.bool false)
  c3 : w.cell? ⟨s, 1, none⟩ = some (.slice none 0 0)
  lt : s + 2 ≤ w.heap.size
theorem Two.below {s : Nat} {w w' : World} (h : Two s w) (hb : Below w.heap.size w w') : Two s w' :=
  have hl := h.lt
  ⟨(hb.cell (p := ⟨s + 1, 0, none⟩) (show s + 1 < _ by omega)).trans h.c0, (hb.cell (p := ⟨s + 1, 1, none⟩) (show s + 1 < _ by omega)).trans h.c1, (hb.cell (p := ⟨s, 0, none⟩) (show s < _ by omega)).trans h.c2, (hb.cell (p := ⟨s, 1, none⟩) (show s < _ by omega)).trans h.c3, Nat.le_trans hl hb.size⟩
set_option maxRecDepth 100000 in
set_option maxHeartbeats 2000000 in
theorem walk (a0 : Int) (a1 : Int) (w0 : (Lit.int .u32 a0).wf = true) (w1 : (Lit.int .u32 a1).wf = true) (w : World) :
    Calls Try.prog 3 #[.int .u32 a0, .int .u32 a1] w fun e w' => e = .returned (.bool true) ∧ Below w.heap.size w w' := by
  have hA := alloc_at w (.cells #[.bool false, .slice none 0 0] 26)
  have hb0 := alloc_below w (.cells #[.bool false, .slice none 0 0] 26)
  have hs0 := alloc_size w (.cells #[.bool false, .slice none 0 0] 26)
  go_enter Try.func3, Try.ntmps3
  go_wp2
  generalize w.alloc (.cells #[.bool false, .slice none 0 0] 26) = wa at *
  have hA2 := alloc_at wa (.cells #[.pointer none, .pointer (some ⟨w.heap.size, 0, none⟩)] 23)
  have hb1 := alloc_below wa (.cells #[.pointer none, .pointer (some ⟨w.heap.size, 0, none⟩)] 23)
  have hs1 := alloc_size wa (.cells #[.pointer none, .pointer (some ⟨w.heap.size, 0, none⟩)] 23)
  have hT : Two w.heap.size (wa.alloc (.cells #[.pointer none, .pointer (some ⟨w.heap.size, 0, none⟩)] 23)) := by
    have hc := (hb1.block w.heap.size (by omega)).trans hA
    rw [hs0] at hA2
    exact ⟨by rw [cell_of hA2]; rfl, by rw [cell_of hA2]; rfl, by rw [cell_of hc]; rfl, by rw [cell_of hc]; rfl, by omega⟩
  have hB0 : Below w.heap.size w (wa.alloc (.cells #[.pointer none, .pointer (some ⟨w.heap.size, 0, none⟩)] 23)) := hb0.trans (hb1.mono hb0.size)
  clear hA hb0 hA2 hb1 hs1
  generalize wa.alloc (.cells #[.pointer none, .pointer (some ⟨w.heap.size, 0, none⟩)] 23) = wb at *
  go_loopg [6] 2 (fun g s6 wx => ∃ i : Nat, i + g = 2 ∧ s6 = .int .i64 i ∧ Below w.heap.size w wx ∧ Hid (Two w.heap.size wx))
  case atStart => exact ⟨0, by omega, rfl, hB0, hT⟩
  case round =>
    clear hB0 hT
    obtain ⟨i, hig, rfl, hB, HT⟩ := hrel
    have hl : w.heap.size < wr.heap.size := by have := HT.out.lt; omega
    have c0 := HT.out.c0
    have c1 := HT.out.c1
    have c2 := HT.out.c2
    have c3 := HT.out.c3
    match gk, hig with
    | 0, hig =>
      obtain rfl : i = 2 := by omega
      go_wp2
      go_ret
      exact ⟨rfl, hB⟩
    | 1, hig =>
      obtain rfl : i = 1 := by omega
      go_wp2_with (first
        | (go_at_call 8; refine (word_zero c2 _).mono ?_; rintro e wx ⟨rfl, rfl⟩)
        | (go_at_call 9; refine (byte_zero c2 _).mono ?_; rintro e wx ⟨rfl, rfl⟩)
        | (go_at_call 10; refine (setWord_zero c2 _ _).mono ?_; rintro e wx ⟨rfl, rfl⟩)
        | (go_at_call 11; refine (setByte_zero c2 _ _).mono ?_; rintro e wx ⟨rfl, rfl⟩)
        | (go_at_call 12; refine (bytes_zero c3 hl).mono ?_; rintro e wx ⟨rfl, hbx⟩; replace hB := hB.trans (hbx.mono hB.size); replace HT : Hid (Two w.heap.size wx) := HT.out.below hbx))
      go_roundg 0
      case measure => omega
      case rel => exact ⟨2, by omega, rfl, hB, HT⟩
    | 2, hig =>
      obtain rfl : i = 0 := by omega
      go_wp2_with (first
        | (go_at_call 8; refine (word_nil _).mono ?_; rintro e wx ⟨rfl, rfl⟩)
        | (go_at_call 9; refine (byte_nil _).mono ?_; rintro e wx ⟨rfl, rfl⟩)
        | (go_at_call 10; refine (setWord_nil _ _).mono ?_; rintro e wx ⟨rfl, rfl⟩)
        | (go_at_call 11; refine (setByte_nil _ _).mono ?_; rintro e wx ⟨rfl, rfl⟩)
        | (go_at_call 12; refine bytes_nil.mono ?_; rintro e wx ⟨rfl, rfl⟩))
      go_roundg 1
      case measure => omega
      case rel => exact ⟨1, by omega, rfl, hB, HT⟩
    | g + 3, hig => omega

set_option maxRecDepth 100000 in
theorem lifted (os : Os) (started : os.Started) (H : Type) (enc : TypeId × Value → H) :
    ReturnsInHanded {} Try.checked os 3 .any (Rows.regionsNoneSpec.pre6 enc Try.prog Try.f3 Rows.regionsNoneRow.domain false) (Rows.regionsNoneSpec.post enc Try.prog Try.f3 false true false false) := by
  refine returnsInHanded_of_change (C := Try.checked) own started (by kernel_rfl) Try.func3
    (ChangeSpec.witness6 (enc := enc) (C := Try.checked) false ⟨#[], #[.int .u32 0, .int .u32 0], []⟩ 8 (by kernel_rfl) (by kernel_rfl) (by kernel_rfl) (by kernel_rfl)) ?_
  intro W base args ds gs before hval0 hW hcnd _
  have hval : ∀ (j : Nat) t v, Try.f3.params[j]? = some t → args[j]? = some v → Value.okWide Try.prog W .any base t v := hval0
  have hW' := hW
  obtain ⟨p, q, hA0, hV, rfl, hfz, hnd⟩ := hW
  have hA : DataW.TrodAll enc Try.prog W 0 (fun _ => true) true Try.f3.params.toList args.toList ds p := hA0
  rw [Try.params3] at hA hval
  obtain ⟨v0, vs0, d0, ds0, p0, q0, hargs, rfl, rfl, h0, r0⟩ := trodAll_cons hA
  obtain ⟨v1, vs1, d1, ds1, p1, q1, rfl, rfl, rfl, h1, r1⟩ := trodAll_cons r0
  obtain ⟨rfl, rfl, rfl⟩ := trodAll_nil r1
  obtain rfl : args = #[v0, v1] := by cases args; simp_all
  obtain ⟨rfl, rfl⟩ := trodVars_none hV
  obtain ⟨a0, rfl, rfl, rfl, w0⟩ := open_int Try.underlying22 (hval 0 22 v0 rfl rfl) h0
  obtain ⟨a1, rfl, rfl, rfl, w1⟩ := open_int Try.underlying22 (hval 1 22 v1 rfl rfl) h1
  clear hA0 hval0
  simp only [List.append_nil] at hW'
  refine (walk a0 a1 w0 w1 W).mono fun e W' ⟨he, hg⟩ => ?_
  subst he
  exact ⟨_, rfl, _, _, _, [], _, [], hW', trodAll_mk1 (shut_bool Try.underlying4 _), (trodAll_cons_mk (shut_int Try.underlying22 w0) (trodAll_cons_mk (shut_int Try.underlying22 w1) trodAll_mk0)), rfl, hg.frame _, fun h => by cases h⟩

theorem over : Rows.regionsNoneRow.holds Try.pinned (OpenSpec.ofChange Rows.regionsNoneSpec) :=
  OpenClaim.holds_of_wide 3 Try.f3 rfl rfl rfl rfl rfl rfl rfl ⟨rfl, rfl, rfl, rfl, rfl⟩ rfl rfl rfl rfl rfl (by kernel_rfl) Try.func3 (by kernel_rfl)
    (of_decide_eq_true (by kernel_rfl)) (by unfold Func.isWrapper; first | (rw [if_pos (by decide +kernel)]; kernel_rfl) | (rw [if_neg (by decide +kernel)]; exact ⟨rfl, rfl⟩))
    (fun os started H enc _ => lifted os started H enc)

theorem proved : Rows.RegionsNoneSaid :=
  over
end Go.Proofs.Ythglgpiaffgnfaa.regionsNone
namespace Go.Proofs.Ythglgpiaffgnfaa
/-- The given statement, whole. -/
theorem regionsNone_holds : Rows.RegionsNoneSaid := regionsNone.proved
#print axioms regionsNone_holds
end Go.Proofs.Ythglgpiaffgnfaa
