/- 'ObjectsKeep' walked: a semaphore has never more than its most, nor fewer than none. -/
import Derived.Test.YteicnekoogmmmaaOArgs
namespace Go.Proofs.Yteicnekoogmmmaa
open Go Go.RowKit
set_option maxRecDepth 100000
set_option linter.unusedVariables false
theorem kp_take {w : World} {p f : Nat} {a b n : Int} (h : Sm w p f a b n) (hn : 0 < n) : Calls Try.prog 8 #[.pointer (some ⟨p, 0, none⟩), .int .u32 1, .agg #[.int .u8 3, .int .u32 0, .int .u32 0, .int .u32 0, .int .i64 0]] w fun e w' => e = .returned (.tuple #[.int .u32 0, .int .i64 0]) ∧ Sm w' p f a b (n - 1) ∧ Buts [f] w w' := by
  simpa [show ¬ n = 0 by omega] using sm_take h 1 0 0 0 0 (by decide)
theorem kp_none {w : World} {p f : Nat} {a b : Int} (h : Sm w p f a b 0) : Calls Try.prog 8 #[.pointer (some ⟨p, 0, none⟩), .int .u32 1, .agg #[.int .u8 3, .int .u32 0, .int .u32 0, .int .u32 0, .int .i64 0]] w fun e w' => e = .returned (.tuple #[.int .u32 0, .int .i64 7]) ∧ Sm w' p f a b 0 ∧ Buts [f] w w' := by
  simpa using sm_take h 1 0 0 0 0 (by decide)
theorem kp_give {w : World} {p f : Nat} {a b n : Int} (h : Sm w p f a b n) (hn : n < b) : Calls Try.prog 8 #[.pointer (some ⟨p, 0, none⟩), .int .u32 1, .agg #[.int .u8 4, .int .u32 0, .int .u32 0, .int .u32 0, .int .i64 0]] w fun e w' => e = .returned (.tuple #[.int .u32 0, .int .i64 0]) ∧ Sm w' p f a b (n + 1) ∧ Buts [f] w w' := by
  simpa [show ¬ n = b by omega] using sm_give h 1 0 0 0 0 (by decide)
theorem kp_full {w : World} {p f : Nat} {a b : Int} (h : Sm w p f a b b) : Calls Try.prog 8 #[.pointer (some ⟨p, 0, none⟩), .int .u32 1, .agg #[.int .u8 4, .int .u32 0, .int .u32 0, .int .u32 0, .int .i64 0]] w fun e w' => e = .returned (.tuple #[.int .u32 0, .int .i64 10]) ∧ Sm w' p f a b b ∧ Buts [f] w w' := by
  simpa using sm_give h 1 0 0 0 0 (by decide)
set_option maxHeartbeats 8000000 in
theorem keep_law {sp : Option Addr} {zs : List Bool} {w : World} (hs : BoSrc w.heap.size w sp zs) (hl : zs.length ≤ maxLen) (cap : Nat) (a b : Int) (ha : 0 ≤ a ∧ a ≤ 4294967295) (hb : 0 ≤ b ∧ b ≤ 4294967295) :
    Calls Try.prog 3 #[.int .u32 a, .int .u32 b, .slice sp zs.length cap] w fun e w' => e = .returned (.bool true) ∧ Below w.heap.size w w' := by
  unfold maxLen at hl
  obtain ⟨q, hq⟩ : ∃ q, zs.length = q := ⟨_, rfl⟩
  rw [hq] at hl ⊢
  have HQ : Hid (zs.length = q) := hq
  have HS : Hid (BoSrc w.heap.size w sp zs) := hs
  clear hq hs
  by_cases hm : May 1 a b
  · have hm' : a ≤ b ∧ 1 ≤ b ∧ b ≤ 1073741824 := by unfold May at hm; omega
    have HN := new_sem (w := w) (a := a) (b := b) ⟨ha.1, hm'⟩
    clear hm ha
    by_cases hbig : 300 < q
    · clear hm' hb
      go_enter Try.func3, Try.ntmps3
      go_wp2_with (first
        | (go_at_call 6; refine HN.mono ?_; rintro e w1 ⟨p, f, rfl, hx, hp, hf, hB⟩; clear hx hp hf)
        | (go_at_call 7; refine (lives_any _).mono ?_; rintro e w2 ⟨rfl, hb2⟩))
      go_ret
      exact ⟨rfl, hB.trans (hb2.mono hB.size)⟩
    · have hsm : ¬ (300 : Int) < (q : Int) := by omega
      go_enter Try.func3, Try.ntmps3
      go_wp2_with (first
        | (go_at_call 6; refine HN.mono ?_; rintro e w1 ⟨p, f, rfl, hx, hp, hf, hB⟩; have H1 : Hid (Sm w1 p f a b a) := hx; have HF : Hid (w.heap.size ≤ f) := hf; clear hx hp hf HN))
      go_loopg [9, 10] q (fun g s9 s10 wx => ∃ (i : Nat) (n : Int), i + g = q ∧ s10 = .int .i64 i ∧ s9 = .int .u32 n ∧ Hid (Sm wx p f a b n) ∧ Below w.heap.size w wx)
      case atStart => exact ⟨0, a, by omega, rfl, rfl, H1, hB⟩
      case round =>
        clear H1 hB
        obtain ⟨i, n, hig, rfl, rfl, HA, hB⟩ := hrel
        have hlo := HA.out.lo
        have hhi := HA.out.hi
        cases gk with
        | zero =>
          obtain rfl : i = q := by omega
          have hlt : ¬ ((i : Int) < i) := by omega
          go_wp2_with (first | (go_at_call 7; refine (lives_any _).mono ?_; rintro e w2 ⟨rfl, hb2⟩))
          go_ret
          exact ⟨rfl, hB.trans (hb2.mono hB.size)⟩
        | succ g =>
          have hfd := field_count
          have hlt : (i : Int) < q := by omega
          obtain ⟨bb, off, rfl, hbl, hc⟩ := HS.out.spot (by rw [HQ.out]; omega)
          have hz := (hB.cell (p := ⟨bb, off + i, none⟩) hbl).trans (hc i (by rw [HQ.out]; omega))
          clear hc
          generalize zs.getD i false = z at *
          cases z
          · by_cases hf : n = b
            · subst hf
              have hno : ¬ (n < n) := by omega
              go_wp2_with (first
                | (go_at_call 8; refine (kp_full HA.out).mono ?_; rintro e w2 ⟨rfl, hx, hb2⟩; have H2 : Hid (Sm w2 p f a n n) := hx; have HSee := sm_see hx; replace hB := hB.trans (one_below hb2 HF.out hB.size); clear hx hb2)
                | (go_at_call 9; refine HSee.mono ?_; rintro e w3 ⟨s1, n1, c1, s2, n2, c2, he, hr, ho, hb3⟩; unfold seec at he; subst he; have H3 : Hid (Sm w3 p f a n n) := H2.out.below hb3; replace hB := hB.trans (hb3.mono hB.size); clear hr ho hb3 HSee))
              go_roundg g
              case measure => omega
              case rel => exact ⟨i + 1, n, by omega, by go_num, rfl, H3, hB⟩
            · have hyes : n < b := by omega
              go_wp2_with (first
                | (go_at_call 8; refine (kp_give HA.out hyes).mono ?_; rintro e w2 ⟨rfl, hx, hb2⟩; have H2 : Hid (Sm w2 p f a b (n + 1)) := hx; have HSee := sm_see hx; replace hB := hB.trans (one_below hb2 HF.out hB.size); clear hx hb2)
                | (go_at_call 9; refine HSee.mono ?_; rintro e w3 ⟨s1, n1, c1, s2, n2, c2, he, hr, ho, hb3⟩; unfold seec at he; subst he; have H3 : Hid (Sm w3 p f a b (n + 1)) := H2.out.below hb3; replace hB := hB.trans (hb3.mono hB.size); clear hr ho hb3 HSee))
              go_roundg g
              case measure => omega
              case rel => exact ⟨i + 1, n + 1, by omega, by go_num, by go_num, H3, hB⟩
          · by_cases hf : n = 0
            · subst hf
              go_wp2_with (first
                | (go_at_call 8; refine (kp_none HA.out).mono ?_; rintro e w2 ⟨rfl, hx, hb2⟩; have H2 : Hid (Sm w2 p f a b 0) := hx; have HSee := sm_see hx; replace hB := hB.trans (one_below hb2 HF.out hB.size); clear hx hb2)
                | (go_at_call 9; refine HSee.mono ?_; rintro e w3 ⟨s1, n1, c1, s2, n2, c2, he, hr, ho, hb3⟩; unfold seec at he; subst he; have H3 : Hid (Sm w3 p f a b 0) := H2.out.below hb3; replace hB := hB.trans (hb3.mono hB.size); clear hr ho hb3 HSee))
              go_roundg g
              case measure => omega
              case rel => exact ⟨i + 1, 0, by omega, by go_num, rfl, H3, hB⟩
            · have hyes : 0 < n := by omega
              go_wp2_with (first
                | (go_at_call 8; refine (kp_take HA.out hyes).mono ?_; rintro e w2 ⟨rfl, hx, hb2⟩; have H2 : Hid (Sm w2 p f a b (n - 1)) := hx; have HSee := sm_see hx; replace hB := hB.trans (one_below hb2 HF.out hB.size); clear hx hb2)
                | (go_at_call 9; refine HSee.mono ?_; rintro e w3 ⟨s1, n1, c1, s2, n2, c2, he, hr, ho, hb3⟩; unfold seec at he; subst he; have H3 : Hid (Sm w3 p f a b (n - 1)) := H2.out.below hb3; replace hB := hB.trans (hb3.mono hB.size); clear hr ho hb3 HSee))
              go_roundg g
              case measure => omega
              case rel => exact ⟨i + 1, n - 1, by omega, by go_num, by go_num, H3, hB⟩
  · have HN := new_none (w := w) ha hb hm
    have hm' : ¬ (a ≤ b ∧ 1 ≤ b ∧ b ≤ 1073741824) := by unfold May at hm; omega
    clear hm
    by_cases h1 : b < a
    · clear hm'
      go_enter Try.func3, Try.ntmps3
      go_wp2_with (first
        | (go_at_call 6; refine HN.mono ?_; rintro e w1 ⟨rfl, hB⟩)
        | (go_at_call 7; refine (lives_any _).mono ?_; rintro e w2 ⟨rfl, hb2⟩))
      go_ret
      exact ⟨rfl, hB.trans (hb2.mono hB.size)⟩
    · by_cases h2 : b < 1
      · clear hm'
        go_enter Try.func3, Try.ntmps3
        go_wp2_with (first
          | (go_at_call 6; refine HN.mono ?_; rintro e w1 ⟨rfl, hB⟩)
          | (go_at_call 7; refine (lives_any _).mono ?_; rintro e w2 ⟨rfl, hb2⟩))
        go_ret
        exact ⟨rfl, hB.trans (hb2.mono hB.size)⟩
      · have h3 : 1073741824 < b := by omega
        clear hm'
        go_enter Try.func3, Try.ntmps3
        go_wp2_with (first
          | (go_at_call 6; refine HN.mono ?_; rintro e w1 ⟨rfl, hB⟩)
          | (go_at_call 7; refine (lives_any _).mono ?_; rintro e w2 ⟨rfl, hb2⟩))
        go_ret
        exact ⟨rfl, hB.trans (hb2.mono hB.size)⟩
end Go.Proofs.Yteicnekoogmmmaa
