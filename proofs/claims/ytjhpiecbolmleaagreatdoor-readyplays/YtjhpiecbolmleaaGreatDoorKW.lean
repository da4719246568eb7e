/- The statement's own 'want': an act with the document's queue. -/
import Derived.Test.YtjhpiecbolmleaaGreatDoorKTu
import Derived.Test.YtjhpiecbolmleaaGreatDoorKRm
namespace Go.Proofs.YtjhpiecbolmleaaGreatDoor
open Go Go.RowKit Go.Shelf
set_option maxRecDepth 100000
set_option linter.unusedVariables false
set_option linter.unusedSimpArgs false
set_option maxHeartbeats 4000000 in
theorem want_any {s : Nat} {w : World} {p : Nat} {X : Nat → List Int} (h : KS s w p X) (hX : Good X) (hl : ∀ r, r < 32 → (X r).length ≤ 256) (x : Int × Int × Int) (hx : 0 ≤ x.1 ∧ x.1 ≤ 255) :
    Calls Tryz.prog 8 #[.pointer (some ⟨p, 0, none⟩), .agg #[.int .u8 x.1, .int .i64 x.2.1, .int .i64 x.2.2]] w fun e w' => e = .returned (.int .i64 (doE X x)) ∧ KS s w' p (doX X x) ∧ Buts [p] w w' := by
  obtain ⟨k, z, r⟩ := x
  simp only at hx ⊢
  obtain ⟨k1, k2⟩ := hx
  have htm : k.tmod 5 = k % 5 := Int.tmod_eq_emod_of_nonneg k1
  obtain ⟨w1, hw1⟩ : ∃ w1, w.alloc (.cells #[.int .u8 k, .int .i64 z, .int .i64 r] 39) = w1 := ⟨_, rfl⟩
  have hq := h.below (alloc_below w (.cells #[.int .u8 k, .int .i64 z, .int .i64 r] 39))
  obtain ⟨c0, c1, c2⟩ := act_new w (.int .u8 k) (.int .i64 z) (.int .i64 r)
  have hm : Buts [p] w (w.alloc (.cells #[.int .u8 k, .int .i64 z, .int .i64 r] 39)) := Buts.of (alloc_below w _)
  rw [hw1] at hq c0 c1 c2 hm
  have HPu := kput_any hq hX hl z r
  have HPs := kpush_any hq hX hl z r
  have HRm := kremove_any hq hX hl z
  have HTu := kturn_any hq hl r
  obtain ⟨t, ht⟩ : ∃ t, k % 5 = t := ⟨_, rfl⟩
  have ht0 : 0 ≤ t ∧ t < 5 := by omega
  rw [ht] at htm
  clear h hq
  by_cases t2 : t = 2
  · have e1 : doE X (k, z, r) = adE X z r := by unfold doE; simp only; rw [if_pos (by omega)]
    have e2 : doX X (k, z, r) = pushX X z r := by unfold doX; simp only; rw [if_pos (by omega)]
    rw [e1, e2]
    subst t2
    clear e1 e2 HPu HRm HTu ht
    generalize adE X z r = v at *
    generalize pushX X z r = Y at *
    go_enter Tryz.func8, Tryz.ntmps8
    go_wp2_with (first | (go_at_call 23; refine HPs.mono ?_; rintro e w2 ⟨rfl, q2, m2⟩))
    go_ret
    exact ⟨rfl, q2, hm.trans m2⟩
  · by_cases t3 : t = 3
    · have e1 : doE X (k, z, r) = rmE X z := by unfold doE; simp only; rw [if_neg (by omega), if_pos (by omega)]
      have e2 : doX X (k, z, r) = rmX X z := by unfold doX; simp only; rw [if_neg (by omega), if_pos (by omega)]
      rw [e1, e2]
      subst t3
      clear e1 e2 HPu HPs HTu ht
      generalize rmE X z = v at *
      generalize rmX X z = Y at *
      go_enter Tryz.func8, Tryz.ntmps8
      go_wp2_with (first | (go_at_call 24; refine HRm.mono ?_; rintro e w2 ⟨rfl, q2, m2⟩))
      go_ret
      exact ⟨rfl, q2, hm.trans m2⟩
    · by_cases t4 : t = 4
      · have e1 : doE X (k, z, r) = tuE X r := by unfold doE; simp only; rw [if_neg (by omega), if_neg (by omega), if_pos (by omega)]
        have e2 : doX X (k, z, r) = tuX X r := by unfold doX; simp only; rw [if_neg (by omega), if_neg (by omega), if_pos (by omega)]
        rw [e1, e2]
        subst t4
        clear e1 e2 HPu HPs HRm ht
        generalize tuE X r = v at *
        generalize tuX X r = Y at *
        go_enter Tryz.func8, Tryz.ntmps8
        go_wp2_with (first | (go_at_call 25; refine HTu.mono ?_; rintro e w2 ⟨rfl, q2, m2⟩))
        go_ret
        exact ⟨rfl, q2, hm.trans m2⟩
      · have e1 : doE X (k, z, r) = adE X z r := by unfold doE; simp only; rw [if_neg (by omega), if_neg (by omega), if_neg (by omega)]
        have e2 : doX X (k, z, r) = putX X z r := by unfold doX; simp only; rw [if_neg (by omega), if_neg (by omega), if_neg (by omega)]
        rw [e1, e2]
        have n2 : (t == 2) = false := by simpa using t2
        have n3 : (t == 3) = false := by simpa using t3
        have n4 : (t == 4) = false := by simpa using t4
        clear e1 e2 HPs HRm HTu ht
        generalize adE X z r = v at *
        generalize putX X z r = Y at *
        go_enter Tryz.func8, Tryz.ntmps8
        go_wp2_with (first | (go_at_call 26; refine HPu.mono ?_; rintro e w2 ⟨rfl, q2, m2⟩))
        go_ret
        exact ⟨rfl, q2, hm.trans m2⟩
end Go.Proofs.YtjhpiecbolmleaaGreatDoor
