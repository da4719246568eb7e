/- What the functions of package ready answer, for every queue, everybody and every rank. -/
import Derived.Test.YtjhpiecbolmleaaGreatDoorRWho
namespace Go.Proofs.YtjhpiecbolmleaaGreatDoor
open Go Go.RowKit Go.Shelf
set_option maxRecDepth 100000
set_option linter.unusedVariables false
set_option linter.unusedSimpArgs false
theorem some_yes (z : Int) (w : World) (h : 0 ≤ z ∧ z ≤ 255) : Calls Tryz.prog 98 #[.int .i64 z] w fun e w' => e = .returned (.bool true) ∧ w = w' := by
  obtain ⟨h1, h2⟩ := h
  have h3 : z < 256 := by omega
  go_enter Tryz.func98, Tryz.ntmps98
  go_wp2
  all_goals
    go_ret
    refine ⟨?_, rfl⟩
    simp
    try omega
theorem some_no (z : Int) (w : World) (h : ¬ (0 ≤ z ∧ z ≤ 255)) : Calls Tryz.prog 98 #[.int .i64 z] w fun e w' => e = .returned (.bool false) ∧ w = w' := by
  go_enter Tryz.func98, Tryz.ntmps98
  go_wp2
  all_goals
    go_ret
    refine ⟨?_, rfl⟩
    simp
    try omega
set_option maxHeartbeats 4000000 in
theorem qmay_any {B s : Nat} {w : World} {p : Nat} {X : Nat → List Int} (h : QS B s w p X) (z r : Int) :
    Calls Tryz.prog 84 #[.pointer (some ⟨p, 0, none⟩), .int .i64 z, .int .i64 r] w fun e w' => e = .returned (.int .i64 (adE X z r)) ∧ Below w.heap.size w w' := by
  have hR := qrank_any h z
  have hp0 : ∃ a, w.cell? ⟨p, 0, none⟩ = some (.pointer (some ⟨a, 0, none⟩)) := by
    obtain ⟨hp, hg, l, hQ, _⟩ := h
    exact ⟨_, hQ.row (r := 0) (by omega)⟩
  obtain ⟨a, hp0⟩ := hp0
  by_cases h1 : 0 ≤ z ∧ z ≤ 255
  · by_cases h2 : 0 ≤ r ∧ r ≤ 31
    · have hS := fun w => some_yes z w h1
      have hK := fun w => isRank_yes r w h2
      cases hb : rkb X z with
      | true =>
        have he : adE X z r = 7 := by unfold adE; rw [if_neg (by omega), hb]; rfl
        rw [he]
        rw [hb] at hR
        generalize rkv X z = rv at *
        clear h h1 h2 he hb
        go_enter Tryz.func84, Tryz.ntmps84
        go_wp2_with (first
          | (go_at_call 27; refine (qthere_yes hp0).mono ?_; rintro e wx ⟨rfl, rfl⟩)
          | (go_at_call 98; refine (hS _).mono ?_; rintro e wx ⟨rfl, rfl⟩)
          | (go_at_call 58; refine (hK _).mono ?_; rintro e wx ⟨rfl, rfl⟩)
          | (go_at_call 11; refine hR.mono ?_; rintro e wx ⟨rfl, hb⟩))
        go_ret
        exact ⟨rfl, hb⟩
      | false =>
        have he : adE X z r = 0 := by unfold adE; rw [if_neg (by omega), hb]; rfl
        rw [he]
        rw [hb] at hR
        generalize rkv X z = rv at *
        clear h h1 h2 he hb
        go_enter Tryz.func84, Tryz.ntmps84
        go_wp2_with (first
          | (go_at_call 27; refine (qthere_yes hp0).mono ?_; rintro e wx ⟨rfl, rfl⟩)
          | (go_at_call 98; refine (hS _).mono ?_; rintro e wx ⟨rfl, rfl⟩)
          | (go_at_call 58; refine (hK _).mono ?_; rintro e wx ⟨rfl, rfl⟩)
          | (go_at_call 11; refine hR.mono ?_; rintro e wx ⟨rfl, hb⟩))
        go_ret
        exact ⟨rfl, hb⟩
    · have hS := fun w => some_yes z w h1
      have hK := fun w => isRank_no r w h2
      have he : adE X z r = 1 := by unfold adE; rw [if_pos (by omega)]
      rw [he]
      clear h h1 h2 he hR
      go_enter Tryz.func84, Tryz.ntmps84
      go_wp2_with (first
        | (go_at_call 27; refine (qthere_yes hp0).mono ?_; rintro e wx ⟨rfl, rfl⟩)
        | (go_at_call 98; refine (hS _).mono ?_; rintro e wx ⟨rfl, rfl⟩)
        | (go_at_call 58; refine (hK _).mono ?_; rintro e wx ⟨rfl, rfl⟩))
      go_ret
      exact ⟨rfl, Below.refl _ _⟩
  · have hS := fun w => some_no z w h1
    have he : adE X z r = 1 := by unfold adE; rw [if_pos (by omega)]
    rw [he]
    clear h h1 he hR
    go_enter Tryz.func84, Tryz.ntmps84
    go_wp2_with (first
      | (go_at_call 27; refine (qthere_yes hp0).mono ?_; rintro e wx ⟨rfl, rfl⟩)
      | (go_at_call 98; refine (hS _).mono ?_; rintro e wx ⟨rfl, rfl⟩))
    go_ret
    exact ⟨rfl, Below.refl _ _⟩
theorem qmay_nil {w : World} (z r : Int) : Calls Tryz.prog 84 #[.pointer none, .int .i64 z, .int .i64 r] w fun e w' => e = .returned (.int .i64 2) ∧ w = w' := by
  go_enter Tryz.func84, Tryz.ntmps84
  go_wp2_with (first | (go_at_call 27; refine (qthere_nil).mono ?_; rintro e wx ⟨rfl, rfl⟩))
  go_ret
  exact ⟨rfl, rfl⟩
/-- what an added one leaves behind -/
theorem QS.added {B s : Nat} {w1 w2 : World} {p : Nat} {hp hg : Nat → Nat} {X : Nat → List Int} {l : Nat} (hQ : Que w1 p hp hg X l) (hs : s ≤ w1.heap.size) (h2 : B ≤ p ∧ p < s) (h4 : ∀ r, r < 32 → B ≤ hp r ∧ hp r < s ∧ B ≤ hg r ∧ hg r < s)
    {k : Nat} (hk : k < 32) {xs : List Int} (hR : Ring w2 (hp k) (hg k) 256 xs) (hb : Buts [hp k, hg k] w1 w2) (hgd : Good (up X k xs)) (hne : xs ≠ []) :
    QS B s (w2.setCell ⟨p, 32, none⟩ (.int .u32 ((Ld.setL l (k : Int) : Nat) : Int))) p (up X k xs) ∧ Mid B s w1 (w2.setCell ⟨p, 32, none⟩ (.int .u32 ((Ld.setL l (k : Int) : Nat) : Int))) := by
  have hsz := hb.size
  refine ⟨⟨hp, hg, _, hQ.setRing' hk hR hb hgd _ (hQ.lad.set hk hne), by simp [World.setCell]; omega, h2.1, h2.2, h4⟩, ?_⟩
  exact (Mid.buts hb (by simp; have := h4 k hk; omega)).trans (Mid.buts (Buts.cell w2 p 32 _) (by simpa using h2))
set_option maxHeartbeats 4000000 in
theorem qputadd_any {B s : Nat} {w : World} {p : Nat} {X : Nat → List Int} (h : QS B s w p X) (z r : Int) :
    Calls Tryz.prog 56 #[.pointer (some ⟨p, 0, none⟩), .int .i64 z, .int .i64 r, .func (.func 57) #[] #[]] w fun e w' => e = .returned (.int .i64 (adE X z r)) ∧ QS B s w' p (putX X z r) ∧ Mid B s w w' := by
  have hM := qmay_any h z r
  have HQ : Hid (QS B s w p X) := h
  by_cases e0 : adE X z r = 0
  · obtain ⟨z1, z2, r1, r2, hno⟩ := adE_zero e0
    obtain ⟨k, rfl⟩ := Int.eq_ofNat_of_zero_le r1
    have hk : k < 32 := by omega
    have hk32 : (k : Int) < 32 := by omega
    have HE : Hid (putX X z (k : Int) = up X k (X k ++ [z])) := by show _ = _; unfold putX; rw [if_pos e0]; rfl
    obtain ⟨hp, hg, l, hQ, h1, h2, h3, h4⟩ := h
    have hgd : Good (up X k (X k ++ [z])) := by
      have := hQ.good.put z (k : Int)
      rwa [HE.out] at this
    have ha := hQ.good.addE e0
    rw [show ((k : Int)).toNat = k from rfl] at ha
    rw [e0] at hM ⊢
    have HA : Hid (∀ w1, Below w.heap.size w w1 → Calls Tryz.prog 57 #[.pointer (some ⟨hp k, 0, none⟩), .int .i64 z] w1 fun e w' => e = .returned (.int .i64 0) ∧ Ring w' (hp k) (hg k) 256 (X k ++ [z]) ∧ Buts [hp k, hg k] w1 w') := fun w1 hb => by
      have := put_any ((hQ.below hb).ring k hk) z
      unfold putL at this
      rw [ha, if_pos rfl] at this
      exact this
    have HC : Hid (∀ w1, Below w.heap.size w w1 → w1.cell? ⟨p, k, none⟩ = some (.pointer (some ⟨hp k, 0, none⟩)) ∧ Que w1 p hp hg X l ∧ s ≤ w1.heap.size) := fun w1 hb => ⟨(hQ.below hb).row hk, hQ.below hb, Nat.le_trans h1 hb.size⟩
    have HD : Hid (∀ w1 w2, Que w1 p hp hg X l → Buts [hp k, hg k] w1 w2 → w2.cell? ⟨p, 32, none⟩ = some (.int .u32 (l : Int)) ∧ w2.frozen? ⟨p, 32, none⟩ = false) := fun w1 w2 hq hb => by
      have hn := (hq.ring k hk).nep hq.head
      have hh : w2.heap[p]? = some (.cells (qc hp l).toArray 57 (0, 0)) := (hb.block p hq.lt (by simp; exact hn)).trans hq.head
      exact ⟨by rw [cell_of hh]; simpa using qc_lad hp l, by simp [World.frozen?, hh]⟩
    have hll := hQ.lad.lt
    have H4 : Hid (∀ r, r < 32 → B ≤ hp r ∧ hp r < s ∧ B ≤ hg r ∧ hg r < s) := h4
    clear hQ ha e0 hno h4
    go_enter Tryz.func56, Tryz.ntmps56
    go_wp2_with (first
      | (go_at_call 84; refine hM.mono ?_; rintro e w1 ⟨rfl, hb1⟩; obtain ⟨c1, hQ1, hs1⟩ := HC.out w1 hb1; have HQ1 : Hid (Que w1 p hp hg X l ∧ s ≤ w1.heap.size) := ⟨hQ1, hs1⟩; clear hQ1 hs1)
      | (go_at_call 57; refine (HA.out w1 hb1).mono ?_; rintro e w2 ⟨rfl, hr2, hb2⟩; obtain ⟨c2, f2⟩ := HD.out w1 w2 HQ1.out.1 hb2; have HR2 : Hid (Ring w2 (hp k) (hg k) 256 (X k ++ [z]) ∧ Buts [hp k, hg k] w1 w2) := ⟨hr2, hb2⟩; clear hr2 hb2)
      | (go_at_call 85; refine (Ld.set_any l hll (k : Int) _).mono ?_; rintro e w3 ⟨rfl, rfl⟩))
    go_ret
    rw [HE.out]
    obtain ⟨q1, q2⟩ := QS.added HQ1.out.1 HQ1.out.2 ⟨h2, h3⟩ H4.out hk HR2.out.1 HR2.out.2 hgd (by simp)
    exact ⟨rfl, q1, (Mid.of hb1).trans q2⟩
  · have e1 : (adE X z r == 0) = false := by simpa using e0
    have HE : Hid (putX X z r = X) := by show _ = _; unfold putX; rw [if_neg e0]
    clear h e0
    generalize adE X z r = v at *
    go_enter Tryz.func56, Tryz.ntmps56
    go_wp2_with (first | (go_at_call 84; refine hM.mono ?_; rintro e w1 ⟨rfl, hb1⟩))
    go_ret
    rw [HE.out]
    exact ⟨rfl, HQ.out.below hb1, Mid.of hb1⟩
theorem qputadd_nil {w : World} (z r : Int) : Calls Tryz.prog 56 #[.pointer none, .int .i64 z, .int .i64 r, .func (.func 57) #[] #[]] w fun e w' => e = .returned (.int .i64 2) ∧ w = w' := by
  go_enter Tryz.func56, Tryz.ntmps56
  go_wp2_with (first | (go_at_call 84; refine (qmay_nil z r).mono ?_; rintro e wx ⟨rfl, rfl⟩))
  go_ret
  exact ⟨rfl, rfl⟩
theorem qput_any {B s : Nat} {w : World} {p : Nat} {X : Nat → List Int} (h : QS B s w p X) (z r : Int) :
    Calls Tryz.prog 18 #[.pointer (some ⟨p, 0, none⟩), .int .i64 z, .int .i64 r] w fun e w' => e = .returned (.int .i64 (adE X z r)) ∧ QS B s w' p (putX X z r) ∧ Mid B s w w' := by
  have hA := qputadd_any h z r
  clear h
  generalize adE X z r = v at *
  generalize putX X z r = Y at *
  go_enter Tryz.func18, Tryz.ntmps18
  go_wp2_with (first | (go_at_call 56; refine hA.mono ?_; rintro e w1 ⟨rfl, q1, q2⟩))
  go_ret
  exact ⟨rfl, q1, q2⟩
theorem qput_nil {w : World} (z r : Int) : Calls Tryz.prog 18 #[.pointer none, .int .i64 z, .int .i64 r] w fun e w' => e = .returned (.int .i64 2) ∧ w = w' := by
  go_enter Tryz.func18, Tryz.ntmps18
  go_wp2_with (first | (go_at_call 56; refine (qputadd_nil z r).mono ?_; rintro e wx ⟨rfl, rfl⟩))
  go_ret
  exact ⟨rfl, rfl⟩
set_option maxHeartbeats 4000000 in
theorem qpushadd_any {B s : Nat} {w : World} {p : Nat} {X : Nat → List Int} (h : QS B s w p X) (z r : Int) :
    Calls Tryz.prog 56 #[.pointer (some ⟨p, 0, none⟩), .int .i64 z, .int .i64 r, .func (.func 63) #[] #[]] w fun e w' => e = .returned (.int .i64 (adE X z r)) ∧ QS B s w' p (pushX X z r) ∧ Mid B s w w' := by
  have hM := qmay_any h z r
  have HQ : Hid (QS B s w p X) := h
  by_cases e0 : adE X z r = 0
  · obtain ⟨z1, z2, r1, r2, hno⟩ := adE_zero e0
    obtain ⟨k, rfl⟩ := Int.eq_ofNat_of_zero_le r1
    have hk : k < 32 := by omega
    have hk32 : (k : Int) < 32 := by omega
    have HE : Hid (pushX X z (k : Int) = up X k (z :: X k)) := by show _ = _; unfold pushX; rw [if_pos e0]; rfl
    obtain ⟨hp, hg, l, hQ, h1, h2, h3, h4⟩ := h
    have hgd : Good (up X k (z :: X k)) := by
      have := hQ.good.push z (k : Int)
      rwa [HE.out] at this
    have ha := hQ.good.addE e0
    rw [show ((k : Int)).toNat = k from rfl] at ha
    rw [e0] at hM ⊢
    have HA : Hid (∀ w1, Below w.heap.size w w1 → Calls Tryz.prog 63 #[.pointer (some ⟨hp k, 0, none⟩), .int .i64 z] w1 fun e w' => e = .returned (.int .i64 0) ∧ Ring w' (hp k) (hg k) 256 (z :: X k) ∧ Buts [hp k, hg k] w1 w') := fun w1 hb => by
      have := push_any ((hQ.below hb).ring k hk) z
      unfold pushL at this
      rw [ha, if_pos rfl] at this
      exact this
    have HC : Hid (∀ w1, Below w.heap.size w w1 → w1.cell? ⟨p, k, none⟩ = some (.pointer (some ⟨hp k, 0, none⟩)) ∧ Que w1 p hp hg X l ∧ s ≤ w1.heap.size) := fun w1 hb => ⟨(hQ.below hb).row hk, hQ.below hb, Nat.le_trans h1 hb.size⟩
    have HD : Hid (∀ w1 w2, Que w1 p hp hg X l → Buts [hp k, hg k] w1 w2 → w2.cell? ⟨p, 32, none⟩ = some (.int .u32 (l : Int)) ∧ w2.frozen? ⟨p, 32, none⟩ = false) := fun w1 w2 hq hb => by
      have hn := (hq.ring k hk).nep hq.head
      have hh : w2.heap[p]? = some (.cells (qc hp l).toArray 57 (0, 0)) := (hb.block p hq.lt (by simp; exact hn)).trans hq.head
      exact ⟨by rw [cell_of hh]; simpa using qc_lad hp l, by simp [World.frozen?, hh]⟩
    have hll := hQ.lad.lt
    have H4 : Hid (∀ r, r < 32 → B ≤ hp r ∧ hp r < s ∧ B ≤ hg r ∧ hg r < s) := h4
    clear hQ ha e0 hno h4
    go_enter Tryz.func56, Tryz.ntmps56
    go_wp2_with (first
      | (go_at_call 84; refine hM.mono ?_; rintro e w1 ⟨rfl, hb1⟩; obtain ⟨c1, hQ1, hs1⟩ := HC.out w1 hb1; have HQ1 : Hid (Que w1 p hp hg X l ∧ s ≤ w1.heap.size) := ⟨hQ1, hs1⟩; clear hQ1 hs1)
      | (go_at_call 63; refine (HA.out w1 hb1).mono ?_; rintro e w2 ⟨rfl, hr2, hb2⟩; obtain ⟨c2, f2⟩ := HD.out w1 w2 HQ1.out.1 hb2; have HR2 : Hid (Ring w2 (hp k) (hg k) 256 (z :: X k) ∧ Buts [hp k, hg k] w1 w2) := ⟨hr2, hb2⟩; clear hr2 hb2)
      | (go_at_call 85; refine (Ld.set_any l hll (k : Int) _).mono ?_; rintro e w3 ⟨rfl, rfl⟩))
    go_ret
    rw [HE.out]
    obtain ⟨q1, q2⟩ := QS.added HQ1.out.1 HQ1.out.2 ⟨h2, h3⟩ H4.out hk HR2.out.1 HR2.out.2 hgd (by simp)
    exact ⟨rfl, q1, (Mid.of hb1).trans q2⟩
  · have e1 : (adE X z r == 0) = false := by simpa using e0
    have HE : Hid (pushX X z r = X) := by show _ = _; unfold pushX; rw [if_neg e0]
    clear h e0
    generalize adE X z r = v at *
    go_enter Tryz.func56, Tryz.ntmps56
    go_wp2_with (first | (go_at_call 84; refine hM.mono ?_; rintro e w1 ⟨rfl, hb1⟩))
    go_ret
    rw [HE.out]
    exact ⟨rfl, HQ.out.below hb1, Mid.of hb1⟩
theorem qpushadd_nil {w : World} (z r : Int) : Calls Tryz.prog 56 #[.pointer none, .int .i64 z, .int .i64 r, .func (.func 63) #[] #[]] w fun e w' => e = .returned (.int .i64 2) ∧ w = w' := by
  go_enter Tryz.func56, Tryz.ntmps56
  go_wp2_with (first | (go_at_call 84; refine (qmay_nil z r).mono ?_; rintro e wx ⟨rfl, rfl⟩))
  go_ret
  exact ⟨rfl, rfl⟩
theorem qpush_any {B s : Nat} {w : World} {p : Nat} {X : Nat → List Int} (h : QS B s w p X) (z r : Int) :
    Calls Tryz.prog 22 #[.pointer (some ⟨p, 0, none⟩), .int .i64 z, .int .i64 r] w fun e w' => e = .returned (.int .i64 (adE X z r)) ∧ QS B s w' p (pushX X z r) ∧ Mid B s w w' := by
  have hA := qpushadd_any h z r
  clear h
  generalize adE X z r = v at *
  generalize pushX X z r = Y at *
  go_enter Tryz.func22, Tryz.ntmps22
  go_wp2_with (first | (go_at_call 56; refine hA.mono ?_; rintro e w1 ⟨rfl, q1, q2⟩))
  go_ret
  exact ⟨rfl, q1, q2⟩
theorem qpush_nil {w : World} (z r : Int) : Calls Tryz.prog 22 #[.pointer none, .int .i64 z, .int .i64 r] w fun e w' => e = .returned (.int .i64 2) ∧ w = w' := by
  go_enter Tryz.func22, Tryz.ntmps22
  go_wp2_with (first | (go_at_call 56; refine (qpushadd_nil z r).mono ?_; rintro e wx ⟨rfl, rfl⟩))
  go_ret
  exact ⟨rfl, rfl⟩
theorem tuE_arg {X : Nat → List Int} {r : Int} (h : ¬ (0 ≤ r ∧ r ≤ 31)) : tuE X r = 1 ∧ tuX X r = X := by
  have : tuE X r = 1 := by unfold tuE; rw [if_pos (by omega)]
  exact ⟨this, by unfold tuX; rw [this, if_neg (by decide)]⟩
theorem tuE_rank {X : Nat → List Int} {k : Nat} (h : k < 32) : tuE X (k : Int) = takeE (X k) ∧ tuX X (k : Int) = up X k (turnL (X k)) := by
  have h1 : tuE X (k : Int) = takeE (X k) := by
    unfold tuE takeE
    rw [if_neg (by omega)]
    simp
  refine ⟨h1, ?_⟩
  unfold tuX
  rw [h1]
  split
  · rfl
  · rename_i h2
    have : X k = [] := by
      unfold takeE at h2
      split at h2
      · rename_i h3; exact List.length_eq_zero_iff.1 h3
      · exact absurd rfl h2
    rw [this]
    have e : turnL [] = X k := by rw [this]; rfl
    rw [e, up_self]
set_option maxHeartbeats 4000000 in
theorem qturn_any {B s : Nat} {w : World} {p : Nat} {X : Nat → List Int} (h : QS B s w p X) (r : Int) :
    Calls Tryz.prog 19 #[.pointer (some ⟨p, 0, none⟩), .int .i64 r] w fun e w' => e = .returned (.int .i64 (tuE X r)) ∧ QS B s w' p (tuX X r) ∧ Mid B s w w' := by
  have HQ : Hid (QS B s w p X) := h
  obtain ⟨hp, hg, l, hQ, h1, h2, h3, h4⟩ := h
  have hp0 := hQ.row (r := 0) (by omega)
  by_cases hr : 0 ≤ r ∧ r ≤ 31
  · obtain ⟨k, rfl⟩ := Int.eq_ofNat_of_zero_le hr.1
    have hk : k < 32 := by omega
    have hk32 : (k : Int) < 32 := by omega
    obtain ⟨e1, e2⟩ := tuE_rank (X := X) hk
    have hT := turn_any (hQ.ring k hk)
    have hc := hQ.row hk
    rw [e1]
    have HE : Hid (tuX X (k : Int) = up X k (turnL (X k))) := e2
    have HZ : Hid (Que w p hp hg X l) := hQ
    have hgd : Good (up X k (turnL (X k))) := by rw [← e2]; exact hQ.good.turn _
    clear hQ e1 e2
    generalize takeE (X k) = v at *
    go_enter Tryz.func19, Tryz.ntmps19
    go_wp2_with (first
      | (go_at_call 27; refine (qthere_yes hp0).mono ?_; rintro e wx ⟨rfl, rfl⟩)
      | (go_at_call 58; refine (isRank_yes _ _ hr).mono ?_; rintro e wx ⟨rfl, rfl⟩)
      | (go_at_call 59; refine hT.mono ?_; rintro e w2 ⟨rfl, hr2, hb2⟩))
    go_ret
    rw [HE.out]
    have hsz := hb2.size
    refine ⟨rfl, ⟨hp, hg, l, HZ.out.setRing (l' := l) hk hr2 hb2 (HZ.out.lad.same ?_) hgd, by omega, h2, h3, h4⟩, Mid.buts hb2 (by simp; have := h4 k hk; omega)⟩
    cases X k <;> simp [turnL]
  · obtain ⟨e1, e2⟩ := tuE_arg (X := X) hr
    rw [e1, e2]
    clear hQ e1 e2
    go_enter Tryz.func19, Tryz.ntmps19
    go_wp2_with (first
      | (go_at_call 27; refine (qthere_yes hp0).mono ?_; rintro e wx ⟨rfl, rfl⟩)
      | (go_at_call 58; refine (isRank_no _ _ hr).mono ?_; rintro e wx ⟨rfl, rfl⟩))
    go_ret
    exact ⟨rfl, HQ.out, Mid.refl _ _ _⟩
set_option maxHeartbeats 8000000 in
theorem qremove_any {B s : Nat} {w : World} {p : Nat} {X : Nat → List Int} (h : QS B s w p X) (z : Int) :
    Calls Tryz.prog 20 #[.pointer (some ⟨p, 0, none⟩), .int .i64 z] w fun e w' => e = .returned (.int .i64 (rmE X z)) ∧ QS B s w' p (rmX X z) ∧ Mid B s w w' := by
  have hR := qrank_any h z
  have HQ : Hid (QS B s w p X) := h
  obtain ⟨hp, hg, l, hQ, h1, h2, h3, h4⟩ := h
  have hp0 := hQ.row (r := 0) (by omega)
  cases hrk : rk X z with
  | none =>
    have e1 : rmE X z = 1 := by unfold rmE rkb; rw [hrk]; rfl
    have e2 : rmX X z = X := by unfold rmX; rw [hrk]
    have e3 : rkb X z = false := by unfold rkb; rw [hrk]; rfl
    rw [e1, e2]
    rw [e3] at hR
    generalize rkv X z = rv at *
    clear hQ e1 e2 e3 hrk
    go_enter Tryz.func20, Tryz.ntmps20
    go_wp2_with (first
      | (go_at_call 27; refine (qthere_yes hp0).mono ?_; rintro e wx ⟨rfl, rfl⟩)
      | (go_at_call 11; refine hR.mono ?_; rintro e w1 ⟨rfl, hb1⟩))
    go_ret
    exact ⟨rfl, HQ.out.below hb1, Mid.of hb1⟩
  | some k =>
    obtain ⟨hk, hzk⟩ := rk_at hrk
    have hk32 : (k : Int) < 32 := by omega
    have e1 : rmE X z = 0 := by unfold rmE rkb; rw [hrk]; rfl
    have e2 : rmX X z = up X k ((X k).erase z) := by unfold rmX; rw [hrk]
    have e3 : rkb X z = true := by unfold rkb; rw [hrk]; rfl
    have e4 : rkv X z = (k : Int) := by unfold rkv; rw [hrk]; rfl
    have hgd : Good (up X k ((X k).erase z)) := by rw [← e2]; exact hQ.good.rem z
    have HE : Hid (rmX X z = up X k ((X k).erase z)) := e2
    rw [e1]
    rw [e3, e4] at hR
    have hll := hQ.lad.lt
    have HA : Hid (∀ w1, Below w.heap.size w w1 → w1.cell? ⟨p, k, none⟩ = some (.pointer (some ⟨hp k, 0, none⟩)) ∧ Calls Tryz.prog 60 #[.pointer (some ⟨hp k, 0, none⟩), .int .i64 z] w1 fun e w' => e = .returned (.int .i64 0) ∧ Ring w' (hp k) (hg k) 256 ((X k).erase z) ∧ Buts [hp k, hg k] w1 w') := fun w1 hb => by
      refine ⟨(hQ.below hb).row hk, ?_⟩
      have := remove_any ((hQ.below hb).ring k hk) z
      rwa [show remE (X k) z = 0 by simp [remE, hzk]] at this
    have HB : Hid (∀ w1 w2, Below w.heap.size w w1 → Buts [hp k, hg k] w1 w2 → w2.cell? ⟨p, k, none⟩ = some (.pointer (some ⟨hp k, 0, none⟩)) ∧ w2.cell? ⟨p, 32, none⟩ = some (.int .u32 (l : Int)) ∧ ∀ w3, Below w2.heap.size w2 w3 → w3.cell? ⟨p, 32, none⟩ = some (.int .u32 (l : Int)) ∧ w3.frozen? ⟨p, 32, none⟩ = false) := fun w1 w2 hb1 hb => by
      have hq := hQ.below hb1
      have hn := (hq.ring k hk).nep hq.head
      have hh : w2.heap[p]? = some (.cells (qc hp l).toArray 57 (0, 0)) := (hb.block p hq.lt (by simp; exact hn)).trans hq.head
      refine ⟨by rw [cell_of hh]; simpa using qc_row hp l hk, by rw [cell_of hh]; simpa using qc_lad hp l, fun w3 hb3 => ?_⟩
      have hh3 := (hb3.block p (at_lt hh)).trans hh
      exact ⟨by rw [cell_of hh3]; simpa using qc_lad hp l, by simp [World.frozen?, hh3]⟩
    have HZ : Hid (Que w p hp hg X l) := hQ
    have H4 : Hid (∀ r, r < 32 → B ≤ hp r ∧ hp r < s ∧ B ≤ hg r ∧ hg r < s) := h4
    have HLen : Hid ((X k).erase z = [] ↔ ((X k).erase z).length = 0) := List.length_eq_zero_iff.symm
    have HNE : Hid (X k ≠ []) := by rintro e; rw [e] at hzk; simp at hzk
    clear hQ e1 e2 e3 e4 h4 hrk hzk
    obtain ⟨ys, hys⟩ : ∃ ys, (X k).erase z = ys := ⟨_, rfl⟩
    rw [hys] at HA HE HLen hgd
    have HY : Hid ((X k).erase z = ys) := hys
    clear hys
    obtain ⟨m, hm⟩ : ∃ m, ys.length = m := ⟨_, rfl⟩
    have HM : Hid (ys.length = m) := hm
    have HL : Hid (∀ w2, Ring w2 (hp k) (hg k) 256 ys → Calls Tryz.prog 61 #[.pointer (some ⟨hp k, 0, none⟩)] w2 fun e w' => e = .returned (.slice (some ⟨w2.heap.size, 0, none⟩) m m) ∧ Row w' w2.heap.size ys ∧ Below w2.heap.size w2 w') := fun w2 h2 => by rw [← hm]; exact list_any h2
    clear hm
    by_cases hm0 : m = 0
    · subst hm0
      go_enter Tryz.func20, Tryz.ntmps20
      go_wp2_with (first
        | (go_at_call 27; refine (qthere_yes hp0).mono ?_; rintro e wx ⟨rfl, rfl⟩)
        | (go_at_call 11; refine hR.mono ?_; rintro e w1 ⟨rfl, hb1⟩; obtain ⟨c1, hC1⟩ := HA.out w1 hb1; have HC1 : Hid (Calls Tryz.prog 60 #[.pointer (some ⟨hp k, 0, none⟩), .int .i64 z] w1 fun e w' => e = .returned (.int .i64 0) ∧ Ring w' (hp k) (hg k) 256 ys ∧ Buts [hp k, hg k] w1 w') := hC1; clear hC1)
        | (go_at_call 60; refine HC1.out.mono ?_; rintro e w2 ⟨rfl, hr2, hb2⟩; obtain ⟨c2, c3, hC3⟩ := HB.out w1 w2 hb1 hb2; have HC3 : Hid (∀ w3, Below w2.heap.size w2 w3 → w3.cell? ⟨p, 32, none⟩ = some (.int .u32 (l : Int)) ∧ w3.frozen? ⟨p, 32, none⟩ = false) := hC3; have HR2 : Hid (Ring w2 (hp k) (hg k) 256 ys ∧ Buts [hp k, hg k] w1 w2) := ⟨hr2, hb2⟩; clear hr2 hb2 hC3)
        | (go_at_call 61; refine (HL.out w2 HR2.out.1).mono ?_; rintro e w3 ⟨rfl, _, hb3⟩; obtain ⟨c4, f4⟩ := HC3.out w3 hb3)
        | (go_at_call 62; refine (Ld.clear_any l hll (k : Int) _).mono ?_; rintro e w4 ⟨rfl, rfl⟩))
      go_ret
      rw [HE.out]
      obtain rfl : ys = [] := List.length_eq_zero_iff.1 HM.out
      have hQ1 := HZ.out.below hb1
      have hs1 := hb1.size
      have hs2 := HR2.out.2.size
      have hs3 := hb3.size
      have hb13 : Buts [hp k, hg k] w1 w4 := HR2.out.2.trans (Buts.of hb3)
      refine ⟨rfl, ⟨hp, hg, _, hQ1.setRing' hk (HR2.out.1.below hb3) hb13 hgd _ (hQ1.lad.clear hk), by simp [World.setCell]; omega, h2, h3, H4.out⟩, (Mid.of hb1).trans ((Mid.buts hb13 (by simp; have := H4.out k hk; omega)).trans (Mid.buts (Buts.cell w4 p 32 _) (by simpa using ⟨h2, h3⟩)))⟩
    · have hm1 : ((m : Int) == 0) = false := by simpa using hm0
      have hm2 : (m == 0) = false := by simpa using hm0
      go_enter Tryz.func20, Tryz.ntmps20
      go_wp2_with (first
        | (go_at_call 27; refine (qthere_yes hp0).mono ?_; rintro e wx ⟨rfl, rfl⟩)
        | (go_at_call 11; refine hR.mono ?_; rintro e w1 ⟨rfl, hb1⟩; obtain ⟨c1, hC1⟩ := HA.out w1 hb1; have HC1 : Hid (Calls Tryz.prog 60 #[.pointer (some ⟨hp k, 0, none⟩), .int .i64 z] w1 fun e w' => e = .returned (.int .i64 0) ∧ Ring w' (hp k) (hg k) 256 ys ∧ Buts [hp k, hg k] w1 w') := hC1; clear hC1)
        | (go_at_call 60; refine HC1.out.mono ?_; rintro e w2 ⟨rfl, hr2, hb2⟩; obtain ⟨c2, c3, hC3⟩ := HB.out w1 w2 hb1 hb2; have HC3 : Hid (∀ w3, Below w2.heap.size w2 w3 → w3.cell? ⟨p, 32, none⟩ = some (.int .u32 (l : Int)) ∧ w3.frozen? ⟨p, 32, none⟩ = false) := hC3; have HR2 : Hid (Ring w2 (hp k) (hg k) 256 ys ∧ Buts [hp k, hg k] w1 w2) := ⟨hr2, hb2⟩; clear hr2 hb2 hC3)
        | (go_at_call 61; refine (HL.out w2 HR2.out.1).mono ?_; rintro e w3 ⟨rfl, _, hb3⟩))
      go_ret
      rw [HE.out]
      have hne : ys ≠ [] := by rintro rfl; exact hm0 HM.out.symm
      have hQ1 := HZ.out.below hb1
      have hs1 := hb1.size
      have hs2 := HR2.out.2.size
      have hs3 := hb3.size
      have hb13 : Buts [hp k, hg k] w1 w3 := HR2.out.2.trans (Buts.of hb3)
      refine ⟨rfl, ⟨hp, hg, l, hQ1.setRing (l' := l) hk (HR2.out.1.below hb3) hb13 (hQ1.lad.same ⟨fun e => absurd e hne, fun e => absurd e HNE.out⟩) hgd, by omega, h2, h3, H4.out⟩, (Mid.of hb1).trans (Mid.buts hb13 (by simp; have := H4.out k hk; omega))⟩
/-- the head while its rings are made -/
def qk (p k : Nat) : List Value := (List.range 32).map (fun r => if r < k then Value.pointer (some ⟨p + 2 + 2 * r, 0, none⟩) else .pointer none) ++ [.int .u32 0]
theorem qk_set (p : Nat) {k : Nat} (hk : k < 32) : (qk p k).set k (.pointer (some ⟨p + 2 + 2 * k, 0, none⟩)) = qk p (k + 1) := by
  apply List.ext_getElem?
  intro i
  rw [List.getElem?_set]
  unfold qk
  by_cases h : k = i
  · subst h
    rw [if_pos rfl, if_pos (by simp; omega), List.getElem?_append_left (by simpa using hk)]
    simp [hk]
  · rw [if_neg h]
    by_cases h32 : i < 32
    · rw [List.getElem?_append_left (by simpa using h32), List.getElem?_append_left (by simpa using h32)]
      simp only [List.getElem?_map, List.getElem?_range h32, Option.map_some]
      congr 1
      by_cases hik : i < k
      · rw [if_pos hik, if_pos (by omega)]
      · rw [if_neg hik, if_neg (by omega)]
    · rw [List.getElem?_append_right (by simp; omega), List.getElem?_append_right (by simp; omega)]
      simp
theorem qk_all (p : Nat) : qk p 32 = qc (fun r => p + 2 + 2 * r) 0 := by
  have : (List.range 32).map (fun r => if r < 32 then Value.pointer (some ⟨p + 2 + 2 * r, 0, none⟩) else .pointer none) = (List.range 32).map (fun r => Value.pointer (some ⟨p + 2 + 2 * r, 0, none⟩)) := by
    apply List.map_congr_left
    intro r hr
    rw [if_pos (by simpa using hr)]
  unfold qk qc
  rw [this]
  rfl
theorem qk_free {w : World} {p k : Nat} (h : w.heap[p]? = some (.cells (qk p k).toArray 57 (0, 0))) (i : Nat) : w.frozen? ⟨p, i, none⟩ = false := by simp [World.frozen?, h]
theorem qk_cell {w : World} {p k : Nat} (h : w.heap[p]? = some (.cells (qk p k).toArray 57 (0, 0))) (hk : k < 32) : w.cell? ⟨p, k, none⟩ = some (.pointer none) := by
  rw [cell_of h]
  unfold qk
  rw [List.getElem?_toArray, List.getElem?_append_left (by simpa using hk)]
  simp [hk]
theorem qk_next {w : World} {p k : Nat} (h : w.heap[p]? = some (.cells (qk p k).toArray 57 (0, 0))) (hk : k < 32) : (w.setCell ⟨p, k, none⟩ (.pointer (some ⟨p + 2 + 2 * k, 0, none⟩))).heap[p]? = some (.cells (qk p (k + 1)).toArray 57 (0, 0)) := by
  have hlt := at_lt h
  have h2 := (Array.getElem?_eq_some_iff.1 h).2
  unfold World.setCell
  rw [Array.getElem?_eq_getElem (by simpa using hlt), Array.getElem_modify]
  simp [h2, qk_set p hk]
theorem new_two {w : World} (n : Nat) (h1 : 1 ≤ n) (hn : n ≤ 1024) :
    Calls Tryz.prog 21 #[.int .i64 n] w fun e w' => e = .returned (.tuple #[.pointer (some ⟨w.heap.size + 1, 0, none⟩), .int .i64 0]) ∧ Ring w' (w.heap.size + 1) w.heap.size n [] ∧ Below w.heap.size w w' ∧ w'.heap.size = w.heap.size + 2 := by
  have a1 : ¬ (n : Int) < 1 := by omega
  have a2 : ¬ (1024 : Int) < n := by omega
  have hmk := make_row w n n (Nat.le_refl _) (by omega)
  have HA : Hid (Row (w.alloc (.cells (num (List.replicate n 0)).toArray 3)) w.heap.size (List.replicate n 0)) := alloc_at w _
  have HB : Hid (Below w.heap.size w (w.alloc (.cells (num (List.replicate n 0)).toArray 3))) := alloc_below w _
  have hsz := alloc_size w (.cells (num (List.replicate n 0)).toArray 3)
  go_enter Tryz.func21, Tryz.ntmps21
  go_wp2
  go_ret2
  generalize w.alloc (.cells (num (List.replicate n 0)).toArray 3) = w0 at *
  refine ⟨by simp, ⟨⟨0, _, by omega, ⟨?_, ((HA.out).below (alloc_below w0 _)), by simp⟩, Holds.nil _ _ _⟩, h1, hn, by simp⟩, HB.out.trans ((alloc_below w0 _).mono HB.out.size), by rw [alloc_size, hsz]⟩
  rw [← hsz]
  exact alloc_at w0 _
set_option maxHeartbeats 8000000 in
theorem qnew_any (w : World) : Calls Tryz.prog 5 #[] w fun e w' => e = .returned (.pointer (some ⟨w.heap.size, 0, none⟩)) ∧ QS w.heap.size w'.heap.size w' w.heap.size (fun _ => []) ∧ Below w.heap.size w w' := by
  obtain ⟨p, hp⟩ : ∃ p, w.heap.size = p := ⟨_, rfl⟩
  have hz : (#[.pointer none, .pointer none, .pointer none, .pointer none, .pointer none, .pointer none, .pointer none, .pointer none, .pointer none, .pointer none, .pointer none, .pointer none, .pointer none, .pointer none, .pointer none, .pointer none, .pointer none, .pointer none, .pointer none, .pointer none, .pointer none, .pointer none, .pointer none, .pointer none, .pointer none, .pointer none, .pointer none, .pointer none, .pointer none, .pointer none, .pointer none, .pointer none, .int .u32 0] : Array Value) = (qk p 0).toArray := by rfl
  have hW0 : (w.alloc (.cells (qk p 0).toArray 57)).heap[p]? = some (.cells (qk p 0).toArray 57 (0, 0)) := by rw [← hp]; exact alloc_at w _
  have hS0 : (w.alloc (.cells (qk p 0).toArray 57)).heap.size = p + 1 := by rw [alloc_size, hp]
  have hB0 : Below p w (w.alloc (.cells (qk p 0).toArray 57)) := by rw [← hp]; exact alloc_below w _
  have HW : Hid ((w.alloc (.cells (qk p 0).toArray 57)).heap[p]? = some (.cells (qk p 0).toArray 57 (0, 0)) ∧ (w.alloc (.cells (qk p 0).toArray 57)).heap.size = p + 1 ∧ Below p w (w.alloc (.cells (qk p 0).toArray 57))) := ⟨hW0, hS0, hB0⟩
  clear hW0 hS0 hB0
  rw [hp]
  go_enter Tryz.func5, Tryz.ntmps5
  go_wp2
  obtain ⟨hW0, hS0, hB0⟩ := HW.out
  clear hz HW hp
  generalize w.alloc (.cells (qk p 0).toArray 57) = W0 at *
  go_loopg [5] 32 (fun q s5 wx => ∃ k : Nat, k + q = 32 ∧ s5 = .int .i64 (k : Int) ∧ Hid (wx.heap[p]? = some (.cells (qk p k).toArray 57 (0, 0))) ∧ Hid (wx.heap.size = p + 1 + 2 * k) ∧ Hid (∀ r, r < k → Ring wx (p + 2 + 2 * r) (p + 1 + 2 * r) 256 []) ∧ Below p w wx)
  case atStart => exact ⟨0, by omega, rfl, hW0, hS0, fun r hr => by omega, hB0⟩
  case round =>
    clear hW0 hS0 hB0
    obtain ⟨k, hkq, rfl, HH, HS, HRi, hB⟩ := hrel
    cases gk with
    | zero =>
      obtain rfl : k = 32 := by omega
      have hlt : ¬ (((32 : Nat) : Int) < 32) := by omega
      go_wp2
      go_ret
      refine ⟨rfl, ⟨fun r => p + 2 + 2 * r, fun r => p + 1 + 2 * r, 0, ⟨by rw [← qk_all]; exact HH.out, fun r hr => HRi.out r hr, fun r s _ _ e => by omega, fun r s _ _ e => by omega, fun r s _ _ e => by omega, Lad.nil, Good.nil⟩, Nat.le_refl _, Nat.le_refl _, by rw [HS.out]; omega, fun r hr => by rw [HS.out]; dsimp only; omega⟩, hB⟩
    | succ q =>
      have hlt : (k : Int) < 32 := by omega
      have hk : k < 32 := by omega
      have hC := new_two (w := wr.drew) 256 (by decide) (by decide)
      have hsd : wr.drew.heap.size = p + 1 + 2 * k := HS.out
      rw [hsd] at hC
      have HC2 : Hid (∀ w2, Below (p + 1 + 2 * k) wr.drew w2 → w2.frozen? ⟨p, k, none⟩ = false ∧ w2.cell? ⟨p, k, none⟩ = some (.pointer none)) := fun w2 hb => by
        have h1 := (hb.block p (by omega)).trans HH.out
        exact ⟨qk_free h1 k, qk_cell h1 hk⟩
      have hwk : IntKind.i64.wrap ((k : Int) + 1) = (k : Int) + 1 := by rw [IntKind.wrap_i64]; omega
      go_wp2
      go_region_with (go_at_call 21; refine hC.mono ?_; rintro e w2 ⟨rfl, hr2, hb2, hs2⟩; obtain ⟨f2, c2⟩ := HC2.out w2 hb2; have HR2 : Hid (Ring w2 (p + 1 + 2 * k + 1) (p + 1 + 2 * k) 256 [] ∧ w2.heap.size = p + 1 + 2 * k + 2 ∧ Below (p + 1 + 2 * k) wr.drew w2) := ⟨hr2, hs2, hb2⟩; clear hr2 hs2 hb2)
      all_goals
        obtain ⟨hr2, hs2, hb2⟩ := HR2.out
        have hh2 := (hb2.block p (by omega)).trans HH.out
        have hbr : Below (p + 1 + 2 * k) wr w2 := ((Below.refl _ wr).drew).trans hb2
        have ep : p + 1 + 2 * k + 1 = p + 2 + 2 * k := by omega
        have hold : ∀ r, r < k → Ring w2 (p + 2 + 2 * r) (p + 1 + 2 * r) 256 [] := fun r hr => (HRi.out r hr).below (by rw [HS.out]; exact hbr)
        have H3 : Hid (Hid ((w2.setCell ⟨p, k, none⟩ (.pointer (some ⟨p + 1 + 2 * k + 1, 0, none⟩))).heap[p]? = some (.cells (qk p (k + 1)).toArray 57 (0, 0))) ∧ Hid ((w2.setCell ⟨p, k, none⟩ (.pointer (some ⟨p + 1 + 2 * k + 1, 0, none⟩))).heap.size = p + 1 + 2 * (k + 1)) ∧ Hid (∀ r, r < k + 1 → Ring (w2.setCell ⟨p, k, none⟩ (.pointer (some ⟨p + 1 + 2 * k + 1, 0, none⟩))) (p + 2 + 2 * r) (p + 1 + 2 * r) 256 []) ∧ Below p w (w2.setCell ⟨p, k, none⟩ (.pointer (some ⟨p + 1 + 2 * k + 1, 0, none⟩)))) := by
          refine ⟨?_, ?_, fun r hr => ?_, ?_⟩
          · rw [ep]; exact qk_next hh2 hk
          · show _ = _; simp [World.setCell]; omega
          · refine Ring.buts (l := [p]) (w := w2) ?_ (Buts.cell w2 p k _) (by simp; omega) (by simp; omega)
            rcases Nat.lt_or_ge r k with h | h
            · exact hold r h
            · obtain rfl : r = k := by omega
              rw [← ep]; exact hr2
          · exact (hB.trans (hbr.mono (by omega))).setCell (p := ⟨p, k, none⟩) (Nat.le_refl _) _
        clear hh2 hold hr2 hs2 hb2 hbr ep HR2
        generalize w2.setCell ⟨p, k, none⟩ (.pointer (some ⟨p + 1 + 2 * k + 1, 0, none⟩)) = w3 at *
        go_wp2
        go_roundg q
        case measure => omega
        case rel => exact ⟨k + 1, by omega, by go_num, H3.out.1, H3.out.2.1, H3.out.2.2.1, H3.out.2.2.2⟩
end Go.Proofs.YtjhpiecbolmleaaGreatDoor
