/- The statements' own functions: 'lives' answers true, 'does' does an act. -/
import Derived.Test.YtjhpiecbolmleaaGreatDoorRTop
import Derived.Test.YtjhpiecbolmleaaGreatDoorSame
namespace Go.Proofs.YtjhpiecbolmleaaGreatDoor
open Go Go.RowKit Go.Shelf
set_option maxRecDepth 100000
set_option linter.unusedVariables false
set_option linter.unusedSimpArgs false
theorem put_at {B s : Nat} {w : World} {p : Nat} {X Y : Nat → List Int} (h : QS B s w p X) {z r e : Int} (he : adE X z r = e) (hY : putX X z r = Y) :
    Calls Tryz.prog 18 #[.pointer (some ⟨p, 0, none⟩), .int .i64 z, .int .i64 r] w fun v w' => v = .returned (.int .i64 e) ∧ QS B s w' p Y ∧ Mid B s w w' := by
  subst he hY; exact qput_any h z r
theorem turn_at {B s : Nat} {w : World} {p : Nat} {X Y : Nat → List Int} (h : QS B s w p X) {r e : Int} (he : tuE X r = e) (hY : tuX X r = Y) :
    Calls Tryz.prog 19 #[.pointer (some ⟨p, 0, none⟩), .int .i64 r] w fun v w' => v = .returned (.int .i64 e) ∧ QS B s w' p Y ∧ Mid B s w w' := by
  subst he hY; exact qturn_any h r
theorem first_is {B s : Nat} {w : World} {p : Nat} {X : Nat → List Int} (h : QS B s w p X) {e : Int} {b : Bool} (he : fsv X = e) (hb : fsb X = b) :
    Calls Tryz.prog 9 #[.pointer (some ⟨p, 0, none⟩)] w fun v w' => v = .returned (.tuple #[.int .i64 e, .bool b]) ∧ QS B s w' p X ∧ Mid B s w w' := by
  subst he hb; exact (qfirst_any h).mono fun v w' ⟨h1, h2⟩ => ⟨h1, h.below h2, Mid.of h2⟩
theorem remove_at {B s : Nat} {w : World} {p : Nat} {X Y : Nat → List Int} (h : QS B s w p X) {z e : Int} (he : rmE X z = e) (hY : rmX X z = Y) :
    Calls Tryz.prog 20 #[.pointer (some ⟨p, 0, none⟩), .int .i64 z] w fun v w' => v = .returned (.int .i64 e) ∧ QS B s w' p Y ∧ Mid B s w w' := by
  subst he hY; exact qremove_any h z
theorem list_at {B s : Nat} {w : World} {p : Nat} {X : Nat → List Int} (h : QS B s w p X) {r : Int} {xs : List Int} {n : Nat} (hx : lsX X r = xs) (hn : xs.length = n) :
    Calls Tryz.prog 13 #[.pointer (some ⟨p, 0, none⟩), .int .i64 r] w fun e w' => ∃ sp cap, e = .returned (.slice sp n cap) ∧ w'.ownsRow w.heap.size 3 1 (.slice sp n cap) n (xs.map (Value.int .i64)) ∧ Src w' sp xs ∧ QS B s w' p X ∧ Below w.heap.size w w' := by
  subst hx hn
  refine (qlist_any h r).mono fun e w' ⟨v, he, ho, hb⟩ => ?_
  obtain ⟨sp, cap, rfl, hs⟩ := Src.own ho
  exact ⟨sp, cap, he, ho, hs, h.below hb, hb⟩
theorem pair_src (w : World) (a b : Int) : Src (w.alloc (.cells #[.int .i64 a, .int .i64 b] 3)) (some ⟨w.heap.size, 0, none⟩) [a, b] := fun _ =>
  ⟨w.heap.size, 0, rfl, fun i hi => by
    rw [cell_of (alloc_at w _)]
    rcases i with _ | _ | i
    · rfl
    · rfl
    · simp at hi; omega⟩
/-- what lies below stays -/
structure Far (B : Nat) (w w' : World) : Prop where
  low' : Below B w w'
  le : B ≤ w'.heap.size
theorem Far.mid {B s : Nat} {w a b : World} (h : Far B w a) (m : Mid B s a b) : Far B w b := ⟨h.low'.trans (m.below h.le), Nat.le_trans h.le m.size⟩
theorem Far.low {B : Nat} {w a b : World} (h : Far B w a) (m : Below a.heap.size a b) : Far B w b := ⟨h.low'.trans (m.mono h.le), Nat.le_trans h.le m.size⟩
/-- a queue as it was made, in Q's steps -/
def Y0 : Nat → List Int := fun _ => []
def Y1 : Nat → List Int := putX Y0 5 2
def Y2 : Nat → List Int := putX Y1 6 2
def Y3 : Nat → List Int := putX Y2 7 1
def Y4 : Nat → List Int := tuX Y3 2
theorem y_all : adE Y0 5 2 = 0 ∧ adE Y1 6 2 = 0 ∧ adE Y2 7 1 = 0 ∧ fsv Y3 = 5 ∧ fsb Y3 = true ∧ tuE Y3 2 = 0 ∧ fsv Y4 = 6 ∧ fsb Y4 = true ∧ lsX Y4 2 = [6, 5] ∧ adE Y4 5 1 = 7 ∧ rmE Y4 9 = 1 ∧ tuE Y4 3 = 11 := by decide +kernel
theorem y_stay : putX Y4 5 1 = Y4 ∧ rmX Y4 9 = Y4 ∧ tuX Y4 3 = Y4 := by
  refine ⟨?_, ?_, ?_⟩
  · unfold putX; rw [y_all.2.2.2.2.2.2.2.2.2.1, if_neg (by decide)]
  · have : rk Y4 9 = none := by decide +kernel
    unfold rmX; rw [this]
  · unfold tuX; rw [y_all.2.2.2.2.2.2.2.2.2.2.2, if_neg (by decide)]
set_option maxHeartbeats 8000000 in
theorem lives_any (w : World) : Calls Tryz.prog 4 #[] w fun e w' => e = .returned (.bool true) ∧ Below w.heap.size w w' := by
  obtain ⟨a1, a2, a3, a4, a5, a6, a7, a8, a9, a10, a11, a12⟩ := y_all
  obtain ⟨b1, b2, b3⟩ := y_stay
  have P1 : Hid (∀ {B s p : Nat} {w : World}, QS B s w p Y0 → Calls Tryz.prog 18 #[.pointer (some ⟨p, 0, none⟩), .int .i64 5, .int .i64 2] w fun v w' => v = .returned (.int .i64 0) ∧ QS B s w' p Y1 ∧ Mid B s w w') := fun h => put_at h a1 rfl
  have P2 : Hid (∀ {B s p : Nat} {w : World}, QS B s w p Y1 → Calls Tryz.prog 18 #[.pointer (some ⟨p, 0, none⟩), .int .i64 6, .int .i64 2] w fun v w' => v = .returned (.int .i64 0) ∧ QS B s w' p Y2 ∧ Mid B s w w') := fun h => put_at h a2 rfl
  have P3 : Hid (∀ {B s p : Nat} {w : World}, QS B s w p Y2 → Calls Tryz.prog 18 #[.pointer (some ⟨p, 0, none⟩), .int .i64 7, .int .i64 1] w fun v w' => v = .returned (.int .i64 0) ∧ QS B s w' p Y3 ∧ Mid B s w w') := fun h => put_at h a3 rfl
  have F1 : Hid (∀ {B s p : Nat} {w : World}, QS B s w p Y3 → Calls Tryz.prog 9 #[.pointer (some ⟨p, 0, none⟩)] w fun v w' => v = .returned (.tuple #[.int .i64 5, .bool true]) ∧ QS B s w' p Y3 ∧ Mid B s w w') := fun h => first_is h a4 a5
  have T1 : Hid (∀ {B s p : Nat} {w : World}, QS B s w p Y3 → Calls Tryz.prog 19 #[.pointer (some ⟨p, 0, none⟩), .int .i64 2] w fun v w' => v = .returned (.int .i64 0) ∧ QS B s w' p Y4 ∧ Mid B s w w') := fun h => turn_at h a6 rfl
  have F2 : Hid (∀ {B s p : Nat} {w : World}, QS B s w p Y4 → Calls Tryz.prog 9 #[.pointer (some ⟨p, 0, none⟩)] w fun v w' => v = .returned (.tuple #[.int .i64 6, .bool true]) ∧ QS B s w' p Y4 ∧ Mid B s w w') := fun h => first_is h a7 a8
  have L1 : Hid (∀ {B s p : Nat} {w : World}, QS B s w p Y4 → Calls Tryz.prog 13 #[.pointer (some ⟨p, 0, none⟩), .int .i64 2] w fun e w' => ∃ sp cap, e = .returned (.slice sp 2 cap) ∧ w'.ownsRow w.heap.size 3 1 (.slice sp 2 cap) 2 (([6, 5] : List Int).map (Value.int .i64)) ∧ Src w' sp [6, 5] ∧ QS B s w' p Y4 ∧ Below w.heap.size w w') := fun h => list_at h a9 rfl
  have P4 : Hid (∀ {B s p : Nat} {w : World}, QS B s w p Y4 → Calls Tryz.prog 18 #[.pointer (some ⟨p, 0, none⟩), .int .i64 5, .int .i64 1] w fun v w' => v = .returned (.int .i64 7) ∧ QS B s w' p Y4 ∧ Mid B s w w') := fun h => put_at h a10 b1
  have R1 : Hid (∀ {B s p : Nat} {w : World}, QS B s w p Y4 → Calls Tryz.prog 20 #[.pointer (some ⟨p, 0, none⟩), .int .i64 9] w fun v w' => v = .returned (.int .i64 1) ∧ QS B s w' p Y4 ∧ Mid B s w w') := fun h => remove_at h a11 b2
  have T2 : Hid (∀ {B s p : Nat} {w : World}, QS B s w p Y4 → Calls Tryz.prog 19 #[.pointer (some ⟨p, 0, none⟩), .int .i64 3] w fun v w' => v = .returned (.int .i64 11) ∧ QS B s w' p Y4 ∧ Mid B s w w') := fun h => turn_at h a12 b3
  clear a1 a2 a3 a4 a5 a6 a7 a8 a9 a10 a11 a12 b1 b2 b3
  obtain ⟨B, hBB⟩ : ∃ B, w.heap.size = B := ⟨_, rfl⟩
  have HBB : Hid (w.heap.size = B) := hBB
  have hN := qnew_any w
  rw [hBB] at hN ⊢
  clear hBB
  go_enter Tryz.func4, Tryz.ntmps4
  go_wp2_with (first
    | (go_at_call 18; have := Z9; refine (qput_nil 1 1).mono ?_; rintro e wx ⟨rfl, rfl⟩)
    | (go_at_call 19; refine (T2.out Q8.out).mono ?_; rintro e w9 ⟨rfl, q9, m9⟩; have Z9 := True.intro; replace M := M.mid m9; clear q9 m9)
    | (go_at_call 20; refine (R1.out Q7.out).mono ?_; rintro e w8 ⟨rfl, q8, m8⟩; have Q8 : Hid (QS B s w8 B Y4) := q8; replace M := M.mid m8; clear q8 m8 Q7)
    | (go_at_call 18; refine (P4.out Q6.out).mono ?_; rintro e w7 ⟨rfl, q7, m7⟩; have Q7 : Hid (QS B s w7 B Y4) := q7; replace M := M.mid m7; clear q7 m7 Q6)
    | (go_at_call 14; refine (same_is (S5.out.1.below (alloc_below _ _)) (pair_src _ 6 5) rfl (by decide) _ _).mono ?_; rintro e w6 ⟨rfl, m6⟩; have Q6 : Hid (QS B s w6 B Y4) := (S5.out.2.below (alloc_below _ _)).below m6; replace M := (M.low (alloc_below _ _)).low m6; clear m6 S5)
    | (go_at_call 13; refine (L1.out Q5.out).mono ?_; rintro e w5 ⟨sp, cap, rfl, _, s5, q5, m5⟩; have S5 : Hid (Src w5 sp [6, 5] ∧ QS B s w5 B Y4) := ⟨s5, q5⟩; replace M := M.low m5; clear s5 q5 m5 Q5)
    | (go_at_call 9; refine (qfirst_nil (w := wz)).mono ?_; rintro e wn ⟨rfl, mn⟩; have Q5 : Hid (QS B s wn B Y4) := QZ.out.below mn; replace M := M.low mn; clear mn QZ)
    | (go_at_call 9; refine (F2.out Q4.out).mono ?_; rintro e wz ⟨rfl, qz, mz⟩; have QZ : Hid (QS B s wz B Y4) := qz; replace M := M.mid mz; clear qz mz Q4)
    | (go_at_call 19; refine (T1.out QY.out).mono ?_; rintro e w4 ⟨rfl, q4, m4⟩; have Q4 : Hid (QS B s w4 B Y4) := q4; replace M := M.mid m4; clear q4 m4 QY)
    | (go_at_call 9; refine (F1.out Q3.out).mono ?_; rintro e wy ⟨rfl, qy, my⟩; have QY : Hid (QS B s wy B Y3) := qy; replace M := M.mid my; clear qy my Q3)
    | (go_at_call 18; refine (P3.out Q2.out).mono ?_; rintro e w3 ⟨rfl, q3, m3⟩; have Q3 : Hid (QS B s w3 B Y3) := q3; replace M := M.mid m3; clear q3 m3 Q2)
    | (go_at_call 18; refine (P2.out Q1.out).mono ?_; rintro e w2 ⟨rfl, q2, m2⟩; have Q2 : Hid (QS B s w2 B Y2) := q2; replace M := M.mid m2; clear q2 m2 Q1)
    | (go_at_call 18; refine (P1.out Q0.out).mono ?_; rintro e w1 ⟨rfl, q1, m1⟩; have Q1 : Hid (QS B s w1 B Y1) := q1; replace M := M.mid m1; clear q1 m1 Q0)
    | (go_at_call 5; refine hN.mono ?_; rintro e w0 ⟨rfl, q0, m0⟩; obtain ⟨s, hs⟩ : ∃ s, w0.heap.size = s := ⟨_, rfl⟩; rw [hs] at q0; have Q0 : Hid (QS B s w0 B Y0) := q0; have M : Far B w w0 := ⟨m0, by have := m0.size; have := HBB.out; omega⟩; clear q0 m0 hs))
  go_ret
  exact ⟨rfl, M.low'⟩
/-- an act: what it answers, and what it leaves -/
def doE (X : Nat → List Int) (x : Int × Int × Int) : Int := if x.1 % 5 = 2 then adE X x.2.1 x.2.2 else if x.1 % 5 = 3 then rmE X x.2.1 else if x.1 % 5 = 4 then tuE X x.2.2 else adE X x.2.1 x.2.2
def doX (X : Nat → List Int) (x : Int × Int × Int) : Nat → List Int := if x.1 % 5 = 2 then pushX X x.2.1 x.2.2 else if x.1 % 5 = 3 then rmX X x.2.1 else if x.1 % 5 = 4 then tuX X x.2.2 else putX X x.2.1 x.2.2
theorem act_new (w : World) (a b c : Value) : (w.alloc (.cells #[a, b, c] 39)).cell? ⟨w.heap.size, 0, none⟩ = some a ∧ (w.alloc (.cells #[a, b, c] 39)).cell? ⟨w.heap.size, 1, none⟩ = some b ∧ (w.alloc (.cells #[a, b, c] 39)).cell? ⟨w.heap.size, 2, none⟩ = some c := by
  refine ⟨?_, ?_, ?_⟩ <;> (rw [cell_of (alloc_at w _)]; rfl)
set_option maxHeartbeats 4000000 in
theorem does_any {B s : Nat} {w : World} {p : Nat} {X : Nat → List Int} (h : QS B s w p X) (x : Int × Int × Int) (hx : 0 ≤ x.1 ∧ x.1 ≤ 255) :
    Calls Tryz.prog 7 #[.pointer (some ⟨p, 0, none⟩), .agg #[.int .u8 x.1, .int .i64 x.2.1, .int .i64 x.2.2]] w fun e w' => e = .returned (.int .i64 (doE X x)) ∧ QS B s w' p (doX X x) ∧ Mid B s w w' := by
  obtain ⟨k, z, r⟩ := x
  simp only at hx ⊢
  obtain ⟨k1, k2⟩ := hx
  have htm : k.tmod 5 = k % 5 := Int.tmod_eq_emod_of_nonneg k1
  obtain ⟨w1, hw1⟩ : ∃ w1, w.alloc (.cells #[.int .u8 k, .int .i64 z, .int .i64 r] 39) = w1 := ⟨_, rfl⟩
  have hq := h.below (alloc_below w (.cells #[.int .u8 k, .int .i64 z, .int .i64 r] 39))
  obtain ⟨c0, c1, c2⟩ := act_new w (.int .u8 k) (.int .i64 z) (.int .i64 r)
  have hm : Mid B s w (w.alloc (.cells #[.int .u8 k, .int .i64 z, .int .i64 r] 39)) := Mid.of (alloc_below w _)
  rw [hw1] at hq c0 c1 c2 hm
  have HPu := qput_any hq z r
  have HPs := qpush_any hq z r
  have HRm := qremove_any hq z
  have HTu := qturn_any hq r
  obtain ⟨t, ht⟩ : ∃ t, k % 5 = t := ⟨_, rfl⟩
  have ht0 : 0 ≤ t ∧ t < 5 := by omega
  rw [ht] at htm
  clear h hq
  by_cases t2 : t = 2
  · have e1 : doE X (k, z, r) = adE X z r := by unfold doE; simp only; rw [if_pos (by omega)]
    have e2 : doX X (k, z, r) = pushX X z r := by unfold doX; simp only; rw [if_pos (by omega)]
    rw [e1, e2]
    subst t2
    clear e1 e2 HPu HRm HTu ht
    generalize adE X z r = v at *
    generalize pushX X z r = Y at *
    go_enter Tryz.func7, Tryz.ntmps7
    go_wp2_with (first | (go_at_call 22; refine HPs.mono ?_; rintro e w2 ⟨rfl, q2, m2⟩))
    go_ret
    exact ⟨rfl, q2, hm.trans m2⟩
  · by_cases t3 : t = 3
    · have e1 : doE X (k, z, r) = rmE X z := by unfold doE; simp only; rw [if_neg (by omega), if_pos (by omega)]
      have e2 : doX X (k, z, r) = rmX X z := by unfold doX; simp only; rw [if_neg (by omega), if_pos (by omega)]
      rw [e1, e2]
      subst t3
      clear e1 e2 HPu HPs HTu ht
      generalize rmE X z = v at *
      generalize rmX X z = Y at *
      go_enter Tryz.func7, Tryz.ntmps7
      go_wp2_with (first | (go_at_call 20; refine HRm.mono ?_; rintro e w2 ⟨rfl, q2, m2⟩))
      go_ret
      exact ⟨rfl, q2, hm.trans m2⟩
    · by_cases t4 : t = 4
      · have e1 : doE X (k, z, r) = tuE X r := by unfold doE; simp only; rw [if_neg (by omega), if_neg (by omega), if_pos (by omega)]
        have e2 : doX X (k, z, r) = tuX X r := by unfold doX; simp only; rw [if_neg (by omega), if_neg (by omega), if_pos (by omega)]
        rw [e1, e2]
        subst t4
        clear e1 e2 HPu HPs HRm ht
        generalize tuE X r = v at *
        generalize tuX X r = Y at *
        go_enter Tryz.func7, Tryz.ntmps7
        go_wp2_with (first | (go_at_call 19; refine HTu.mono ?_; rintro e w2 ⟨rfl, q2, m2⟩))
        go_ret
        exact ⟨rfl, q2, hm.trans m2⟩
      · have e1 : doE X (k, z, r) = adE X z r := by unfold doE; simp only; rw [if_neg (by omega), if_neg (by omega), if_neg (by omega)]
        have e2 : doX X (k, z, r) = putX X z r := by unfold doX; simp only; rw [if_neg (by omega), if_neg (by omega), if_neg (by omega)]
        rw [e1, e2]
        have n2 : (t == 2) = false := by simpa using t2
        have n3 : (t == 3) = false := by simpa using t3
        have n4 : (t == 4) = false := by simpa using t4
        clear e1 e2 HPs HRm HTu ht
        generalize adE X z r = v at *
        generalize putX X z r = Y at *
        go_enter Tryz.func7, Tryz.ntmps7
        go_wp2_with (first | (go_at_call 18; refine HPu.mono ?_; rintro e w2 ⟨rfl, q2, m2⟩))
        go_ret
        exact ⟨rfl, q2, hm.trans m2⟩
theorem doX_good {X : Nat → List Int} (h : Good X) (x : Int × Int × Int) : Good (doX X x) := by
  unfold doX
  split
  · exact h.push _ _
  · split
    · exact h.rem _
    · split
      · exact h.turn _
      · exact h.put _ _
end Go.Proofs.YtjhpiecbolmleaaGreatDoor
