/- The statements' own function 'lives' answers true. -/
import Derived.Test.YtmdhlgdikchhlaaDoorList
import Derived.Test.YtmdhlgdikchhlaaDoorSame
namespace Go.Proofs.YtmdhlgdikchhlaaDoor
open Go Go.RowKit
set_option maxRecDepth 100000
set_option linter.unusedVariables false
set_option linter.unusedSimpArgs false
/-- what lies below stays -/
structure Far (B : Nat) (w w' : World) : Prop where
  low' : Below B w w'
  le : B ≤ w'.heap.size
theorem Far.ln {B : Nat} {w a b : World} (h : Far B w a) (m : Ln B a b) : Far B w b := ⟨h.low'.trans m.low, Nat.le_trans h.le m.low.size⟩
theorem Far.low {B : Nat} {w a b : World} (h : Far B w a) (m : Below a.heap.size a b) : Far B w b := ⟨h.low'.trans (m.mono h.le), Nat.le_trans h.le m.size⟩
/-- a list that was told -/
def Ls (B : Nat) (w : World) (sp : Option Addr) (n cap : Nat) (zs : List Int) : Prop := zs.length = n ∧ w.ownsRow B 3 1 (.slice sp n cap) n (zs.map (Value.int .i64))
theorem Ls.below {B : Nat} {w w' : World} {sp : Option Addr} {n cap : Nat} {zs : List Int} (h : Ls B w sp n cap zs) (hb : Below w.heap.size w w') : Ls B w' sp n cap zs := ⟨h.1, owns_below h.2 hb⟩
theorem owns_ln {B B' : Nat} {w w' : World} {v : Value} {n : Nat} {xs : List Value} (h : w.ownsRow B' 3 1 v n xs) (hl : Ln B w w') : w'.ownsRow B' 3 1 v n xs := owns_of h fun g hg => by
  rcases h.2 with ⟨rfl, _⟩ | ⟨g', c, cur, rfl, _, hh, _⟩
  · simp [Value.ownBlock] at hg
  · obtain rfl : g' = g := by simpa [Value.ownBlock] using hg
    exact hl.oth _ _ _ _ hh (by decide)
theorem Ls.ln {B B' : Nat} {w w' : World} {sp : Option Addr} {n cap : Nat} {zs : List Int} (h : Ls B' w sp n cap zs) (hb : Ln B w w') : Ls B' w' sp n cap zs := ⟨h.1, owns_ln h.2 hb⟩
theorem Ls.src {B : Nat} {w : World} {sp : Option Addr} {n cap : Nat} {zs : List Int} (h : Ls B w sp n cap zs) : Src w sp zs := by
  obtain ⟨rfl, h⟩ := h
  obtain ⟨sp', cap', e, hs⟩ := Src.own h
  simp only [Value.slice.injEq] at e
  obtain ⟨rfl, _⟩ := e
  exact hs
theorem Ls.base {B B' : Nat} {w : World} {sp : Option Addr} {n cap : Nat} {zs : List Int} (h : Ls B' w sp n cap zs) (hb : B ≤ B') : Ls B w sp n cap zs := ⟨h.1, owns_base h.2 hb⟩
/-- what a call of a queue finds and leaves -/
theorem put_at {B : Nat} {w : World} {p : Nat} {xs ys : List (Int × Int)} (h : Qu B w p xs) (hB : B ≤ w.heap.size) (hl : xs.length < 1000) {z r e : Int} (he : putE xs z r = e) (hY : putL xs z r = ys) :
    Calls Tryd.prog 11 #[.pointer (some ⟨p, 0, none⟩), .int .i64 z, .int .i64 r] w fun v w' => v = .returned (.int .i64 e) ∧ Qu B w' p ys ∧ Ln B w w' := by
  subst he hY; exact qput_any h hl z r hB
theorem remove_at {B : Nat} {w : World} {p : Nat} {xs ys : List (Int × Int)} (h : Qu B w p xs) (hB : B ≤ w.heap.size) {z e : Int} (he : remE xs z = e) (hY : gone xs z = ys) :
    Calls Tryd.prog 7 #[.pointer (some ⟨p, 0, none⟩), .int .i64 z] w fun v w' => v = .returned (.int .i64 e) ∧ Qu B w' p ys ∧ Ln B w w' := by
  subst he hY; exact qremove_any h z hB
theorem change_at {B : Nat} {w : World} {p : Nat} {xs ys : List (Int × Int)} (h : Qu B w p xs) (hB : B ≤ w.heap.size) {z r e : Int} (he : chE xs z r = e) (hY : chL xs z r = ys) :
    Calls Tryd.prog 9 #[.pointer (some ⟨p, 0, none⟩), .int .i64 z, .int .i64 r] w fun v w' => v = .returned (.int .i64 e) ∧ Qu B w' p ys ∧ Ln B w w' := by
  subst he hY; exact qchange_any h z r hB
theorem list_at {B : Nat} {w : World} {p : Nat} {xs : List (Int × Int)} (h : Qu B w p xs) (hB : B ≤ w.heap.size) {zs : List Int} (hz : keys xs = zs) {n : Nat} (hn : zs.length = n) :
    Calls Tryd.prog 13 #[.pointer (some ⟨p, 0, none⟩)] w fun e w' => ∃ sp cap, e = .returned (.slice sp n cap) ∧ Ls w.heap.size w' sp n cap zs ∧ Below w.heap.size w w' := by
  refine (qlist_any h (n := n) (by rw [← hn, ← hz, keys_len]) hz).mono ?_
  rintro e w' ⟨sp, cap, he, ho, _, hb⟩
  exact ⟨sp, cap, he, ⟨hn, ho⟩, hb⟩
theorem three_src (w : World) (a b c : Int) : Src (w.alloc (.cells #[.int .i64 a, .int .i64 b, .int .i64 c] 3)) (some ⟨w.heap.size, 0, none⟩) [a, b, c] := fun _ =>
  ⟨w.heap.size, 0, rfl, fun i hi => by
    rw [cell_of (alloc_at w _)]
    rcases i with _ | _ | _ | i
    · rfl
    · rfl
    · rfl
    · simp at hi; omega⟩
/-- Q, as the chapter makes it -/
def Y1 : List (Int × Int) := putL [] 1 5
def Y2 : List (Int × Int) := putL Y1 2 7
def Y3 : List (Int × Int) := putL Y2 3 5
def Y4 : List (Int × Int) := chL Y3 1 4
theorem y_all : putE [] 1 5 = 0 ∧ putE Y1 2 7 = 0 ∧ putE Y2 3 5 = 0 ∧ keys Y3 = [2, 1, 3] ∧ chE Y3 1 4 = 0 ∧ keys Y4 = [2, 3, 1] ∧ chE Y4 3 5 = 0 ∧ chL Y4 3 5 = Y4 ∧ putE Y4 2 1 = 7 ∧ putL Y4 2 1 = Y4 ∧ Y1.length < 1000 ∧ Y2.length < 1000 ∧ Y4.length < 1000 := by decide +kernel
set_option maxHeartbeats 8000000 in
theorem lives_any (w : World) : Calls Tryd.prog 4 #[] w fun e w' => e = .returned (.bool true) ∧ Below w.heap.size w w' := by
  obtain ⟨a1, a2, a3, a4, a5, a6, a7, a8, a9, a10, l1, l2, l4⟩ := y_all
  have P1 : Hid (∀ {B p : Nat} {w : World}, Qu B w p [] → B ≤ w.heap.size → Calls Tryd.prog 11 #[.pointer (some ⟨p, 0, none⟩), .int .i64 1, .int .i64 5] w fun v w' => v = .returned (.int .i64 0) ∧ Qu B w' p Y1 ∧ Ln B w w') := fun h hB => put_at h hB (by decide) a1 rfl
  have P2 : Hid (∀ {B p : Nat} {w : World}, Qu B w p Y1 → B ≤ w.heap.size → Calls Tryd.prog 11 #[.pointer (some ⟨p, 0, none⟩), .int .i64 2, .int .i64 7] w fun v w' => v = .returned (.int .i64 0) ∧ Qu B w' p Y2 ∧ Ln B w w') := fun h hB => put_at h hB l1 a2 rfl
  have P3 : Hid (∀ {B p : Nat} {w : World}, Qu B w p Y2 → B ≤ w.heap.size → Calls Tryd.prog 11 #[.pointer (some ⟨p, 0, none⟩), .int .i64 3, .int .i64 5] w fun v w' => v = .returned (.int .i64 0) ∧ Qu B w' p Y3 ∧ Ln B w w') := fun h hB => put_at h hB l2 a3 rfl
  have L3 : Hid (∀ {B p : Nat} {w : World}, Qu B w p Y3 → B ≤ w.heap.size → Calls Tryd.prog 13 #[.pointer (some ⟨p, 0, none⟩)] w fun e w' => ∃ sp cap, e = .returned (.slice sp 3 cap) ∧ Ls w.heap.size w' sp 3 cap [2, 1, 3] ∧ Below w.heap.size w w') := fun h hB => list_at h hB a4 rfl
  have C4 : Hid (∀ {B p : Nat} {w : World}, Qu B w p Y3 → B ≤ w.heap.size → Calls Tryd.prog 9 #[.pointer (some ⟨p, 0, none⟩), .int .i64 1, .int .i64 4] w fun v w' => v = .returned (.int .i64 0) ∧ Qu B w' p Y4 ∧ Ln B w w') := fun h hB => change_at h hB a5 rfl
  have L4 : Hid (∀ {B p : Nat} {w : World}, Qu B w p Y4 → B ≤ w.heap.size → Calls Tryd.prog 13 #[.pointer (some ⟨p, 0, none⟩)] w fun e w' => ∃ sp cap, e = .returned (.slice sp 3 cap) ∧ Ls w.heap.size w' sp 3 cap [2, 3, 1] ∧ Below w.heap.size w w') := fun h hB => list_at h hB a6 rfl
  have C5 : Hid (∀ {B p : Nat} {w : World}, Qu B w p Y4 → B ≤ w.heap.size → Calls Tryd.prog 9 #[.pointer (some ⟨p, 0, none⟩), .int .i64 3, .int .i64 5] w fun v w' => v = .returned (.int .i64 0) ∧ Qu B w' p Y4 ∧ Ln B w w') := fun h hB => change_at h hB a7 a8
  have P6 : Hid (∀ {B p : Nat} {w : World}, Qu B w p Y4 → B ≤ w.heap.size → Calls Tryd.prog 11 #[.pointer (some ⟨p, 0, none⟩), .int .i64 2, .int .i64 1] w fun v w' => v = .returned (.int .i64 7) ∧ Qu B w' p Y4 ∧ Ln B w w') := fun h hB => put_at h hB l4 a9 a10
  clear a1 a2 a3 a4 a5 a6 a7 a8 a9 a10 l1 l2 l4
  obtain ⟨B, hBB⟩ : ∃ B, w.heap.size = B := ⟨_, rfl⟩
  have HBB : Hid (w.heap.size = B) := hBB
  have hN := qnew_any w
  rw [hBB] at hN ⊢
  clear hBB
  go_enter Tryd.func4, Tryd.ntmps4
  go_wp2_with (first
    | (go_at_call 13; have := Z9; refine (qlist_nil).mono ?_; rintro e wx ⟨rfl, rfl⟩)
    | (go_at_call 11; have := Z8; refine (qput_nil 1 1).mono ?_; rintro e wx ⟨rfl, rfl⟩; have Z9 := True.intro)
    | (go_at_call 11; refine (P6.out Q13.out M.le).mono ?_; rintro e w14 ⟨rfl, q14, m14⟩; replace M := M.ln m14; have Z8 := True.intro; clear q14 m14)
    | (go_at_call 16; refine (same_is S12.out.1.src S12.out.2.src rfl (by decide) _ _).mono ?_; rintro e w13 ⟨rfl, m13⟩; have Q13 : Hid (Qu B w13 _ Y4) := Q12.out.below m13; replace M := M.low m13; clear m13 Q12 S12)
    | (go_at_call 13; refine (L4.out Q11.out M.le).mono ?_; rintro e w12 ⟨sp12, c12, rfl, s12, m12⟩; have S12 : Hid (Ls _ w12 sp12 3 c12 [2, 3, 1] ∧ Ls _ w12 sp7 3 c7 [2, 3, 1]) := ⟨s12, S11.out.below m12⟩; have Q12 : Hid (Qu B w12 _ Y4) := Q11.out.below m12; replace M := M.low m12; clear m12 Q11 S11)
    | (go_at_call 16; refine (same_is (S10.out.src.below (alloc_below _ _)) (three_src _ 2 3 1) rfl (by decide) _ _).mono ?_; rintro e w11 ⟨rfl, m11⟩; have S11 : Hid (Ls _ w11 sp7 3 c7 [2, 3, 1]) := (S10.out.below (alloc_below _ _)).below m11; have Q11 : Hid (Qu B w11 _ Y4) := (Q10.out.below (alloc_below _ _)).below m11; replace M := (M.low (alloc_below _ _)).low m11; clear m11 Q10 S10)
    | (go_at_call 16; refine (same_is (S8.out.1.src.below (alloc_below _ _)) (three_src _ 2 1 3) rfl (by decide) _ _).mono ?_; rintro e w10 ⟨rfl, m10⟩; have S10 : Hid (Ls _ w10 sp7 3 c7 [2, 3, 1]) := (S8.out.2.below (alloc_below _ _)).below m10; have Q10 : Hid (Qu B w10 _ Y4) := (Q8.out.below (alloc_below _ _)).below m10; replace M := (M.low (alloc_below _ _)).low m10; clear m10 Q8 S8)
    | (go_at_call 9; refine (C5.out Q7.out M.le).mono ?_; rintro e w8 ⟨rfl, q8, m8⟩; have S8 : Hid (Ls _ w8 sp5 3 c5 [2, 1, 3] ∧ Ls _ w8 sp7 3 c7 [2, 3, 1]) := ⟨S7.out.1.ln m8, S7.out.2.ln m8⟩; have Q8 : Hid (Qu B w8 _ Y4) := q8; replace M := M.ln m8; clear q8 m8 Q7 S7)
    | (go_at_call 13; refine (L4.out Q6.out M.le).mono ?_; rintro e w7 ⟨sp7, c7, rfl, s7, m7⟩; have S7 : Hid (Ls _ w7 sp5 3 c5 [2, 1, 3] ∧ Ls _ w7 sp7 3 c7 [2, 3, 1]) := ⟨S6.out.below m7, s7⟩; have Q7 : Hid (Qu B w7 _ Y4) := Q6.out.below m7; replace M := M.low m7; clear s7 m7 Q6 S6)
    | (go_at_call 9; refine (C4.out Q5.out M.le).mono ?_; rintro e w6 ⟨rfl, q6, m6⟩; have S6 : Hid (Ls _ w6 sp5 3 c5 [2, 1, 3]) := S5.out.ln m6; have Q6 : Hid (Qu B w6 _ Y4) := q6; replace M := M.ln m6; clear q6 m6 Q5 S5)
    | (go_at_call 13; refine (L3.out Q3.out M.le).mono ?_; rintro e w5 ⟨sp5, c5, rfl, s5, m5⟩; have S5 : Hid (Ls _ w5 sp5 3 c5 [2, 1, 3]) := s5; have Q5 : Hid (Qu B w5 _ Y3) := Q3.out.below m5; replace M := M.low m5; clear s5 m5 Q3)
    | (go_at_call 11; refine (P3.out Q2.out M.le).mono ?_; rintro e w3 ⟨rfl, q3, m3⟩; have Q3 : Hid (Qu B w3 _ Y3) := q3; replace M := M.ln m3; clear q3 m3 Q2)
    | (go_at_call 11; refine (P2.out Q1.out M.le).mono ?_; rintro e w2 ⟨rfl, q2, m2⟩; have Q2 : Hid (Qu B w2 _ Y2) := q2; replace M := M.ln m2; clear q2 m2 Q1)
    | (go_at_call 11; refine (P1.out Q0.out M.le).mono ?_; rintro e w1 ⟨rfl, q1, m1⟩; have Q1 : Hid (Qu B w1 _ Y1) := q1; replace M := M.ln m1; clear q1 m1 Q0)
    | (go_at_call 5; refine hN.mono ?_; rintro e w0 ⟨rfl, q0, m0⟩; have Q0 : Hid (Qu B w0 _ []) := q0; have M : Far B w w0 := ⟨m0, by have := m0.size; have := HBB.out; omega⟩; clear q0 m0))
  go_ret
  exact ⟨rfl, M.low'⟩
end Go.Proofs.YtmdhlgdikchhlaaDoor
