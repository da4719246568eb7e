/- The statements' own function 'lives' answers true. -/
import Derived.Test.YtcjjaofmicegfaaDoorSame
namespace Go.Proofs.YtcjjaofmicegfaaDoor
open Go Go.RowKit
set_option maxRecDepth 100000
set_option linter.unusedVariables false
set_option linter.unusedSimpArgs false
/-- what lies below stays -/
structure Far (B : Nat) (w w' : World) : Prop where
  low' : Below B w w'
  le : B ≤ w'.heap.size
theorem Far.low {B : Nat} {w a b : World} (h : Far B w a) (m : Below a.heap.size a b) : Far B w b := ⟨h.low'.trans (m.mono h.le), Nat.le_trans h.le m.size⟩
theorem Far.refl {B : Nat} {w : World} (h : w.heap.size = B) : Far B w w := ⟨Below.refl _ _, by omega⟩
/-- a list that was told -/
def Ls (B : Nat) (w : World) (sp : Option Addr) (n cap : Nat) (zs : List Int) : Prop := zs.length = n ∧ w.ownsRow B 3 1 (.slice sp n cap) n (zs.map (Value.int .i64))
theorem Ls.below {B : Nat} {w w' : World} {sp : Option Addr} {n cap : Nat} {zs : List Int} (h : Ls B w sp n cap zs) (hb : Below w.heap.size w w') : Ls B w' sp n cap zs := ⟨h.1, owns_below h.2 hb⟩
theorem Ls.src {B : Nat} {w : World} {sp : Option Addr} {n cap : Nat} {zs : List Int} (h : Ls B w sp n cap zs) : Src w sp zs := by
  obtain ⟨rfl, h⟩ := h
  obtain ⟨sp', cap', e, hs⟩ := Src.own h
  simp only [Value.slice.injEq] at e
  obtain ⟨rfl, _⟩ := e
  exact hs
theorem Ls.base {B B' : Nat} {w : World} {sp : Option Addr} {n cap : Nat} {zs : List Int} (h : Ls B' w sp n cap zs) (hb : B ≤ B') : Ls B w sp n cap zs := ⟨h.1, owns_base h.2 hb⟩
/-- Ranks, where they are known -/
theorem ranks_lst {w : World} {sp sq : Option Addr} {bs ws : List Int} (hs : Src w sp bs) (ht : Src w sq ws) (hv : Val bs ws) {n m c d : Nat} (hn : bs.length = n) (hm : ws.length = m) :
    Calls Tryd.prog 6 #[.slice sp n c, .slice sq m d] w fun e w' => ∃ l s1 c1, e = .returned (.tuple #[.slice s1 n c1, .int .i64 0]) ∧ Lst bs ws l ∧ Ls w.heap.size w' s1 n c1 l ∧ Below w.heap.size w w' := by
  subst hn hm
  refine (ranks_yes hs ht hv c d).mono ?_
  rintro e w' ⟨v, l, rfl, hl, ho, hb⟩
  have hlen := hl.mid.len
  rw [← hlen] at ho
  obtain ⟨s1, c1, rfl, _⟩ := Src.own ho
  rw [hlen] at ho ⊢
  exact ⟨l, s1, c1, rfl, hl, ⟨hlen, ho⟩, hb⟩
theorem ranks_at {w : World} {sp sq : Option Addr} {bs ws l : List Int} (hs : Src w sp bs) (ht : Src w sq ws) (hv : Val bs ws) (hl : Lst bs ws l) {n m c d : Nat} (hn : bs.length = n) (hm : ws.length = m) :
    Calls Tryd.prog 6 #[.slice sp n c, .slice sq m d] w fun e w' => ∃ s1 c1, e = .returned (.tuple #[.slice s1 n c1, .int .i64 0]) ∧ Ls w.heap.size w' s1 n c1 l ∧ Below w.heap.size w w' := by
  refine (ranks_lst hs ht hv hn hm).mono ?_
  rintro e w' ⟨l', s1, c1, rfl, hl', h1, h2⟩
  rw [hl'.same hv hl] at h1
  exact ⟨s1, c1, rfl, h1, h2⟩
theorem circle_at {w : World} {sq : Option Addr} {ws : List Int} (hs : Src w sq ws) {m c : Nat} (hm : ws.length = m) (hl : m ≤ 140737488355328) {who whom : Int} {b : Bool} (hb : b = true ↔ Circ ws who whom) :
    Calls Tryd.prog 12 #[.slice sq m c, .int .i64 who, .int .i64 whom] w fun e w' => e = .returned (.bool b) ∧ Below w.heap.size w w' := by
  subst hm; exact circle_is hs hl c hb
theorem three_src (w : World) (a b c : Int) : Src (w.alloc (.cells #[.int .i64 a, .int .i64 b, .int .i64 c] 3)) (some ⟨w.heap.size, 0, none⟩) [a, b, c] := fun _ =>
  ⟨w.heap.size, 0, rfl, fun i hi => by
    rw [cell_of (alloc_at w _)]
    rcases i with _ | _ | _ | i
    · rfl
    · rfl
    · rfl
    · simp at hi; omega⟩
theorem ranks_three (w : World) (a b c d e f : Int) {l : List Int} (hv : Val [a, b, c] [d, e, f]) (hl : Lst [a, b, c] [d, e, f] l) :
    Calls Tryd.prog 6 #[.slice (some ⟨w.heap.size, 0, none⟩) 3 3, .slice (some ⟨w.heap.size + 1, 0, none⟩) 3 3] ((w.alloc (.cells #[.int .i64 a, .int .i64 b, .int .i64 c] 3)).alloc (.cells #[.int .i64 d, .int .i64 e, .int .i64 f] 3)) fun e w' => ∃ s1 c1, e = .returned (.tuple #[.slice s1 3 c1, .int .i64 0]) ∧ Ls w.heap.size w' s1 3 c1 l ∧ Below w.heap.size w w' := by
  have h2 := three_src (w.alloc (.cells #[.int .i64 a, .int .i64 b, .int .i64 c] 3)) d e f
  rw [alloc_size] at h2
  refine (ranks_at ((three_src w a b c).below (alloc_below _ _)) h2 hv hl rfl rfl).mono ?_
  rintro e w' ⟨s1, c1, rfl, h3, h4⟩
  have hb : Below w.heap.size w ((w.alloc (.cells #[.int .i64 a, .int .i64 b, .int .i64 c] 3)).alloc (.cells #[.int .i64 d, .int .i64 e, .int .i64 f] 3)) := (alloc_below w _).trans ((alloc_below _ _).mono (by rw [alloc_size]; omega))
  exact ⟨s1, c1, rfl, h3.base hb.size, hb.trans (h4.mono hb.size)⟩
theorem val1 : Val [1, 5, 3] [-1, 0, 1] := ⟨rfl, by decide, by unfold List.length; decide, by unfold Plc; decide, by decide⟩
theorem val2 : Val [1, 9, 3] [2, 0, -1] := ⟨rfl, by decide, by unfold List.length; decide, by unfold Plc; decide, by decide⟩
theorem lst1 : Lst [1, 5, 3] [-1, 0, 1] [5, 5, 3] := by
  refine ⟨⟨rfl, by decide, fun i hi => ?_⟩, by unfold Shut; decide⟩
  rcases i with _ | _ | _ | i
  · exact ⟨1, 1, by decide, by decide, by decide⟩
  · exact ⟨1, 0, by decide, by decide, by decide⟩
  · exact ⟨2, 0, by decide, by decide, by decide⟩
  · simp at hi; omega
theorem lst2 : Lst [1, 9, 3] [2, 0, -1] [9, 9, 9] := by
  refine ⟨⟨rfl, by decide, fun i hi => ?_⟩, by unfold Shut; decide⟩
  rcases i with _ | _ | _ | i
  · exact ⟨1, 1, by decide, by decide, by decide⟩
  · exact ⟨1, 0, by decide, by decide, by decide⟩
  · exact ⟨1, 2, by decide, by decide, by decide⟩
  · simp at hi; omega
theorem circ1 : Circ [2, 0, -1] 2 1 := ⟨by decide, by decide, val2.plc, 2, by decide, by decide⟩
theorem circ2 : ¬ Circ [2, 0, -1] 1 2 := by
  rintro ⟨_, _, _, k, hk, e⟩
  rcases k with _ | _ | _ | k
  · revert e; decide
  · revert e; decide
  · revert e; decide
  · simp at hk; omega
set_option maxHeartbeats 8000000 in
theorem lives_any (w : World) : Calls Tryd.prog 4 #[] w fun e w' => e = .returned (.bool true) ∧ Below w.heap.size w w' := by
  obtain ⟨B, hBB⟩ : ∃ B, w.heap.size = B := ⟨_, rfl⟩
  have M : Far B w w := Far.refl hBB
  have HBB : Hid (w.heap.size = B) := hBB
  rw [hBB]
  clear hBB
  go_enter Tryd.func4, Tryd.ntmps4
  go_wp2_with (first
    | (go_at_call 12; have := Z1; refine (circle_at (b := false) (three_src _ 2 0 (-1)) rfl (by decide) (by simp [circ2])).mono ?_; rintro e w6 ⟨rfl, m6⟩; replace M := (M.low (alloc_below _ _)).low m6; clear m6)
    | (go_at_call 12; refine (circle_at (b := true) (three_src _ 2 0 (-1)) rfl (by decide) (by simp [circ1])).mono ?_; rintro e w5 ⟨rfl, m5⟩; replace M := (M.low (alloc_below _ _)).low m5; clear m5; have Z1 := True.intro)
    | (go_at_call 8; refine (same_is (S3.out.src.below (alloc_below _ _)) (three_src _ 9 9 9) rfl (by decide) _ _).mono ?_; rintro e w4 ⟨rfl, m4⟩; replace M := (M.low (alloc_below _ _)).low m4; clear m4 S3)
    | (go_at_call 8; refine (same_is (S2.out.1.src.below (alloc_below _ _)) (three_src _ 5 5 3) rfl (by decide) _ _).mono ?_; rintro e w3 ⟨rfl, m3⟩; have S3 : Hid (Ls _ w3 s2 3 c2 [9, 9, 9]) := (S2.out.2.below (alloc_below _ _)).below m3; replace M := (M.low (alloc_below _ _)).low m3; clear m3 S2)
    | (go_at_call 6; have := S1; refine (ranks_three _ 1 9 3 2 0 (-1) val2 lst2).mono ?_; rintro e w2 ⟨s2, c2, rfl, l2, m2⟩; have S2 : Hid (Ls _ w2 s1 3 c1 [5, 5, 3] ∧ Ls _ w2 s2 3 c2 [9, 9, 9]) := ⟨S1.out.below m2, l2⟩; replace M := M.low m2; clear m2 l2 S1)
    | (go_at_call 6; refine (ranks_three _ 1 5 3 (-1) 0 1 val1 lst1).mono ?_; rintro e w1 ⟨s1, c1, rfl, l1, m1⟩; have S1 : Hid (Ls _ w1 s1 3 c1 [5, 5, 3]) := l1; replace M := M.low m1; clear m1 l1))
  go_ret
  exact ⟨rfl, M.low'⟩
end Go.Proofs.YtcjjaofmicegfaaDoor
