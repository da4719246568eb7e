/- 'SameThing' of two things that are seen alike. -/
import Derived.Test.YteicnekoogmmmaaGreatDoorKTry
namespace Go.Proofs.YteicnekoogmmmaaGreatDoor
open Go Go.RowKit
set_option maxRecDepth 100000
set_option linter.unusedVariables false
set_option maxHeartbeats 8000000 in
theorem same_thing {w : World} {k a b c o : Int} {xs zs : List Int} {s1 s2 r1 r2 : Option Addr} {n1 n2 c1 c2 d1 d2 : Nat} (hx : Src w s1 xs) (hz : Src w s2 zs) (hx' : Src w r1 xs) (hz' : Src w r2 zs) (h1 : xs.length = n1) (h2 : zs.length = n2) (l1 : n1 ≤ 64) (l2 : n2 ≤ 64) :
    Calls Tryz.prog 12 #[.agg (seec k a b c o (.slice s1 n1 c1) (.slice s2 n2 c2)), .agg (seec k a b c o (.slice r1 n1 d1) (.slice r2 n2 d2))] w fun e w' => e = .returned (.bool true) ∧ Below w.heap.size w w' := by
  have HB : Hid (Below w.heap.size w ((w.alloc (.cells (seec k a b c o (.slice s1 n1 c1) (.slice s2 n2 c2)) 55)).alloc (.cells (seec k a b c o (.slice r1 n1 d1) (.slice r2 n2 d2)) 55))) := (alloc_below w _).trans ((alloc_below _ _).mono (alloc_below w _).size)
  have C1 : Hid (∀ W, Below w.heap.size w W → Calls Tryz.prog 24 #[.slice s1 n1 c1, .slice r1 n1 d1] W fun e w' => e = .returned (.bool true) ∧ Below W.heap.size W w') := fun W hb => same_is (hx.below hb) (hx'.below hb) h1 (by omega) _ _
  have C2 : Hid (∀ W, Below w.heap.size w W → Calls Tryz.prog 24 #[.slice s2 n2 c2, .slice r2 n2 d2] W fun e w' => e = .returned (.bool true) ∧ Below W.heap.size W w') := fun W hb => same_is (hz.below hb) (hz'.below hb) h2 (by omega) _ _
  have C3 : Hid (∀ W : World, Calls Tryz.prog 24 #[.slice none 0 0, .slice none 0 0] W fun e w' => e = .returned (.bool true) ∧ Below W.heap.size W w') := fun W => same_is (zs := []) (n := 0) (fun h => absurd h (by simp)) (fun h => absurd h (by simp)) rfl (by omega) _ _
  have X1 : Hid (Blk ((w.alloc (.cells (seec k a b c o (.slice s1 n1 c1) (.slice s2 n2 c2)) 55)).alloc (.cells (seec k a b c o (.slice r1 n1 d1) (.slice r2 n2 d2)) 55)) w.heap.size (seec k a b c o (.slice s1 n1 c1) (.slice s2 n2 c2)) 55) := Blk.below (alloc_at w _) (alloc_below _ _)
  have Y1 : Hid (Blk ((w.alloc (.cells (seec k a b c o (.slice s1 n1 c1) (.slice s2 n2 c2)) 55)).alloc (.cells (seec k a b c o (.slice r1 n1 d1) (.slice r2 n2 d2)) 55)) (w.heap.size + 1) (seec k a b c o (.slice r1 n1 d1) (.slice r2 n2 d2)) 55) := by
    have h4 := alloc_at (w.alloc (.cells (seec k a b c o (.slice s1 n1 c1) (.slice s2 n2 c2)) 55)) (.cells (seec k a b c o (.slice r1 n1 d1) (.slice r2 n2 d2)) 55)
    rw [alloc_size] at h4
    exact h4
  clear hx hz hx' hz' h1 h2
  clear l1 l2
  unfold seec
  go_enter Tryz.func12, Tryz.ntmps12
  go_wp2_with (first
    | (go_at_call 24; have _ := B3.out; refine (C3.out _).mono ?_; rintro e w4 ⟨rfl, hb⟩; have B4 : Hid (Below w.heap.size w w4) := B3.out.trans (hb.mono B3.out.size); clear hb)
    | (go_at_call 24; have _ := B2.out; refine (C2.out _ B2.out).mono ?_; rintro e w3 ⟨rfl, hb⟩; have B3 : Hid (Below w.heap.size w w3) := B2.out.trans (hb.mono B2.out.size); have K8 : w3.cell? ⟨w.heap.size, 8, none⟩ = some (.int .i64 0) := (by rw [(X2.out.below hb).cell]; rfl); have K9 : w3.cell? ⟨w.heap.size, 9, none⟩ = some (.slice none 0 0) := (by rw [(X2.out.below hb).cell]; rfl); have L8 : w3.cell? ⟨w.heap.size + 1, 8, none⟩ = some (.int .i64 0) := (by rw [(Y2.out.below hb).cell]; rfl); have q3 := (X2.out.below hb).lt; have q4 := (Y2.out.below hb).lt; have L9 : w3.cell? ⟨w.heap.size + 1, 9, none⟩ = some (.slice none 0 0) := (by rw [(Y2.out.below hb).cell]; rfl); clear hb X2 Y2 C2 B2 q1 q2 K7 L7)
    | (go_at_call 24; refine (C1.out _ HB.out).mono ?_; rintro e w2 ⟨rfl, hb⟩; have B2 : Hid (Below w.heap.size w w2) := HB.out.trans (hb.mono HB.out.size); have X2 : Hid (Blk w2 w.heap.size (seec k a b c o (.slice s1 n1 c1) (.slice s2 n2 c2)) 55) := X1.out.below hb; have Y2 : Hid (Blk w2 (w.heap.size + 1) (seec k a b c o (.slice r1 n1 d1) (.slice r2 n2 d2)) 55) := Y1.out.below hb; have K7 : w2.cell? ⟨w.heap.size, 7, none⟩ = some (.slice s2 n2 c2) := (by rw [X2.out.cell]; rfl); have L7 : w2.cell? ⟨w.heap.size + 1, 7, none⟩ = some (.slice r2 n2 d2) := (by rw [Y2.out.cell]; rfl); have q1 := X2.out.lt; have q2 := Y2.out.lt; clear hb X1 Y1 C1 HB))
  go_ret
  exact ⟨rfl, B4.out⟩
end Go.Proofs.YteicnekoogmmmaaGreatDoor
