/- What the statements' own helpers answer: 'SameInts' tells that two lists alike are alike; 'alive' answers true; 'unlike' tells unlike numbers; 'filled' makes a ring of them. -/
import Derived.Test.YtppookpacdheaaaArgs
import Derived.Test.YtppookpacdheaaaTop
import Derived.Test.YtppookpacdheaaaMore
namespace Go.Proofs.Ytppookpacdheaaa
open Go Go.RowKit
set_option maxRecDepth 100000
set_option linter.unusedVariables false
theorem same_yes {w : World} {sp tp : Option Addr} {zs : List Int} (hs : Src w sp zs) (ht : Src w tp zs) (hl : zs.length ≤ 1000000) (c d : Nat) :
    Calls Try.prog 17 #[.slice sp zs.length c, .slice tp zs.length d] w fun e w' => e = .returned (.bool true) ∧ Below w.heap.size w w' := by
  by_cases h0 : zs.length = 0
  · rw [h0]
    clear hs ht hl h0
    go_enter Try.func17, Try.ntmps17
    go_wp2
    refine wp_loop_rounds 1 ?_
    rw [rounds_succ]
    go_wp2
    go_ret
    exact ⟨rfl, Below.refl _ _⟩
  · obtain ⟨b1, o1, rfl, c1⟩ := hs (by omega)
    obtain ⟨b2, o2, rfl, c2⟩ := ht (by omega)
    have l1 := cell_lt (c1 0 (by omega))
    have l2 := cell_lt (c2 0 (by omega))
    have C1 : Hid (∀ i, i < zs.length → w.cell? ⟨b1, o1 + i, none⟩ = some (.int .i64 (zs.getD i 0))) := c1
    have C2 : Hid (∀ i, i < zs.length → w.cell? ⟨b2, o2 + i, none⟩ = some (.int .i64 (zs.getD i 0))) := c2
    clear hs ht h0 c1 c2
    generalize zs.length = n at *
    go_enter Try.func17, Try.ntmps17
    go_wp2
    go_loopg [5] n (fun g s5 wx => ∃ i : Nat, i + g = n ∧ s5 = .int .i64 i ∧ Below w.heap.size w wx)
    case atStart => exact ⟨0, by omega, rfl, Below.refl _ _⟩
    case round =>
      obtain ⟨i, hig, rfl, hB⟩ := hrel
      cases gk with
      | zero =>
        have hlt : ¬ ((i : Int) < n) := by omega
        go_wp2
        go_ret
        exact ⟨rfl, hB⟩
      | succ g =>
        have hlt : (i : Int) < n := by omega
        have k1 := (hB.cell (p := ⟨b1, o1 + i, none⟩) l1).trans (C1.out i (by omega))
        have k2 := (hB.cell (p := ⟨b2, o2 + i, none⟩) l2).trans (C2.out i (by omega))
        generalize zs.getD i 0 = z at *
        go_wp2
        go_quiet ((fail))
        go_wp2
        go_roundg g
        case measure => omega
        case rel => exact ⟨i + 1, by omega, by go_num, hB.trans ((below_drewN _ _).mono hB.size)⟩
theorem Src.row {w : World} {g : Nat} {zs : List Int} (h : Row w g zs) : Src w (some ⟨g, 0, none⟩) zs := fun _ => ⟨g, 0, rfl, fun i hi => by rw [Nat.zero_add]; exact h.cell i hi⟩
theorem put_is {w : World} {p g n : Nat} {xs ys : List Int} {e : Int} (h : Ring w p g n xs) (z : Int) (he : addE xs n z = e) (hy : putL xs n z = ys) :
    Calls Try.prog 9 #[.pointer (some ⟨p, 0, none⟩), .int .i64 z] w fun r w' => r = .returned (.int .i64 e) ∧ Ring w' p g n ys ∧ Buts [p, g] w w' := by subst he hy; exact put_any h z
theorem push_is {w : World} {p g n : Nat} {xs ys : List Int} {e : Int} (h : Ring w p g n xs) (z : Int) (he : addE xs n z = e) (hy : pushL xs n z = ys) :
    Calls Try.prog 10 #[.pointer (some ⟨p, 0, none⟩), .int .i64 z] w fun r w' => r = .returned (.int .i64 e) ∧ Ring w' p g n ys ∧ Buts [p, g] w w' := by subst he hy; exact push_any h z
theorem take_is {w : World} {p g n : Nat} {xs ys : List Int} {x e : Int} (h : Ring w p g n xs) (hx : xs.headD 0 = x) (he : takeE xs = e) (hy : xs.tail = ys) :
    Calls Try.prog 8 #[.pointer (some ⟨p, 0, none⟩)] w fun r w' => r = .returned (.tuple #[.int .i64 x, .int .i64 e]) ∧ Ring w' p g n ys ∧ Buts [p, g] w w' := by subst hx he hy; exact take_any h
theorem remove_is {w : World} {p g n : Nat} {xs ys : List Int} {e : Int} (h : Ring w p g n xs) (z : Int) (he : remE xs z = e) (hy : xs.erase z = ys) :
    Calls Try.prog 11 #[.pointer (some ⟨p, 0, none⟩), .int .i64 z] w fun r w' => r = .returned (.int .i64 e) ∧ Ring w' p g n ys ∧ Buts [p, g] w w' := by subst he hy; exact remove_any h z
theorem turn_is {w : World} {p g n : Nat} {xs ys : List Int} {e : Int} (h : Ring w p g n xs) (he : takeE xs = e) (hy : turnL xs = ys) :
    Calls Try.prog 12 #[.pointer (some ⟨p, 0, none⟩)] w fun r w' => r = .returned (.int .i64 e) ∧ Ring w' p g n ys ∧ Buts [p, g] w w' := by subst he hy; exact turn_any h
theorem list_is {w : World} {p g n m : Nat} {xs : List Int} (h : Ring w p g n xs) (hm : xs.length = m) :
    Calls Try.prog 13 #[.pointer (some ⟨p, 0, none⟩)] w fun e w' => e = .returned (.slice (some ⟨w.heap.size, 0, none⟩) m m) ∧ Row w' w.heap.size xs ∧ Below w.heap.size w w' := by subst hm; exact list_any h
theorem same_is {w : World} {sp tp : Option Addr} {zs : List Int} {n : Nat} (hs : Src w sp zs) (ht : Src w tp zs) (hn : zs.length = n) (hl : n ≤ 1000000) (c d : Nat) :
    Calls Try.prog 17 #[.slice sp n c, .slice tp n d] w fun e w' => e = .returned (.bool true) ∧ Below w.heap.size w w' := by subst hn; exact same_yes hs ht hl c d
theorem two_mem {p g r : Nat} (h1 : r ≠ p) (h2 : r ≠ g) : r ∉ [p, g] := by simp [h1, h2]
theorem new3 (w : World) : Calls Try.prog 18 #[.int .i64 3] w fun e w' => e = .returned (.tuple #[.pointer (some ⟨w.heap.size + 1, 0, none⟩), .int .i64 0]) ∧ Ring w' (w.heap.size + 1) w.heap.size 3 [] ∧ Below w.heap.size w w' := new_yes 3 (by decide) (by decide)
theorem lit3 (w : World) : Src (w.alloc (.cells #[.int .i64 5, .int .i64 6, .int .i64 4] 3)) (some ⟨w.heap.size, 0, none⟩) [5, 6, 4] := Src.row (alloc_at w _)
theorem lit1 (w : World) : Src (w.alloc (.cells #[.int .i64 4] 3)) (some ⟨w.heap.size, 0, none⟩) [4] := Src.row (alloc_at w _)
set_option maxHeartbeats 4000000 in
theorem alive_any (w : World) : Calls Try.prog 14 #[] w fun e w' => e = .returned (.bool true) ∧ Below w.heap.size w w' := by
  go_enter Try.func14, Try.ntmps14
  go_wp2_with (first
    | (go_at_call_of 18 (Value.int IntKind.i64 3); refine (new3 _).mono ?_; rintro e w0 ⟨rfl, hr, hB⟩; have H0 : Hid (Ring w0 (w.heap.size + 1) w.heap.size 3 []) := hr; clear hr)
    | (go_at_call 18; refine (new_no 1025 (by omega)).mono ?_; rintro e wx ⟨rfl, hwx⟩; obtain rfl := hwx.symm)
    | (go_at_call 9; refine (put_is H5.out (-1) (e := 1) (ys := [4, 5, 6]) (by decide) (by decide)).mono ?_; rintro e w6 ⟨rfl, hr, hb⟩; have H6 : Hid (Ring w6 (w.heap.size + 1) w.heap.size 3 [4, 5, 6]) := hr; replace hB := hB.trans (two_below hb (by omega) (by omega) hB.size); clear hr hb H5)
    | (go_at_call_of 9 (Value.int IntKind.i64 5); refine (put_is H4.out 5 (e := 7) (ys := [4, 5, 6]) (by decide) (by decide)).mono ?_; rintro e w5 ⟨rfl, hr, hb⟩; have H5 : Hid (Ring w5 (w.heap.size + 1) w.heap.size 3 [4, 5, 6]) := hr; replace hB := hB.trans (two_below hb (by omega) (by omega) hB.size); clear hr hb H4)
    | (go_at_call_of 9 (Value.int IntKind.i64 7); refine (put_is H3.out 7 (e := 10) (ys := [4, 5, 6]) (by decide) (by decide)).mono ?_; rintro e w4 ⟨rfl, hr, hb⟩; have H4 : Hid (Ring w4 (w.heap.size + 1) w.heap.size 3 [4, 5, 6]) := hr; replace hB := hB.trans (two_below hb (by omega) (by omega) hB.size); clear hr hb H3)
    | (go_at_call 10; refine (push_is H2.out 4 (e := 0) (ys := [4, 5, 6]) (by decide) (by decide)).mono ?_; rintro e w3 ⟨rfl, hr, hb⟩; have H3 : Hid (Ring w3 (w.heap.size + 1) w.heap.size 3 [4, 5, 6]) := hr; replace hB := hB.trans (two_below hb (by omega) (by omega) hB.size); clear hr hb H2)
    | (go_at_call_of 9 (Value.int IntKind.i64 6); refine (put_is H1.out 6 (e := 0) (ys := [5, 6]) (by decide) (by decide)).mono ?_; rintro e w2 ⟨rfl, hr, hb⟩; have H2 : Hid (Ring w2 (w.heap.size + 1) w.heap.size 3 [5, 6]) := hr; replace hB := hB.trans (two_below hb (by omega) (by omega) hB.size); clear hr hb H1)
    | (go_at_call_of 9 (Value.int IntKind.i64 5); refine (put_is H0.out 5 (e := 0) (ys := [5]) (by decide) (by decide)).mono ?_; rintro e w1 ⟨rfl, hr, hb⟩; have H1 : Hid (Ring w1 (w.heap.size + 1) w.heap.size 3 [5]) := hr; replace hB := hB.trans (two_below hb (by omega) (by omega) hB.size); clear hr hb H0)
    | (go_at_call 12; refine (turn_is H6.out (e := 0) (ys := [5, 6, 4]) (by decide) (by decide)).mono ?_; rintro e w7 ⟨rfl, hr, hb⟩; have H7 : Hid (Ring w7 (w.heap.size + 1) w.heap.size 3 [5, 6, 4]) := hr; replace hB := hB.trans (two_below hb (by omega) (by omega) hB.size); clear hr hb H6)
    | (go_at_call 13; refine (list_is H11.out (m := 1) rfl).mono ?_; rintro e w12 ⟨rfl, hr, hb⟩; have H12 : Hid (Ring w12 (w.heap.size + 1) w.heap.size 3 [4]) := H11.out.below hb; have HL2 : Hid (Row w12 w11.heap.size [4]) := hr; replace hB := hB.trans (hb.mono hB.size); have HQ2 : Hid (w11.heap.size < w12.heap.size) := hr.lt; clear hr hb H11)
    | (go_at_call 13; refine (list_is H7.out (m := 3) rfl).mono ?_; rintro e w8 ⟨rfl, hr, hb⟩; have H8 : Hid (Ring w8 (w.heap.size + 1) w.heap.size 3 [5, 6, 4]) := H7.out.below hb; have HL : Hid (Row w8 w7.heap.size [5, 6, 4]) := hr; have HQ : Hid (w.heap.size + 1 < w7.heap.size) := H7.out.lt.1; replace hB := hB.trans (hb.mono hB.size); clear hr hb H7)
    | (go_at_call 11; refine (remove_is H13.out 6 (e := 1) (ys := [4]) (by decide) (by decide)).mono ?_; rintro e w14 ⟨rfl, hr, hb⟩; replace hB := hB.trans (two_below hb (by omega) (by omega) hB.size); clear hr hb)
    | (go_at_call 11; refine (remove_is H8.out 6 (e := 0) (ys := [5, 4]) (by decide) (by decide)).mono ?_; rintro e w9 ⟨rfl, hr, hb⟩; have H9 : Hid (Ring w9 (w.heap.size + 1) w.heap.size 3 [5, 4]) := hr; replace hB := hB.trans (two_below hb (by omega) (by omega) hB.size); replace HL : Hid (Row w9 w7.heap.size [5, 6, 4]) := HL.out.buts hb (two_mem (by have := HQ.out; omega) (by have := HQ.out; omega)); clear hr hb H8)
    | (go_at_call 8; refine (take_is H9.out (x := 5) (e := 0) (ys := [4]) (by decide) (by decide) (by decide)).mono ?_; rintro e w10 ⟨rfl, hr, hb⟩; have H10 : Hid (Ring w10 (w.heap.size + 1) w.heap.size 3 [4]) := hr; replace hB := hB.trans (two_below hb (by omega) (by omega) hB.size); replace HL : Hid (Row w10 w7.heap.size [5, 6, 4]) := HL.out.buts hb (two_mem (by have := HQ.out; omega) (by have := HQ.out; omega)); clear hr hb H9)
    | (go_at_call 17; refine (same_is (Src.below (Src.row HL2.out) (alloc_below w12 _)) (lit1 w12) (n := 1) rfl (by decide) _ _).mono ?_; rintro e w13 ⟨rfl, hb⟩; replace hb := (alloc_below w12 _).trans (hb.mono (by rw [alloc_size]; omega)); have H13 : Hid (Ring w13 (w.heap.size + 1) w.heap.size 3 [4]) := H12.out.below hb; replace hB := hB.trans (hb.mono hB.size); clear hb H12)
    | (go_at_call 17; refine (same_is (Src.below (Src.row HL.out) (alloc_below w10 _)) (lit3 w10) (n := 3) rfl (by decide) _ _).mono ?_; rintro e w11 ⟨rfl, hb⟩; replace hb := (alloc_below w10 _).trans (hb.mono (by rw [alloc_size]; omega)); have H11 : Hid (Ring w11 (w.heap.size + 1) w.heap.size 3 [4]) := H10.out.below hb; replace hB := hB.trans (hb.mono hB.size); clear hb H10))
  go_ret
  exact ⟨rfl, hB⟩
end Go.Proofs.Ytppookpacdheaaa
