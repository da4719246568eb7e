/- Answers by what they come to; 'alive' answers true. -/
import Derived.Test.YtpbmnifnmnbojabArgs
namespace Go.Proofs.Ytpbmnifnmnbojab
open Go Go.RowKit
set_option maxRecDepth 100000
set_option linter.unusedVariables false
theorem new_is {w : World} (n : Nat) (h1 : 1 ≤ n) (hn : n ≤ 64) {k : Int} (hk : (n : Int) = k := by rfl) :
    Calls Try.prog 5 #[.int .i64 k] w fun e w' => e = .returned (.tuple #[.pointer (some ⟨w.heap.size, 0, none⟩), .int .i64 0]) ∧ Que w' w.heap.size n [] ∧ Below w.heap.size w w' := by subst hk; exact new_yes n h1 hn
theorem put_is {w : World} {p n : Nat} {xs ys : List Int} {e : Int} (h : Que w p n xs) (z : Int) (he : addE xs n = e) (hy : putL xs n z = ys) :
    Calls Try.prog 7 #[.pointer (some ⟨p, 0, none⟩), .int .u32 z] w fun r w' => r = .returned (.int .i64 e) ∧ Que w' p n ys ∧ Buts [p] w w' := by subst he hy; exact put_any h z
theorem push_is {w : World} {p n : Nat} {xs ys : List Int} {e : Int} (h : Que w p n xs) (z : Int) (he : addE xs n = e) (hy : pushL xs n z = ys) :
    Calls Try.prog 6 #[.pointer (some ⟨p, 0, none⟩), .int .u32 z] w fun r w' => r = .returned (.int .i64 e) ∧ Que w' p n ys ∧ Buts [p] w w' := by subst he hy; exact push_any h z
theorem take_is {w : World} {p n : Nat} {xs ys : List Int} {x e : Int} (h : Que w p n xs) (hx : xs.headD 0 = x) (he : takeE xs = e) (hy : xs.tail = ys) :
    Calls Try.prog 8 #[.pointer (some ⟨p, 0, none⟩)] w fun r w' => r = .returned (.tuple #[.int .u32 x, .int .i64 e]) ∧ Que w' p n ys ∧ Buts [p] w w' := by subst hx he hy; exact take_any h
theorem peek_is {w : World} {p n : Nat} {xs : List Int} {x e : Int} (h : Que w p n xs) (hx : xs.headD 0 = x) (he : takeE xs = e) :
    Calls Try.prog 11 #[.pointer (some ⟨p, 0, none⟩)] w fun r w' => r = .returned (.tuple #[.int .u32 x, .int .i64 e]) ∧ Below w.heap.size w w' := by
  subst hx he
  exact (peek_any h).mono fun e w' ⟨he, k, hk⟩ => ⟨he, by rw [hk]; exact below_drewN _ _⟩
theorem list_is {w : World} {p n m : Nat} {xs : List Int} (h : Que w p n xs) (hm : xs.length = m) :
    Calls Try.prog 9 #[.pointer (some ⟨p, 0, none⟩)] w fun e w' => e = .returned (.slice (some ⟨w.heap.size, 0, none⟩) m m) ∧ Row w' w.heap.size xs ∧ Below w.heap.size w w' := by subst hm; exact list_any h
theorem lit3 (w : World) : Src (w.alloc (.cells #[.int .u32 4, .int .u32 5, .int .u32 5] 28)) (some ⟨w.heap.size, 0, none⟩) [4, 5, 5] := Src.row (alloc_at w _)
theorem row_one {w w' : World} {g p : Nat} {xs : List Int} (h : Row w g xs) (hb : Buts [p] w w') (hg : g ≠ p) : Row w' g xs := h.buts hb (by simpa using hg)
set_option maxHeartbeats 4000000 in
theorem alive_any (w : World) : Calls Try.prog 4 #[] w fun e w' => e = .returned (.bool true) ∧ Below w.heap.size w w' := by
  go_enter Try.func4, Try.ntmps4
  go_wp2_with (first
    | (go_at_call_of 5 (Value.int IntKind.i64 3); refine (new_is 3 (by decide) (by decide)).mono ?_; rintro e w0 ⟨rfl, hr, hB⟩; have H0 : Hid (Que w0 w.heap.size 3 []) := hr; clear hr)
    | (go_at_call 5; refine (new_no 65 (by omega)).mono ?_; rintro e wx ⟨rfl, rfl⟩)
    | (go_at_call 7; refine (put_is H3.out 6 (e := 10) (ys := [4, 5, 5]) (by decide) (by decide)).mono ?_; rintro e w4 ⟨rfl, hr, hb⟩; have H4 : Hid (Que w4 w.heap.size 3 [4, 5, 5]) := hr; replace hB := hB.trans (one_below hb (Nat.le_refl _) hB.size); clear hr hb H3)
    | (go_at_call 6; refine (push_is H2.out 4 (e := 0) (ys := [4, 5, 5]) (by decide) (by decide)).mono ?_; rintro e w3 ⟨rfl, hr, hb⟩; have H3 : Hid (Que w3 w.heap.size 3 [4, 5, 5]) := hr; replace hB := hB.trans (one_below hb (Nat.le_refl _) hB.size); clear hr hb H2)
    | (go_at_call 7; refine (put_is H1.out 5 (e := 0) (ys := [5, 5]) (by decide) (by decide)).mono ?_; rintro e w2 ⟨rfl, hr, hb⟩; have H2 : Hid (Que w2 w.heap.size 3 [5, 5]) := hr; replace hB := hB.trans (one_below hb (Nat.le_refl _) hB.size); clear hr hb H1)
    | (go_at_call 7; refine (put_is H0.out 5 (e := 0) (ys := [5]) (by decide) (by decide)).mono ?_; rintro e w1 ⟨rfl, hr, hb⟩; have H1 : Hid (Que w1 w.heap.size 3 [5]) := hr; replace hB := hB.trans (one_below hb (Nat.le_refl _) hB.size); clear hr hb H0)
    | (go_at_call 9; refine (list_is H4.out (m := 3) rfl).mono ?_; rintro e w5 ⟨rfl, hr, hb⟩; have H5 : Hid (Que w5 w.heap.size 3 [4, 5, 5]) := H4.out.below hb; have HL : Hid (Row w5 w4.heap.size [4, 5, 5]) := hr; replace hB := hB.trans (hb.mono hB.size); clear hr hb H4)
    | (go_at_call 10; refine (same_is (Src.below (Src.row HL.out) (alloc_below w5 _)) (lit3 w5) (n := 3) rfl (by decide) _ _).mono ?_; rintro e w6 ⟨rfl, hb⟩; replace hb := (alloc_below w5 _).trans (hb.mono (by rw [alloc_size]; omega)); have H6 : Hid (Que w6 w.heap.size 3 [4, 5, 5]) := H5.out.below hb; replace hB := hB.trans (hb.mono hB.size); clear hb H5)
    | (go_at_call 11; refine (peek_is H6.out (x := 4) (e := 0) (by decide) (by decide)).mono ?_; rintro e w7 ⟨rfl, hb⟩; have H7 : Hid (Que w7 w.heap.size 3 [4, 5, 5]) := H6.out.below hb; replace hB := hB.trans (hb.mono hB.size); clear hb H6)
    | (go_at_call 8; refine (take_is H10.out (x := 0) (e := 11) (ys := []) (by decide) (by decide) (by decide)).mono ?_; rintro e w11 ⟨rfl, hr, hb⟩; have H11 : Hid (Que w11 w.heap.size 3 []) := hr; replace hB := hB.trans (one_below hb (Nat.le_refl _) hB.size); clear hr hb H10)
    | (go_at_call 8; refine (take_is H9.out (x := 5) (e := 0) (ys := []) (by decide) (by decide) (by decide)).mono ?_; rintro e w10 ⟨rfl, hr, hb⟩; have H10 : Hid (Que w10 w.heap.size 3 []) := hr; replace hB := hB.trans (one_below hb (Nat.le_refl _) hB.size); clear hr hb H9)
    | (go_at_call 8; refine (take_is H8.out (x := 5) (e := 0) (ys := [5]) (by decide) (by decide) (by decide)).mono ?_; rintro e w9 ⟨rfl, hr, hb⟩; have H9 : Hid (Que w9 w.heap.size 3 [5]) := hr; replace hB := hB.trans (one_below hb (Nat.le_refl _) hB.size); clear hr hb H8)
    | (go_at_call 8; refine (take_is H7.out (x := 4) (e := 0) (ys := [5, 5]) (by decide) (by decide) (by decide)).mono ?_; rintro e w8 ⟨rfl, hr, hb⟩; have H8 : Hid (Que w8 w.heap.size 3 [5, 5]) := hr; replace hB := hB.trans (one_below hb (Nat.le_refl _) hB.size); clear hr hb H7))
  go_ret
  exact ⟨rfl, hB⟩
end Go.Proofs.Ytpbmnifnmnbojab
