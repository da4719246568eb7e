/- What the statements' own helpers answer: 'alive' answers true; answers by what they come to. -/
import Derived.Test.YtkogmmldkpepaabArgs
import Derived.Test.YtkogmmldkpepaabSame
namespace Go.Proofs.Ytkogmmldkpepaab
open Go Go.RowKit
set_option maxRecDepth 100000
set_option linter.unusedVariables false
theorem Told.src {B : Nat} {w : World} {v : Value} {l : List Nat} (h : Told B w v l) : ∃ sp cap, v = .slice sp l.length cap ∧ Src w sp (ints l) := by
  have := Src.own (zs := ints l) (by rw [ints_len]; exact h)
  rw [ints_len] at this
  exact this
theorem nw_is {w : World} (n : Nat) (h1 : 1 ≤ n) (hn : n ≤ 256) {k : Int} (hk : (n : Int) = k := by rfl) :
    Calls Try.prog 6 #[.int .i64 k] w fun e w' => e = .returned (.tuple #[.pointer (some ⟨w.heap.size, 0, none⟩), .int .i64 0]) ∧ Tab w' w.heap.size n none0 ∧ Below w.heap.size w w' := by subst hk; exact new_yes n h1 hn
theorem mk_is {w : World} {p n : Nat} {s : Slots} {a : Nat} {b : Int} (H : Tab w p n s) (ha : makeH n s = a) (hb : makeE n s = b) {z : Int} (hz : (a : Int) = z := by rfl) :
    Calls Try.prog 7 #[.pointer (some ⟨p, 0, none⟩)] w fun e w' => e = .returned (.tuple #[.int .u32 z, .int .i64 b]) ∧ Tab w' p n (makeS n s) ∧ Buts [p] w w' := by subst hz ha hb; exact make_any H
theorem pl_is {w : World} {p n : Nat} {s : Slots} {a : Nat} {b : Int} (H : Tab w p n s) (h : Nat) (hh : h ≤ 4294967295) (ha : placeP s h = a) (hb : placeE s h = b) {x : Int} (hx : (h : Int) = x := by rfl) {z : Int} (hz : (a : Int) = z := by rfl) :
    Calls Try.prog 11 #[.pointer (some ⟨p, 0, none⟩), .int .u32 x] w fun e w' => e = .returned (.tuple #[.int .i64 z, .int .i64 b]) ∧ Below w.heap.size w w' := by subst hx hz ha hb; exact place_any H h hh
theorem dr_is {w : World} {p n : Nat} {s : Slots} {b : Int} (H : Tab w p n s) (h : Nat) (hh : h ≤ 4294967295) (hb : placeE s h = b) {x : Int} (hx : (h : Int) = x := by rfl) :
    Calls Try.prog 9 #[.pointer (some ⟨p, 0, none⟩), .int .u32 x] w fun e w' => e = .returned (.int .i64 b) ∧ Tab w' p n (dropS s h) ∧ Buts [p] w w' := by subst hx hb; exact drop_any H h hh
theorem li_is {w : World} {p n : Nat} {s : Slots} {l : List Nat} {m : Nat} (H : Tab w p n s) (hl : listL n s = l) (hm : l.length = m := by rfl) :
    Calls Try.prog 8 #[.pointer (some ⟨p, 0, none⟩)] w fun e w' => ∃ sp cap, e = .returned (.slice sp m cap) ∧ Src w' sp (ints l) ∧ Below w.heap.size w w' := by
  subst hl hm
  refine (list_any H).mono ?_
  rintro e w' ⟨v, rfl, ho, hb⟩
  obtain ⟨sp, cap, rfl, hs⟩ := ho.src
  exact ⟨sp, cap, rfl, hs, hb⟩
theorem Told.buts {B : Nat} {w w' : World} {v : Value} {l : List Nat} {p : Nat} (h : Told B w v l) (hb : Buts [p] w w') (hp : p < B) : Told B w' v l :=
  owns_buts h hb fun g hg hm => by
    have := (h.lt g hg).1
    simp only [List.mem_singleton] at hm
    omega
theorem Told.below {B : Nat} {w w' : World} {v : Value} {l : List Nat} (h : Told B w v l) (hb : Below w.heap.size w w') : Told B w' v l := owns_below h hb
theorem Told.at {B : Nat} {w : World} {sp : Option Addr} {m cap : Nat} {l : List Nat} (h : Told B w (.slice sp m cap) l) : Src w sp (ints l) := by
  obtain ⟨sp', cap', e, hs⟩ := h.src
  simp only [Value.slice.injEq] at e
  rw [e.1]; exact hs
theorem told_is {w : World} {p n : Nat} {s : Slots} {m : Nat} (H : Tab w p n s) (hm : (listL n s).length = m) :
    Calls Try.prog 8 #[.pointer (some ⟨p, 0, none⟩)] w fun e w' => ∃ sp cap, e = .returned (.slice sp m cap) ∧ Told w.heap.size w' (.slice sp m cap) (listL n s) ∧ Below w.heap.size w w' := by
  subst hm
  refine (list_any H).mono ?_
  rintro e w' ⟨v, rfl, ho, hb⟩
  obtain ⟨sp, cap, rfl, hs⟩ := ho.src
  exact ⟨sp, cap, rfl, ho, hb⟩
theorem placeP_no {s : Slots} {h : Nat} {e : Int} (hp : placeE s h = e) (he : e ≠ 0) : placeP s h = 0 := if_neg (by rw [hp]; exact he)
theorem listL_few {n : Nat} {s : Slots} : (listL n s).length ≤ n := tk_le n s
theorem listL_getw {n : Nat} {s : Slots} (g : Good n s) (hn : n ≤ 256) {j : Nat} (hj : j < (listL n s).length) : (listL n s).getD j 0 ≤ 4294967295 := by
  refine listL_w g hn _ ?_
  rw [show (listL n s).getD j 0 = (listL n s)[j] by simp [hj]]; exact List.getElem_mem hj
theorem lit2 (w : World) : Src (w.alloc (.cells #[.int .u32 512, .int .u32 257] 28)) (some ⟨w.heap.size, 0, none⟩) (ints [512, 257]) := Src.row (alloc_at w _)
set_option maxHeartbeats 4000000 in
theorem alive_any (w : World) : Calls Try.prog 5 #[] w fun e w' => e = .returned (.bool true) ∧ Below w.heap.size w w' := by
  go_enter Try.func5, Try.ntmps5
  go_wp2_with (first
    | (go_at_call_of 6 (Value.int IntKind.i64 2); refine (nw_is 2 (by decide) (by decide)).mono ?_; rintro e w0 ⟨rfl, hr, hb⟩; have H0 : Hid (Tab w0 w.heap.size 2 none0) := hr; have hB : Below w.heap.size w w0 := hb; clear hr hb)
    | (go_at_call 6; refine (new_no 257 (by decide)).mono ?_; rintro e wx ⟨rfl, hwx⟩; obtain rfl := hwx.symm)
    | (go_at_call 7; refine (mk_is H0.out (a := 256) (b := 0) (by decide) (by decide)).mono ?_; rintro e w1 ⟨rfl, hr, hb⟩; have H1 : Hid (Tab w1 w.heap.size 2 (makeS 2 (none0))) := hr; replace hB := hB.trans (one_below hb (Nat.le_refl _) hB.size); clear hr hb H0)
    | (go_at_call 7; refine (mk_is H1.out (a := 257) (b := 0) (by decide) (by decide)).mono ?_; rintro e w2 ⟨rfl, hr, hb⟩; have H2 : Hid (Tab w2 w.heap.size 2 (makeS 2 (makeS 2 (none0)))) := hr; replace hB := hB.trans (one_below hb (Nat.le_refl _) hB.size); clear hr hb H1)
    | (go_at_call 7; refine (mk_is H2.out (a := 0) (b := 3) (by decide) (by decide)).mono ?_; rintro e w3 ⟨rfl, hr, hb⟩; have H3 : Hid (Tab w3 w.heap.size 2 (makeS 2 (makeS 2 (makeS 2 (none0))))) := hr; replace hB := hB.trans (one_below hb (Nat.le_refl _) hB.size); clear hr hb H2)
    | (go_at_call 9; refine (dr_is H3.out 256 (b := 0) (by decide) (by decide)).mono ?_; rintro e w4 ⟨rfl, hr, hb⟩; have H4 : Hid (Tab w4 w.heap.size 2 (dropS (makeS 2 (makeS 2 (makeS 2 (none0)))) 256)) := hr; replace hB := hB.trans (one_below hb (Nat.le_refl _) hB.size); clear hr hb H3)
    | (go_at_call 9; refine (dr_is H4.out 256 (b := 6) (by decide) (by decide)).mono ?_; rintro e w5 ⟨rfl, hr, hb⟩; have H5 : Hid (Tab w5 w.heap.size 2 (dropS (dropS (makeS 2 (makeS 2 (makeS 2 (none0)))) 256) 256)) := hr; replace hB := hB.trans (one_below hb (Nat.le_refl _) hB.size); clear hr hb H4)
    | (go_at_call 11; refine (pl_is H5.out 256 (a := 0) (b := 6) (by decide) (by decide) (by decide)).mono ?_; rintro e w6 ⟨rfl, hb⟩; have H6 : Hid (Tab w6 w.heap.size 2 (dropS (dropS (makeS 2 (makeS 2 (makeS 2 (none0)))) 256) 256)) := H5.out.below hb; replace hB := hB.trans (hb.mono hB.size); clear hb H5)
    | (go_at_call 7; refine (mk_is H6.out (a := 512) (b := 0) (by decide) (by decide)).mono ?_; rintro e w7 ⟨rfl, hr, hb⟩; have H7 : Hid (Tab w7 w.heap.size 2 (makeS 2 (dropS (dropS (makeS 2 (makeS 2 (makeS 2 (none0)))) 256) 256))) := hr; replace hB := hB.trans (one_below hb (Nat.le_refl _) hB.size); clear hr hb H6)
    | (go_at_call 11; refine (pl_is H7.out 512 (a := 0) (b := 0) (by decide) (by decide) (by decide)).mono ?_; rintro e w8 ⟨rfl, hb⟩; have H8 : Hid (Tab w8 w.heap.size 2 (makeS 2 (dropS (dropS (makeS 2 (makeS 2 (makeS 2 (none0)))) 256) 256))) := H7.out.below hb; replace hB := hB.trans (hb.mono hB.size); clear hb H7)
    | (go_at_call 11; refine (pl_is H8.out 0 (a := 0) (b := 5) (by decide) (by decide) (by decide)).mono ?_; rintro e w9 ⟨rfl, hb⟩; have H9 : Hid (Tab w9 w.heap.size 2 (makeS 2 (dropS (dropS (makeS 2 (makeS 2 (makeS 2 (none0)))) 256) 256))) := H8.out.below hb; replace hB := hB.trans (hb.mono hB.size); clear hb H8)
    | (go_at_call 11; refine (pl_is H9.out 513 (a := 0) (b := 5) (by decide) (by decide) (by decide)).mono ?_; rintro e w10 ⟨rfl, hb⟩; have H10 : Hid (Tab w10 w.heap.size 2 (makeS 2 (dropS (dropS (makeS 2 (makeS 2 (makeS 2 (none0)))) 256) 256))) := H9.out.below hb; replace hB := hB.trans (hb.mono hB.size); clear hb H9)
    | (go_at_call 8; refine (li_is H10.out (l := [512, 257]) (by decide)).mono ?_; rintro e wl ⟨sp, cap, rfl, hs, hb⟩; have HS : Hid (Src wl sp (ints [512, 257])) := hs; replace hB := hB.trans (hb.mono hB.size); clear hs hb H10)
    | (go_at_call 10; refine (same_is (Src.below HS.out (alloc_below wl _)) (lit2 wl) (n := 2) rfl (by decide) _ _).mono ?_; rintro e wz ⟨rfl, hb⟩; replace hb := (alloc_below wl _).trans (hb.mono (by rw [alloc_size]; omega)); replace hB := hB.trans (hb.mono hB.size); clear hb))
  go_ret
  exact ⟨rfl, hB⟩
end Go.Proofs.Ytkogmmldkpepaab
