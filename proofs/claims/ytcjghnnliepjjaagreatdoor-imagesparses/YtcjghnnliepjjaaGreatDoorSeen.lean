/- Some answers that the document fixes: 'alive' is true; what is great. -/
import Derived.Test.YtcjghnnliepjjaaGreatDoorSame
import Derived.Lib.SlBytesConst
namespace Go.Proofs.YtcjghnnliepjjaaGreatDoor
open Go Go.RowKit
set_option maxRecDepth 100000
set_option linter.unusedVariables false
def s1 : ByteArray := ⟨#[115, 105, 122, 101, 32, 56, 10, 100, 97, 116, 97, 32, 48, 49, 102, 102, 10, 115, 101, 116, 32, 114, 49, 32, 51, 48, 48, 10, 101, 110, 100, 10]⟩
def s2 : ByteArray := ⟨#[35, 10, 10, 115, 105, 122, 101, 32, 49, 10, 115, 105, 122, 101, 32, 49]⟩
def s3 : ByteArray := ⟨#[100, 97, 116, 97, 32, 48, 48]⟩
def s4 : ByteArray := ⟨#[115, 105, 122, 101, 32, 52, 48, 57, 55]⟩
theorem e1 : parseI s1.size im0 0 s1.data.toList = .inr ⟨8, true, [1, 255], [1, 1, 1, 44, 22, 0, 0, 0], 2⟩ := by kernel_rfl
theorem e2 : parseI s2.size im0 0 s2.data.toList = .inl 3 := by kernel_rfl
theorem e3 : parseI s3.size im0 0 s3.data.toList = .inr ⟨0, false, [0], [], 0⟩ := by kernel_rfl
theorem e4 : parseI s4.size im0 0 s4.data.toList = .inr ⟨4097, true, [], [], 0⟩ := by kernel_rfl
theorem owns_cap {w : World} {B n s c : Nat} {t : TypeId} {sp : Option Addr} {xs : List Value} (h : w.ownsRow B t s (.slice sp n c) n xs) : (sp = none → c = 0) ∧ n ≤ c := by
  rcases h.2 with ⟨e, h0⟩ | ⟨g, cap, cur, e, _, _, hc, _⟩
  · simp only [Value.slice.injEq] at e
    exact ⟨fun _ => e.2.2, by omega⟩
  · simp only [Value.slice.injEq, true_and] at e
    exact ⟨fun q => (by rw [e.1] at q; cases q), by omega⟩
theorem parse1 (W : World) (hW : Env3 W) : Calls Tryz.prog 24 #[.string ⟨#[115, 105, 122, 101, 32, 56, 10, 100, 97, 116, 97, 32, 48, 49, 102, 102, 10, 115, 101, 116, 32, 114, 49, 32, 51, 48, 48, 10, 101, 110, 100, 10]⟩] W fun e w' => ∃ sp c cp kc, e = .returned (.tuple #[.agg #[.int .i64 8, .slice sp 2 c, .slice cp 2 kc], .int .i64 0, .int .i64 0]) ∧ (Img w' sp [1, 255] cp [1, 1, 1, 44, 22, 0, 0, 0] 2 ∧ (sp = none → c = 0)) ∧ Below W.heap.size W w' := by
  have h := Parse_all hW s1 (by decide)
  rw [e1] at h
  refine h.mono fun e w' h => ?_
  obtain ⟨hp, hb⟩ := h
  rw [if_pos (by decide +kernel)] at hp
  obtain ⟨vd, vc, rfl, o1, o2, hl, b1, b2⟩ := hp
  obtain ⟨sp, c, rfl, _⟩ := owns_form o1
  obtain ⟨cp, kc, rfl, _⟩ := owns_form o2
  exact ⟨sp, c, cp, kc, rfl, ⟨⟨src_own o1, src_own o2, hl, b1, b2⟩, (owns_cap o1).1⟩, hb⟩
theorem parse2 (W : World) (hW : Env3 W) : Calls Tryz.prog 24 #[.string ⟨#[35, 10, 10, 115, 105, 122, 101, 32, 49, 10, 115, 105, 122, 101, 32, 49]⟩] W fun e w' => e = .returned (.tuple #[.agg #[.int .i64 0, .slice none 0 0, .slice none 0 0], .int .i64 3, .int .i64 14]) ∧ Below W.heap.size W w' := by
  have h := Parse_all hW s2 (by decide)
  rw [e2] at h
  exact h.mono fun e w' h => h
theorem parse3 (W : World) (hW : Env3 W) : Calls Tryz.prog 24 #[.string ⟨#[100, 97, 116, 97, 32, 48, 48]⟩] W fun e w' => e = .returned (.tuple #[.agg #[.int .i64 0, .slice none 0 0, .slice none 0 0], .int .i64 0, .int .i64 1]) ∧ Below W.heap.size W w' := by
  have h := Parse_all hW s3 (by decide)
  rw [e3] at h
  refine h.mono fun e w' h => ?_
  obtain ⟨hp, hb⟩ := h
  rw [if_neg (by decide +kernel)] at hp
  exact ⟨hp, hb⟩
theorem parse4 (W : World) (hW : Env3 W) : Calls Tryz.prog 24 #[.string ⟨#[115, 105, 122, 101, 32, 52, 48, 57, 55]⟩] W fun e w' => e = .returned (.tuple #[.agg #[.int .i64 0, .slice none 0 0, .slice none 0 0], .int .i64 0, .int .i64 1]) ∧ Below W.heap.size W w' := by
  have h := Parse_all hW s4 (by decide)
  rw [e4] at h
  refine h.mono fun e w' h => ?_
  obtain ⟨hp, hb⟩ := h
  rw [if_neg (by decide +kernel)] at hp
  exact ⟨hp, hb⟩
theorem put1 {W : World} (hW : Env W) {sp cp : Option Addr} {c kc : Nat} (hI : Img W sp [1, 255] cp [1, 1, 1, 44, 22, 0, 0, 0] 2) (hc : sp = none → c = 0) : Calls Tryz.prog 10 #[.agg #[.int .i64 8, .slice sp 2 c, .slice cp 2 kc]] W fun e w' => ∃ q d, e = .returned (.tuple #[.slice q 19 d, .int .i64 0]) ∧ Src w' q [116, 107, 49, 0, 8, 0, 2, 0, 2, 1, 255, 1, 1, 1, 44, 22, 0, 0, 0] ∧ Below W.heap.size W w' := by
  refine (Put_yes (size := 8) hW hI c kc hc (by decide +kernel)).mono fun e w' h => ?_
  obtain ⟨v, rfl, o, hb⟩ := h
  obtain ⟨q, d, rfl, _⟩ := owns_form o
  exact ⟨q, d, rfl, src_own o, hb⟩
theorem row_src {w : World} {b n c : Nat} {zs : List Int} {t : TypeId} {k : Nat × Nat} (h : w.heap[b]? = some (.cells (byt zs).toArray t k)) : Src w (some ⟨b, 0, none⟩) zs := fun _ => ⟨b, 0, rfl, fun i hi => by
  rw [cell_of h, Nat.zero_add]
  simpa using byt_at zs i hi⟩
theorem get1 {W : World} (hW : Env W) : Calls Tryz.prog 20 #[.slice (some ⟨W.heap.size, 0, none⟩) 10 10] (W.alloc (.cells #[.int .u8 116, .int .u8 107, .int .u8 49, .int .u8 0, .int .u8 0, .int .u8 0, .int .u8 1, .int .u8 0, .int .u8 0, .int .u8 5] 5 (10, 11))) fun e w' => e = .returned (.tuple #[.agg #[.int .i64 0, .slice none 0 0, .slice none 0 0], .int .i64 14]) ∧ Below W.heap.size W w' := by
  have hS : Src (W.alloc (.cells #[.int .u8 116, .int .u8 107, .int .u8 49, .int .u8 0, .int .u8 0, .int .u8 0, .int .u8 1, .int .u8 0, .int .u8 0, .int .u8 5] 5 (10, 11))) (some ⟨W.heap.size, 0, none⟩) [116, 107, 49, 0, 0, 0, 1, 0, 0, 5] := row_src (n := 0) (c := 0) (alloc_at W _)
  have h := Get_any (hW.on (alloc_below W _)) hS (by intro z hz; simp at hz; unfold byte; omega) 10 (by decide)
  rw [show getI [116, 107, 49, 0, 0, 0, 1, 0, 0, 5] = none by decide +kernel] at h
  exact h.mono fun e w' ⟨h1, h2⟩ => ⟨h1, two_allocs h2⟩
theorem conv19 {w : World} {q : Option Addr} {c : Nat} (h : Src w q [116, 107, 49, 0, 8, 0, 2, 0, 2, 1, 255, 1, 1, 1, 44, 22, 0, 0, 0]) : (convert 22 9 (.slice q 19 c)).run Tryz.prog w = .ok (.string ⟨#[116, 107, 49, 0, 8, 0, 2, 0, 2, 1, 255, 1, 1, 1, 44, 22, 0, 0, 0]⟩) w := by
  obtain ⟨b, off, rfl⟩ := h.some_of (by decide)
  exact conv_src (c := c) h (by intro z hz; simp at hz; unfold byte; omega)
set_option maxHeartbeats 8000000 in
theorem alive_any (w : World) (hE0 : Env3 w) : Calls Tryz.prog 26 #[] w fun e w' => e = .returned (.bool true) ∧ Below w.heap.size w w' := by
  have HE : Hid (Env3 w) := hE0
  clear hE0
  go_enter Tryz.func26, Tryz.ntmps26
  go_wp2_with (first
    | (go_at_call 24; (with_reducible refine (parse1 _ HE.out).mono ?_); rintro e w1 ⟨sp, c, cp, kc, rfl, ⟨hI, hc⟩, hb1⟩; have B1 : Hid (Below w.heap.size w w1) := hb1)
    | (go_at_call 10; refine (put1 ((HE.out.on (on1 B1.out (alloc_below _ _))).two.env) (hI.one _) hc).mono ?_; rintro e w2 ⟨q, d, rfl, hS2, hb2⟩; have B2 : Hid (Below w.heap.size w w2) := (on1 B1.out (two_allocs hb2)); have S2 : Hid (Src w2 q [116, 107, 49, 0, 8, 0, 2, 0, 2, 1, 255, 1, 1, 1, 44, 22, 0, 0, 0]) := hS2; clear hS2; have hcb := Lib.run_convert_bytes_const (P := Tryz.prog) w2 22 5 #[.int .u8 116, .int .u8 107, .int .u8 49, .int .u8 0, .int .u8 0, .int .u8 0, .int .u8 1, .int .u8 0, .int .u8 0, .int .u8 5] 10 10 Tryz.underlying22 Tryz.underlying5)
    | (go_at_call 20; refine (get1 ((HE.out.on B2.out).two.env)).mono ?_; rintro e w3 ⟨rfl, hb3⟩; have B3 : Hid (Below w.heap.size w w3) := (on1 B2.out hb3); have S3 : Hid (Src w3 q [116, 107, 49, 0, 8, 0, 2, 0, 2, 1, 255, 1, 1, 1, 44, 22, 0, 0, 0]) := (S2.out.below hb3))
    | (go_at_call 24; (with_reducible refine (parse2 _ (HE.out.on (on1 B3.out (alloc_below _ _)))).mono ?_); rintro e w4 ⟨rfl, hb4⟩; have B4 : Hid (Below w.heap.size w w4) := (on1 B3.out (two_allocs hb4)); have S4 : Hid (Src w4 q [116, 107, 49, 0, 8, 0, 2, 0, 2, 1, 255, 1, 1, 1, 44, 22, 0, 0, 0]) := (S3.out.below (two_allocs hb4)))
    | (go_at_call 24; (with_reducible refine (parse3 _ (HE.out.on (on1 B4.out (alloc_below _ _)))).mono ?_); rintro e w5 ⟨rfl, hb5⟩; have B5 : Hid (Below w.heap.size w w5) := (on1 B4.out (two_allocs hb5)); have S5 : Hid (Src w5 q [116, 107, 49, 0, 8, 0, 2, 0, 2, 1, 255, 1, 1, 1, 44, 22, 0, 0, 0]) := (S4.out.below (two_allocs hb5)))
    | (go_at_call 24; (with_reducible refine (parse4 _ (HE.out.on (on1 B5.out (alloc_below _ _)))).mono ?_); rintro e w6 ⟨rfl, hb6⟩; have B6 : Hid (Below w.heap.size w (w6.alloc (.cells #[.int .i64 0, .slice none 0 0, .slice none 0 0] 25))) := (on1 (on1 B5.out (two_allocs hb6)) (alloc_below _ _)); have S6 : Hid (Src (w6.alloc (.cells #[.int .i64 0, .slice none 0 0, .slice none 0 0] 25)) q [116, 107, 49, 0, 8, 0, 2, 0, 2, 1, 255, 1, 1, 1, 44, 22, 0, 0, 0]) := ((S5.out.below (two_allocs hb6)).below (alloc_below _ _)); have hcv := conv19 (c := d) S6.out))
  go_ret
  exact ⟨rfl, B6.out⟩
theorem great_any {w : World} (n : Int) (sp : Option Addr) (d dc : Nat) (cp : Option Addr) (k kc : Nat) :
    Calls Tryz.prog 8 #[.agg #[.int .i64 n, .slice sp d dc, .slice cp k kc]] w fun e w' => e = .returned (.bool (decide (5000 < d ∨ 1100 < k))) ∧ Below w.heap.size w w' := by
  by_cases h1 : 5000 < d
  · have hi : (5000 : Int) < d := by omega
    rw [decide_eq_true (Or.inl h1)]
    go_enter Tryz.func8, Tryz.ntmps8
    go_wp2
    go_ret
    exact ⟨rfl, alloc_below _ _⟩
  · have hi : ¬ ((5000 : Int) < d) := by omega
    by_cases h2 : 1100 < k
    · have hj : (1100 : Int) < k := by omega
      rw [decide_eq_true (Or.inr h2)]
      go_enter Tryz.func8, Tryz.ntmps8
      go_wp2
      go_ret
      exact ⟨rfl, alloc_below _ _⟩
    · have hj : ¬ ((1100 : Int) < k) := by omega
      rw [decide_eq_false (by omega)]
      go_enter Tryz.func8, Tryz.ntmps8
      go_wp2
      go_ret
      exact ⟨rfl, alloc_below _ _⟩
end Go.Proofs.YtcjghnnliepjjaaGreatDoor
