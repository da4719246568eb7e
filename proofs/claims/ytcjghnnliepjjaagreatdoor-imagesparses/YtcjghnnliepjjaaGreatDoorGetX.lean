/- The image of bytes, by the program's own function: Get. -/
import Derived.Test.YtcjghnnliepjjaaGreatDoorGetW
namespace Go.Proofs.YtcjghnnliepjjaaGreatDoor
open Go Go.RowKit
set_option maxRecDepth 100000
set_option linter.unusedVariables false
theorem cut_from {w : World} {b off c : Nat} {zs : List Int} (h : Src w (some ⟨b, off, none⟩) zs) (hc : zs.length ≤ c) (j : Nat) (hj : j ≤ zs.length) :
    ∃ o1, (if c = j then some (⟨b, off, none⟩ : Addr) else some ⟨b, off + j, none⟩) = some ⟨b, o1, none⟩ ∧ Src w (some ⟨b, o1, none⟩) (zs.drop j) := by
  by_cases e : c = j
  · rw [if_pos e]
    refine ⟨off, rfl, ?_⟩
    rw [List.drop_eq_nil_of_le (by omega)]
    exact Src.nil _ _
  · rw [if_neg e]
    exact ⟨off + j, rfl, h.drop j⟩
theorem free_box {w w1 : World} {a b c : Value} {t : TypeId} (h : Below (w.alloc (.cells #[a, b, c] t)).heap.size (w.alloc (.cells #[a, b, c] t)) w1) :
    w.heap.size < w1.heap.size ∧ ∀ i, w1.frozen? ⟨w.heap.size, i, none⟩ = false := by
  have hl : w.heap.size < (w.alloc (.cells #[a, b, c] t)).heap.size := by rw [alloc_size]; omega
  refine ⟨by have := h.size; omega, fun i => ?_⟩
  rw [(bcell h).2 _ _ hl]
  have h0 := alloc_at w (.cells #[a, b, c] t)
  generalize w.alloc (.cells #[a, b, c] t) = W at *
  simp [World.frozen?, h0]
theorem keep_lt {w1 w2 : World} {x : Obj} {R : Nat} (h : Below (w1.alloc x).heap.size (w1.alloc x) w2) (hl : R < w1.heap.size) : R < w2.heap.size := by have := h.size; rw [alloc_size] at this; omega
theorem keep_cell {w1 w2 : World} {x : Obj} {R i : Nat} (h : Below (w1.alloc x).heap.size (w1.alloc x) w2) (hl : R < w1.heap.size) : w2.cell? ⟨R, i, none⟩ = w1.cell? ⟨R, i, none⟩ := by
  rw [(bcell h).1 _ _ (by rw [alloc_size]; omega), (bcell (alloc_below w1 x)).1 _ _ hl]
theorem keep_free {w1 w2 : World} {x : Obj} {R i : Nat} (h : Below (w1.alloc x).heap.size (w1.alloc x) w2) (hl : R < w1.heap.size) : w2.frozen? ⟨R, i, none⟩ = w1.frozen? ⟨R, i, none⟩ := by
  rw [(bcell h).2 _ _ (by rw [alloc_size]; omega), (bcell (alloc_below w1 x)).2 _ _ hl]
/-- three cells written over -/
theorem fin_set {w w2 : World} {R : Nat} {x y z a b c : Value} (hB : Below w.heap.size w w2) (hR : w.heap.size ≤ R) (r0 : w2.cell? ⟨R, 0, none⟩ = some x) (r1 : w2.cell? ⟨R, 1, none⟩ = some y) (r2 : w2.cell? ⟨R, 2, none⟩ = some z) :
    ∃ W, W = ((w2.setCell ⟨R, 0, none⟩ a).setCell ⟨R, 1, none⟩ b).setCell ⟨R, 2, none⟩ c ∧ W.cell? ⟨R, 0, none⟩ = some a ∧ W.cell? ⟨R, 1, none⟩ = some b ∧ W.cell? ⟨R, 2, none⟩ = some c ∧ Below w.heap.size w W := by
  refine ⟨_, rfl, ?_, ?_, ?_, ((hB.setCell hR _).setCell hR _).setCell hR _⟩
  · rw [set_other (by decide), set_other (by decide)]; exact set_self (by rw [r0]; rfl)
  · rw [set_other (by decide)]; exact set_self (by rw [set_other (by decide), r1]; rfl)
  · exact set_self (by rw [set_other (by decide), set_other (by decide), r2]; rfl)
theorem fin_alloc {w w2 : World} {R : Nat} {x y z a b c : Value} {o : Obj} (hB : Below w.heap.size w w2) (hR : w.heap.size ≤ R) (r0 : w2.cell? ⟨R, 0, none⟩ = some x) (r1 : w2.cell? ⟨R, 1, none⟩ = some y) (r2 : w2.cell? ⟨R, 2, none⟩ = some z) :
    ∃ W, W = (((w2.setCell ⟨R, 0, none⟩ a).setCell ⟨R, 1, none⟩ b).setCell ⟨R, 2, none⟩ c).alloc o ∧ W.cell? ⟨R, 0, none⟩ = some a ∧ W.cell? ⟨R, 1, none⟩ = some b ∧ W.cell? ⟨R, 2, none⟩ = some c ∧ Below w.heap.size w W := by
  obtain ⟨W, rfl, f0, f1, f2, fb⟩ := fin_set (a := a) (b := b) (c := c) hB hR r0 r1 r2
  have q := (bcell (alloc_below (((w2.setCell ⟨R, 0, none⟩ a).setCell ⟨R, 1, none⟩ b).setCell ⟨R, 2, none⟩ c) o)).1 R
  exact ⟨_, rfl, (q _ (cell_lt f0)).trans f0, (q _ (cell_lt f0)).trans f1, (q _ (cell_lt f0)).trans f2, on1 fb (alloc_below _ _)⟩
set_option maxHeartbeats 4000000 in
theorem Get_un {w : World} {sp : Option Addr} {zs : List Int} (c : Nat) (cR : ∀ W, Below w.heap.size w W → Calls Tryz.prog 65 #[.slice sp zs.length c] W fun e w' => e = .returned (.tuple #[.agg #[.int .i64 0, .int .i64 0, .int .i64 0], .bool false]) ∧ Below W.heap.size W w') :
    Calls Tryz.prog 20 #[.slice sp zs.length c] w fun e w' => e = .returned (.tuple #[.agg #[.int .i64 0, .slice none 0 0, .slice none 0 0], .int .i64 14]) ∧ Below w.heap.size w w' := by
  go_enter Tryz.func20, Tryz.ntmps20
  go_wp2_with (go_at_call 65; refine (cR _ (alloc_below _ _)).mono ?_; rintro e w1 ⟨rfl, hb1⟩; obtain ⟨r0, r1, r2⟩ := cells_box hb1; obtain ⟨hl, fz⟩ := free_box hb1)
  obtain ⟨W, hW, f0, f1, f2, fb⟩ := fin_alloc (a := .int .i64 0) (b := .slice none 0 0) (c := .slice none 0 0) (o := .cells #[.int .i64 0, .int .i64 0, .int .i64 0] 59) (two_allocs hb1) (Nat.le_refl _) r0 r1 r2
  rw [← hW]
  exact bodyPost_ret (v := .tuple #[.agg #[.int .i64 0, .slice none 0 0, .slice none 0 0], .int .i64 14]) (by simp [results, Tryz.results20, go_sem, f0, f1, f2]) rfl ⟨rfl, fb⟩
set_option maxHeartbeats 4000000 in
theorem Get_off {w : World} {sp : Option Addr} {zs : List Int} (c : Nat) (n d k : Int) (hd : 0 ≤ d ∧ d < 65536) (hk : 0 ≤ k ∧ k < 65536) (cR : ∀ W, Below w.heap.size w W → Calls Tryz.prog 65 #[.slice sp zs.length c] W fun e w' => e = .returned (.tuple #[.agg #[.int .i64 n, .int .i64 d, .int .i64 k], .bool true]) ∧ Below W.heap.size W w') (hno : okC n d k = false ∨ (zs.length : Int) ≠ 9 + d + k * 4) :
    Calls Tryz.prog 20 #[.slice sp zs.length c] w fun e w' => e = .returned (.tuple #[.agg #[.int .i64 0, .slice none 0 0, .slice none 0 0], .int .i64 14]) ∧ Below w.heap.size w w' := by
  have cM := mayBe_any n d k
  have cA := allBytes_any n d k hd hk
  cases hok : okC n d k with
  | false =>
    rw [hok] at cM
    clear hno
    go_enter Tryz.func20, Tryz.ntmps20
    go_wp2_with (first
      | (go_at_call 65; refine (cR _ (alloc_below _ _)).mono ?_; rintro e w1 ⟨rfl, hb1⟩; obtain ⟨r0, r1, r2⟩ := cells_box hb1; obtain ⟨hl, fz⟩ := free_box hb1)
      | (go_at_call 35; refine (cM _).mono ?_; rintro e w2 ⟨rfl, hb2⟩; have R0 := (keep_cell hb2 hl).trans r0; have R1 := (keep_cell hb2 hl).trans r1; have R2 := (keep_cell hb2 hl).trans r2; have F := fun i => (keep_free (i := i) hb2 hl).trans (fz i)))
    obtain ⟨W, hW, f0, f1, f2, fb⟩ := fin_set (a := .int .i64 0) (b := .slice none 0 0) (c := .slice none 0 0) (on1 (two_allocs hb1) (two_allocs hb2)) (Nat.le_refl _) R0 R1 R2
    rw [← hW]
    exact bodyPost_ret (v := .tuple #[.agg #[.int .i64 0, .slice none 0 0, .slice none 0 0], .int .i64 14]) (by simp [results, Tryz.results20, go_sem, f0, f1, f2]) rfl ⟨rfl, fb⟩
  | true =>
    rw [hok] at cM
    have hne : (zs.length : Int) ≠ 9 + d + k * 4 := hno.resolve_left (by rw [hok]; decide)
    generalize 9 + d + k * 4 = N at *
    have hnb : (((zs.length : Nat) : Int) == N) = false := by simpa using hne
    clear hno
    go_enter Tryz.func20, Tryz.ntmps20
    go_wp2_with (first
      | (go_at_call 65; refine (cR _ (alloc_below _ _)).mono ?_; rintro e w1 ⟨rfl, hb1⟩; obtain ⟨r0, r1, r2⟩ := cells_box hb1; obtain ⟨hl, fz⟩ := free_box hb1)
      | (go_at_call 35; refine (cM _).mono ?_; rintro e w2 ⟨rfl, hb2⟩; obtain ⟨u0, u1, u2⟩ := cells_box hb2)
      | (go_at_call 30; refine (cA _).mono ?_; rintro e w3 ⟨rfl, hb3⟩; have R0 := ((bcell hb3).1 _ _ (keep_lt hb2 hl)).trans ((keep_cell hb2 hl).trans r0); have R1 := ((bcell hb3).1 _ _ (keep_lt hb2 hl)).trans ((keep_cell hb2 hl).trans r1); have R2 := ((bcell hb3).1 _ _ (keep_lt hb2 hl)).trans ((keep_cell hb2 hl).trans r2); have F := fun i => ((bcell hb3).2 _ _ (keep_lt hb2 hl)).trans ((keep_free (i := i) hb2 hl).trans (fz i))))
    obtain ⟨W, hW, f0, f1, f2, fb⟩ := fin_set (a := .int .i64 0) (b := .slice none 0 0) (c := .slice none 0 0) (on1 (on1 (two_allocs hb1) (two_allocs hb2)) hb3) (Nat.le_refl _) R0 R1 R2
    rw [← hW]
    exact bodyPost_ret (v := .tuple #[.agg #[.int .i64 0, .slice none 0 0, .slice none 0 0], .int .i64 14]) (by simp [results, Tryz.results20, go_sem, f0, f1, f2]) rfl ⟨rfl, fb⟩
end Go.Proofs.YtcjghnnliepjjaaGreatDoor
