/- What the closures of package instrs do with a field: a number out of its bytes, and its text. -/
import Derived.Test.YtomccgodfimaiaaGreatDoorHand
import Derived.Test.YtomccgodfimaiaaGreatDoorShelf
import Derived.LoopN
import Derived.Lib.ItoaLen
import Derived.Laws.BitsLemmas
namespace Go.Proofs.YtomccgodfimaiaaGreatDoor
set_option linter.all false
open Go Go.RowKit
set_option maxRecDepth 100000

theorem wraps_i64' (n : Int) (h0 : 0 ≤ n) (h1 : n < 2 ^ 31) : IntKind.i64.wrap n = n := by rw [IntKind.wrap_i64]; omega
theorem or_zero (b : Int) (h0 : 0 ≤ b) (h1 : b ≤ 255) : bits .or .i64 0 b = b := by
  have := bits_join .i64 31 (by decide) wraps_i64' 8 0 b (by decide) (by decide) (by decide) h0 (by omega) (by omega)
  omega
theorem or_byte (a b : Int) (ha : 0 ≤ a) (ha' : a ≤ 255) (h0 : 0 ≤ b) (h1 : b ≤ 255) : bits .or .i64 (a * 256) b = a * 256 + b :=
  bits_join .i64 31 (by decide) wraps_i64' 8 (a * 256) b (by omega) (by omega) (by omega) h0 (by omega) (by omega)
theorem ret_int {k : IntKind} {a b : Int} (h : a = b) : Ending.returned (.int k a) = .returned (.int k b) := by rw [h]

set_option maxHeartbeats 4000000 in
theorem joined1 (R off cap : Nat) (a : Int) (h0 : 0 ≤ a) (h1 : a ≤ 255) (w : World) (hc : w.cell? ⟨R, off, none⟩ = some (.int .u8 a)) :
    Calls Tryz.prog 160 #[.slice (some ⟨R, off, none⟩) 1 cap] w fun e w' => e = .returned (.int .i64 a) ∧ w' = w := by
  have hz := or_zero a h0 h1
  go_enter Tryz.func160, Tryz.ntmps160
  go_wp2
  refine wp_loop_rounds 2 ?_
  rw [rounds_succ]; go_wp2
  rw [rounds_succ]; go_wp2
  go_ret
  exact ⟨rfl, rfl⟩
set_option maxHeartbeats 4000000 in
theorem joined2 (R off cap : Nat) (a b : Int) (h0 : 0 ≤ a) (h1 : a ≤ 255) (h2 : 0 ≤ b) (h3 : b ≤ 255) (w : World) (hc : w.cell? ⟨R, off, none⟩ = some (.int .u8 a)) (hd : w.cell? ⟨R, off + 1, none⟩ = some (.int .u8 b)) :
    Calls Tryz.prog 160 #[.slice (some ⟨R, off, none⟩) 2 cap] w fun e w' => e = .returned (.int .i64 (a * 256 + b)) ∧ w' = w := by
  have hz := or_zero a h0 h1
  have hy := or_byte a b h0 h1 h2 h3
  go_enter Tryz.func160, Tryz.ntmps160
  go_wp2
  refine wp_loop_rounds 3 ?_
  rw [rounds_succ]; go_wp2
  rw [rounds_succ]; go_wp2
  rw [rounds_succ]; go_wp2
  go_ret
  exact ⟨rfl, rfl⟩

set_option maxHeartbeats 4000000 in
/-- is a number one that a field may be? -/
theorem may_any (pl pm : Nat) (n least most : Int) (w : World) (hl : w.cell? ⟨pl, 0, none⟩ = some (.int .i64 least)) (hm : w.cell? ⟨pm, 0, none⟩ = some (.int .i64 most)) :
    Calls Tryz.prog 158 #[.int .i64 n, .pointer (some ⟨pl, 0, none⟩), .pointer (some ⟨pm, 0, none⟩)] w fun e w' => e = .returned (.bool (decide (least ≤ n) && decide (n ≤ most))) ∧ w' = w := by
  by_cases h : least ≤ n
  · go_enter Tryz.func158, Tryz.ntmps158
    go_wp2
    go_ret
    exact ⟨by simp [h], rfl⟩
  · go_enter Tryz.func158, Tryz.ntmps158
    go_wp2
    go_ret
    exact ⟨by have h' : ¬ least ≤ n := by omega
              simp [h'], rfl⟩
theorem below_grow (w : World) (k : Nat) (os : Array Obj) : Below w.heap.size w (Go.Sort.grow (w.drewN k) os) := by
  have h := below_drewN w k
  have hs : (w.drewN k).heap.size = w.heap.size := by
    clear h
    induction k with
    | zero => rfl
    | succ n ih => exact ih
  refine ⟨h.os, h.tape, h.output, ?_, fun i hi => ?_⟩
  · simp [Go.Sort.grow]
  · rw [← h.block i hi]; simp only [Go.Sort.grow]; rw [Array.getElem?_append_left (by omega)]
abbrev Pow (w : World) : Prop := Lib.TabIs Tryz.prog w "internal/strconv.uint64pow10" .u64 Lib.pow10Tab
theorem itoa_any (n : Int) (h0 : -9223372036854775808 ≤ n) (h1 : n ≤ 9223372036854775807) (w : World) (ht : Pow w) :
    Calls Tryz.prog 139 #[.int .i64 n] w fun e w' => e = .returned (.string ⟨(Lib.itoa n).toArray⟩) ∧ Below w.heap.size w w' :=
  (Tryz.strconv_Itoa n h0 h1 w ht).mono fun _ _ ⟨he, k, os, hw⟩ => ⟨he, by rw [hw]; exact below_grow w k os⟩

theorem var_below {B g : Nat} {W W' : World} {n : String} {cs : Array Value} (h : Below B W W') (hg : Tryz.prog.globalNamed n = some g) (hgB : g < B) (hv : W.var? Tryz.prog n = some cs) : W'.var? Tryz.prog n = some cs := by
  unfold World.var? at hv ⊢
  simp only [hg, Option.bind_some] at hv ⊢
  rw [h.block g hgB]
  exact hv
theorem var_lt {g : Nat} {W : World} {n : String} {cs : Array Value} (hg : Tryz.prog.globalNamed n = some g) (hv : W.var? Tryz.prog n = some cs) : g < W.heap.size := by
  unfold World.var? at hv
  simp only [hg, Option.bind_some] at hv
  rcases Nat.lt_or_ge g W.heap.size with h | h
  · exact h
  · rw [Array.getElem?_eq_none h] at hv; cases hv
theorem powAt : Tryz.prog.globalNamed "internal/strconv.uint64pow10" = some 1 := by kernel_rfl
theorem Pow.on {w w' : World} (h : Pow w) (hb : Below w.heap.size w w') : Pow w' := var_below hb powAt (var_lt powAt h) h

def num1 (most a : Int) : Int := if most < a then a - 256 else a
theorem concat_ok (mark : ByteArray) (n : Int) (hm : mark.size ≤ 1) (h0 : -9223372036854775808 ≤ n) (h1 : n ≤ 9223372036854775807) (W : World) :
    (Op.stringOp .add mark ⟨(Lib.itoa n).toArray⟩).run Tryz.prog W = .ok (.string (mark ++ ⟨(Lib.itoa n).toArray⟩)) W :=
  run_string_add_sum W _ _ (by have := Lib.itoa_length_le n h0 h1; show mark.size + ((Lib.itoa n).toArray).size ≤ _; rw [List.size_toArray]; omega)
set_option maxHeartbeats 4000000 in
theorem write1 (n R off cap : Nat) (mark : ByteArray) (least most a : Int) (hms : mark.size ≤ 1) (h0 : 0 ≤ a) (h1 : a ≤ 255) (_hm : 0 ≤ most) (w : World) (hp : Pow w) (hh : Hcells w n mark 1 least most) (hc : w.cell? ⟨R, off, none⟩ = some (.int .u8 a)) :
    Calls Tryz.prog 159 #[.slice (some ⟨R, off, none⟩) 1 cap, .pointer (some ⟨n + 1 + 1 + 1, 0, none⟩), .pointer (some ⟨n + 1, 0, none⟩), .pointer (some ⟨n, 0, none⟩), .pointer (some ⟨n + 1 + 1 + 1 + 1 + 1, 0, none⟩)] w
      fun e w' => e = .returned (.tuple #[.string (mark ++ ⟨(Lib.itoa (num1 most a)).toArray⟩), .bool (decide (least ≤ num1 most a) && decide (num1 most a ≤ most))]) ∧ Below w.heap.size w w' := by
  obtain ⟨c0, c1, c2, c3, c5, hlt⟩ := hh
  have l0 : n < w.heap.size := by omega
  have l5 : n + 1 + 1 + 1 + 1 + 1 < w.heap.size := by omega
  have hca := @above_cell
  unfold num1
  by_cases hgt : most < a
  · rw [if_pos hgt]
    have hadd := concat_ok mark (a - 256) hms (by omega) (by omega)
    go_enter Tryz.func159, Tryz.ntmps159
    go_wp2_with (go_at_call 160; refine (joined1 _ _ _ _ h0 h1 _ hc).mono ?_; rintro e w' ⟨rfl, rfl⟩)
    refine wp_region_calm (by kernel_rfl) (by kernel_rfl) ?_
    repeat (go_big_quiet_step (first
      | (go_at_call 139; exact calm_call (itoa_any _ (by omega) (by omega) _ (Pow.on hp (below_above _ _))))
      | (go_at_call 158; exact calm_same (may_any _ _ _ _ _ _ (by rw [above_cell (by omega)]; exact c2) (by rw [above_cell (by omega)]; exact c3)))))
    refine wpQuiet_nil ?_
    intro w2 hb2
    go_wp2
    go_ret2
    exact ⟨rfl, hb2⟩
  · rw [if_neg hgt]
    have hadd := concat_ok mark a hms (by omega) (by omega)
    go_enter Tryz.func159, Tryz.ntmps159
    go_wp2_with (go_at_call 160; refine (joined1 _ _ _ _ h0 h1 _ hc).mono ?_; rintro e w' ⟨rfl, rfl⟩)
    refine wp_region_calm (by kernel_rfl) (by kernel_rfl) ?_
    repeat (go_big_quiet_step (first
      | (go_at_call 139; exact calm_call (itoa_any _ (by omega) (by omega) _ (Pow.on hp (below_above _ _))))
      | (go_at_call 158; exact calm_same (may_any _ _ _ _ _ _ (by rw [above_cell (by omega)]; exact c2) (by rw [above_cell (by omega)]; exact c3)))))
    refine wpQuiet_nil ?_
    intro w2 hb2
    go_wp2
    go_ret2
    exact ⟨rfl, hb2⟩
set_option maxHeartbeats 4000000 in
theorem write2 (n R off cap : Nat) (mark : ByteArray) (least a b : Int) (hms : mark.size ≤ 1) (h0 : 0 ≤ a) (h1 : a ≤ 255) (h2 : 0 ≤ b) (h3 : b ≤ 255) (w : World) (hp : Pow w) (hh : Hcells w n mark 2 least 65535) (hc : w.cell? ⟨R, off, none⟩ = some (.int .u8 a)) (hd : w.cell? ⟨R, off + 1, none⟩ = some (.int .u8 b)) :
    Calls Tryz.prog 159 #[.slice (some ⟨R, off, none⟩) 2 cap, .pointer (some ⟨n + 1 + 1 + 1, 0, none⟩), .pointer (some ⟨n + 1, 0, none⟩), .pointer (some ⟨n, 0, none⟩), .pointer (some ⟨n + 1 + 1 + 1 + 1 + 1, 0, none⟩)] w
      fun e w' => e = .returned (.tuple #[.string (mark ++ ⟨(Lib.itoa (a * 256 + b)).toArray⟩), .bool (decide (least ≤ a * 256 + b) && decide (a * 256 + b ≤ 65535))]) ∧ Below w.heap.size w w' := by
  obtain ⟨c0, c1, c2, c3, c5, hlt⟩ := hh
  have l0 : n < w.heap.size := by omega
  have l5 : n + 1 + 1 + 1 + 1 + 1 < w.heap.size := by omega
  have hca := @above_cell
  have hgt : ¬ 65535 < a * 256 + b := by omega
  have hadd := concat_ok mark (a * 256 + b) hms (by omega) (by omega)
  go_enter Tryz.func159, Tryz.ntmps159
  go_wp2_with (go_at_call 160; refine (joined2 _ _ _ _ _ h0 h1 h2 h3 _ hc hd).mono ?_; rintro e w' ⟨rfl, rfl⟩)
  refine wp_region_calm (by kernel_rfl) (by kernel_rfl) ?_
  repeat (go_big_quiet_step (first
    | (go_at_call 139; exact calm_call (itoa_any _ (by omega) (by omega) _ (Pow.on hp (below_above _ _))))
    | (go_at_call 158; exact calm_same (may_any _ _ _ _ _ _ (by rw [above_cell (by omega)]; exact c2) (by rw [above_cell (by omega)]; exact c3)))))
  refine wpQuiet_nil ?_
  intro w2 hb2
  go_wp2
  go_ret2
  exact ⟨rfl, hb2⟩
/-- the number of a field of this kind whose bytes are a, b -/
def kNum (k : Nat) (a b : Int) : Int := if k = 4 then a * 256 + b else num1 (kMost k) a
def kOk (k : Nat) (a b : Int) : Bool := decide (kLeast k ≤ kNum k a b) && decide (kNum k a b ≤ kMost k)
def kText (k : Nat) (a b : Int) : ByteArray := kMark k ++ ⟨(Lib.itoa (kNum k a b)).toArray⟩
theorem write_any (k n R off cap : Nat) (k1 : 1 ≤ k) (k5 : k ≤ 5) (a b : Int) (h0 : 0 ≤ a) (h1 : a ≤ 255) (w : World) (hp : Pow w) (hh : Hcells w n (kMark k) (kSize k) (kLeast k) (kMost k))
    (hc : w.cell? ⟨R, off, none⟩ = some (.int .u8 a)) (hd : k = 4 → 0 ≤ b ∧ b ≤ 255 ∧ w.cell? ⟨R, off + 1, none⟩ = some (.int .u8 b)) :
    Calls Tryz.prog 159 #[.slice (some ⟨R, off, none⟩) (kSize k).toNat cap, .pointer (some ⟨n + 1 + 1 + 1, 0, none⟩), .pointer (some ⟨n + 1, 0, none⟩), .pointer (some ⟨n, 0, none⟩), .pointer (some ⟨n + 1 + 1 + 1 + 1 + 1, 0, none⟩)] w
      fun e w' => e = .returned (.tuple #[.string (kText k a b), .bool (kOk k a b)]) ∧ Below w.heap.size w w' := by
  obtain rfl | rfl | rfl | rfl | rfl : k = 1 ∨ k = 2 ∨ k = 3 ∨ k = 4 ∨ k = 5 := by omega
  · exact write1 n R off cap _ _ _ a (by decide) h0 h1 (by decide) w hp hh hc
  · exact write1 n R off cap _ _ _ a (by decide) h0 h1 (by decide) w hp hh hc
  · exact write1 n R off cap _ _ _ a (by decide) h0 h1 (by decide) w hp hh hc
  · obtain ⟨h2, h3, hd⟩ := hd rfl
    exact write2 n R off cap _ _ a b (by decide) h0 h1 h2 h3 w hp hh hc hd
  · exact write1 n R off cap _ _ _ a (by decide) h0 h1 (by decide) w hp hh hc
end Go.Proofs.YtomccgodfimaiaaGreatDoor
