/- What the small functions of package cpu answer, each by its contract. -/
import Derived.Test.YtomccgodfimaiaaGreatDoorCM2
import Derived.Deep.RegionHeld3
import Derived.WalkSmall
namespace Go.Proofs.YtomccgodfimaiaaGreatDoor
set_option linter.all false
open Go Go.RowKit
set_option maxRecDepth 100000
set_option linter.unusedVariables false
/-- which registers an instruction names, if it may be -/
theorem wrt_one {ks : List Nat} {x : Int} (hx : x ≤ 255) {bs : List Int} {acc : List ByteArray} (h : (wrt (1 :: ks) (x :: bs) acc).1 = true) : (0 ≤ x ∧ x ≤ 7) ∧ ∃ acc', (wrt ks bs acc').1 = true := by
  unfold wrt at h
  split at h
  · rename_i hk
    refine ⟨?_, _, h⟩
    simp [kOk, kNum, kLeast, kMost] at hk
    unfold num1 at hk
    split at hk <;> omega
  · cases h
theorem may_wrt {o : Nat} {a b c : Int} (h : may o a b c = true) : o < 23 ∧ (wrt (ksOf o) [a, b, c] [fWord o]).1 = true := by
  simpa [may] using h
theorem may_a {o : Nat} {a b c : Int} {ks : List Nat} (ha : a ≤ 255) (h : may o a b c = true) (hk : ksOf o = 1 :: ks) : 0 ≤ a ∧ a ≤ 7 := by
  obtain ⟨_, h⟩ := may_wrt h
  rw [hk] at h
  exact (wrt_one ha h).1
theorem may_b {o : Nat} {a b c : Int} {ks : List Nat} (ha : a ≤ 255) (hb : b ≤ 255) (h : may o a b c = true) (hk : ksOf o = 1 :: 1 :: ks) : 0 ≤ b ∧ b ≤ 7 := by
  obtain ⟨_, h⟩ := may_wrt h
  rw [hk] at h
  obtain ⟨_, _, h⟩ := wrt_one ha h
  exact (wrt_one hb h).1
theorem may_c {o : Nat} {a b c : Int} (ha : a ≤ 255) (hb : b ≤ 255) (hc : c ≤ 255) (h : may o a b c = true) (hk : ksOf o = [1, 1, 1]) : 0 ≤ c ∧ c ≤ 7 := by
  obtain ⟨_, h⟩ := may_wrt h
  rw [hk] at h
  obtain ⟨_, _, h⟩ := wrt_one ha h
  obtain ⟨_, _, h⟩ := wrt_one hb h
  exact (wrt_one hc h).1
def pnt (p : Nat) : Value := .pointer (some ⟨p, 0, none⟩)
theorem isThere_any {w : World} {G : Kp} {cv : Value} {c : Cr} (h : CM w G cv c) : Calls Tryz.prog 39 #[.pointer (some ⟨G.p, 0, none⟩)] w fun e w' => e = .returned (.bool true) ∧ w' = w := by
  have h9 := h.c9
  clear h
  go_enter Tryz.func39, Tryz.ntmps39
  go_wp2
  go_ret
  exact ⟨rfl, rfl⟩
theorem isThere_nil (w : World) : Calls Tryz.prog 39 #[.pointer none] w fun e w' => e = .returned (.bool false) ∧ w' = w := by
  go_enter Tryz.func39, Tryz.ntmps39
  go_wp2
  go_ret
  exact ⟨rfl, rfl⟩
theorem next_any {w : World} {G : Kp} {cv : Value} {c : Cr} (h : CM w G cv c) : Calls Tryz.prog 92 #[.pointer (some ⟨G.p, 0, none⟩)] w fun e w' => e = .returned (.int .i64 (c.pc + 1)) ∧ w' = w := by
  have h8 := h.c8
  have hp := h.pc
  clear h
  generalize c.pc = n at *
  go_enter Tryz.func92, Tryz.ntmps92
  go_wp2
  go_ret
  exact ⟨by go_num, rfl⟩
theorem or_two {x y : Int} (hx : 0 ≤ x ∧ x ≤ 255) (hy : 0 ≤ y ∧ y ≤ 255) : bits .or .i64 (x * 256) y = x * 256 + y := or_byte x y hx.1 hx.2 hy.1 hy.2
theorem wide_any (a b : Int) (ha : 0 ≤ a ∧ a ≤ 255) (hb : 0 ≤ b ∧ b ≤ 255) (w : World) : Calls Tryz.prog 114 #[.int .u8 a, .int .u8 b] w fun e w' => e = .returned (.int .i64 (a * 256 + b)) ∧ w' = w := by
  have h1 := or_two ha hb
  have h2 : wrap64 a = a := by unfold wrap64; omega
  have h3 : wrap64 b = b := by unfold wrap64; omega
  have h4 : wrap64 (a * 256) = a * 256 := by unfold wrap64; omega
  go_enter Tryz.func114, Tryz.ntmps114
  go_wp2
  go_ret
  exact ⟨rfl, rfl⟩
/-- the value that a fault panics with -/
def fltV : Value := .iface 174 (.agg #[])
theorem must_ok (w : World) : Calls Tryz.prog 119 #[.int .i64 0] w fun e w' => e = .returned (.tuple #[]) ∧ w' = w := by
  go_enter Tryz.func119, Tryz.ntmps119
  go_wp2
  go_end0
  exact ⟨rfl, rfl⟩
theorem must_no (n : Int) (hn : ¬ n = 0) (w : World) : Calls Tryz.prog 119 #[.int .i64 n] w fun e w' => e = .panicked [{ v := fltV, recovered := false }] ∧ w' = w := by
  go_enter Tryz.func119, Tryz.ntmps119
  go_wp2
  exact ⟨rfl, rfl, rfl⟩
theorem found32_ok (v : Int) (w : World) : Calls Tryz.prog 115 #[.int .u32 v, .int .i64 0] w fun e w' => e = .returned (.int .u32 v) ∧ w' = w := by
  go_enter Tryz.func115, Tryz.ntmps115
  go_wp2_with (go_at_call 119; refine (must_ok _).mono ?_; rintro e w' ⟨rfl, rfl⟩)
  go_ret
  exact ⟨rfl, rfl⟩
theorem found8_ok (v : Int) (w : World) : Calls Tryz.prog 121 #[.int .u8 v, .int .i64 0] w fun e w' => e = .returned (.int .u8 v) ∧ w' = w := by
  go_enter Tryz.func121, Tryz.ntmps121
  go_wp2_with (go_at_call 119; refine (must_ok _).mono ?_; rintro e w' ⟨rfl, rfl⟩)
  go_ret
  exact ⟨rfl, rfl⟩
theorem foundB_ok (v : Bool) (w : World) : Calls Tryz.prog 124 #[.bool v, .int .i64 0] w fun e w' => e = .returned (.bool v) ∧ w' = w := by
  go_enter Tryz.func124, Tryz.ntmps124
  go_wp2_with (go_at_call 119; refine (must_ok _).mono ?_; rintro e w' ⟨rfl, rfl⟩)
  go_ret
  exact ⟨rfl, rfl⟩
theorem found32_no (v n : Int) (hn : ¬ n = 0) (w : World) : Calls Tryz.prog 115 #[.int .u32 v, .int .i64 n] w fun e w' => e = .panicked [{ v := fltV, recovered := false }] ∧ w' = w := by
  go_enter Tryz.func115, Tryz.ntmps115
  go_wp2_with (go_at_call 119; refine (must_no _ hn _).mono ?_; rintro e w' ⟨rfl, rfl⟩)
  exact ⟨rfl, rfl, rfl⟩
theorem found8_no (v n : Int) (hn : ¬ n = 0) (w : World) : Calls Tryz.prog 121 #[.int .u8 v, .int .i64 n] w fun e w' => e = .panicked [{ v := fltV, recovered := false }] ∧ w' = w := by
  go_enter Tryz.func121, Tryz.ntmps121
  go_wp2_with (go_at_call 119; refine (must_no _ hn _).mono ?_; rintro e w' ⟨rfl, rfl⟩)
  exact ⟨rfl, rfl, rfl⟩
end Go.Proofs.YtomccgodfimaiaaGreatDoor
