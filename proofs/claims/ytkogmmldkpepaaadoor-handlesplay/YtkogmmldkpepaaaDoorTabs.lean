/- What the inner functions of package handles answer, and 'New', 'Place', 'Drop'. -/
import Derived.Test.YtkogmmldkpepaaaDoorMem
namespace Go.Proofs.YtkogmmldkpepaaaDoor
open Go Go.RowKit
set_option maxRecDepth 100000
set_option linter.unusedVariables false
theorem there_yes {w : World} {p n : Nat} (h0 : w.cell? ⟨p, 0, none⟩ = some (.int .i64 n)) (hn : 1 ≤ n) :
    Calls Tryd.prog 17 #[.pointer (some ⟨p, 0, none⟩)] w fun e w' => e = .returned (.bool true) ∧ w' = w := by
  have hlt : 0 < n := by omega
  go_enter Tryd.func17, Tryd.ntmps17
  go_wp2
  go_ret
  exact ⟨rfl, rfl⟩
theorem there_zero {w : World} {p : Nat} (h0 : w.cell? ⟨p, 0, none⟩ = some (.int .i64 0)) :
    Calls Tryd.prog 17 #[.pointer (some ⟨p, 0, none⟩)] w fun e w' => e = .returned (.bool false) ∧ w' = w := by
  go_enter Tryd.func17, Tryd.ntmps17
  go_wp2
  go_ret
  exact ⟨rfl, rfl⟩
theorem there_nil {w : World} :
    Calls Tryd.prog 17 #[.pointer none] w fun e w' => e = .returned (.bool false) ∧ w' = w := by
  go_enter Tryd.func17, Tryd.ntmps17
  go_wp2
  go_ret
  exact ⟨rfl, rfl⟩
/-- a slot that was put down for a call -/
theorem slot_c0 (w : World) (x y : Value) : (w.alloc (.cells #[x, y] 55)).cell? ⟨w.heap.size, 0, none⟩ = some x := by rw [cell_of (alloc_at w _)]; rfl
theorem slot_c1 (w : World) (x y : Value) : (w.alloc (.cells #[x, y] 55)).cell? ⟨w.heap.size, 1, none⟩ = some y := by rw [cell_of (alloc_at w _)]; rfl
theorem isFree_any {w : World} (g : Nat) (t : Bool) :
    Calls Tryd.prog 20 #[.agg #[.int .u32 (g : Nat), .bool t]] w fun e w' => e = .returned (.bool (isFr (g, t))) ∧ Below w.heap.size w w' := by
  have c0 := slot_c0 w (.int .u32 (g : Nat)) (.bool t)
  have c1 := slot_c1 w (.int .u32 (g : Nat)) (.bool t)
  have hb := alloc_below w (.cells #[.int .u32 (g : Nat), .bool t] 55)
  cases t
  · by_cases hg : (g : Int) < 16777215
    · have e : isFr (g, false) = true := by simp [isFr]; omega
      rw [e]
      go_enter Tryd.func20, Tryd.ntmps20
      go_wp2
      go_ret
      exact ⟨rfl, hb⟩
    · have e : isFr (g, false) = false := by simp [isFr]; omega
      rw [e]
      go_enter Tryd.func20, Tryd.ntmps20
      go_wp2
      go_ret
      exact ⟨rfl, hb⟩
  · have e : isFr (g, true) = false := by simp [isFr]
    rw [e]
    go_enter Tryd.func20, Tryd.ntmps20
    go_wp2
    go_ret
    exact ⟨rfl, hb⟩
theorem cFree_any {w : World} (g : Nat) (t : Bool) :
    Calls Tryd.prog 19 #[.agg #[.int .u32 (g : Nat), .bool t]] w fun e w' => e = .returned (.bool (isFr (g, t))) ∧ Below w.heap.size w w' := by
  have c0 := slot_c0 w (.int .u32 (g : Nat)) (.bool t)
  have c1 := slot_c1 w (.int .u32 (g : Nat)) (.bool t)
  have HB : Hid (Below w.heap.size w (w.alloc (.cells #[.int .u32 (g : Nat), .bool t] 55))) := alloc_below w _
  go_enter Tryd.func19, Tryd.ntmps19
  go_wp2_with (first | (go_at_call 20; refine (isFree_any g t).mono ?_; rintro e wx ⟨rfl, hb⟩))
  go_ret
  exact ⟨rfl, HB.out.trans (hb.mono HB.out.size)⟩
theorem cTaken_any {w : World} (g : Nat) (t : Bool) :
    Calls Tryd.prog 22 #[.agg #[.int .u32 (g : Nat), .bool t]] w fun e w' => e = .returned (.bool t) ∧ Below w.heap.size w w' := by
  have c1 := slot_c1 w (.int .u32 (g : Nat)) (.bool t)
  have hb := alloc_below w (.cells #[.int .u32 (g : Nat), .bool t] 55)
  go_enter Tryd.func22, Tryd.ntmps22
  go_wp2
  go_ret
  exact ⟨rfl, hb⟩
theorem handle_any {w : World} {p n : Nat} {s : Slots} (h : Tab w p n s) (i : Nat) (hi : i < n) :
    Calls Tryd.prog 21 #[.pointer (some ⟨p, 0, none⟩), .int .i64 i] w fun e w' => e = .returned (.int .u32 (hd s i : Nat)) ∧ w' = w := by
  have hn := h.hi
  have c := h.lay.gen i (by omega)
  have ht := h.good.top i
  have hiI : (i : Int) < 256 := by omega
  unfold hd
  clear h
  generalize (s i).1 = g at *
  go_enter Tryd.func21, Tryd.ntmps21
  go_wp2
  go_ret
  exact ⟨rfl, rfl⟩
end Go.Proofs.YtkogmmldkpepaaaDoor
