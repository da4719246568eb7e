/- What the inner functions of package waits do, for every queue in memory. -/
import Derived.Test.YtmdhlgdikchhlaaDoorMem
namespace Go.Proofs.YtmdhlgdikchhlaaDoor
open Go Go.RowKit
set_option maxRecDepth 100000
set_option linter.unusedVariables false
theorem there_yes {B : Nat} {w : World} {p : Nat} {bs : List Nat} {xs : List (Int × Int)} (h : Que B w p bs xs) :
    Calls Tryd.prog 25 #[.pointer (some ⟨p, 0, none⟩)] w fun e w' => e = .returned (.bool true) ∧ w = w' := by
  have c0 := h.start
  clear h
  generalize bat bs 0 = b at *
  go_enter Tryd.func25, Tryd.ntmps25
  go_wp2
  go_ret
  exact ⟨rfl, rfl⟩
theorem there_nil {w : World} :
    Calls Tryd.prog 25 #[.pointer none] w fun e w' => e = .returned (.bool false) ∧ w = w' := by
  go_enter Tryd.func25, Tryd.ntmps25
  go_wp2
  go_ret
  exact ⟨rfl, rfl⟩
theorem isRank_any {w : World} (r : Int) :
    Calls Tryd.prog 23 #[.int .i64 r] w fun e w' => e = .returned (.bool (decide (¬ badR r))) ∧ w = w' := by
  by_cases h0 : r < 0
  · have h1 : ¬ (0 ≤ r) := by omega
    have e : decide (¬ badR r) = false := by simp [badR]; omega
    rw [e]
    clear e
    go_enter Tryd.func23, Tryd.ntmps23
    go_wp2
    go_ret
    exact ⟨rfl, rfl⟩
  · have h1 : 0 ≤ r := by omega
    by_cases h2 : r ≤ 31
    · have e : decide (¬ badR r) = true := by simp [badR]; omega
      rw [e]
      clear e
      go_enter Tryd.func23, Tryd.ntmps23
      go_wp2
      go_ret
      exact ⟨rfl, rfl⟩
    · have e : decide (¬ badR r) = false := by simp [badR]; omega
      rw [e]
      clear e
      go_enter Tryd.func23, Tryd.ntmps23
      go_wp2
      go_ret
      exact ⟨rfl, rfl⟩
theorem cWho_any {w : World} {c : Nat} {who : Int} (hc : w.cell? ⟨c, 0, none⟩ = some (.int .i64 who)) (y : Int × Int) (b : Bool) (hb : (y.1 == who) = b) :
    Calls Tryd.prog 55 #[.agg #[.int .i64 y.1, .int .i64 y.2], .pointer (some ⟨c, 0, none⟩)] w fun e w' => e = .returned (.bool b) ∧ Below w.heap.size w w' := by
  obtain ⟨y1, y2⟩ := y
  simp only at hb ⊢
  have hlt := cell_lt hc
  have HB : Hid (Below w.heap.size w (w.alloc (.cells #[.int .i64 y1, .int .i64 y2] 52))) := alloc_below w _
  go_enter Tryd.func55, Tryd.ntmps55
  go_wp2
  go_ret
  exact ⟨rfl, HB.out⟩
theorem cRank_any {w : World} {c : Nat} {r : Int} (hc : w.cell? ⟨c, 1, none⟩ = some (.int .i64 r)) (y : Int × Int) (b : Bool) (hb : decide (y.2 < r) = b) :
    Calls Tryd.prog 53 #[.agg #[.int .i64 y.1, .int .i64 y.2], .pointer (some ⟨c, 0, none⟩)] w fun e w' => e = .returned (.bool b) ∧ Below w.heap.size w w' := by
  obtain ⟨y1, y2⟩ := y
  simp only at hb ⊢
  have hlt := cell_lt hc
  have HB : Hid (Below w.heap.size w (w.alloc (.cells #[.int .i64 y1, .int .i64 y2] 52))) := alloc_below w _
  go_enter Tryd.func53, Tryd.ntmps53
  go_wp2
  go_ret
  exact ⟨rfl, HB.out⟩
end Go.Proofs.YtmdhlgdikchhlaaDoor
