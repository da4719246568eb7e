/- What the inner functions of package waits do, for every queue in memory. -/
import Derived.Test.YtmdhlgdikchhlaaMem
namespace Go.Proofs.Ytmdhlgdikchhlaa
open Go Go.RowKit
set_option maxRecDepth 100000
set_option linter.unusedVariables false
theorem there_yes {B : Nat} {w : World} {p : Nat} {bs : List Nat} {xs : List (Int × Int)} (h : Que B w p bs xs) :
    Calls Try.prog 12 #[.pointer (some ⟨p, 0, none⟩)] w fun e w' => e = .returned (.bool true) ∧ w = w' := by
  have c0 := h.start
  clear h
  generalize bat bs 0 = b at *
  go_enter Try.func12, Try.ntmps12
  go_wp2
  go_ret
  exact ⟨rfl, rfl⟩
theorem there_nil {w : World} :
    Calls Try.prog 12 #[.pointer none] w fun e w' => e = .returned (.bool false) ∧ w = w' := by
  go_enter Try.func12, Try.ntmps12
  go_wp2
  go_ret
  exact ⟨rfl, rfl⟩
theorem isRank_any {w : World} (r : Int) :
    Calls Try.prog 13 #[.int .i64 r] w fun e w' => e = .returned (.bool (decide (¬ badR r))) ∧ w = w' := by
  by_cases h0 : r < 0
  · have h1 : ¬ (0 ≤ r) := by omega
    have e : decide (¬ badR r) = false := by simp [badR]; omega
    rw [e]
    clear e
    go_enter Try.func13, Try.ntmps13
    go_wp2
    go_ret
    exact ⟨rfl, rfl⟩
  · have h1 : 0 ≤ r := by omega
    by_cases h2 : r ≤ 31
    · have e : decide (¬ badR r) = true := by simp [badR]; omega
      rw [e]
      clear e
      go_enter Try.func13, Try.ntmps13
      go_wp2
      go_ret
      exact ⟨rfl, rfl⟩
    · have e : decide (¬ badR r) = false := by simp [badR]; omega
      rw [e]
      clear e
      go_enter Try.func13, Try.ntmps13
      go_wp2
      go_ret
      exact ⟨rfl, rfl⟩
theorem cWho_any {w : World} {c : Nat} {who : Int} (hc : w.cell? ⟨c, 0, none⟩ = some (.int .i64 who)) (y : Int × Int) (b : Bool) (hb : (y.1 == who) = b) :
    Calls Try.prog 19 #[.agg #[.int .i64 y.1, .int .i64 y.2], .pointer (some ⟨c, 0, none⟩)] w fun e w' => e = .returned (.bool b) ∧ Below w.heap.size w w' := by
  obtain ⟨y1, y2⟩ := y
  simp only at hb ⊢
  have hlt := cell_lt hc
  have HB : Hid (Below w.heap.size w (w.alloc (.cells #[.int .i64 y1, .int .i64 y2] 36))) := alloc_below w _
  go_enter Try.func19, Try.ntmps19
  go_wp2
  go_ret
  exact ⟨rfl, HB.out⟩
theorem cRank_any {w : World} {c : Nat} {r : Int} (hc : w.cell? ⟨c, 1, none⟩ = some (.int .i64 r)) (y : Int × Int) (b : Bool) (hb : decide (y.2 < r) = b) :
    Calls Try.prog 20 #[.agg #[.int .i64 y.1, .int .i64 y.2], .pointer (some ⟨c, 0, none⟩)] w fun e w' => e = .returned (.bool b) ∧ Below w.heap.size w w' := by
  obtain ⟨y1, y2⟩ := y
  simp only at hb ⊢
  have hlt := cell_lt hc
  have HB : Hid (Below w.heap.size w (w.alloc (.cells #[.int .i64 y1, .int .i64 y2] 36))) := alloc_below w _
  go_enter Try.func20, Try.ntmps20
  go_wp2
  go_ret
  exact ⟨rfl, HB.out⟩
end Go.Proofs.Ytmdhlgdikchhlaa
