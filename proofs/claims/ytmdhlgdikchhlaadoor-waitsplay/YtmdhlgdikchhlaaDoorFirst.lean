/- First: who is. -/
import Derived.Test.YtmdhlgdikchhlaaDoorSeen
namespace Go.Proofs.YtmdhlgdikchhlaaDoor
open Go Go.RowKit
set_option maxRecDepth 100000
set_option linter.unusedVariables false
set_option linter.unusedSimpArgs false
theorem qfirst_any {B : Nat} {w : World} {p : Nat} {xs : List (Int × Int)} (h : Qu B w p xs) :
    Calls Tryd.prog 14 #[.pointer (some ⟨p, 0, none⟩)] w fun e w' => e = .returned (.tuple #[.int .i64 (fsv xs), .bool (fsb xs)]) ∧ w = w' := by
  obtain ⟨bs, h⟩ := h
  have HT := there_yes h
  have c0 := h.start
  have d2 := (h.cells (i := 0) (by omega)).2.2
  by_cases h0 : 0 < xs.length
  · have e1 : fsb xs = true := by simp [fsb, h0]
    rw [nxt_some (by have := h.blen; omega)] at d2
    have e2 := (h.cells (i := 0 + 1) (by omega)).1
    rw [yat_succ] at e2
    have e3 : (xs.getD 0 (0, 0)).1 = fsv xs := rfl
    rw [e3] at e2
    rw [e1]
    clear h e1 e3
    generalize fsv xs = v at *
    generalize bat bs (0 + 1) = b1 at *
    generalize bat bs 0 = b0 at *
    go_enter Tryd.func14, Tryd.ntmps14
    go_wp2_with (first | (go_at_call 25; refine HT.mono ?_; rintro e wx ⟨rfl, rfl⟩))
    go_ret2
    exact ⟨rfl, rfl⟩
  · have e1 : fsb xs = false := by unfold fsb; exact decide_eq_false h0
    have e2 : fsv xs = 0 := by
      have : xs = [] := List.eq_nil_of_length_eq_zero (by omega)
      rw [this]; rfl
    rw [nxt_none (by have := h.blen; omega)] at d2
    rw [e1, e2]
    clear h e1 e2
    generalize bat bs 0 = b0 at *
    go_enter Tryd.func14, Tryd.ntmps14
    go_wp2_with (first | (go_at_call 25; refine HT.mono ?_; rintro e wx ⟨rfl, rfl⟩))
    go_ret2
    exact ⟨rfl, rfl⟩
end Go.Proofs.YtmdhlgdikchhlaaDoor
