/- A chain: all that are there. -/
import Derived.Test.YtciafjmljmeimaaDoorDShift
namespace Go.Proofs.YtciafjmljmeimaaDoor
open Go Go.RowKit
set_option maxRecDepth 100000
set_option linter.unusedVariables false
theorem made_zero (n : Nat) : madeCells (Value.int .i64 0).cells n = (num (List.replicate n 0)).toArray := by
  apply Array.ext_getElem?
  intro i
  by_cases hi : i < n
  · simp [madeCells, Value.cells, num, hi, Nat.mod_one]
  · simp [madeCells, Value.cells, num, hi]
/-- a new row of noughts -/
theorem make_row (w : World) (l c : Nat) (hl : l ≤ c) (hc : c ≤ 1000000) :
    (Instr.makeSlice 43 (.int .i64 l) (.int .i64 c)).run Tryd.prog w = .ok (.slice (some ⟨w.heap.size, 0, none⟩) l c) (w.alloc (.cells (num (List.replicate c 0)).toArray 3)) := by
  obtain ⟨i, hi, he⟩ := Option.map_eq_some_iff.1 infoW
  have h1 : i.zero = some (.int .i64 0) := by simpa using congrArg Prod.fst he
  have h2 : i.size = 1 := by simpa using congrArg (fun x => x.2.1) he
  have h3 : i.bytes = 8 := by simpa using congrArg (fun x => x.2.2) he
  have := run_make w 43 3 i (.int .i64 0) Tryd.underlying43 hi h1 .i64 .i64 l c (by omega) (by omega) (by rw [h3]; omega) (by omega)
  rw [this, h2, Nat.mul_one, made_zero]
  simp
theorem own_row {w : World} {B g : Nat} {xs : List Int} (h : Row w g xs) (hb : B ≤ g) (hl : xs.length ≤ 1000000) : w.ownsRow B 3 1 (.slice (some ⟨g, 0, none⟩) xs.length xs.length) xs.length (xs.map (Value.int .i64)) := by
  refine ⟨by simp, Or.inr ⟨g, xs.length, _, rfl, hb, h, Nat.le_refl _, by simp only [maxLen]; omega, by simp [num], ?_⟩⟩
  simp [num, List.take_of_length_le]
/-- so many of a list, noughts behind them -/
def upto (xs : List Int) (i : Nat) : List Int := xs.take i ++ List.replicate (xs.length - i) 0
theorem upto_len {xs : List Int} {i : Nat} (hi : i ≤ xs.length) : (upto xs i).length = xs.length := by simp [upto]; omega
theorem upto_zero (xs : List Int) : upto xs 0 = List.replicate xs.length 0 := by simp [upto]
theorem upto_all (xs : List Int) : upto xs xs.length = xs := by simp [upto]
theorem upto_next {xs : List Int} {i : Nat} (hi : i < xs.length) : (upto xs i).set i (xs.getD i 0) = upto xs (i + 1) := by
  apply List.ext_getElem?
  intro j
  have hl := upto_len (Nat.le_of_lt hi)
  have hl' := upto_len (show i + 1 ≤ xs.length by omega)
  by_cases hj : j < xs.length
  · rw [List.getElem?_set]
    by_cases e : i = j
    · subst e
      rw [if_pos rfl, if_pos (by omega)]
      simp only [upto]
      rw [List.getElem?_append_left (by simp; omega), List.getElem?_take_of_lt (by omega)]
      simp [hi]
    · rw [if_neg e]
      simp only [upto]
      by_cases c : j < i
      · rw [List.getElem?_append_left (by simp; omega), List.getElem?_append_left (by simp; omega), List.getElem?_take_of_lt c, List.getElem?_take_of_lt (by omega)]
      · rw [List.getElem?_append_right (by simp; omega), List.getElem?_append_right (by simp; omega)]
        simp only [List.length_take]
        rw [List.getElem?_replicate, List.getElem?_replicate, if_pos (by omega), if_pos (by omega)]
  · rw [List.getElem?_eq_none (by rw [List.length_set]; omega), List.getElem?_eq_none (by omega)]
end Go.Proofs.YtciafjmljmeimaaDoor
