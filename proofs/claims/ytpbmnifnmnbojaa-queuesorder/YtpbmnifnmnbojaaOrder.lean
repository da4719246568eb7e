/- What is put, and what is pushed, as lists; a row of one's own with other messages behind it. No law of the program itself. -/
import Derived.Test.YtpbmnifnmnbojaaSlices
import Derived.Lib.AppendZeros
namespace Go.Proofs.Ytpbmnifnmnbojaa
open Go Go.RowKit
set_option maxRecDepth 100000
set_option linter.unusedVariables false
/-- so many that were pushed, the last one first, and so many that were put -/
def mix (L M : List Int) (i j : Nat) : List Int := (M.take i).reverse ++ L.take j
theorem mix_zero (L M : List Int) : mix L M 0 0 = [] := by simp [mix]
theorem mix_len (L M : List Int) (i j : Nat) : (mix L M i j).length = min i M.length + min j L.length := by simp [mix]
theorem mix_put {L M : List Int} {i j n : Nat} (hj : j < L.length) (hn : min i M.length + j < n) : addE (mix L M i j) n = 0 ∧ putL (mix L M i j) n (L.getD j 0) = mix L M i (j + 1) := by
  have hl : (mix L M i j).length ≠ n := by rw [mix_len]; omega
  refine ⟨addE_ok hl, ?_⟩
  rw [putL_ok hl]
  unfold mix
  rw [take_snoc hj, List.append_assoc]
theorem mix_push {L M : List Int} {i j n : Nat} (hi : i < M.length) (hn : i + min j L.length < n) : addE (mix L M i j) n = 0 ∧ pushL (mix L M i j) n (M.getD i 0) = mix L M (i + 1) j := by
  have hl : (mix L M i j).length ≠ n := by rw [mix_len]; omega
  refine ⟨addE_ok hl, ?_⟩
  rw [pushL_ok hl]
  unfold mix
  rw [take_snoc hi, List.reverse_append]
  rfl
theorem mix_left {L M : List Int} {i j : Nat} (hi : M.length ≤ i) : mix L M (i + 1) j = mix L M i j := by
  unfold mix; rw [show M.take (i + 1) = M.take i from by rw [List.take_of_length_le hi, List.take_of_length_le (show M.length ≤ i + 1 by omega)]]
theorem mix_right {L M : List Int} {i j : Nat} (hj : L.length ≤ j) : mix L M i (j + 1) = mix L M i j := by
  unfold mix; rw [show L.take (j + 1) = L.take j from by rw [List.take_of_length_le hj, List.take_of_length_le (show L.length ≤ j + 1 by omega)]]
theorem mix_all {L M : List Int} {i j : Nat} (hi : M.length ≤ i) (hj : L.length ≤ j) : mix L M i j = M.reverse ++ L := by
  unfold mix; rw [List.take_of_length_le hi, List.take_of_length_le hj]
theorem rev_next {M : List Int} {i r : Nat} (hr : M.length = r) (hi : i < r) : M.reverse.take i ++ [M.getD (r - 1 - i) 0] = M.reverse.take (i + 1) := by
  subst hr
  rw [take_snoc (us := M.reverse) (by simpa using hi)]
  congr 2
  rw [List.getD_eq_getElem?_getD, List.getD_eq_getElem?_getD, List.getElem?_reverse hi]
/-- nothing more behind a row of one's own -/
theorem run_append_empty {w : World} {B : Nat} {v : Value} {n : Nat} {xs : List Value} (ho : w.ownsRow B 22 1 v n xs) (sp : Option Addr) (c : Nat) :
    (Builtin.append_ #[34, 34] 34 #[v, .slice sp 0 c]).run Try.prog w = .ok v w := by
  obtain ⟨i0, hi, hz0, hz1, hz2⟩ := info_parts infoW
  rcases ho.2 with ⟨rfl, rfl⟩ | ⟨g, cap, cur, rfl, hg, hh, hc, r⟩
  · rcases sp with _ | a
    · simp [Builtin.append_, run_underlying Try.underlying34, sizeOf, typeInfo, hi, Builtin.lenOf, Builtin.firstCells]
    · simp [Builtin.append_, run_underlying Try.underlying34, sizeOf, typeInfo, hi, Builtin.lenOf, Builtin.firstCells, loadCells, loadCellsFrom]
  · rcases sp with _ | a
    · simp [Builtin.append_, run_underlying Try.underlying34, sizeOf, typeInfo, hi, Builtin.lenOf, Builtin.firstCells, hc, storeCells]
    · simp [Builtin.append_, run_underlying Try.underlying34, sizeOf, typeInfo, hi, Builtin.lenOf, Builtin.firstCells, loadCells, loadCellsFrom, hc, storeCells]
/-- messages behind a row of one's own -/
theorem run_append_words {w : World} {B : Nat} {v : Value} {n q : Nat} {xs L : List Int} (ho : w.ownsRow B 22 1 v n (xs.map (Value.int .u32))) {sp : Option Addr} (hs : Src w sp L) (hq : L.length = q) (c : Nat) (hn : n + q ≤ 1000) (hB : B ≤ w.heap.size) :
    ∃ v' w', (Builtin.append_ #[34, 34] 34 #[v, .slice sp q c]).run Try.prog w = .ok v' w' ∧ w'.ownsRow B 22 1 v' (n + q) ((xs ++ L).map (Value.int .u32)) ∧ w.grownBy w' v.ownBlock := by
  obtain ⟨i0, hi, hz0, hz1, hz2⟩ := info_parts infoW
  by_cases h0 : q = 0
  · subst h0
    obtain rfl : L = [] := List.eq_nil_of_length_eq_zero hq
    exact ⟨v, w, run_append_empty ho sp c, by simpa using ho, ⟨rfl, rfl, rfl, Nat.le_refl _, fun _ _ _ => rfl⟩⟩
  · obtain ⟨b, off, rfl, hc⟩ := hs (by omega)
    obtain ⟨v', w', hr, h1, h2, _⟩ := run_append_own (P := Try.prog) w B 34 34 22 i0 (.int .u32 0) 1 4 Try.underlying34 hi hz0 hz1 hz2 rfl (by decide) v n _ ho ⟨b, off, none⟩ q c (L.map (Value.int .u32)) (by simp [hq]) (src_news hs) (ints_one _) (by simp only [maxLen]; omega) (by omega) hB
    exact ⟨v', w', hr, by simpa using h1, h2⟩
end Go.Proofs.Ytpbmnifnmnbojaa
