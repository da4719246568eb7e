/- 'ImagesOdd': texts with a line that is none. -/
import Derived.Test.YtcjghnnliepjjaaGreatDoorLinesV
namespace Go.Proofs.YtcjghnnliepjjaaGreatDoor
open Go Go.RowKit
set_option maxRecDepth 100000
set_option linter.unusedVariables false
set_option linter.unusedSimpArgs false
/-- the lines that are none -/
def odL : List (List UInt8) := [[115, 105, 122, 101], [100, 97, 116, 97, 32], [100, 97, 116, 97, 32, 48], [100, 97, 116, 97, 32, 48, 71], [100, 97, 116, 97, 32, 65, 66], [110, 111, 112, 32], [32, 110, 111, 112], [97, 100, 100, 32, 114, 49, 32, 114, 50], [115, 105, 122, 101, 32, 48, 49], [115, 105, 122, 101, 32, 50, 49, 52, 55, 52, 56, 51, 54, 52, 56], [115, 105, 122, 101, 32, 45, 49], [83, 105, 122, 101, 32, 49], [100, 97, 116, 97, 32, 48, 48, 32, 48, 48], [97, 115, 107, 32, 48]]
theorem odL_len : odL.length = 14 := rfl
/-- whatever the image is so far -/
def noLine (l : List UInt8) : Bool := if wordOf l = [115, 105, 122, 101] then (dec31 (restOf l)).isNone else if wordOf l = [100, 97, 116, 97] then (hex1 (restOf l)).isNone else (prs (splitP ⟨l.toArray⟩)).isNone
theorem no_line {l : List UInt8} (h : noLine l = true) (m : Im) : lineI m l = none := by
  unfold noLine at h
  unfold lineI
  split at h
  · rename_i h1; rw [if_pos h1, Option.isNone_iff_eq_none.1 h]
  · rename_i h1; rw [if_neg h1]
    split at h
    · rename_i h2; rw [if_pos h2, Option.isNone_iff_eq_none.1 h]
    · rename_i h2; rw [if_neg h2, Option.isNone_iff_eq_none.1 h]
theorem od_all : (List.range 14).all (fun j => noLine (odL.getD j [])) = true := by decide +kernel
theorem od_no (j : Nat) (h : j < 14) (m : Im) : lineI m (odL.getD j []) = none := no_line (List.all_eq_true.1 od_all j (List.mem_range.2 h)) m
theorem od_clean : ∀ j, j < 14 → Clean (odL.getD j []) := by
  have h : (List.range 14).all (fun j => !(odL.getD j []).contains 10 && !idle (odL.getD j [])) = true := by kernel_rfl
  intro j hj
  have := List.all_eq_true.1 h j (List.mem_range.2 hj)
  simp only [Bool.and_eq_true, Bool.not_eq_true'] at this
  exact ⟨fun hm => by rw [List.contains_iff_mem.2 hm] at this; simp at this, this.2⟩
theorem od_size : ∀ j, j < 14 → (odL.getD j []).length ≤ 16 := by decide +kernel
theorem od_cell (j : Nat) (h : j < 14) : (#[.string ⟨#[115, 105, 122, 101]⟩, .string ⟨#[100, 97, 116, 97, 32]⟩, .string ⟨#[100, 97, 116, 97, 32, 48]⟩, .string ⟨#[100, 97, 116, 97, 32, 48, 71]⟩, .string ⟨#[100, 97, 116, 97, 32, 65, 66]⟩, .string ⟨#[110, 111, 112, 32]⟩, .string ⟨#[32, 110, 111, 112]⟩, .string ⟨#[97, 100, 100, 32, 114, 49, 32, 114, 50]⟩, .string ⟨#[115, 105, 122, 101, 32, 48, 49]⟩, .string ⟨#[115, 105, 122, 101, 32, 50, 49, 52, 55, 52, 56, 51, 54, 52, 56]⟩, .string ⟨#[115, 105, 122, 101, 32, 45, 49]⟩, .string ⟨#[83, 105, 122, 101, 32, 49]⟩, .string ⟨#[100, 97, 116, 97, 32, 48, 48, 32, 48, 48]⟩, .string ⟨#[97, 115, 107, 32, 48]⟩] : Array Value)[j]? = some (.string (mk (odL.getD j []))) := by
  have : j = 0 ∨ j = 1 ∨ j = 2 ∨ j = 3 ∨ j = 4 ∨ j = 5 ∨ j = 6 ∨ j = 7 ∨ j = 8 ∨ j = 9 ∨ j = 10 ∨ j = 11 ∨ j = 12 ∨ j = 13 := by omega
  rcases this with rfl | rfl | rfl | rfl | rfl | rfl | rfl | rfl | rfl | rfl | rfl | rfl | rfl | rfl <;> rfl
/-- the text, behind so many rounds -/
def oT (ls : List (List UInt8)) (od : List UInt8) (k i : Nat) : List UInt8 := if i ≤ k then aT (ls.take i) else aT (ls.take k) ++ (od ++ [10]) ++ aT ((ls.take i).drop k)
theorem aT_app (a b : List (List UInt8)) : aT (a ++ b) = aT a ++ aT b := by simp [aT]
theorem aT_one (l : List UInt8) : aT [l] = l ++ [10] := by simp [aT]
theorem oT_zero (ls : List (List UInt8)) (od : List UInt8) (k : Nat) : oT ls od k 0 = [] := by unfold oT; rw [if_pos (by omega)]; rfl
theorem oT_low {ls : List (List UInt8)} {od : List UInt8} {k i : Nat} (h : i < k) (hi : i < ls.length) : oT ls od k (i + 1) = oT ls od k i ++ ls.getD i [] ++ [10] := by
  unfold oT; rw [if_pos (by omega), if_pos (by omega), aT_take ls hi]
theorem oT_mid {ls : List (List UInt8)} {od : List UInt8} {k : Nat} (hi : k < ls.length) : oT ls od k (k + 1) = oT ls od k k ++ od ++ [10] ++ ls.getD k [] ++ [10] := by
  unfold oT; rw [if_neg (by omega), if_pos (by omega), take_one ls hi, List.drop_left' (by simp; omega), aT_one]
  simp
theorem oT_end {ls : List (List UInt8)} {od : List UInt8} {k : Nat} (hi : k = ls.length) : oT ls od k (k + 1) = oT ls od k k ++ od ++ [10] := by
  unfold oT; rw [if_neg (by omega), if_pos (by omega), List.take_of_length_le (i := k + 1) (by omega), List.drop_eq_nil_of_le (by omega)]
  simp [aT]
theorem oT_high {ls : List (List UInt8)} {od : List UInt8} {k i : Nat} (h : k < i) (hi : i < ls.length) : oT ls od k (i + 1) = oT ls od k i ++ ls.getD i [] ++ [10] := by
  unfold oT; rw [if_neg (by omega), if_neg (by omega), take_one ls hi, List.drop_append_of_le_length (by simp; omega), aT_app, aT_one]
  simp
theorem oT_last {ls : List (List UInt8)} {od : List UInt8} {k i : Nat} (h : k < i) (hi : i = ls.length) : oT ls od k (i + 1) = oT ls od k i := by
  unfold oT; rw [if_neg (by omega), if_neg (by omega), List.take_of_length_le (i := i + 1) (by omega), List.take_of_length_le (i := i) (by omega)]
theorem oT_len {ls : List (List UInt8)} (hs : Sht ls) {od : List UInt8} (ho : od.length ≤ 16) (k i : Nat) : (oT ls od k i).length ≤ 202 * ls.length + 20 := by
  have h1 := aT_len (ls := ls.take i) (fun l hl => hs l (List.mem_of_mem_take hl))
  have h2 := aT_len (ls := ls.take k) (fun l hl => hs l (List.mem_of_mem_take hl))
  have h3 := aT_len (ls := (ls.take i).drop k) (fun l hl => hs l (List.mem_of_mem_take (List.mem_of_mem_drop hl)))
  have e1 : (ls.take i).length ≤ ls.length := by rw [List.length_take]; omega
  have e2 : (ls.take k).length ≤ ls.length := by rw [List.length_take]; omega
  have e3 : ((ls.take i).drop k).length ≤ ls.length := by rw [List.length_drop]; omega
  unfold oT
  split
  · omega
  · simp only [List.length_append, List.length_cons, List.length_nil]
    omega
/-- the whole text, and where it is none -/
theorem oT_parse {ls : List (List UInt8)} {L u : Nat} {ds cs : List Int} {k0 : Nat} (h : LG ls L u ds cs k0) {k j : Nat} (hk : k ≤ L) (hj : j < 14) (f : Nat) (hf : k + 1 ≤ f) :
    parseI f im0 0 (oT ls (odL.getD j []) k (L + 1) ++ odL.getD j []) = .inl k := by
  have hl := h.len
  obtain ⟨m', hm'⟩ : ∃ m', runI im0 (ls.take k) = some m' := by
    have h1 := h.run
    rw [← List.take_append_drop k ls, runI_append] at h1
    cases hr : runI im0 (ls.take k) with
    | none => rw [hr] at h1; cases h1
    | some m' => exact ⟨m', rfl⟩
  have e : oT ls (odL.getD j []) k (L + 1) ++ odL.getD j [] = aT (ls.take k) ++ (odL.getD j [] ++ 10 :: (aT ((ls.take (L + 1)).drop k) ++ odL.getD j [])) := by
    unfold oT; rw [if_neg (by omega)]; simp
  have hlk : (ls.take k).length = k := by rw [List.length_take]; omega
  rw [e, parse_bad (ls.take k) im0 m' 0 f _ _ (fun x hx => h.cln x (List.mem_of_mem_take hx)) hm' (od_clean j hj) (od_no j hj m') (by omega), hlk, Nat.zero_add]
end Go.Proofs.YtcjghnnliepjjaaGreatDoor
