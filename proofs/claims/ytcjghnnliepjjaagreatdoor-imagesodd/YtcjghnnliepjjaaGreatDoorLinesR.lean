/- Texts that are made of lines, one by one; how long they are. No law of the program itself. -/
import Derived.Test.YtcjghnnliepjjaaGreatDoorLinesN
namespace Go.Proofs.YtcjghnnliepjjaaGreatDoor
open Go Go.RowKit
set_option maxRecDepth 100000
set_option linter.unusedVariables false
/-- as much of the second text as so many lines make -/
def bF (ls : List (List UInt8)) : List UInt8 := ls.flatMap fun l => cm l ++ [10]
theorem bT_snoc : ∀ (a : List (List UInt8)) (l : List UInt8), bT (a ++ [l]) = bF a ++ cm l
  | [], l => by simp [bT, bF]
  | [x], l => by simp [bT, bF]
  | x :: y :: a, l => by
    have := bT_snoc (y :: a) l
    show cm x ++ 10 :: bT ((y :: a) ++ [l]) = _
    rw [this]
    simp [bF]
theorem take_one (ls : List (List UInt8)) {i : Nat} (h : i < ls.length) : ls.take (i + 1) = ls.take i ++ [ls.getD i []] := by
  rw [List.take_succ_eq_append_getElem h]
  simp [h]
theorem aT_take (ls : List (List UInt8)) {i : Nat} (h : i < ls.length) : aT (ls.take (i + 1)) = aT (ls.take i) ++ ls.getD i [] ++ [10] := by
  rw [take_one ls h]
  simp [aT]
theorem bF_take (ls : List (List UInt8)) {i : Nat} (h : i < ls.length) : bF (ls.take (i + 1)) = bF (ls.take i) ++ cm (ls.getD i []) ++ [10] := by
  rw [take_one ls h]
  simp [bF]
/-- behind i lines: the last one has no end of its own -/
def bP (ls : List (List UInt8)) (i : Nat) : List UInt8 := if i < ls.length then bF (ls.take i) else bT ls
theorem bP_zero {ls : List (List UInt8)} (h : 0 < ls.length) : bP ls 0 = [] := by unfold bP; rw [if_pos h]; simp [bF]
theorem bP_next {ls : List (List UInt8)} {i : Nat} (h : i + 1 < ls.length) : bP ls (i + 1) = bP ls i ++ cm (ls.getD i []) ++ [10] := by
  unfold bP
  rw [if_pos h, if_pos (by omega), bF_take ls (by omega)]
theorem bP_last {ls : List (List UInt8)} {i : Nat} (h : i + 1 = ls.length) : bP ls (i + 1) = bP ls i ++ cm (ls.getD i []) := by
  unfold bP
  rw [if_neg (by omega), if_pos (by omega)]
  have e : ls = ls.take i ++ [ls.getD i []] := by
    rw [← take_one ls (by omega), List.take_of_length_le (by omega)]
  conv => lhs; rw [e]
  exact bT_snoc _ _
theorem bP_all (ls : List (List UInt8)) : bP ls ls.length = bT ls := by unfold bP; rw [if_neg (by omega)]
/-- lines of 100 bytes at most -/
def Sht (ls : List (List UInt8)) : Prop := ∀ l ∈ ls, l.length ≤ 100
theorem Sht.at {ls : List (List UInt8)} (h : Sht ls) (i : Nat) : (ls.getD i []).length ≤ 100 := by
  by_cases hi : i < ls.length
  · rw [show ls.getD i [] = ls[i] by simp [hi]]; exact h _ (List.getElem_mem hi)
  · rw [show ls.getD i [] = [] by simp [Nat.le_of_not_lt hi]]; simp
theorem flat_len {f : List UInt8 → List UInt8} {n : Nat} (hf : ∀ l, l.length ≤ 100 → (f l).length ≤ n) : ∀ (ls : List (List UInt8)), Sht ls → (ls.flatMap f).length ≤ n * ls.length
  | [], _ => by simp
  | l :: ls, h => by
    have h1 := hf l (h l (by simp))
    have h2 := flat_len hf ls (fun x hx => h x (by simp [hx]))
    rw [List.flatMap_cons, List.length_append, List.length_cons, Nat.mul_add]
    omega
theorem aT_len {ls : List (List UInt8)} (h : Sht ls) : (aT ls).length ≤ 101 * ls.length := flat_len (fun l hl => by simp; omega) ls h
theorem cm_len (l : List UInt8) : (cm l).length = 2 * l.length + 4 := by simp [cm]; omega
theorem bF_len {ls : List (List UInt8)} (h : Sht ls) : (bF ls).length ≤ 205 * ls.length := flat_len (fun l hl => by rw [List.length_append, cm_len]; simp; omega) ls h
theorem aT_ge : ∀ ls : List (List UInt8), ls.length ≤ (aT ls).length
  | [] => by simp
  | l :: ls => by
    have := aT_ge ls
    rw [aT_cons, List.length_append, List.length_cons, List.length_cons]
    omega
theorem bT_ge : ∀ ls : List (List UInt8), 3 * ls.length ≤ (bT ls).length
  | [] => by simp [bT]
  | [l] => by simp [bT, cm_len]
  | l :: x :: ls => by
    have := bT_ge (x :: ls)
    show _ ≤ (cm l ++ 10 :: bT (x :: ls)).length
    rw [List.length_append, List.length_cons, cm_len]
    simp at this ⊢
    omega
theorem bP_len {ls : List (List UInt8)} (h : Sht ls) (i : Nat) (hi : i ≤ ls.length) : (bP ls i).length ≤ 205 * ls.length + 300 := by
  have ht : Sht (ls.take i) := fun x hx => h x (List.mem_of_mem_take hx)
  rcases Nat.lt_or_ge i ls.length with hl | hl
  · unfold bP
    rw [if_pos hl]
    have := bF_len ht
    have h2 : (ls.take i).length ≤ ls.length := by simp; omega
    have h3 : 205 * (ls.take i).length ≤ 205 * ls.length := Nat.mul_le_mul_left _ h2
    omega
  · obtain rfl : i = ls.length := by omega
    rcases hls : ls.length with _ | n
    · have : ls = [] := List.length_eq_zero_iff.1 hls
      subst this
      simp [bP, bT]
    · rw [bP_last hls.symm, List.length_append, cm_len]
      have h1 := h.at n
      have h2 : (bP ls n).length ≤ 205 * n := by
        unfold bP
        rw [if_pos (by omega)]
        have := bF_len (ls := ls.take n) (fun x hx => h x (List.mem_of_mem_take hx))
        have h3 : (ls.take n).length = n := by simp; omega
        rwa [h3] at this
      omega
theorem dec_short (u : Nat) (h : u ≤ 4096) : (Lib.decDigits u).length ≤ 19 := dec_lt20 u (by omega)
theorem sht_lnP {u : Nat} (hu : u ≤ 4096) {ds cs : List Int} (hb : Bs cs) {k many c : Nat} (hm : many ≤ 40) (hc : MayC cs k) : Sht (lnP u ds cs k many c) := by
  intro l hl
  rcases List.mem_cons.1 hl with rfl | hl
  · have := dec_short u hu
    simp [szL]
    omega
  · rcases List.mem_append.1 hl with hl | hl
    · obtain ⟨t, _, rfl⟩ := List.mem_map.1 hl
      have h1 := hxs_len (chk ds many t)
      have h2 := chk_len ds many t
      simp [daL]
      omega
    · obtain ⟨t, ht, rfl⟩ := List.mem_map.1 hl
      have ht' : t < k := by simpa using ht
      have := text_size _ _ _ _ (hb.at (4 * t + 1)) (hb.at (4 * t + 2)) (hb.at (4 * t + 3)) (hc t ht')
      unfold cdl coL
      have e : ∀ s : ByteArray, s.data.toList.length = s.size := fun s => by cases s; simp [ByteArray.size]
      rw [e]
      omega
theorem sht_lnR {u : Nat} (hu : u ≤ 4096) {ds cs : List Int} (hb : Bs cs) {k many c : Nat} (hm : many ≤ 40) (hc : MayC cs k) : Sht (lnR u ds cs k many c) := by
  intro l hl
  refine sht_lnP (u := u) (ds := ds) (c := c) hu hb hm hc l ?_
  rcases List.mem_append.1 hl with h | h
  · exact List.mem_cons_of_mem _ h
  · exact List.mem_cons.2 (Or.inl (by simpa using h))
end Go.Proofs.YtcjghnnliepjjaaGreatDoor
