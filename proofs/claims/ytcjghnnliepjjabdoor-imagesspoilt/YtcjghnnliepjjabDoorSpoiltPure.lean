/- Bytes of an image that are spoilt are none: by plain lists. -/
import Derived.Test.YtcjghnnliepjjabDoorTwin
namespace Go.Proofs.YtcjghnnliepjjabDoor
open Go Go.RowKit
set_option linter.unusedVariables false
theorem cnt_more (zs ys : List Int) (i : Nat) (h : 9 ≤ zs.length) (hi : i < 3) : cnt (zs ++ ys) i = cnt zs i := by
  unfold cnt
  rw [show (zs ++ ys).getD (3 + 2 * i) 0 = zs.getD (3 + 2 * i) 0 by simp [List.getElem?_append_left (show 3 + 2 * i < zs.length by omega)], show (zs ++ ys).getD (3 + 2 * i + 1) 0 = zs.getD (3 + 2 * i + 1) 0 by simp [List.getElem?_append_left (show 3 + 2 * i + 1 < zs.length by omega)]]
theorem cnt_take (zs : List Int) (j i : Nat) (h : 9 ≤ j) (hi : i < 3) : cnt (zs.take j) i = cnt zs i := by
  unfold cnt
  rw [show (zs.take j).getD (3 + 2 * i) 0 = zs.getD (3 + 2 * i) 0 by simp [show 3 + 2 * i < j by omega], show (zs.take j).getD (3 + 2 * i + 1) 0 = zs.getD (3 + 2 * i + 1) 0 by simp [show 3 + 2 * i + 1 < j by omega]]
theorem cnt_set (zs : List Int) (j : Nat) (v : Int) (i : Nat) (h : 9 ≤ j ∨ j < 3) (hi : i < 3) : cnt (zs.set j v) i = cnt zs i := by
  unfold cnt
  rw [show (zs.set j v).getD (3 + 2 * i) 0 = zs.getD (3 + 2 * i) 0 by simp [List.getElem?_set_ne (show j ≠ 3 + 2 * i by omega)], show (zs.set j v).getD (3 + 2 * i + 1) 0 = zs.getD (3 + 2 * i + 1) 0 by simp [List.getElem?_set_ne (show j ≠ 3 + 2 * i + 1 by omega)]]
theorem len_of {zs : List Int} {r : Int × List Int × List Int × Nat} (h : getI zs = some r) : 9 ≤ zs.length ∧ zs.take 3 = [116, 107, 49] ∧ (zs.length : Int) = 9 + cnt zs 1 + cnt zs 2 * 4 := by
  unfold getI at h
  split at h
  · rename_i hf
    have := (fits_iff zs).1 hf.1
    exact ⟨this.1.1, this.1.2, this.2.2⟩
  · cases h
theorem none_of {zs : List Int} (h : (zs.length : Int) ≠ 9 + cnt zs 1 + cnt zs 2 * 4) : getI zs = none := getI_off (Or.inr h)
/-- one more -/
theorem spoilt_more {zs : List Int} {r : Int × List Int × List Int × Nat} (h : getI zs = some r) (c : Int) : getI (zs ++ [c]) = none := by
  obtain ⟨h9, _, hl⟩ := len_of h
  apply none_of
  rw [cnt_more _ _ _ h9 (by omega), cnt_more _ _ _ h9 (by omega)]
  simp only [List.length_append, List.length_singleton]
  omega
/-- some fewer -/
theorem spoilt_less {zs : List Int} {r : Int × List Int × List Int × Nat} (h : getI zs = some r) {j : Nat} (hj : j < zs.length) : getI (zs.take j) = none := by
  obtain ⟨h9, _, hl⟩ := len_of h
  by_cases h9j : 9 ≤ j
  · apply none_of
    rw [cnt_take _ _ _ h9j (by omega), cnt_take _ _ _ h9j (by omega)]
    simp only [List.length_take]
    omega
  · exact getI_short (by simp; omega)
/-- another beginning -/
theorem spoilt_mark {zs : List Int} {r : Int × List Int × List Int × Nat} (h : getI zs = some r) {j : Nat} (hj : j < 3) {c : Int} (hc : zs.set j c ≠ zs) : getI (zs.set j c) = none := by
  obtain ⟨h9, ht, hl⟩ := len_of h
  apply getI_other
  intro e
  apply hc
  have e2 : (zs.set j c).drop 3 = zs.drop 3 := by rw [List.drop_set, if_pos hj]
  rw [← List.take_append_drop 3 (zs.set j c), e, e2, ← ht, List.take_append_drop]
/-- an instruction that may not be -/
theorem spoilt_code {n : Int} {ds cs : List Int} {k : Nat} (hl : cs.length = 4 * k) (ho : okI n ds cs k = true) (hk : 0 < k) : getI ((putB n ds cs k).set ((putB n ds cs k).length - 4) 200) = none := by
  have hpl := putB_len n ds cs k
  obtain ⟨c0, c1, c2⟩ := putB_cnt n ds cs k
  unfold getI
  rw [if_neg]
  rintro ⟨_, hm⟩
  rw [mayAll_iff] at hm
  have k1 := cnt_set (putB n ds cs k) ((putB n ds cs k).length - 4) 200 1 (by omega) (by omega)
  have k2 := cnt_set (putB n ds cs k) ((putB n ds cs k).length - 4) 200 2 (by omega) (by omega)
  have hq := hm (k - 1) (by rw [k2, c2]; omega)
  have e : (codOf ((putB n ds cs k).set ((putB n ds cs k).length - 4) 200)).getD (4 * (k - 1)) 0 = 200 := by
    unfold codOf
    rw [k1, c1]
    simp only [Int.toNat_natCast, List.drop_drop, List.getD_eq_getElem?_getD, List.getElem?_drop]
    rw [List.getElem?_set, if_pos (by omega), if_pos (by omega)]
    rfl
  unfold mayAt at hq
  rw [e] at hq
  simp [may] at hq
end Go.Proofs.YtcjghnnliepjjabDoor
