/- What goes round: places in slots, and lists that stand in them. No law of the program itself. -/
import Derived.Test.YtjhpiecbolmleaaGreatDoorRows
import Derived.WalkKit
import Derived.ProofKit
import Derived.OpenShut
namespace Go.Proofs.YtjhpiecbolmleaaGreatDoor
open Go Go.RowKit
set_option maxRecDepth 100000
set_option linter.unusedVariables false
/-- the slot of a place -/
def sl (n f i : Nat) : Nat := if f + i < n then f + i else f + i - n
theorem sl_lt {n f i : Nat} (hf : f < n) (hi : i ≤ n) : sl n f i < n := by unfold sl; split <;> omega
theorem sl_mod {n f i : Nat} (hf : f < n) (hi : i ≤ n) : (f + i) % n = sl n f i := by
  unfold sl
  split
  · exact Nat.mod_eq_of_lt (by assumption)
  · rw [Nat.mod_eq_sub_mod (by omega), Nat.mod_eq_of_lt (by omega)]
theorem sl_tmod {n f i : Nat} (hf : f < n) (hi : i ≤ n) : Int.tmod ((f : Int) + (i : Int)) (n : Int) = (sl n f i : Int) := by
  rw [← sl_mod hf hi, ← Int.natCast_add, ← Int.ofNat_tmod]
theorem sl_inj {n f i j : Nat} (hf : f < n) (hi : i < n) (hj : j < n) (h : sl n f i = sl n f j) : i = j := by
  unfold sl at h
  split at h <;> split at h <;> omega
theorem sl_zero {n f : Nat} (hf : f < n) : sl n f 0 = f := by unfold sl; split <;> omega
theorem sl_back {n f i : Nat} (hf : f < n) (hi : i < n) : sl n (sl n f (n - 1)) (i + 1) = sl n f i := by
  unfold sl
  split <;> split <;> split <;> omega
theorem sl_on {n f i : Nat} (hf : f < n) (hi : i < n) : sl n (sl n f 1) i = sl n f (i + 1) := by
  unfold sl
  split <;> split <;> split <;> omega
theorem getD_set {zs : List Int} {i j : Nat} {v : Int} (hi : i < zs.length) : (zs.set i v).getD j 0 = if j = i then v else zs.getD j 0 := by
  by_cases h : j = i
  · subst h; simp [hi]
  · rw [if_neg h]; simp [Ne.symm h]
theorem getD_app {xs ys : List Int} {i : Nat} : (xs ++ ys).getD i 0 = if i < xs.length then xs.getD i 0 else ys.getD (i - xs.length) 0 := by
  by_cases h : i < xs.length
  · rw [if_pos h]; simp [List.getElem?_append_left h]
  · rw [if_neg h]; simp [List.getElem?_append_right (Nat.le_of_not_lt h)]
/-- a list stands in slots -/
def Holds (n f : Nat) (ys xs : List Int) : Prop := ∀ i, i < xs.length → ys.getD (sl n f i) 0 = xs.getD i 0
theorem Holds.nil (n f : Nat) (ys : List Int) : Holds n f ys [] := fun i hi => by simp at hi
theorem Holds.addLast {n f : Nat} {ys xs : List Int} (h : Holds n f ys xs) (hy : ys.length = n) (hf : f < n) (hx : xs.length < n) (z : Int) : Holds n f (ys.set (sl n f xs.length) z) (xs ++ [z]) := by
  intro i hi
  have hi' : i ≤ xs.length := by simp at hi; omega
  rw [getD_set (by rw [hy]; exact sl_lt hf (by omega)), getD_app]
  by_cases e : i = xs.length
  · subst e; simp
  · rw [if_neg (fun k => e (sl_inj hf (by omega) hx k)), if_pos (by omega)]
    exact h i (by omega)
theorem Holds.addFirst {n f : Nat} {ys xs : List Int} (h : Holds n f ys xs) (hy : ys.length = n) (hf : f < n) (hx : xs.length < n) (z : Int) : Holds n (sl n f (n - 1)) (ys.set (sl n f (n - 1)) z) (z :: xs) := by
  intro i hi
  have hl : sl n f (n - 1) < n := sl_lt hf (by omega)
  rw [getD_set (by omega)]
  rcases i with _ | i
  · rw [sl_zero hl, if_pos rfl]; rfl
  · have hi' : i < xs.length := by simpa using hi
    rw [sl_back hf (by omega), if_neg (fun k => by have := sl_inj hf (by omega) (by omega) k; omega)]
    simpa using h i hi'
theorem Holds.first {n f : Nat} {ys xs : List Int} {x : Int} (h : Holds n f ys (x :: xs)) (hf : f < n) : ys.getD f 0 = x := by
  have := h 0 (by simp)
  rwa [sl_zero hf] at this
theorem Holds.take {n f : Nat} {ys xs : List Int} {x : Int} (h : Holds n f ys (x :: xs)) (hf : f < n) (hx : xs.length < n) : Holds n (sl n f 1) ys xs := by
  intro i hi
  rw [sl_on hf (by omega), h (i + 1) (by simpa using hi)]
  simp
theorem Holds.one {n f : Nat} {ys xs : List Int} {i : Nat} (h : Holds n f ys xs) (hi : i < xs.length) : ys.getD (sl n f i) 0 = xs.getD i 0 := h i hi
/-- those behind a place have moved up, as far as to place j -/
def Moved (n f : Nat) (ys xs : List Int) (k j : Nat) : Prop := ∀ i, i < xs.length → ys.getD (sl n f i) 0 = if k ≤ i ∧ i < j then xs.getD (i + 1) 0 else xs.getD i 0
theorem Holds.moved {n f : Nat} {ys xs : List Int} (h : Holds n f ys xs) (k : Nat) : Moved n f ys xs k k := fun i hi => by
  rw [if_neg (by omega)]; exact h i hi
theorem Moved.next {n f : Nat} {ys xs : List Int} {k j : Nat} (h : Moved n f ys xs k j) (hk : k ≤ j) (hj : j + 1 < xs.length) (hy : ys.length = n) (hf : f < n) (hx : xs.length ≤ n) : Moved n f (ys.set (sl n f j) (ys.getD (sl n f (j + 1)) 0)) xs k (j + 1) := by
  intro i hi
  have e0 : ys.getD (sl n f (j + 1)) 0 = xs.getD (j + 1) 0 := by rw [h (j + 1) hj, if_neg (by omega)]
  rw [getD_set (by rw [hy]; exact sl_lt hf (by omega)), e0]
  by_cases e : i = j
  · subst e; rw [if_pos rfl, if_pos (by omega)]
  · rw [if_neg (fun q => e (sl_inj hf (by omega) (by omega) q)), h i hi]
    by_cases c : k ≤ i ∧ i < j
    · rw [if_pos c, if_pos (by omega)]
    · rw [if_neg c, if_neg (by omega)]
theorem Moved.end {n f : Nat} {ys xs : List Int} {k j : Nat} (h : Moved n f ys xs k j) (hj : j + 1 = xs.length) (hk : k ≤ j) : Holds n f ys (xs.eraseIdx k) := by
  intro i hi
  have hl : (xs.eraseIdx k).length = j := by rw [List.length_eraseIdx]; split <;> omega
  rw [h i (by omega)]
  by_cases c : i < k
  · rw [if_neg (by omega)]; simp [List.getElem?_eraseIdx, c]
  · rw [if_pos (by omega)]; simp [List.getElem?_eraseIdx, c]
/-- what may be put, and what then stands there -/
def addE (xs : List Int) (n : Nat) (z : Int) : Int := if z < 0 then 1 else if z ∈ xs then 7 else if xs.length = n then 10 else 0
def putL (xs : List Int) (n : Nat) (z : Int) : List Int := if addE xs n z = 0 then xs ++ [z] else xs
def pushL (xs : List Int) (n : Nat) (z : Int) : List Int := if addE xs n z = 0 then z :: xs else xs
def takeE (xs : List Int) : Int := if xs.length = 0 then 11 else 0
def remE (xs : List Int) (z : Int) : Int := if z ∈ xs then 0 else 1
def turnL (xs : List Int) : List Int := xs.tail ++ xs.take 1
theorem addE_arg {xs : List Int} {n : Nat} {z : Int} (h : z < 0) : addE xs n z = 1 := by simp [addE, h]
theorem addE_state {xs : List Int} {n : Nat} {z : Int} (h : ¬ z < 0) (hm : z ∈ xs) : addE xs n z = 7 := by simp [addE, h, hm]
theorem addE_full {xs : List Int} {n : Nat} {z : Int} (h : ¬ z < 0) (hm : z ∉ xs) (hl : xs.length = n) : addE xs n z = 10 := by simp [addE, h, hm, hl]
theorem addE_ok {xs : List Int} {n : Nat} {z : Int} (h : ¬ z < 0) (hm : z ∉ xs) (hl : xs.length ≠ n) : addE xs n z = 0 := by simp [addE, h, hm, hl]
theorem takeE_nil : takeE [] = 11 := rfl
theorem takeE_cons (x : Int) (xs : List Int) : takeE (x :: xs) = 0 := by simp [takeE]
theorem getD_mem {zs : List Int} {i : Nat} (h : i < zs.length) : zs.getD i 0 ∈ zs := by
  rw [show zs.getD i 0 = zs[i] by simp [h]]; exact List.getElem_mem h
theorem not_mem_of {zs : List Int} {r : Int} (h : ∀ j, j < zs.length → zs.getD j 0 ≠ r) : r ∉ zs := by
  intro hm
  obtain ⟨j, hj, e⟩ := List.getElem_of_mem hm
  exact h j hj (by simp [hj, e])
/-- the first place of a number -/
theorem first_at {xs : List Int} {z : Int} (h : z ∈ xs) : ∃ k, k < xs.length ∧ xs.getD k 0 = z ∧ (∀ j, j < k → xs.getD j 0 ≠ z) ∧ xs.erase z = xs.eraseIdx k := by
  refine ⟨xs.idxOf z, List.idxOf_lt_length_of_mem h, ?_, fun j hj => ?_, List.erase_eq_eraseIdx_of_idxOf rfl⟩
  · simp [List.idxOf_lt_length_of_mem h]
  · have := List.not_of_lt_findIdx (p := (· == z)) (xs := xs) (i := j) hj
    have hl : j < xs.length := Nat.lt_trans hj (List.idxOf_lt_length_of_mem h)
    simp only [List.getD_eq_getElem?_getD, List.getElem?_eq_getElem hl, Option.getD_some]
    simpa using this
end Go.Proofs.YtjhpiecbolmleaaGreatDoor
