/- What goes round: places in slots, and lists that stand in them. No law of the program itself. -/
import Derived.Test.YteicnekoogmmmaaGreatDoorRows
import Derived.WalkKit
import Derived.ProofKit
import Derived.OpenShut
namespace Go.Proofs.YteicnekoogmmmaaGreatDoor
open Go Go.RowKit
set_option maxRecDepth 100000
set_option linter.unusedVariables false
/-- the slot of a place -/
def sl (n f i : Nat) : Nat := if f + i < n then f + i else f + i - n
theorem sl_lt {n f i : Nat} (hf : f < n) (hi : i ≤ n) : sl n f i < n := by unfold sl; split <;> omega
theorem sl_mod {n f i : Nat} (hf : f < n) (hi : i ≤ n) : (f + i) % n = sl n f i := by
  unfold sl
  split
  · exact Nat.mod_eq_of_lt (by assumption)
  · rw [Nat.mod_eq_sub_mod (by omega), Nat.mod_eq_of_lt (by omega)]
theorem sl_tmod {n f i : Nat} (hf : f < n) (hi : i ≤ n) : Int.tmod ((f : Int) + (i : Int)) (n : Int) = (sl n f i : Int) := by
  rw [← sl_mod hf hi, ← Int.natCast_add, ← Int.ofNat_tmod]
theorem sl_inj {n f i j : Nat} (hf : f < n) (hi : i < n) (hj : j < n) (h : sl n f i = sl n f j) : i = j := by
  unfold sl at h
  split at h <;> split at h <;> omega
theorem sl_zero {n f : Nat} (hf : f < n) : sl n f 0 = f := by unfold sl; split <;> omega
theorem sl_back {n f i : Nat} (hf : f < n) (hi : i < n) : sl n (sl n f (n - 1)) (i + 1) = sl n f i := by
  unfold sl
  split <;> split <;> split <;> omega
theorem sl_on {n f i : Nat} (hf : f < n) (hi : i < n) : sl n (sl n f 1) i = sl n f (i + 1) := by
  unfold sl
  split <;> split <;> split <;> omega
theorem getD_set {zs : List Int} {i j : Nat} {v : Int} (hi : i < zs.length) : (zs.set i v).getD j 0 = if j = i then v else zs.getD j 0 := by
  by_cases h : j = i
  · subst h; simp [hi]
  · rw [if_neg h]; simp [Ne.symm h]
theorem getD_app {xs ys : List Int} {i : Nat} : (xs ++ ys).getD i 0 = if i < xs.length then xs.getD i 0 else ys.getD (i - xs.length) 0 := by
  by_cases h : i < xs.length
  · rw [if_pos h]; simp [List.getElem?_append_left h]
  · rw [if_neg h]; simp [List.getElem?_append_right (Nat.le_of_not_lt h)]
/-- a list stands in slots -/
def Holds (n f : Nat) (ys xs : List Int) : Prop := ∀ i, i < xs.length → ys.getD (sl n f i) 0 = xs.getD i 0
theorem Holds.nil (n f : Nat) (ys : List Int) : Holds n f ys [] := fun i hi => by simp at hi
theorem Holds.addLast {n f : Nat} {ys xs : List Int} (h : Holds n f ys xs) (hy : ys.length = n) (hf : f < n) (hx : xs.length < n) (z : Int) : Holds n f (ys.set (sl n f xs.length) z) (xs ++ [z]) := by
  intro i hi
  have hi' : i ≤ xs.length := by simp at hi; omega
  rw [getD_set (by rw [hy]; exact sl_lt hf (by omega)), getD_app]
  by_cases e : i = xs.length
  · subst e; simp
  · rw [if_neg (fun k => e (sl_inj hf (by omega) hx k)), if_pos (by omega)]
    exact h i (by omega)
theorem Holds.addFirst {n f : Nat} {ys xs : List Int} (h : Holds n f ys xs) (hy : ys.length = n) (hf : f < n) (hx : xs.length < n) (z : Int) : Holds n (sl n f (n - 1)) (ys.set (sl n f (n - 1)) z) (z :: xs) := by
  intro i hi
  have hl : sl n f (n - 1) < n := sl_lt hf (by omega)
  rw [getD_set (by omega)]
  rcases i with _ | i
  · rw [sl_zero hl, if_pos rfl]; rfl
  · have hi' : i < xs.length := by simpa using hi
    rw [sl_back hf (by omega), if_neg (fun k => by have := sl_inj hf (by omega) (by omega) k; omega)]
    simpa using h i hi'
theorem Holds.first {n f : Nat} {ys xs : List Int} {x : Int} (h : Holds n f ys (x :: xs)) (hf : f < n) : ys.getD f 0 = x := by
  have := h 0 (by simp)
  rwa [sl_zero hf] at this
theorem Holds.take {n f : Nat} {ys xs : List Int} {x : Int} (h : Holds n f ys (x :: xs)) (hf : f < n) (hx : xs.length < n) : Holds n (sl n f 1) ys xs := by
  intro i hi
  rw [sl_on hf (by omega), h (i + 1) (by simpa using hi)]
  simp
theorem Holds.one {n f : Nat} {ys xs : List Int} {i : Nat} (h : Holds n f ys xs) (hi : i < xs.length) : ys.getD (sl n f i) 0 = xs.getD i 0 := h i hi
/-- what may be put, and what then stands there -/
def addE (xs : List Int) (n : Nat) : Int := if xs.length = n then 10 else 0
def putL (xs : List Int) (n : Nat) (z : Int) : List Int := if xs.length = n then xs else xs ++ [z]
def pushL (xs : List Int) (n : Nat) (z : Int) : List Int := if xs.length = n then xs else z :: xs
def takeE (xs : List Int) : Int := if xs.length = 0 then 11 else 0
theorem addE_full {xs : List Int} {n : Nat} (h : xs.length = n) : addE xs n = 10 := by simp [addE, h]
theorem addE_ok {xs : List Int} {n : Nat} (h : xs.length ≠ n) : addE xs n = 0 := by simp [addE, h]
theorem putL_full {xs : List Int} {n : Nat} {z : Int} (h : xs.length = n) : putL xs n z = xs := by simp [putL, h]
theorem putL_ok {xs : List Int} {n : Nat} {z : Int} (h : xs.length ≠ n) : putL xs n z = xs ++ [z] := by simp [putL, h]
theorem pushL_full {xs : List Int} {n : Nat} {z : Int} (h : xs.length = n) : pushL xs n z = xs := by simp [pushL, h]
theorem pushL_ok {xs : List Int} {n : Nat} {z : Int} (h : xs.length ≠ n) : pushL xs n z = z :: xs := by simp [pushL, h]
theorem takeE_nil : takeE [] = 11 := rfl
theorem takeE_cons (x : Int) (xs : List Int) : takeE (x :: xs) = 0 := by simp [takeE]
theorem take_snoc {us : List Int} {i : Nat} (hi : i < us.length) : us.take (i + 1) = us.take i ++ [us.getD i 0] := by
  rw [List.take_add_one]; simp [hi]
theorem drop_take {xs : List Int} {i : Nat} (hi : i < xs.length) : (xs.drop i).headD 0 = xs.getD i 0 ∧ takeE (xs.drop i) = 0 ∧ (xs.drop i).tail = xs.drop (i + 1) := by
  refine ⟨by simp [hi], ?_, by simp⟩
  unfold takeE
  rw [if_neg (by simp; omega)]
theorem add_next {us : List Int} {n i : Nat} (hi : i < us.length) (hn : i < n) : addE (us.take i) n = 0 ∧ putL (us.take i) n (us.getD i 0) = us.take (i + 1) := by
  have hl : (us.take i).length ≠ n := by simp; omega
  exact ⟨addE_ok hl, by rw [putL_ok hl, take_snoc hi]⟩
end Go.Proofs.YteicnekoogmmmaaGreatDoor
