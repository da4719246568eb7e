/- Lists by their places: plain mathematics, and what is always so of a pool's blocks. -/
import Derived.Test.YtpdibhgbaclbaaaAlive
namespace Go.Proofs.Ytpdibhgbaclbaaa
open Go Go.RowKit
set_option maxRecDepth 100000
set_option linter.unusedVariables false
theorem cnt_none {x : Int} {l : List Int} (h : ∀ z ∈ l, z ≠ x) : cnt x l = 0 := by
  unfold cnt; rw [List.countP_eq_zero]; intro z hz; simpa using h z hz
theorem clr_none {x : Int} {l : List Int} (h : ∀ z ∈ l, z ≠ x) : clr x l = l := by
  unfold clr
  conv => rhs; rw [← List.map_id l]
  apply List.map_congr_left
  intro z hz
  simp [h z hz]
theorem all_none {w : World} {p n : Nat} {zs : List Int} (h : Pool w p n zs) (who : Int) (hw : 0 < who) (hz : ∀ z ∈ zs, z ≠ who) :
    Calls Try.prog 10 #[.pointer (some ⟨p, 0, none⟩), .int .u32 who] w fun e w' => e = .returned (.int .i64 0) ∧ Pool w' p n zs ∧ But p w w' := by
  have := all_any h who hw
  rw [cnt_none hz, clr_none hz] at this
  exact this
theorem left_is {w : World} {p n c : Nat} {zs : List Int} (h : Pool w p n zs) (hc : cnt 0 zs = c) :
    Calls Try.prog 12 #[.pointer (some ⟨p, 0, none⟩)] w fun e w' => e = .returned (.int .i64 (c : Nat)) ∧ Below w.heap.size w w' := by
  subst hc; exact left_any h
/-- the list that has f i at each place i -/
def tab (n : Nat) (f : Nat → Int) : List Int := (List.range n).map f
theorem tab_len (n : Nat) (f : Nat → Int) : (tab n f).length = n := by simp [tab]
theorem tab_at {n : Nat} {f : Nat → Int} {i : Nat} (h : i < n) : (tab n f).getD i 0 = f i := by simp [tab, h]
theorem tab_ext {n : Nat} {f g : Nat → Int} (h : ∀ j, j < n → f j = g j) : tab n f = tab n g := by
  unfold tab
  apply List.map_congr_left
  intro j hj
  exact h j (by simpa using hj)
theorem tab_set {n : Nat} {f g : Nat → Int} {i : Nat} {v : Int} (hi : i < n) (h1 : g i = v) (h2 : ∀ j, j < n → j ≠ i → g j = f j) : (tab n f).set i v = tab n g := by
  apply List.ext_getElem
  · simp [tab]
  · intro j a b
    have hj : j < n := by simpa [tab] using b
    rw [List.getElem_set]
    split
    · next e => subst e; simp [tab, h1]
    · next e => simp [tab, h2 j hj (fun x => e x.symm)]
theorem tab_mem {n : Nat} {f : Nat → Int} {z : Int} (h : z ∈ tab n f) : ∃ j, j < n ∧ z = f j := by
  obtain ⟨j, hj, rfl⟩ := List.mem_map.1 h
  exact ⟨j, by simpa using hj, rfl⟩
theorem tab_zero (n : Nat) : List.replicate n (0 : Int) = tab n (fun _ => 0) := by
  apply List.ext_getElem
  · simp [tab]
  · intro j a b
    simp [tab]
theorem tab_of (l : List Int) : l = tab l.length (fun j => l.getD j 0) := by
  apply List.ext_getElem
  · simp [tab]
  · intro j a b
    simp [tab, a]
theorem tab_clr {n : Nat} {f : Nat → Int} (x : Int) : clr x (tab n f) = tab n (fun j => if f j = x then 0 else f j) := by
  unfold clr tab
  rw [List.map_map]
  rfl
end Go.Proofs.Ytpdibhgbaclbaaa
