/- Somebody who goes, and comes back: as plain lists. No law of the program itself. -/
import Derived.Test.YtjhpiecbolmleaaFPure
namespace Go.Proofs.Ytjhpiecbolmleaa
open Go Go.RowKit Go.Shelf
set_option maxRecDepth 100000
set_option linter.unusedVariables false
theorem rm_there {X : Nat → List Int} (h : Good X) {r : Nat} (hr : r < 32) {z : Int} (hz : z ∈ X r) : rmE X z = 0 ∧ rmX X z = up X r ((X r).erase z) := by
  have e := rk_some h hr hz
  unfold rmE rmX rkb
  rw [e]
  exact ⟨rfl, rfl⟩
theorem ad_gone {X : Nat → List Int} (h : Good X) {r : Nat} (hr : r < 32) {z : Int} (hz : z ∈ X r) : adE (up X r ((X r).erase z)) z (r : Int) = 0 := by
  have hlo := h.lo r hr z hz
  have hno : rk (up X r ((X r).erase z)) z = none := rk_none.2 fun s hs => by
    by_cases e : s = r
    · subst e; rw [up_at]; exact (h.nd s hs).not_mem_erase
    · rw [up_ne X _ e]; exact fun h2 => e (h.one s r z hs hr h2 hz)
  unfold adE rkb
  rw [if_neg (by omega), hno]
  rfl
theorem put_gone {X : Nat → List Int} (h : Good X) {r : Nat} (hr : r < 32) {z : Int} (hz : z ∈ X r) : putX (up X r ((X r).erase z)) z (r : Int) = up X r ((X r).erase z ++ [z]) := by
  unfold putX
  rw [if_pos (ad_gone h hr hz)]
  show up (up X r _) r _ = _
  rw [up_up]
  show up X r (up X r _ r ++ [z]) = _
  rw [up_at]
theorem push_gone {X : Nat → List Int} (h : Good X) {r : Nat} (hr : r < 32) {z : Int} (hz : z ∈ X r) : pushX (up X r ((X r).erase z)) z (r : Int) = up X r (z :: (X r).erase z) := by
  unfold pushX
  rw [if_pos (ad_gone h hr hz)]
  show up (up X r _) r _ = _
  rw [up_up]
  show up X r (z :: up X r _ r) = _
  rw [up_at]
theorem erase_at {xs : List Int} (h : xs.Nodup) {k : Nat} (hk : k < xs.length) : xs.erase (xs.getD k 0) = xs.eraseIdx k := by
  have e : xs.getD k 0 = xs[k] := by simp [hk]
  obtain ⟨j, hj, h1, h2, h3⟩ := first_at (xs := xs) (z := xs.getD k 0) (getD_mem hk)
  rw [h3]
  have e2 : xs.getD j 0 = xs[j] := by simp [hj]
  have : j = k := (List.getElem_inj (xs := xs) (i := j) (j := k) (h₀ := hj) (h₁ := hk) h).1 (by rw [← e, ← e2, h1])
  rw [this]
/-- the list behind it: who went is the last one -/
theorem back_len {xs : List Int} {z : Int} (hz : z ∈ xs) : (xs.erase z ++ [z]).length = xs.length := by
  have : 0 < xs.length := List.length_pos_of_mem hz
  rw [List.length_append, List.length_erase_of_mem hz]
  simp
  omega
theorem back_last {xs : List Int} {z : Int} (hz : z ∈ xs) : (xs.erase z ++ [z]).getD (xs.length - 1) 0 = z := by
  rw [getD_app, List.length_erase_of_mem hz, if_neg (by omega)]
  simp
theorem back_at {xs : List Int} (h : xs.Nodup) {k : Nat} (hk : k < xs.length) {i : Nat} (hi : i + 1 < xs.length) : (xs.erase (xs.getD k 0) ++ [xs.getD k 0]).getD i 0 = xs.getD (if k ≤ i then i + 1 else i) 0 := by
  rw [getD_app, erase_at h hk, List.length_eraseIdx, if_pos hk, if_pos (by omega)]
  simp only [List.getD_eq_getElem?_getD, List.getElem?_eraseIdx]
  by_cases e : k ≤ i
  · rw [if_neg (by omega), if_pos e]
  · rw [if_pos (by omega), if_neg e]
/-- a list that was told, behind a stretch -/
def LT (s : Nat) (w : World) (sp : Option Addr) (xs : List Int) : Prop := ∃ g, sp = some ⟨g, 0, none⟩ ∧ s ≤ g ∧ g < w.heap.size ∧ ∀ i, i < xs.length → w.cell? ⟨g, i, none⟩ = some (.int .i64 (xs.getD i 0))
theorem LT.own {s : Nat} {w : World} {B : Nat} {sp : Option Addr} {cap n : Nat} {xs : List Int} (h : w.ownsRow B 3 1 (.slice sp n cap) n (xs.map (Value.int .i64))) (hn : xs.length = n) (h0 : 0 < n) (hs : s ≤ B) : LT s w sp xs := by
  subst hn
  obtain ⟨g, c, e, _, _⟩ := owns_spot h h0
  cases e
  have hlt := h.lt g rfl
  exact ⟨g, rfl, by omega, hlt.2, fun i hi => by rw [h.cellAt i (by omega)]; simp [hi]⟩
theorem LT.mid {B s : Nat} {w w' : World} {sp : Option Addr} {xs : List Int} (h : LT s w sp xs) (m : Mid B s w w') : LT s w' sp xs := by
  obtain ⟨g, e, h1, h2, h3⟩ := h
  refine ⟨g, e, h1, by have := m.size; omega, fun i hi => ?_⟩
  rw [World.cell?_of_block (m.block g h2 (Or.inr h1))]
  exact h3 i hi
theorem LT.src {s : Nat} {w : World} {sp : Option Addr} {xs : List Int} (h : LT s w sp xs) : Src w sp xs := fun hl => by
  obtain ⟨g, e, h1, h2, h3⟩ := h
  exact ⟨g, 0, e, fun i hi => by rw [Nat.zero_add]; exact h3 i hi⟩
end Go.Proofs.Ytjhpiecbolmleaa
