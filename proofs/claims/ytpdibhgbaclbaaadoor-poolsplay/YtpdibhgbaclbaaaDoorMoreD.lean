/- What serves the longer walks: rows that stay, counts, the first one that is free. -/
import Derived.Test.YtpdibhgbaclbaaaDoorActs
namespace Go.Proofs.YtpdibhgbaclbaaaDoor
open Go Go.RowKit
set_option maxRecDepth 100000
set_option linter.unusedVariables false
theorem cnt_set {x v : Int} {l : List Int} {i : Nat} (hi : i < l.length) (h : l.getD i 0 ≠ x) : cnt x (l.set i v) = cnt x l + hit v x := by
  have e : l[i] ≠ x := by simpa [hi] using h
  unfold cnt hit
  rw [List.countP_set hi]
  by_cases hv : v = x <;> simp [hv, e]
theorem clr_mem {x z : Int} {l : List Int} (hx : x ≠ 0) (h : z ∈ clr x l) : z ≠ x := by
  obtain ⟨y, _, rfl⟩ := List.mem_map.1 h
  split
  · exact fun e => hx e.symm
  · assumption
theorem owns_but {w w' : World} {B p n m : Nat} {v : Value} {zs : List Int} {xs : List Value} (h : w.ownsRow B 40 1 v m xs) (hp : Pool w p n zs) (hb : But p w w') : w'.ownsRow B 40 1 v m xs :=
  owns_of h fun g hg => hb.block g (h.lt g hg).2 (block_ne h hg hp.head (by decide))
theorem owns_below {w w' : World} {B m : Nat} {v : Value} {xs : List Value} (h : w.ownsRow B 40 1 v m xs) (hb : Below w.heap.size w w') : w'.ownsRow B 40 1 v m xs :=
  owns_of h fun g hg => hb.block g (h.lt g hg).2
theorem own_cell {w : World} {B g n cap : Nat} {zs : List Int} (ho : w.ownsRow B 40 1 (.slice (some ⟨g, 0, none⟩) n cap) n (wrd zs)) {i : Nat} (hi : i < n) : w.cell? ⟨g, i, none⟩ = some (.int .u32 (zs.getD i 0)) := by
  have hn : zs.length = n := by have := ho.1; rw [wrd_len] at this; omega
  rw [ho.cellAt i (by omega)]; exact wrd_at zs i (by omega)
theorem owns_base {w : World} {B B' m s : Nat} {t : TypeId} {v : Value} {xs : List Value} (h : w.ownsRow B' t s v m xs) (hb : B ≤ B') : w.ownsRow B t s v m xs := by
  obtain ⟨h1, h2⟩ := h
  refine ⟨h1, ?_⟩
  rcases h2 with h2 | ⟨g, cap, cur, rfl, hg, r⟩
  · exact Or.inl h2
  · exact Or.inr ⟨g, cap, cur, rfl, by omega, r⟩
theorem set_self (l : List Int) {i : Nat} {v : Int} (h : i < l.length) : (l.set i v).getD i 0 = v := by simp [h]
theorem set_other (l : List Int) {i j : Nat} {v : Int} (h : j ≠ i) : (l.set i v).getD j 0 = l.getD j 0 := by
  simp [Ne.symm h]
/-- the first one that is free, or none is -/
theorem first_free (l : List Int) (n : Nat) : (∃ i, i < n ∧ l.getD i 0 = 0 ∧ ∀ j, j < i → l.getD j 0 ≠ 0) ∨ (∀ j, j < n → l.getD j 0 ≠ 0) := by
  induction n with
  | zero => right; intro j hj; omega
  | succ n ih =>
    rcases ih with ⟨i, hi, h1, h2⟩ | h
    · exact Or.inl ⟨i, by omega, h1, h2⟩
    · by_cases hz : l.getD n 0 = 0
      · exact Or.inl ⟨n, by omega, hz, h⟩
      · right
        intro j hj
        by_cases e : j = n
        · subst e; exact hz
        · exact h j (by omega)
end Go.Proofs.YtpdibhgbaclbaaaDoor
