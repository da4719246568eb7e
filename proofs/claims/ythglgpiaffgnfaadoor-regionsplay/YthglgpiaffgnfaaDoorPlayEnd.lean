/- The end of 'RegionsPlay': what is told, and that it is memory of its own. -/
import Derived.Test.YthglgpiaffgnfaaDoorPlay
namespace Go.Proofs.YthglgpiaffgnfaaDoor
open Go Go.RowKit
set_option maxRecDepth 100000
set_option linter.unusedVariables false
theorem get3 {α : Type} {x y z : α} {j : Nat} {e : α} (h : ([x, y, z] : List α)[j]? = some e) : (j = 0 ∧ e = x) ∨ (j = 1 ∧ e = y) ∨ (j = 2 ∧ e = z) := by
  rcases j with _ | _ | _ | j
  · exact Or.inl ⟨rfl, (Option.some.inj h).symm⟩
  · exact Or.inr (Or.inl ⟨rfl, (Option.some.inj h).symm⟩)
  · exact Or.inr (Or.inr ⟨rfl, (Option.some.inj h).symm⟩)
  · simp at h
theorem ob (g n c : Nat) : (Value.slice (some ⟨g, 0, none⟩) n c).ownBlock = some g := rfl
/-- the three lists of the book -/
theorem three {w : World} {B T bB cB n s : Nat} {zs ys : List Int} (hT : Row w T (zs ++ [77])) (hb : Row w bB ys) (hc : Row w cB ys) (o0 : B ≤ T) (o1 : T < bB) (o2 : bB < cB) (hn : zs.length = n) (hs : ys.length = s) (hn1 : n ≤ 10000) (hs1 : s ≤ 4096) :
    Lists B w [⟨.slice (some ⟨T, 0, none⟩) n (n + 1), n, .slice none 0 0, 1⟩, ⟨.slice (some ⟨bB, 0, none⟩) s s, s, .slice none 0 0, 2⟩, ⟨.slice (some ⟨cB, 0, none⟩) s s, s, .slice none 0 0, 3⟩] 0 := by
  have h1 := own_twin hT o0 (by omega)
  have h2 := own_row hb (show B ≤ bB by omega) (by omega)
  have h3 := own_row hc (show B ≤ cB by omega) (by omega)
  rw [hn] at h1
  rw [hs] at h2 h3
  refine ⟨?_, ?_, ?_, ?_⟩
  · intro j e he
    rcases get3 he with ⟨_, rfl⟩ | ⟨_, rfl⟩ | ⟨_, rfl⟩
    · exact ⟨_, h1, fun h => by omega⟩
    · exact ⟨_, h2, fun h => by omega⟩
    · exact ⟨_, h3, fun h => by omega⟩
  · intro j k e f hjk he hf g hg hg'
    rcases get3 he with ⟨rfl, rfl⟩ | ⟨rfl, rfl⟩ | ⟨rfl, rfl⟩ <;> rcases get3 hf with ⟨rfl, rfl⟩ | ⟨rfl, rfl⟩ | ⟨rfl, rfl⟩ <;> simp only [ob, Option.some.injEq] at hg hg' <;> omega
  · intro j e he
    rcases get3 he with ⟨_, rfl⟩ | ⟨_, rfl⟩ | ⟨_, rfl⟩ <;> (constructor <;> simp)
  · intro j e he
    rcases get3 he with ⟨_, rfl⟩ | ⟨_, rfl⟩ | ⟨_, rfl⟩ <;> simp only <;> omega
theorem Bk.start {w : World} {B : Nat} (hB : B ≤ w.heap.size) : Bk B (w.alloc (.cells (bk 0 (.slice none 0 0)) 52)) w.heap.size 0 (.slice none 0 0) [] :=
  ⟨alloc_at w _, World.ownsRow_nil _ _ _ _, fun H h => by simp [Value.ownBlock] at h, hB, by simp, by omega, fun j e he => by simp at he⟩
end Go.Proofs.YthglgpiaffgnfaaDoor
