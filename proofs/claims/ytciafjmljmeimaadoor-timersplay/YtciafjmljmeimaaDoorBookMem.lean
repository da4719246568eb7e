/- A book of lists in memory: what it holds, and what stays as it was. No law of the program itself. -/
import Derived.Test.YtciafjmljmeimaaDoorDSame
import Derived.Laws.OwnMore
namespace Go.Proofs.YtciafjmljmeimaaDoor
open Go Go.RowKit
set_option maxRecDepth 100000
set_option linter.unusedVariables false
/-- a list in the book: the slice, its length, the longer one, its number -/
structure Ent where
  v : Value
  len : Nat
  long : Value
  num : Int
def Ent.cells (e : Ent) : List Value := [e.v, e.long, .int .i64 e.num]
def flat : List Ent → List Value
  | [] => []
  | e :: r => e.cells ++ flat r
theorem flat_len : ∀ E : List Ent, (flat E).length = E.length * 3
  | [] => rfl
  | e :: r => by rw [flat, List.length_append, flat_len r, List.length_cons]; simp only [Ent.cells, List.length_cons, List.length_nil]; omega
theorem flat_app : ∀ (E F : List Ent), flat (E ++ F) = flat E ++ flat F
  | [], F => rfl
  | e :: r, F => by rw [List.cons_append, flat, flat, flat_app r F, List.append_assoc]
theorem flat_at : ∀ (E : List Ent) (i : Nat) (e : Ent), E[i]? = some e → ∀ j, j < 3 → (flat E)[i * 3 + j]? = e.cells[j]?
  | [], i, e, h, j, hj => by simp at h
  | a :: r, 0, e, h, j, hj => by
    simp only [List.getElem?_cons_zero, Option.some.injEq] at h
    subst h
    rw [flat, Nat.zero_mul, Nat.zero_add, List.getElem?_append_left (by simpa [Ent.cells] using hj)]
  | a :: r, i + 1, e, h, j, hj => by
    rw [List.getElem?_cons_succ] at h
    rw [flat, List.getElem?_append_right (by simp [Ent.cells]; omega), show (i + 1) * 3 + j - a.cells.length = i * 3 + j by simp [Ent.cells]; omega]
    exact flat_at r i e h j hj
theorem flat_set : ∀ (E : List Ent) (i : Nat) (e : Ent) (u : Value), E[i]? = some e → (flat E).set (i * 3 + 1) u = flat (E.set i { e with long := u })
  | [], i, e, u, h => by simp at h
  | a :: r, 0, e, u, h => by
    simp only [List.getElem?_cons_zero, Option.some.injEq] at h
    subst h
    simp [flat, Ent.cells]
  | a :: r, i + 1, e, u, h => by
    rw [List.getElem?_cons_succ] at h
    rw [flat, List.set_append_right _ _ (by simp [Ent.cells]; omega), show (i + 1) * 3 + 1 - a.cells.length = i * 3 + 1 by simp [Ent.cells]; omega, flat_set r i e u h, List.set_cons_succ, flat]
/-- the book's own block -/
def bk (n : Int) (v : Value) : Array Value := #[.int .i64 n, .slice none 0 0, .slice none 0 0, v, .slice none 0 0, .slice none 0 0, .slice none 0 0, .slice none 0 0, .slice none 0 0]
/-- a book at block K, of these lists -/
structure Bk (B : Nat) (w : World) (K : Nat) (n : Int) (v : Value) (E : List Ent) : Prop where
  head : w.heap[K]? = some (.cells (bk n v) 37 (0, 0))
  row : w.ownsRow B 76 3 v E.length (flat E)
  ne : ∀ H, v.ownBlock = some H → H ≠ K
  base : B ≤ K
  few : E.length ≤ 1000
  small : 0 ≤ n ∧ n ≤ 1000
  lng : ∀ (j : Nat) (e : Ent), E[j]? = some e → ∃ a b c, e.long = .slice a b c
theorem Bk.buts {B : Nat} {w w' : World} {K : Nat} {n : Int} {v : Value} {E : List Ent} {l : List Nat} (h : Bk B w K n v E) (hb : Buts l w w') (hK : K ∉ l) (hl : ∀ g, v.ownBlock = some g → g ∉ l) : Bk B w' K n v E :=
  ⟨(hb.block K (at_lt h.head) hK).trans h.head, owns_buts h.row hb hl, h.ne, h.base, h.few, h.small, h.lng⟩
end Go.Proofs.YtciafjmljmeimaaDoor
