/- A book of lists in memory: what it holds, and what stays as it was. No law of the program itself. -/
import Derived.Test.YthglgpiaffgnfaaDoorMem
import Derived.Laws.OwnMore
namespace Go.Proofs.YthglgpiaffgnfaaDoor
open Go Go.RowKit
set_option maxRecDepth 100000
set_option linter.unusedVariables false
/-- blocks that are as they were, but for those of a list -/
structure Buts (l : List Nat) (w w' : World) : Prop where
  os : w'.os = w.os
  tape : w'.tape = w.tape
  output : w'.output = w.output
  size : w.heap.size ≤ w'.heap.size
  block : ∀ k, k < w.heap.size → k ∉ l → w'.heap[k]? = w.heap[k]?
theorem Buts.refl (l : List Nat) (w : World) : Buts l w w := ⟨rfl, rfl, rfl, Nat.le_refl _, fun _ _ _ => rfl⟩
theorem Buts.trans {l : List Nat} {a b c : World} (h : Buts l a b) (k : Buts l b c) : Buts l a c :=
  ⟨k.os.trans h.os, k.tape.trans h.tape, k.output.trans h.output, Nat.le_trans h.size k.size, fun i hi hg => (k.block i (Nat.lt_of_lt_of_le hi h.size) hg).trans (h.block i hi hg)⟩
theorem Buts.mono {l m : List Nat} {a b : World} (h : Buts l a b) (hm : ∀ x ∈ l, x ∈ m) : Buts m a b :=
  ⟨h.os, h.tape, h.output, h.size, fun i hi hg => h.block i hi fun e => hg (hm i e)⟩
theorem Buts.of {l : List Nat} {w w' : World} (h : Below w.heap.size w w') : Buts l w w' := ⟨h.os, h.tape, h.output, h.size, fun k hk _ => h.block k hk⟩
theorem Buts.below {l : List Nat} {B : Nat} {w w' : World} (h : Buts l w w') (hg : ∀ x ∈ l, B ≤ x) (hB : B ≤ w.heap.size) : Below B w w' :=
  ⟨h.os, h.tape, h.output, h.size, fun k hk => h.block k (by omega) (fun e => by have := hg k e; omega)⟩
theorem Buts.drew {l : List Nat} {a b : World} (h : Buts l a b) : Buts l a b.drew := ⟨h.os, h.tape, h.output, h.size, h.block⟩
theorem Buts.cell (w : World) (g k : Nat) (v : Value) : Buts [g] w (w.setCell ⟨g, k, none⟩ v) :=
  ⟨rfl, rfl, rfl, by simp [World.setCell], fun j hj hg => Below.heap_setCell _ _ _ _ (by simpa using hg)⟩
theorem Buts.grown {w w' : World} {row : Option Nat} (h : w.grownBy w' row) : Buts row.toList w w' :=
  ⟨h.os, h.tape, h.output, h.size, fun k hk hg => h.block k hk (fun e => hg (by rw [← e]; simp))⟩
/-- a row that a slice owns stays, where its block does -/
theorem owns_of {w w' : World} {B : Nat} {e : TypeId} {s : Nat} {v : Value} {n : Nat} {xs : List Value} (h : w.ownsRow B e s v n xs) (hb : ∀ g, v.ownBlock = some g → w'.heap[g]? = w.heap[g]?) : w'.ownsRow B e s v n xs := by
  obtain ⟨h1, h2⟩ := h
  refine ⟨h1, ?_⟩
  rcases h2 with h2 | ⟨g, cap, cur, rfl, hg, hh, r⟩
  · exact Or.inl h2
  · exact Or.inr ⟨g, cap, cur, rfl, hg, by rw [hb g rfl]; exact hh, r⟩
theorem owns_buts {w w' : World} {B : Nat} {e : TypeId} {s : Nat} {v : Value} {n : Nat} {xs : List Value} {l : List Nat} (h : w.ownsRow B e s v n xs) (hb : Buts l w w') (hl : ∀ g, v.ownBlock = some g → g ∉ l) : w'.ownsRow B e s v n xs :=
  owns_of h fun g hg => hb.block g (h.lt g hg).2 (hl g hg)
theorem owns_spot {w : World} {B : Nat} {e : TypeId} {s : Nat} {v : Value} {n : Nat} {xs : List Value} (h : w.ownsRow B e s v n xs) (hn : 0 < n) : ∃ g cap, v = .slice (some ⟨g, 0, none⟩) n cap ∧ n ≤ cap ∧ cap ≤ maxLen := by
  rcases h.2 with ⟨_, h0⟩ | ⟨g, cap, cur, rfl, _, _, hc, hm, _⟩
  · omega
  · exact ⟨g, cap, rfl, hc, hm⟩
/-- a list in the book: the slice, its length, the longer one, its number -/
structure Ent where
  v : Value
  len : Nat
  long : Value
  num : Int
def Ent.cells (e : Ent) : List Value := [e.v, e.long, .int .i64 e.num]
def flat : List Ent → List Value
  | [] => []
  | e :: r => e.cells ++ flat r
theorem flat_len : ∀ E : List Ent, (flat E).length = E.length * 3
  | [] => rfl
  | e :: r => by rw [flat, List.length_append, flat_len r, List.length_cons]; simp only [Ent.cells, List.length_cons, List.length_nil]; omega
theorem flat_app : ∀ (E F : List Ent), flat (E ++ F) = flat E ++ flat F
  | [], F => rfl
  | e :: r, F => by rw [List.cons_append, flat, flat, flat_app r F, List.append_assoc]
theorem flat_at : ∀ (E : List Ent) (i : Nat) (e : Ent), E[i]? = some e → ∀ j, j < 3 → (flat E)[i * 3 + j]? = e.cells[j]?
  | [], i, e, h, j, hj => by simp at h
  | a :: r, 0, e, h, j, hj => by
    simp only [List.getElem?_cons_zero, Option.some.injEq] at h
    subst h
    rw [flat, Nat.zero_mul, Nat.zero_add, List.getElem?_append_left (by simpa [Ent.cells] using hj)]
  | a :: r, i + 1, e, h, j, hj => by
    rw [List.getElem?_cons_succ] at h
    rw [flat, List.getElem?_append_right (by simp [Ent.cells]; omega), show (i + 1) * 3 + j - a.cells.length = i * 3 + j by simp [Ent.cells]; omega]
    exact flat_at r i e h j hj
theorem flat_set : ∀ (E : List Ent) (i : Nat) (e : Ent) (u : Value), E[i]? = some e → (flat E).set (i * 3 + 1) u = flat (E.set i { e with long := u })
  | [], i, e, u, h => by simp at h
  | a :: r, 0, e, u, h => by
    simp only [List.getElem?_cons_zero, Option.some.injEq] at h
    subst h
    simp [flat, Ent.cells]
  | a :: r, i + 1, e, u, h => by
    rw [List.getElem?_cons_succ] at h
    rw [flat, List.set_append_right _ _ (by simp [Ent.cells]; omega), show (i + 1) * 3 + 1 - a.cells.length = i * 3 + 1 by simp [Ent.cells]; omega, flat_set r i e u h, List.set_cons_succ, flat]
/-- the book's own block -/
def bk (n : Int) (v : Value) : Array Value := #[.int .i64 n, v, .slice none 0 0, .slice none 0 0, .slice none 0 0, .slice none 0 0, .slice none 0 0, .slice none 0 0, .slice none 0 0]
/-- a book at block K, of these lists -/
structure Bk (B : Nat) (w : World) (K : Nat) (n : Int) (v : Value) (E : List Ent) : Prop where
  head : w.heap[K]? = some (.cells (bk n v) 52 (0, 0))
  row : w.ownsRow B 67 3 v E.length (flat E)
  ne : ∀ H, v.ownBlock = some H → H ≠ K
  base : B ≤ K
  few : E.length ≤ 1000
  small : 0 ≤ n ∧ n ≤ 1000
  lng : ∀ (j : Nat) (e : Ent), E[j]? = some e → ∃ a b c, e.long = .slice a b c
theorem Bk.buts {B : Nat} {w w' : World} {K : Nat} {n : Int} {v : Value} {E : List Ent} {l : List Nat} (h : Bk B w K n v E) (hb : Buts l w w') (hK : K ∉ l) (hl : ∀ g, v.ownBlock = some g → g ∉ l) : Bk B w' K n v E :=
  ⟨(hb.block K (at_lt h.head) hK).trans h.head, owns_buts h.row hb hl, h.ne, h.base, h.few, h.small, h.lng⟩
end Go.Proofs.YthglgpiaffgnfaaDoor
