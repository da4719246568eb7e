/- Who is first, who was seen, and a rank that goes round, as plain lists. No law of the program itself. -/
import Derived.Test.YtjhpiecbolmleaaRSeen
import Derived.Test.YtjhpiecbolmleaaRArgs
namespace Go.Proofs.Ytjhpiecbolmleaa
open Go Go.RowKit Go.Shelf
set_option maxRecDepth 100000
set_option linter.unusedVariables false
/-- the first one of the greatest ranks, so many of them -/
def ff (X : Nat → List Int) : Nat → Int
  | 0 => -1
  | n + 1 => if ff X n < 0 ∧ X (31 - n) ≠ [] then (X (31 - n)).headD 0 else ff X n
theorem ff_succ (X : Nat → List Int) (n : Nat) : ff X (n + 1) = if ff X n < 0 ∧ X (31 - n) ≠ [] then (X (31 - n)).headD 0 else ff X n := rfl
theorem ff_is {X : Nat → List Int} (h : Good X) : ∀ n, n ≤ 32 → ((ff X n = -1 ∧ ∀ s, 32 - n ≤ s → s < 32 → X s = []) ∨ (∃ s, 32 - n ≤ s ∧ s < 32 ∧ X s ≠ [] ∧ (∀ u, s < u → u < 32 → X u = []) ∧ ff X n = (X s).headD 0 ∧ 0 ≤ ff X n))
  | 0, _ => Or.inl ⟨rfl, fun s h1 h2 => by omega⟩
  | n + 1, hn => by
    rcases ff_is h n (by omega) with ⟨h1, h2⟩ | ⟨s, h1, h2, h3, h4, h5, h6⟩
    · by_cases hx : X (31 - n) = []
      · refine Or.inl ⟨?_, fun s h3 h4 => ?_⟩
        · rw [ff_succ, if_neg (fun c => c.2 hx)]; exact h1
        · rcases Nat.lt_or_ge s (32 - n) with h5 | h5
          · rw [show s = 31 - n by omega]; exact hx
          · exact h2 s h5 h4
      · refine Or.inr ⟨31 - n, by omega, by omega, hx, fun u h3 h4 => h2 u (by omega) h4, ?_, ?_⟩
        · rw [ff_succ, if_pos ⟨by omega, hx⟩]
        · rw [ff_succ, if_pos ⟨by omega, hx⟩]
          have : (X (31 - n)).headD 0 ∈ X (31 - n) := by cases hh : X (31 - n) with
            | nil => exact absurd hh hx
            | cons a l => simp
          exact (h.lo _ (by omega) _ this).1
    · have e : ff X (n + 1) = ff X n := by
        rw [ff_succ, if_neg (fun c => by omega)]
      rw [e]
      exact Or.inr ⟨s, by omega, h2, h3, h4, h5, h6⟩
theorem ff_all {X : Nat → List Int} (h : Good X) : (fsb X = true ∧ ff X 32 = fsv X ∧ 0 ≤ ff X 32) ∨ (fsb X = false ∧ ff X 32 = -1) := by
  rcases ff_is h 32 (by omega) with ⟨h1, h2⟩ | ⟨s, h1, h2, h3, h4, h5, h6⟩
  · right
    have : tp X = none := tp_none.2 fun r hr => h2 r (by omega) hr
    exact ⟨by unfold fsb; rw [this]; rfl, h1⟩
  · left
    have := tp_some h2 h3 h4
    exact ⟨by unfold fsb; rw [this]; rfl, by unfold fsv; rw [this]; exact h5, h6⟩
/-- a list that was turned so often -/
def tn (i : Nat) (xs : List Int) : List Int := xs.drop i ++ xs.take i
theorem tn_zero (xs : List Int) : tn 0 xs = xs := by simp [tn]
theorem tn_all (xs : List Int) : tn xs.length xs = xs := by simp [tn]
theorem tn_mem {i : Nat} {xs : List Int} {x : Int} : x ∈ tn i xs ↔ x ∈ xs := by
  unfold tn
  rw [List.mem_append, or_comm, ← List.mem_append, List.take_append_drop]
theorem tn_next {i : Nat} {xs : List Int} (h : i < xs.length) : turnL (tn i xs) = tn (i + 1) xs := by
  unfold turnL tn
  rw [List.drop_eq_getElem_cons h]
  simp only [List.cons_append, List.tail_cons, List.take_succ_cons, List.take_zero]
  rw [List.append_assoc, List.take_succ_eq_append_getElem h]
theorem tn_ne {i : Nat} {xs : List Int} (h : i < xs.length) : tn i xs ≠ [] := by
  intro e
  have : xs.length = 0 := by
    have h1 := congrArg List.length e
    simp [tn] at h1
    omega
  omega
/-- what was seen: flags in a row -/
def bl (S : Nat → Bool) : List Value := (List.range 256).map fun i => Value.bool (S i)
theorem bl_at (S : Nat → Bool) {i : Nat} (h : i < 256) : (bl S)[i]? = some (.bool (S i)) := by
  unfold bl
  rw [List.getElem?_map, List.getElem?_range h]
  rfl
theorem bl_set (S : Nat → Bool) {a : Nat} (h : a < 256) : (bl S).set a (.bool true) = bl (fun i => if i = a then true else S i) := by
  apply List.ext_getElem?
  intro i
  rw [List.getElem?_set]
  by_cases e : a = i
  · subst e
    rw [if_pos rfl, if_pos (by simp [bl]; exact h), bl_at _ h]
    simp
  · rw [if_neg e]
    by_cases hi : i < 256
    · rw [bl_at _ hi, bl_at _ hi, if_neg (Ne.symm e)]
    · rw [List.getElem?_eq_none (by simp [bl]; omega), List.getElem?_eq_none (by simp [bl]; omega)]
def Seen (w : World) (t : Nat) (S : Nat → Bool) : Prop := w.heap[t]? = some (.cells (bl S).toArray 29 (0, 0))
theorem Seen.cell {w : World} {t : Nat} {S : Nat → Bool} (h : Seen w t S) {i : Nat} (hi : i < 256) : w.cell? ⟨t, i, none⟩ = some (.bool (S i)) := by
  rw [cell_of h]; simpa using bl_at S hi
theorem Seen.free {w : World} {t : Nat} {S : Nat → Bool} (h : Seen w t S) (i : Nat) : w.frozen? ⟨t, i, none⟩ = false := by unfold Seen at h; simp [World.frozen?, h]
theorem Seen.set {w : World} {t : Nat} {S : Nat → Bool} (h : Seen w t S) {a : Nat} (ha : a < 256) : Seen (w.setCell ⟨t, a, none⟩ (.bool true)) t (fun i => if i = a then true else S i) := by
  have hlt := at_lt h
  have h2 := (Array.getElem?_eq_some_iff.1 h).2
  unfold Seen World.setCell
  rw [Array.getElem?_eq_getElem (by simpa using hlt), Array.getElem_modify]
  simp [h2, bl_set S ha]
/-- who was seen behind so many ranks, and so many of the next one -/
def Sn (X : Nat → List Int) (n k : Nat) (S : Nat → Bool) : Prop := ∀ i, S i = true ↔ ((∃ s, 32 - n ≤ s ∧ s < 32 ∧ (i : Int) ∈ X s) ∨ (i : Int) ∈ (X (31 - n)).take k)
theorem Sn.nil (X : Nat → List Int) : Sn X 0 0 (fun _ => false) := fun i => by
  constructor
  · intro h; cases h
  · rintro (⟨s, h1, h2, _⟩ | h)
    · omega
    · simp at h
theorem Sn.rank {X : Nat → List Int} {n : Nat} {S : Nat → Bool} (hn : n < 32) (h : Sn X n (X (31 - n)).length S) : Sn X (n + 1) 0 S := fun i => by
  rw [h i, List.take_of_length_le (Nat.le_refl _), List.take_zero]
  constructor
  · rintro (⟨s, h1, h2, h3⟩ | h3)
    · exact Or.inl ⟨s, by omega, h2, h3⟩
    · exact Or.inl ⟨31 - n, by omega, by omega, h3⟩
  · rintro (⟨s, h1, h2, h3⟩ | h3)
    · rcases Nat.lt_or_ge s (32 - n) with h4 | h4
      · right; rw [show 31 - n = s by omega]; exact h3
      · exact Or.inl ⟨s, h4, h2, h3⟩
    · simp at h3
theorem Sn.not {X : Nat → List Int} (hX : Good X) {n k : Nat} {S : Nat → Bool} (hn : n < 32) (h : Sn X n k S) (hk : k < (X (31 - n)).length) {a : Nat} (ha : (X (31 - n)).getD k 0 = (a : Int)) : S a = false := by
  have hm : (a : Int) ∈ X (31 - n) := by rw [← ha]; exact getD_mem hk
  cases hS : S a with
  | false => rfl
  | true =>
    rcases (h a).1 hS with ⟨s, h1, h2, h3⟩ | h3
    · have := hX.one s (31 - n) _ h2 (by omega) h3 hm
      omega
    · exfalso
      have hd := hX.nd (31 - n) (by omega)
      obtain ⟨j, hj, e⟩ := List.getElem_of_mem h3
      have hj' : j < k := by simp at hj; omega
      rw [List.getElem_take] at e
      have e2 : (X (31 - n))[k] = (a : Int) := by rw [← ha]; simp [hk]
      have := (List.getElem_inj (xs := X (31 - n)) (i := j) (j := k) (h₀ := by omega) (h₁ := hk) hd).1 (e.trans e2.symm)
      omega
theorem Sn.next {X : Nat → List Int} {n k : Nat} {S : Nat → Bool} (h : Sn X n k S) (hk : k < (X (31 - n)).length) {a : Nat} (ha : (X (31 - n)).getD k 0 = (a : Int)) : Sn X n (k + 1) (fun i => if i = a then true else S i) := fun i => by
  rw [List.take_succ_eq_append_getElem hk, List.mem_append]
  have e2 : (X (31 - n))[k] = (a : Int) := by rw [← ha]; simp [hk]
  rw [e2]
  by_cases e : i = a
  · subst e; simp
  · have e3 : ¬ ((i : Int) = (a : Int)) := by omega
    simp only [if_neg e, h i, List.mem_singleton, e3, or_false]
/-- blocks outside of a stretch, and another one, stay as they were -/
structure Mid2 (B s t : Nat) (w w' : World) : Prop where
  os : w'.os = w.os
  tape : w'.tape = w.tape
  output : w'.output = w.output
  size : w.heap.size ≤ w'.heap.size
  block : ∀ k, k < w.heap.size → (k < B ∨ s ≤ k) → k ≠ t → w'.heap[k]? = w.heap[k]?
theorem Mid2.refl (B s t : Nat) (w : World) : Mid2 B s t w w := ⟨rfl, rfl, rfl, Nat.le_refl _, fun _ _ _ _ => rfl⟩
theorem Mid2.trans {B s t : Nat} {a b c : World} (h : Mid2 B s t a b) (k : Mid2 B s t b c) : Mid2 B s t a c :=
  ⟨k.os.trans h.os, k.tape.trans h.tape, k.output.trans h.output, Nat.le_trans h.size k.size, fun i hi hg ht => (k.block i (Nat.lt_of_lt_of_le hi h.size) hg ht).trans (h.block i hi hg ht)⟩
theorem Mid2.mid {B s t : Nat} {w w' : World} (h : Mid B s w w') : Mid2 B s t w w' := ⟨h.os, h.tape, h.output, h.size, fun k hk hg _ => h.block k hk hg⟩
theorem Mid2.low {B s t : Nat} {w w' : World} (h : Below w.heap.size w w') : Mid2 B s t w w' := ⟨h.os, h.tape, h.output, h.size, fun k hk _ _ => h.block k hk⟩
theorem Mid2.set {B s t : Nat} (w : World) (i : Nat) (v : Value) : Mid2 B s t w (w.setCell ⟨t, i, none⟩ v) :=
  ⟨rfl, rfl, rfl, by simp [World.setCell], fun k hk _ ht => Below.heap_setCell _ _ _ _ ht⟩
theorem Far.mid2 {B s t : Nat} {w a b : World} (h : Far B w a) (m : Mid2 B s t a b) (ht : B ≤ t) : Far B w b :=
  ⟨h.low'.trans ⟨m.os, m.tape, m.output, m.size, fun k hk => m.block k (by have := h.le; omega) (Or.inl hk) (by omega)⟩, Nat.le_trans h.le m.size⟩
theorem Seen.mid {B s t : Nat} {w w' : World} {S : Nat → Bool} (h : Seen w t S) (hs : s ≤ t) (m : Mid B s w w') : Seen w' t S := (m.block t (at_lt h) (Or.inr hs)).trans h
theorem QS.seen {B s t : Nat} {w : World} {p : Nat} {X : Nat → List Int} (h : QS B s w p X) (hs : s ≤ t) (i : Nat) (v : Value) : QS B s (w.setCell ⟨t, i, none⟩ v) p X :=
  h.keep (by simp [World.setCell]) fun k _ hk => Below.heap_setCell _ _ _ _ (by simp; omega)
/-- a list that was told, beyond t -/
def LS (t : Nat) (w : World) (sp : Option Addr) (xs : List Int) : Prop := 0 < xs.length → ∃ g, sp = some ⟨g, 0, none⟩ ∧ t < g ∧ g < w.heap.size ∧ ∀ i, i < xs.length → w.cell? ⟨g, i, none⟩ = some (.int .i64 (xs.getD i 0))
theorem LS.own {t : Nat} {w : World} {B : Nat} {sp : Option Addr} {cap n : Nat} {xs : List Int} (h : w.ownsRow B 3 1 (.slice sp n cap) n (xs.map (Value.int .i64))) (hn : xs.length = n) (ht : t < B) : LS t w sp xs := fun hl => by
  subst hn
  obtain ⟨g, c, e, _, _⟩ := owns_spot h hl
  cases e
  have hlt := h.lt g rfl
  exact ⟨g, rfl, by omega, hlt.2, fun i hi => by rw [h.cellAt i (by omega)]; simp [hi]⟩
theorem LS.mid2 {B s t : Nat} {w w' : World} {sp : Option Addr} {xs : List Int} (h : LS t w sp xs) (m : Mid2 B s t w w') (hs : s ≤ t) : LS t w' sp xs := fun hl => by
  obtain ⟨g, e, h1, h2, h3⟩ := h hl
  refine ⟨g, e, h1, by have := m.size; omega, fun i hi => ?_⟩
  rw [World.cell?_of_block (m.block g h2 (Or.inr (by omega)) (by omega))]
  exact h3 i hi
theorem LS.src {t : Nat} {w : World} {sp : Option Addr} {xs : List Int} (h : LS t w sp xs) : Src w sp xs := fun hl => by
  obtain ⟨g, e, h1, h2, h3⟩ := h hl
  exact ⟨g, 0, e, fun i hi => by rw [Nat.zero_add]; exact h3 i hi⟩
end Go.Proofs.Ytjhpiecbolmleaa
