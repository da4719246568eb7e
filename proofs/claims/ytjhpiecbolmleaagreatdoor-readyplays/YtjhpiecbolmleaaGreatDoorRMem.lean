/- A queue of those who may run, as it lies in memory: its head with 32 rings and a ladder. No law of the program itself. -/
import Derived.Test.YtjhpiecbolmleaaGreatDoorRPure
namespace Go.Proofs.YtjhpiecbolmleaaGreatDoor
open Go Go.RowKit
set_option maxRecDepth 100000
set_option linter.unusedVariables false
/-- the cells of a head -/
def qc (hp : Nat → Nat) (l : Nat) : List Value := (List.range 32).map (fun r => Value.pointer (some ⟨hp r, 0, none⟩)) ++ [.int .u32 (l : Int)]
theorem qc_row (hp : Nat → Nat) (l : Nat) {r : Nat} (h : r < 32) : (qc hp l)[r]? = some (.pointer (some ⟨hp r, 0, none⟩)) := by
  unfold qc
  rw [List.getElem?_append_left (by simpa using h), List.getElem?_map, List.getElem?_range h]
  rfl
theorem qc_lad (hp : Nat → Nat) (l : Nat) : (qc hp l)[32]? = some (.int .u32 (l : Int)) := by
  unfold qc
  rw [List.getElem?_append_right (by simp)]
  simp
theorem qc_set (hp : Nat → Nat) (l l' : Nat) : (qc hp l).set 32 (.int .u32 (l' : Int)) = qc hp l' := by
  unfold qc
  rw [List.set_append_right _ _ (by simp)]
  simp
structure Que (w : World) (p : Nat) (hp hg : Nat → Nat) (X : Nat → List Int) (l : Nat) : Prop where
  head : w.heap[p]? = some (.cells (qc hp l).toArray 57 (0, 0))
  ring : ∀ r, r < 32 → Ring w (hp r) (hg r) 256 (X r)
  hpn : ∀ r s, r < 32 → s < 32 → hp r = hp s → r = s
  hgn : ∀ r s, r < 32 → s < 32 → hg r = hg s → r = s
  hx : ∀ r s, r < 32 → s < 32 → hp r ≠ hg s
  lad : Lad X l
  good : Good X
theorem Que.row {w : World} {p : Nat} {hp hg : Nat → Nat} {X : Nat → List Int} {l : Nat} (h : Que w p hp hg X l) {r : Nat} (hr : r < 32) : w.cell? ⟨p, r, none⟩ = some (.pointer (some ⟨hp r, 0, none⟩)) := by
  rw [cell_of h.head]; simpa using qc_row hp l hr
theorem Que.ld {w : World} {p : Nat} {hp hg : Nat → Nat} {X : Nat → List Int} {l : Nat} (h : Que w p hp hg X l) : w.cell? ⟨p, 32, none⟩ = some (.int .u32 (l : Int)) := by
  rw [cell_of h.head]; simpa using qc_lad hp l
theorem Que.free {w : World} {p : Nat} {hp hg : Nat → Nat} {X : Nat → List Int} {l : Nat} (h : Que w p hp hg X l) (i : Nat) : w.frozen? ⟨p, i, none⟩ = false := by simp [World.frozen?, h.head]
theorem Que.lt {w : World} {p : Nat} {hp hg : Nat → Nat} {X : Nat → List Int} {l : Nat} (h : Que w p hp hg X l) : p < w.heap.size := at_lt h.head
theorem Ring.nep {w : World} {p g n : Nat} {xs : List Int} (h : Ring w p g n xs) {q : Nat} {cs : Array Value} {f : Nat × Nat} (hq : w.heap[q]? = some (.cells cs 57 f)) : q ≠ p ∧ q ≠ g := by
  obtain ⟨f, ys, hf, hr, hh⟩ := h.raw
  constructor
  · rintro rfl
    have := hr.head
    rw [hq] at this
    simp at this
  · rintro rfl
    have := hr.row
    unfold Row at this
    rw [hq] at this
    simp at this
/-- a queue whose ladder is set anew -/
theorem Que.setLad {w : World} {p : Nat} {hp hg : Nat → Nat} {X Y : Nat → List Int} {l l' : Nat} (h : Que w p hp hg X l) (hX : X = Y) (hl : Lad Y l') : Que (w.setCell ⟨p, 32, none⟩ (.int .u32 (l' : Int))) p hp hg Y l' := by
  subst hX
  refine ⟨?_, fun r hr => ?_, h.hpn, h.hgn, h.hx, hl, h.good⟩
  · have hlt := at_lt h.head
    have hh := (Array.getElem?_eq_some_iff.1 h.head).2
    unfold World.setCell
    rw [Array.getElem?_eq_getElem (by simpa using hlt), Array.getElem_modify]
    simp [hh, qc_set]
  · have hn := (h.ring r hr).nep h.head
    exact (h.ring r hr).buts (Buts.cell w p 32 _) (by simpa using hn.1.symm) (by simpa using hn.2.symm)
/-- blocks outside of a stretch stay as they were -/
structure Mid (B s : Nat) (w w' : World) : Prop where
  os : w'.os = w.os
  tape : w'.tape = w.tape
  output : w'.output = w.output
  size : w.heap.size ≤ w'.heap.size
  block : ∀ k, k < w.heap.size → (k < B ∨ s ≤ k) → w'.heap[k]? = w.heap[k]?
theorem Mid.refl (B s : Nat) (w : World) : Mid B s w w := ⟨rfl, rfl, rfl, Nat.le_refl _, fun _ _ _ => rfl⟩
theorem Mid.trans {B s : Nat} {a b c : World} (h : Mid B s a b) (k : Mid B s b c) : Mid B s a c :=
  ⟨k.os.trans h.os, k.tape.trans h.tape, k.output.trans h.output, Nat.le_trans h.size k.size, fun i hi hg => (k.block i (Nat.lt_of_lt_of_le hi h.size) hg).trans (h.block i hi hg)⟩
theorem Mid.of {B s : Nat} {w w' : World} (h : Below w.heap.size w w') : Mid B s w w' := ⟨h.os, h.tape, h.output, h.size, fun k hk _ => h.block k hk⟩
theorem Mid.below {B s : Nat} {w w' : World} (h : Mid B s w w') (hB : B ≤ w.heap.size) : Below B w w' := ⟨h.os, h.tape, h.output, h.size, fun k hk => h.block k (by omega) (Or.inl hk)⟩
theorem Mid.buts {B s : Nat} {w w' : World} {l : List Nat} (h : Buts l w w') (hl : ∀ x ∈ l, B ≤ x ∧ x < s) : Mid B s w w' :=
  ⟨h.os, h.tape, h.output, h.size, fun k hk hg => h.block k hk fun e => by have := hl k e; omega⟩
theorem Mid.drewN {B s : Nat} (w : World) (n : Nat) : Mid B s w (w.drewN n) := Mid.of (below_drewN w n)
/-- a queue that lies in a stretch -/
def QS (B s : Nat) (w : World) (p : Nat) (X : Nat → List Int) : Prop :=
  ∃ hp hg l, Que w p hp hg X l ∧ s ≤ w.heap.size ∧ B ≤ p ∧ p < s ∧ ∀ r, r < 32 → B ≤ hp r ∧ hp r < s ∧ B ≤ hg r ∧ hg r < s
theorem Que.mid {B s : Nat} {w w' : World} {p : Nat} {hp hg : Nat → Nat} {X : Nat → List Int} {l : Nat} (h : Que w p hp hg X l) (hk : ∀ k, (k = p ∨ ∃ r, r < 32 ∧ (k = hp r ∨ k = hg r)) → w'.heap[k]? = w.heap[k]?) : Que w' p hp hg X l := by
  refine ⟨(hk p (Or.inl rfl)).trans h.head, fun r hr => ?_, h.hpn, h.hgn, h.hx, h.lad, h.good⟩
  obtain ⟨f, ys, hf, hr2, hh⟩ := (h.ring r hr).raw
  exact ⟨⟨f, ys, hf, ⟨(hk _ (Or.inr ⟨r, hr, Or.inl rfl⟩)).trans hr2.head, (hk _ (Or.inr ⟨r, hr, Or.inr rfl⟩)).trans hr2.row, hr2.len⟩, hh⟩, (h.ring r hr).lo, (h.ring r hr).hi, (h.ring r hr).len⟩
theorem Que.below {w w' : World} {p : Nat} {hp hg : Nat → Nat} {X : Nat → List Int} {l : Nat} (h : Que w p hp hg X l) (hb : Below w.heap.size w w') : Que w' p hp hg X l :=
  h.mid (B := 0) (s := 0) fun k hk => by
    rcases hk with rfl | ⟨r, hr, rfl | rfl⟩
    · exact hb.block _ h.lt
    · exact hb.block _ (h.ring r hr).lt.1
    · exact hb.block _ (h.ring r hr).lt.2
/-- a queue that is in a stretch stays where that stretch does -/
theorem QS.keep {B s : Nat} {w w' : World} {p : Nat} {X : Nat → List Int} (h : QS B s w p X) (hs : w.heap.size ≤ w'.heap.size) (hk : ∀ k, B ≤ k → k < s → w'.heap[k]? = w.heap[k]?) : QS B s w' p X := by
  obtain ⟨hp, hg, l, hq, h1, h2, h3, h4⟩ := h
  refine ⟨hp, hg, l, hq.mid (B := B) (s := s) fun k hkk => ?_, by omega, h2, h3, h4⟩
  rcases hkk with rfl | ⟨r, hr, rfl | rfl⟩
  · exact hk _ h2 h3
  · exact hk _ (h4 r hr).1 (h4 r hr).2.1
  · exact hk _ (h4 r hr).2.2.1 (h4 r hr).2.2.2
theorem QS.le {B s : Nat} {w : World} {p : Nat} {X : Nat → List Int} (h : QS B s w p X) : s ≤ w.heap.size ∧ B ≤ p ∧ p < s := by
  obtain ⟨hp, hg, l, hq, h1, h2, h3, h4⟩ := h
  exact ⟨h1, h2, h3⟩
theorem QS.below {B s : Nat} {w w' : World} {p : Nat} {X : Nat → List Int} (h : QS B s w p X) (hb : Below w.heap.size w w') : QS B s w' p X :=
  h.keep hb.size fun k _ hk => hb.block k (by have := h.le; omega)
theorem QS.good {B s : Nat} {w : World} {p : Nat} {X : Nat → List Int} (h : QS B s w p X) : Good X := by
  obtain ⟨hp, hg, l, hq, h1, h2, h3, h4⟩ := h
  exact hq.good
/-- a ring of it in another's place -/
theorem Que.setRing {w w' : World} {p : Nat} {hp hg : Nat → Nat} {X : Nat → List Int} {l l' : Nat} (h : Que w p hp hg X l) {r : Nat} (hr : r < 32) {xs : List Int} (hR : Ring w' (hp r) (hg r) 256 xs) (hb : Buts [hp r, hg r] w w') (hl : Lad (up X r xs) l) (hgd : Good (up X r xs)) : Que w' p hp hg (up X r xs) l := by
  have hn := (h.ring r hr).nep h.head
  refine ⟨(hb.block p h.lt (by simp; exact hn)).trans h.head, fun s hs => ?_, h.hpn, h.hgn, h.hx, hl, hgd⟩
  by_cases e : s = r
  · subst e; rw [up_at]; exact hR
  · rw [up_ne X xs e]
    refine (h.ring s hs).buts hb ?_ ?_
    · simp only [List.mem_cons, List.not_mem_nil, or_false, not_or]
      exact ⟨fun k => e (h.hpn s r hs hr k), h.hx s r hs hr⟩
    · simp only [List.mem_cons, List.not_mem_nil, or_false, not_or]
      exact ⟨fun k => h.hx r s hr hs k.symm, fun k => e (h.hgn s r hs hr k)⟩
/-- the same where the ladder is not told yet -/
theorem Que.setRing' {w w' : World} {p : Nat} {hp hg : Nat → Nat} {X : Nat → List Int} {l : Nat} (h : Que w p hp hg X l) {r : Nat} (hr : r < 32) {xs : List Int} (hR : Ring w' (hp r) (hg r) 256 xs) (hb : Buts [hp r, hg r] w w') (hgd : Good (up X r xs)) (l' : Nat) (hl : Lad (up X r xs) l') : Que (w'.setCell ⟨p, 32, none⟩ (.int .u32 (l' : Int))) p hp hg (up X r xs) l' := by
  have hn := (h.ring r hr).nep h.head
  have hh : w'.heap[p]? = some (.cells (qc hp l).toArray 57 (0, 0)) := (hb.block p h.lt (by simp; exact hn)).trans h.head
  refine ⟨?_, fun s hs => ?_, h.hpn, h.hgn, h.hx, hl, hgd⟩
  · have hlt := at_lt hh
    have h2 := (Array.getElem?_eq_some_iff.1 hh).2
    unfold World.setCell
    rw [Array.getElem?_eq_getElem (by simpa using hlt), Array.getElem_modify]
    simp [h2, qc_set]
  · have hX : Ring w' (hp s) (hg s) 256 (up X r xs s) := by
      by_cases e : s = r
      · subst e; rw [up_at]; exact hR
      · rw [up_ne X xs e]
        refine (h.ring s hs).buts hb ?_ ?_
        · simp only [List.mem_cons, List.not_mem_nil, or_false, not_or]
          exact ⟨fun k => e (h.hpn s r hs hr k), h.hx s r hs hr⟩
        · simp only [List.mem_cons, List.not_mem_nil, or_false, not_or]
          exact ⟨fun k => h.hx r s hr hs k.symm, fun k => e (h.hgn s r hs hr k)⟩
    have hn := hX.nep hh
    exact hX.buts (Buts.cell w' p 32 _) (by simpa using hn.1.symm) (by simpa using hn.2.symm)
end Go.Proofs.YtjhpiecbolmleaaGreatDoor
