/- Alarms as they lie in memory: a map, and those that sleep; one contract for each call. -/
import Derived.Test.YtciafjmljmeimaaDoorEMap
namespace Go.Proofs.YtciafjmljmeimaaDoor
open Go Go.RowKit
set_option maxRecDepth 100000
set_option linter.unusedVariables false
set_option linter.unusedSimpArgs false
/-- at block p: a map at mb, and those that sleep at tb -/
structure Ax (B : Nat) (w : World) (p mb tb n : Nat) (v : Value) (ps ys : List (Int × Int)) : Prop where
  blk : w.heap[p]? = some (.cells #[.map (some mb), .pointer (some ⟨tb, 0, none⟩)] 53 (0, 0))
  low : B ≤ p ∧ B ≤ mb
  em : EMp w mb n ps
  ls : Lst B w tb v ys
theorem Ax.buts {B : Nat} {w w' : World} {p mb tb n : Nat} {v : Value} {ps ys : List (Int × Int)} {l : List Nat} (h : Ax B w p mb tb n v ps ys) (hb : Buts l w w') (hp : p ∉ l) (hm : mb ∉ l) (ht : tb ∉ l) (hl : ∀ g, v.ownBlock = some g → g ∉ l) : Ax B w' p mb tb n v ps ys :=
  ⟨(hb.block p (at_lt h.blk) hp).trans h.blk, h.low, h.em.buts hb hm, h.ls.buts hb ht hl⟩
theorem Ax.below {B : Nat} {w w' : World} {p mb tb n : Nat} {v : Value} {ps ys : List (Int × Int)} (h : Ax B w p mb tb n v ps ys) (hb : Below w.heap.size w w') : Ax B w' p mb tb n v ps ys :=
  h.buts (l := []) (Buts.of hb) (by simp) (by simp) (by simp) (fun _ _ => by simp)
theorem Ax.mono {B : Nat} {w : World} {p mb tb n n' : Nat} {v : Value} {ps ys : List (Int × Int)} (h : Ax B w p mb tb n v ps ys) (hn : n ≤ n') : Ax B w p mb tb n' v ps ys := ⟨h.blk, h.low, h.em.mono hn, h.ls⟩
theorem Ax.congr {B : Nat} {w : World} {p mb tb n : Nat} {v : Value} {ps qs ys : List (Int × Int)} (h : Ax B w p mb tb n v ps ys) (hm : ∀ x, x ∈ qs ↔ x ∈ ps) : Ax B w p mb tb n v qs ys := ⟨h.blk, h.low, h.em.congr hm, h.ls⟩
theorem Ax.c0 {B : Nat} {w : World} {p mb tb n : Nat} {v : Value} {ps ys : List (Int × Int)} (h : Ax B w p mb tb n v ps ys) : w.cell? ⟨p, 0, none⟩ = some (.map (some mb)) := by rw [cell_of h.blk]; rfl
theorem Ax.c1 {B : Nat} {w : World} {p mb tb n : Nat} {v : Value} {ps ys : List (Int × Int)} (h : Ax B w p mb tb n v ps ys) : w.cell? ⟨p, 1, none⟩ = some (.pointer (some ⟨tb, 0, none⟩)) := by rw [cell_of h.blk]; rfl
theorem Ax.mp {B : Nat} {w : World} {p mb tb n : Nat} {v : Value} {ps ys : List (Int × Int)} (h : Ax B w p mb tb n v ps ys) : mb ≠ p := h.em.ne h.blk
theorem Ax.mt {B : Nat} {w : World} {p mb tb n : Nat} {v : Value} {ps ys : List (Int × Int)} (h : Ax B w p mb tb n v ps ys) : mb ≠ tb := h.em.ne h.ls.ch.head
theorem Ax.tp {B : Nat} {w : World} {p mb tb n : Nat} {v : Value} {ps ys : List (Int × Int)} (h : Ax B w p mb tb n v ps ys) : p ≠ tb := by
  rintro rfl
  have := h.ls.ch.head
  rw [h.blk] at this
  simp at this
theorem Ax.mv {B : Nat} {w : World} {p mb tb n : Nat} {v : Value} {ps ys : List (Int × Int)} (h : Ax B w p mb tb n v ps ys) {g : Nat} (hg : v.ownBlock = some g) : g ≠ mb := by
  obtain ⟨cur, hc⟩ := h.ls.ch.own.kind hg
  exact fun e => h.em.ne hc e.symm
theorem Ax.pv {B : Nat} {w : World} {p mb tb n : Nat} {v : Value} {ps ys : List (Int × Int)} (h : Ax B w p mb tb n v ps ys) {g : Nat} (hg : v.ownBlock = some g) : g ≠ p := by
  obtain ⟨cur, hc⟩ := h.ls.ch.own.kind hg
  rintro rfl
  have := h.blk
  rw [hc] at this
  simp at this
/-- what is written of it -/
def pts (mb tb : Nat) (v : Value) : List Nat := mb :: tb :: v.ownBlock.toList
theorem mem_pts {mb tb : Nat} {v : Value} {x : Nat} : x ∈ pts mb tb v ↔ x = mb ∨ x = tb ∨ v.ownBlock = some x := by
  unfold pts
  cases v.ownBlock <;> simp [eq_comm]
theorem Ax.kept {B : Nat} {w w1 : World} {p mb tb n : Nat} {v : Value} {ps ys : List (Int × Int)} (h : Ax B w p mb tb n v ps ys) (hb : Buts [mb] w w1) : Lst B w1 tb v ys :=
  h.ls.buts hb (by simpa using h.mt.symm) (fun g hg => by simpa using h.mv hg)
theorem Ax.turn {B : Nat} {w w1 : World} {p mb tb n m : Nat} {v : Value} {ps qs ys : List (Int × Int)} (h : Ax B w p mb tb n v ps ys) (hb : Buts [mb] w w1) (he : EMp w1 mb m qs) : Ax B w1 p mb tb m v qs ys :=
  ⟨(hb.block p (at_lt h.blk) (by simpa using h.mp.symm)).trans h.blk, h.low, he, h.kept hb⟩
/-- what a call leaves of it -/
def NxA (B : Nat) (w w' : World) (p mb tb n : Nat) (v : Value) (ps ys : List (Int × Int)) : Prop :=
  ∃ v', Ax B w' p mb tb n v' ps ys ∧ Buts (pts mb tb v) w w' ∧ ∀ g, v'.ownBlock = some g → v.ownBlock = some g ∨ w.heap.size ≤ g
theorem Ax.next {B : Nat} {w w' : World} {p mb tb n : Nat} {v : Value} {ps ys : List (Int × Int)} (h : Ax B w p mb tb n v ps ys) (hb : Below w.heap.size w w') : NxA B w w' p mb tb n v ps ys := ⟨v, h.below hb, Buts.of hb, fun g hg => Or.inl hg⟩
/-- the map has turned, then those that sleep -/
theorem Ax.done {B : Nat} {w w1 w2 : World} {p mb tb n m : Nat} {v : Value} {ps qs ys us : List (Int × Int)} (h : Ax B w p mb tb n v ps ys) (hb : Buts [mb] w w1) (he : EMp w1 mb m qs) (hn : Nt B w1 w2 tb v us) : NxA B w w2 p mb tb m v qs us := by
  obtain ⟨v', hl, hb2, hv⟩ := hn
  have h1 := h.turn hb he
  have hp : p ∉ (tb :: v.ownBlock.toList) := by
    intro hm
    rcases List.mem_cons.1 hm with e | e
    · exact h.tp e
    · exact h.pv (by simpa using e) rfl
  have hm : mb ∉ (tb :: v.ownBlock.toList) := by
    intro hm
    rcases List.mem_cons.1 hm with e | e
    · exact h.mt e
    · exact h.mv (by simpa using e) rfl
  exact ⟨v', ⟨(hb2.block p (at_lt h1.blk) hp).trans h1.blk, h1.low, he.buts hb2 hm, hl⟩, (hb.mono (by simp [pts])).trans (hb2.mono (by intro x hx; unfold pts; exact List.mem_cons_of_mem _ hx)), fun g hg => (hv g hg).imp id (fun h => Nat.le_trans hb.size h)⟩
theorem NxA.trans {B : Nat} {w w1 w2 : World} {p mb tb m : Nat} {v v1 : Value} {qs us : List (Int × Int)} (hb : Buts (pts mb tb v) w w1) (hv : ∀ g, v1.ownBlock = some g → v.ownBlock = some g ∨ w.heap.size ≤ g) (h2 : NxA B w1 w2 p mb tb m v1 qs us) : NxA B w w2 p mb tb m v qs us := by
  obtain ⟨v2, h, hb2, hv2⟩ := h2
  refine ⟨v2, h, ⟨hb2.os.trans hb.os, hb2.tape.trans hb.tape, hb2.output.trans hb.output, Nat.le_trans hb.size hb2.size, fun k hk hm => ?_⟩, fun g hg => ?_⟩
  · refine (hb2.block k (Nat.lt_of_lt_of_le hk hb.size) fun hx => hm ?_).trans (hb.block k hk hm)
    rcases mem_pts.1 hx with e | e | e
    · exact mem_pts.2 (Or.inl e)
    · exact mem_pts.2 (Or.inr (Or.inl e))
    · rcases hv k e with c | c
      · exact mem_pts.2 (Or.inr (Or.inr c))
      · omega
  · rcases hv2 g hg with c | c
    · exact hv g c
    · exact Or.inr (Nat.le_trans hb.size c)
/-- alarms, in the order in which they were started, or came -/
structure Al (B : Nat) (w : World) (p mb tb n : Nat) (v : Value) (zs : List Alm) : Prop where
  ax : Ax B w p mb tb n v (pr zs) (two zs)
  fine : Fine zs
theorem Al.buts {B : Nat} {w w' : World} {p mb tb n : Nat} {v : Value} {zs : List Alm} {l : List Nat} (h : Al B w p mb tb n v zs) (hb : Buts l w w') (hp : p ∉ l) (hm : mb ∉ l) (ht : tb ∉ l) (hl : ∀ g, v.ownBlock = some g → g ∉ l) : Al B w' p mb tb n v zs := ⟨h.ax.buts hb hp hm ht hl, h.fine⟩
theorem Al.below {B : Nat} {w w' : World} {p mb tb n : Nat} {v : Value} {zs : List Alm} (h : Al B w p mb tb n v zs) (hb : Below w.heap.size w w') : Al B w' p mb tb n v zs := ⟨h.ax.below hb, h.fine⟩
theorem Al.mono {B : Nat} {w : World} {p mb tb n n' : Nat} {v : Value} {zs : List Alm} (h : Al B w p mb tb n v zs) (hn : n ≤ n') : Al B w p mb tb n' v zs := ⟨h.ax.mono hn, h.fine⟩
theorem Al.len {B : Nat} {w : World} {p mb tb n : Nat} {v : Value} {zs : List Alm} (h : Al B w p mb tb n v zs) : zs.length ≤ 1000 := by have := h.ax.ls.len; rw [two_len] at this; exact this
def NxL (B : Nat) (w w' : World) (p mb tb n : Nat) (v : Value) (zs : List Alm) : Prop :=
  ∃ v', Al B w' p mb tb n v' zs ∧ Buts (pts mb tb v) w w' ∧ ∀ g, v'.ownBlock = some g → v.ownBlock = some g ∨ w.heap.size ≤ g
theorem NxA.al {B : Nat} {w w' : World} {p mb tb n : Nat} {v : Value} {zs : List Alm} {ps ys : List (Int × Int)} (h : NxA B w w' p mb tb n v ps ys) (hp : ∀ x, x ∈ pr zs ↔ x ∈ ps) (hy : ys = two zs) (hf : Fine zs) : NxL B w w' p mb tb n v zs := by
  obtain ⟨v', hx, hb, hv⟩ := h
  subst hy
  exact ⟨v', ⟨hx.congr hp, hf⟩, hb, hv⟩
theorem Al.next {B : Nat} {w w' : World} {p mb tb n : Nat} {v : Value} {zs : List Alm} (h : Al B w p mb tb n v zs) (hb : Below w.heap.size w w') : NxL B w w' p mb tb n v zs := ⟨v, h.below hb, Buts.of hb, fun g hg => Or.inl hg⟩
end Go.Proofs.YtciafjmljmeimaaDoor
