/- Two alarms that have nothing in common: what is done with the one is nothing to the other. -/
import Derived.Test.YtciafjmljmeimaaSeen
namespace Go.Proofs.Ytciafjmljmeimaa
open Go Go.RowKit
set_option maxRecDepth 100000
set_option linter.unusedVariables false
set_option linter.unusedSimpArgs false
def Tw (B : Nat) (w0 w : World) (p mb tb n : Nat) (zs : List Alm) (q nb ub m : Nat) (ys : List Alm) : Prop :=
  ∃ v u, Al B w p mb tb n v zs ∧ Al B w q nb ub m u ys ∧ (mb ≠ nb ∧ tb ≠ ub ∧ ∀ g, v.ownBlock = some g → u.ownBlock ≠ some g) ∧ Below B w0 w ∧ w0.heap.size = B
theorem Tw.symm {B : Nat} {w0 w : World} {p mb tb n q nb ub m : Nat} {zs ys : List Alm} (h : Tw B w0 w p mb tb n zs q nb ub m ys) : Tw B w0 w q nb ub m ys p mb tb n zs := by
  obtain ⟨v, u, h1, h2, ⟨h3, h4, h5⟩, h6, h7⟩ := h
  exact ⟨u, v, h2, h1, ⟨h3.symm, h4.symm, fun g hg hv => h5 g hv hg⟩, h6, h7⟩
theorem Tw.below {B : Nat} {w0 w w' : World} {p mb tb n q nb ub m : Nat} {zs ys : List Alm} (h : Tw B w0 w p mb tb n zs q nb ub m ys) (hb : Below w.heap.size w w') : Tw B w0 w' p mb tb n zs q nb ub m ys := by
  obtain ⟨v, u, h1, h2, h3, h6, h7⟩ := h
  exact ⟨v, u, h1.below hb, h2.below hb, h3, h6.trans (hb.mono h1.size), h7⟩
theorem Tw.bel {B : Nat} {w0 w : World} {p mb tb n q nb ub m : Nat} {zs ys : List Alm} (h : Tw B w0 w p mb tb n zs q nb ub m ys) : Below B w0 w := by
  obtain ⟨v, u, h1, h2, h3, h6, h7⟩ := h
  exact h6
theorem Tw.size {B : Nat} {w0 w : World} {p mb tb n q nb ub m : Nat} {zs ys : List Alm} (h : Tw B w0 w p mb tb n zs q nb ub m ys) : B ≤ w.heap.size := by
  obtain ⟨v, u, h1, h2, h3, h6, h7⟩ := h
  exact h1.size
theorem Tw.fine {B : Nat} {w0 w : World} {p mb tb n q nb ub m : Nat} {zs ys : List Alm} (h : Tw B w0 w p mb tb n zs q nb ub m ys) : Fine zs := by
  obtain ⟨v, u, h1, h2, h3, h6, h7⟩ := h
  exact h1.fine
theorem Tw.len {B : Nat} {w0 w : World} {p mb tb n q nb ub m : Nat} {zs ys : List Alm} (h : Tw B w0 w p mb tb n zs q nb ub m ys) : zs.length ≤ 1000 := by
  obtain ⟨v, u, h1, h2, h3, h6, h7⟩ := h
  exact h1.len
theorem Tw.step {B : Nat} {w0 w w' : World} {p mb tb n n' q nb ub m : Nat} {v u : Value} {zs zs' ys : List Alm} (h1 : Al B w p mb tb n v zs) (h2 : Al B w q nb ub m u ys) (h3 : mb ≠ nb ∧ tb ≠ ub ∧ ∀ g, v.ownBlock = some g → u.ownBlock ≠ some g) (h6 : Below B w0 w) (h7 : w0.heap.size = B)
    (hn : NxL B w w' p mb tb n' v zs') : Tw B w0 w' p mb tb n' zs' q nb ub m ys ∧ KW w w' := by
  obtain ⟨v', a1, a2, a3⟩ := hn
  have kq : q ∉ pts mb tb v := fun hm => by
    have hq := h2.ax.blk
    rcases mem_pts.1 hm with e | e | e
    · subst e; exact h1.ax.em.ne hq rfl
    · subst e; have := h1.ax.ls.ch.head; rw [hq] at this; simp at this
    · obtain ⟨cur, hc⟩ := h1.ax.ls.ch.own.kind e; rw [hq] at hc; simp at hc
  have kn : nb ∉ pts mb tb v := fun hm => by
    rcases mem_pts.1 hm with e | e | e
    · exact h3.1 e.symm
    · exact h2.ax.em.ne h1.ax.ls.ch.head e
    · obtain ⟨cur, hc⟩ := h1.ax.ls.ch.own.kind e; exact h2.ax.em.ne hc rfl
  have ku : ub ∉ pts mb tb v := fun hm => by
    have hu := h2.ax.ls.ch.head
    rcases mem_pts.1 hm with e | e | e
    · exact h1.ax.em.ne hu e.symm
    · exact h3.2.1 e.symm
    · obtain ⟨cur, hc⟩ := h1.ax.ls.ch.own.kind e; rw [hu] at hc; simp at hc
  have kv : ∀ g, u.ownBlock = some g → g ∉ pts mb tb v := fun g hg hm => by
    obtain ⟨cur, hc⟩ := h2.ax.ls.ch.own.kind hg
    rcases mem_pts.1 hm with e | e | e
    · exact h1.ax.em.ne hc e.symm
    · subst e; have := h1.ax.ls.ch.head; rw [hc] at this; simp at this
    · exact h3.2.2 g e hg
  refine ⟨⟨v', u, a1, h2.buts a2 kq kn ku kv, ⟨h3.1, h3.2.1, fun g hg hu => ?_⟩, h6.trans (h1.bel a2), h7⟩, h1.kw a2⟩
  rcases a3 g hg with c | c
  · exact h3.2.2 g c hu
  · have := (h2.ax.ls.ch.own.lt' hu).2
    omega
theorem new_tw {w0 : World} {B : Nat} {w : World} {p mb tb n : Nat} {zs : List Alm} (h : At B w0 w p mb tb n zs) : Calls Try.prog 6 #[] w fun e w' => ∃ q nb ub, e = .returned (.pointer (some ⟨q, 0, none⟩)) ∧ Tw B w0 w' p mb tb n zs q nb ub 0 [] ∧ KW w w' := by
  obtain ⟨⟨v, hv⟩, h2, h3⟩ := h
  refine (anew_any w B hv.size).mono ?_
  rintro e w' ⟨q, nb, ub, rfl, hl, hb', k1, k2, k3⟩
  refine ⟨q, nb, ub, rfl, ⟨v, _, hv.below hb', hl, ⟨?_, ?_, fun g _ hg => by simp [Value.ownBlock] at hg⟩, h2.trans (hb'.mono hv.size), h3⟩, KW.below hb'⟩
  · have := hv.ax.em.lt; omega
  · have := at_lt hv.ax.ls.ch.head; omega
theorem start_tw {B : Nat} {w0 w : World} {p mb tb n q nb ub m k : Nat} {zs ys us : List Alm} (h : Tw B w0 w p mb tb n zs q nb ub m ys) (who i e : Int) (hs : S64 who) (hl : zs.length < 1000) (hn : n ≤ 100000) (hk : n + 1 = k) (hu : startL zs who i e = us) :
    Calls Try.prog 7 #[.pointer (some ⟨p, 0, none⟩), .int .i64 who, .int .i64 i, .int .i64 e] w fun x w' => ∃ z : Int, x = .returned (.int .i64 z) ∧ Tw B w0 w' p mb tb k us q nb ub m ys ∧ KW w w' := by
  subst hk hu
  obtain ⟨v, u, h1, h2, h3, h6, h7⟩ := h
  refine (start_is h1 hs i e hl hn h1.size).mono ?_
  rintro x w' ⟨rfl, hn⟩
  exact ⟨_, rfl, Tw.step h1 h2 h3 h6 h7 hn⟩
theorem stop_tw {B : Nat} {w0 w : World} {p mb tb n q nb ub m : Nat} {zs ys us : List Alm} {e0 : Int} (h : Tw B w0 w p mb tb n zs q nb ub m ys) (who : Int) (hs : S64 who) (he : stopE zs who = e0) (hu : off zs who = us) :
    Calls Try.prog 8 #[.pointer (some ⟨p, 0, none⟩), .int .i64 who] w fun x w' => x = .returned (.int .i64 e0) ∧ Tw B w0 w' p mb tb n us q nb ub m ys ∧ KW w w' := by
  subst he hu
  obtain ⟨v, u, h1, h2, h3, h6, h7⟩ := h
  refine (stop_is h1 hs).mono ?_
  rintro x w' ⟨rfl, hn⟩
  exact ⟨rfl, Tw.step h1 h2 h3 h6 h7 hn⟩
theorem left_tw {B : Nat} {w0 w : World} {p mb tb n q nb ub m : Nat} {zs ys : List Alm} {l0 : Int} (h : Tw B w0 w p mb tb n zs q nb ub m ys) (who : Int) (hl : leftA zs who = l0) :
    Calls Try.prog 10 #[.pointer (some ⟨p, 0, none⟩), .int .i64 who] w fun x w' => x = .returned (.int .i64 l0) ∧ Tw B w0 w' p mb tb n zs q nb ub m ys ∧ KW w w' := by
  subst hl
  have h' := h
  obtain ⟨v, u, h1, h2, h3, h6, h7⟩ := h
  refine (aleft_is h1 who).mono ?_
  rintro x w' ⟨rfl, hb⟩
  exact ⟨rfl, h'.below hb, KW.below hb⟩
theorem tick_tw {B : Nat} {w0 w : World} {p mb tb n q nb ub m : Nat} {zs ys us : List Alm} {ws : List Int} {k : Nat} (h : Tw B w0 w p mb tb n zs q nb ub m ys) (hw : (due zs).map Prod.fst = ws) (hn : ws.length = k) (hz : tickL zs = us) :
    Calls Try.prog 9 #[.pointer (some ⟨p, 0, none⟩)] w fun x w' => ∃ s c, x = .returned (.slice s k c) ∧ w'.ownsRow B 3 1 (.slice s k c) k (num ws) ∧ Tw B w0 w' p mb tb n us q nb ub m ys ∧ KW w w' := by
  subst hw hz hn
  obtain ⟨v, u, h1, h2, h3, h6, h7⟩ := h
  refine (atick_is h1 h1.size).mono ?_
  rintro x w' ⟨s, c, rfl, hr, hn⟩
  rw [List.length_map]
  exact ⟨s, c, rfl, owns_base hr h1.size, Tw.step h1 h2 h3 h6 h7 hn⟩
theorem filter_comm {α : Type} (p q : α → Bool) (l : List α) : (l.filter p).filter q = (l.filter q).filter p := by
  rw [List.filter_filter, List.filter_filter]
  congr 1
  funext x
  exact Bool.and_comm _ _
theorem due_off (zs : List Alm) (who : Int) : (due (off zs who)).map Prod.fst = ((due zs).map Prod.fst).filter (fun y => decide (y ≠ who)) := by
  unfold due off
  rw [filter_comm, List.filter_map]
  rfl
theorem stay_off (zs : List Alm) (who : Int) : stay (off zs who) = off (stay zs) who := by
  unfold stay off
  rw [filter_comm, List.filter_map]
  rfl
theorem agn_off (zs : List Alm) (who : Int) : agn (due (off zs who)) = off (agn (due zs)) who := by
  unfold agn due off
  rw [filter_comm (fun z : Alm => decide (z.1 ≠ who)) (fun z => decide (z.2.1 = 1)) zs, filter_comm (fun z : Alm => decide (z.1 ≠ who)) (fun z => decide (0 < z.2.2)), List.filter_map]
  rfl
theorem tick_off (zs : List Alm) (who : Int) : tickL (off zs who) = off (tickL zs) who := by
  unfold tickL
  rw [stay_off, agn_off]
  unfold off
  rw [List.filter_append]
/-- all others, one behind the other -/
theorem others_at {D : List Int} {who x : Int} {q : Nat} (h : D[q]? = some x) (hx : x ≠ who) : (D.filter (fun y => decide (y ≠ who)))[((D.take q).filter (fun y => decide (y ≠ who))).length]? = some x ∧ (D.take (q + 1)).filter (fun y => decide (y ≠ who)) = (D.take q).filter (fun y => decide (y ≠ who)) ++ [x] := by
  obtain ⟨hq, e⟩ := List.getElem?_eq_some_iff.1 h
  have h1 : (D.take (q + 1)).filter (fun y => decide (y ≠ who)) = (D.take q).filter (fun y => decide (y ≠ who)) ++ [x] := by
    rw [← List.take_append_getElem hq, List.filter_append, e]
    simp [hx]
  refine ⟨?_, h1⟩
  conv => lhs; arg 1; rw [← List.take_append_drop (q + 1) D, List.filter_append, h1, List.append_assoc]
  simp
theorem others_not {D : List Int} {who : Int} {q : Nat} (h : D[q]? = some who) : (D.take (q + 1)).filter (fun y => decide (y ≠ who)) = (D.take q).filter (fun y => decide (y ≠ who)) := by
  obtain ⟨hq, e⟩ := List.getElem?_eq_some_iff.1 h
  rw [← List.take_append_getElem hq, List.filter_append, e]
  simp
theorem left_pos {zs : List Alm} (hf : Fine zs) {who : Int} (h : has (two zs) who = true) : 1 ≤ leftA zs who := by
  obtain ⟨z, hz, e⟩ := has_two.1 h
  have := leftV_at (y := wl z) hf.good.keys (List.mem_map.2 ⟨z, hz, rfl⟩)
  unfold leftA
  rw [← e]
  have h2 := hf.lo hz
  rw [show z.1 = (wl z).1 from rfl, this]
  exact h2
end Go.Proofs.Ytciafjmljmeimaa
