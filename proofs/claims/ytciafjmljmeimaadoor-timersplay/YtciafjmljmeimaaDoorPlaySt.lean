/- What is carried through 'TimersPlay': both alarms, the book, and its lists. -/
import Derived.Test.YtciafjmljmeimaaDoorKTick
import Derived.Test.YtciafjmljmeimaaDoorApart
import Derived.Test.YtciafjmljmeimaaDoorSeen
namespace Go.Proofs.YtciafjmljmeimaaDoor
open Go Go.RowKit
set_option maxRecDepth 100000
set_option linter.unusedVariables false
theorem Lists.keep {B : Nat} {w w' : World} {E : List Ent} {i : Nat} (h : Lists B w E i) (hk : ∀ (j : Nat) (e : Ent), E[j]? = some e → ∀ ys, w.ownsRow B 3 1 e.v e.len ys → ∀ g, e.v.ownBlock = some g → w'.heap[g]? = w.heap[g]?) : Lists B w' E i :=
  ⟨fun j e he => by
    obtain ⟨ys, ho, hy⟩ := h.own j e he
    exact ⟨ys, owns_of ho (hk j e he ys ho), hy⟩, h.sep, h.num, h.len⟩
theorem Bk.start {w : World} {B : Nat} (hB : B ≤ w.heap.size) : Bk B (w.alloc (.cells (bk 0 (.slice none 0 0)) 37)) w.heap.size 0 (.slice none 0 0) [] :=
  ⟨alloc_at w _, World.ownsRow_nil _ _ _ _, fun H h => by simp [Value.ownBlock] at h, hB, by simp, by omega, fun j e he => by simp at he⟩
/-- a block of another kind is none of these -/
theorem out_of {w : World} {B p x n s : Nat} {v : Value} {xs : List Value} {cs cx : Array Value} {t1 t2 t : TypeId} (hp : w.heap[p]? = some (.cells cs t1 (0, 0))) (ho : w.ownsRow B t2 s v n xs) (hx : w.heap[x]? = some (.cells cx t (0, 0))) (h1 : t ≠ t1) (h2 : t ≠ t2) : x ∉ p :: v.ownBlock.toList := by
  intro hm
  rcases List.mem_cons.1 hm with e | hm
  · rw [e, hp] at hx
    simp only [Option.some.injEq, Obj.cells.injEq] at hx
    exact h1 hx.2.1.symm
  · exact block_ne ho (by simpa using hm) hx (Ne.symm h2) rfl
theorem own_kind {w : World} {B g n s : Nat} {v : Value} {xs : List Value} {t : TypeId} (h : w.ownsRow B t s v n xs) (hg : v.ownBlock = some g) : ∃ cur, w.heap[g]? = some (.cells cur t (0, 0)) := by
  rcases h.2 with ⟨rfl, _⟩ | ⟨g', cap, cur, rfl, _, hh, _⟩
  · simp [Value.ownBlock] at hg
  · obtain rfl : g' = g := by simpa [Value.ownBlock] using hg
    exact ⟨cur, hh⟩
theorem out_row {w : World} {B B' p n s n' s' : Nat} {v v' : Value} {xs xs' : List Value} {cs : Array Value} {t1 t2 t : TypeId} (hp : w.heap[p]? = some (.cells cs t1 (0, 0))) (ho : w.ownsRow B t2 s v n xs) (hr : w.ownsRow B' t s' v' n' xs') (h1 : t ≠ t1) (h2 : t ≠ t2) : ∀ g, v'.ownBlock = some g → g ∉ p :: v.ownBlock.toList := fun g hg => by
  obtain ⟨cur, hc⟩ := own_kind hr hg
  exact out_of hp ho hc h1 h2
theorem low_of {w : World} {B p n s : Nat} {v : Value} {xs : List Value} {t : TypeId} (hp : B ≤ p) (ho : w.ownsRow B t s v n xs) : ∀ x ∈ p :: v.ownBlock.toList, B ≤ x := fun x hx => by
  rcases List.mem_cons.1 hx with e | hx
  · rw [e]; exact hp
  · exact (ho.lt x (by simpa using hx)).1
/-- what is written of alarms is no block of another kind -/
theorem Al.out {B : Nat} {w : World} {p mb tb n : Nat} {v : Value} {zs : List Alm} (h : Al B w p mb tb n v zs) {x : Nat} {cx : Array Value} {t : TypeId} {f : Nat × Nat} (hx : w.heap[x]? = some (.cells cx t f)) (h1 : t ≠ 70) (h2 : t ≠ 137) : x ∉ pts mb tb v := fun hm => by
  rcases mem_pts.1 hm with e | e | e
  · subst e; exact h.ax.em.ne hx rfl
  · subst e
    have := h.ax.ls.ch.head
    rw [hx] at this
    simp only [Option.some.injEq, Obj.cells.injEq] at this
    exact h1 this.2.1
  · obtain ⟨cur, hc⟩ := h.ax.ls.ch.own.kind e
    rw [hx] at hc
    simp only [Option.some.injEq, Obj.cells.injEq] at hc
    exact h2 hc.2.1
theorem Al.outRow {B B' : Nat} {w : World} {p mb tb n m s : Nat} {v z : Value} {zs : List Alm} {xs : List Value} {t : TypeId} (h : Al B w p mb tb n v zs) (hr : w.ownsRow B' t s z m xs) (h1 : t ≠ 70) (h2 : t ≠ 137) : ∀ g, z.ownBlock = some g → g ∉ pts mb tb v := fun g hg => by
  obtain ⟨cur, hc⟩ := own_kind hr hg
  exact h.out hc h1 h2
/-- alarms stay where blocks of other kinds are written -/
theorem Al.other {B B' : Nat} {w w' : World} {p mb tb n q m s : Nat} {v z : Value} {zs : List Alm} {cs : Array Value} {xs : List Value} {t1 t2 : TypeId} (h : Al B w p mb tb n v zs) (hb : Buts (q :: z.ownBlock.toList) w w') (hq : w.heap[q]? = some (.cells cs t1 (0, 0))) (hz : w.ownsRow B' t2 s z m xs)
    (k1 : 53 ≠ t1 ∧ 70 ≠ t1 ∧ 137 ≠ t1) (k2 : 53 ≠ t2 ∧ 70 ≠ t2 ∧ 137 ≠ t2) : Al B w' p mb tb n v zs := by
  refine h.buts hb (out_of hq hz h.ax.blk k1.1 k2.1) (fun hm => ?_) (out_of hq hz h.ax.ls.ch.head k1.2.1 k2.2.1) (out_row hq hz h.ax.ls.ch.own k1.2.2 k2.2.2)
  rcases List.mem_cons.1 hm with e | e
  · exact h.ax.em.ne hq e
  · obtain ⟨cur, hc⟩ := own_kind hz (g := mb) (by simpa using e)
    exact h.ax.em.ne hc rfl
structure St (w0 wx : World) (p mb tb q K n nb : Nat) (vp u v : Value) (E : List Ent) (xs ys : List Alm) : Prop where
  lst : Al w0.heap.size wx p mb tb n vp xs
  ref : KR w0.heap.size wx q u ys
  book : Bk w0.heap.size wx K nb v E
  lists : Lists w0.heap.size wx E 0
  bel : Below w0.heap.size w0 wx
  many : E.length = nb
theorem St.below {w0 wx w' : World} {p mb tb q K n nb : Nat} {vp u v : Value} {E : List Ent} {xs ys : List Alm} (H : St w0 wx p mb tb q K n nb vp u v E xs ys) (hb : Below wx.heap.size wx w') : St w0 w' p mb tb q K n nb vp u v E xs ys :=
  ⟨H.lst.below hb, H.ref.below hb, H.book.buts (l := []) (Buts.of hb) (by simp) (fun _ _ => by simp), H.lists.keep (fun j e he ys ho g hg => hb.block g (ho.lt g hg).2), H.bel.trans (hb.mono H.bel.size), H.many⟩
theorem St.mono {w0 wx : World} {p mb tb q K n n' nb : Nat} {vp u v : Value} {E : List Ent} {xs ys : List Alm} (H : St w0 wx p mb tb q K n nb vp u v E xs ys) (hn : n ≤ n') : St w0 wx p mb tb q K n' nb vp u v E xs ys :=
  ⟨H.lst.mono hn, H.ref, H.book, H.lists, H.bel, H.many⟩
theorem St.setLst {w0 wx w' : World} {p mb tb q K n n' nb : Nat} {vp u v : Value} {E : List Ent} {xs ys zs : List Alm} (H : St w0 wx p mb tb q K n nb vp u v E xs ys) (hn : NxL w0.heap.size wx w' p mb tb n' vp zs) : ∃ vp', St w0 w' p mb tb q K n' nb vp' u v E zs ys := by
  obtain ⟨vp', hl, hb, _⟩ := hn
  exact ⟨vp', hl, H.ref.buts hb (H.lst.out H.ref.head (by decide) (by decide)) (H.lst.outRow H.ref.own (by decide) (by decide)), H.book.buts hb (H.lst.out H.book.head (by decide) (by decide)) (H.lst.outRow H.book.row (by decide) (by decide)), H.lists.keep (fun j e he ys ho g hg => hb.block g (ho.lt g hg).2 (H.lst.outRow ho (by decide) (by decide) g hg)), H.bel.trans (H.lst.bel hb), H.many⟩
theorem St.setRef {w0 wx w' : World} {p mb tb q K n nb : Nat} {vp u v : Value} {E : List Ent} {xs ys zs : List Alm} (H : St w0 wx p mb tb q K n nb vp u v E xs ys) (hn : RN w0.heap.size wx w' q u zs) : ∃ u', St w0 w' p mb tb q K n nb vp u' v E xs zs := by
  obtain ⟨u', hl, hb, _⟩ := hn
  exact ⟨u', H.lst.other hb H.ref.head H.ref.own (by decide) (by decide), hl, H.book.buts hb (out_of H.ref.head H.ref.own H.book.head (by decide) (by decide)) (out_row H.ref.head H.ref.own H.book.row (by decide) (by decide)), H.lists.keep (fun j e he ys ho g hg => hb.block g (ho.lt g hg).2 (out_row H.ref.head H.ref.own ho (by decide) (by decide) g hg)), H.bel.trans (hb.below (low_of H.ref.low H.ref.own) H.bel.size), H.many⟩
theorem St.rowL {w0 wx : World} {p mb tb q K n nb : Nat} {vp u v : Value} {E : List Ent} {xs ys : List Alm} (H : St w0 wx p mb tb q K n nb vp u v E xs ys) {B m : Nat} {z : Value} {zs : List Value} (hx : wx.ownsRow B 3 1 z m zs) : ∀ g, z.ownBlock = some g → g ∉ q :: u.ownBlock.toList := out_row H.ref.head H.ref.own hx (by decide) (by decide)
theorem snoc_cases {E : List Ent} {x e : Ent} {j : Nat} (h : (E ++ [x])[j]? = some e) : (j < E.length ∧ E[j]? = some e) ∨ (j = E.length ∧ e = x) := by
  rcases Nat.lt_or_ge j E.length with hj | hj
  · rw [List.getElem?_append_left hj] at h
    exact Or.inl ⟨hj, h⟩
  · rw [List.getElem?_append_right hj] at h
    rcases hk : j - E.length with _ | k
    · rw [hk] at h
      simp only [List.getElem?_cons_zero, Option.some.injEq] at h
      exact Or.inr ⟨by omega, h.symm⟩
    · rw [hk] at h
      simp at h
/-- apart from all lists of the book -/
def Far (E : List Ent) (z : Value) : Prop := ∀ (j : Nat) (e : Ent), E[j]? = some e → ∀ b, z.ownBlock = some b → e.v.ownBlock ≠ some b
theorem St.far {w0 wx w' : World} {p mb tb q K n nb : Nat} {vp u v : Value} {E : List Ent} {xs ys : List Alm} (H : St w0 wx p mb tb q K n nb vp u v E xs ys) {m : Nat} {z : Value} {zs : List Value} (hx : w'.ownsRow wx.heap.size 3 1 z m zs) : Far E z := fun j e he b hb hh => by
  obtain ⟨ys, ho, -⟩ := H.lists.own j e he
  have h1 := (ho.lt b hh).2
  have h2 := (hx.lt b hb).1
  omega
theorem St.put {w0 wx w' : World} {p mb tb q K n nb m c : Nat} {sp : Option Addr} {vp u v v' : Value} {E : List Ent} {xs ys : List Alm} {zs : List Value} (H : St w0 wx p mb tb q K n nb vp u v E xs ys) (hn : nb + 1 ≤ 1000) (hm : m ≤ 1000000)
    (ho : wx.ownsRow w0.heap.size 3 1 (.slice sp m c) m zs) (hsep : Far E (.slice sp m c))
    (hk : Bk w0.heap.size w' K ((nb : Int) + 1) v' (E ++ [⟨.slice sp m c, m, .slice none 0 0, (nb : Int) + 1⟩])) (hu : Buts (K :: v.ownBlock.toList) wx w') :
    St w0 w' p mb tb q K n (nb + 1) vp u v' (E ++ [⟨.slice sp m c, m, .slice none 0 0, (nb : Int) + 1⟩]) xs ys := by
  have hrow : ∀ {B n : Nat} {x : Value} {zs : List Value}, wx.ownsRow B 3 1 x n zs → ∀ g, x.ownBlock = some g → g ∉ K :: v.ownBlock.toList := fun hx => out_row H.book.head H.book.row hx (by decide) (by decide)
  have hE := H.many
  refine ⟨H.lst.other hu H.book.head H.book.row (by decide) (by decide), H.ref.buts hu (out_of H.book.head H.book.row H.ref.head (by decide) (by decide)) (out_row H.book.head H.book.row H.ref.own (by decide) (by decide)), ?_, ?_, H.bel.trans (hu.below (low_of H.book.base H.book.row) H.bel.size), by rw [List.length_append, List.length_singleton, hE]⟩
  · have e : ((nb + 1 : Nat) : Int) = (nb : Int) + 1 := by omega
    rw [e]; exact hk
  · have hl := H.lists.keep (w' := w') (fun j e he ys hx g' hg' => hu.block g' (hx.lt g' hg').2 (hrow hx g' hg'))
    refine ⟨?_, ?_, ?_, ?_⟩
    · intro j e he
      rcases snoc_cases he with ⟨_, he'⟩ | ⟨_, rfl⟩
      · obtain ⟨ys, h1, h2⟩ := hl.own j e he'
        exact ⟨ys, h1, h2⟩
      · exact ⟨_, owns_of ho (fun g' hg' => hu.block g' (ho.lt g' hg').2 (hrow ho g' hg')), fun h => by omega⟩
    · intro j k e f hjk he hf g' hg' hg2
      rcases snoc_cases he with ⟨_, he'⟩ | ⟨rfl, rfl⟩
      · rcases snoc_cases hf with ⟨_, hf'⟩ | ⟨rfl, rfl⟩
        · exact hl.sep j k e f hjk he' hf' g' hg' hg2
        · exact hsep j e he' g' hg2 hg'
      · rcases snoc_cases hf with ⟨_, hf'⟩ | ⟨rfl, rfl⟩
        · exact hsep k f hf' g' hg' hg2
        · exact hjk rfl
    · intro j e he
      rcases snoc_cases he with ⟨_, he'⟩ | ⟨_, rfl⟩
      · exact hl.num j e he'
      · simp only; omega
    · intro j e he
      rcases snoc_cases he with ⟨_, he'⟩ | ⟨_, rfl⟩
      · exact hl.len j e he'
      · simp only; omega
theorem St.ntX {w0 wx w' : World} {p mb tb q K n n' nb X : Nat} {vp u v : Value} {E : List Ent} {xs ys zs : List Alm} {cx : Array Value} (H : St w0 wx p mb tb q K n nb vp u v E xs ys) (hn : NxL w0.heap.size wx w' p mb tb n' vp zs) (hX : wx.heap[X]? = some (.cells cx 39 (0, 0))) : w'.heap[X]? = some (.cells cx 39 (0, 0)) := by
  obtain ⟨_, _, hb, _⟩ := hn
  exact (hb.block X (at_lt hX) (H.lst.out hX (by decide) (by decide))).trans hX
theorem St.rnX {w0 wx w' : World} {p mb tb q K n nb X : Nat} {vp u v : Value} {E : List Ent} {xs ys zs : List Alm} {cx : Array Value} (H : St w0 wx p mb tb q K n nb vp u v E xs ys) (hn : RN w0.heap.size wx w' q u zs) (hX : wx.heap[X]? = some (.cells cx 39 (0, 0))) : w'.heap[X]? = some (.cells cx 39 (0, 0)) := by
  obtain ⟨_, _, hb, _⟩ := hn
  exact (hb.block X (at_lt hX) (out_of H.ref.head H.ref.own hX (by decide) (by decide))).trans hX
theorem St.rnRow {w0 wx w' : World} {p mb tb q K n nb B m : Nat} {vp u v z : Value} {E : List Ent} {xs ys zs : List Alm} {us : List Value} (H : St w0 wx p mb tb q K n nb vp u v E xs ys) (hn : RN w0.heap.size wx w' q u zs) (ho : wx.ownsRow B 3 1 z m us) : w'.ownsRow B 3 1 z m us := by
  obtain ⟨_, _, hb, _⟩ := hn
  exact owns_buts ho hb (H.rowL ho)
theorem St.rowK {w0 wx w' : World} {p mb tb q K n nb X : Nat} {vp u v : Value} {E : List Ent} {xs ys : List Alm} {cx : Array Value} (H : St w0 wx p mb tb q K n nb vp u v E xs ys) (hu : Buts (K :: v.ownBlock.toList) wx w') (hX : wx.heap[X]? = some (.cells cx 39 (0, 0))) : w'.heap[X]? = some (.cells cx 39 (0, 0)) :=
  (hu.block X (at_lt hX) (out_of H.book.head H.book.row hX (by decide) (by decide))).trans hX
end Go.Proofs.YtciafjmljmeimaaDoor
