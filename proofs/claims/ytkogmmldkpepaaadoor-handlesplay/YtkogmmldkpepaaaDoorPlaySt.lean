/- What is carried through 'HandlesPlay': both tables, the book, and its lists. -/
import Derived.Test.YtkogmmldkpepaaaDoorRefWalk
import Derived.Test.YtkogmmldkpepaaaDoorApart
namespace Go.Proofs.YtkogmmldkpepaaaDoor
open Go Go.RowKit
set_option maxRecDepth 100000
set_option linter.unusedVariables false
theorem Lists.keep {B : Nat} {w w' : World} {E : List Ent} {i : Nat} (h : Lists B w E i) (hk : ∀ (j : Nat) (e : Ent), E[j]? = some e → ∀ ys, w.ownsRow B 40 1 e.v e.len ys → ∀ g, e.v.ownBlock = some g → w'.heap[g]? = w.heap[g]?) : Lists B w' E i :=
  ⟨fun j e he => by
    obtain ⟨ys, ho, hy⟩ := h.own j e he
    exact ⟨ys, owns_of ho (hk j e he ys ho), hy⟩, h.sep, h.num, h.len⟩
theorem Bk.start {w : World} {B : Nat} (hB : B ≤ w.heap.size) : Bk B (w.alloc (.cells (bk 0 (.slice none 0 0)) 39)) w.heap.size 0 (.slice none 0 0) [] :=
  ⟨alloc_at w _, World.ownsRow_nil _ _ _ _, fun H h => by simp [Value.ownBlock] at h, hB, by simp, by omega, fun j e he => by simp at he⟩
theorem Tab.pt {w : World} {p n : Nat} {s : Slots} (h : Tab w p n s) : ∃ cs, w.heap[p]? = some (.cells cs 58 (0, 0)) := by
  obtain ⟨cs, h0, _⟩ := h.lay
  exact ⟨cs, h0⟩
theorem Ref.at {w : World} {q ga gb n : Nat} {s : Slots} (h : Ref w q ga gb n s) : ∃ ca, w.heap[ga]? = some (.cells ca 40 (0, 0)) := by
  obtain ⟨ca, ha, _⟩ := h.lay.age
  exact ⟨ca, ha⟩
theorem Ref.bt {w : World} {q ga gb n : Nat} {s : Slots} (h : Ref w q ga gb n s) : ∃ cb, w.heap[gb]? = some (.cells cb 4 (0, 0)) := by
  obtain ⟨cb, hb, _⟩ := h.lay.drp
  exact ⟨cb, hb⟩
structure St (w0 wx : World) (p q ga gb K n nb : Nat) (v : Value) (E : List Ent) (s r : Slots) : Prop where
  tab : Tab wx p n s
  ref : Ref wx q ga gb n r
  book : Bk w0.heap.size wx K nb v E
  lists : Lists w0.heap.size wx E 0
  bel : Below w0.heap.size w0 wx
  lop : w0.heap.size ≤ p
  loa : w0.heap.size ≤ ga
  lob : w0.heap.size ≤ gb
  far : ∀ (j : Nat) (e : Ent), E[j]? = some e → e.v.ownBlock ≠ some ga
  many : E.length = nb
theorem St.below {w0 wx w' : World} {p q ga gb K n nb : Nat} {v : Value} {E : List Ent} {s r : Slots} (H : St w0 wx p q ga gb K n nb v E s r) (hb : Below wx.heap.size wx w') : St w0 w' p q ga gb K n nb v E s r :=
  ⟨H.tab.below hb, H.ref.below hb, H.book.buts (l := []) (Buts.of hb) (by simp) (fun _ _ => by simp), H.lists.keep (fun j e he ys ho g hg => hb.block g (ho.lt g hg).2), H.bel.trans (hb.mono H.bel.size), H.lop, H.loa, H.lob, H.far, H.many⟩
theorem one_mem {p r : Nat} (h : r ≠ p) : r ∉ [p] := by simpa using h
theorem St.setTab {w0 wx w' : World} {p q ga gb K n nb : Nat} {v : Value} {E : List Ent} {s s' r : Slots} (H : St w0 wx p q ga gb K n nb v E s r) (hb : Buts [p] wx w') (ht : Tab w' p n s') : St w0 w' p q ga gb K n nb v E s' r := by
  obtain ⟨cp, hp⟩ := H.tab.pt
  obtain ⟨ca, ha⟩ := H.ref.at
  obtain ⟨cb, hbb⟩ := H.ref.bt
  exact ⟨ht, H.ref.buts hb (one_mem (heads_ne H.ref.lay.head hp (by decide))) (one_mem (heads_ne ha hp (by decide))) (one_mem (heads_ne hbb hp (by decide))),
    H.book.buts hb (one_mem (heads_ne H.book.head hp (by decide))) (fun b hbk => one_mem (block_ne H.book.row hbk hp (by decide))),
    H.lists.keep (fun j e he ys ho b hbk => hb.block b (ho.lt b hbk).2 (one_mem (block_ne ho hbk hp (by decide)))), H.bel.trans (one_below hb H.lop H.bel.size), H.lop, H.loa, H.lob, H.far, H.many⟩
theorem St.setRef {w0 wx w' : World} {p q ga gb K n nb : Nat} {v : Value} {E : List Ent} {s r r' : Slots} (H : St w0 wx p q ga gb K n nb v E s r) (hb : Buts [ga, gb] wx w') (hr : Ref w' q ga gb n r') : St w0 w' p q ga gb K n nb v E s r' := by
  obtain ⟨cp, hp⟩ := H.tab.pt
  obtain ⟨ca, ha⟩ := H.ref.at
  obtain ⟨cb, hbb⟩ := H.ref.bt
  exact ⟨H.tab.buts hb (two_mem (heads_ne hp ha (by decide)) (heads_ne hp hbb (by decide))), hr,
    H.book.buts hb (two_mem (heads_ne H.book.head ha (by decide)) (heads_ne H.book.head hbb (by decide))) (fun b hbk => two_mem (block_ne H.book.row hbk ha (by decide)) (block_ne H.book.row hbk hbb (by decide))),
    H.lists.keep (fun j e he ys ho b hbk => hb.block b (ho.lt b hbk).2 (two_mem (fun e2 => H.far j e he (by rw [hbk, e2])) (block_ne ho hbk hbb (by decide)))), H.bel.trans (hb.below (fun x hx => by simp only [List.mem_cons, List.not_mem_nil, or_false] at hx; have := H.loa; have := H.lob; omega) H.bel.size), H.lop, H.loa, H.lob, H.far, H.many⟩
theorem snoc_cases {E : List Ent} {x e : Ent} {j : Nat} (h : (E ++ [x])[j]? = some e) : (j < E.length ∧ E[j]? = some e) ∨ (j = E.length ∧ e = x) := by
  rcases Nat.lt_or_ge j E.length with hj | hj
  · rw [List.getElem?_append_left hj] at h
    exact Or.inl ⟨hj, h⟩
  · rw [List.getElem?_append_right hj] at h
    rcases hk : j - E.length with _ | k
    · rw [hk] at h
      simp only [List.getElem?_cons_zero, Option.some.injEq] at h
      exact Or.inr ⟨by omega, h.symm⟩
    · rw [hk] at h
      simp at h
theorem St.put {w0 wx w' : World} {p q ga gb K n nb m : Nat} {v v' V : Value} {E : List Ent} {s r : Slots} {xs : List Value} (H : St w0 wx p q ga gb K n nb v E s r) (hn : nb + 1 ≤ 1000) (hm : m ≤ 1024)
    (ho : wx.ownsRow w0.heap.size 40 1 V m xs) (hV : ∀ g, V.ownBlock = some g → g ≠ ga ∧ ∀ (j : Nat) (e : Ent), E[j]? = some e → e.v.ownBlock ≠ some g)
    (hk : Bk w0.heap.size w' K ((nb : Int) + 1) v' (E ++ [⟨V, m, .slice none 0 0, (nb : Int) + 1⟩])) (hu : Buts (K :: v.ownBlock.toList) wx w') :
    St w0 w' p q ga gb K n (nb + 1) v' (E ++ [⟨V, m, .slice none 0 0, (nb : Int) + 1⟩]) s r := by
  obtain ⟨cp, hp⟩ := H.tab.pt
  obtain ⟨ca, ha⟩ := H.ref.at
  obtain ⟨cb, hbb⟩ := H.ref.bt
  have hne : ∀ {x : Nat} {cs : Array Value} {t : TypeId}, wx.heap[x]? = some (.cells cs t (0, 0)) → 39 ≠ t → 68 ≠ t → x ∉ K :: v.ownBlock.toList := by
    intro x cs t hx h1 h2 hm
    rcases List.mem_cons.1 hm with e | hm
    · exact heads_ne H.book.head hx h1 e.symm
    · exact block_ne H.book.row (by simpa using hm) hx h2 rfl
  have hrow : ∀ (B m : Nat) (x : Value) (ys : List Value), wx.ownsRow B 40 1 x m ys → ∀ g', x.ownBlock = some g' → g' ∉ K :: v.ownBlock.toList := by
    intro B m x ys hx g' hg' hm
    rcases List.mem_cons.1 hm with e | hm
    · exact block_ne hx hg' H.book.head (by decide) e
    · exact own_ne hx hg' H.book.row (by simpa using hm) (by decide) rfl
  have hE := H.many
  refine ⟨H.tab.buts hu (hne hp (by decide) (by decide)), H.ref.buts hu (hne H.ref.lay.head (by decide) (by decide)) (hne ha (by decide) (by decide)) (hne hbb (by decide) (by decide)), ?_, ?_, ?_, H.lop, H.loa, H.lob, ?_, by rw [List.length_append, List.length_singleton, hE]⟩
  · have e : ((nb + 1 : Nat) : Int) = (nb : Int) + 1 := by omega
    rw [e]; exact hk
  · have hl := H.lists.keep (w' := w') (fun j e he ys hx g' hg' => hu.block g' (hx.lt g' hg').2 (hrow _ _ _ _ hx g' hg'))
    refine ⟨?_, ?_, ?_, ?_⟩
    · intro j e he
      rcases snoc_cases he with ⟨_, he'⟩ | ⟨_, rfl⟩
      · obtain ⟨ys, h1, h2⟩ := hl.own j e he'
        exact ⟨ys, h1, h2⟩
      · exact ⟨_, owns_of ho (fun g' hg' => hu.block g' (ho.lt g' hg').2 (hrow _ _ _ _ ho g' hg')), fun h => by omega⟩
    · intro j k e f hjk he hf g' hg' hg2
      rcases snoc_cases he with ⟨_, he'⟩ | ⟨rfl, rfl⟩
      · rcases snoc_cases hf with ⟨_, hf'⟩ | ⟨rfl, rfl⟩
        · exact hl.sep j k e f hjk he' hf' g' hg' hg2
        · exact (hV g' hg2).2 j e he' hg'
      · rcases snoc_cases hf with ⟨_, hf'⟩ | ⟨rfl, rfl⟩
        · exact (hV g' hg').2 k f hf' hg2
        · exact hjk rfl
    · intro j e he
      rcases snoc_cases he with ⟨_, he'⟩ | ⟨_, rfl⟩
      · exact hl.num j e he'
      · simp only; omega
    · intro j e he
      rcases snoc_cases he with ⟨_, he'⟩ | ⟨_, rfl⟩
      · exact hl.len j e he'
      · simp only; omega
  · refine H.bel.trans (hu.below (fun x hx => ?_) H.bel.size)
    rcases List.mem_cons.1 hx with rfl | hm
    · exact H.book.base
    · exact (H.book.row.lt x (by simpa using hm)).1
  · intro j e he
    rcases snoc_cases he with ⟨_, he'⟩ | ⟨_, rfl⟩
    · exact H.far j e he'
    · intro hh
      exact (hV ga hh).1 rfl
theorem St.fresh {w0 wx : World} {p q ga gb K n nb l : Nat} {v : Value} {E : List Ent} {s r : Slots} (H : St w0 wx p q ga gb K n nb v E s r) (hl : wx.heap.size ≤ l) : l ≠ ga ∧ ∀ (j : Nat) (e : Ent), E[j]? = some e → e.v.ownBlock ≠ some l := by
  refine ⟨by have := H.ref.lay.lt.2.1; omega, fun j e he hh => ?_⟩
  obtain ⟨ys, ho, -⟩ := H.lists.own j e he
  have := (ho.lt l hh).2
  omega
end Go.Proofs.YtkogmmldkpepaaaDoor
