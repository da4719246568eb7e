/- What is carried through 'QueuesPlay': both queues, the book, and its lists. -/
import Derived.Test.YtpbmnifnmnbojaaDoorRef
import Derived.Test.YtpbmnifnmnbojaaDoorApart
namespace Go.Proofs.YtpbmnifnmnbojaaDoor
open Go Go.RowKit
set_option maxRecDepth 100000
set_option linter.unusedVariables false
theorem head_ne {w : World} {a b : Nat} {x y : Array Value} {t t' : TypeId} {f f' : Nat × Nat} (h : w.heap[a]? = some (.cells x t f)) (k : w.heap[b]? = some (.cells y t' f')) (ht : t ≠ t') : a ≠ b := by
  rintro rfl
  rw [h] at k
  simp only [Option.some.injEq, Obj.cells.injEq] at k
  exact ht k.2.1
theorem Lists.keep {B : Nat} {w w' : World} {E : List Ent} {i : Nat} (h : Lists B w E i) (hk : ∀ (j : Nat) (e : Ent), E[j]? = some e → ∀ ys, w.ownsRow B 40 1 e.v e.len ys → ∀ g, e.v.ownBlock = some g → w'.heap[g]? = w.heap[g]?) : Lists B w' E i :=
  ⟨fun j e he => by
    obtain ⟨ys, ho, hy⟩ := h.own j e he
    exact ⟨ys, owns_of ho (hk j e he ys ho), hy⟩, h.sep, h.num, h.len⟩
theorem Bk.start {w : World} {B : Nat} (hB : B ≤ w.heap.size) : Bk B (w.alloc (.cells (bk 0 (.slice none 0 0)) 39)) w.heap.size 0 (.slice none 0 0) [] :=
  ⟨alloc_at w _, World.ownsRow_nil _ _ _ _, fun H h => by simp [Value.ownBlock] at h, hB, by simp, by omega, fun j e he => by simp at he⟩
theorem Que.pt {w : World} {p n : Nat} {xs : List Int} (h : Que w p n xs) : ∃ cs, w.heap[p]? = some (.cells cs 56 (0, 0)) := by
  obtain ⟨f, ys, _, hr, _⟩ := h.raw
  exact ⟨_, hr.head⟩
structure St (w0 wx : World) (p q K n nb : Nat) (v u : Value) (E : List Ent) (xs ys : List Int) : Prop where
  ring : Que wx p n xs
  ref : Ref w0.heap.size wx q n u ys
  book : Bk w0.heap.size wx K nb v E
  lists : Lists w0.heap.size wx E 0
  bel : Below w0.heap.size w0 wx
  lop : w0.heap.size ≤ p
  farU : ∀ (j : Nat) (e : Ent), E[j]? = some e → ∀ b, u.ownBlock = some b → e.v.ownBlock ≠ some b
  many : E.length = nb
theorem St.below {w0 wx w' : World} {p q K n nb : Nat} {v u : Value} {E : List Ent} {xs ys : List Int} (H : St w0 wx p q K n nb v u E xs ys) (hb : Below wx.heap.size wx w') : St w0 w' p q K n nb v u E xs ys :=
  ⟨H.ring.below hb, H.ref.below hb, H.book.buts (l := []) (Buts.of hb) (by simp) (fun _ _ => by simp), H.lists.keep (fun j e he ys ho g hg => hb.block g (ho.lt g hg).2), H.bel.trans (hb.mono H.bel.size), H.lop, H.farU, H.many⟩
theorem St.setRing {w0 wx w' : World} {p q K n nb : Nat} {v u : Value} {E : List Ent} {xs ys zs : List Int} (H : St w0 wx p q K n nb v u E xs ys) (hb : Buts [p] wx w') (hr : Que w' p n zs) : St w0 w' p q K n nb v u E zs ys := by
  obtain ⟨cp, hp⟩ := H.ring.pt
  have mem : ∀ {x : Nat}, x ≠ p → x ∉ [p] := fun h => by simpa using h
  refine ⟨hr, H.ref.buts hb (mem (head_ne H.ref.head hp (by decide))) (fun b hbk => ?_), H.book.buts hb (mem (head_ne H.book.head hp (by decide))) (fun b hbk => mem (block_ne H.book.row hbk hp (by decide))), H.lists.keep (fun j e he ys ho b hbk => hb.block b (ho.lt b hbk).2 (mem (block_ne ho hbk hp (by decide)))), H.bel.trans (one_below hb H.lop H.bel.size), H.lop, H.farU, H.many⟩
  obtain ⟨_, _, cur, hc⟩ := H.ref.part.lt hbk
  exact mem (head_ne hc hp (by decide))
theorem St.setRef {w0 wx w' : World} {p q K n nb : Nat} {v u : Value} {E : List Ent} {xs ys zs : List Int} (H : St w0 wx p q K n nb v u E xs ys) (hn : Next w0.heap.size wx w' q n u zs) : ∃ u', St w0 w' p q K n nb v u' E xs zs := by
  obtain ⟨u', hr, hb, hu⟩ := hn
  obtain ⟨cp, hp⟩ := H.ring.pt
  have hmem : ∀ {x : Nat}, x ∈ q :: u.ownBlock.toList → x = q ∨ (u.ownBlock = some x ∧ ∃ cur, wx.heap[x]? = some (.cells cur 40 (0, 0))) := by
    intro x hx
    rcases List.mem_cons.1 hx with e | hx
    · exact Or.inl e
    · have hx' : u.ownBlock = some x := by simpa using hx
      exact Or.inr ⟨hx', (H.ref.part.lt hx').2.2⟩
  have hpn : p ∉ q :: u.ownBlock.toList := fun hm => by
    rcases hmem hm with e | ⟨_, cur, hc⟩
    · exact head_ne hp H.ref.head (by decide) e
    · exact head_ne hp hc (by decide) rfl
  have hKn : K ∉ q :: u.ownBlock.toList := fun hm => by
    rcases hmem hm with e | ⟨_, cur, hc⟩
    · exact head_ne H.book.head H.ref.head (by decide) e
    · exact head_ne H.book.head hc (by decide) rfl
  refine ⟨u', H.ring.buts hb hpn, hr, H.book.buts hb hKn (fun b hbk hm => ?_), H.lists.keep (fun j e he ys ho b hbk => hb.block b (ho.lt b hbk).2 (fun hm => ?_)), H.bel.trans (hb.below (fun x hx => ?_) H.bel.size), H.lop, fun j e he b hbu hbe => ?_, H.many⟩
  · rcases hmem hm with e | ⟨_, cur, hc⟩
    · exact block_ne H.book.row hbk H.ref.head (by decide) e
    · exact block_ne H.book.row hbk hc (by decide) rfl
  · rcases hmem hm with e2 | ⟨hx, _⟩
    · exact block_ne ho hbk H.ref.head (by decide) e2
    · exact H.farU j e he b hx hbk
  · rcases hmem hx with e | ⟨hx', _⟩
    · rw [e]; exact H.ref.low
    · exact (H.ref.part.lt hx').1
  · rcases hu b hbu with h | h
    · exact H.farU j e he b h hbe
    · obtain ⟨ys, ho, _⟩ := H.lists.own j e he
      have := (ho.lt b hbe).2
      omega
theorem snoc_cases {E : List Ent} {x e : Ent} {j : Nat} (h : (E ++ [x])[j]? = some e) : (j < E.length ∧ E[j]? = some e) ∨ (j = E.length ∧ e = x) := by
  rcases Nat.lt_or_ge j E.length with hj | hj
  · rw [List.getElem?_append_left hj] at h
    exact Or.inl ⟨hj, h⟩
  · rw [List.getElem?_append_right hj] at h
    rcases hk : j - E.length with _ | k
    · rw [hk] at h
      simp only [List.getElem?_cons_zero, Option.some.injEq] at h
      exact Or.inr ⟨by omega, h.symm⟩
    · rw [hk] at h
      simp at h
theorem St.put {w0 wx w' : World} {p q K n nb l m : Nat} {v v' u : Value} {E : List Ent} {xs ys zs : List Int} (H : St w0 wx p q K n nb v u E xs ys) (hn : nb + 1 ≤ 1000) (hm : m ≤ 64)
    (ho : wx.ownsRow w0.heap.size 40 1 (.slice (some ⟨l, 0, none⟩) m m) m (zs.map (Value.int .u32))) (hlu : ∀ b, u.ownBlock = some b → b ≠ l) (hsep : ∀ (j : Nat) (e : Ent), E[j]? = some e → e.v.ownBlock ≠ some l)
    (hk : Bk w0.heap.size w' K ((nb : Int) + 1) v' (E ++ [⟨.slice (some ⟨l, 0, none⟩) m m, m, .slice none 0 0, (nb : Int) + 1⟩])) (hu : Buts (K :: v.ownBlock.toList) wx w') :
    St w0 w' p q K n (nb + 1) v' u (E ++ [⟨.slice (some ⟨l, 0, none⟩) m m, m, .slice none 0 0, (nb : Int) + 1⟩]) xs ys := by
  obtain ⟨cp, hp⟩ := H.ring.pt
  have hne : ∀ {x : Nat} {cs : Array Value} {t : TypeId}, wx.heap[x]? = some (.cells cs t (0, 0)) → 39 ≠ t → 66 ≠ t → x ∉ K :: v.ownBlock.toList := by
    intro x cs t hx h1 h2 hm
    rcases List.mem_cons.1 hm with e | hm
    · exact head_ne H.book.head hx h1 e.symm
    · exact block_ne H.book.row (by simpa using hm) hx h2 rfl
  have hrow : ∀ (B m : Nat) (x : Value) (ys : List Value), wx.ownsRow B 40 1 x m ys → ∀ g', x.ownBlock = some g' → g' ∉ K :: v.ownBlock.toList := by
    intro B m x ys hx g' hg' hm
    rcases List.mem_cons.1 hm with e | hm
    · exact block_ne hx hg' H.book.head (by decide) e
    · exact own_ne hx hg' H.book.row (by simpa using hm) (by decide) rfl
  have hE := H.many
  refine ⟨H.ring.buts hu (hne hp (by decide) (by decide)), H.ref.buts hu (hne H.ref.head (by decide) (by decide)) (fun b hb => by obtain ⟨_, _, cur, hc⟩ := H.ref.part.lt hb; exact hne hc (by decide) (by decide)), ?_, ?_, ?_, H.lop, ?_, by rw [List.length_append, List.length_singleton, hE]⟩
  · have e : ((nb + 1 : Nat) : Int) = (nb : Int) + 1 := by omega
    rw [e]; exact hk
  · have hl := H.lists.keep (w' := w') (fun j e he ys hx g' hg' => hu.block g' (hx.lt g' hg').2 (hrow _ _ _ _ hx g' hg'))
    refine ⟨?_, ?_, ?_, ?_⟩
    · intro j e he
      rcases snoc_cases he with ⟨_, he'⟩ | ⟨_, rfl⟩
      · obtain ⟨ys, h1, h2⟩ := hl.own j e he'
        exact ⟨ys, h1, h2⟩
      · exact ⟨_, owns_of ho (fun g' hg' => hu.block g' (ho.lt g' hg').2 (hrow _ _ _ _ ho g' hg')), fun h => by omega⟩
    · intro j k e f hjk he hf g' hg' hg2
      rcases snoc_cases he with ⟨_, he'⟩ | ⟨rfl, rfl⟩
      · rcases snoc_cases hf with ⟨_, hf'⟩ | ⟨rfl, rfl⟩
        · exact hl.sep j k e f hjk he' hf' g' hg' hg2
        · have : l = g' := by simpa [Value.ownBlock] using hg2
          rw [← this] at hg'
          exact hsep j e he' hg'
      · rcases snoc_cases hf with ⟨_, hf'⟩ | ⟨rfl, rfl⟩
        · have : l = g' := by simpa [Value.ownBlock] using hg'
          rw [← this] at hg2
          exact hsep k f hf' hg2
        · exact hjk rfl
    · intro j e he
      rcases snoc_cases he with ⟨_, he'⟩ | ⟨_, rfl⟩
      · exact hl.num j e he'
      · simp only; omega
    · intro j e he
      rcases snoc_cases he with ⟨_, he'⟩ | ⟨_, rfl⟩
      · exact hl.len j e he'
      · simp only; omega
  · refine H.bel.trans (hu.below (fun x hx => ?_) H.bel.size)
    rcases List.mem_cons.1 hx with rfl | hm
    · exact H.book.base
    · exact (H.book.row.lt x (by simpa using hm)).1
  · intro j e he b hb
    rcases snoc_cases he with ⟨_, he'⟩ | ⟨_, rfl⟩
    · exact H.farU j e he' b hb
    · intro hh
      have : l = b := by simpa [Value.ownBlock] using hh
      exact hlu b hb this.symm
theorem St.fresh {w0 wx : World} {p q K n nb l : Nat} {v u : Value} {E : List Ent} {xs ys : List Int} (H : St w0 wx p q K n nb v u E xs ys) (hl : wx.heap.size ≤ l) : (∀ b, u.ownBlock = some b → b ≠ l) ∧ ∀ (j : Nat) (e : Ent), E[j]? = some e → e.v.ownBlock ≠ some l := by
  refine ⟨fun b hb => by have := (H.ref.part.lt hb).2.1; omega, fun j e he hh => ?_⟩
  obtain ⟨ys, ho, -⟩ := H.lists.own j e he
  have := (ho.lt l hh).2
  omega
end Go.Proofs.YtpbmnifnmnbojaaDoor
