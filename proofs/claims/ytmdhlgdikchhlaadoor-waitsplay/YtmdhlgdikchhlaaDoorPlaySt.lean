/- What is carried through 'WaitsPlay': both queues, the book, and its lists. -/
import Derived.Test.YtmdhlgdikchhlaaDoorKRest
import Derived.Test.YtmdhlgdikchhlaaDoorRArgs
import Derived.Test.YtmdhlgdikchhlaaDoorApart
namespace Go.Proofs.YtmdhlgdikchhlaaDoor
open Go Go.RowKit
set_option maxRecDepth 100000
set_option linter.unusedVariables false
theorem head_ne {w : World} {a b : Nat} {x y : Array Value} {t t' : TypeId} {f f' : Nat × Nat} (h : w.heap[a]? = some (.cells x t f)) (k : w.heap[b]? = some (.cells y t' f')) (ht : t ≠ t') : a ≠ b := by
  rintro rfl
  rw [h] at k
  simp only [Option.some.injEq, Obj.cells.injEq] at k
  exact ht k.2.1
theorem own_kind {w : World} {B g : Nat} {v : Value} {n : Nat} {xs : List Value} {t : TypeId} {s : Nat} (h : w.ownsRow B t s v n xs) (hv : v.ownBlock = some g) : ∃ cur, w.heap[g]? = some (.cells cur t (0, 0)) := by
  rcases h.2 with ⟨rfl, _⟩ | ⟨g', c, cur, rfl, _, hh, _⟩
  · simp [Value.ownBlock] at hv
  · obtain rfl : g' = g := by simpa [Value.ownBlock] using hv
    exact ⟨cur, hh⟩
theorem Qu.keep {B : Nat} {w w' : World} {p : Nat} {xs : List (Int × Int)} (h : Qu B w p xs) (hk : ∀ (k : Nat) (cs : Array Value) (t : TypeId), w.heap[k]? = some (.cells cs t (0, 0)) → t = 54 ∨ t = 56 → w'.heap[k]? = w.heap[k]?) : Qu B w' p xs := by
  obtain ⟨bs, h⟩ := h
  exact ⟨bs, h.keep (hk p _ _ h.head (Or.inr rfl)) fun b hb => by
    obtain ⟨cs, e⟩ := h.ch.mem hb
    exact hk b cs _ e (Or.inl rfl)⟩
theorem Lists.keep {B : Nat} {w w' : World} {E : List Ent} {i : Nat} (h : Lists B w E i) (hk : ∀ (j : Nat) (e : Ent), E[j]? = some e → ∀ ys, w.ownsRow B 3 1 e.v e.len ys → ∀ g, e.v.ownBlock = some g → w'.heap[g]? = w.heap[g]?) : Lists B w' E i :=
  ⟨fun j e he => by
    obtain ⟨ys, ho, hy⟩ := h.own j e he
    exact ⟨ys, owns_of ho (hk j e he ys ho), hy⟩, h.sep, h.num, h.len⟩
theorem Bk.start {w : World} {B : Nat} (hB : B ≤ w.heap.size) : Bk B (w.alloc (.cells (bk 0 (.slice none 0 0)) 37)) w.heap.size 0 (.slice none 0 0) [] :=
  ⟨alloc_at w _, World.ownsRow_nil _ _ _ _, fun H h => by simp [Value.ownBlock] at h, hB, by simp, by omega, fun j e he => by simp at he⟩
theorem Bk.keep {B : Nat} {w w' : World} {K : Nat} {n : Int} {v : Value} {E : List Ent} (h : Bk B w K n v E) (hK : w'.heap[K]? = w.heap[K]?) (hr : ∀ g, v.ownBlock = some g → w'.heap[g]? = w.heap[g]?) : Bk B w' K n v E :=
  ⟨hK.trans h.head, owns_of h.row hr, h.ne, h.base, h.few, h.small, h.lng⟩
structure PS (B : Nat) (w wx : World) (p q K nb : Nat) (v : Value) (E : List Ent) (xs ys : List (Int × Int)) : Prop where
  que : Qu B wx p xs
  ref : KR B wx q ys
  book : Bk B wx K nb v E
  lists : Lists B wx E 0
  far : Far B w wx
  many : E.length = nb
theorem PS.below {B : Nat} {w wx w' : World} {p q K nb : Nat} {v : Value} {E : List Ent} {xs ys : List (Int × Int)} (H : PS B w wx p q K nb v E xs ys) (hb : Below wx.heap.size wx w') : PS B w w' p q K nb v E xs ys :=
  ⟨H.que.below hb, H.ref.below hb, H.book.keep (hb.block K (at_lt H.book.head)) (fun g hg => hb.block g (H.book.row.lt g hg).2), H.lists.keep (fun j e he ys ho g hg => hb.block g (ho.lt g hg).2), H.far.low hb, H.many⟩
theorem PS.setQ {B : Nat} {w wx w' : World} {p q K nb : Nat} {v : Value} {E : List Ent} {xs ys zs : List (Int × Int)} (H : PS B w wx p q K nb v E xs ys) (hm : Ln B wx w') (hq : Qu B w' p zs) : PS B w w' p q K nb v E zs ys := by
  obtain ⟨u, hU⟩ := H.ref
  refine ⟨hq, ⟨u, hU.keep (hm.oth _ _ _ _ hU.head (by decide)) fun g hg => ?_⟩, H.book.keep (hm.oth _ _ _ _ H.book.head (by decide)) (fun g hg => ?_), H.lists.keep (fun j e he ys ho g hg => ?_), H.far.ln hm, H.many⟩
  · obtain ⟨cur, hc⟩ := hU.own.kind hg
    exact hm.oth _ _ _ _ hc (by decide)
  · obtain ⟨cur, hc⟩ := own_kind H.book.row hg
    exact hm.oth _ _ _ _ hc (by decide)
  · obtain ⟨cur, hc⟩ := own_kind ho hg
    exact hm.oth _ _ _ _ hc (by decide)
theorem PS.setK {B : Nat} {w wx w' : World} {p q K nb : Nat} {v : Value} {E : List Ent} {xs ys zs : List (Int × Int)} (H : PS B w wx p q K nb v E xs ys) (hb : Buts [q] wx w') (hk : KR B w' q zs) : PS B w w' p q K nb v E xs zs := by
  obtain ⟨u, hU⟩ := H.ref
  refine ⟨H.que.keep fun k cs t hc ht => hb.block k (at_lt hc) ?_, hk, H.book.keep (hb.block K (at_lt H.book.head) (by simp; exact head_ne H.book.head hU.head (by decide))) (fun g hg => hb.block g (H.book.row.lt g hg).2 (by simp; exact block_ne H.book.row hg hU.head (by decide))), H.lists.keep (fun j e he ys ho g hg => hb.block g (ho.lt g hg).2 (by simp; exact block_ne ho hg hU.head (by decide))), ⟨H.far.low'.trans (hb.below (by simp; exact hU.low) H.far.le), Nat.le_trans H.far.le hb.size⟩, H.many⟩
  simp only [List.mem_singleton]
  rcases ht with rfl | rfl
  · exact head_ne hc hU.head (by decide)
  · exact head_ne hc hU.head (by decide)
theorem snoc_cases {E : List Ent} {x e : Ent} {j : Nat} (h : (E ++ [x])[j]? = some e) : (j < E.length ∧ E[j]? = some e) ∨ (j = E.length ∧ e = x) := by
  rcases Nat.lt_or_ge j E.length with hj | hj
  · rw [List.getElem?_append_left hj] at h
    exact Or.inl ⟨hj, h⟩
  · rw [List.getElem?_append_right hj] at h
    rcases hk : j - E.length with _ | k
    · rw [hk] at h
      simp only [List.getElem?_cons_zero, Option.some.injEq] at h
      exact Or.inr ⟨by omega, h.symm⟩
    · rw [hk] at h
      simp at h
/-- a list that is told is none of those that are kept -/
def Fresh (E : List Ent) (x : Value) : Prop := ∀ (j : Nat) (e : Ent), E[j]? = some e → ∀ g, e.v.ownBlock = some g → x.ownBlock ≠ some g
theorem PS.fresh {B : Nat} {w wx w' : World} {p q K nb : Nat} {v x : Value} {E : List Ent} {xs ys : List (Int × Int)} {n : Nat} {zs : List Value} (H : PS B w wx p q K nb v E xs ys) (ho : w'.ownsRow wx.heap.size 3 1 x n zs) : Fresh E x := by
  intro j e he g hg hx
  obtain ⟨ys, h1, _⟩ := H.lists.own j e he
  have h2 := (h1.lt g hg).2
  have h3 := (ho.lt g hx).1
  omega
theorem PS.put {B : Nat} {w wx w' : World} {p q K nb : Nat} {v v' : Value} {E : List Ent} {xs ys : List (Int × Int)} {sp : Option Addr} {m cap : Nat} {zs : List Value} (H : PS B w wx p q K nb v E xs ys) (hn : nb + 1 ≤ 1000) (hm : m ≤ 1024)
    (ho : wx.ownsRow B 3 1 (.slice sp m cap) m zs) (hf : Fresh E (.slice sp m cap))
    (hk : Bk B w' K ((nb : Int) + 1) v' (E ++ [⟨.slice sp m cap, m, .slice none 0 0, (nb : Int) + 1⟩])) (hu : Buts (K :: v.ownBlock.toList) wx w') :
    PS B w w' p q K (nb + 1) v' (E ++ [⟨.slice sp m cap, m, .slice none 0 0, (nb : Int) + 1⟩]) xs ys := by
  obtain ⟨u, hU⟩ := H.ref
  have hKs := H.book.base
  have hmem : ∀ {x : Nat}, x ∈ K :: v.ownBlock.toList → B ≤ x := by
    intro x hx
    rcases List.mem_cons.1 hx with e | hx
    · omega
    · exact (H.book.row.lt x (by simpa using hx)).1
  have hne : ∀ {x : Nat} {cs : Array Value} {t : TypeId}, wx.heap[x]? = some (.cells cs t (0, 0)) → 37 ≠ t → 72 ≠ t → x ∉ K :: v.ownBlock.toList := by
    intro x cs t hx h1 h2 hm
    rcases List.mem_cons.1 hm with e | hm
    · exact head_ne H.book.head hx h1 e.symm
    · exact block_ne H.book.row (by simpa using hm) hx h2 rfl
  have hrow : ∀ (B m : Nat) (x : Value) (ys : List Value), wx.ownsRow B 3 1 x m ys → ∀ g', x.ownBlock = some g' → g' ∉ K :: v.ownBlock.toList := by
    intro B m x ys hx g' hg' hm
    rcases List.mem_cons.1 hm with e | hm
    · exact block_ne hx hg' H.book.head (by decide) e
    · exact own_ne hx hg' H.book.row (by simpa using hm) (by decide) rfl
  have hE := H.many
  refine ⟨H.que.keep fun k cs t hc ht => hu.block k (at_lt hc) (by rcases ht with rfl | rfl <;> exact hne hc (by decide) (by decide)), ⟨u, hU.keep (hu.block q (at_lt hU.head) (hne hU.head (by decide) (by decide))) fun g hg => ?_⟩, ?_, ?_, ⟨H.far.low'.trans (hu.below (fun x hx => hmem hx) H.far.le), Nat.le_trans H.far.le hu.size⟩, by rw [List.length_append, List.length_singleton, hE]⟩
  · obtain ⟨cur, hc⟩ := hU.own.kind hg
    exact hu.block g (at_lt hc) (hne hc (by decide) (by decide))
  · have e : ((nb + 1 : Nat) : Int) = (nb : Int) + 1 := by omega
    rw [e]; exact hk
  · have hl := H.lists.keep (w' := w') (fun j e he ys hx g' hg' => hu.block g' (hx.lt g' hg').2 (hrow _ _ _ _ hx g' hg'))
    refine ⟨?_, ?_, ?_, ?_⟩
    · intro j e he
      rcases snoc_cases he with ⟨_, he'⟩ | ⟨_, rfl⟩
      · obtain ⟨ys, h1, h2⟩ := hl.own j e he'
        exact ⟨ys, h1, h2⟩
      · exact ⟨_, owns_of ho (fun g' hg' => hu.block g' (ho.lt g' hg').2 (hrow _ _ _ _ ho g' hg')), fun h => by omega⟩
    · intro j k e f hjk he hf' g' hg' hg2
      rcases snoc_cases he with ⟨_, he'⟩ | ⟨rfl, rfl⟩
      · rcases snoc_cases hf' with ⟨_, hf2⟩ | ⟨rfl, rfl⟩
        · exact hl.sep j k e f hjk he' hf2 g' hg' hg2
        · exact hf j e he' g' hg' hg2
      · rcases snoc_cases hf' with ⟨_, hf2⟩ | ⟨rfl, rfl⟩
        · exact hf k f hf2 g' hg2 hg'
        · exact hjk rfl
    · intro j e he
      rcases snoc_cases he with ⟨_, he'⟩ | ⟨_, rfl⟩
      · exact hl.num j e he'
      · simp only; omega
    · intro j e he
      rcases snoc_cases he with ⟨_, he'⟩ | ⟨_, rfl⟩
      · exact hl.len j e he'
      · simp only; omega
end Go.Proofs.YtmdhlgdikchhlaaDoor
