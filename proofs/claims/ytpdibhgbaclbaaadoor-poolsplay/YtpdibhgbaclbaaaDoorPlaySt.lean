/- What is carried through 'PoolsPlay': both pools, the book, and its lists. -/
import Derived.Test.YtpdibhgbaclbaaaDoorRef
import Derived.Test.YtpdibhgbaclbaaaDoorApart
namespace Go.Proofs.YtpdibhgbaclbaaaDoor
open Go Go.RowKit
set_option maxRecDepth 100000
set_option linter.unusedVariables false
theorem head_ne {w : World} {a b : Nat} {x y : Array Value} {t t' : TypeId} {f f' : Nat × Nat} (h : w.heap[a]? = some (.cells x t f)) (k : w.heap[b]? = some (.cells y t' f')) (ht : t ≠ t') : a ≠ b := by
  rintro rfl
  rw [h] at k
  simp only [Option.some.injEq, Obj.cells.injEq] at k
  exact ht k.2.1
theorem Buts.ofBut {p : Nat} {w w' : World} (h : But p w w') : Buts [p] w w' := ⟨h.os, h.tape, h.output, h.size, fun k hk hg => h.block k hk (by simpa using hg)⟩
theorem Lists.keep {B : Nat} {w w' : World} {E : List Ent} {i : Nat} (h : Lists B w E i) (hk : ∀ (j : Nat) (e : Ent), E[j]? = some e → ∀ ys, w.ownsRow B 40 1 e.v e.len ys → ∀ g, e.v.ownBlock = some g → w'.heap[g]? = w.heap[g]?) : Lists B w' E i :=
  ⟨fun j e he => by
    obtain ⟨ys, ho, hy⟩ := h.own j e he
    exact ⟨ys, owns_of ho (hk j e he ys ho), hy⟩, h.sep, h.num, h.len⟩
theorem Bk.start {w : World} {B : Nat} (hB : B ≤ w.heap.size) : Bk B (w.alloc (.cells (bk 0 (.slice none 0 0)) 39)) w.heap.size 0 (.slice none 0 0) [] :=
  ⟨alloc_at w _, World.ownsRow_nil _ _ _ _, fun H h => by simp [Value.ownBlock] at h, hB, by simp, by omega, fun j e he => by simp at he⟩
structure St (w0 wx : World) (p q h K n nb : Nat) (v : Value) (E : List Ent) (Z T : List Int) : Prop where
  pool : Pool wx p n Z
  ref : Ref wx q h n T
  book : Bk w0.heap.size wx K nb v E
  lists : Lists w0.heap.size wx E 0
  bel : Below w0.heap.size w0 wx
  lop : w0.heap.size ≤ p
  loh : w0.heap.size ≤ h
  far : ∀ (j : Nat) (e : Ent), E[j]? = some e → e.v.ownBlock ≠ some h
  many : E.length = nb
theorem St.below {w0 wx w' : World} {p q h K n nb : Nat} {v : Value} {E : List Ent} {Z T : List Int} (H : St w0 wx p q h K n nb v E Z T) (hb : Below wx.heap.size wx w') : St w0 w' p q h K n nb v E Z T :=
  ⟨H.pool.below hb, H.ref.below hb, H.book.buts (l := []) (Buts.of hb) (by simp) (fun _ _ => by simp), H.lists.keep (fun j e he ys ho g hg => hb.block g (ho.lt g hg).2), H.bel.trans (hb.mono H.bel.size), H.lop, H.loh, H.far, H.many⟩
theorem St.setPool {w0 wx w' : World} {p q h K n nb : Nat} {v : Value} {E : List Ent} {Z T Z' : List Int} (H : St w0 wx p q h K n nb v E Z T) (hb : But p wx w') (hp : Pool w' p n Z') : St w0 w' p q h K n nb v E Z' T :=
  ⟨hp, H.ref.but hb (head_ne H.ref.head H.pool.head (by decide)) (head_ne H.ref.row H.pool.head (by decide)),
    H.book.buts (Buts.ofBut hb) (by simpa using head_ne H.book.head H.pool.head (by decide)) (fun g hg => by simpa using block_ne H.book.row hg H.pool.head (by decide)),
    H.lists.keep (fun j e he ys ho g hg => hb.block g (ho.lt g hg).2 (block_ne ho hg H.pool.head (by decide))), H.bel.trans (hb.below H.lop H.bel.size), H.lop, H.loh, H.far, H.many⟩
theorem St.setRef {w0 wx w' : World} {p q h K n nb : Nat} {v : Value} {E : List Ent} {Z T T' : List Int} (H : St w0 wx p q h K n nb v E Z T) (hb : But h wx w') (hr : Ref w' q h n T') : St w0 w' p q h K n nb v E Z T' :=
  ⟨H.pool.but hb (head_ne H.pool.head H.ref.row (by decide)), hr,
    H.book.buts (Buts.ofBut hb) (by simpa using head_ne H.book.head H.ref.row (by decide)) (fun g hg => by simpa using block_ne H.book.row hg H.ref.row (by decide)),
    H.lists.keep (fun j e he ys ho g hg => hb.block g (ho.lt g hg).2 (fun e2 => H.far j e he (by rw [hg, e2]))), H.bel.trans (hb.below H.loh H.bel.size), H.lop, H.loh, H.far, H.many⟩
theorem snoc_cases {E : List Ent} {x e : Ent} {j : Nat} (h : (E ++ [x])[j]? = some e) : (j < E.length ∧ E[j]? = some e) ∨ (j = E.length ∧ e = x) := by
  rcases Nat.lt_or_ge j E.length with hj | hj
  · rw [List.getElem?_append_left hj] at h
    exact Or.inl ⟨hj, h⟩
  · rw [List.getElem?_append_right hj] at h
    rcases hk : j - E.length with _ | k
    · rw [hk] at h
      simp only [List.getElem?_cons_zero, Option.some.injEq] at h
      exact Or.inr ⟨by omega, h.symm⟩
    · rw [hk] at h
      simp at h
theorem St.put {w0 wx w' : World} {p q h K n nb g cap : Nat} {v v' : Value} {E : List Ent} {Z T : List Int} (H : St w0 wx p q h K n nb v E Z T) (hn : nb + 1 ≤ 1000)
    (ho : wx.ownsRow w0.heap.size 40 1 (.slice (some ⟨g, 0, none⟩) n cap) n (wrd Z)) (hgh : g ≠ h) (hsep : ∀ (j : Nat) (e : Ent), E[j]? = some e → e.v.ownBlock ≠ some g)
    (hk : Bk w0.heap.size w' K ((nb : Int) + 1) v' (E ++ [⟨.slice (some ⟨g, 0, none⟩) n cap, n, .slice none 0 0, (nb : Int) + 1⟩])) (hu : Buts (K :: v.ownBlock.toList) wx w') :
    St w0 w' p q h K n (nb + 1) v' (E ++ [⟨.slice (some ⟨g, 0, none⟩) n cap, n, .slice none 0 0, (nb : Int) + 1⟩]) Z T := by
  have hpn : p ∉ K :: v.ownBlock.toList := by
    intro hm
    rcases List.mem_cons.1 hm with e | hm
    · exact head_ne H.pool.head H.book.head (by decide) e
    · exact block_ne H.book.row (by simpa using hm) H.pool.head (by decide) rfl
  have hqn : q ∉ K :: v.ownBlock.toList := by
    intro hm
    rcases List.mem_cons.1 hm with e | hm
    · exact head_ne H.ref.head H.book.head (by decide) e
    · exact block_ne H.book.row (by simpa using hm) H.ref.head (by decide) rfl
  have hhn : h ∉ K :: v.ownBlock.toList := by
    intro hm
    rcases List.mem_cons.1 hm with e | hm
    · exact head_ne H.ref.row H.book.head (by decide) e
    · exact block_ne H.book.row (by simpa using hm) H.ref.row (by decide) rfl
  have hrow : ∀ (B m : Nat) (x : Value) (ys : List Value), wx.ownsRow B 40 1 x m ys → ∀ g', x.ownBlock = some g' → g' ∉ K :: v.ownBlock.toList := by
    intro B m x ys hx g' hg' hm
    rcases List.mem_cons.1 hm with e | hm
    · exact block_ne hx hg' H.book.head (by decide) e
    · exact own_ne hx hg' H.book.row (by simpa using hm) (by decide) rfl
  have hE := H.many
  have hhi := H.pool.hi
  refine ⟨H.pool.same (hu.block p H.pool.lt hpn), ⟨(hu.block q (at_lt H.ref.head) hqn).trans H.ref.head, (hu.block h H.ref.row.lt hhn).trans H.ref.row, H.ref.len, H.ref.lo, H.ref.hi, H.ref.wf⟩, ?_, ?_, ?_, H.lop, H.loh, ?_, by rw [List.length_append, List.length_singleton, hE]⟩
  · have e : ((nb + 1 : Nat) : Int) = (nb : Int) + 1 := by omega
    rw [e]; exact hk
  · have hl := H.lists.keep (w' := w') (fun j e he ys hx g' hg' => hu.block g' (hx.lt g' hg').2 (hrow _ _ _ _ hx g' hg'))
    refine ⟨?_, ?_, ?_, ?_⟩
    · intro j e he
      rcases snoc_cases he with ⟨_, he'⟩ | ⟨_, rfl⟩
      · obtain ⟨ys, h1, h2⟩ := hl.own j e he'
        exact ⟨ys, h1, h2⟩
      · exact ⟨_, owns_of ho (fun g' hg' => hu.block g' (ho.lt g' hg').2 (hrow _ _ _ _ ho g' hg')), fun h => by omega⟩
    · intro j k e f hjk he hf g' hg' hg2
      rcases snoc_cases he with ⟨_, he'⟩ | ⟨rfl, rfl⟩
      · rcases snoc_cases hf with ⟨_, hf'⟩ | ⟨rfl, rfl⟩
        · exact hl.sep j k e f hjk he' hf' g' hg' hg2
        · have : g = g' := by simpa [Value.ownBlock] using hg2
          rw [← this] at hg'
          exact hsep j e he' hg'
      · rcases snoc_cases hf with ⟨_, hf'⟩ | ⟨rfl, rfl⟩
        · have : g = g' := by simpa [Value.ownBlock] using hg'
          rw [← this] at hg2
          exact hsep k f hf' hg2
        · exact hjk rfl
    · intro j e he
      rcases snoc_cases he with ⟨_, he'⟩ | ⟨_, rfl⟩
      · exact hl.num j e he'
      · simp only; omega
    · intro j e he
      rcases snoc_cases he with ⟨_, he'⟩ | ⟨_, rfl⟩
      · exact hl.len j e he'
      · simp only; omega
  · refine H.bel.trans (hu.below (fun x hx => ?_) H.bel.size)
    rcases List.mem_cons.1 hx with rfl | hm
    · exact H.book.base
    · exact (H.book.row.lt x (by simpa using hm)).1
  · intro j e he
    rcases snoc_cases he with ⟨_, he'⟩ | ⟨_, rfl⟩
    · exact H.far j e he'
    · intro hh
      have : g = h := by simpa [Value.ownBlock] using hh
      exact hgh this
theorem St.fresh {w0 wx : World} {p q h K n nb g : Nat} {v : Value} {E : List Ent} {Z T : List Int} (H : St w0 wx p q h K n nb v E Z T) (hg : wx.heap.size ≤ g) : g ≠ h ∧ ∀ (j : Nat) (e : Ent), E[j]? = some e → e.v.ownBlock ≠ some g := by
  refine ⟨by have := H.ref.row.lt; omega, fun j e he hh => ?_⟩
  obtain ⟨ys, ho, -⟩ := H.lists.own j e he
  have := (ho.lt g hh).2
  omega
end Go.Proofs.YtpdibhgbaclbaaaDoor
