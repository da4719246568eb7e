/- What is carried through 'ObjectsPlay': the thing, the document's own one, the book, and its lists. -/
import Derived.Test.YteicnekoogmmmaaGreatDoorSameT
import Derived.Test.YteicnekoogmmmaaGreatDoorKSee
import Derived.Test.YteicnekoogmmmaaGreatDoorBookAll
namespace Go.Proofs.YteicnekoogmmmaaGreatDoor
open Go Go.RowKit
set_option maxRecDepth 100000
set_option linter.unusedVariables false
theorem Lists.keep {B : Nat} {w w' : World} {E : List Ent} {i : Nat} (h : Lists B w E i) (hk : ∀ (j : Nat) (e : Ent), E[j]? = some e → ∀ ys, w.ownsRow B 23 1 e.v e.len ys → ∀ g, e.v.ownBlock = some g → w'.heap[g]? = w.heap[g]?) : Lists B w' E i :=
  ⟨fun j e he => by
    obtain ⟨ys, ho, hy⟩ := h.own j e he
    exact ⟨ys, owns_of ho (hk j e he ys ho), hy⟩, h.sep, h.num, h.len⟩
theorem Bk.start {w : World} {B : Nat} (hB : B ≤ w.heap.size) : Bk B (w.alloc (.cells (bk 0 (.slice none 0 0)) 50)) w.heap.size 0 (.slice none 0 0) [] :=
  ⟨alloc_at w _, World.ownsRow_nil _ _ _ _, fun H h => by simp [Value.ownBlock] at h, hB, by simp, by omega, fun j e he => by simp at he⟩
structure St (w0 wx : World) (s p f g q z K nb : Nat) (v u vo : Value) (E : List Ent) (T R : Sx) : Prop where
  thing : KT wx p f g T
  ref : KR s wx q z u vo R
  book : Bk s wx K nb v E
  lists : Lists s wx E 0
  bel : Below w0.heap.size w0 wx
  lo : w0.heap.size ≤ f ∧ w0.heap.size ≤ g ∧ w0.heap.size ≤ q ∧ w0.heap.size ≤ z
  mid : p < q ∧ f < q ∧ g < q ∧ p < z ∧ f < z ∧ g < z
  many : E.length = nb
  ss : s ≤ wx.heap.size
theorem St.kb {w0 wx : World} {s p f g q z K nb : Nat} {v u vo : Value} {E : List Ent} {T R : Sx} (H : St w0 wx s p f g q z K nb v u vo E T R) : s ≤ K := H.book.base
theorem St.below {w0 wx w' : World} {s p f g q z K nb : Nat} {v u vo : Value} {E : List Ent} {T R : Sx} (H : St w0 wx s p f g q z K nb v u vo E T R) (hb : Below wx.heap.size wx w') : St w0 w' s p f g q z K nb v u vo E T R :=
  ⟨H.thing.below hb, H.ref.below hb, H.book.buts (l := []) (Buts.of hb) (by simp) (fun _ _ => by simp), H.lists.keep (fun j e he ys ho g hg => hb.block g (ho.lt g hg).2), H.bel.trans (hb.mono H.bel.size), H.lo, H.mid, H.many, Nat.le_trans H.ss hb.size⟩
/-- what lies below the middle, and is no part of the book, may change -/
theorem St.setThing {w0 wx w' : World} {s p f g q z K nb : Nat} {v u vo : Value} {E : List Ent} {T R T' : Sx} (H : St w0 wx s p f g q z K nb v u vo E T R) (hb : Buts [f, g] wx w') (ht : KT w' p f g T') : St w0 w' s p f g q z K nb v u vo E T' R := by
  obtain ⟨m1, m2, m3, m4, m5, m6⟩ := H.mid
  have hq := H.ref.qs
  have hz := H.ref.zs
  have hK := H.book.base
  have mem : ∀ {x : Nat}, x ≠ f → x ≠ g → x ∉ [f, g] := fun h1 h2 => by simp [h1, h2]
  refine ⟨ht, H.ref.buts hb (mem (by omega) (by omega)) (mem (by omega) (by omega)) (fun b hbk => ?_), H.book.buts hb (mem (by omega) (by omega)) (fun b hbk => ?_), H.lists.keep (fun j e he ys ho b hbk => hb.block b (ho.lt b hbk).2 ?_), H.bel.trans (hb.below (fun x hx => ?_) H.bel.size), H.lo, H.mid, H.many, Nat.le_trans H.ss hb.size⟩
  · have := (World.ownsRow.lt H.ref.row b hbk).1; exact mem (by omega) (by omega)
  · have := (World.ownsRow.lt H.book.row b hbk).1; exact mem (by omega) (by omega)
  · have := (World.ownsRow.lt ho b hbk).1; exact mem (by omega) (by omega)
  · obtain ⟨l1, l2, l3, l4⟩ := H.lo
    simp only [List.mem_cons, List.not_mem_nil, or_false] at hx
    omega
theorem St.setRef {w0 wx w' : World} {s p f g q z K nb : Nat} {v u vo : Value} {E : List Ent} {T R R' : Sx} (H : St w0 wx s p f g q z K nb v u vo E T R) (hb : Buts [q, z] wx w') (hr : ∃ u', KR s w' q z u' vo R') : ∃ u', St w0 w' s p f g q z K nb v u' vo E T R' := by
  obtain ⟨u', hr⟩ := hr
  obtain ⟨m1, m2, m3, m4, m5, m6⟩ := H.mid
  have hq := H.ref.qs
  have hz := H.ref.zs
  have hK := H.book.base
  have mem : ∀ {x : Nat}, x ≠ q → x ≠ z → x ∉ [q, z] := fun h1 h2 => by simp [h1, h2]
  refine ⟨u', H.thing.buts hb (mem (by omega) (by omega)) (mem (by omega) (by omega)) (mem (by omega) (by omega)), hr, H.book.buts hb (mem (by omega) (by omega)) (fun b hbk => ?_), H.lists.keep (fun j e he ys ho b hbk => hb.block b (ho.lt b hbk).2 ?_), H.bel.trans (hb.below (fun x hx => ?_) H.bel.size), H.lo, H.mid, H.many, Nat.le_trans H.ss hb.size⟩
  · have := (World.ownsRow.lt H.book.row b hbk).1; exact mem (by omega) (by omega)
  · have := (World.ownsRow.lt ho b hbk).1; exact mem (by omega) (by omega)
  · obtain ⟨l1, l2, l3, l4⟩ := H.lo
    simp only [List.mem_cons, List.not_mem_nil, or_false] at hx
    omega
theorem snoc_cases {E : List Ent} {x e : Ent} {j : Nat} (h : (E ++ [x])[j]? = some e) : (j < E.length ∧ E[j]? = some e) ∨ (j = E.length ∧ e = x) := by
  rcases Nat.lt_or_ge j E.length with hj | hj
  · rw [List.getElem?_append_left hj] at h
    exact Or.inl ⟨hj, h⟩
  · rw [List.getElem?_append_right hj] at h
    rcases hk : j - E.length with _ | k
    · rw [hk] at h
      simp only [List.getElem?_cons_zero, Option.some.injEq] at h
      exact Or.inr ⟨by omega, h.symm⟩
    · rw [hk] at h
      simp at h
/-- a list's row is no part of the book's own blocks -/
theorem Bk.far {s : Nat} {w : World} {K : Nat} {n : Int} {v : Value} {E : List Ent} (h : Bk s w K n v E) {B m : Nat} {y : Value} {ys : List Value} (hy : w.ownsRow B 23 1 y m ys) : ∀ b, y.ownBlock = some b → b ∉ K :: v.ownBlock.toList := by
  intro b hb hm
  rcases List.mem_cons.1 hm with e | hm
  · exact block_ne hy hb h.head (by decide) e
  · exact own_ne hy hb h.row (by simpa using hm) (by decide) rfl
theorem Lst.put {s : Nat} {w w' : World} {K : Nat} {n : Int} {v : Value} {E : List Ent} (h : Bk s w K n v E) {B : Nat} {y : Value} {xs : List Int} (hy : Lst w B y xs) (hb : Buts (K :: v.ownBlock.toList) w w') : Lst w' B y xs := hy.buts hb (h.far hy)
theorem St.put {w0 wx w' : World} {s p f g q z K nb m c : Nat} {sp : Option Addr} {v v' u vo : Value} {E : List Ent} {T R : Sx} {ys : List Int} (H : St w0 wx s p f g q z K nb v u vo E T R) (hn : nb + 1 ≤ 1000) (hm : ys.length = m) (hl : m ≤ 64)
    (ho : Lst wx s (.slice sp m c) ys) (hsep : ∀ (j : Nat) (e : Ent), E[j]? = some e → ∀ b, (Value.slice sp m c).ownBlock = some b → e.v.ownBlock ≠ some b)
    (hk : Bk s w' K ((nb : Int) + 1) v' (E ++ [⟨.slice sp m c, m, .slice none 0 0, (nb : Int) + 1⟩])) (hu : Buts (K :: v.ownBlock.toList) wx w') :
    St w0 w' s p f g q z K (nb + 1) v' u vo (E ++ [⟨.slice sp m c, m, .slice none 0 0, (nb : Int) + 1⟩]) T R := by
  obtain ⟨m1, m2, m3, m4, m5, m6⟩ := H.mid
  have hq := H.ref.qs
  have hz := H.ref.zs
  have hK := H.book.base
  have low : ∀ {x : Nat}, x < s → x ∉ K :: v.ownBlock.toList := by
    intro x hx hmm
    rcases List.mem_cons.1 hmm with e | hmm
    · omega
    · have := (World.ownsRow.lt H.book.row x (by simpa using hmm)).1; omega
  have hE := H.many
  have ho' : w'.ownsRow s 23 1 (.slice sp m c) m (wrd ys) := by subst hm; exact Lst.put H.book ho hu
  refine ⟨H.thing.buts hu (low (by omega)) (low (by omega)) (low (by omega)), H.ref.buts hu (low hq) (low hz) (H.book.far H.ref.row), ?_, ?_, ?_, H.lo, H.mid, by rw [List.length_append, List.length_singleton, hE], Nat.le_trans H.ss hu.size⟩
  · have e : ((nb + 1 : Nat) : Int) = (nb : Int) + 1 := by omega
    rw [e]; exact hk
  · have hl2 := H.lists.keep (w' := w') (fun j e he ys hx g' hg' => hu.block g' (hx.lt g' hg').2 (H.book.far hx g' hg'))
    refine ⟨?_, ?_, ?_, ?_⟩
    · intro j e he
      rcases snoc_cases he with ⟨_, he'⟩ | ⟨_, rfl⟩
      · obtain ⟨ys, h1, h2⟩ := hl2.own j e he'
        exact ⟨ys, h1, h2⟩
      · exact ⟨_, ho', fun h => by omega⟩
    · intro j k e e' hjk he hf g' hg' hg2
      rcases snoc_cases he with ⟨_, he'⟩ | ⟨rfl, rfl⟩
      · rcases snoc_cases hf with ⟨_, hf'⟩ | ⟨rfl, rfl⟩
        · exact hl2.sep j k e e' hjk he' hf' g' hg' hg2
        · exact hsep j e he' g' hg2 hg'
      · rcases snoc_cases hf with ⟨_, hf'⟩ | ⟨rfl, rfl⟩
        · exact hsep k e' hf' g' hg' hg2
        · exact hjk rfl
    · intro j e he
      rcases snoc_cases he with ⟨_, he'⟩ | ⟨_, rfl⟩
      · exact hl2.num j e he'
      · simp only; omega
    · intro j e he
      rcases snoc_cases he with ⟨_, he'⟩ | ⟨_, rfl⟩
      · exact hl2.len j e he'
      · simp only; omega
  · obtain ⟨l1, l2, l3, l4⟩ := H.lo
    refine H.bel.trans (hu.below (fun x hx => ?_) H.bel.size)
    rcases List.mem_cons.1 hx with rfl | hmm
    · omega
    · have := (World.ownsRow.lt H.book.row x (by simpa using hmm)).1; omega
/-- lists that are newer than the world are none of the book's -/
theorem St.fresh {w0 wx w' : World} {s p f g q z K nb m B : Nat} {v u vo y : Value} {E : List Ent} {T R : Sx} (H : St w0 wx s p f g q z K nb v u vo E T R) {ys : List Value} {t : TypeId} (hy : w'.ownsRow B t 1 y m ys) (hB : wx.heap.size ≤ B) : ∀ (j : Nat) (e : Ent), E[j]? = some e → ∀ b, y.ownBlock = some b → e.v.ownBlock ≠ some b := by
  intro j e he b hb hh
  obtain ⟨zs, ho, -⟩ := H.lists.own j e he
  have h1 := (World.ownsRow.lt ho b hh).2
  have h2 := (World.ownsRow.lt hy b hb).1
  omega
theorem Lst.src {w : World} {B n c : Nat} {s : Option Addr} {xs : List Int} (h : Lst w B (.slice s n c) xs) : n = xs.length ∧ Src w s xs := by
  obtain ⟨h1, h2⟩ := h
  rcases h2 with ⟨e1, e2⟩ | ⟨g, cap, cur, e1, hg, hh, hc, hm, hl, ht⟩
  · simp only [Value.slice.injEq] at e1
    have : xs = [] := by cases xs <;> simp_all [wrd]
    subst this
    exact ⟨e1.2.1, fun h => absurd h (by simp)⟩
  · simp only [Value.slice.injEq] at e1
    obtain ⟨rfl, rfl, rfl⟩ := e1
    refine ⟨rfl, fun hz => ⟨g, 0, rfl, fun i hi => ?_⟩⟩
    have ho : w.ownsRow B 23 1 (.slice (some ⟨g, 0, none⟩) xs.length c) xs.length (wrd xs) := ⟨h1, Or.inr ⟨g, c, cur, rfl, hg, hh, hc, hm, hl, ht⟩⟩
    rw [Nat.zero_add, ho.cellAt i (by omega)]
    exact wrd_at xs i (by omega)
theorem Bk.farB {s : Nat} {w : World} {K : Nat} {n : Int} {v : Value} {E : List Ent} (h : Bk s w K n v E) {b : Nat} {cs : Array Value} {t : TypeId} (hb : Blk w b cs t) (h1 : 50 ≠ t) (h2 : 113 ≠ t) : b ∉ K :: v.ownBlock.toList := by
  intro hm
  rcases List.mem_cons.1 hm with e | hm
  · exact Blk.ne (t := 50) h.head hb h1 e.symm
  · exact block_ne h.row (by simpa using hm) hb h2 rfl
theorem Kn.kr {w w' : World} {q z : Nat} {v : Value} {k a b : Int} {n : Nat} {zs : List Int} (h : Kn w w' q z v k a b n zs) : KR w'.heap.size w' q z (.slice none 0 0) v ⟨k, a, b, n, 0, [], zs⟩ :=
  ⟨h.1, Lst.nil _ _, h.2.1, h.2.2.2.2.1, h.2.2.2.2.2.1, fun _ => rfl, h.2.2.2.2.2.2.2⟩
/-- how a thing is seen, in letters -/
structure As (T : Sx) (k a b c o : Int) (xs zs : List Int) (n1 n2 : Nat) : Prop where
  hk : T.k = k
  ha : T.a = a
  hb : T.b = b
  hc : cX T = c
  ho : T.o = o
  hxs : T.xs = xs
  hzs : T.zs = zs
  l1 : xs.length = n1
  l2 : zs.length = n2
  b1 : n1 ≤ 64
  b2 : n2 ≤ 64
  rg : Rg T
  one : (T.xs = [] ∧ T.zs = []) ∨ (T.xs ≠ [] ∧ T.zs = [] ∧ T.k = 3) ∨ (T.xs = [] ∧ T.zs ≠ [] ∧ T.k = 5)
theorem as_of {w : World} {p f g : Nat} {T : Sx} (h : KT w p f g T) : ∃ k a b c o xs zs n1 n2, As T k a b c o xs zs n1 n2 :=
  ⟨_, _, _, _, _, _, _, _, _, rfl, rfl, rfl, rfl, rfl, rfl, rfl, rfl, rfl, h.rg.xs, h.rg.zs, h.rg, h.one⟩
theorem see_at {w : World} {p f g n1 n2 : Nat} {T : Sx} {k a b c o : Int} {xs zs : List Int} (h : KT w p f g T) (hA : As T k a b c o xs zs n1 n2) :
    Calls Tryz.prog 11 #[.pointer (some ⟨p, 0, none⟩)] w fun e w' => ∃ s1 c1 s2 c2, e = .returned (.agg #[.int .u32 0, .int .u8 k, .int .u32 a, .int .u32 b, .int .u32 c, .int .u32 o, .slice s1 n1 c1, .slice s2 n2 c2, .int .i64 0, .slice none 0 0]) ∧ Lst w' w.heap.size (.slice s1 n1 c1) xs ∧ Lst w' w.heap.size (.slice s2 n2 c2) zs ∧ Below w.heap.size w w' ∧ (s1 = none ∨ s2 = none) := by
  obtain ⟨rfl, rfl, rfl, rfl, rfl, rfl, rfl, rfl, rfl, -, -, -, -⟩ := hA
  refine (see_x h).mono fun e w' ⟨s1, m1, c1, s2, m2, c2, he, h1, h2, hb, hn⟩ => ?_
  obtain rfl := h1.src.1
  obtain rfl := h2.src.1
  exact ⟨s1, c1, s2, c2, he, h1, h2, hb, hn⟩
theorem ksee_at {s : Nat} {w : World} {q z n1 n2 : Nat} {u v : Value} {T : Sx} {k a b c o : Int} {xs zs : List Int} (h : KR s w q z u v T) (hA : As T k a b c o xs zs n1 n2) :
    Calls Tryz.prog 13 #[.pointer (some ⟨q, 0, none⟩)] w fun e w' => ∃ s1 c1 s2 c2, e = .returned (.agg #[.int .u32 0, .int .u8 k, .int .u32 a, .int .u32 b, .int .u32 c, .int .u32 o, .slice s1 n1 c1, .slice s2 n2 c2, .int .i64 0, .slice none 0 0]) ∧ Src w' s1 xs ∧ Src w' s2 zs ∧ Below w.heap.size w w' := by
  obtain ⟨rfl, rfl, rfl, rfl, rfl, rfl, rfl, rfl, rfl, -, -, hr, ho⟩ := hA
  refine (ksee_x h hr ho).mono fun e w' ⟨s1, m1, c1, s2, m2, c2, he, h1, h2, hb⟩ => ?_
  obtain rfl := h1.1
  obtain rfl := h2.1
  exact ⟨s1, c1, s2, c2, he, h1.2, h2.2, hb⟩
end Go.Proofs.YteicnekoogmmmaaGreatDoor
