/- What 'HandlesNever' carries: those that are there, those that are gone, and the table. -/
import Derived.Test.YtkogmmldkpepaaaSeen
import Derived.Maps.AppendAt
namespace Go.Proofs.Ytkogmmldkpepaaa
open Go Go.RowKit
set_option maxRecDepth 100000
set_option linter.unusedVariables false
theorem gapp {xs ys : List Nat} {i : Nat} : (xs ++ ys).getD i 0 = if i < xs.length then xs.getD i 0 else ys.getD (i - xs.length) 0 := by
  by_cases h : i < xs.length
  · rw [if_pos h]; simp [List.getElem?_append_left h]
  · rw [if_neg h]; simp [List.getElem?_append_right (Nat.le_of_not_lt h)]
/-- those that are there, and those that are gone, behind so many acts -/
structure Nev (N i : Nat) (s : Slots) (T G : List Nat) : Prop where
  dis : ∀ a b, a < T.length → b < T.length → T.getD a 0 = T.getD b 0 → a = b
  inT : ∀ a, a < T.length → placeE s (T.getD a 0) = 0
  inG : ∀ a, a < G.length → placeE s (G.getD a 0) = 6
  wT : ∀ a, a < T.length → T.getD a 0 ≤ 4294967295
  wG : ∀ a, a < G.length → G.getD a 0 ≤ 4294967295
  len : T.length = tk N s
  young : Young i s
  lT : T.length ≤ i
  lG : G.length ≤ i
theorem Nev.zero (N : Nat) : Nev N 0 none0 [] [] :=
  ⟨fun a b h => by simp at h, fun a h => by simp at h, fun a h => by simp at h, fun a h => by simp at h, fun a h => by simp at h, (tk_none (fun j hj => rfl)).symm, Young.zero, by simp, by simp⟩
theorem makeH_le {n : Nat} {s : Slots} (g : Good n s) (hn : n ≤ 256) (hf : fr n s < n) : makeH n s ≤ 4294967295 := by
  have := (isFr_not (fr_yes hf)).2
  unfold makeH; rw [if_pos hf]; omega
theorem Nev.make {N i : Nat} {s : Slots} {T G : List Nat} (h : Nev N i s T G) (g : Good N s) (hN : N ≤ 256) (hf : fr N s < N) : Nev N (i + 1) (makeS N s) (T ++ [makeH N s]) G := by
  have hnew := make_was hN hf
  have hT : ∀ a, a < T.length → T.getD a 0 ≠ makeH N s := fun a ha e => by have := h.inT a ha; rw [e, hnew] at this; cases this
  have hG : ∀ a, a < G.length → G.getD a 0 ≠ makeH N s := fun a ha e => by have := h.inG a ha; rw [e, hnew] at this; cases this
  have hg : ∀ a, a < (T ++ [makeH N s]).length → (a < T.length ∧ (T ++ [makeH N s]).getD a 0 = T.getD a 0) ∨ (a = T.length ∧ (T ++ [makeH N s]).getD a 0 = makeH N s) := by
    intro a ha
    rw [gapp]
    by_cases q : a < T.length
    · exact Or.inl ⟨q, if_pos q⟩
    · have : a = T.length := by simp at ha; omega
      subst this
      exact Or.inr ⟨rfl, by simp⟩
  refine ⟨fun a b ha hb e => ?_, fun a ha => ?_, fun a ha => ?_, fun a ha => ?_, h.wG, ?_, h.young.make, by have := h.lT; simp; omega, Nat.le_succ_of_le h.lG⟩
  · rcases hg a ha with ⟨la, ea⟩ | ⟨la, ea⟩ <;> rcases hg b hb with ⟨lb, eb⟩ | ⟨lb, eb⟩
    · exact h.dis a b la lb (by rw [← ea, ← eb]; exact e)
    · exact absurd (ea.symm.trans (e.trans eb)) (hT a la)
    · exact absurd (eb.symm.trans (e.symm.trans ea)) (hT b lb)
    · omega
  · rcases hg a ha with ⟨la, ea⟩ | ⟨la, ea⟩
    · rw [ea, make_else hN (fun _ => hT a la)]; exact h.inT a la
    · rw [ea]; exact make_is hN hf
  · rw [make_else hN (fun _ => hG a ha)]; exact h.inG a ha
  · rcases hg a ha with ⟨la, ea⟩ | ⟨la, ea⟩
    · rw [ea]; exact h.wT a la
    · rw [ea]; exact makeH_le g hN hf
  · rw [make_tk hf, List.length_append, h.len]; rfl
theorem Nev.full {N i : Nat} {s : Slots} {T G : List Nat} (h : Nev N i s T G) (hf : ¬ fr N s < N) : Nev N (i + 1) (makeS N s) T G := by
  have e : makeS N s = s := if_neg hf
  rw [e]
  exact ⟨h.dis, h.inT, h.inG, h.wT, h.wG, h.len, h.young.mono (by omega), Nat.le_succ_of_le h.lT, Nat.le_succ_of_le h.lG⟩
/-- what is left when the one at k is dropped -/
def left (T : List Nat) (k : Nat) : List Nat := (T.set k (T.getD (T.length - 1) 0)).take (T.length - 1)
theorem left_len {T : List Nat} {k : Nat} : (left T k).length = T.length - 1 := by unfold left; simp
theorem left_at {T : List Nat} {k a : Nat} (ha : a < T.length - 1) : (left T k).getD a 0 = if a = k then T.getD (T.length - 1) 0 else T.getD a 0 := by
  unfold left
  have h1 : a < T.length := by omega
  by_cases e : a = k
  · subst e
    rw [if_pos rfl]
    simp [ha]
  · rw [if_neg e]
    simp [ha, h1, Ne.symm e]
theorem Nev.drop {N i : Nat} {s : Slots} {T G : List Nat} (h : Nev N i s T G) (g : Good N s) (k : Nat) (hk : k < T.length) : Nev N (i + 1) (dropS s (T.getD k 0)) (left T k) (G ++ [T.getD k 0]) := by
  have hp := h.inT k hk
  have hsrc : ∀ a, a < (left T k).length → ∃ b, b < T.length ∧ b ≠ k ∧ (left T k).getD a 0 = T.getD b 0 ∧ (a = b ∨ (a = k ∧ b = T.length - 1)) := by
    intro a ha
    rw [left_len] at ha
    rw [left_at ha]
    by_cases e : a = k
    · rw [if_pos e]; exact ⟨T.length - 1, by omega, by omega, rfl, Or.inr ⟨e, rfl⟩⟩
    · rw [if_neg e]; exact ⟨a, by omega, e, rfl, Or.inl rfl⟩
  refine ⟨fun a b ha hb e => ?_, fun a ha => ?_, fun a ha => ?_, fun a ha => ?_, fun a ha => ?_, ?_, (h.young.drop _).mono (by omega), by rw [left_len]; have := h.lT; omega, by have := h.lG; simp; omega⟩
  · obtain ⟨x, hx, hxk, ex, dx⟩ := hsrc a ha
    obtain ⟨y, hy, hyk, ey, dy⟩ := hsrc b hb
    rw [left_len] at ha hb
    have := h.dis x y hx hy (by rw [← ex, ← ey]; exact e)
    omega
  · obtain ⟨x, hx, hxk, ex, dx⟩ := hsrc a ha
    rw [ex, drop_else (fun e => hxk (h.dis x k hx hk e))]
    exact h.inT x hx
  · rw [gapp]
    by_cases q : a < G.length
    · rw [if_pos q, drop_else (fun e => by have := h.inG a q; rw [e, hp] at this; cases this)]
      exact h.inG a q
    · have : a - G.length = 0 := by simp at ha; omega
      rw [if_neg q, this]
      exact drop_is hp
  · obtain ⟨x, hx, hxk, ex, dx⟩ := hsrc a ha
    rw [ex]; exact h.wT x hx
  · rw [gapp]
    by_cases q : a < G.length
    · rw [if_pos q]; exact h.wG a q
    · have : a - G.length = 0 := by simp at ha; omega
      rw [if_neg q, this]
      exact h.wT k hk
  · have := drop_tk g hp
    rw [left_len, h.len]; omega
/-- and how they lie in memory -/
structure Nm (B : Nat) (w : World) (p N : Nat) (s : Slots) (v u : Value) (T G : List Nat) : Prop where
  tab : Tab w p N s
  there : Told B w v T
  gone : Told B w u G
  sep : ∀ g, v.ownBlock = some g → u.ownBlock ≠ some g
  lt : p < B
  base : B ≤ w.heap.size
theorem Nm.below {B : Nat} {w w' : World} {p N : Nat} {s : Slots} {v u : Value} {T G : List Nat} (h : Nm B w p N s v u T G) (hb : Below w.heap.size w w') : Nm B w' p N s v u T G :=
  ⟨h.tab.below hb, h.there.below hb, h.gone.below hb, h.sep, h.lt, Nat.le_trans h.base hb.size⟩
theorem Nm.setTab {B : Nat} {w w' : World} {p N : Nat} {s s' : Slots} {v u : Value} {T G : List Nat} (h : Nm B w p N s v u T G) (hb : Buts [p] w w') (ht : Tab w' p N s') : Nm B w' p N s' v u T G :=
  ⟨ht, h.there.buts hb h.lt, h.gone.buts hb h.lt, h.sep, h.lt, Nat.le_trans h.base hb.size⟩
/-- a row grows, another one stays -/
theorem grown_told {B : Nat} {w w1 : World} {o : Obj} {v u : Value} {G : List Nat} (hu : Told B w u G) (hg : (w.alloc o).grownBy w1 v.ownBlock) (hs : ∀ g, v.ownBlock = some g → u.ownBlock ≠ some g) : Told B w1 u G := by
  refine owns_of hu fun g hgu => ?_
  have hl := (hu.lt g hgu).2
  rw [hg.block g (by rw [alloc_size]; omega) (fun e => hs g e.symm hgu)]
  exact (alloc_below w o).block g hl
theorem grown_tab {B : Nat} {w w1 : World} {o : Obj} {v : Value} {T : List Nat} {p N : Nat} {s : Slots} (h : Tab w p N s) (hv : Told B w v T) (hp : p < B) (hg : (w.alloc o).grownBy w1 v.ownBlock) : Tab w1 p N s :=
  (h.below (alloc_below w o)).buts (Buts.grown hg) (fun hm => by
    have := (hv.lt p (by simpa using hm)).1
    omega)
theorem told_snoc {B : Nat} {w : World} {v : Value} {T : List Nat} {x : Nat} (h : w.ownsRow B 22 1 v (T.length + 1) (wrd (ints T) ++ [.int .u32 (x : Nat)])) : Told B w v (T ++ [x]) := by
  unfold Told
  rw [List.length_append, ints_app]
  unfold wrd at h ⊢
  rw [List.map_append]
  exact h
theorem Nm.addT {B : Nat} {w w1 : World} {o : Obj} {p N : Nat} {s : Slots} {v v' u : Value} {T G : List Nat} {x : Nat} (h : Nm B w p N s v u T G) (hg : (w.alloc o).grownBy w1 v.ownBlock) (ho : w1.ownsRow B 22 1 v' (T.length + 1) (wrd (ints T) ++ [.int .u32 (x : Nat)]))
    (hat : v'.ownBlock = v.ownBlock ∨ v'.ownBlock = some (w.alloc o).heap.size) : Nm B w1 p N s v' u (T ++ [x]) G := by
  refine ⟨grown_tab h.tab h.there h.lt hg, told_snoc ho, grown_told h.gone hg h.sep, fun g hgv hgu => ?_, h.lt, ?_⟩
  · rcases hat with e | e
    · exact h.sep g (by rw [← e]; exact hgv) hgu
    · rw [e] at hgv
      have h1 := (h.gone.lt g hgu).2
      have h2 := alloc_size w o
      simp only [Option.some.injEq] at hgv
      omega
  · have := h.base; have h2 := alloc_size w o; have h3 := hg.size; omega
theorem Nm.addG {B : Nat} {w w1 : World} {o : Obj} {p N : Nat} {s : Slots} {v u u' : Value} {T G : List Nat} {x : Nat} (h : Nm B w p N s v u T G) (hg : (w.alloc o).grownBy w1 u.ownBlock) (ho : w1.ownsRow B 22 1 u' (G.length + 1) (wrd (ints G) ++ [.int .u32 (x : Nat)]))
    (hat : u'.ownBlock = u.ownBlock ∨ u'.ownBlock = some (w.alloc o).heap.size) : Nm B w1 p N s v u' T (G ++ [x]) := by
  refine ⟨grown_tab h.tab h.gone h.lt hg, grown_told h.there hg (fun g hgu hgv => h.sep g hgv hgu), told_snoc ho, fun g hgv hgu => ?_, h.lt, ?_⟩
  · rcases hat with e | e
    · exact h.sep g hgv (by rw [← e]; exact hgu)
    · rw [e] at hgu
      have h1 := (h.there.lt g hgv).2
      have h2 := alloc_size w o
      simp only [Option.some.injEq] at hgu
      omega
  · have := h.base; have h2 := alloc_size w o; have h3 := hg.size; omega
/-- the last one takes the place of the one that goes -/
theorem told_left {B : Nat} {w : World} {g n cap k : Nat} {T : List Nat} (h : Told B w (.slice (some ⟨g, 0, none⟩) n cap) T) (hn : T.length = n) :
    Told B (w.setCell ⟨g, k, none⟩ (.int .u32 ((T.getD (n - 1) 0 : Nat) : Int))) (.slice (some ⟨g, 0, none⟩) (n - 1) cap) (left T k) := by
  subst hn
  obtain ⟨h1, h2⟩ := (h.stored k (.int .u32 ((T.getD (T.length - 1) 0 : Nat) : Int))).1
  have e : (wrd (ints T)).set k (.int .u32 ((T.getD (T.length - 1) 0 : Nat) : Int)) = wrd (ints (T.set k (T.getD (T.length - 1) 0))) := by
    unfold wrd ints; rw [List.map_set, List.map_set]; rfl
  rw [e] at h1 h2
  unfold Told
  rw [left_len]
  refine ⟨by simp [wrd, ints_len, left_len], Or.inr ?_⟩
  rcases h2 with ⟨h2, _⟩ | ⟨g', cap', cur, h2, hb, hh, hc, hm, hs, ht⟩
  · cases h2
  · simp only [Value.slice.injEq, Option.some.injEq, Addr.mk.injEq, and_true, true_and] at h2
    obtain ⟨rfl, rfl⟩ := h2
    refine ⟨g, cap, cur, rfl, hb, hh, by omega, hm, hs, ?_⟩
    have h4 : cur.toList.take ((T.length - 1) * 1) = (cur.toList.take (T.length * 1)).take ((T.length - 1) * 1) := by rw [List.take_take, Nat.min_eq_left (by omega)]
    rw [h4, ht]
    unfold left wrd ints
    rw [List.map_take, List.map_take, Nat.mul_one]
theorem Nm.left {B : Nat} {w : World} {p N g n m cap k : Nat} {s : Slots} {u : Value} {T G : List Nat} (h : Nm B w p N s (.slice (some ⟨g, 0, none⟩) n cap) u T G) (hn : T.length = n) (hm : n = m + 1) :
    Nm B (w.setCell ⟨g, k, none⟩ (.int .u32 ((T.getD m 0 : Nat) : Int))) p N s (.slice (some ⟨g, 0, none⟩) m cap) u (left T k) G := by
  have hg : B ≤ g := (h.there.lt g rfl).1
  have hlt := h.lt
  have ht := told_left (k := k) h.there hn
  rw [show n - 1 = m by omega] at ht
  refine ⟨h.tab.buts (Buts.cell _ _ _ _) (by simp; omega), ht, owns_buts h.gone (Buts.cell _ _ _ _) (fun b hb hm => ?_), h.sep, h.lt, by have := h.base; simpa [World.setCell] using this⟩
  simp only [List.mem_singleton] at hm
  subst hm
  exact h.sep b rfl hb
/-- both -/
structure Nv (B : Nat) (w : World) (p N i : Nat) (s : Slots) (v u : Value) (T G : List Nat) : Prop where
  mem : Nm B w p N s v u T G
  nev : Nev N i s T G
theorem Nv.below {B : Nat} {w w' : World} {p N i : Nat} {s : Slots} {v u : Value} {T G : List Nat} (h : Nv B w p N i s v u T G) (hb : Below w.heap.size w w') : Nv B w' p N i s v u T G := ⟨h.mem.below hb, h.nev⟩
theorem Told.row {B : Nat} {w : World} {v : Value} {T : List Nat} {m : Nat} (h : Told B w v T) (hm : T.length = m) : w.ownsRow B 22 1 v m (wrd (ints T)) := by subst hm; exact h
end Go.Proofs.Ytkogmmldkpepaaa
