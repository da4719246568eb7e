/- A book of lists in memory: what it holds, and what stays as it was. No law of the program itself. The book's own functions: what is kept, filled, grown and looked at, for every number of lists. All lists of a book are filled with their marks. All lists of a book are grown by 40 marks each. 'grow' walked: each list is grown by 40 marks. 'look' walked: each list, and each longer one, has its own mark everywhere. 'Apart' walked: lists that are rows of their own are apart. The other kinds have no list here. -/
import Derived.Test.YteicnekoogmmmaaGreatDoorQSame
import Derived.Laws.OwnMore
import Derived.Deep.RegionLaw
import Derived.Deep.RegionWith
import Derived.Deep.CutRange
import Derived.Deep.AppendLies
import Derived.Deep.QuietTactic
import Derived.BigQuiet
namespace Go.Proofs.YteicnekoogmmmaaGreatDoor
open Go Go.RowKit
set_option maxRecDepth 100000
set_option linter.unusedVariables false
/-- a list in the book: the slice, its length, the longer one, its number -/
structure Ent where
  v : Value
  len : Nat
  long : Value
  num : Int
def Ent.cells (e : Ent) : List Value := [e.v, e.long, .int .i64 e.num]
def flat : List Ent → List Value
  | [] => []
  | e :: r => e.cells ++ flat r
theorem flat_len : ∀ E : List Ent, (flat E).length = E.length * 3
  | [] => rfl
  | e :: r => by rw [flat, List.length_append, flat_len r, List.length_cons]; simp only [Ent.cells, List.length_cons, List.length_nil]; omega
theorem flat_app : ∀ (E F : List Ent), flat (E ++ F) = flat E ++ flat F
  | [], F => rfl
  | e :: r, F => by rw [List.cons_append, flat, flat, flat_app r F, List.append_assoc]
theorem flat_at : ∀ (E : List Ent) (i : Nat) (e : Ent), E[i]? = some e → ∀ j, j < 3 → (flat E)[i * 3 + j]? = e.cells[j]?
  | [], i, e, h, j, hj => by simp at h
  | a :: r, 0, e, h, j, hj => by
    simp only [List.getElem?_cons_zero, Option.some.injEq] at h
    subst h
    rw [flat, Nat.zero_mul, Nat.zero_add, List.getElem?_append_left (by simpa [Ent.cells] using hj)]
  | a :: r, i + 1, e, h, j, hj => by
    rw [List.getElem?_cons_succ] at h
    rw [flat, List.getElem?_append_right (by simp [Ent.cells]; omega), show (i + 1) * 3 + j - a.cells.length = i * 3 + j by simp [Ent.cells]; omega]
    exact flat_at r i e h j hj
theorem flat_set : ∀ (E : List Ent) (i : Nat) (e : Ent) (u : Value), E[i]? = some e → (flat E).set (i * 3 + 1) u = flat (E.set i { e with long := u })
  | [], i, e, u, h => by simp at h
  | a :: r, 0, e, u, h => by
    simp only [List.getElem?_cons_zero, Option.some.injEq] at h
    subst h
    simp [flat, Ent.cells]
  | a :: r, i + 1, e, u, h => by
    rw [List.getElem?_cons_succ] at h
    rw [flat, List.set_append_right _ _ (by simp [Ent.cells]; omega), show (i + 1) * 3 + 1 - a.cells.length = i * 3 + 1 by simp [Ent.cells]; omega, flat_set r i e u h, List.set_cons_succ, flat]
/-- the book's own block -/
def bk (n : Int) (v : Value) : Array Value := #[.int .i64 n, .slice none 0 0, v, .slice none 0 0, .slice none 0 0, .slice none 0 0, .slice none 0 0, .slice none 0 0, .slice none 0 0]
/-- a book at block K, of these lists -/
structure Bk (B : Nat) (w : World) (K : Nat) (n : Int) (v : Value) (E : List Ent) : Prop where
  head : w.heap[K]? = some (.cells (bk n v) 50 (0, 0))
  row : w.ownsRow B 113 3 v E.length (flat E)
  ne : ∀ H, v.ownBlock = some H → H ≠ K
  base : B ≤ K
  few : E.length ≤ 1000
  small : 0 ≤ n ∧ n ≤ 1000
  lng : ∀ (j : Nat) (e : Ent), E[j]? = some e → ∃ a b c, e.long = .slice a b c
theorem Bk.buts {B : Nat} {w w' : World} {K : Nat} {n : Int} {v : Value} {E : List Ent} {l : List Nat} (h : Bk B w K n v E) (hb : Buts l w w') (hK : K ∉ l) (hl : ∀ g, v.ownBlock = some g → g ∉ l) : Bk B w' K n v E :=
  ⟨(hb.block K (at_lt h.head) hK).trans h.head, owns_buts h.row hb hl, h.ne, h.base, h.few, h.small, h.lng⟩
end Go.Proofs.YteicnekoogmmmaaGreatDoor
namespace Go.Proofs.YteicnekoogmmmaaGreatDoor
open Go Go.RowKit
set_option maxRecDepth 100000
set_option linter.unusedVariables false
theorem infoH : (Tryz.prog.info? 113).map (fun i => (i.zero, i.size, i.bytes)) = some (some (.agg #[.slice none 0 0, .slice none 0 0, .int .i64 0]), 3, 56) := by kernel_rfl
theorem cells3 (w : World) (x y z : Value) (t : TypeId) : ∀ j u, ([x, y, z] : List Value)[j]? = some u → (w.alloc (.cells #[x, y, z] t)).cell? ((⟨w.heap.size, 0, none⟩ : Addr).add j) = some u := by
  intro j u hj
  have hadd : (⟨w.heap.size, 0, none⟩ : Addr).add j = ⟨w.heap.size, 0 + j, none⟩ := by unfold Addr.add; split <;> simp_all
  rw [hadd, Nat.zero_add, cell_of (alloc_at w _)]
  rcases j with _ | _ | _ | j
  · exact hj
  · exact hj
  · exact hj
  · simp at hj
theorem one3 (x y z : Value) (hx : x.oneCell' = true) (hy : y.oneCell' = true) (hz : z.oneCell' = true) : ∀ u ∈ ([x, y, z] : List Value), u.oneCell' = true := by
  intro u hu
  simp only [List.mem_cons, List.not_mem_nil, or_false] at hu
  rcases hu with rfl | rfl | rfl <;> assumption
theorem set_at {w : World} {g k : Nat} {cs : Array Value} {t : TypeId} {f : Nat × Nat} (h : w.heap[g]? = some (.cells cs t f)) (v : Value) : (w.setCell ⟨g, k, none⟩ v).heap[g]? = some (.cells (cs.setIfInBounds k v) t f) := by
  have hl := at_lt h
  have hv : w.heap[g] = .cells cs t f := (Array.getElem?_eq_some_iff.1 h).2
  unfold World.setCell
  rw [Array.getElem?_eq_getElem (by simpa using hl), Array.getElem_modify]
  simp [hv]
theorem bk_put {w : World} {K : Nat} {n : Int} (v v' : Value) (h : w.heap[K]? = some (.cells (bk n v) 50 (0, 0))) : (w.setCell ⟨K, 2, none⟩ v').heap[K]? = some (.cells (bk n v') 50 (0, 0)) := by
  rw [set_at h]; rfl
theorem bk_num {w : World} {K : Nat} {n : Int} (v : Value) (h : w.heap[K]? = some (.cells (bk n v) 50 (0, 0))) (m : Int) : (w.setCell ⟨K, 0, none⟩ (.int .i64 m)).heap[K]? = some (.cells (bk m v) 50 (0, 0)) := by
  rw [set_at h]; rfl
theorem keep_end {B : Nat} {w w1 wa w' : World} {K g' cap' : Nat} {n : Int} {v : Value} {E : List Ent} (hb : Bk B w K n v E) (hE : E.length + 1 ≤ 1000) (hn : n + 1 ≤ 1000) (sp : Option Addr) (len cap : Nat)
    (hu : Buts [K] w w1) (hW : Below w1.heap.size w1 wa) (hg : wa.grownBy w' v.ownBlock)
    (ho : w'.ownsRow B 113 3 (.slice (some ⟨g', 0, none⟩) (E.length + 1) cap') (E.length + 1) (flat E ++ [.slice sp len cap, .slice none 0 0, .int .i64 (n + 1)]))
    (hkk : w'.heap[K]? = some (.cells (bk (n + 1) v) 50 (0, 0))) :
    ∃ v', Bk B (w'.setCell ⟨K, 2, none⟩ (.slice (some ⟨g', 0, none⟩) (E.length + 1) cap')) K (n + 1) v' (E ++ [⟨.slice sp len cap, len, .slice none 0 0, n + 1⟩]) ∧ Buts (K :: v.ownBlock.toList) w (w'.setCell ⟨K, 2, none⟩ (.slice (some ⟨g', 0, none⟩) (E.length + 1) cap')) := by
  have hne : g' ≠ K := by
    rintro rfl
    rcases ho.2 with ⟨e, _⟩ | ⟨g, c, cur, e, _, hh, _⟩
    · cases e
    · simp only [Value.slice.injEq, Option.some.injEq, Addr.mk.injEq, and_true, true_and] at e
      obtain ⟨rfl, rfl⟩ := e
      rw [hkk] at hh
      simp at hh
  have hu2 : Buts (K :: v.ownBlock.toList) w (w'.setCell ⟨K, 2, none⟩ (.slice (some ⟨g', 0, none⟩) (E.length + 1) cap')) :=
    ((hu.mono (by simp)).trans ((Buts.of hW).trans ((Buts.grown hg).mono (fun x hx => List.mem_cons_of_mem _ hx)))).trans ((Buts.cell _ _ _ _).mono (by simp))
  refine ⟨.slice (some ⟨g', 0, none⟩) (E.length + 1) cap', ⟨bk_put v _ hkk, ?_, ?_, hb.base, by simpa using hE, by have := hb.small; omega, ?_⟩, hu2⟩
  · rw [flat_app, List.length_append]
    refine owns_buts ho (Buts.cell _ _ _ _) (fun g hg' => ?_)
    have : g' = g := by simpa [Value.ownBlock] using hg'
    subst this
    simpa using hne
  · intro H hH
    have : g' = H := by simpa [Value.ownBlock] using hH
    subst this
    exact hne
  · intro j e he
    rcases Nat.lt_or_ge j E.length with hj | hj
    · rw [List.getElem?_append_left hj] at he
      exact hb.lng j e he
    · rw [List.getElem?_append_right hj] at he
      rcases hk : j - E.length with _ | k
      · rw [hk] at he
        simp only [List.getElem?_cons_zero, Option.some.injEq] at he
        subst he
        exact ⟨_, _, _, rfl⟩
      · rw [hk] at he
        simp at he
set_option maxHeartbeats 2000000 in
theorem keep_any {B : Nat} {w : World} {K : Nat} {n : Int} {v : Value} {E : List Ent} (hb : Bk B w K n v E) (hE : E.length + 1 ≤ 1000) (hn : n + 1 ≤ 1000) (sp : Option Addr) (len cap : Nat) :
    Calls Tryz.prog 61 #[.pointer (some ⟨K, 0, none⟩), .slice sp len cap] w fun e w' => e = .returned (.tuple #[]) ∧ ∃ v', Bk B w' K (n + 1) v' (E ++ [⟨.slice sp len cap, len, .slice none 0 0, n + 1⟩]) ∧ Buts (K :: v.ownBlock.toList) w w' := by
  have hk0 : w.cell? ⟨K, 0, none⟩ = some (.int .i64 n) := by rw [cell_of hb.head]; rfl
  have hf : ∀ i, w.frozen? ⟨K, i, none⟩ = false := fun i => by simp [World.frozen?, hb.head]
  have hf0 := hf 0
  have hs := hb.small
  go_enter Tryz.func61, Tryz.ntmps61
  go_wp2
  have hK1 : (w.setCell ⟨K, 0, none⟩ (.int .i64 (n + 1))).heap[K]? = some (.cells (bk (n + 1) v) 50 (0, 0)) := bk_num v hb.head _
  have hu : Buts [K] w (w.setCell ⟨K, 0, none⟩ (.int .i64 (n + 1))) := Buts.cell _ _ _ _
  generalize w.setCell ⟨K, 0, none⟩ (.int .i64 (n + 1)) = w1 at *
  have c0 : w1.cell? ⟨K, 0, none⟩ = some (.int .i64 (n + 1)) := by rw [cell_of hK1]; rfl
  have c1 : w1.cell? ⟨K, 2, none⟩ = some v := by rw [cell_of hK1]; rfl
  have f1 : w1.frozen? ⟨K, 2, none⟩ = false := by simp [World.frozen?, hK1]
  clear hk0 hf hf0
  obtain ⟨i, hi, he⟩ := Option.map_eq_some_iff.1 infoH
  have h1 : i.zero = some (.agg #[.slice none 0 0, .slice none 0 0, .int .i64 0]) := by simpa using congrArg Prod.fst he
  have h2 : i.size = 3 := by simpa using congrArg (fun x => x.2.1) he
  have h3 : i.bytes = 56 := by simpa using congrArg (fun x => x.2.2) he
  have hrow : w1.ownsRow B 113 3 v E.length (flat E) := owns_buts hb.row hu (fun g hg => by simpa using hb.ne g hg)
  have hlt : K < w1.heap.size := at_lt hK1
  have hW : Below w1.heap.size w1 (w1.alloc (.cells #[.slice sp len cap, .slice none 0 0, .int .i64 (n + 1)] 113)).drew := ((Below.refl _ _).alloc (Nat.le_refl _) _).drew
  have hKr : ∀ H, v.ownBlock = some H → H ≠ K := hb.ne
  go_region_law (refine step_append_own rfl (.tmp 15) (.tmp 22) 42 rfl B 113 i _ 3 56 Tryz.underlying42 hi h1 h2 h3 rfl (by omega) v E.length (flat E) rfl (owns_of hrow fun g hg => hW.block g (hrow.lt g hg).2) _ 1 1 [.slice sp len cap, .slice none 0 0, .int .i64 (n + 1)] rfl rfl (cells3 w1 _ _ _ _) (one3 _ _ _ rfl rfl rfl) (by simp only [maxLen]; omega) (by omega) (Nat.le_trans (Nat.le_trans hb.base (Nat.le_of_lt hlt)) hW.size) ?_; intro v' w' ho hg hne; obtain ⟨g', cap', rfl, hcp⟩ := owns_spot ho (by omega); have hkk := (hg.block K (Nat.lt_of_lt_of_le hlt hW.size) (fun e => hKr K e.symm rfl)).trans ((hW.block K hlt).trans hK1); have k1 : w'.cell? ⟨K, 2, none⟩ = some v := (by rw [cell_of hkk]; rfl); have k2 : w'.frozen? ⟨K, 2, none⟩ = false := (by simp [World.frozen?, hkk]))
  all_goals
    go_wp2
    go_end0
    exact ⟨rfl, keep_end hb hE hn sp len cap hu hW hg ho hkk⟩
/-- a list's mark -/
def mk (n : Int) : Int := 1000 + n
theorem mark_any (n : Int) (h : 0 ≤ n ∧ n ≤ 1000) (w : World) : Calls Tryz.prog 63 #[.int .i64 n] w fun e w' => e = .returned (.int .u32 (mk n)) ∧ w' = w := by
  unfold mk
  go_enter Tryz.func63, Tryz.ntmps63
  go_wp2
  go_ret
  exact ⟨rfl, rfl⟩
theorem is_yes (n : Int) (h : 0 ≤ n ∧ n ≤ 1000) (w : World) : Calls Tryz.prog 71 #[.int .u32 (mk n), .int .i64 n] w fun e w' => e = .returned (.bool true) ∧ w' = w := by
  unfold mk
  go_enter Tryz.func71, Tryz.ntmps71
  go_wp2
  go_ret
  exact ⟨rfl, rfl⟩
/-- all lists are rows of their own -/
structure Lists (B : Nat) (w : World) (E : List Ent) (i : Nat) : Prop where
  own : ∀ (j : Nat) (e : Ent), E[j]? = some e → ∃ ys, w.ownsRow B 23 1 e.v e.len ys ∧ (j < i → ys = List.replicate e.len (.int .u32 (mk e.num)))
  sep : ∀ (j k : Nat) (e f : Ent), j ≠ k → E[j]? = some e → E[k]? = some f → ∀ g, e.v.ownBlock = some g → f.v.ownBlock ≠ some g
  num : ∀ (j : Nat) (e : Ent), E[j]? = some e → 0 ≤ e.num ∧ e.num ≤ 1000
  len : ∀ (j : Nat) (e : Ent), E[j]? = some e → e.len ≤ 1000000
/-- the lists' blocks -/
def blks (E : List Ent) : List Nat := E.flatMap fun e => e.v.ownBlock.toList
theorem blks_mem {E : List Ent} {j : Nat} {e : Ent} (h : E[j]? = some e) : ∀ x ∈ e.v.ownBlock.toList, x ∈ blks E := fun x hx => List.mem_flatMap.2 ⟨e, List.mem_of_getElem? h, hx⟩
theorem Bk.spot {B : Nat} {w : World} {K : Nat} {n : Int} {v : Value} {E : List Ent} (h : Bk B w K n v E) {i : Nat} {e : Ent} (he : E[i]? = some e) :
    ∃ H cap, v = .slice (some ⟨H, 0, none⟩) E.length cap ∧ E.length ≤ cap ∧ w.cell? ⟨H, i * 3, none⟩ = some e.v ∧ w.cell? ⟨H, i * 3 + 1, none⟩ = some e.long ∧ w.cell? ⟨H, i * 3 + 2, none⟩ = some (.int .i64 e.num) := by
  have hi : i < E.length := (List.getElem?_eq_some_iff.1 he).1
  obtain ⟨H, cap, rfl, hc, _⟩ := owns_spot h.row (by omega)
  have c0 := flat_at E i e he 0 (by omega)
  have c1 := flat_at E i e he 1 (by omega)
  have c2 := flat_at E i e he 2 (by omega)
  refine ⟨H, cap, rfl, hc, ?_, ?_, ?_⟩
  · rw [h.row.cellAt (i * 3) (by omega)]; exact c0
  · rw [h.row.cellAt (i * 3 + 1) (by omega)]; exact c1
  · rw [h.row.cellAt (i * 3 + 2) (by omega)]; exact c2
end Go.Proofs.YteicnekoogmmmaaGreatDoor
namespace Go.Proofs.YteicnekoogmmmaaGreatDoor
open Go Go.RowKit
set_option maxRecDepth 100000
set_option linter.unusedVariables false
theorem fill_set (m : Value) (ys : List Value) (k : Nat) (h : k < ys.length) : (List.replicate k m ++ ys.drop k).set k m = List.replicate (k + 1) m ++ ys.drop (k + 1) := by
  rw [List.set_append_right _ _ (by simp), List.drop_eq_getElem_cons h, List.length_replicate, Nat.sub_self, List.set_cons_zero, List.replicate_succ', List.append_assoc, List.singleton_append]
theorem fill_end {B : Nat} {wr w0 wx : World} {K : Nat} {n : Int} {v : Value} {E : List Ent} {i : Nat} {e : Ent} (hb : Bk B wr K n v E) (hl : Lists B wr E i) (he : E[i]? = some e) (h1 : Below wr.heap.size wr w0) (hV : Buts e.v.ownBlock.toList w0 wx) (ho : wx.ownsRow B 23 1 e.v e.len (List.replicate e.len (.int .u32 (mk e.num)))) :
    Bk B wx K n v E ∧ Lists B wx E (i + 1) ∧ Buts (blks E) wr wx := by
  have hu : Buts e.v.ownBlock.toList wr wx := (Buts.of h1).trans hV
  obtain ⟨ys, hy, -⟩ := hl.own i e he
  refine ⟨hb.buts hu ?_ ?_, ⟨?_, hl.sep, hl.num, hl.len⟩, hu.mono (blks_mem he)⟩
  · intro hm
    exact block_ne hy (by simpa using hm) hb.head (by decide) rfl
  · intro g hg hm
    exact own_ne hy (by simpa using hm) hb.row hg (by decide) rfl
  · intro j f hf
    by_cases hj : j = i
    · subst hj
      rw [he] at hf
      cases hf
      exact ⟨_, ho, fun _ => rfl⟩
    · obtain ⟨zs, hz, hc⟩ := hl.own j f hf
      refine ⟨zs, owns_buts hz hu (fun g hg hm => hl.sep j i f e hj hf he g hg (by simpa using hm)), fun h => hc (by omega)⟩
set_option maxHeartbeats 4000000 in
theorem fill_any {B : Nat} {w : World} {K : Nat} {n : Int} {v : Value} {E : List Ent} (hb : Bk B w K n v E) (hl : Lists B w E 0) :
    Calls Tryz.prog 27 #[.pointer (some ⟨K, 0, none⟩)] w fun e w' => e = .returned (.tuple #[]) ∧ Bk B w' K n v E ∧ Lists B w' E E.length ∧ Buts (blks E) w w' := by
  have HB : Hid (Bk B w K n v E) := hb
  have HL : Hid (Lists B w E 0) := hl
  clear hb hl
  have hf := HB.out.few
  go_enter Tryz.func27, Tryz.ntmps27
  go_wp2
  go_loopg [2] E.length (fun gk s2 wx => ∃ i : Nat, i + gk = E.length ∧ s2 = .int .i64 i ∧ Hid (Bk B wx K n v E) ∧ Hid (Lists B wx E i) ∧ Buts (blks E) w wx)
  case atStart => exact ⟨0, by omega, rfl, HB, HL, Buts.refl _ _⟩
  case round =>
    clear HB HL
    obtain ⟨i, hig, rfl, HB, HL, hU⟩ := hrel
    have ch : wr.cell? ⟨K, 2, none⟩ = some v := by rw [cell_of HB.out.head]; rfl
    cases gk with
    | zero =>
      obtain ⟨sp, cap, rfl, -, -, -⟩ := own_form HB.out.row
      have hlt : ¬ ((i : Int) < E.length) := by omega
      go_wp2
      go_end0
      obtain rfl : i = E.length := by omega
      exact ⟨rfl, HB.out, HL.out, hU⟩
    | succ g' =>
      have hlt : (i : Int) < E.length := by omega
      obtain ⟨e, he⟩ : ∃ e, E[i]? = some e := ⟨_, List.getElem?_eq_getElem (by omega)⟩
      obtain ⟨H, cap, rfl, hcap, c0, c1, c2⟩ := HB.out.spot he
      obtain ⟨ys, ho, -⟩ := HL.out.own i e he
      have hlen := HL.out.len i e he
      have hnum := HL.out.num i e he
      obtain ⟨sp, ec, hv, hsp, hsp2, hmx⟩ := own_form ho
      have HE : Hid (E[i]? = some e) := he
      clear he
      obtain ⟨la, lb, lc, hlong⟩ := HB.out.lng i e HE.out
      obtain ⟨ev, el, elong, enum⟩ := e
      simp only at hv hlong c0 c1 c2 ho hlen hnum hsp hmx
      subst hv hlong
      have hlt2 := HB.out.row.lt H rfl
      have hA := alloc_at wr (.cells #[.slice sp el ec, .slice la lb lc, .int .i64 enum] 113)
      have hb1 := alloc_below wr (.cells #[.slice sp el ec, .slice la lb lc, .int .i64 enum] 113)
      have hne : ∀ g, sp = some ⟨g, 0, none⟩ → g < wr.heap.size := fun g e => (ho.lt g (by rw [e]; rfl)).2
      go_wp2
      have HO : Hid (wr.ownsRow B 23 1 (.slice sp el ec) el ys) := ho
      have hyl : ys.length = el := by have := ho.1; omega
      have HY : Hid (ys.length = el) := hyl
      clear ho c0 c1 c2 ch hyl
      have H1 : Hid (Below wr.heap.size wr (wr.alloc (.cells #[.slice sp el ec, .slice la lb lc, .int .i64 enum] 113))) := hb1
      have HA : Hid ((wr.alloc (.cells #[.slice sp el ec, .slice la lb lc, .int .i64 enum] 113)).heap[wr.heap.size]? = some (.cells #[.slice sp el ec, .slice la lb lc, .int .i64 enum] 113 (0, 0))) := hA
      clear hb1 hA
      generalize wr.alloc (.cells #[.slice sp el ec, .slice la lb lc, .int .i64 enum] 113) = w0 at *
      obtain ⟨N, hN⟩ : ∃ N, wr.heap.size = N := ⟨_, rfl⟩
      rw [hN] at hne HA
      rw [hN]
      have HN : Hid (wr.heap.size = N) := hN
      clear hN
      go_loopg [4] el (fun gk s4 wx => ∃ k : Nat, k + gk = el ∧ s4 = .int .i64 k ∧ Buts (Value.slice sp el ec).ownBlock.toList w0 wx ∧ Hid (wx.ownsRow B 23 1 (.slice sp el ec) el (List.replicate k (.int .u32 (mk enum)) ++ ys.drop k)))
      case atStart => exact ⟨0, by omega, rfl, Buts.refl _ _, by show World.ownsRow _ _ _ _ _ _ _; simpa using owns_of HO.out (fun g hg => H1.out.block g (HO.out.lt g hg).2)⟩
      case round =>
        obtain ⟨k, hkg, rfl, hV, HR⟩ := hrel
        have hNl : N < w0.heap.size := at_lt HA.out
        have hNn : N ∉ (Value.slice sp el ec).ownBlock.toList := by
          intro hm
          rcases hsp2 with rfl | ⟨g, rfl, -⟩
          · simp [Value.ownBlock] at hm
          · have : N = g := by simpa [Value.ownBlock] using hm
            have := hne g rfl
            omega
        have hh := (hV.block N hNl hNn).trans HA.out
        have d0 := cell_of (i := 0) hh
        have d2 := cell_of (i := 2) hh
        simp only [List.getElem?_toArray, List.getElem?_cons_zero, List.getElem?_cons_succ] at d0 d2
        cases gk with
        | zero =>
          obtain rfl : k = el := by omega
          have HF : Hid _ := fill_end HB.out HL.out HE.out H1.out hV (by have := HR.out; rwa [List.drop_of_length_le (by rw [HY.out]; omega), List.append_nil] at this)
          go_wp2
          go_roundg g'
          case measure => omega
          case rel => exact ⟨i + 1, by omega, by go_num, HF.out.1, HF.out.2.1, hU.trans HF.out.2.2⟩
        | succ g2 =>
          obtain ⟨g, rfl⟩ := hsp (by omega)
          have hkl : k < (List.replicate k (Value.int .u32 (mk enum)) ++ ys.drop k).length := by simp [HY.out]; omega
          have k1 := HR.out.cellAt k (by omega)
          rw [List.getElem?_eq_getElem hkl] at k1
          have k2 := HR.out.frozenAt k
          have HS : Hid ((wr.setCell ⟨g, k, none⟩ (.int .u32 (mk enum))).ownsRow B 23 1 (.slice (some ⟨g, 0, none⟩) el ec) el (List.replicate (k + 1) (.int .u32 (mk enum)) ++ ys.drop (k + 1))) := by
            have := (HR.out.stored k (.int .u32 (mk enum))).1
            rwa [fill_set _ _ _ (by rw [HY.out]; omega)] at this
          have hlt3 : (k : Int) < el := by omega
          generalize (List.replicate k (Value.int .u32 (mk enum)) ++ ys.drop k)[k] = y at *
          go_wp2
          go_region_with (first | (go_at_call 63; refine (mark_any _ hnum _).mono ?_; rintro e w' ⟨rfl, rfl⟩))
          all_goals
            go_wp2
            go_roundg g2
            case measure => omega
            case rel => exact ⟨k + 1, by omega, by go_num, (hV.trans ((Buts.cell wr g k _).mono (by simp [Value.ownBlock]))).drew, owns_of HS.out (fun _ _ => rfl)⟩
end Go.Proofs.YteicnekoogmmmaaGreatDoor
namespace Go.Proofs.YteicnekoogmmmaaGreatDoor
open Go Go.RowKit
set_option maxRecDepth 100000
set_option linter.unusedVariables false
theorem infoE : (Tryz.prog.info? 23).map (fun i => (i.zero, i.size, i.bytes)) = some (some (.int .u32 0), 1, 4) := by kernel_rfl
/-- one more behind a list that is one's own: in its place, or in a new block -/
theorem app2 {w : World} {B n b : Nat} {v x : Value} {xs : List Value} (hown : w.ownsRow B 23 1 v n xs) (hb : w.cell? ⟨b, 0, none⟩ = some x) (hx : x.oneCell' = true) (hn : n + 1 ≤ 2000000) (hbase : B ≤ w.heap.size) :
    ∃ g cap w', (Builtin.append_ #[53, 53] 53 #[v, .slice (some ⟨b, 0, none⟩) 1 1]).run Tryz.prog w = .ok (.slice (some ⟨g, 0, none⟩) (n + 1) cap) w' ∧ w'.ownsRow B 23 1 (.slice (some ⟨g, 0, none⟩) (n + 1) cap) (n + 1) (xs ++ [x]) ∧ ((v.ownBlock = some g ∧ Buts [g] w w') ∨ (g = w.heap.size ∧ Below w.heap.size w w')) := by
  obtain ⟨i, hi, he⟩ := Option.map_eq_some_iff.1 infoE
  have h1 : i.zero = some (.int .u32 0) := by simpa using congrArg Prod.fst he
  have h2 : i.size = 1 := by simpa using congrArg (fun x => x.2.1) he
  have h3 : i.bytes = 4 := by simpa using congrArg (fun x => x.2.2) he
  have hnews : ∀ j u, ([x] : List Value)[j]? = some u → w.cell? ((⟨b, 0, none⟩ : Addr).add j) = some u := by
    intro j u hj
    rcases j with _ | j
    · simp only [List.getElem?_cons_zero] at hj
      rw [← hj]
      exact hb
    · simp at hj
  have hone : ∀ u ∈ ([x] : List Value), u.oneCell' = true := by intro u hu; rw [List.mem_singleton] at hu; subst hu; exact hx
  obtain ⟨g, cap, w', hr, ho, hg, hat, hlt⟩ := run_append_lies (P := Tryz.prog) w 53 53 B 23 i (.int .u32 0) 1 4 Tryz.underlying53 hi h1 h2 h3 rfl (by omega) v n xs hown ⟨b, 0, none⟩ 1 1 [x] rfl hnews hone (by omega) (by simp only [maxLen]; omega) (by omega) hbase _ rfl
  refine ⟨g, cap, w', hr, ho, ?_⟩
  rcases hown.2 with ⟨rfl, rfl⟩ | ⟨g0, c0, cur, rfl, hbg, hh, hnc, hcm, hcs, htake⟩
  · have hr2 := run_append_nil (P := Tryz.prog) w 53 53 23 i (.int .u32 0) Tryz.underlying53 hi h1 ⟨b, 0, none⟩ 1 1 [x] (by rw [h2]; rfl) hnews (by omega) (by omega) (by rw [h3]; omega)
    rw [hr] at hr2
    simp only [Result.ok.injEq] at hr2
    right
    refine ⟨?_, ?_⟩
    · rcases hat with h | h
      · simp [Value.ownBlock] at h
      · exact h
    · rw [hr2.2]
      exact ((Below.refl _ _).drew).alloc (Nat.le_refl _) _
  · by_cases hroom : n + 1 ≤ c0
    · left
      have hr2 := run_append_room (P := Tryz.prog) w 53 53 23 i Tryz.underlying53 hi g0 n c0 cur hh ⟨b, 0, none⟩ 1 1 [x] (by rw [h2]; rfl) hnews hone hroom (by simp [h2]; omega)
      rw [hr] at hr2
      simp only [Result.ok.injEq, Value.slice.injEq, Option.some.injEq, Addr.mk.injEq] at hr2
      have e : g = g0 := hr2.1.1.1
      refine ⟨by rw [e]; rfl, ?_⟩
      have := Buts.grown hg
      simpa [Value.ownBlock, e] using this
    · right
      have hr2 := run_append_grow (P := Tryz.prog) w 53 53 23 i (.int .u32 0) Tryz.underlying53 hi h1 ⟨g0, 0, none⟩ n c0 xs (by rw [h2]; exact hown.1) (hown.cells (g := g0) rfl) ⟨b, 0, none⟩ 1 1 [x] (by rw [h2]; rfl) hnews (by omega) (by omega) (growslice_fits (by omega) (by rw [h3]; omega))
      rw [hr] at hr2
      simp only [Result.ok.injEq, Value.slice.injEq, Option.some.injEq, Addr.mk.injEq] at hr2
      refine ⟨hr2.1.1.1, ?_⟩
      rw [hr2.2]
      exact ((Below.refl _ _).drew).alloc (Nat.le_refl _) _
/-- the same at the call -/
theorem wpList_app2 {w : World} {ops : Array Oper} {rest : List Oper} {o : Oper} {a : Act} {Q : Exit → Act → World → Prop} (hgd : o.guard = none) (s x : Operand)
    (ho : o.op = .call { callee := .builtin .append, args := #[s, x], argTypes := #[53, 53] }) (hty : o.type = 53) {B n b : Nat} {v u : Value} {xs : List Value} (hse : a.eval s = v) (hx : a.eval x = .slice (some ⟨b, 0, none⟩) 1 1)
    (hown : w.ownsRow B 23 1 v n xs) (hb : w.cell? ⟨b, 0, none⟩ = some u) (hu : u.oneCell' = true) (hn : n + 1 ≤ 2000000) (hbase : B ≤ w.heap.size)
    (h : ∀ g cap w', Hid (w'.ownsRow B 23 1 (.slice (some ⟨g, 0, none⟩) (n + 1) cap) (n + 1) (xs ++ [u])) → Hid ((v.ownBlock = some g ∧ Buts [g] w w') ∨ (g = w.heap.size ∧ Below w.heap.size w w')) → wpList Tryz.prog ops Q rest (a.put o.dst (.slice (some ⟨g, 0, none⟩) (n + 1) cap)) w') : wpList Tryz.prog ops Q (o :: rest) a w := by
  refine wpList_plain hgd fun K hK => ?_
  obtain ⟨g, cap, w', hr, h1, h2⟩ := app2 hown hb hu hn hbase
  unfold Oper.wp execOp
  simp only [ho, resolve, invoke, builtin, Sem.run_bind, Sem.run_pure, Result.andThen_ok, List.map_toArray, List.map_cons, List.map_nil, hse, hx]
  rw [hty, hr]
  exact hK _ _ (h g cap w' h1 h2)
/-- a list that can be read: so many, all the same -/
def Rd (w : World) (v : Value) (n : Nat) (x : Value) : Prop := ∃ sp cap, v = .slice sp n cap ∧ (0 < n → ∃ g cur, sp = some ⟨g, 0, none⟩ ∧ w.heap[g]? = some (.cells cur 23 (0, 0)) ∧ ∀ q, q < n → cur[q]? = some x)
theorem Rd.of {w : World} {B : Nat} {v : Value} {n : Nat} {x : Value} (h : w.ownsRow B 23 1 v n (List.replicate n x)) : Rd w v n x := by
  rcases h.2 with ⟨rfl, rfl⟩ | ⟨g, cap, cur, rfl, _, hh, hc, _, hs, ht⟩
  · exact ⟨none, 0, rfl, by omega⟩
  · refine ⟨_, cap, rfl, fun _ => ⟨g, cur, rfl, hh, fun q hq => ?_⟩⟩
    have : (List.replicate n x)[q]? = some x := by simp [hq]
    rw [← ht, List.getElem?_take, if_pos (by omega)] at this
    simpa using this
theorem Rd.buts {w w' : World} {l : List Nat} {v : Value} {n : Nat} {x : Value} (h : Rd w v n x) (hb : Buts l w w') (hl : ∀ g cur, 0 < n → v.ownBlock = some g → w.heap[g]? = some (.cells cur 23 (0, 0)) → g ∉ l) : Rd w' v n x := by
  obtain ⟨sp, cap, rfl, hc⟩ := h
  refine ⟨sp, cap, rfl, fun hn => ?_⟩
  obtain ⟨g, cur, rfl, hh, hq⟩ := hc hn
  exact ⟨g, cur, rfl, (hb.block g (at_lt hh) (hl g cur hn rfl hh)).trans hh, hq⟩
/-- the lists while they are grown -/
structure Gl (B : Nat) (w : World) (E : List Ent) (i : Nat) : Prop where
  own : ∀ (j : Nat) (e : Ent), i ≤ j → E[j]? = some e → w.ownsRow B 23 1 e.v e.len (List.replicate e.len (.int .u32 (mk e.num)))
  rdv : ∀ (j : Nat) (e : Ent), j < i → E[j]? = some e → Rd w e.v e.len (.int .u32 (mk e.num))
  rdl : ∀ (j : Nat) (e : Ent), j < i → E[j]? = some e → Rd w e.long (e.len + 40) (.int .u32 (mk e.num))
  far : ∀ (j k : Nat) (e f : Ent), j < i → i ≤ k → E[j]? = some e → E[k]? = some f → ∀ g, e.long.ownBlock = some g → f.v.ownBlock ≠ some g
  sep : ∀ (j k : Nat) (e f : Ent), j ≠ k → E[j]? = some e → E[k]? = some f → ∀ g, e.v.ownBlock = some g → f.v.ownBlock ≠ some g
  num : ∀ (j : Nat) (e : Ent), E[j]? = some e → 0 ≤ e.num ∧ e.num ≤ 1000
  len : ∀ (j : Nat) (e : Ent), E[j]? = some e → e.len ≤ 1000000
theorem Gl.start {B : Nat} {w : World} {E : List Ent} (h : Lists B w E E.length) : Gl B w E 0 :=
  ⟨fun j e _ he => by
    obtain ⟨ys, ho, hy⟩ := h.own j e he
    rw [← hy (List.getElem?_eq_some_iff.1 he).1]
    exact ho, fun j e hj => by omega, fun j e hj => by omega, fun j k e f hj => by omega, h.sep, h.num, h.len⟩
theorem set_cases {E : List Ent} {i j : Nat} {e f : Ent} {V : Value} (he : E[i]? = some e) (hf : (E.set i { e with long := V })[j]? = some f) :
    (j = i ∧ f = { e with long := V }) ∨ (j ≠ i ∧ E[j]? = some f) := by
  have hi : i < E.length := (List.getElem?_eq_some_iff.1 he).1
  by_cases h : j = i
  · subst h
    rw [List.getElem?_set_self hi] at hf
    exact Or.inl ⟨rfl, (Option.some.inj hf).symm⟩
  · rw [List.getElem?_set_ne (Ne.symm h)] at hf
    exact Or.inr ⟨h, hf⟩
theorem grow_end {B : Nat} {wr w0 wx : World} {K H cap : Nat} {n : Int} {E : List Ent} {i : Nat} {e : Ent} {V : Value} (hb : Bk B wr K n (.slice (some ⟨H, 0, none⟩) E.length cap) E) (hl : Gl B wr E i) (he : E[i]? = some e) (h1 : Below wr.heap.size wr w0) (hV : Buts e.v.ownBlock.toList w0 wx)
    (ho : wx.ownsRow B 23 1 V (e.len + 40) (List.replicate (e.len + 40) (.int .u32 (mk e.num)))) (hr : Rd wx e.v e.len (.int .u32 (mk e.num))) (hloc : ∀ g, V.ownBlock = some g → e.v.ownBlock = some g ∨ w0.heap.size ≤ g) :
    Bk B (wx.setCell ⟨H, i * 3 + 1, none⟩ V) K n (.slice (some ⟨H, 0, none⟩) E.length cap) (E.set i { e with long := V }) ∧ Gl B (wx.setCell ⟨H, i * 3 + 1, none⟩ V) (E.set i { e with long := V }) (i + 1) ∧ Below B wr (wx.setCell ⟨H, i * 3 + 1, none⟩ V) := by
  have hu : Buts e.v.ownBlock.toList wr wx := (Buts.of h1).trans hV
  have hy := hl.own i e (Nat.le_refl _) he
  have hbx : Bk B wx K n (.slice (some ⟨H, 0, none⟩) E.length cap) E := by
    refine hb.buts hu ?_ ?_
    · intro hm
      exact block_ne hy (by simpa using hm) hb.head (by decide) rfl
    · intro g hg hm
      exact own_ne hy (by simpa using hm) hb.row hg (by decide) rfl
  have hS : Buts [H] wx (wx.setCell ⟨H, i * 3 + 1, none⟩ V) := Buts.cell _ _ _ _
  have hHK : H ≠ K := hb.ne H rfl
  obtain ⟨curH, hHh⟩ : ∃ cur, wx.heap[H]? = some (.cells cur 113 (0, 0)) := by
    rcases hbx.row.2 with ⟨e', _⟩ | ⟨g', c, cur, e', _, hh, _⟩
    · cases e'
    · simp only [Value.slice.injEq, Option.some.injEq, Addr.mk.injEq, and_true, true_and] at e'
      obtain ⟨rfl, rfl⟩ := e'
      exact ⟨cur, hh⟩
  have hnH : ∀ g cur, wx.heap[g]? = some (.cells cur 23 (0, 0)) → g ∉ [H] := by
    intro g cur hg hm
    have : g = H := by simpa using hm
    subst this
    rw [hHh] at hg
    simp only [Option.some.injEq, Obj.cells.injEq] at hg
    exact absurd hg.2.1 (by decide)
  have hoH : ∀ (x : Value) (m : Nat) (xs : List Value), wx.ownsRow B 23 1 x m xs → ∀ g, x.ownBlock = some g → g ∉ [H] := by
    intro x m xs hx g hg hm
    exact own_ne hx hg hbx.row rfl (by decide) (by simpa using hm)
  obtain ⟨sV, cV, eV, -, -, -⟩ := own_form ho
  refine ⟨⟨?_, ?_, hb.ne, hb.base, by rw [List.length_set]; exact hb.few, hb.small, ?_⟩, ⟨?_, ?_, ?_, ?_, ?_, ?_, ?_⟩, ?_⟩
  · exact (hS.block K (at_lt hbx.head) (by simpa using (Ne.symm hHK))).trans hbx.head
  · have := (hbx.row.stored (i * 3 + 1) V).1
    rw [flat_set E i e V he] at this
    rw [List.length_set]
    exact this
  · intro j f hf
    rcases set_cases he hf with ⟨rfl, rfl⟩ | ⟨_, hf'⟩
    · exact ⟨_, _, _, eV⟩
    · exact hb.lng j f hf'
  · intro j f hj hf
    rcases set_cases he hf with ⟨rfl, rfl⟩ | ⟨hne, hf'⟩
    · omega
    · have h2 := owns_buts (hl.own j f (by omega) hf') hu (fun g hg hm => hl.sep j i f e hne hf' he g hg (by simpa using hm))
      exact owns_buts h2 hS (fun g hg => hoH _ _ _ h2 g hg)
  · intro j f hj hf
    rcases set_cases he hf with ⟨rfl, rfl⟩ | ⟨hne, hf'⟩
    · exact hr.buts hS (fun g cur _ _ hg => hnH g cur hg)
    · exact ((hl.rdv j f (by omega) hf').buts hu (fun g cur _ hg _ hm => hl.sep j i f e hne hf' he g hg (by simpa using hm))).buts hS (fun g cur _ _ hg => hnH g cur hg)
  · intro j f hj hf
    rcases set_cases he hf with ⟨rfl, rfl⟩ | ⟨hne, hf'⟩
    · exact (Rd.of ho).buts hS (fun g cur _ _ hg => hnH g cur hg)
    · exact ((hl.rdl j f (by omega) hf').buts hu (fun g cur _ hg _ hm => hl.far j i f e (by omega) (Nat.le_refl _) hf' he g hg (by simpa using hm))).buts hS (fun g cur _ _ hg => hnH g cur hg)
  · intro j k f f2 hj hk hf hf2 g hg
    rcases set_cases he hf2 with ⟨rfl, rfl⟩ | ⟨hne2, hf2'⟩
    · omega
    · rcases set_cases he hf with ⟨rfl, rfl⟩ | ⟨hne, hf'⟩
      · rcases hloc g hg with h | h
        · exact hl.sep j k e f2 (by omega) he hf2' g h
        · intro h'
          have := (hl.own k f2 (by omega) hf2').lt g h'
          have := h1.size
          omega
      · exact hl.far j k f f2 (by omega) (by omega) hf' hf2' g hg
  · intro j k f f2 hjk hf hf2 g hg
    rcases set_cases he hf with ⟨rfl, rfl⟩ | ⟨hne, hf'⟩
    · rcases set_cases he hf2 with ⟨rfl, rfl⟩ | ⟨hne2, hf2'⟩
      · exact absurd rfl hjk
      · exact hl.sep j k e f2 hjk he hf2' g hg
    · rcases set_cases he hf2 with ⟨rfl, rfl⟩ | ⟨hne2, hf2'⟩
      · exact hl.sep j k f e hjk hf' he g hg
      · exact hl.sep j k f f2 hjk hf' hf2' g hg
  · intro j f hf
    rcases set_cases he hf with ⟨rfl, rfl⟩ | ⟨hne, hf'⟩
    · exact hl.num j e he
    · exact hl.num j f hf'
  · intro j f hf
    rcases set_cases he hf with ⟨rfl, rfl⟩ | ⟨hne, hf'⟩
    · exact hl.len j e he
    · exact hl.len j f hf'
  · have hBw : B ≤ wr.heap.size := Nat.le_trans hb.base (Nat.le_of_lt (at_lt hb.head))
    refine (hu.below (fun x hx => (hy.lt x (by simpa using hx)).1) hBw).trans (hS.below (fun x hx => ?_) (Nat.le_trans hBw hu.size))
    have : x = H := by simpa using hx
    rw [this]
    exact (hb.row.lt H rfl).1
end Go.Proofs.YteicnekoogmmmaaGreatDoor
namespace Go.Proofs.YteicnekoogmmmaaGreatDoor
open Go Go.RowKit
set_option maxRecDepth 100000
set_option linter.unusedVariables false
theorem rep_snoc (n : Nat) (x : Value) : List.replicate n x ++ [x] = List.replicate (n + 1) x := (List.replicate_succ' ..).symm
/-- one more mark -/
theorem more_end {B : Nat} {w0 wx wy w' : World} {e V : Value} {g cap n k : Nat} {x : Value} (hrow : wx.ownsRow B 23 1 V (n + k) (List.replicate (n + k) x)) (hV : Buts e.ownBlock.toList w0 wx) (hr : Rd wx e n x) (hloc : ∀ g, V.ownBlock = some g → e.ownBlock = some g ∨ w0.heap.size ≤ g) (hlt : ∀ g, e.ownBlock = some g → g < w0.heap.size)
    (hy : Below wx.heap.size wx wy) (ho : w'.ownsRow B 23 1 (.slice (some ⟨g, 0, none⟩) (n + k + 1) cap) (n + k + 1) (List.replicate (n + k) x ++ [x])) (hg : (V.ownBlock = some g ∧ Buts [g] wy w') ∨ (g = wy.heap.size ∧ Below wy.heap.size wy w')) :
    w'.ownsRow B 23 1 (.slice (some ⟨g, 0, none⟩) (n + (k + 1)) cap) (n + (k + 1)) (List.replicate (n + (k + 1)) x) ∧ Buts e.ownBlock.toList w0 w' ∧ Rd w' e n x ∧ (∀ g', (Value.slice (some ⟨g, 0, none⟩) (n + (k + 1)) cap).ownBlock = some g' → e.ownBlock = some g' ∨ w0.heap.size ≤ g') := by
  rw [rep_snoc] at ho
  have hwy : Buts e.ownBlock.toList w0 wy := hV.trans (Buts.of hy)
  have hry : Rd wy e n x := hr.buts (l := []) (Buts.of hy) (fun _ _ _ _ _ => by simp)
  refine ⟨ho, ?_⟩
  rcases hg with ⟨h1, h2⟩ | ⟨h1, h2⟩
  · have hl := hloc g h1
    by_cases he : e.ownBlock = some g
    · refine ⟨hwy.trans (h2.mono (by simp [he])), ?_, fun g' hg' => Or.inl (by have h : g = g' := (by simpa [Value.ownBlock] using hg'); rw [← h]; exact he)⟩
      obtain ⟨sp, c, rfl, hc⟩ := hry
      refine ⟨sp, c, rfl, fun hn => ?_⟩
      obtain ⟨g0, cur, rfl, hh, hq⟩ := hc hn
      have e0 : g0 = g := by simpa [Value.ownBlock] using he
      subst e0
      obtain ⟨sp2, c2, e2, h3⟩ := Rd.of ho
      obtain ⟨g2, cur2, e3, hh2, hq2⟩ := h3 (by omega)
      simp only [Value.slice.injEq] at e2
      have e4 := e2.1.trans e3
      simp only [Option.some.injEq, Addr.mk.injEq, and_true] at e4
      rw [← e4] at hh2
      exact ⟨_, cur2, rfl, hh2, fun q hq' => hq2 q (by omega)⟩
    · have hge : w0.heap.size ≤ g := by
        rcases hl with h | h
        · exact absurd h he
        · exact h
      refine ⟨?_, hry.buts h2 (fun g' cur _ hg' _ hm => ?_), fun g' hg' => Or.inr (by have h : g = g' := (by simpa [Value.ownBlock] using hg'); omega)⟩
      · exact ⟨h2.os.trans hwy.os, h2.tape.trans hwy.tape, h2.output.trans hwy.output, Nat.le_trans hwy.size h2.size, fun j hj hm => (h2.block j (Nat.lt_of_lt_of_le hj hwy.size) (by simp; omega)).trans (hwy.block j hj hm)⟩
      · have : g' = g := by simpa using hm
        rw [this] at hg'
        exact he hg'
  · refine ⟨hwy.trans (Buts.of h2), hry.buts (l := []) (Buts.of h2) (fun _ _ _ _ _ => by simp), fun g' hg' => Or.inr ?_⟩
    have : g = g' := by simpa [Value.ownBlock] using hg'
    have := hwy.size
    omega
set_option maxHeartbeats 4000000 in
theorem grow_any {B : Nat} {w : World} {K : Nat} {n : Int} {v : Value} {E : List Ent} (hb : Bk B w K n v E) (hl : Gl B w E 0) :
    Calls Tryz.prog 35 #[.pointer (some ⟨K, 0, none⟩)] w fun e w' => e = .returned (.tuple #[]) ∧ ∃ F : List Ent, F.length = E.length ∧ Bk B w' K n v F ∧ Gl B w' F E.length ∧ Below B w w' := by
  have HB : Hid (Bk B w K n v E) := hb
  have HL : Hid (Gl B w E 0) := hl
  clear hb hl
  have hf := HB.out.few
  obtain ⟨m, hm⟩ : ∃ m, E.length = m := ⟨_, rfl⟩
  rw [hm] at hf ⊢
  have HM : Hid (E.length = m) := hm
  clear hm
  go_enter Tryz.func35, Tryz.ntmps35
  go_wp2
  go_loopg [2] m (fun gk s2 wx => ∃ (i : Nat) (F : List Ent), i + gk = m ∧ s2 = .int .i64 i ∧ Hid (F.length = m) ∧ Hid (Bk B wx K n v F) ∧ Hid (Gl B wx F i) ∧ Below B w wx)
  case atStart => exact ⟨0, E, by omega, rfl, HM, HB, HL, Below.refl _ _⟩
  case round =>
    clear HB HL HM
    obtain ⟨i, F, hig, rfl, HM, HB, HL, hU⟩ := hrel
    have ch : wr.cell? ⟨K, 2, none⟩ = some v := by rw [cell_of HB.out.head]; rfl
    cases gk with
    | zero =>
      obtain ⟨sp, cap, hv, -, -, -⟩ := own_form HB.out.row
      rw [HM.out] at hv
      subst hv
      have hlt : ¬ ((i : Int) < m) := by omega
      go_wp2
      go_end0
      obtain rfl : i = m := by omega
      exact ⟨rfl, F, HM.out, HB.out, HL.out, hU⟩
    | succ g' =>
      have hlt : (i : Int) < m := by omega
      obtain ⟨e, he⟩ : ∃ e, F[i]? = some e := ⟨_, List.getElem?_eq_getElem (by rw [HM.out]; omega)⟩
      obtain ⟨H, cap, hv, hcap, c0, c1, c2⟩ := HB.out.spot he
      have ho := HL.out.own i e (Nat.le_refl _) he
      have hlen := HL.out.len i e he
      have hnum := HL.out.num i e he
      obtain ⟨sp, ec, hev, hsp, hsp2, hmx⟩ := own_form ho
      have HE : Hid (F[i]? = some e) := he
      clear he
      obtain ⟨la, lb, lc, hlong⟩ := HB.out.lng i e HE.out
      obtain ⟨ev, el, elong, enum⟩ := e
      simp only at hev hlong c0 c1 c2 ho hlen hnum hsp hmx
      subst hev hlong
      rw [HM.out] at hv hcap
      subst hv
      have hlt2 := HB.out.row.lt H rfl
      have hA := alloc_at wr (.cells #[.slice sp el ec, .slice la lb lc, .int .i64 enum] 113)
      have hb1 := alloc_below wr (.cells #[.slice sp el ec, .slice la lb lc, .int .i64 enum] 113)
      have hne : ∀ g, (Value.slice sp el ec).ownBlock = some g → g < wr.heap.size := fun g e => (ho.lt g e).2
      have hNB : B ≤ wr.heap.size := Nat.le_trans HB.out.base (Nat.le_of_lt (at_lt HB.out.head))
      have hKl := at_lt HB.out.head
      go_wp2
      have HO : Hid (wr.ownsRow B 23 1 (.slice sp el ec) el (List.replicate el (.int .u32 (mk enum)))) := ho
      clear ho c0 c1 c2 ch
      have H1 : Hid (Below wr.heap.size wr (wr.alloc (.cells #[.slice sp el ec, .slice la lb lc, .int .i64 enum] 113))) := hb1
      have HA : Hid ((wr.alloc (.cells #[.slice sp el ec, .slice la lb lc, .int .i64 enum] 113)).heap[wr.heap.size]? = some (.cells #[.slice sp el ec, .slice la lb lc, .int .i64 enum] 113 (0, 0))) := hA
      clear hb1 hA
      generalize wr.alloc (.cells #[.slice sp el ec, .slice la lb lc, .int .i64 enum] 113) = w0 at *
      have hsz := H1.out.size
      obtain ⟨N, hN⟩ : ∃ N, wr.heap.size = N := ⟨_, rfl⟩
      rw [hN] at hne HA hsz hNB hKl hlt2
      rw [hN]
      have HN : Hid (wr.heap.size = N) := hN
      clear hN
      have hnH : H ∉ (Value.slice sp el ec).ownBlock.toList := fun hm => own_ne HO.out (by simpa using hm) HB.out.row rfl (by decide) rfl
      have hnK : K ∉ (Value.slice sp el ec).ownBlock.toList := fun hm => block_ne HO.out (by simpa using hm) HB.out.head (by decide) rfl
      have hNn : N ∉ (Value.slice sp el ec).ownBlock.toList := fun hm => by have := hne N (by simpa using hm); omega
      go_loopg [4, 5] 40 (fun gk s4 s5 wx => ∃ (k : Nat) (sp' : Option Addr) (cp : Nat), k + gk = 40 ∧ s5 = .int .i64 k ∧ s4 = .slice sp' (el + k) cp ∧ Hid (wx.ownsRow B 23 1 (.slice sp' (el + k) cp) (el + k) (List.replicate (el + k) (.int .u32 (mk enum)))) ∧ Buts (Value.slice sp el ec).ownBlock.toList w0 wx ∧ Hid (Rd wx (.slice sp el ec) el (.int .u32 (mk enum))) ∧ Hid (∀ g, (Value.slice sp' (el + k) cp).ownBlock = some g → (Value.slice sp el ec).ownBlock = some g ∨ w0.heap.size ≤ g))
      case atStart =>
        have h0 := owns_of (w' := w0) HO.out (fun g hg => H1.out.block g (HO.out.lt g hg).2)
        exact ⟨0, sp, ec, by omega, rfl, rfl, h0, Buts.refl _ _, Rd.of h0, fun g hg => Or.inl hg⟩
      case round =>
        obtain ⟨k, sp', cp, hkg, rfl, rfl, HV, hV, HR, HC⟩ := hrel
        have hNl : N < w0.heap.size := at_lt HA.out
        have hh := (hV.block N hNl hNn).trans HA.out
        have d2 := cell_of (i := 2) hh
        simp only [List.getElem?_toArray, List.getElem?_cons_zero, List.getElem?_cons_succ] at d2
        cases gk with
        | zero =>
          obtain rfl : k = 40 := by omega
          have hbw := (hV.block K (by omega) hnK).trans ((H1.out.block K (by rw [HN.out]; exact hKl)).trans HB.out.head)
          have ch := cell_of (i := 2) hbw
          have ch' : wr.cell? ⟨K, 2, none⟩ = some (.slice (some ⟨H, 0, none⟩) m cap) := by rw [ch]; rfl
          clear ch
          have hrw := owns_buts (owns_of (w' := w0) HB.out.row (fun g hg => H1.out.block g (HB.out.row.lt g hg).2)) hV (fun g hg => by have : H = g := (by simpa [Value.ownBlock] using hg); rw [← this]; exact hnH)
          have hcc := flat_at F i _ HE.out 1 (by omega)
          have c1 : wr.cell? ⟨H, i * 3 + 1, none⟩ = some (.slice la lb lc) := by
            rw [HM.out] at hrw
            rw [hrw.cellAt (i * 3 + 1) (by omega)]; exact hcc
          have f1 : wr.frozen? ⟨H, i * 3 + 1, none⟩ = false := by
            rw [HM.out] at hrw
            exact hrw.frozenAt _
          have hbF := HB.out
          have HF : Hid _ := grow_end (by have := HB.out; rwa [← HM.out] at this) HL.out HE.out H1.out hV HV.out HR.out HC.out
          clear hcc hrw hbw hbF
          rw [HM.out] at HF
          go_wp2
          go_roundg g'
          case measure => omega
          case rel => exact ⟨i + 1, _, by omega, by go_num, by show _ = _; rw [List.length_set]; exact HM.out, HF.out.1, HF.out.2.1, hU.trans HF.out.2.2⟩
        | succ g2 =>
          have hA2 := alloc_at wr (.cells #[.int .u32 (mk enum)] 23)
          have hb2 := alloc_below wr (.cells #[.int .u32 (mk enum)] 23)
          have hc2 : (wr.alloc (.cells #[.int .u32 (mk enum)] 23)).cell? ⟨wr.heap.size, 0, none⟩ = some (.int .u32 (mk enum)) := by rw [cell_of hA2]; rfl
          have HV2 : Hid _ := owns_of (w' := wr.alloc (.cells #[.int .u32 (mk enum)] 23)) HV.out (fun g hg => hb2.block g (HV.out.lt g hg).2)
          have hbs : B ≤ (wr.alloc (.cells #[.int .u32 (mk enum)] 23)).heap.size := by have := hb2.size; have := hV.size; omega
          go_wp2_with (first
            | (go_at_call 63; refine (mark_any _ hnum _).mono ?_; rintro e w' ⟨rfl, rfl⟩)
            | (at_builtin; refine wpList_app2 rfl (.tmp 28) (.tmp 32) rfl rfl rfl rfl HV2.out hc2 rfl (by omega) hbs ?_; intro g5 cap5 w5 HO5 HG5))
          go_roundg g2
          case measure => omega
          case rel =>
            have hq := more_end HV.out hV HR.out HC.out (fun g hg => by have := hne g hg; omega) hb2 HO5.out HG5.out
            exact ⟨k + 1, _, _, by omega, by go_num, rfl, hq.1, hq.2.1, hq.2.2.1, hq.2.2.2⟩
end Go.Proofs.YteicnekoogmmmaaGreatDoor
namespace Go.Proofs.YteicnekoogmmmaaGreatDoor
open Go Go.RowKit
set_option maxRecDepth 100000
set_option linter.unusedVariables false
theorem Rd.below {w w' : World} {v : Value} {n : Nat} {x : Value} (h : Rd w v n x) (hb : Below w.heap.size w w') : Rd w' v n x := h.buts (l := []) (Buts.of hb) (fun _ _ _ _ _ => by simp)
theorem Rd.form {w : World} {v : Value} {n : Nat} {x : Value} (h : Rd w v n x) : ∃ sp cap, v = .slice sp n cap ∧ ∀ q, q < n → ∃ g, sp = some ⟨g, 0, none⟩ ∧ w.cell? ⟨g, q, none⟩ = some x := by
  obtain ⟨sp, cap, rfl, hc⟩ := h
  refine ⟨sp, cap, rfl, fun q hq => ?_⟩
  obtain ⟨g, cur, rfl, hh, hx⟩ := hc (by omega)
  exact ⟨g, rfl, by rw [cell_of hh]; exact hx q hq⟩
set_option maxHeartbeats 4000000 in
theorem look_any {B : Nat} {w : World} {K : Nat} {n : Int} {v : Value} {E : List Ent} (hb : Bk B w K n v E) (hl : Gl B w E E.length) :
    Calls Tryz.prog 43 #[.pointer (some ⟨K, 0, none⟩)] w fun e w' => e = .returned (.bool true) ∧ Below w.heap.size w w' := by
  have HB : Hid (Bk B w K n v E) := hb
  have HL : Hid (Gl B w E E.length) := hl
  clear hb hl
  have hf := HB.out.few
  obtain ⟨m, hm⟩ : ∃ m, E.length = m := ⟨_, rfl⟩
  rw [hm] at hf
  have HM : Hid (E.length = m) := hm
  clear hm
  go_enter Tryz.func43, Tryz.ntmps43
  go_wp2
  go_loopg [3] m (fun gk s3 wx => ∃ i : Nat, i + gk = m ∧ s3 = .int .i64 i ∧ Below w.heap.size w wx)
  case atStart => exact ⟨0, by omega, rfl, Below.refl _ _⟩
  case round =>
    obtain ⟨i, hig, rfl, hU⟩ := hrel
    have HBr : Hid (Bk B wr K n v E) := HB.out.buts (l := []) (Buts.of hU) (by simp) (fun _ _ => by simp)
    have ch : wr.cell? ⟨K, 2, none⟩ = some v := by rw [cell_of HBr.out.head]; rfl
    cases gk with
    | zero =>
      obtain ⟨sp, cap, hv, -, -, -⟩ := own_form HB.out.row
      rw [HM.out] at hv
      subst hv
      have hlt : ¬ ((i : Int) < m) := by omega
      go_wp2
      go_ret
      exact ⟨rfl, hU⟩
    | succ g' =>
      have hlt : (i : Int) < m := by omega
      obtain ⟨e, he⟩ : ∃ e, E[i]? = some e := ⟨_, List.getElem?_eq_getElem (by rw [HM.out]; omega)⟩
      obtain ⟨H, cap, hv, hcap, c0, c1, c2⟩ := HBr.out.spot he
      have hlen := HL.out.len i e he
      have hnum := HL.out.num i e he
      have R1 := (HL.out.rdv i e (by rw [HM.out]; omega) he).below hU
      have R2 := (HL.out.rdl i e (by rw [HM.out]; omega) he).below hU
      obtain ⟨sp, ec, hev, -⟩ := R1.form
      obtain ⟨la, lc, hlong, -⟩ := R2.form
      have HE : Hid (E[i]? = some e) := he
      clear he
      obtain ⟨ev, el, elong, enum⟩ := e
      simp only at hev hlong c0 c1 c2 hlen hnum R1 R2
      subst hev hlong
      rw [HM.out] at hv hcap
      subst hv
      have HR1 : Hid (Rd wr (.slice sp el ec) el (.int .u32 (mk enum))) := R1
      have HR2 : Hid (Rd wr (.slice la (el + 40) lc) (el + 40) (.int .u32 (mk enum))) := R2
      clear R1 R2
      have hlt2 := HBr.out.row.lt H rfl
      have hA := alloc_at wr (.cells #[.slice sp el ec, .slice la (el + 40) lc, .int .i64 enum] 113)
      have hb1 := alloc_below wr (.cells #[.slice sp el ec, .slice la (el + 40) lc, .int .i64 enum] 113)
      go_wp2
      have HA : Hid ((wr.alloc (.cells #[.slice sp el ec, .slice la (el + 40) lc, .int .i64 enum] 113)).heap[wr.heap.size]? = some (.cells #[.slice sp el ec, .slice la (el + 40) lc, .int .i64 enum] 113 (0, 0))) := hA
      have H1 : Hid (Below wr.heap.size wr (wr.alloc (.cells #[.slice sp el ec, .slice la (el + 40) lc, .int .i64 enum] 113))) := hb1
      clear hb1 hA c0 c1 c2 ch
      generalize wr.alloc (.cells #[.slice sp el ec, .slice la (el + 40) lc, .int .i64 enum] 113) = w0 at *
      have HR1' : Hid (Rd w0 (.slice sp el ec) el (.int .u32 (mk enum))) := HR1.out.below H1.out
      have HR2' : Hid (Rd w0 (.slice la (el + 40) lc) (el + 40) (.int .u32 (mk enum))) := HR2.out.below H1.out
      have HU0 : Hid (Below w.heap.size w w0) := hU.trans (H1.out.mono hU.size)
      clear HR1 HR2 hU HBr
      generalize wr.heap.size = N at *
      have hNl : N < w0.heap.size := at_lt HA.out
      go_loopg [5] (el + 40) (fun gk s5 wx => ∃ k : Nat, k + gk = el + 40 ∧ s5 = .int .i64 k ∧ Below w0.heap.size w0 wx)
      case atStart => exact ⟨0, by omega, rfl, Below.refl _ _⟩
      case round =>
        obtain ⟨k, hkg, rfl, hV⟩ := hrel
        have hh := (hV.block N hNl).trans HA.out
        have d0 := cell_of (i := 0) hh
        have d1 := cell_of (i := 1) hh
        have d2 := cell_of (i := 2) hh
        simp only [List.getElem?_toArray, List.getElem?_cons_zero, List.getElem?_cons_succ] at d0 d1 d2
        cases gk with
        | zero =>
          obtain rfl : k = el + 40 := by omega
          have hU2 : Below w.heap.size w wr := HU0.out.trans (hV.mono HU0.out.size)
          go_wp2
          go_roundg g'
          case measure => omega
          case rel => exact ⟨i + 1, by omega, by go_num, hU2⟩
        | succ g2 =>
          obtain ⟨sa, ca, ea, fa⟩ := (HR2'.out.below hV).form
          obtain ⟨ga, rfl, ka⟩ := fa k (by omega)
          simp only [Value.slice.injEq] at ea
          obtain ⟨rfl, -, rfl⟩ := ea
          clear fa
          have hlt3 : (k : Int) < el + 40 := by omega
          by_cases hk : k < el
          · obtain ⟨sb, cb, eb, fb⟩ := (HR1'.out.below hV).form
            obtain ⟨gb, rfl, kb⟩ := fb k hk
            simp only [Value.slice.injEq] at eb
            obtain ⟨rfl, -, rfl⟩ := eb
            clear fb
            have dk : decide ((k : Int) < el) = true := by simpa using hk
            go_wp2
            go_quiet ((go_at_call 71; exact Calls.quiet_of_same (is_yes _ hnum _)))
            go_wp2
            go_roundg g2
            case measure => omega
            case rel => exact ⟨k + 1, by omega, by go_num, hV.trans ((below_drewN _ _).mono hV.size)⟩
          · have dk : decide ((k : Int) < el) = false := by simpa using hk
            go_wp2
            go_quiet ((go_at_call 71; exact Calls.quiet_of_same (is_yes _ hnum _)))
            go_wp2
            go_roundg g2
            case measure => omega
            case rel => exact ⟨k + 1, by omega, by go_num, hV.trans ((below_drewN _ _).mono hV.size)⟩
end Go.Proofs.YteicnekoogmmmaaGreatDoor
namespace Go.Proofs.YteicnekoogmmmaaGreatDoor
open Go Go.RowKit
set_option maxRecDepth 100000
set_option linter.unusedVariables false
theorem fill_none1 {w : World} {K : Nat} (h : w.cell? ⟨K, 1, none⟩ = some (.slice none 0 0)) : Calls Tryz.prog 26 #[.pointer (some ⟨K, 0, none⟩)] w fun e w' => e = .returned (.tuple #[]) ∧ w' = w := by
  go_enter Tryz.func26, Tryz.ntmps26
  go_wp2
  refine wp_loop_rounds 1 ?_
  rw [rounds_succ]
  go_wp2
  go_end0
  exact ⟨rfl, rfl⟩
theorem grow_none1 {w : World} {K : Nat} (h : w.cell? ⟨K, 1, none⟩ = some (.slice none 0 0)) : Calls Tryz.prog 34 #[.pointer (some ⟨K, 0, none⟩)] w fun e w' => e = .returned (.tuple #[]) ∧ w' = w := by
  go_enter Tryz.func34, Tryz.ntmps34
  go_wp2
  refine wp_loop_rounds 1 ?_
  rw [rounds_succ]
  go_wp2
  go_end0
  exact ⟨rfl, rfl⟩
theorem look_none1 {w : World} {K : Nat} (h : w.cell? ⟨K, 1, none⟩ = some (.slice none 0 0)) : Calls Tryz.prog 42 #[.pointer (some ⟨K, 0, none⟩)] w fun e w' => e = .returned (.bool true) ∧ w' = w := by
  go_enter Tryz.func42, Tryz.ntmps42
  go_wp2
  refine wp_loop_rounds 1 ?_
  rw [rounds_succ]
  go_wp2
  go_ret
  exact ⟨rfl, rfl⟩
theorem fill_none3 {w : World} {K : Nat} (h : w.cell? ⟨K, 3, none⟩ = some (.slice none 0 0)) : Calls Tryz.prog 28 #[.pointer (some ⟨K, 0, none⟩)] w fun e w' => e = .returned (.tuple #[]) ∧ w' = w := by
  go_enter Tryz.func28, Tryz.ntmps28
  go_wp2
  refine wp_loop_rounds 1 ?_
  rw [rounds_succ]
  go_wp2
  go_end0
  exact ⟨rfl, rfl⟩
theorem grow_none3 {w : World} {K : Nat} (h : w.cell? ⟨K, 3, none⟩ = some (.slice none 0 0)) : Calls Tryz.prog 36 #[.pointer (some ⟨K, 0, none⟩)] w fun e w' => e = .returned (.tuple #[]) ∧ w' = w := by
  go_enter Tryz.func36, Tryz.ntmps36
  go_wp2
  refine wp_loop_rounds 1 ?_
  rw [rounds_succ]
  go_wp2
  go_end0
  exact ⟨rfl, rfl⟩
theorem look_none3 {w : World} {K : Nat} (h : w.cell? ⟨K, 3, none⟩ = some (.slice none 0 0)) : Calls Tryz.prog 44 #[.pointer (some ⟨K, 0, none⟩)] w fun e w' => e = .returned (.bool true) ∧ w' = w := by
  go_enter Tryz.func44, Tryz.ntmps44
  go_wp2
  refine wp_loop_rounds 1 ?_
  rw [rounds_succ]
  go_wp2
  go_ret
  exact ⟨rfl, rfl⟩
theorem fill_none4 {w : World} {K : Nat} (h : w.cell? ⟨K, 4, none⟩ = some (.slice none 0 0)) : Calls Tryz.prog 29 #[.pointer (some ⟨K, 0, none⟩)] w fun e w' => e = .returned (.tuple #[]) ∧ w' = w := by
  go_enter Tryz.func29, Tryz.ntmps29
  go_wp2
  refine wp_loop_rounds 1 ?_
  rw [rounds_succ]
  go_wp2
  go_end0
  exact ⟨rfl, rfl⟩
theorem grow_none4 {w : World} {K : Nat} (h : w.cell? ⟨K, 4, none⟩ = some (.slice none 0 0)) : Calls Tryz.prog 37 #[.pointer (some ⟨K, 0, none⟩)] w fun e w' => e = .returned (.tuple #[]) ∧ w' = w := by
  go_enter Tryz.func37, Tryz.ntmps37
  go_wp2
  refine wp_loop_rounds 1 ?_
  rw [rounds_succ]
  go_wp2
  go_end0
  exact ⟨rfl, rfl⟩
theorem look_none4 {w : World} {K : Nat} (h : w.cell? ⟨K, 4, none⟩ = some (.slice none 0 0)) : Calls Tryz.prog 45 #[.pointer (some ⟨K, 0, none⟩)] w fun e w' => e = .returned (.bool true) ∧ w' = w := by
  go_enter Tryz.func45, Tryz.ntmps45
  go_wp2
  refine wp_loop_rounds 1 ?_
  rw [rounds_succ]
  go_wp2
  go_ret
  exact ⟨rfl, rfl⟩
theorem fill_none5 {w : World} {K : Nat} (h : w.cell? ⟨K, 5, none⟩ = some (.slice none 0 0)) : Calls Tryz.prog 30 #[.pointer (some ⟨K, 0, none⟩)] w fun e w' => e = .returned (.tuple #[]) ∧ w' = w := by
  go_enter Tryz.func30, Tryz.ntmps30
  go_wp2
  refine wp_loop_rounds 1 ?_
  rw [rounds_succ]
  go_wp2
  go_end0
  exact ⟨rfl, rfl⟩
theorem grow_none5 {w : World} {K : Nat} (h : w.cell? ⟨K, 5, none⟩ = some (.slice none 0 0)) : Calls Tryz.prog 38 #[.pointer (some ⟨K, 0, none⟩)] w fun e w' => e = .returned (.tuple #[]) ∧ w' = w := by
  go_enter Tryz.func38, Tryz.ntmps38
  go_wp2
  refine wp_loop_rounds 1 ?_
  rw [rounds_succ]
  go_wp2
  go_end0
  exact ⟨rfl, rfl⟩
theorem look_none5 {w : World} {K : Nat} (h : w.cell? ⟨K, 5, none⟩ = some (.slice none 0 0)) : Calls Tryz.prog 46 #[.pointer (some ⟨K, 0, none⟩)] w fun e w' => e = .returned (.bool true) ∧ w' = w := by
  go_enter Tryz.func46, Tryz.ntmps46
  go_wp2
  refine wp_loop_rounds 1 ?_
  rw [rounds_succ]
  go_wp2
  go_ret
  exact ⟨rfl, rfl⟩
theorem fill_none6 {w : World} {K : Nat} (h : w.cell? ⟨K, 6, none⟩ = some (.slice none 0 0)) : Calls Tryz.prog 31 #[.pointer (some ⟨K, 0, none⟩)] w fun e w' => e = .returned (.tuple #[]) ∧ w' = w := by
  go_enter Tryz.func31, Tryz.ntmps31
  go_wp2
  refine wp_loop_rounds 1 ?_
  rw [rounds_succ]
  go_wp2
  go_end0
  exact ⟨rfl, rfl⟩
theorem grow_none6 {w : World} {K : Nat} (h : w.cell? ⟨K, 6, none⟩ = some (.slice none 0 0)) : Calls Tryz.prog 39 #[.pointer (some ⟨K, 0, none⟩)] w fun e w' => e = .returned (.tuple #[]) ∧ w' = w := by
  go_enter Tryz.func39, Tryz.ntmps39
  go_wp2
  refine wp_loop_rounds 1 ?_
  rw [rounds_succ]
  go_wp2
  go_end0
  exact ⟨rfl, rfl⟩
theorem look_none6 {w : World} {K : Nat} (h : w.cell? ⟨K, 6, none⟩ = some (.slice none 0 0)) : Calls Tryz.prog 47 #[.pointer (some ⟨K, 0, none⟩)] w fun e w' => e = .returned (.bool true) ∧ w' = w := by
  go_enter Tryz.func47, Tryz.ntmps47
  go_wp2
  refine wp_loop_rounds 1 ?_
  rw [rounds_succ]
  go_wp2
  go_ret
  exact ⟨rfl, rfl⟩
theorem fill_none7 {w : World} {K : Nat} (h : w.cell? ⟨K, 7, none⟩ = some (.slice none 0 0)) : Calls Tryz.prog 32 #[.pointer (some ⟨K, 0, none⟩)] w fun e w' => e = .returned (.tuple #[]) ∧ w' = w := by
  go_enter Tryz.func32, Tryz.ntmps32
  go_wp2
  refine wp_loop_rounds 1 ?_
  rw [rounds_succ]
  go_wp2
  go_end0
  exact ⟨rfl, rfl⟩
theorem grow_none7 {w : World} {K : Nat} (h : w.cell? ⟨K, 7, none⟩ = some (.slice none 0 0)) : Calls Tryz.prog 40 #[.pointer (some ⟨K, 0, none⟩)] w fun e w' => e = .returned (.tuple #[]) ∧ w' = w := by
  go_enter Tryz.func40, Tryz.ntmps40
  go_wp2
  refine wp_loop_rounds 1 ?_
  rw [rounds_succ]
  go_wp2
  go_end0
  exact ⟨rfl, rfl⟩
theorem look_none7 {w : World} {K : Nat} (h : w.cell? ⟨K, 7, none⟩ = some (.slice none 0 0)) : Calls Tryz.prog 48 #[.pointer (some ⟨K, 0, none⟩)] w fun e w' => e = .returned (.bool true) ∧ w' = w := by
  go_enter Tryz.func48, Tryz.ntmps48
  go_wp2
  refine wp_loop_rounds 1 ?_
  rw [rounds_succ]
  go_wp2
  go_ret
  exact ⟨rfl, rfl⟩
theorem fill_none8 {w : World} {K : Nat} (h : w.cell? ⟨K, 8, none⟩ = some (.slice none 0 0)) : Calls Tryz.prog 33 #[.pointer (some ⟨K, 0, none⟩)] w fun e w' => e = .returned (.tuple #[]) ∧ w' = w := by
  go_enter Tryz.func33, Tryz.ntmps33
  go_wp2
  refine wp_loop_rounds 1 ?_
  rw [rounds_succ]
  go_wp2
  go_end0
  exact ⟨rfl, rfl⟩
theorem grow_none8 {w : World} {K : Nat} (h : w.cell? ⟨K, 8, none⟩ = some (.slice none 0 0)) : Calls Tryz.prog 41 #[.pointer (some ⟨K, 0, none⟩)] w fun e w' => e = .returned (.tuple #[]) ∧ w' = w := by
  go_enter Tryz.func41, Tryz.ntmps41
  go_wp2
  refine wp_loop_rounds 1 ?_
  rw [rounds_succ]
  go_wp2
  go_end0
  exact ⟨rfl, rfl⟩
theorem look_none8 {w : World} {K : Nat} (h : w.cell? ⟨K, 8, none⟩ = some (.slice none 0 0)) : Calls Tryz.prog 49 #[.pointer (some ⟨K, 0, none⟩)] w fun e w' => e = .returned (.bool true) ∧ w' = w := by
  go_enter Tryz.func49, Tryz.ntmps49
  go_wp2
  refine wp_loop_rounds 1 ?_
  rw [rounds_succ]
  go_wp2
  go_ret
  exact ⟨rfl, rfl⟩
theorem book_put {B : Nat} {w : World} {K : Nat} {n : Int} {v : Value} {E : List Ent} (hb : Bk B w K n v E) (hE : E.length + 1 ≤ 1000) (hn : n + 1 ≤ 1000) (sp : Option Addr) (len cap : Nat) :
    Calls Tryz.prog 25 #[.pointer (some ⟨K, 0, none⟩), .slice sp len cap] w fun e w' => e = .returned (.tuple #[]) ∧ ∃ v', Bk B w' K (n + 1) v' (E ++ [⟨.slice sp len cap, len, .slice none 0 0, n + 1⟩]) ∧ Buts (K :: v.ownBlock.toList) w w' := by
  go_enter Tryz.func25, Tryz.ntmps25
  go_wp2_with (go_at_call 61; refine (keep_any hb hE hn sp len cap).mono ?_; rintro e w' ⟨rfl, h⟩)
  go_end0
  exact ⟨rfl, h⟩
theorem Bk.others {B : Nat} {w : World} {K : Nat} {n : Int} {v : Value} {E : List Ent} (h : Bk B w K n v E) : w.cell? ⟨K, 1, none⟩ = some (.slice none 0 0) ∧ w.cell? ⟨K, 3, none⟩ = some (.slice none 0 0) ∧ w.cell? ⟨K, 4, none⟩ = some (.slice none 0 0) ∧ w.cell? ⟨K, 5, none⟩ = some (.slice none 0 0) ∧ w.cell? ⟨K, 6, none⟩ = some (.slice none 0 0) ∧ w.cell? ⟨K, 7, none⟩ = some (.slice none 0 0) ∧ w.cell? ⟨K, 8, none⟩ = some (.slice none 0 0) := by
  have hc := fun i => cell_of (i := i) h.head
  exact ⟨by rw [hc]; rfl, by rw [hc]; rfl, by rw [hc]; rfl, by rw [hc]; rfl, by rw [hc]; rfl, by rw [hc]; rfl, by rw [hc]; rfl⟩
set_option maxHeartbeats 4000000 in
theorem apart_yes {B : Nat} {w : World} {K : Nat} {n : Int} {v : Value} {E : List Ent} (hb : Bk B w K n v E) (hl : Lists B w E 0) :
    Calls Tryz.prog 15 #[.pointer (some ⟨K, 0, none⟩)] w fun e w' => e = .returned (.bool true) ∧ Below B w w' := by
  have hB : Below B w w := Below.refl _ _
  have hbl : ∀ x ∈ blks E, B ≤ x := by
    intro x hx
    obtain ⟨e, he, hx⟩ := List.mem_flatMap.1 hx
    obtain ⟨j, hj⟩ := List.getElem?_of_mem he
    obtain ⟨ys, ho, -⟩ := hl.own j e hj
    exact (ho.lt x (by simpa using hx)).1
  have hBw : B ≤ w.heap.size := Nat.le_trans hb.base (Nat.le_of_lt (at_lt hb.head))
  have HB : Hid (Bk B w K n v E) := hb
  have HL : Hid (Lists B w E 0) := hl
  obtain ⟨o1, o3, o4, o5, o6, o7, o8⟩ := hb.others
  clear hb hl
  go_enter Tryz.func15, Tryz.ntmps15
  go_wp2_with (first
    | (go_at_call 27; refine (fill_any HB.out HL.out).mono ?_; rintro e w1 ⟨rfl, hb, hl1, hu1⟩; replace hB : Below B w w1 := hu1.below hbl hBw; clear HB HL; have HB : Hid (Bk B w1 K n v E) := hb; have HG : Hid (Gl B w1 E 0) := Gl.start hl1; obtain ⟨o1, o3, o4, o5, o6, o7, o8⟩ := hb.others; clear hb hl1 hu1)
    | (go_at_call 35; refine (grow_any HB.out HG.out).mono ?_; rintro e w2 ⟨rfl, F, hF, hb, hg2, hu2⟩; replace hB : Below B w w2 := hB.trans hu2; clear HB HG; rw [← hF] at hg2; have HB : Hid (Bk B w2 K n v F) := hb; have HG : Hid (Gl B w2 F F.length) := hg2; obtain ⟨o1, o3, o4, o5, o6, o7, o8⟩ := hb.others; clear hb hg2 hu2 hF)
    | (go_at_call 43; refine (look_any HB.out HG.out).mono ?_; rintro e w3 ⟨rfl, hu3⟩; replace hB := hB.trans (hu3.mono (Nat.le_trans hBw hB.size)); have hb := HB.out.buts (l := []) (Buts.of hu3) (by simp) (fun _ _ => by simp); obtain ⟨o1, o3, o4, o5, o6, o7, o8⟩ := hb.others; clear hb hu3)
    | (go_at_call 26; refine (fill_none1 o1).mono ?_; rintro e wx ⟨rfl, hwx⟩; obtain rfl := hwx.symm)
    | (go_at_call 34; refine (grow_none1 o1).mono ?_; rintro e wx ⟨rfl, hwx⟩; obtain rfl := hwx.symm)
    | (go_at_call 42; refine (look_none1 o1).mono ?_; rintro e wx ⟨rfl, hwx⟩; obtain rfl := hwx.symm)
    | (go_at_call 28; refine (fill_none3 o3).mono ?_; rintro e wx ⟨rfl, hwx⟩; obtain rfl := hwx.symm)
    | (go_at_call 36; refine (grow_none3 o3).mono ?_; rintro e wx ⟨rfl, hwx⟩; obtain rfl := hwx.symm)
    | (go_at_call 44; refine (look_none3 o3).mono ?_; rintro e wx ⟨rfl, hwx⟩; obtain rfl := hwx.symm)
    | (go_at_call 29; refine (fill_none4 o4).mono ?_; rintro e wx ⟨rfl, hwx⟩; obtain rfl := hwx.symm)
    | (go_at_call 37; refine (grow_none4 o4).mono ?_; rintro e wx ⟨rfl, hwx⟩; obtain rfl := hwx.symm)
    | (go_at_call 45; refine (look_none4 o4).mono ?_; rintro e wx ⟨rfl, hwx⟩; obtain rfl := hwx.symm)
    | (go_at_call 30; refine (fill_none5 o5).mono ?_; rintro e wx ⟨rfl, hwx⟩; obtain rfl := hwx.symm)
    | (go_at_call 38; refine (grow_none5 o5).mono ?_; rintro e wx ⟨rfl, hwx⟩; obtain rfl := hwx.symm)
    | (go_at_call 46; refine (look_none5 o5).mono ?_; rintro e wx ⟨rfl, hwx⟩; obtain rfl := hwx.symm)
    | (go_at_call 31; refine (fill_none6 o6).mono ?_; rintro e wx ⟨rfl, hwx⟩; obtain rfl := hwx.symm)
    | (go_at_call 39; refine (grow_none6 o6).mono ?_; rintro e wx ⟨rfl, hwx⟩; obtain rfl := hwx.symm)
    | (go_at_call 47; refine (look_none6 o6).mono ?_; rintro e wx ⟨rfl, hwx⟩; obtain rfl := hwx.symm)
    | (go_at_call 32; refine (fill_none7 o7).mono ?_; rintro e wx ⟨rfl, hwx⟩; obtain rfl := hwx.symm)
    | (go_at_call 40; refine (grow_none7 o7).mono ?_; rintro e wx ⟨rfl, hwx⟩; obtain rfl := hwx.symm)
    | (go_at_call 48; refine (look_none7 o7).mono ?_; rintro e wx ⟨rfl, hwx⟩; obtain rfl := hwx.symm)
    | (go_at_call 33; refine (fill_none8 o8).mono ?_; rintro e wx ⟨rfl, hwx⟩; obtain rfl := hwx.symm)
    | (go_at_call 41; refine (grow_none8 o8).mono ?_; rintro e wx ⟨rfl, hwx⟩; obtain rfl := hwx.symm)
    | (go_at_call 49; refine (look_none8 o8).mono ?_; rintro e wx ⟨rfl, hwx⟩; obtain rfl := hwx.symm))
  go_ret
  exact ⟨rfl, hB⟩
end Go.Proofs.YteicnekoogmmmaaGreatDoor
