/- The book's own functions: what is kept, filled, grown and looked at, for every number of lists. -/
import Derived.Test.YtciafjmljmeimaaDoorBookMem
import Derived.Test.YtciafjmljmeimaaDoorDSame
import Derived.Deep.RegionLaw
namespace Go.Proofs.YtciafjmljmeimaaDoor
open Go Go.RowKit
set_option maxRecDepth 100000
set_option linter.unusedVariables false
theorem infoH : (Tryd.prog.info? 76).map (fun i => (i.zero, i.size, i.bytes)) = some (some (.agg #[.slice none 0 0, .slice none 0 0, .int .i64 0]), 3, 56) := by kernel_rfl
theorem cells3 (w : World) (x y z : Value) (t : TypeId) : ∀ j u, ([x, y, z] : List Value)[j]? = some u → (w.alloc (.cells #[x, y, z] t)).cell? ((⟨w.heap.size, 0, none⟩ : Addr).add j) = some u := by
  intro j u hj
  have hadd : (⟨w.heap.size, 0, none⟩ : Addr).add j = ⟨w.heap.size, 0 + j, none⟩ := by unfold Addr.add; split <;> simp_all
  rw [hadd, Nat.zero_add, cell_of (alloc_at w _)]
  rcases j with _ | _ | _ | j
  · exact hj
  · exact hj
  · exact hj
  · simp at hj
theorem one3 (x y z : Value) (hx : x.oneCell' = true) (hy : y.oneCell' = true) (hz : z.oneCell' = true) : ∀ u ∈ ([x, y, z] : List Value), u.oneCell' = true := by
  intro u hu
  simp only [List.mem_cons, List.not_mem_nil, or_false] at hu
  rcases hu with rfl | rfl | rfl <;> assumption
theorem set_at {w : World} {g k : Nat} {cs : Array Value} {t : TypeId} {f : Nat × Nat} (h : w.heap[g]? = some (.cells cs t f)) (v : Value) : (w.setCell ⟨g, k, none⟩ v).heap[g]? = some (.cells (cs.setIfInBounds k v) t f) := by
  have hl := at_lt h
  have hv : w.heap[g] = .cells cs t f := (Array.getElem?_eq_some_iff.1 h).2
  unfold World.setCell
  rw [Array.getElem?_eq_getElem (by simpa using hl), Array.getElem_modify]
  simp [hv]
theorem bk_put {w : World} {K : Nat} {n : Int} (v v' : Value) (h : w.heap[K]? = some (.cells (bk n v) 37 (0, 0))) : (w.setCell ⟨K, 3, none⟩ v').heap[K]? = some (.cells (bk n v') 37 (0, 0)) := by
  rw [set_at h]; rfl
theorem bk_num {w : World} {K : Nat} {n : Int} (v : Value) (h : w.heap[K]? = some (.cells (bk n v) 37 (0, 0))) (m : Int) : (w.setCell ⟨K, 0, none⟩ (.int .i64 m)).heap[K]? = some (.cells (bk m v) 37 (0, 0)) := by
  rw [set_at h]; rfl
theorem keep_end {B : Nat} {w w1 wa w' : World} {K g' cap' : Nat} {n : Int} {v : Value} {E : List Ent} (hb : Bk B w K n v E) (hE : E.length + 1 ≤ 1000) (hn : n + 1 ≤ 1000) (sp : Option Addr) (len cap : Nat)
    (hu : Buts [K] w w1) (hW : Below w1.heap.size w1 wa) (hg : wa.grownBy w' v.ownBlock)
    (ho : w'.ownsRow B 76 3 (.slice (some ⟨g', 0, none⟩) (E.length + 1) cap') (E.length + 1) (flat E ++ [.slice sp len cap, .slice none 0 0, .int .i64 (n + 1)]))
    (hkk : w'.heap[K]? = some (.cells (bk (n + 1) v) 37 (0, 0))) :
    ∃ v', Bk B (w'.setCell ⟨K, 3, none⟩ (.slice (some ⟨g', 0, none⟩) (E.length + 1) cap')) K (n + 1) v' (E ++ [⟨.slice sp len cap, len, .slice none 0 0, n + 1⟩]) ∧ Buts (K :: v.ownBlock.toList) w (w'.setCell ⟨K, 3, none⟩ (.slice (some ⟨g', 0, none⟩) (E.length + 1) cap')) := by
  have hne : g' ≠ K := by
    rintro rfl
    rcases ho.2 with ⟨e, _⟩ | ⟨g, c, cur, e, _, hh, _⟩
    · cases e
    · simp only [Value.slice.injEq, Option.some.injEq, Addr.mk.injEq, and_true, true_and] at e
      obtain ⟨rfl, rfl⟩ := e
      rw [hkk] at hh
      simp at hh
  have hu2 : Buts (K :: v.ownBlock.toList) w (w'.setCell ⟨K, 3, none⟩ (.slice (some ⟨g', 0, none⟩) (E.length + 1) cap')) :=
    ((hu.mono (by simp)).trans ((Buts.of hW).trans ((Buts.grown hg).mono (fun x hx => List.mem_cons_of_mem _ hx)))).trans ((Buts.cell _ _ _ _).mono (by simp))
  refine ⟨.slice (some ⟨g', 0, none⟩) (E.length + 1) cap', ⟨bk_put v _ hkk, ?_, ?_, hb.base, by simpa using hE, by have := hb.small; omega, ?_⟩, hu2⟩
  · rw [flat_app, List.length_append]
    refine owns_buts ho (Buts.cell _ _ _ _) (fun g hg' => ?_)
    have : g' = g := by simpa [Value.ownBlock] using hg'
    subst this
    simpa using hne
  · intro H hH
    have : g' = H := by simpa [Value.ownBlock] using hH
    subst this
    exact hne
  · intro j e he
    rcases Nat.lt_or_ge j E.length with hj | hj
    · rw [List.getElem?_append_left hj] at he
      exact hb.lng j e he
    · rw [List.getElem?_append_right hj] at he
      rcases hk : j - E.length with _ | k
      · rw [hk] at he
        simp only [List.getElem?_cons_zero, Option.some.injEq] at he
        subst he
        exact ⟨_, _, _, rfl⟩
      · rw [hk] at he
        simp at he
set_option maxHeartbeats 2000000 in
theorem keep_any {B : Nat} {w : World} {K : Nat} {n : Int} {v : Value} {E : List Ent} (hb : Bk B w K n v E) (hE : E.length + 1 ≤ 1000) (hn : n + 1 ≤ 1000) (sp : Option Addr) (len cap : Nat) :
    Calls Tryd.prog 26 #[.pointer (some ⟨K, 0, none⟩), .slice sp len cap] w fun e w' => e = .returned (.tuple #[]) ∧ ∃ v', Bk B w' K (n + 1) v' (E ++ [⟨.slice sp len cap, len, .slice none 0 0, n + 1⟩]) ∧ Buts (K :: v.ownBlock.toList) w w' := by
  have hk0 : w.cell? ⟨K, 0, none⟩ = some (.int .i64 n) := by rw [cell_of hb.head]; rfl
  have hf : ∀ i, w.frozen? ⟨K, i, none⟩ = false := fun i => by simp [World.frozen?, hb.head]
  have hf0 := hf 0
  have hs := hb.small
  go_enter Tryd.func26, Tryd.ntmps26
  go_wp2
  have hK1 : (w.setCell ⟨K, 0, none⟩ (.int .i64 (n + 1))).heap[K]? = some (.cells (bk (n + 1) v) 37 (0, 0)) := bk_num v hb.head _
  have hu : Buts [K] w (w.setCell ⟨K, 0, none⟩ (.int .i64 (n + 1))) := Buts.cell _ _ _ _
  generalize w.setCell ⟨K, 0, none⟩ (.int .i64 (n + 1)) = w1 at *
  have c0 : w1.cell? ⟨K, 0, none⟩ = some (.int .i64 (n + 1)) := by rw [cell_of hK1]; rfl
  have c1 : w1.cell? ⟨K, 3, none⟩ = some v := by rw [cell_of hK1]; rfl
  have f1 : w1.frozen? ⟨K, 3, none⟩ = false := by simp [World.frozen?, hK1]
  clear hk0 hf hf0
  obtain ⟨i, hi, he⟩ := Option.map_eq_some_iff.1 infoH
  have h1 : i.zero = some (.agg #[.slice none 0 0, .slice none 0 0, .int .i64 0]) := by simpa using congrArg Prod.fst he
  have h2 : i.size = 3 := by simpa using congrArg (fun x => x.2.1) he
  have h3 : i.bytes = 56 := by simpa using congrArg (fun x => x.2.2) he
  have hrow : w1.ownsRow B 76 3 v E.length (flat E) := owns_buts hb.row hu (fun g hg => by simpa using hb.ne g hg)
  have hlt : K < w1.heap.size := at_lt hK1
  have hW : Below w1.heap.size w1 (w1.alloc (.cells #[.slice sp len cap, .slice none 0 0, .int .i64 (n + 1)] 76)).drew := ((Below.refl _ _).alloc (Nat.le_refl _) _).drew
  have hKr : ∀ H, v.ownBlock = some H → H ≠ K := hb.ne
  go_region_law (refine step_append_own rfl (.tmp 15) (.tmp 22) 30 rfl B 76 i _ 3 56 Tryd.underlying30 hi h1 h2 h3 rfl (by omega) v E.length (flat E) rfl (owns_of hrow fun g hg => hW.block g (hrow.lt g hg).2) _ 1 1 [.slice sp len cap, .slice none 0 0, .int .i64 (n + 1)] rfl rfl (cells3 w1 _ _ _ _) (one3 _ _ _ rfl rfl rfl) (by simp only [maxLen]; omega) (by omega) (Nat.le_trans (Nat.le_trans hb.base (Nat.le_of_lt hlt)) hW.size) ?_; intro v' w' ho hg hne; obtain ⟨g', cap', rfl, hcp⟩ := owns_spot ho (by omega); have hkk := (hg.block K (Nat.lt_of_lt_of_le hlt hW.size) (fun e => hKr K e.symm rfl)).trans ((hW.block K hlt).trans hK1); have k1 : w'.cell? ⟨K, 3, none⟩ = some v := (by rw [cell_of hkk]; rfl); have k2 : w'.frozen? ⟨K, 3, none⟩ = false := (by simp [World.frozen?, hkk]))
  all_goals
    go_wp2
    go_end0
    exact ⟨rfl, keep_end hb hE hn sp len cap hu hW hg ho hkk⟩
/-- a list's mark -/
def mk (n : Int) : Int := -1000 - n
theorem mark_any (n : Int) (h : 0 ≤ n ∧ n ≤ 1000) (w : World) : Calls Tryd.prog 60 #[.int .i64 n] w fun e w' => e = .returned (.int .i64 (mk n)) ∧ w' = w := by
  unfold mk
  go_enter Tryd.func60, Tryd.ntmps60
  go_wp2
  go_ret
  exact ⟨rfl, rfl⟩
theorem is_yes (n : Int) (h : 0 ≤ n ∧ n ≤ 1000) (w : World) : Calls Tryd.prog 68 #[.int .i64 (mk n), .int .i64 n] w fun e w' => e = .returned (.bool true) ∧ w' = w := by
  unfold mk
  go_enter Tryd.func68, Tryd.ntmps68
  go_wp2
  go_ret
  exact ⟨rfl, rfl⟩
/-- all lists are rows of their own -/
structure Lists (B : Nat) (w : World) (E : List Ent) (i : Nat) : Prop where
  own : ∀ (j : Nat) (e : Ent), E[j]? = some e → ∃ ys, w.ownsRow B 3 1 e.v e.len ys ∧ (j < i → ys = List.replicate e.len (.int .i64 (mk e.num)))
  sep : ∀ (j k : Nat) (e f : Ent), j ≠ k → E[j]? = some e → E[k]? = some f → ∀ g, e.v.ownBlock = some g → f.v.ownBlock ≠ some g
  num : ∀ (j : Nat) (e : Ent), E[j]? = some e → 0 ≤ e.num ∧ e.num ≤ 1000
  len : ∀ (j : Nat) (e : Ent), E[j]? = some e → e.len ≤ 1000000
/-- the lists' blocks -/
def blks (E : List Ent) : List Nat := E.flatMap fun e => e.v.ownBlock.toList
theorem blks_mem {E : List Ent} {j : Nat} {e : Ent} (h : E[j]? = some e) : ∀ x ∈ e.v.ownBlock.toList, x ∈ blks E := fun x hx => List.mem_flatMap.2 ⟨e, List.mem_of_getElem? h, hx⟩
theorem Bk.spot {B : Nat} {w : World} {K : Nat} {n : Int} {v : Value} {E : List Ent} (h : Bk B w K n v E) {i : Nat} {e : Ent} (he : E[i]? = some e) :
    ∃ H cap, v = .slice (some ⟨H, 0, none⟩) E.length cap ∧ E.length ≤ cap ∧ w.cell? ⟨H, i * 3, none⟩ = some e.v ∧ w.cell? ⟨H, i * 3 + 1, none⟩ = some e.long ∧ w.cell? ⟨H, i * 3 + 2, none⟩ = some (.int .i64 e.num) := by
  have hi : i < E.length := (List.getElem?_eq_some_iff.1 he).1
  obtain ⟨H, cap, rfl, hc, _⟩ := owns_spot h.row (by omega)
  have c0 := flat_at E i e he 0 (by omega)
  have c1 := flat_at E i e he 1 (by omega)
  have c2 := flat_at E i e he 2 (by omega)
  refine ⟨H, cap, rfl, hc, ?_, ?_, ?_⟩
  · rw [h.row.cellAt (i * 3) (by omega)]; exact c0
  · rw [h.row.cellAt (i * 3 + 1) (by omega)]; exact c1
  · rw [h.row.cellAt (i * 3 + 2) (by omega)]; exact c2
end Go.Proofs.YtciafjmljmeimaaDoor
