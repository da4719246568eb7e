/- The document's own thing: messages. -/
import Derived.Test.YteicnekoogmmmaaGreatDoorKM3
import Derived.Test.YteicnekoogmmmaaGreatDoorQPart
namespace Go.Proofs.YteicnekoogmmmaaGreatDoor
open Go Go.RowKit
set_option maxRecDepth 100000
set_option linter.unusedVariables false
theorem addr_add (g off j : Nat) : (⟨g, off, none⟩ : Addr).add j = ⟨g, off + j, none⟩ := by unfold Addr.add; split <;> simp_all
/-- append to a row of one's own, as one step of a region that draws its order -/
theorem step_own {ops : Array Oper} {o : Oper} {a : Act} {W : World} {K : Act → World → Prop} {Q : Exit → Act → World → Prop} {E : Prop} (hgd : o.guard = none) (s x : Operand)
    (ho : o.op = .call { callee := .builtin .append, args := #[s, x], argTypes := #[53, 53] })
    (base : Nat) (v : Value) (n : Nat) (ys : List Int) (hs : a.eval s = v) (hown : W.ownsRow base 23 1 v n (ys.map (Value.int .u32)))
    (g off m cap : Nat) (news : List Int) (hx : a.eval x = .slice (some ⟨g, off, none⟩) m cap) (hm : news.length = m) (h0 : 0 < n + m) (hlim : n + m ≤ 1000)
    (hc : ∀ i, i < m → W.cell? ⟨g, off + i, none⟩ = some (.int .u32 (news.getD i 0))) (hb : base ≤ W.heap.size)
    (h : ∀ g1 c1 w1, w1.ownsRow base 23 1 (.slice (some ⟨g1, 0, none⟩) (n + m) c1) (n + m) ((ys ++ news).map (Value.int .u32)) → Below base W w1 → (v.ownBlock = none → Below W.heap.size W w1) → K (a.put o.dst (.slice (some ⟨g1, 0, none⟩) (n + m) c1)) w1) :
    if Region.wanted o (yielded ops a.tmps) = true then Oper.wp Tryz.prog o a W K Q else E := by
  obtain ⟨i0, hi, hz0, hz1, hz2⟩ := info_parts infoW
  refine step_append_own hgd s x 53 ho base 23 i0 (.int .u32 0) 1 4 Tryz.underlying53 hi hz0 hz1 hz2 rfl (by decide) v n _ hs hown ⟨g, off, none⟩ m cap (news.map (Value.int .u32)) hx (by simp [hm]) (fun j u hj => ?_) (ints_one _) (by simp only [maxLen]; omega) (by omega) hb ?_
  · rw [List.getElem?_map] at hj
    obtain ⟨y, hy, rfl⟩ := Option.map_eq_some_iff.1 hj
    have hjl : j < news.length := by
      rcases Nat.lt_or_ge j news.length with h | h
      · exact h
      · rw [List.getElem?_eq_none h] at hy; cases hy
    rw [addr_add, hc j (by omega)]
    simp [List.getD_eq_getElem?_getD, hy]
  · intro v' w' ho' hg' _
    obtain ⟨g1, c1, rfl, _, _⟩ := owns_spot ho' h0
    rw [← List.map_append] at ho'
    refine h g1 c1 w' ho' ((Below.refl base W).grown hg' hb fun j ej => ?_) fun hn => (Below.refl _ W).grown hg' (Nat.le_refl _) fun j ej => by rw [hn] at ej; cases ej
    exact (hown.lt j ej).1
theorem one_cell (W : World) (z : Int) : ∀ i, i < 1 → (W.alloc (.cells #[.int .u32 z] 23)).cell? ⟨W.heap.size, 0 + i, none⟩ = some (.int .u32 (([z] : List Int).getD i 0)) := fun i hi => by
  obtain rfl : i = 0 := by omega
  rw [cell_of (alloc_at W _)]; rfl
theorem lit_own (w : World) (z : Int) : (w.alloc (.cells #[.int .u32 z] 23)).drew.ownsRow w.heap.size 23 1 (.slice (some ⟨w.heap.size, 0, none⟩) 1 1) 1 (([z] : List Int).map (Value.int .u32)) :=
  ⟨rfl, Or.inr ⟨w.heap.size, 1, #[.int .u32 z], rfl, Nat.le_refl _, alloc_at w _, Nat.le_refl _, by decide, rfl, rfl⟩⟩
/-- another list of messages -/
theorem KR.rowset {s : Nat} {w : World} {q z : Nat} {u v : Value} {T : Sx} (h : KR s w q z u v T) (hs : s ≤ w.heap.size) {w2 : World} {u' : Value} {n : Nat} {ys : List Int} (hn : ys.length = n) (he : ys = [] → u' = .slice none 0 0) (ho : w2.ownsRow w.heap.size 23 1 u' n (ys.map (Value.int .u32))) (hb : Below w.heap.size w w2) :
    w2.cell? ⟨q, 5, none⟩ = some u ∧ w2.frozen? ⟨q, 5, none⟩ = false ∧ (∃ u2, KR s (w2.setCell ⟨q, 5, none⟩ u') q z u2 v { T with xs := ys }) ∧ Buts [q, z] w (w2.setCell ⟨q, 5, none⟩ u') := by
  have h2 := h.below hb
  have hq : Buts [q] w2 (w2.setCell ⟨q, 5, none⟩ u') := Buts.cell _ _ _ _
  subst hn
  refine ⟨h2.c.2.2.2.2.2.1, h2.head.free 5, ⟨u', kc_u h2.head u', ?_, h2.own.q h2.head hq, h.qs, h.zs, he, h.emz⟩, (Buts.of hb).trans (b1 hq)⟩
  refine Lst.buts (owns_base ho hs) hq fun g hg => ?_
  have h1 := (ho.lt g hg).1
  have h3 := h.head.lt
  simp only [List.mem_singleton]
  omega
theorem ny_full : ny 10 = 7 := rfl
theorem ny_ok : ny 0 = 0 := rfl
set_option maxHeartbeats 4000000 in
theorem kadd_full {s : Nat} {w : World} {q z : Nat} {u v : Value} {T : Sx} (h : KR s w q z u v T) (m : Nat) (hm : T.a = (m : Nat)) (hm2 : m ≤ 64) (hl : T.xs.length = m) (wh : Int) (hwh : wh = 7 ∨ wh = 8) (who ah av am aw : Int) :
    Calls Tryz.prog 22 #[.pointer (some ⟨q, 0, none⟩), .int .u32 who, .agg #[.int .u8 wh, .int .u32 ah, .int .u32 av, .int .u32 am, .int .i64 aw]] w (KAns s w q z v (0, 7, T)) := by
  obtain ⟨_, c1, _, _, _, c5, _⟩ := h.c
  have hlt := h.head.lt
  have HK : Hid (KR s w q z u v T) := h
  obtain ⟨sp, cap, rfl, -⟩ := own_form h.row
  rw [hl] at c5 HK
  rw [hm] at c1
  have hwr := wrap_a (n := m) (by omega)
  have hd : decide ((m : Int) ≤ (m : Int)) = true := by simp
  clear h hl hm
  unfold KAns
  rcases hwh with rfl | rfl
  all_goals
    go_enter Tryz.func22, Tryz.ntmps22
    go_wp2
    go_quiet ((fail))
    go_wp2
    go_ret2
    exact ⟨rfl, HK.out.same ((alloc_below _ _).trans ((below_drewN _ _).mono (alloc_below _ _).size))⟩
end Go.Proofs.YteicnekoogmmmaaGreatDoor
