/- What List answers: all of a rank, in memory of its own. -/
import Derived.Test.YtjhpiecbolmleaaGreatDoorRSeq
namespace Go.Proofs.YtjhpiecbolmleaaGreatDoor
open Go Go.RowKit Go.Shelf
attribute [local go_sem] Oper.semAt_some
set_option maxRecDepth 100000
set_option linter.unusedVariables false
set_option linter.unusedSimpArgs false
theorem seq_stops (n : Nat) (hn : 1 ≤ n) (Bq Br t p : Nat) (r : Int) (hp hg : Nat → Nat) (X : Nat → List Int) (ll : Nat) (w : World) (hbq : Bq < w.heap.size) (hbr : Br < w.heap.size)
    (hq : w.cell? ⟨Bq, 0, none⟩ = some (.pointer (some ⟨p, 0, none⟩))) (hr : w.cell? ⟨Br, 0, none⟩ = some (.int .i64 r)) (hQ : Que w p hp hg X ll) (htl : t < w.heap.size) (v0 : Value) (ht : w.cell? ⟨t, 0, none⟩ = some v0) (hv0 : v0.ownBlock = none) :
    SeqStopsK Fence.wide n Tryz.prog 66 #[.pointer (some ⟨Bq, 0, none⟩), .pointer (some ⟨Br, 0, none⟩)] (fun x : Int => #[Value.int .i64 x]) (KL t) (fun ys => ys = lsX X r) (fun pre => pre <+: lsX X r) (lsX X r).length w := fun l J Jx W hW hJ _ hY h0 => by
  have hq' := (hW.cell (p := ⟨Bq, 0, none⟩) hbq).trans hq
  have hr' := (hW.cell (p := ⟨Br, 0, none⟩) hbr).trans hr
  have hQ' := hQ.below hW
  by_cases h : 0 ≤ r ∧ r ≤ 31
  · obtain ⟨k, rfl⟩ := Int.eq_ofNat_of_zero_le h.1
    have e : lsX X (k : Int) = X k := by unfold lsX; rw [if_pos h]; rfl
    rw [e] at hY
    have := seq1 n hn l Bq Br t p k (by omega) hp hg X ll J Jx W hJ hY hq' hr' hQ' (by have := hW.size; omega) v0 ((hW.cell (p := ⟨t, 0, none⟩) htl).trans ht) hv0 h0
    rw [← e] at this
    exact this
  · have e : lsX X r = [] := by unfold lsX; rw [if_neg h]
    have := seq0 n hn l Bq Br (some ⟨p, 0, none⟩) r J Jx W hq' hr' (Or.inr ⟨⟨p, hp 0, rfl, hQ'.row (by omega)⟩, h⟩) h0
    rw [← e] at this
    exact this
theorem infoV : (Tryz.prog.info? 3).map (fun i => (i.zero, i.size, i.bytes)) = some (some (.int .i64 0), 1, 8) := by kernel_rfl
/-- append to a row of one's own, and where the new row lies -/
theorem append_at {F : Fence} {n : Nat} {P : Program} (w : World) {ops : Array Oper} {rest : List Oper} {o : Oper} {a : Act} {Q : Exit → Act → World → Prop}
    (hg : o.guard = none) (s x : Operand) (t : TypeId) (hop : o.op = Op.call { callee := Callee.builtin Builtin.append, args := #[s, x], argTypes := #[t, t] })
    (base : Nat) (e : TypeId) (i : TypeInfo) (z : Value) (size bytes : Nat) (h1 : P.underlying t = some (.slice e)) (h2 : P.info? e = some i) (h3 : i.zero = some z) (h4 : i.size = size) (h5 : i.bytes = bytes) (h6 : z.cells.size = size) (h7 : 0 < size)
    (v : Value) (k : Nat) (xs : List Value) (hs : a.eval s = v) (hown : w.ownsRow base e size v k xs) (ad : Addr) (m c : Nat) (news : List Value) (hx : a.eval x = .slice (some ad) m c) (hn : news.length = m * size)
    (hc : ∀ j u, news[j]? = some u → w.cell? (ad.add j) = some u) (h1c : ∀ u ∈ news, u.oneCell' = true) (b1 : k + m ≤ maxLen) (b2 : (k + m) * bytes ≤ 140737488355328) (b3 : base ≤ w.heap.size)
    (hK : ∀ v' w', w'.ownsRow base e size v' (k + m) (xs ++ news) → w.grownBy w' v.ownBlock → (v'.ownBlock = v.ownBlock ∨ v'.ownBlock = some w.heap.size) → wpListIn F n P ops Q rest (a.put o.dst v') w') :
    wpListIn F n P ops Q (o :: rest) a w := by
  refine wpListIn_plain hg fun K hK' => ?_
  obtain ⟨v', w', hrun, r1, r2, _, r4⟩ := run_append_own_at (P := P) w base t o.type e i z size bytes h1 h2 h3 h4 h5 h6 h7 v k xs hown ad m c news hn hc h1c b1 b2 b3
  refine ⟨by simp [Oper.about, hop, resolve, Target.leads, Sem.run_pure], ?_⟩
  rw [Oper.semAt_plain F _ _ (by rw [hop]; intro c hc'; cases hc')]
  simp [execOp, hop, resolve, invoke, builtin, hs, hx, hrun, Result.andThen]
  exact hK' _ _ (hK v' w' r1 r2 r4)
/-- what the append keeps -/
theorem kl_append {W w1 : World} {t : Nat} {ty : TypeId} {v v' : Value} {tmp : Obj} (hv : Boxed W t ty v) (hv2 : Boxed (w1.setCell ⟨t, 0, none⟩ v') t ty v') (hgrow : (W.alloc tmp).grownBy w1 v.ownBlock)
    (hat : v'.ownBlock = v.ownBlock ∨ v'.ownBlock = some (W.alloc tmp).heap.size) : KL t W (w1.setCell ⟨t, 0, none⟩ v') := by
  have hs : (W.alloc tmp).heap.size = W.heap.size + 1 := alloc_size W tmp
  refine ⟨?_, fun k cs ty' f hk hne ho => ?_, fun k hk => ?_⟩
  · have := hgrow.size
    simp [World.setCell]
    omega
  · have hkl := at_lt hk
    rw [Below.heap_setCell _ _ _ _ hne, hgrow.block k (by omega) (fun e => ho ⟨v, hv.cell, e.symm⟩), (alloc_below W tmp).block k hkl]
    exact hk
  · obtain ⟨u, hu, hub⟩ := hk
    rw [hv2.cell] at hu
    cases hu
    rcases hat with h | h
    · exact Or.inl ⟨v, hv.cell, by rw [← h]; exact hub⟩
    · rw [h] at hub
      cases hub
      exact Or.inr (by omega)
set_option maxHeartbeats 4000000 in
theorem qlist_any {B s : Nat} {w : World} {p : Nat} {X : Nat → List Int} (h : QS B s w p X) (r : Int) :
    Calls Tryz.prog 13 #[.pointer (some ⟨p, 0, none⟩), .int .i64 r] w fun e W' => ∃ v, e = .returned v ∧ W'.ownsRow w.heap.size 3 1 v (lsX X r).length ((lsX X r).map (Value.int .i64)) ∧ Below w.heap.size w W' := by
  obtain ⟨hp, hg, ll, hQ, _, _, _, _⟩ := h
  have hlen : (lsX X r).length ≤ 256 := by
    unfold lsX; split
    · rename_i h; exact (hQ.ring r.toNat (by omega)).len
    · simp
  obtain ⟨i0, hi, hz0, hz1, hz2⟩ := info_parts infoV
  refine (callsIn_wide (n := 3)).1 ?_
  refine callsIn_of_wp_marks Tryz.func13 rfl trivial ?_ rfl
  simp only [Tryz.ntmps13, List.size_toArray, List.length_cons, List.length_nil, Nat.reduceAdd, Nat.reduceSub, Array.replicate_succ, Array.replicate_zero, List.push_toArray, List.append_toArray, List.nil_append, List.cons_append]
  gi_wp2_with (refine ⟨trivial, ?_⟩; gi_at_call 29; refine (callsIn_wide.2 (those_any _ _ _)).mono ?_; rintro e w' ⟨rfl, rfl⟩)
  obtain ⟨W0, hW0⟩ : ∃ W0, ((w.alloc (.cells #[.slice none 0 0] 45)).alloc (.cells #[.pointer (some ⟨p, 0, none⟩)] 24)).alloc (.cells #[.int .i64 r] 3) = W0 := ⟨_, rfl⟩
  have bO : Boxed W0 w.heap.size 45 (.slice none 0 0) := by
    rw [← hW0]; exact ((Boxed.new w 45 (.slice none 0 0)).alloc _).alloc _
  have bQ : Boxed W0 (w.heap.size + 1) 24 (.pointer (some ⟨p, 0, none⟩)) := by
    have := (Boxed.new (w.alloc (.cells #[.slice none 0 0] 45)) 24 (.pointer (some ⟨p, 0, none⟩))).alloc (.cells #[.int .i64 r] 3)
    rw [World.size_alloc, hW0] at this
    exact this
  have bR : Boxed W0 (w.heap.size + 1 + 1) 3 (.int .i64 r) := by
    have := Boxed.new ((w.alloc (.cells #[.slice none 0 0] 45)).alloc (.cells #[.pointer (some ⟨p, 0, none⟩)] 24)) 3 (.int .i64 r)
    rw [World.size_alloc, World.size_alloc, hW0] at this
    exact this
  have hB0 : Below w.heap.size w W0 := by rw [← hW0]; exact (((Below.refl _ w).alloc (Nat.le_refl _) _).alloc (by simp) _).alloc (by simp; omega) _
  have hS0 : W0.heap.size = w.heap.size + 1 + 1 + 1 := by rw [← hW0]; simp
  simp only [World.size_alloc, hW0]
  have hQ0 := hQ.below hB0
  clear hW0 hQ
  refine wpIn_rangeFunc_ownG rfl (by omega) (gf := 66) (lb := #[.pointer (some ⟨w.heap.size + 1, 0, none⟩), .pointer (some ⟨w.heap.size + 1 + 1, 0, none⟩)]) rfl trivial (enters_of Tryz.func66 (by kernel_rfl) rfl)
    (seq_stops _ (by omega) (w.heap.size + 1) (w.heap.size + 1 + 1) w.heap.size p r hp hg X ll W0 (by omega) (by omega) bQ.cell bR.cell hQ0 (by omega) _ bO.cell rfl) KL.trans (kl_b (by omega)) (Below.refl _ _) (fun _ => rfl)
    (fun pre W => (∃ v, Boxed W w.heap.size 45 v ∧ W.ownsRow w.heap.size 3 1 v pre.length (pre.map (Value.int .i64)) ∧ True) ∧ Below w.heap.size w W)
    (fun _ _ _ => False)
    (OwnFrom.and (Own.from (holdsRow_own w.heap.size w.heap.size 45 3 1 (fun pre : List Int => pre.length) (fun pre : List Int => pre.map (Value.int .i64)) (fun pre v => True)) _) (ownFrom_below (Nat.le_refl _) (by omega)))
    (fun _ _ _ _ _ hs _ _ => hs)
    ⟨⟨_, bO, World.ownsRow_nil _ _ _ _, trivial⟩, hB0⟩
    (fun x => { tmps := #[.pointer (some ⟨p, 0, none⟩), .int .i64 r, undef, undef, .slice none 0 0, .pointer (some ⟨w.heap.size, 0, none⟩), .int .i64 x, .pointer (some ⟨p, 0, none⟩), .int .i64 r, .func (.func 66) #[] #[.pointer (some ⟨w.heap.size + 1, 0, none⟩), .pointer (some ⟨w.heap.size + 1 + 1, 0, none⟩)], .int .i64 x, undef, undef, undef, undef, undef], defers := [] }) ?assign ?body ?done ?stop
  case assign =>
    intro l x W K hK
    gi_wp2
    exact hK
  case body =>
    rintro l pre x W ⟨⟨v, hv, hrow, _⟩, hB⟩ hlt
    have hc := hv.cell
    gi_wp2_with (gi_at_builtin; refine append_at _ rfl _ _ 45 rfl w.heap.size 3 i0 (.int .i64 0) 1 8 Tryz.underlying45 hi hz0 hz1 hz2 rfl (by decide) _ _ _ rfl (hrow.alloc _) ⟨W.heap.size, 0, none⟩ 1 1 [.int .i64 x] rfl rfl (cell_one_new _ _ _) (by simp [Value.oneCell']) (by simp only [maxLen]; omega) (by omega) (by have := hB.size; simp; omega) ?_; intro v' w1 hown' hgrow hat; obtain ⟨g', cap', rfl⟩ := ownsRow_succ hown'; obtain ⟨hv1, hv2, hr2, hk2, hb2⟩ := hv.appended (by decide) hrow hB.size (Nat.le_refl _) hown' hgrow; have hkl := kl_append hv hv2 hgrow hat; have hc1 := hv1.cell; have hf1 := hv1.frozen; clear hat)
    exact ⟨hk2.from _, hkl, ⟨_, hv2, by simpa using hr2, trivial⟩, hB.trans hb2⟩
  case done =>
    rintro D ys W hD rfl ⟨⟨v, hv, hrow, _⟩, hB⟩ hK
    have hc := hv.cell
    gi_wp2
    refine ⟨by simp, .inl ⟨_, _, rfl, run_takeDeferred hK, ?_⟩⟩
    exact ⟨_, results_tmp rfl _ _ _, v, rfl, ownsRow_putObj hrow _ hK rfl, hB.trans (belowK_b (w := w) (Nat.le_refl _) W D _ _ (by omega) hK rfl rfl)⟩
  case stop =>
    rintro D c pre W _ _ h _
    exact h.elim
end Go.Proofs.YtjhpiecbolmleaaGreatDoor
