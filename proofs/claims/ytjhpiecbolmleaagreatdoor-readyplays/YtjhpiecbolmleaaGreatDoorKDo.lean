/- The document's own queue: who is put, pushed, and a rank that turns. -/
import Derived.Test.YtjhpiecbolmleaaGreatDoorKRef2
namespace Go.Proofs.YtjhpiecbolmleaaGreatDoor
open Go Go.RowKit Go.Shelf
set_option maxRecDepth 100000
set_option linter.unusedVariables false
set_option linter.unusedSimpArgs false
theorem addr_add (g off j : Nat) : (⟨g, off, none⟩ : Addr).add j = ⟨g, off + j, none⟩ := by unfold Addr.add; split <;> simp_all
/-- append to a row of one's own, as one step of a region that draws its order -/
theorem step_own {ops : Array Oper} {o : Oper} {a : Act} {W : World} {K : Act → World → Prop} {Q : Exit → Act → World → Prop} {E : Prop} (hgd : o.guard = none) (s x : Operand)
    (ho : o.op = .call { callee := .builtin .append, args := #[s, x], argTypes := #[45, 45] })
    (base : Nat) (v : Value) (n : Nat) (ys : List Int) (hs : a.eval s = v) (hown : W.ownsRow base 3 1 v n (ys.map (Value.int .i64)))
    (g off m cap : Nat) (news : List Int) (hx : a.eval x = .slice (some ⟨g, off, none⟩) m cap) (hm : news.length = m) (h0 : 0 < n + m) (hlim : n + m ≤ 1000)
    (hc : ∀ i, i < m → W.cell? ⟨g, off + i, none⟩ = some (.int .i64 (news.getD i 0))) (hb : base ≤ W.heap.size)
    (h : ∀ g1 c1 w1, w1.ownsRow base 3 1 (.slice (some ⟨g1, 0, none⟩) (n + m) c1) (n + m) ((ys ++ news).map (Value.int .i64)) → Below base W w1 → (v.ownBlock = none → Below W.heap.size W w1) → K (a.put o.dst (.slice (some ⟨g1, 0, none⟩) (n + m) c1)) w1) :
    if Region.wanted o (yielded ops a.tmps) = true then Oper.wp Tryz.prog o a W K Q else E := by
  obtain ⟨i0, hi, hz0, hz1, hz2⟩ := info_parts infoV
  refine step_append_own hgd s x 45 ho base 3 i0 (.int .i64 0) 1 8 Tryz.underlying45 hi hz0 hz1 hz2 rfl (by decide) v n _ hs hown ⟨g, off, none⟩ m cap (news.map (Value.int .i64)) hx (by simp [hm]) (fun j u hj => ?_) (ints_one _) (by simp only [maxLen]; omega) (by omega) hb ?_
  · rw [List.getElem?_map] at hj
    obtain ⟨y, hy, rfl⟩ := Option.map_eq_some_iff.1 hj
    have hjl : j < news.length := by
      rcases Nat.lt_or_ge j news.length with h | h
      · exact h
      · rw [List.getElem?_eq_none h] at hy; cases hy
    rw [addr_add, hc j (by omega)]
    simp [List.getD_eq_getElem?_getD, hy]
  · intro v' w' ho' hg' _
    obtain ⟨g1, c1, rfl, _, _⟩ := owns_spot ho' h0
    rw [← List.map_append] at ho'
    refine h g1 c1 w' ho' ((Below.refl base W).grown hg' hb fun j ej => ?_) fun hn => (Below.refl _ W).grown hg' (Nat.le_refl _) fun j ej => by rw [hn] at ej; cases ej
    exact (hown.lt j ej).1
/-- all blocks but one stay -/
theorem but_set {q : Nat} {w w2 : World} (hb : Below w.heap.size w w2) (k : Nat) (v : Value) : Buts [q] w (w2.setCell ⟨q, k, none⟩ v) := (Buts.of hb).trans (Buts.cell w2 q k v)
theorem one_cell (W : World) (z : Int) : ∀ i, i < 1 → (W.alloc (.cells #[.int .i64 z] 3)).cell? ⟨W.heap.size, 0 + i, none⟩ = some (.int .i64 (([z] : List Int).getD i 0)) := fun i hi => by
  obtain rfl : i = 0 := by omega
  rw [cell_of (alloc_at W _)]; rfl
theorem set_past (w : World) (o : Obj) (q k : Nat) (v : Value) (h : q < w.heap.size) : (w.alloc o).drew.setCell ⟨q, k, none⟩ v = ((w.setCell ⟨q, k, none⟩ v).alloc o).drew := by
  rw [← World.setCell_alloc_past (w := w) o q k v h]
  rfl
theorem lit_own (w : World) (z : Int) : (w.alloc (.cells #[.int .i64 z] 3)).drew.ownsRow w.heap.size 3 1 (.slice (some ⟨w.heap.size, 0, none⟩) 1 1) 1 (([z] : List Int).map (Value.int .i64)) :=
  ⟨rfl, Or.inr ⟨w.heap.size, 1, #[.int .i64 z], rfl, Nat.le_refl _, alloc_at w _, Nat.le_refl _, by decide, rfl, rfl⟩⟩
set_option maxHeartbeats 8000000 in
theorem kput_any {s : Nat} {w : World} {q : Nat} {X : Nat → List Int} (h : KS s w q X) (hX : Good X) (hl : ∀ r, r < 32 → (X r).length ≤ 256) (z r : Int) :
    Calls Tryz.prog 26 #[.pointer (some ⟨q, 0, none⟩), .int .i64 z, .int .i64 r] w fun e w' => e = .returned (.int .i64 (adE X z r)) ∧ KS s w' q (putX X z r) ∧ Buts [q] w w' := by
  have hM := kmay_any h hl z r
  have HS : Hid (KS s w q X) := h
  by_cases e0 : adE X z r = 0
  · obtain ⟨z1, z2, r1, r2, hno⟩ := adE_zero e0
    obtain ⟨k, rfl⟩ := Int.eq_ofNat_of_zero_le r1
    have hk : k < 32 := by omega
    have hk32 : (k : Int) < 32 := by omega
    have HE : Hid (putX X z (k : Int) = up X k (X k ++ [z])) := by show _ = _; unfold putX; rw [if_pos e0]; rfl
    rw [e0] at hM ⊢
    obtain ⟨us, hU⟩ := h
    have hlr := hl k hk
    have c0 := hU.cell hk
    have hlt := at_lt hU.head
    have hsl := hU.lo
    have hd0 : Below w.heap.size w w.drew := (Below.refl _ w).drew
    have hd1 : Below w.heap.size w (w.alloc (.cells #[.int .i64 z] 3)).drew := (alloc_below w _).drew
    have hsd : w.drew.heap.size = w.heap.size := rfl
    have HEND : Hid (∀ g2 n c2 w2, n = (X k).length + 1 → w2.ownsRow w.heap.size 3 1 (.slice (some ⟨g2, 0, none⟩) n c2) n ((X k ++ [z]).map (Value.int .i64)) → Below w.heap.size w w2 → w2.cell? ⟨q, k, none⟩ = some (us k) ∧ w2.frozen? ⟨q, k, none⟩ = false ∧ KS s (w2.setCell ⟨q, k, none⟩ (.slice (some ⟨g2, 0, none⟩) n c2)) q (up X k (X k ++ [z])) ∧ Buts [q] w (w2.setCell ⟨q, k, none⟩ (.slice (some ⟨g2, 0, none⟩) n c2))) := fun g2 n c2 w2 hn ho hb => by
      have hU2 := hU.below hb
      exact ⟨hU2.cell hk, hU2.free _, hU2.set hk (KRow.own ho (by simp [hn]) (by omega) (by omega)), but_set hb _ _⟩
    rcases hU.row k hk with ⟨hv, hx⟩ | ⟨g, cap, cs, hv, ⟨hx, hxc⟩, hsg, hh, hcs⟩
    · rw [hv] at c0 HEND
      rw [hx] at HEND HE
      clear hU hl hlr hno e0
      go_enter Tryz.func26, Tryz.ntmps26
      go_wp2_with (first | (go_at_call 64; refine hM.mono ?_; rintro e wx ⟨rfl, rfl⟩))
      go_region_law (first
        | (refine step_own rfl (.tmp 22) (.tmp 24) rfl w.heap.size (.slice none 0 0) 0 [] rfl (World.ownsRow_nil _ _ _ _) w.heap.size 0 1 1 [z] rfl rfl (by omega) (by omega) (one_cell w z) hd1.size ?_; intro g2 c2 w2 ho2 hb2 _; obtain ⟨c2', f2, k2, b2⟩ := HEND.out g2 1 c2 w2 rfl ho2 (hd1.trans hb2); have HK : Hid (KS s (w2.setCell ⟨q, k, none⟩ (.slice (some ⟨g2, 0, none⟩) 1 c2)) q (up X k ([] ++ [z])) ∧ Buts [q] w (w2.setCell ⟨q, k, none⟩ (.slice (some ⟨g2, 0, none⟩) 1 c2))) := ⟨k2, b2⟩; clear k2 b2 ho2 hb2))
      all_goals
        go_wp2
        go_ret
        rw [HE.out]
        exact ⟨rfl, HK.out.1, HK.out.2⟩
    · obtain ⟨xs, hxs⟩ : ∃ xs, X k = xs := ⟨_, rfl⟩
      have HC : Hid (∀ W, Below w.heap.size w W → ∀ i, i < xs.length → W.cell? ⟨g, 0 + i, none⟩ = some (.int .i64 (xs.getD i 0))) := fun W hb i hi => by
        rw [Nat.zero_add, cell_of ((hb.block g (at_lt hh)).trans hh)]
        rw [hxs] at hcs
        exact hcs i hi
      rw [hv] at c0 HEND
      rw [hxs] at c0 HEND HE hlr hx
      obtain ⟨m, hm⟩ : ∃ m, xs.length = m := ⟨_, rfl⟩
      rw [hm] at c0 HC hlr hx HEND
      have HM : Hid (xs.length = m) := hm
      clear hU hl hno e0 hcs hh hv hxs hm
      go_enter Tryz.func26, Tryz.ntmps26
      go_wp2_with (first | (go_at_call 64; refine hM.mono ?_; rintro e wx ⟨rfl, rfl⟩))
      go_region_law (first
        | (refine step_own rfl (.tmp 22) (.tmp 24) rfl w.heap.size (.slice (some ⟨g1, 0, none⟩) m c1) m xs rfl H1.out.1 w.heap.size 0 1 1 [z] rfl rfl (by omega) (by omega) HONE.out (Nat.le_trans hd1.size H1.out.2.2) ?_; intro g2 c2 w2 ho2 hb2 _; obtain ⟨c2', f2, k2, b2⟩ := HEND.out g2 (m + 1) c2 w2 rfl ho2 (H1.out.2.1.trans hb2); have HK : Hid (KS s (w2.setCell ⟨q, k, none⟩ (.slice (some ⟨g2, 0, none⟩) (m + 1) c2)) q (up X k (xs ++ [z])) ∧ Buts [q] w (w2.setCell ⟨q, k, none⟩ (.slice (some ⟨g2, 0, none⟩) (m + 1) c2))) := ⟨k2, b2⟩; clear k2 b2 ho2 hb2 HONE)
        | (refine step_own rfl (.tmp 22) (.tmp 24) rfl w.heap.size (.slice (some ⟨g1, 0, none⟩) m c1) m xs rfl (H1.out.1.alloc _) w1.heap.size 0 1 1 [z] rfl rfl (by omega) (by omega) (one_cell w1 z) (Nat.le_trans H1.out.2.1.size (alloc_below w1 _).size) ?_; intro g2 c2 w2 ho2 hb2 _; obtain ⟨c2', f2, k2, b2⟩ := HEND.out g2 (m + 1) c2 w2 rfl ho2 ((H1.out.2.1.trans ((alloc_below w1 _).mono H1.out.2.1.size)).trans hb2); have HK : Hid (KS s (w2.setCell ⟨q, k, none⟩ (.slice (some ⟨g2, 0, none⟩) (m + 1) c2)) q (up X k (xs ++ [z])) ∧ Buts [q] w (w2.setCell ⟨q, k, none⟩ (.slice (some ⟨g2, 0, none⟩) (m + 1) c2))) := ⟨k2, b2⟩; clear k2 b2 ho2 hb2)
        | (refine step_own rfl (.const (.slice none 0 0)) (.tmp 21) rfl w.heap.size (.slice none 0 0) 0 [] rfl (World.ownsRow_nil _ _ _ _) g 0 m cap xs rfl HM.out (by omega) (by omega) (HC.out ((w.alloc (.cells #[.int .i64 z] 3)).drew) hd1) hd1.size ?_; intro g1 c1 w1 ho1 hb1 hbb; rw [Nat.zero_add]; rw [Nat.zero_add] at ho1; have H1 : Hid (w1.ownsRow w.heap.size 3 1 (.slice (some ⟨g1, 0, none⟩) m c1) m (xs.map (Value.int .i64)) ∧ Below w.heap.size w w1 ∧ (w.alloc (.cells #[.int .i64 z] 3)).drew.heap.size ≤ w1.heap.size) := ⟨ho1, hd1.trans hb1, (hbb rfl).size⟩; have HONE : Hid (∀ i, i < 1 → w1.cell? ⟨w.heap.size, 0 + i, none⟩ = some (.int .i64 (([z] : List Int).getD i 0))) := (fun i hi => by rw [(hbb rfl).cell (p := ⟨w.heap.size, 0 + i, none⟩) (by show _ < (w.alloc (.cells #[.int .i64 z] 3)).heap.size; rw [alloc_size]; exact Nat.lt_succ_self _)]; exact one_cell w z i hi); clear ho1 hb1 hbb)
        | (refine step_own rfl (.const (.slice none 0 0)) (.tmp 21) rfl w.heap.size (.slice none 0 0) 0 [] rfl (World.ownsRow_nil _ _ _ _) g 0 m cap xs rfl HM.out (by omega) (by omega) (HC.out w.drew hd0) hd0.size ?_; intro g1 c1 w1 ho1 hb1 hbb; rw [Nat.zero_add]; rw [Nat.zero_add] at ho1; have H1 : Hid (w1.ownsRow w.heap.size 3 1 (.slice (some ⟨g1, 0, none⟩) m c1) m (xs.map (Value.int .i64)) ∧ Below w.heap.size w w1 ∧ w.drew.heap.size ≤ w1.heap.size) := ⟨ho1, hd0.trans hb1, (hbb rfl).size⟩; clear ho1 hb1 hbb))
      all_goals
        go_wp2
        go_ret
        rw [HE.out]
        exact ⟨rfl, HK.out.1, HK.out.2⟩
  · have e1 : (adE X z r == 0) = false := by simpa using e0
    have HE : Hid (putX X z r = X) := by show _ = _; unfold putX; rw [if_neg e0]
    clear h e0
    generalize adE X z r = v at *
    go_enter Tryz.func26, Tryz.ntmps26
    go_wp2_with (first | (go_at_call 64; refine hM.mono ?_; rintro e wx ⟨rfl, rfl⟩))
    go_ret
    rw [HE.out]
    exact ⟨rfl, HS.out, Buts.refl _ _⟩
set_option maxHeartbeats 8000000 in
theorem kpush_any {s : Nat} {w : World} {q : Nat} {X : Nat → List Int} (h : KS s w q X) (hX : Good X) (hl : ∀ r, r < 32 → (X r).length ≤ 256) (z r : Int) :
    Calls Tryz.prog 23 #[.pointer (some ⟨q, 0, none⟩), .int .i64 z, .int .i64 r] w fun e w' => e = .returned (.int .i64 (adE X z r)) ∧ KS s w' q (pushX X z r) ∧ Buts [q] w w' := by
  have hM := kmay_any h hl z r
  have HS : Hid (KS s w q X) := h
  by_cases e0 : adE X z r = 0
  · obtain ⟨z1, z2, r1, r2, hno⟩ := adE_zero e0
    obtain ⟨k, rfl⟩ := Int.eq_ofNat_of_zero_le r1
    have hk : k < 32 := by omega
    have hk32 : (k : Int) < 32 := by omega
    have HE : Hid (pushX X z (k : Int) = up X k (z :: X k)) := by show _ = _; unfold pushX; rw [if_pos e0]; rfl
    rw [e0] at hM ⊢
    obtain ⟨us, hU⟩ := h
    have hlr := hl k hk
    have c0 := hU.cell hk
    have f0 := hU.free k
    have hlt := at_lt hU.head
    have hsl := hU.lo
    have hd0 : Below w.heap.size w w.drew := (Below.refl _ w).drew
    have hd1 : Below w.heap.size w (w.alloc (.cells #[.int .i64 z] 3)).drew := (alloc_below w _).drew
    have hsd : w.drew.heap.size = w.heap.size := rfl
    have HEND : Hid (∀ g2 n c2 w2, n = (X k).length + 1 → w2.ownsRow w.heap.size 3 1 (.slice (some ⟨g2, 0, none⟩) n c2) n ((z :: X k).map (Value.int .i64)) → Below w.heap.size w w2 → w2.cell? ⟨q, k, none⟩ = some (us k) ∧ w2.frozen? ⟨q, k, none⟩ = false ∧ KS s (w2.setCell ⟨q, k, none⟩ (.slice (some ⟨g2, 0, none⟩) n c2)) q (up X k (z :: X k)) ∧ Buts [q] w (w2.setCell ⟨q, k, none⟩ (.slice (some ⟨g2, 0, none⟩) n c2))) := fun g2 n c2 w2 hn ho hb => by
      have hU2 := hU.below hb
      exact ⟨hU2.cell hk, hU2.free _, hU2.set hk (KRow.own ho (by simp [hn]) (by omega) (by omega)), but_set hb _ _⟩
    rcases hU.row k hk with ⟨hv, hx⟩ | ⟨g, cap, cs, hv, ⟨hx, hxc⟩, hsg, hh, hcs⟩
    · rw [hv] at c0 HEND
      rw [hx] at HEND HE
      clear hU hl hlr hno e0
      go_enter Tryz.func23, Tryz.ntmps23
      go_wp2_with (first | (go_at_call 64; refine hM.mono ?_; rintro e wx ⟨rfl, rfl⟩))
      go_region
      all_goals
        go_wp2
        go_ret
        rw [HE.out]
        obtain ⟨c2', f2, k2, b2⟩ := HEND.out w.heap.size 1 1 ((w.alloc (.cells #[.int .i64 z] 3)).drew) rfl (lit_own w z) hd1
        have hsw := set_past w (.cells #[.int .i64 z] 3) q k (.slice (some ⟨w.heap.size, 0, none⟩) 1 1) hlt
        rw [hsw] at k2 b2
        exact ⟨rfl, k2, b2⟩
    · obtain ⟨xs, hxs⟩ : ∃ xs, X k = xs := ⟨_, rfl⟩
      have HC : Hid (∀ W, Below w.heap.size w W → ∀ i, i < xs.length → W.cell? ⟨g, 0 + i, none⟩ = some (.int .i64 (xs.getD i 0))) := fun W hb i hi => by
        rw [Nat.zero_add, cell_of ((hb.block g (at_lt hh)).trans hh)]
        rw [hxs] at hcs
        exact hcs i hi
      rw [hv] at c0 HEND
      rw [hxs] at c0 HEND HE hlr hx
      obtain ⟨m, hm⟩ : ∃ m, xs.length = m := ⟨_, rfl⟩
      rw [hm] at c0 HC hlr hx HEND
      have HM : Hid (xs.length = m) := hm
      clear hU hl hno e0 hcs hh hv hxs hm
      go_enter Tryz.func23, Tryz.ntmps23
      go_wp2_with (first | (go_at_call 64; refine hM.mono ?_; rintro e wx ⟨rfl, rfl⟩))
      go_region_law (first
        | (refine step_own rfl (.tmp 17) (.tmp 23) rfl w.heap.size (.slice (some ⟨w.heap.size, 0, none⟩) 1 1) 1 [z] rfl (lit_own w z) g 0 m cap xs rfl HM.out (by omega) (by omega) (HC.out ((w.alloc (.cells #[.int .i64 z] 3)).drew) hd1) hd1.size ?_; intro g2 c2 w2 ho2 hb2 _; rw [Nat.add_comm 1 m]; rw [Nat.add_comm 1 m] at ho2; obtain ⟨c2', f2, k2, b2⟩ := HEND.out g2 (m + 1) c2 w2 rfl ho2 (hd1.trans hb2); have HK : Hid (KS s (w2.setCell ⟨q, k, none⟩ (.slice (some ⟨g2, 0, none⟩) (m + 1) c2)) q (up X k (z :: xs)) ∧ Buts [q] w (w2.setCell ⟨q, k, none⟩ (.slice (some ⟨g2, 0, none⟩) (m + 1) c2))) := ⟨k2, b2⟩; clear k2 b2 ho2 hb2))
      all_goals
        go_wp2
        go_ret
        rw [HE.out]
        exact ⟨rfl, HK.out.1, HK.out.2⟩
  · have e1 : (adE X z r == 0) = false := by simpa using e0
    have HE : Hid (pushX X z r = X) := by show _ = _; unfold pushX; rw [if_neg e0]
    clear h e0
    generalize adE X z r = v at *
    go_enter Tryz.func23, Tryz.ntmps23
    go_wp2_with (first | (go_at_call 64; refine hM.mono ?_; rintro e wx ⟨rfl, rfl⟩))
    go_ret
    rw [HE.out]
    exact ⟨rfl, HS.out, Buts.refl _ _⟩
end Go.Proofs.YtjhpiecbolmleaaGreatDoor
