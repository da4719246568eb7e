/- The document's own queue: a rank that turns. -/
import Derived.Test.YtjhpiecbolmleaaGreatDoorKDo
namespace Go.Proofs.YtjhpiecbolmleaaGreatDoor
open Go Go.RowKit Go.Shelf
set_option maxRecDepth 100000
set_option linter.unusedVariables false
set_option linter.unusedSimpArgs false
set_option maxHeartbeats 8000000 in
theorem kturn_any {s : Nat} {w : World} {q : Nat} {X : Nat → List Int} (h : KS s w q X) (hl : ∀ r, r < 32 → (X r).length ≤ 256) (r : Int) :
    Calls Tryz.prog 25 #[.pointer (some ⟨q, 0, none⟩), .int .i64 r] w fun e w' => e = .returned (.int .i64 (tuE X r)) ∧ KS s w' q (tuX X r) ∧ Buts [q] w w' := by
  have HS : Hid (KS s w q X) := h
  have hmx : Tryz.prog.follows .mixedOrders = true := by kernel_rfl
  by_cases hr : 0 ≤ r ∧ r ≤ 31
  · obtain ⟨k, rfl⟩ := Int.eq_ofNat_of_zero_le hr.1
    have hk : k < 32 := by omega
    have hk32 : (k : Int) < 32 := by omega
    have hk0 : ¬ ((k : Int) < 0) := by omega
    have hk31 : ¬ (31 < (k : Int)) := by omega
    obtain ⟨e1, e2⟩ := tuE_rank (X := X) hk
    obtain ⟨us, hU⟩ := h
    have hlr := hl k hk
    have c0 := hU.cell hk
    have f0 := hU.free k
    have hlt := at_lt hU.head
    have hsl := hU.lo
    rcases hU.row k hk with ⟨hv, hx⟩ | ⟨g, cap, cs, hv, ⟨hx, hxc⟩, hsg, hh, hcs⟩
    · have e3 : takeE (X k) = 11 := by rw [hx]; rfl
      have e4 : up X k (turnL (X k)) = X := by
        have : turnL (X k) = X k := by rw [hx]; rfl
        rw [this, up_self]
      rw [e1, e2, e3, e4]
      rw [hv] at c0
      clear hU hl hlr e1 e2 e3 e4 hx hv
      go_enter Tryz.func25, Tryz.ntmps25
      go_wp2
      go_ret
      exact ⟨rfl, HS.out, Buts.refl _ _⟩
    · obtain ⟨x, tl, hxt⟩ : ∃ x tl, X k = x :: tl := by
        cases hX : X k with
        | nil => rw [hX] at hx; simp at hx
        | cons a l => exact ⟨a, l, rfl⟩
      have e3 : takeE (X k) = 0 := by rw [hxt]; exact takeE_cons x tl
      have e4 : turnL (X k) = tl ++ [x] := by rw [hxt]; rfl
      rw [e1, e2, e3, e4]
      rw [hv] at c0
      rw [hxt] at c0 hlr hx hxc hcs
      obtain ⟨m, hm⟩ : ∃ m, tl.length = m := ⟨_, rfl⟩
      have HM : Hid (tl.length = m) := hm
      have hml : (x :: tl).length = m + 1 := by simp [hm]
      rw [hml] at c0 hlr hx hxc hcs
      have d0 : w.cell? ⟨g, 0, none⟩ = some (.int .i64 x) := by rw [cell_of hh]; exact hcs 0 (by omega)
      have hgl := at_lt hh
      have HC : Hid (∀ W, Below w.heap.size w W → ∀ i, i < m → W.cell? ⟨g, 1 + i, none⟩ = some (.int .i64 (tl.getD i 0))) := fun W hb i hi => by
        rw [cell_of ((hb.block g hgl).trans hh), Nat.add_comm 1 i]
        have := hcs (i + 1) (by omega)
        simpa using this
      have HEND : Hid (∀ g2 n c2 w2, n = m + 1 → w2.ownsRow w.heap.size 3 1 (.slice (some ⟨g2, 0, none⟩) n c2) n ((tl ++ [x]).map (Value.int .i64)) → Below w.heap.size w w2 → w2.cell? ⟨q, k, none⟩ = some (us k) ∧ w2.frozen? ⟨q, k, none⟩ = false ∧ KS s (w2.setCell ⟨q, k, none⟩ (.slice (some ⟨g2, 0, none⟩) n c2)) q (up X k (tl ++ [x])) ∧ Buts [q] w (w2.setCell ⟨q, k, none⟩ (.slice (some ⟨g2, 0, none⟩) n c2))) := fun g2 n c2 w2 hn ho hb => by
        have hU2 := hU.below hb
        exact ⟨hU2.cell hk, hU2.free _, hU2.set hk (KRow.own ho (by simp [hn, hm]) (by omega) (by omega)), but_set hb _ _⟩
      rw [hv, hxt, hml] at HEND
      have hd0 : Below w.heap.size w w.drew := (Below.refl _ w).drew
      have hd1 : Below w.heap.size w (w.alloc (.cells #[.int .i64 x] 3)).drew := (alloc_below w _).drew
      have hmz : (((m + 1 : Nat) : Int) == 0) = false := by simp; omega
      have hmz2 : (m + 1 == 0) = false := by simp
      have d1 : w.drew.cell? ⟨g, 0, none⟩ = some (.int .i64 x) := d0
      clear hU hl e1 e2 e3 e4 hv hxt hcs hh hml hm
      by_cases hm0 : m = 0
      · subst hm0
        obtain rfl : tl = [] := List.length_eq_zero_iff.1 HM.out
        simp only [Nat.zero_add] at c0 HEND hxc
        clear hmz hmz2 hx hlr HC
        by_cases hc1 : cap = 1
        · subst hc1
          go_enter Tryz.func25, Tryz.ntmps25
          go_wp2
          refine wp_region_any hmx ?_
          refine wpAny_take (i := 0) (v := ?vr1) rfl (by kernel_rfl) (by kernel_rfl) (by kernel_rfl) (fun _ _ _ h => h) (Or.inl ⟨by rfl, ?hyr1⟩) ?restr1
          case hyr1 => (intro w; go_simp; try with_reducible rfl)
          refine wpAny_take (i := 1) (v := ?vr2) rfl (by kernel_rfl) (by kernel_rfl) (by kernel_rfl) (fun _ _ _ h => h) (Or.inl ⟨by rfl, ?hyr2⟩) ?restr2
          case hyr2 => (intro w; go_simp; try with_reducible rfl)
          refine wpAny_take (i := 2) (v := ?vr3) rfl (by kernel_rfl) (by kernel_rfl) (by kernel_rfl) (fun _ _ _ h => h) (Or.inl ⟨by rfl, ?hyr3⟩) ?restr3
          case hyr3 => (intro w; go_simp; try with_reducible rfl)
          refine wpAny_take (i := 3) (v := ?vr4) rfl (by kernel_rfl) (by kernel_rfl) (by kernel_rfl) (fun _ _ _ h => h) (Or.inl ⟨by rfl, ?hyr4⟩) ?restr4
          case hyr4 => (intro w; go_simp; try with_reducible rfl)
          refine wpAny_take (i := 5) (v := ?vr5) rfl (by kernel_rfl) (by kernel_rfl) (by kernel_rfl) (fun _ _ _ h => h) (Or.inl ⟨by rfl, ?hyr5⟩) ?restr5
          case hyr5 => (intro w; go_simp; try with_reducible rfl)
          refine wpAny_take (i := 6) (v := ?vr6) rfl (by kernel_rfl) (by kernel_rfl) (by kernel_rfl) (fun _ _ _ h => h) (Or.inl ⟨by rfl, ?hyr6⟩) ?restr6
          case hyr6 => (intro w; go_simp; try with_reducible rfl)
          refine wpAny_take (i := 10) (v := ?vr7) rfl (by kernel_rfl) (by kernel_rfl) (by kernel_rfl) (fun _ _ _ h => h) (Or.inl ⟨by rfl, ?hyr7⟩) ?restr7
          case hyr7 => (intro w; go_simp; try with_reducible rfl)
          refine wpAny_take (i := 11) (v := ?vr8) rfl (by kernel_rfl) (by kernel_rfl) (by kernel_rfl) (fun _ _ _ h => h) (Or.inl ⟨by rfl, ?hyr8⟩) ?restr8
          case hyr8 => (intro w; go_simp; try with_reducible rfl)
          refine wpAny_ready (rs := [4, 7]) (by kernel_rfl) (by simp) ?_
          refine AllReady.cons rfl (fun K hK => ?_) ?_
          · go_simp; refine hK _ _ ?_; clear hK K
            refine wpAny_ready (rs := [7]) (by kernel_rfl) (by simp) ?_
            refine AllReady.cons rfl (fun K hK => ?_) AllReady.nil
            go_simp; refine hK _ _ ?_; clear hK K
            refine wpAny_ready (rs := [8]) (by kernel_rfl) (by simp) ?_
            refine AllReady.cons rfl (fun K hK => ?_) AllReady.nil
            go_simp; refine hK _ _ ?_; clear hK K
            refine wpAny_ready (rs := [9]) (by kernel_rfl) (by simp) ?_
            refine AllReady.cons rfl (fun K hK => ?_) AllReady.nil
            refine step_own rfl (.tmp 25) (.tmp 29) rfl w.heap.size (.slice none 0 0) 0 [] (by go_simp) (World.ownsRow_nil _ _ _ _) w.heap.size 0 1 1 [x] (by go_simp) rfl (by omega) (by omega) (one_cell w x) hd1.size ?_; intro g2 c2 w2 ho2 hb2 _; obtain ⟨c2', f2, k2, b2⟩ := HEND.out g2 1 c2 w2 rfl ho2 (hd1.trans hb2); have HK : Hid (KS s (w2.setCell ⟨q, k, none⟩ (.slice (some ⟨g2, 0, none⟩) 1 c2)) q (up X k ([] ++ [x])) ∧ Buts [q] w (w2.setCell ⟨q, k, none⟩ (.slice (some ⟨g2, 0, none⟩) 1 c2))) := ⟨k2, b2⟩; clear k2 b2 ho2 hb2; go_simp; refine hK _ _ ?_; clear hK K
            refine wpAny_take (i := 12) (v := ?vr9) rfl (by kernel_rfl) (by kernel_rfl) (by kernel_rfl) (fun _ _ _ h => h) (Or.inl ⟨by rfl, ?hyr9⟩) ?restr9
            case hyr9 => (intro w; go_simp; try with_reducible rfl)
            refine wpAny_ready (rs := [13]) (by kernel_rfl) (by simp) ?_
            refine AllReady.cons rfl (fun K hK => ?_) AllReady.nil
            go_simp; refine hK _ _ ?_; clear hK K
            refine wpAny_done (by kernel_rfl) ?_ _
            go_simp
            go_wp2
            go_ret
            exact ⟨rfl, HK.out.1, HK.out.2⟩
          refine AllReady.cons rfl (fun K hK => ?_) AllReady.nil
          go_simp; refine hK _ _ ?_; clear hK K
          refine wpAny_ready (rs := [4, 8]) (by kernel_rfl) (by simp) ?_
          refine AllReady.cons rfl (fun K hK => ?_) ?_
          · go_simp; refine hK _ _ ?_; clear hK K
            refine wpAny_ready (rs := [8]) (by kernel_rfl) (by simp) ?_
            refine AllReady.cons rfl (fun K hK => ?_) AllReady.nil
            go_simp; refine hK _ _ ?_; clear hK K
            refine wpAny_ready (rs := [9]) (by kernel_rfl) (by simp) ?_
            refine AllReady.cons rfl (fun K hK => ?_) AllReady.nil
            refine step_own rfl (.tmp 25) (.tmp 29) rfl w.heap.size (.slice none 0 0) 0 [] (by go_simp) (World.ownsRow_nil _ _ _ _) w.heap.size 0 1 1 [x] (by go_simp) rfl (by omega) (by omega) (one_cell w x) hd1.size ?_; intro g2 c2 w2 ho2 hb2 _; obtain ⟨c2', f2, k2, b2⟩ := HEND.out g2 1 c2 w2 rfl ho2 (hd1.trans hb2); have HK : Hid (KS s (w2.setCell ⟨q, k, none⟩ (.slice (some ⟨g2, 0, none⟩) 1 c2)) q (up X k ([] ++ [x])) ∧ Buts [q] w (w2.setCell ⟨q, k, none⟩ (.slice (some ⟨g2, 0, none⟩) 1 c2))) := ⟨k2, b2⟩; clear k2 b2 ho2 hb2; go_simp; refine hK _ _ ?_; clear hK K
            refine wpAny_take (i := 12) (v := ?vr10) rfl (by kernel_rfl) (by kernel_rfl) (by kernel_rfl) (fun _ _ _ h => h) (Or.inl ⟨by rfl, ?hyr10⟩) ?restr10
            case hyr10 => (intro w; go_simp; try with_reducible rfl)
            refine wpAny_ready (rs := [13]) (by kernel_rfl) (by simp) ?_
            refine AllReady.cons rfl (fun K hK => ?_) AllReady.nil
            go_simp; refine hK _ _ ?_; clear hK K
            refine wpAny_done (by kernel_rfl) ?_ _
            go_simp
            go_wp2
            go_ret
            exact ⟨rfl, HK.out.1, HK.out.2⟩
          refine AllReady.cons rfl (fun K hK => ?_) AllReady.nil
          go_simp; refine hK _ _ ?_; clear hK K
          refine wpAny_ready (rs := [4]) (by kernel_rfl) (by simp) ?_
          refine AllReady.cons rfl (fun K hK => ?_) AllReady.nil
          go_simp; refine hK _ _ ?_; clear hK K
          refine wpAny_ready (rs := [9]) (by kernel_rfl) (by simp) ?_
          refine AllReady.cons rfl (fun K hK => ?_) AllReady.nil
          refine step_own rfl (.tmp 25) (.tmp 29) rfl w.heap.size (.slice none 0 0) 0 [] (by go_simp) (World.ownsRow_nil _ _ _ _) w.heap.size 0 1 1 [x] (by go_simp) rfl (by omega) (by omega) (one_cell w x) hd1.size ?_; intro g2 c2 w2 ho2 hb2 _; obtain ⟨c2', f2, k2, b2⟩ := HEND.out g2 1 c2 w2 rfl ho2 (hd1.trans hb2); have HK : Hid (KS s (w2.setCell ⟨q, k, none⟩ (.slice (some ⟨g2, 0, none⟩) 1 c2)) q (up X k ([] ++ [x])) ∧ Buts [q] w (w2.setCell ⟨q, k, none⟩ (.slice (some ⟨g2, 0, none⟩) 1 c2))) := ⟨k2, b2⟩; clear k2 b2 ho2 hb2; go_simp; refine hK _ _ ?_; clear hK K
          refine wpAny_take (i := 12) (v := ?vr11) rfl (by kernel_rfl) (by kernel_rfl) (by kernel_rfl) (fun _ _ _ h => h) (Or.inl ⟨by rfl, ?hyr11⟩) ?restr11
          case hyr11 => (intro w; go_simp; try with_reducible rfl)
          refine wpAny_ready (rs := [13]) (by kernel_rfl) (by simp) ?_
          refine AllReady.cons rfl (fun K hK => ?_) AllReady.nil
          go_simp; refine hK _ _ ?_; clear hK K
          refine wpAny_done (by kernel_rfl) ?_ _
          go_simp
          go_wp2
          go_ret
          exact ⟨rfl, HK.out.1, HK.out.2⟩
        · have hcn : ¬ cap = 1 := hc1
          go_enter Tryz.func25, Tryz.ntmps25
          go_wp2
          refine wp_region_any hmx ?_
          refine wpAny_take (i := 0) (v := ?vs1) rfl (by kernel_rfl) (by kernel_rfl) (by kernel_rfl) (fun _ _ _ h => h) (Or.inl ⟨by rfl, ?hys1⟩) ?rests1
          case hys1 => (intro w; go_simp; try with_reducible rfl)
          refine wpAny_take (i := 1) (v := ?vs2) rfl (by kernel_rfl) (by kernel_rfl) (by kernel_rfl) (fun _ _ _ h => h) (Or.inl ⟨by rfl, ?hys2⟩) ?rests2
          case hys2 => (intro w; go_simp; try with_reducible rfl)
          refine wpAny_take (i := 2) (v := ?vs3) rfl (by kernel_rfl) (by kernel_rfl) (by kernel_rfl) (fun _ _ _ h => h) (Or.inl ⟨by rfl, ?hys3⟩) ?rests3
          case hys3 => (intro w; go_simp; try with_reducible rfl)
          refine wpAny_take (i := 3) (v := ?vs4) rfl (by kernel_rfl) (by kernel_rfl) (by kernel_rfl) (fun _ _ _ h => h) (Or.inl ⟨by rfl, ?hys4⟩) ?rests4
          case hys4 => (intro w; go_simp; try with_reducible rfl)
          refine wpAny_take (i := 5) (v := ?vs5) rfl (by kernel_rfl) (by kernel_rfl) (by kernel_rfl) (fun _ _ _ h => h) (Or.inl ⟨by rfl, ?hys5⟩) ?rests5
          case hys5 => (intro w; go_simp; try with_reducible rfl)
          refine wpAny_take (i := 6) (v := ?vs6) rfl (by kernel_rfl) (by kernel_rfl) (by kernel_rfl) (fun _ _ _ h => h) (Or.inl ⟨by rfl, ?hys6⟩) ?rests6
          case hys6 => (intro w; go_simp; try with_reducible rfl)
          refine wpAny_take (i := 10) (v := ?vs7) rfl (by kernel_rfl) (by kernel_rfl) (by kernel_rfl) (fun _ _ _ h => h) (Or.inl ⟨by rfl, ?hys7⟩) ?rests7
          case hys7 => (intro w; go_simp; try with_reducible rfl)
          refine wpAny_take (i := 11) (v := ?vs8) rfl (by kernel_rfl) (by kernel_rfl) (by kernel_rfl) (fun _ _ _ h => h) (Or.inl ⟨by rfl, ?hys8⟩) ?rests8
          case hys8 => (intro w; go_simp; try with_reducible rfl)
          refine wpAny_ready (rs := [4, 7]) (by kernel_rfl) (by simp) ?_
          refine AllReady.cons rfl (fun K hK => ?_) ?_
          · go_simp; refine hK _ _ ?_; clear hK K
            refine wpAny_ready (rs := [7]) (by kernel_rfl) (by simp) ?_
            refine AllReady.cons rfl (fun K hK => ?_) AllReady.nil
            go_simp; refine hK _ _ ?_; clear hK K
            refine wpAny_ready (rs := [8]) (by kernel_rfl) (by simp) ?_
            refine AllReady.cons rfl (fun K hK => ?_) AllReady.nil
            go_simp; refine hK _ _ ?_; clear hK K
            refine wpAny_ready (rs := [9]) (by kernel_rfl) (by simp) ?_
            refine AllReady.cons rfl (fun K hK => ?_) AllReady.nil
            refine step_own rfl (.tmp 25) (.tmp 29) rfl w.heap.size (.slice none 0 0) 0 [] (by go_simp) (World.ownsRow_nil _ _ _ _) w.heap.size 0 1 1 [x] (by go_simp) rfl (by omega) (by omega) (one_cell w x) hd1.size ?_; intro g2 c2 w2 ho2 hb2 _; obtain ⟨c2', f2, k2, b2⟩ := HEND.out g2 1 c2 w2 rfl ho2 (hd1.trans hb2); have HK : Hid (KS s (w2.setCell ⟨q, k, none⟩ (.slice (some ⟨g2, 0, none⟩) 1 c2)) q (up X k ([] ++ [x])) ∧ Buts [q] w (w2.setCell ⟨q, k, none⟩ (.slice (some ⟨g2, 0, none⟩) 1 c2))) := ⟨k2, b2⟩; clear k2 b2 ho2 hb2; go_simp; refine hK _ _ ?_; clear hK K
            refine wpAny_take (i := 12) (v := ?vs9) rfl (by kernel_rfl) (by kernel_rfl) (by kernel_rfl) (fun _ _ _ h => h) (Or.inl ⟨by rfl, ?hys9⟩) ?rests9
            case hys9 => (intro w; go_simp; try with_reducible rfl)
            refine wpAny_ready (rs := [13]) (by kernel_rfl) (by simp) ?_
            refine AllReady.cons rfl (fun K hK => ?_) AllReady.nil
            go_simp; refine hK _ _ ?_; clear hK K
            refine wpAny_done (by kernel_rfl) ?_ _
            go_simp
            go_wp2
            go_ret
            exact ⟨rfl, HK.out.1, HK.out.2⟩
          refine AllReady.cons rfl (fun K hK => ?_) AllReady.nil
          go_simp; refine hK _ _ ?_; clear hK K
          refine wpAny_ready (rs := [4, 8]) (by kernel_rfl) (by simp) ?_
          refine AllReady.cons rfl (fun K hK => ?_) ?_
          · go_simp; refine hK _ _ ?_; clear hK K
            refine wpAny_ready (rs := [8]) (by kernel_rfl) (by simp) ?_
            refine AllReady.cons rfl (fun K hK => ?_) AllReady.nil
            go_simp; refine hK _ _ ?_; clear hK K
            refine wpAny_ready (rs := [9]) (by kernel_rfl) (by simp) ?_
            refine AllReady.cons rfl (fun K hK => ?_) AllReady.nil
            refine step_own rfl (.tmp 25) (.tmp 29) rfl w.heap.size (.slice none 0 0) 0 [] (by go_simp) (World.ownsRow_nil _ _ _ _) w.heap.size 0 1 1 [x] (by go_simp) rfl (by omega) (by omega) (one_cell w x) hd1.size ?_; intro g2 c2 w2 ho2 hb2 _; obtain ⟨c2', f2, k2, b2⟩ := HEND.out g2 1 c2 w2 rfl ho2 (hd1.trans hb2); have HK : Hid (KS s (w2.setCell ⟨q, k, none⟩ (.slice (some ⟨g2, 0, none⟩) 1 c2)) q (up X k ([] ++ [x])) ∧ Buts [q] w (w2.setCell ⟨q, k, none⟩ (.slice (some ⟨g2, 0, none⟩) 1 c2))) := ⟨k2, b2⟩; clear k2 b2 ho2 hb2; go_simp; refine hK _ _ ?_; clear hK K
            refine wpAny_take (i := 12) (v := ?vs10) rfl (by kernel_rfl) (by kernel_rfl) (by kernel_rfl) (fun _ _ _ h => h) (Or.inl ⟨by rfl, ?hys10⟩) ?rests10
            case hys10 => (intro w; go_simp; try with_reducible rfl)
            refine wpAny_ready (rs := [13]) (by kernel_rfl) (by simp) ?_
            refine AllReady.cons rfl (fun K hK => ?_) AllReady.nil
            go_simp; refine hK _ _ ?_; clear hK K
            refine wpAny_done (by kernel_rfl) ?_ _
            go_simp
            go_wp2
            go_ret
            exact ⟨rfl, HK.out.1, HK.out.2⟩
          refine AllReady.cons rfl (fun K hK => ?_) AllReady.nil
          go_simp; refine hK _ _ ?_; clear hK K
          refine wpAny_ready (rs := [4]) (by kernel_rfl) (by simp) ?_
          refine AllReady.cons rfl (fun K hK => ?_) AllReady.nil
          go_simp; refine hK _ _ ?_; clear hK K
          refine wpAny_ready (rs := [9]) (by kernel_rfl) (by simp) ?_
          refine AllReady.cons rfl (fun K hK => ?_) AllReady.nil
          refine step_own rfl (.tmp 25) (.tmp 29) rfl w.heap.size (.slice none 0 0) 0 [] (by go_simp) (World.ownsRow_nil _ _ _ _) w.heap.size 0 1 1 [x] (by go_simp) rfl (by omega) (by omega) (one_cell w x) hd1.size ?_; intro g2 c2 w2 ho2 hb2 _; obtain ⟨c2', f2, k2, b2⟩ := HEND.out g2 1 c2 w2 rfl ho2 (hd1.trans hb2); have HK : Hid (KS s (w2.setCell ⟨q, k, none⟩ (.slice (some ⟨g2, 0, none⟩) 1 c2)) q (up X k ([] ++ [x])) ∧ Buts [q] w (w2.setCell ⟨q, k, none⟩ (.slice (some ⟨g2, 0, none⟩) 1 c2))) := ⟨k2, b2⟩; clear k2 b2 ho2 hb2; go_simp; refine hK _ _ ?_; clear hK K
          refine wpAny_take (i := 12) (v := ?vs11) rfl (by kernel_rfl) (by kernel_rfl) (by kernel_rfl) (fun _ _ _ h => h) (Or.inl ⟨by rfl, ?hys11⟩) ?rests11
          case hys11 => (intro w; go_simp; try with_reducible rfl)
          refine wpAny_ready (rs := [13]) (by kernel_rfl) (by simp) ?_
          refine AllReady.cons rfl (fun K hK => ?_) AllReady.nil
          go_simp; refine hK _ _ ?_; clear hK K
          refine wpAny_done (by kernel_rfl) ?_ _
          go_simp
          go_wp2
          go_ret
          exact ⟨rfl, HK.out.1, HK.out.2⟩
      · have hm1 : 0 < m := by omega
        have hcn : ¬ cap = 1 := by omega
        have h1m : (1 : Int) ≤ (m : Int) + 1 := by omega
        go_enter Tryz.func25, Tryz.ntmps25
        go_wp2
        refine wp_region_any hmx ?_
        refine wpAny_take (i := 0) (v := ?vq1) rfl (by kernel_rfl) (by kernel_rfl) (by kernel_rfl) (fun _ _ _ h => h) (Or.inl ⟨by rfl, ?hyq1⟩) ?restq1
        case hyq1 => (intro w; go_simp; try with_reducible rfl)
        refine wpAny_take (i := 1) (v := ?vq2) rfl (by kernel_rfl) (by kernel_rfl) (by kernel_rfl) (fun _ _ _ h => h) (Or.inl ⟨by rfl, ?hyq2⟩) ?restq2
        case hyq2 => (intro w; go_simp; try with_reducible rfl)
        refine wpAny_take (i := 2) (v := ?vq3) rfl (by kernel_rfl) (by kernel_rfl) (by kernel_rfl) (fun _ _ _ h => h) (Or.inl ⟨by rfl, ?hyq3⟩) ?restq3
        case hyq3 => (intro w; go_simp; try with_reducible rfl)
        refine wpAny_take (i := 3) (v := ?vq4) rfl (by kernel_rfl) (by kernel_rfl) (by kernel_rfl) (fun _ _ _ h => h) (Or.inl ⟨by rfl, ?hyq4⟩) ?restq4
        case hyq4 => (intro w; go_simp; try with_reducible rfl)
        refine wpAny_take (i := 5) (v := ?vq5) rfl (by kernel_rfl) (by kernel_rfl) (by kernel_rfl) (fun _ _ _ h => h) (Or.inl ⟨by rfl, ?hyq5⟩) ?restq5
        case hyq5 => (intro w; go_simp; try with_reducible rfl)
        refine wpAny_take (i := 6) (v := ?vq6) rfl (by kernel_rfl) (by kernel_rfl) (by kernel_rfl) (fun _ _ _ h => h) (Or.inl ⟨by rfl, ?hyq6⟩) ?restq6
        case hyq6 => (intro w; go_simp; try with_reducible rfl)
        refine wpAny_take (i := 10) (v := ?vq7) rfl (by kernel_rfl) (by kernel_rfl) (by kernel_rfl) (fun _ _ _ h => h) (Or.inl ⟨by rfl, ?hyq7⟩) ?restq7
        case hyq7 => (intro w; go_simp; try with_reducible rfl)
        refine wpAny_take (i := 11) (v := ?vq8) rfl (by kernel_rfl) (by kernel_rfl) (by kernel_rfl) (fun _ _ _ h => h) (Or.inl ⟨by rfl, ?hyq8⟩) ?restq8
        case hyq8 => (intro w; go_simp; try with_reducible rfl)
        refine wpAny_ready (rs := [4, 7]) (by kernel_rfl) (by simp) ?_
        refine AllReady.cons rfl (fun K hK => ?_) ?_
        · refine step_own rfl (.const (.slice none 0 0)) (.tmp 24) rfl w.heap.size (.slice none 0 0) 0 [] rfl (World.ownsRow_nil _ _ _ _) g 1 m (cap - 1) tl (by go_simp) HM.out (by omega) (by omega) (HC.out w.drew hd0) hd0.size ?_; intro g1 c1 w1 ho1 hb1 hbb; simp only [Nat.zero_add] at ho1 ⊢; have H1 : Hid (w1.ownsRow w.heap.size 3 1 (.slice (some ⟨g1, 0, none⟩) m c1) m (tl.map (Value.int .i64)) ∧ Below w.heap.size w w1 ∧ w.drew.heap.size ≤ w1.heap.size) := ⟨ho1, hd0.trans hb1, (hbb rfl).size⟩; have d2 : w1.cell? ⟨g, 0, none⟩ = some (.int .i64 x) := ((hd0.trans hb1).cell (p := ⟨g, 0, none⟩) hgl).trans d0; clear ho1 hb1 hbb; go_simp; refine hK _ _ ?_; clear hK K
          refine wpAny_ready (rs := [7]) (by kernel_rfl) (by simp) ?_
          refine AllReady.cons rfl (fun K hK => ?_) AllReady.nil
          go_simp; refine hK _ _ ?_; clear hK K
          refine wpAny_ready (rs := [8]) (by kernel_rfl) (by simp) ?_
          refine AllReady.cons rfl (fun K hK => ?_) AllReady.nil
          go_simp; refine hK _ _ ?_; clear hK K
          refine wpAny_ready (rs := [9]) (by kernel_rfl) (by simp) ?_
          refine AllReady.cons rfl (fun K hK => ?_) AllReady.nil
          refine step_own rfl (.tmp 25) (.tmp 29) rfl w.heap.size (.slice (some ⟨g1, 0, none⟩) m c1) m tl (by go_simp) (H1.out.1.alloc _) w1.heap.size 0 1 1 [x] (by go_simp) rfl (by omega) (by omega) (one_cell w1 x) (Nat.le_trans H1.out.2.1.size (alloc_below w1 _).size) ?_; intro g2 c2 w2 ho2 hb2 _; obtain ⟨c2', f2, k2, b2⟩ := HEND.out g2 (m + 1) c2 w2 rfl ho2 ((H1.out.2.1.trans ((alloc_below w1 _).mono H1.out.2.1.size)).trans hb2); have HK : Hid (KS s (w2.setCell ⟨q, k, none⟩ (.slice (some ⟨g2, 0, none⟩) (m + 1) c2)) q (up X k (tl ++ [x])) ∧ Buts [q] w (w2.setCell ⟨q, k, none⟩ (.slice (some ⟨g2, 0, none⟩) (m + 1) c2))) := ⟨k2, b2⟩; clear k2 b2 ho2 hb2; go_simp; refine hK _ _ ?_; clear hK K
          refine wpAny_take (i := 12) (v := ?vq9) rfl (by kernel_rfl) (by kernel_rfl) (by kernel_rfl) (fun _ _ _ h => h) (Or.inl ⟨by rfl, ?hyq9⟩) ?restq9
          case hyq9 => (intro w; go_simp; try with_reducible rfl)
          refine wpAny_ready (rs := [13]) (by kernel_rfl) (by simp) ?_
          refine AllReady.cons rfl (fun K hK => ?_) AllReady.nil
          go_simp; refine hK _ _ ?_; clear hK K
          refine wpAny_done (by kernel_rfl) ?_ _
          go_simp
          go_wp2
          go_ret
          exact ⟨rfl, HK.out.1, HK.out.2⟩
        refine AllReady.cons rfl (fun K hK => ?_) AllReady.nil
        go_simp; refine hK _ _ ?_; clear hK K
        refine wpAny_ready (rs := [4, 8]) (by kernel_rfl) (by simp) ?_
        refine AllReady.cons rfl (fun K hK => ?_) ?_
        · refine step_own rfl (.const (.slice none 0 0)) (.tmp 24) rfl w.heap.size (.slice none 0 0) 0 [] rfl (World.ownsRow_nil _ _ _ _) g 1 m (cap - 1) tl (by go_simp) HM.out (by omega) (by omega) (HC.out w.drew hd0) hd0.size ?_; intro g1 c1 w1 ho1 hb1 hbb; simp only [Nat.zero_add] at ho1 ⊢; have H1 : Hid (w1.ownsRow w.heap.size 3 1 (.slice (some ⟨g1, 0, none⟩) m c1) m (tl.map (Value.int .i64)) ∧ Below w.heap.size w w1 ∧ w.drew.heap.size ≤ w1.heap.size) := ⟨ho1, hd0.trans hb1, (hbb rfl).size⟩; have d2 : w1.cell? ⟨g, 0, none⟩ = some (.int .i64 x) := ((hd0.trans hb1).cell (p := ⟨g, 0, none⟩) hgl).trans d0; clear ho1 hb1 hbb; go_simp; refine hK _ _ ?_; clear hK K
          refine wpAny_ready (rs := [8]) (by kernel_rfl) (by simp) ?_
          refine AllReady.cons rfl (fun K hK => ?_) AllReady.nil
          go_simp; refine hK _ _ ?_; clear hK K
          refine wpAny_ready (rs := [9]) (by kernel_rfl) (by simp) ?_
          refine AllReady.cons rfl (fun K hK => ?_) AllReady.nil
          refine step_own rfl (.tmp 25) (.tmp 29) rfl w.heap.size (.slice (some ⟨g1, 0, none⟩) m c1) m tl (by go_simp) (H1.out.1.alloc _) w1.heap.size 0 1 1 [x] (by go_simp) rfl (by omega) (by omega) (one_cell w1 x) (Nat.le_trans H1.out.2.1.size (alloc_below w1 _).size) ?_; intro g2 c2 w2 ho2 hb2 _; obtain ⟨c2', f2, k2, b2⟩ := HEND.out g2 (m + 1) c2 w2 rfl ho2 ((H1.out.2.1.trans ((alloc_below w1 _).mono H1.out.2.1.size)).trans hb2); have HK : Hid (KS s (w2.setCell ⟨q, k, none⟩ (.slice (some ⟨g2, 0, none⟩) (m + 1) c2)) q (up X k (tl ++ [x])) ∧ Buts [q] w (w2.setCell ⟨q, k, none⟩ (.slice (some ⟨g2, 0, none⟩) (m + 1) c2))) := ⟨k2, b2⟩; clear k2 b2 ho2 hb2; go_simp; refine hK _ _ ?_; clear hK K
          refine wpAny_take (i := 12) (v := ?vq10) rfl (by kernel_rfl) (by kernel_rfl) (by kernel_rfl) (fun _ _ _ h => h) (Or.inl ⟨by rfl, ?hyq10⟩) ?restq10
          case hyq10 => (intro w; go_simp; try with_reducible rfl)
          refine wpAny_ready (rs := [13]) (by kernel_rfl) (by simp) ?_
          refine AllReady.cons rfl (fun K hK => ?_) AllReady.nil
          go_simp; refine hK _ _ ?_; clear hK K
          refine wpAny_done (by kernel_rfl) ?_ _
          go_simp
          go_wp2
          go_ret
          exact ⟨rfl, HK.out.1, HK.out.2⟩
        refine AllReady.cons rfl (fun K hK => ?_) AllReady.nil
        go_simp; refine hK _ _ ?_; clear hK K
        refine wpAny_ready (rs := [4]) (by kernel_rfl) (by simp) ?_
        refine AllReady.cons rfl (fun K hK => ?_) AllReady.nil
        refine step_own rfl (.const (.slice none 0 0)) (.tmp 24) rfl w.heap.size (.slice none 0 0) 0 [] rfl (World.ownsRow_nil _ _ _ _) g 1 m (cap - 1) tl (by go_simp) HM.out (by omega) (by omega) (HC.out ((w.alloc (.cells #[.int .i64 x] 3)).drew) hd1) hd1.size ?_; intro g1 c1 w1 ho1 hb1 hbb; simp only [Nat.zero_add] at ho1 ⊢; have H1 : Hid (w1.ownsRow w.heap.size 3 1 (.slice (some ⟨g1, 0, none⟩) m c1) m (tl.map (Value.int .i64)) ∧ Below w.heap.size w w1 ∧ (w.alloc (.cells #[.int .i64 x] 3)).drew.heap.size ≤ w1.heap.size) := ⟨ho1, hd1.trans hb1, (hbb rfl).size⟩; have HONE : Hid (∀ i, i < 1 → w1.cell? ⟨w.heap.size, 0 + i, none⟩ = some (.int .i64 (([x] : List Int).getD i 0))) := (fun i hi => by rw [(hbb rfl).cell (p := ⟨w.heap.size, 0 + i, none⟩) (by show _ < (w.alloc (.cells #[.int .i64 x] 3)).heap.size; rw [alloc_size]; exact Nat.lt_succ_self _)]; exact one_cell w x i hi); clear ho1 hb1 hbb; go_simp; refine hK _ _ ?_; clear hK K
        refine wpAny_ready (rs := [9]) (by kernel_rfl) (by simp) ?_
        refine AllReady.cons rfl (fun K hK => ?_) AllReady.nil
        refine step_own rfl (.tmp 25) (.tmp 29) rfl w.heap.size (.slice (some ⟨g1, 0, none⟩) m c1) m tl (by go_simp) H1.out.1 w.heap.size 0 1 1 [x] (by go_simp) rfl (by omega) (by omega) HONE.out (Nat.le_trans hd1.size H1.out.2.2) ?_; intro g2 c2 w2 ho2 hb2 _; obtain ⟨c2', f2, k2, b2⟩ := HEND.out g2 (m + 1) c2 w2 rfl ho2 (H1.out.2.1.trans hb2); have HK : Hid (KS s (w2.setCell ⟨q, k, none⟩ (.slice (some ⟨g2, 0, none⟩) (m + 1) c2)) q (up X k (tl ++ [x])) ∧ Buts [q] w (w2.setCell ⟨q, k, none⟩ (.slice (some ⟨g2, 0, none⟩) (m + 1) c2))) := ⟨k2, b2⟩; clear k2 b2 ho2 hb2 HONE; go_simp; refine hK _ _ ?_; clear hK K
        refine wpAny_take (i := 12) (v := ?vq11) rfl (by kernel_rfl) (by kernel_rfl) (by kernel_rfl) (fun _ _ _ h => h) (Or.inl ⟨by rfl, ?hyq11⟩) ?restq11
        case hyq11 => (intro w; go_simp; try with_reducible rfl)
        refine wpAny_ready (rs := [13]) (by kernel_rfl) (by simp) ?_
        refine AllReady.cons rfl (fun K hK => ?_) AllReady.nil
        go_simp; refine hK _ _ ?_; clear hK K
        refine wpAny_done (by kernel_rfl) ?_ _
        go_simp
        go_wp2
        go_ret
        exact ⟨rfl, HK.out.1, HK.out.2⟩
  · obtain ⟨e1, e2⟩ := tuE_arg (X := X) hr
    rw [e1, e2]
    clear h e1 e2
    go_enter Tryz.func25, Tryz.ntmps25
    rcases Int.lt_or_le r 0 with a | a
    · go_wp2
      go_ret
      exact ⟨rfl, HS.out, Buts.refl _ _⟩
    · have a' : ¬ r < 0 := by omega
      have b' : 31 < r := by omega
      go_wp2
      go_ret
      exact ⟨rfl, HS.out, Buts.refl _ _⟩
end Go.Proofs.YtjhpiecbolmleaaGreatDoor
