/- Ranks: those that are as little as may be, in new memory; or an error. -/
import Derived.Test.YtcjjaofmicegfaaDoorChk
import Derived.WalkMore
import Derived.Deep.LoopGhost
namespace Go.Proofs.YtcjjaofmicegfaaDoor
open Go Go.RowKit
set_option maxRecDepth 100000
set_option linter.unusedVariables false
set_option linter.unusedSimpArgs false
theorem val_iff {bs ws : List Int} : Val bs ws ↔ bs.length = ws.length ∧ bs.length ≤ 256 ∧ Rks bs ∧ Oth ws ∧ Plc ws :=
  ⟨fun h => ⟨h.len, h.few, h.rank, h.oth, h.plc⟩, fun ⟨h1, h2, h3, h4, h5⟩ => ⟨h1, h2, h3, h5, h4⟩⟩
set_option maxHeartbeats 4000000 in
theorem ranks_no {w : World} {sp sq : Option Addr} {bs ws : List Int} (hs : Src w sp bs) (ht : Src w sq ws) (hl : bs.length ≤ 9223372036854775807) (hm : ws.length ≤ 9223372036854775807) (hv : ¬ Val bs ws) (c d : Nat) :
    Calls Tryd.prog 6 #[.slice sp bs.length c, .slice sq ws.length d] w fun e w' => e = .returned (.tuple #[.slice none 0 0, .int .i64 1]) ∧ w = w' := by
  rw [val_iff] at hv
  by_cases h1 : bs.length = ws.length
  · by_cases h2 : bs.length ≤ 256
    · have a1 : ¬ ((256 : Int) < bs.length) := by omega
      by_cases h3 : Rks bs
      · have hR := areRanks_is hs (by omega) c (b := true) (by simp [h3])
        have hO := areOthers_is ht (by omega) d (b := false) (by simp; intro h; exact fun h5 => hv ⟨h1, h2, h3, h, h5⟩)
        clear hs ht hv h2 h3
        rw [← h1] at hO ⊢
        clear h1 hm
        generalize bs.length = n at *
        go_enter Tryd.func6, Tryd.ntmps6
        go_wp2
        go_step3
        go_wp2_with (first | (go_at_call 13; refine hR.mono ?_; rintro e wx ⟨rfl, rfl⟩) | (go_at_call 14; refine hO.mono ?_; rintro e wx ⟨rfl, rfl⟩))
        rw [Exit.noGoto_ret]
        go_ret2
        exact ⟨rfl, rfl⟩
      · have hR := areRanks_is hs (by omega) c (b := false) (by simp [h3])
        clear hs ht hv h2 h3
        rw [← h1]
        clear h1 hm
        generalize bs.length = n at *
        go_enter Tryd.func6, Tryd.ntmps6
        go_wp2
        go_step3
        go_wp2_with (first | (go_at_call 13; refine hR.mono ?_; rintro e wx ⟨rfl, rfl⟩))
        rw [Exit.noGoto_ret]
        go_ret2
        exact ⟨rfl, rfl⟩
    · have a1 : (256 : Int) < bs.length := by omega
      clear hs ht hv h2
      rw [← h1]
      clear h1 hm
      generalize bs.length = n at *
      go_enter Tryd.func6, Tryd.ntmps6
      go_wp2
      go_step3
      go_wp2
      rw [Exit.noGoto_ret]
      go_ret2
      exact ⟨rfl, rfl⟩
  · have a1 : ((bs.length : Int) != (ws.length : Int)) = true := by simpa using fun h => h1 (by omega)
    clear hs ht hv h1
    generalize bs.length = n at *
    generalize ws.length = m at *
    go_enter Tryd.func6, Tryd.ntmps6
    go_wp2
    go_step3
    go_wp2
    rw [Exit.noGoto_ret]
    go_ret2
    exact ⟨rfl, rfl⟩
theorem owns_free {w : World} {B g n cap : Nat} {xs : List Value} (h : w.ownsRow B 3 1 (.slice (some ⟨g, 0, none⟩) n cap) n xs) (j : Nat) : w.frozen? ⟨g, j, none⟩ = false := by
  rcases h.2 with ⟨e, _⟩ | ⟨g', c, cur, e, _, hh, _⟩
  · cases e
  · simp only [Value.slice.injEq, Option.some.injEq, Addr.mk.injEq, and_true, true_and] at e
    obtain ⟨rfl, rfl⟩ := e
    simp [World.frozen?, hh]
theorem num_set (l : List Int) (j : Nat) (v : Int) : (l.map (Value.int .i64)).set j (.int .i64 v) = (l.set j v).map (Value.int .i64) := by rw [List.map_set]
set_option maxHeartbeats 4000000 in
theorem ranks_yes {w : World} {sp sq : Option Addr} {bs ws : List Int} (hs : Src w sp bs) (ht : Src w sq ws) (hv : Val bs ws) (c d : Nat) :
    Calls Tryd.prog 6 #[.slice sp bs.length c, .slice sq ws.length d] w fun e w' => ∃ v l, e = .returned (.tuple #[v, .int .i64 0]) ∧ Lst bs ws l ∧ w'.ownsRow w.heap.size 3 1 v bs.length (l.map (Value.int .i64)) ∧ Below w.heap.size w w' := by
  have HV : Hid (Val bs ws) := hv
  obtain ⟨h1, h2, h3, h4, h5⟩ := val_iff.1 hv
  have hR := areRanks_is hs (by omega) c (b := true) (by simp [h3])
  have hO := areOthers_is ht (by omega) d (b := true) (by simp [h4, h5])
  have hC := clone_any hs (by omega) c
  have HT : Hid (Src w sq ws) := ht
  have HN : Hid (ws.length = bs.length) := h1.symm
  rw [← h1] at hO ⊢
  clear hs ht hv h3 h4 h5 h1
  obtain ⟨n, hn⟩ : ∃ n, bs.length = n := ⟨_, rfl⟩
  have HB : Hid (bs.length = n) := hn
  rw [hn] at hR hO hC h2 HN ⊢
  clear hn
  obtain ⟨B, hB0⟩ : ∃ B, w.heap.size = B := ⟨_, rfl⟩
  have HB0 : Hid (w.heap.size = B) := hB0
  rw [hB0] at hC ⊢
  clear hB0
  go_enter Tryd.func6, Tryd.ntmps6
  go_wp2
  go_step3
  go_wp2_with (first | (go_at_call 13; refine hR.mono ?_; rintro e wx ⟨rfl, rfl⟩) | (go_at_call 14; refine hO.mono ?_; rintro e wx ⟨rfl, rfl⟩) | (go_at_call 15; refine hC.mono ?_; rintro e w1 ⟨v1, rfl, ho1, hb1⟩; obtain ⟨sp1, cap1, rfl, hsp, _, _⟩ := own_form ho1; have HO1 : Hid (w1.ownsRow B 3 1 (.slice sp1 n cap1) n (bs.map (Value.int .i64))) := ho1; have HB1 : Hid (Below B w w1) := hb1; clear ho1 hb1))
  go_step3
  go_wp2
  go_loopg [] (slack bs) (fun gk wx => ∃ l, slack l = gk ∧ Hid (Mid bs ws l) ∧ Hid (wx.ownsRow B 3 1 (.slice sp1 n cap1) n (l.map (Value.int .i64))) ∧ Hid (Below B w wx))
  case atStart => exact ⟨bs, rfl, Mid.start bs ws, HO1, HB1⟩
  case round =>
    clear HO1 HB1
    obtain ⟨l, hg, HM, HO, HW⟩ := hrel
    clear hR hO hC
    go_wp2
    go_loopg [33] n (fun g2 s33 wx => ∃ i : Nat, i + g2 = n ∧ s33 = .int .i64 i ∧ Hid (wx.ownsRow B 3 1 (.slice sp1 n cap1) n (l.map (Value.int .i64))) ∧ Hid (Below B w wx) ∧ Hid (∀ j : Nat, j < i → 0 ≤ ws.getD j 0 → l.getD j 0 ≤ l.getD (ws.getD j 0).toNat 0))
    case atStart => exact ⟨0, by omega, rfl, HO, HW, fun j hj => by omega⟩
    case round =>
      clear HO HW
      rename_i gz
      obtain ⟨i, hig, rfl, HO, HW, HJ⟩ := hrel
      cases gk with
      | zero =>
        obtain rfl : i = n := by omega
        have hlt : ¬ ((i : Int) < i) := by omega
        go_wp2
        try rw [Exit.noGoto_ret]
        go_ret2
        exact ⟨_, l, rfl, ⟨HM.out, fun j hj => HJ.out j (by have := HN.out; omega)⟩, HO.out, HW.out⟩
      | succ g =>
        have hlt : (i : Int) < n := by omega
        obtain ⟨b2, o2, rfl, C2⟩ := (HT.out.below (w' := wr) (by have := HW.out; rwa [HB0.out])).get (by rw [HN.out]; omega)
        have k1 := C2.out i (by rw [HN.out]; omega)
        have HZ0 : Hid (-1 ≤ ws.getD i 0 ∧ ws.getD i 0 < n) := by have := HV.out.plc i (by rw [HN.out]; omega); rwa [HN.out] at this
        obtain ⟨z, hz⟩ : ∃ z, ws.getD i 0 = z := ⟨_, rfl⟩
        rw [hz] at k1 HZ0
        have HZ : Hid (ws.getD i 0 = z) := hz
        clear hz C2
        by_cases hz1 : z = -1
        · subst hz1
          clear HZ0
          go_wp2
          go_quiet ((fail))
          go_wp2
          go_roundg g
          case measure => omega
          case rel => exact ⟨i + 1, by omega, by go_num, owns_below HO.out (below_drewN wr nq), HW.out.trans ((below_drewN wr nq).mono (by have := HW.out.size; have := HB0.out; omega)), fun j hj h0 => by
            rcases Nat.lt_or_ge j i with h | h
            · exact HJ.out j h h0
            · obtain rfl : j = i := by omega
              rw [HZ.out] at h0; omega⟩
        · obtain ⟨j, hj⟩ : ∃ j : Nat, z = (j : Int) := ⟨z.toNat, by have := HZ0.out; omega⟩
          subst hj
          have hjn : (j : Int) < n := HZ0.out.2
          have hj0 : ¬ ((j : Int) < 0) := by omega
          have a1 : ((j : Int) != -1) = true := by simp
          obtain ⟨g1, rfl⟩ := hsp (by omega)
          have hll : l.length = n := by rw [HM.out.len, HB.out]
          have k2 : wr.cell? ⟨g1, i, none⟩ = some (.int .i64 (l.getD i 0)) := by rw [HO.out.cellAt i (by omega)]; simp [hll, show i < n by omega]
          have k3 : wr.cell? ⟨g1, j, none⟩ = some (.int .i64 (l.getD j 0)) := by rw [HO.out.cellAt j (by omega)]; simp [hll, show j < n by omega]
          by_cases hlt2 : l.getD j 0 < l.getD i 0
          · have HL2 : Hid (l.getD j 0 < l.getD i 0) := hlt2
            have f1 : wr.frozen? ⟨g1, j, none⟩ = false := owns_free HO.out j
            obtain ⟨x, hx⟩ : ∃ x, l.getD i 0 = x := ⟨_, rfl⟩
            obtain ⟨y, hy⟩ : ∃ y, l.getD j 0 = y := ⟨_, rfl⟩
            rw [hx] at hlt2 k2
            rw [hy] at hlt2 k3
            have HX : Hid (l.getD i 0 = x) := hx
            have hdl : decide (y < x) = true := decide_eq_true hlt2
            clear hx hy hz1 hll
            go_wp2
            go_quiet ((fail))
            go_wp2
            have HX31 : Hid (x ≤ 31) := by have := HM.out.in HV.out (i := i) (by rw [HB.out]; omega); rw [HX.out] at this; exact this.2
            have HS : Hid (slack (l.set j x) < slack l) := slack_set l j x (by rw [HM.out.len, HB.out]; omega) (by have := HL2.out; rwa [HX.out] at this) HX31.out
            go_roundg (slack (l.set j x))
            case measure => have := HS.out; omega
            case rel =>
              refine ⟨l.set j x, rfl, ?_, ?_, ?_⟩
              · have := HM.out.raise (i := i) (j := j) (by rw [HB.out]; omega) HZ.out HL2.out
                rw [HX.out] at this
                exact this
              · have := ((owns_below HO.out (below_drewN wr nq)).stored j (.int .i64 x)).1
                rw [num_set] at this
                exact this
              · refine (HW.out.trans ((below_drewN wr nq).mono (by have := HW.out.size; have := HB0.out; omega))).setCell ?_ _
                exact (HO.out.lt g1 rfl).1
          · have HL2 : Hid (¬ l.getD j 0 < l.getD i 0) := hlt2
            obtain ⟨x, hx⟩ : ∃ x, l.getD i 0 = x := ⟨_, rfl⟩
            obtain ⟨y, hy⟩ : ∃ y, l.getD j 0 = y := ⟨_, rfl⟩
            rw [hx] at hlt2 k2
            rw [hy] at hlt2 k3
            have hdl : decide (y < x) = false := decide_eq_false hlt2
            clear hx hy hz1 hll
            go_wp2
            go_quiet ((fail))
            go_wp2
            go_roundg g
            case measure => omega
            case rel => exact ⟨i + 1, by omega, by go_num, owns_below HO.out (below_drewN wr nq), HW.out.trans ((below_drewN wr nq).mono (by have := HW.out.size; have := HB0.out; omega)), fun j' hj' h0 => by
              rcases Nat.lt_or_ge j' i with h | h
              · exact HJ.out j' h h0
              · obtain rfl : j' = i := by omega
                rw [HZ.out]
                have := HL2.out
                have e : ((j : Int)).toNat = j := rfl
                rw [e]; omega⟩
end Go.Proofs.YtcjjaofmicegfaaDoor
