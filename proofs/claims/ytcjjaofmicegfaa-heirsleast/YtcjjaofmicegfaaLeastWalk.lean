/- HeirsLeast: each has at least its own rank, and that of those that wait for it; each rank is its own, or that of one that waits for it. -/
import Derived.Test.YtcjjaofmicegfaaArgs
namespace Go.Proofs.Ytcjjaofmicegfaa
open Go Go.RowKit
set_option maxRecDepth 100000
set_option linter.unusedVariables false
set_option linter.unusedSimpArgs false
theorem some_bool (p : Prop) : ∃ b : Bool, b = true ↔ p := by
  by_cases h : p
  · exact ⟨true, by simp [h]⟩
  · exact ⟨false, by simp [h]⟩
set_option maxHeartbeats 8000000 in
theorem least_law {w : World} {sp sq : Option Addr} {bs ws : List Int} (hs : Src w sp bs) (ht : Src w sq ws) (hl : bs.length ≤ maxLen) (hm : ws.length ≤ maxLen) (c d : Nat) :
    Calls Try.prog 4 #[.slice sp bs.length c, .slice sq ws.length d] w fun e w' => e = .returned (.bool true) ∧ Below w.heap.size w w' := by
  unfold maxLen at hl hm
  obtain ⟨B, hB0⟩ : ∃ B, w.heap.size = B := ⟨_, rfl⟩
  have HB0 : Hid (w.heap.size = B) := hB0
  have M : Far B w w := Far.refl hB0
  by_cases hv : Val bs ws
  · have HR := ranks_lst (c := c) (d := d) hs ht hv rfl hv.len.symm
    have hfew := hv.few
    have HV : Hid (Val bs ws) := hv
    have HS : Hid (Src w sp bs) := hs
    have HT : Hid (Src w sq ws) := ht
    have HM : Hid (ws.length = bs.length) := hv.len.symm
    rw [← hv.len, hB0]
    rw [hB0] at HR
    clear hB0 hv hs ht hm hl
    obtain ⟨n, hn⟩ : ∃ n, bs.length = n := ⟨_, rfl⟩
    have HN : Hid (bs.length = n) := hn
    rw [hn] at HR hfew HM ⊢
    clear hn
    have a1 : ¬ ((300 : Int) < n) := by omega
    go_enter Try.func4, Try.ntmps4
    go_wp2_with (first
      | (go_at_call 11; refine HR.mono ?_; rintro e w1 ⟨l, s1, c1, rfl, hl, l1, m1⟩; have HL : Hid (Lst bs ws l) := hl; have L1 : Hid (Ls B w1 s1 n c1 l) := l1; replace M : Far B w w1 := ⟨m1, by have := m1.size; have := HB0.out; omega⟩; clear hl l1 m1))
    go_loopg [7] n (fun g s7 wx => ∃ i : Nat, i + g = n ∧ s7 = .int .i64 i ∧ Hid (Ls B wx s1 n c1 l) ∧ Far B w wx)
    case atStart => exact ⟨0, by omega, rfl, L1, M⟩
    case round =>
      clear L1 M HR
      obtain ⟨i, hig, rfl, L1, M⟩ := hrel
      cases gk with
      | zero =>
        have hlt : ¬ ((i : Int) < n) := by omega
        go_wp2_with (first | (go_at_call 6; refine (lives_any _).mono ?_; rintro e w4 ⟨rfl, m4⟩; replace M := M.low m4; clear m4))
        go_ret
        exact ⟨rfl, M.low'⟩
      | succ g =>
        have hlt : (i : Int) < n := by omega
        obtain ⟨g1, rfl⟩ := L1.out.spot (by omega)
        have hbw : Below w.heap.size w wr := by have := M.low'; rwa [HB0.out]
        obtain ⟨b1, o1, rfl, C1⟩ := (HS.out.below hbw).get (by rw [HN.out]; omega)
        obtain ⟨b2, o2, rfl, C2⟩ := (HT.out.below hbw).get (by rw [HM.out]; omega)
        have k1 := L1.out.cell (i := i) (by omega)
        have k2 := C1.out i (by rw [HN.out]; omega)
        have k3 := C2.out i (by rw [HM.out]; omega)
        have hlow := HL.out.mid.low i (by rw [HN.out]; omega)
        have hsh := HL.out.shut i (by rw [HM.out]; omega)
        have hpl := HV.out.plc i (by rw [HM.out]; omega)
        rw [HM.out] at hpl
        obtain ⟨k0, hk0, hke, hkc⟩ := HL.out.own HV.out (i := i) (by rw [HN.out]; omega)
        have HK0 : Hid (k0 < n ∧ bs.getD k0 0 = l.getD i 0 ∧ Circ ws i k0) := ⟨by rw [← HN.out]; exact hk0, hke.symm, hkc⟩
        have k4 : 0 ≤ ws.getD i 0 → wr.cell? ⟨g1, (ws.getD i 0).toNat, none⟩ = some (.int .i64 (l.getD (ws.getD i 0).toNat 0)) := fun h => L1.out.cell (by omega)
        clear hk0 hke hkc C1 C2 hbw
        obtain ⟨x, hx⟩ : ∃ x, l.getD i 0 = x := ⟨_, rfl⟩
        obtain ⟨y, hy⟩ : ∃ y, bs.getD i 0 = y := ⟨_, rfl⟩
        obtain ⟨z, hz⟩ : ∃ z, ws.getD i 0 = z := ⟨_, rfl⟩
        rw [hx] at k1 hlow hsh HK0
        rw [hy] at k2 hlow
        rw [hz] at k3 hsh hpl k4
        have HX : Hid (l.getD i 0 = x) := hx
        have d1 : decide (x < y) = false := decide_eq_false (by omega)
        clear hx hy hz
        refine (Int.lt_or_le z 0).elim (fun hz0 => ?neg) (fun hz0 => ?pos)
        case' neg =>
          have d3 : decide ((0 : Int) ≤ z) = false := decide_eq_false (by omega)
          clear k4 hsh hpl hlow
          go_wp2
          go_quiet ((fail))
          go_wp2
          go_quiet ((fail))
          go_wp2
        case' pos =>
          obtain ⟨j, hj⟩ : ∃ j : Nat, z = (j : Int) := ⟨z.toNat, by omega⟩
          subst hj
          have k5 := k4 (by omega)
          have hs2 := hsh (by omega)
          have ej : ((j : Int)).toNat = j := rfl
          rw [ej] at k5 hs2
          have d2 : decide (l.getD j 0 < x) = false := decide_eq_false (by omega)
          have d3 : decide ((0 : Int) ≤ (j : Int)) = true := decide_eq_true (by omega)
          have e1 : (j : Int) < n := hpl.2
          have e2 : ¬ ((j : Int) < 0) := by omega
          generalize l.getD j 0 = v at *
          clear k4 hsh hpl hlow hs2 ej
          go_wp2
          go_quiet ((fail))
          go_wp2
          go_quiet ((fail))
          go_wp2
        all_goals
          clear k1 k2 k3 d1 d3
          go_loopg [8, 9] n (fun g2 s8 s9 wx => ∃ (k : Nat) (own : Bool), k + g2 = n ∧ s9 = .int .i64 k ∧ s8 = .bool own ∧ Hid (own = false → k ≤ k0) ∧ Hid (Ls B wx (some ⟨g1, 0, none⟩) n c1 l) ∧ Far B w wx)
          case atStart => exact ⟨0, _, by omega, rfl, rfl, fun _ => by omega, (L1.out.below (below_drewN _ _)).below (below_drewN _ _), (M.low (below_drewN _ _)).low (below_drewN _ _)⟩
          case round =>
            clear L1 M
            obtain ⟨k, own, hkg, rfl, rfl, HW, L1, M⟩ := hrel
            cases own with
            | true =>
              go_wp2
              all_goals
                go_roundg g
                case measure => omega
                case rel => exact ⟨i + 1, by omega, by go_num, L1, M⟩
            | false =>
              have hkk := HW.out rfl
              have HKK : Hid (k ≤ k0) := hkk
              have hk0 := HK0.out.1
              cases gk with
              | zero => omega
              | succ g2 =>
                have hltk : (k : Int) < n := by omega
                have hbw : Below w.heap.size w wr := by have := M.low'; rwa [HB0.out]
                have k1 := L1.out.cell (i := i) (by omega)
                rw [HX.out] at k1
                obtain ⟨b1', o1', e1', C1⟩ := (HS.out.below hbw).get (by rw [HN.out]; omega)
                cases e1'
                have k2 := C1.out k (by rw [HN.out]; omega)
                obtain ⟨u, hu⟩ : ∃ u, bs.getD k 0 = u := ⟨_, rfl⟩
                rw [hu] at k2
                have HU : Hid (bs.getD k 0 = u) := hu
                clear hu C1 hkk hk0
                by_cases hux : u = x
                · subst hux
                  obtain ⟨b, hb⟩ := some_bool (Circ ws i k)
                  have HB : Hid (b = true ↔ Circ ws i k) := hb
                  have HC := circle_at (m := n) (c := d) ((HT.out.below hbw).below (below_drewN wr 1)) HM.out (by omega) HB.out
                  clear hb hbw
                  go_wp2
                  go_region_held3 (fun w' => w'.cell? ⟨b1, o1 + k, none⟩ = some (.int .i64 u) ∧ w'.cell? ⟨g1, i, none⟩ = some (.int .i64 u)) (go_keep) (first
                    | (go_at_call 8; refine HC.mono ?_; rintro e w5 ⟨rfl, m5⟩; have L5 : Hid (Ls B w5 (some ⟨g1, 0, none⟩) n c1 l) := (L1.out.below (below_drewN _ 1)).below m5; have M5 : Far B w w5 := (M.low (below_drewN _ 1)).low m5; have kk1 : w5.cell? ⟨b1, o1 + k, none⟩ = some (.int .i64 u) := (m5.cell (p := ⟨b1, o1 + k, none⟩) (cell_lt k2)).trans k2; have kk2 : w5.cell? ⟨g1, i, none⟩ = some (.int .i64 u) := (m5.cell (p := ⟨g1, i, none⟩) (cell_lt k1)).trans k1; clear m5 HC))
                  all_goals
                    go_wp2
                    go_roundg g2
                    case measure => omega
                    case rel => exact ⟨k + 1, b, by omega, by go_num, rfl, fun hbf => by
                      have h1 := HKK.out
                      have h2 : k ≠ k0 := by
                        rintro rfl
                        have := HB.out.2 HK0.out.2.2
                        rw [hbf] at this; cases this
                      omega, L5, M5⟩
                · have hux' : (u == x) = false := by simpa using hux
                  have HUX : Hid (u ≠ x) := hux
                  clear hux hbw
                  go_wp2
                  go_quiet ((fail))
                  go_wp2
                  go_roundg g2
                  case measure => omega
                  case rel => exact ⟨k + 1, false, by omega, by go_num, rfl, fun _ => by
                    have h1 := HKK.out
                    have h2 : k ≠ k0 := by
                      rintro rfl
                      exact HUX.out (HU.out.symm.trans HK0.out.2.1)
                    omega, L1.out.below (below_drewN _ _), M.low (below_drewN _ _)⟩
  · have HR := ranks_no hs ht hl hm hv c d
    rw [hB0]
    clear hB0 hv hs ht
    generalize bs.length = n at *
    generalize ws.length = m at *
    go_enter Try.func4, Try.ntmps4
    go_wp2_with (first
      | (go_at_call 11; refine HR.mono ?_; rintro e w1 ⟨rfl, rfl⟩)
      | (go_at_call 6; refine (lives_any _).mono ?_; rintro e w4 ⟨rfl, m4⟩; replace M := M.low m4; clear m4))
    go_ret
    exact ⟨rfl, M.low'⟩
end Go.Proofs.Ytcjjaofmicegfaa
