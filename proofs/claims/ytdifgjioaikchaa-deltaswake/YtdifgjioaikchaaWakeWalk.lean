/- 'DeltasWake' walked. -/
import Derived.Test.YtdifgjioaikchaaWk
namespace Go.Proofs.Ytdifgjioaikchaa
open Go Go.RowKit
set_option maxRecDepth 100000
set_option linter.unusedVariables false
set_option linter.unusedSimpArgs false
theorem aftN (ys : List (Int × Int)) (s : Nat) : rest (aft ys (s : Int)) = aft ys ((s + 1 : Nat) : Int) := by
  rw [aft_rest, show ((s + 1 : Nat) : Int) = (s : Int) + 1 by omega]
set_option maxHeartbeats 4000000 in
theorem wake_any {B : Nat} {w : World} {sp : Option Addr} {zs : List Int} (hs : BSrc B w sp zs) (hB : w.heap.size = B) (hm : zs.length ≤ maxLen) (c : Nat) :
    Calls Try.prog 4 #[.slice sp zs.length c] w fun e w' => e = .returned (.bool true) ∧ Below B w w' := by
  have HB0 : Hid (Below B w w) := Below.refl _ _
  have HZ : Hid (w.heap.size = B) := hB
  have HS : Hid (BSrc B w sp zs) := hs
  simp only [maxLen] at hm
  by_cases hl : zs.length ≤ 100
  · have hlen : ¬ (100 : Int) < (zs.length : Int) := by omega
    have HF1 : Hid (∀ w1, Below B w w1 → Calls Try.prog 14 #[.slice sp zs.length c] w1 fun e w' => e = .returned (.pointer (some ⟨w1.heap.size, 0, none⟩)) ∧ At B w w' w1.heap.size (fil zs zs.length)) := fun w1 hb => (filled_any hs (by omega) c hB hb).mono (by rintro e w' ⟨rfl, h, _⟩; exact ⟨rfl, h⟩)
    have HLO : Hid (∀ y ∈ fil zs zs.length, 1 ≤ y.2 ∧ y.2 ≤ 256) := fun y hy => by
      obtain ⟨k, hk, rfl⟩ := fil_mem hy
      have := hs.at k
      show 1 ≤ zs.getD k 0 + 1 ∧ zs.getD k 0 + 1 ≤ 256
      omega
    obtain ⟨n, hn⟩ : ∃ n, zs.length = n := ⟨_, rfl⟩
    have HN0 : Hid (zs.length = n) := hn
    rw [hn] at hlen HF1 hl HLO ⊢
    clear hs hB hn hm
    go_enter Try.func4, Try.ntmps4
    go_wp2_with (first
      | (go_at_call 13; refine (alive_any _).mono ?_; rintro e w1 ⟨rfl, hb⟩; have H1 : Hid (Below B w w1) := HB0.out.trans (hb.mono (by have := HZ.out; omega)); clear hb HB0)
      | (go_at_call 14; refine (HF1.out w1 H1.out).mono ?_; rintro e w2 ⟨rfl, ha⟩; have H2 : Hid (At B w w2 w1.heap.size (fil zs n)) := ha; clear ha H1))
    have H3 : Hid (At B w w2 w1.heap.size (aft (fil zs n) ((0 : Nat) : Int))) := by
      have := H2.out
      have e : aft (fil zs n) ((0 : Nat) : Int) = fil zs n := aft_zero (fun y hy => (HLO.out y hy).1)
      show At _ _ _ _ _
      rw [e]; exact this
    clear H2 HF1
    generalize w1.heap.size = p at *
    go_loopg [4] 257 (fun g s4 wx => ∃ i : Nat, i + g = 257 ∧ s4 = .int .i64 (i : Int) ∧ Hid (At B w wx p (aft (fil zs n) (i : Int))))
    case atStart => exact ⟨0, by omega, rfl, H3⟩
    case round =>
      clear H3
      obtain ⟨i, hiq, rfl, HA⟩ := hrel
      cases gk with
      | zero =>
        have hlt : ¬ ((i : Int) ≤ 256) := by omega
        have HE : Hid (allOf (aft (fil zs n) (i : Int)) = []) := by
          show _ = _
          rw [aft_none (fun y hy => by have := (HLO.out y hy).2; omega)]
          rfl
        go_wp2_with (go_at_call 12; refine (all_at HA.out HE.out (n := 0) rfl).mono ?_; rintro e w3 ⟨us, uc, rfl, hr, ha, hk⟩; have H4 : Hid (At B w w3 p (aft (fil zs n) (i : Int))) := ha; clear hr ha hk HA)
        go_ret
        exact ⟨rfl, H4.out.2.1⟩
      | succ g =>
        have hlt : (i : Int) ≤ 256 := by omega
        have RW0 : Hid (wr.ownsRow B 3 1 (.slice none 0 0) 0 (num (atT (fil zs 0) (i : Int)))) := nil_own _ _
        have hw1 : IntKind.i64.wrap ((i : Int) + 1) = (i : Int) + 1 := by rw [IntKind.wrap_i64]; omega
        go_wp2
        go_loopg [5, 6] n (fun g6 s5 s6 wx => ∃ (j N : Nat) (vs : Option Addr) (vc : Nat), j + g6 = n ∧ s6 = .int .i64 (j : Int) ∧ s5 = .slice vs N vc ∧ Hid (At B w wx p (aft (fil zs n) (i : Int))) ∧ Hid (wx.ownsRow B 3 1 (.slice vs N vc) N (num (atT (fil zs j) (i : Int)))))
        case atStart => exact ⟨0, 0, none, 0, by omega, rfl, rfl, HA, RW0⟩
        case round =>
          clear HA RW0
          obtain ⟨j, N, vs, vc, hjq, rfl, rfl, HA, RW⟩ := hrel
          have hNl : N ≤ 100 := by
            have h1 := RW.out.1
            rw [num_len, Nat.mul_one] at h1
            have h2 := atT_len (fil zs j) (i : Int)
            rw [fil_len] at h2
            omega
          cases gk with
          | zero =>
            obtain rfl : j = n := by omega
            have hlt2 : ¬ ((j : Int) < (j : Int)) := by omega
            have HW : Hid (woke (aft (fil zs j) (i : Int)) = atT (fil zs j) (i : Int)) := aft_woke _ _
            have HR : Hid (rest (aft (fil zs j) (i : Int)) = aft (fil zs j) ((i + 1 : Nat) : Int)) := aftN _ _
            have HNN : Hid ((atT (fil zs j) (i : Int)).length = N) := by
              have h1 := RW.out.1
              rw [num_len, Nat.mul_one] at h1
              exact h1
            go_wp2_with (first
              | (go_at_call 11; refine (tick_at HA.out HW.out HNN.out HR.out).mono ?_; rintro e w4 ⟨us, uc, rfl, hr, ha, hk⟩; have H4 : Hid (At B w w4 p (aft (fil zs j) ((i + 1 : Nat) : Int))) := ha; have R1 : Hid (w4.ownsRow B 3 1 (.slice us N uc) N (num (atT (fil zs j) (i : Int)))) := hr; have R2 : Hid (w4.ownsRow B 3 1 (.slice vs N vc) N (num (atT (fil zs j) (i : Int)))) := owns_kw RW.out hk; clear hr ha hk HA RW)
              | (go_at_call 15; refine (same_at R1.out R2.out (by omega)).mono ?_; rintro e w5 ⟨rfl, hb⟩; have H5 : Hid (At B w w5 p (aft (fil zs j) ((i + 1 : Nat) : Int))) := H4.out.below hb; clear hb H4 R1 R2))
            go_roundg g
            case measure => omega
            case rel => exact ⟨i + 1, by omega, by go_num, H5⟩
          | succ g6 =>
            have hlt2 : (j : Int) < (n : Int) := by omega
            obtain ⟨b, off, hsp, hbB, hc⟩ := HS.out.spot (by have := HN0.out; omega)
            subst hsp
            have k1 := (HA.out.2.1.cell (p := ⟨b, off + j, none⟩) hbB).trans (hc j (by have := HN0.out; omega))
            have hz := HS.out.at j
            have hw2 : IntKind.i64.wrap ((j : Int) + 1) = (j : Int) + 1 := by rw [IntKind.wrap_i64]; omega
            have hBw : B ≤ wr.heap.size := HA.out.size
            clear hc
            by_cases heq : zs.getD j 0 = (i : Int)
            · have HY : Hid (atT (fil zs (j + 1)) (i : Int) = atT (fil zs j) (i : Int) ++ [(j : Int)]) := atT_fil_yes heq
              rw [heq] at k1 hz
              have hwz : IntKind.i64.wrap (i : Int) = (i : Int) := by rw [IntKind.wrap_i64]; omega
              clear heq
              go_wp2_with (at_builtin; refine wpList_want rfl _ _ rfl rfl (x := (j : Int)) rfl rfl RW.out (by omega) hBw ?_; intro g' c' w7 RW' HB' HK')
              have H7 : Hid (At B w w7 p (aft (fil zs n) (i : Int))) := HA.out.grow HB'.out HK'.out
              have R7 : Hid (w7.ownsRow B 3 1 (.slice (some ⟨g', 0, none⟩) (N + 1) c') (N + 1) (num (atT (fil zs (j + 1)) (i : Int)))) := by
                have := RW'.out
                rw [← HY.out] at this
                exact this
              go_roundg g6
              case measure => omega
              case rel => exact ⟨j + 1, N + 1, _, _, by omega, by go_num, rfl, H7, R7⟩
            · have HY : Hid (atT (fil zs (j + 1)) (i : Int) = atT (fil zs j) (i : Int)) := atT_fil_no heq
              generalize zs.getD j 0 = z at *
              have hwz : IntKind.i64.wrap z = z := by rw [IntKind.wrap_i64]; omega
              go_wp2
              have R7 : Hid (wr.ownsRow B 3 1 (.slice vs N vc) N (num (atT (fil zs (j + 1)) (i : Int)))) := by
                have := RW.out
                rw [← HY.out] at this
                exact this
              go_roundg g6
              case measure => omega
              case rel => exact ⟨j + 1, N, _, _, by omega, by go_num, rfl, HA, R7⟩
  · have hlen : (100 : Int) < (zs.length : Int) := by omega
    clear hs
    go_enter Try.func4, Try.ntmps4
    go_wp2_with (first
      | (go_at_call 13; refine (alive_any _).mono ?_; rintro e w1 ⟨rfl, hb⟩; have H1 : Hid (Below B w w1) := HB0.out.trans (hb.mono (by have := HZ.out; omega)); clear hb HB0)
      | (go_at_call 13; refine (alive_any _).mono ?_; rintro e w2 ⟨rfl, hb⟩; have H2 : Hid (Below B w w2) := H1.out.trans (hb.mono (by have := H1.out.size; have := HZ.out; omega)); clear hb H1))
    go_ret
    exact ⟨rfl, H2.out⟩
end Go.Proofs.Ytdifgjioaikchaa
