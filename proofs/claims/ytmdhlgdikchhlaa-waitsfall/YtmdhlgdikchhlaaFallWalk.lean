/- WaitsFall: those that wait stand by their ranks, falling; of one rank those ahead that came to it ahead. -/
import Derived.Test.YtmdhlgdikchhlaaArgs
namespace Go.Proofs.Ytmdhlgdikchhlaa
open Go Go.RowKit
set_option maxRecDepth 100000
set_option linter.unusedVariables false
set_option linter.unusedSimpArgs false
set_option maxHeartbeats 8000000 in
theorem fall_law {w : World} {sp : Option Addr} {L : List Int} (hs : BSrc w.heap.size w sp L) (hl : L.length ≤ maxLen) (cap : Nat) :
    Calls Try.prog 3 #[.slice sp L.length cap] w fun e w' => e = .returned (.bool true) ∧ Below w.heap.size w w' := by
  unfold maxLen at hl
  obtain ⟨q, hq⟩ : ∃ q, L.length = q := ⟨_, rfl⟩
  rw [hq] at hl ⊢
  have HQ : Hid (L.length = q) := hq
  have HS : Hid (BSrc w.heap.size w sp L) := hs
  clear hq hs
  by_cases hbig : 200 < q
  · go_enter Try.func3, Try.ntmps3
    go_wp2_with (first | (go_at_call 5; refine (lives_any _).mono ?_; rintro e w1 ⟨rfl, hB⟩))
    go_ret
    exact ⟨rfl, hB⟩
  · obtain ⟨B, hB0⟩ : ∃ B, w.heap.size = B := ⟨_, rfl⟩
    have hN := qnew_any w
    rw [hB0] at hN HS ⊢
    have HB0 : Hid (w.heap.size = B) := hB0
    clear hB0
    obtain ⟨p, hp⟩ : ∃ p, B + 1 = p := ⟨_, rfl⟩
    rw [hp] at hN
    clear hp
    go_enter Try.func3, Try.ntmps3
    go_wp2_with (first | (go_at_call 6; refine hN.mono ?_; rintro e w0 ⟨rfl, q0, m0⟩; have Q0 : Hid (Qu B w0 p []) := q0; have M : Far B w w0 := ⟨m0, by have := m0.size; have := HB0.out; omega⟩; clear q0 m0))
    go_loopg [4] q (fun gk s4 wx => ∃ (i : Nat) (xs : List (Int × Int)), i + gk = q ∧ s4 = .int .i64 i ∧ Hid (Qu B wx p xs) ∧ Hid (FQ L i xs) ∧ Far B w wx)
    case atStart => exact ⟨0, _, by omega, rfl, Q0, FQ.nil L, M⟩
    case round =>
      clear Q0 M
      obtain ⟨i, xs, hig, rfl, HX, HF, M⟩ := hrel
      cases gk with
      | zero =>
        obtain rfl : i = q := by omega
        have hlt : ¬ ((i : Int) < i) := by omega
        have hL := list_at (n := i) HX.out M.le rfl (by rw [keys_len]; exact HF.out.len)
        have HK : Hid (∀ k, k < i → ∃ j : Nat, j < i ∧ (keys xs).getD k 0 = (j : Int) ∧ xs.getD k (0, 0) = ((j : Int), rk L j)) := fun k hk => by
          obtain ⟨j, hj, e⟩ := HF.out.at hk
          exact ⟨j, hj, by rw [keys_at _ _ (by rw [HF.out.len]; exact hk), e], e⟩
        have HR : Hid (∀ k, k + 1 < i → Rl (xs.getD k (0, 0)) (xs.getD (k + 1) (0, 0))) := fun k hk => HF.out.fl.at (by omega) (by rw [HF.out.len]; exact hk)
        generalize keys xs = ks at *
        go_wp2_with (first
          | (go_at_call 8; refine hL.mono ?_; rintro e w2 ⟨s2, c2, rfl, l2, m2⟩; have L2 : Hid (Ls wr.heap.size w2 s2 i c2 ks) := l2; replace M := M.low m2; clear l2 m2))
        by_cases hi0 : i = 0
        · subst hi0
          refine wp_loop_rounds 1 ?_
          rw [rounds_succ]
          go_wp2_with (first | (go_at_call 5; refine (lives_any _).mono ?_; rintro e w3 ⟨rfl, m3⟩; replace M := M.low m3; clear m3))
          go_ret
          exact ⟨rfl, M.low'⟩
        · obtain ⟨g2, rfl⟩ := L2.out.spot (by omega)
          obtain ⟨b, off, rfl, hb⟩ := HS.out.spot' (by rw [HQ.out]; omega)
          have HLT : Hid (g2 < w2.heap.size) := (L2.out.2.lt g2 rfl).2
          have hq0 : 0 < i := by omega
          go_loopg [6] (i - 1) (fun gk s6 wx => ∃ j : Nat, 1 ≤ j ∧ j + gk = i ∧ s6 = .int .i64 (j : Int) ∧ Hid (Below w2.heap.size w2 wx) ∧ Far B w wx)
          case atStart => exact ⟨1, by omega, by omega, rfl, Below.refl _ _, M⟩
          case round =>
            clear M
            obtain ⟨j, hj1, hjg, rfl, HB2, M⟩ := hrel
            cases gk with
            | zero =>
              obtain rfl : j = i := by omega
              have hlt2 : ¬ ((j : Int) < j) := by omega
              go_wp2_with (first | (go_at_call 5; refine (lives_any _).mono ?_; rintro e w3 ⟨rfl, m3⟩; replace M := M.low m3; clear m3))
              go_ret
              exact ⟨rfl, M.low'⟩
            | succ g' =>
              have hlt2 : (j : Int) < i := by omega
              obtain ⟨j0, hj0⟩ : ∃ j0, j = j0 + 1 := ⟨j - 1, by omega⟩
              obtain ⟨x, hx, ex, ex2⟩ := HK.out j0 (by omega)
              obtain ⟨y, hy, ey, ey2⟩ := HK.out j (by omega)
              have hrl := HR.out j0 (by omega)
              rw [← hj0] at hrl
              rw [ex2, ey2] at hrl
              unfold Rl at hrl
              simp only at hrl
              have hL2 := L2.out.below HB2.out
              have c1 := hL2.cell (i := j0) (by omega)
              have c2' := hL2.cell (i := j) (by omega)
              rw [ex] at c1
              rw [ey] at c2'
              have hsx := HS.out.below M.low'
              have d1 := hsx.cell (i := x) (by rw [HQ.out]; exact hx)
              have d2 := hsx.cell (i := y) (by rw [HQ.out]; exact hy)
              have bx := hsx.at x
              have by' := hsx.at y
              have e1 : Int.tmod (L.getD x 0) 32 = rk L x := by unfold rk; exact Int.tmod_eq_emod_of_nonneg bx.1
              have e2 : Int.tmod (L.getD y 0) 32 = rk L y := by unfold rk; exact Int.tmod_eq_emod_of_nonneg by'.1
              have a1 : (x : Int) < i := by omega
              have a2 : (y : Int) < i := by omega
              have a3 : ¬ ((x : Int) < 0) := by omega
              have a4 : ¬ ((y : Int) < 0) := by omega
              have a5 : ¬ ((i : Int) ≤ x) := by omega
              have a6 : ¬ ((i : Int) ≤ y) := by omega
              have a7 : (j : Int) - 1 = (j0 : Int) := by omega
              have a8 : (j0 : Int) < i := by omega
              have r1 := rk_in L x
              have r2 := rk_in L y
              have b1 : ¬ (rk L x < rk L y) := by omega
              clear ex ex2 ey ey2 hL2 hsx hj0 hx hy hi0 hbig hl HR HK HLT
              generalize L.getD x 0 = lx at *
              generalize L.getD y 0 = ly at *
              generalize rk L x = rx at *
              generalize rk L y = ry at *
              have hjw : IntKind.i64.wrap ((j : Int) - 1) = (j0 : Int) := by rw [IntKind.wrap_i64]; omega
              have g1 : decide (rx < ry) = false := decide_eq_false b1
              by_cases hrr : rx = ry
              · have b2 : ¬ ((y : Int) < x) := by omega
                have g2 : (rx == ry) = true := by simpa using hrr
                have g3 : decide ((y : Int) < (x : Int)) = false := decide_eq_false b2
                clear hrr hrl
                go_wp2
                go_quiet ((fail))
                go_wp2
                go_roundg g'
                case measure => omega
                case rel => exact ⟨j + 1, by omega, by omega, by go_num, HB2.out.trans ((below_drewN wr nq).mono HB2.out.size), M.low (below_drewN wr nq)⟩
              · have b2 : (rx == ry) = false := by simpa using hrr
                clear hrr hrl
                go_wp2
                go_quiet ((fail))
                go_wp2
                go_roundg g'
                case measure => omega
                case rel => exact ⟨j + 1, by omega, by omega, by go_num, HB2.out.trans ((below_drewN wr nq).mono HB2.out.size), M.low (below_drewN wr nq)⟩
      | succ g' =>
        have hlt : (i : Int) < q := by omega
        obtain ⟨b, off, rfl, hb⟩ := HS.out.spot' (by rw [HQ.out]; omega)
        have hsx := HS.out.below M.low'
        have d1 := hsx.cell (i := i) (by rw [HQ.out]; omega)
        have b1 := hsx.at i
        have e1 : Int.tmod (L.getD i 0) 32 = rk L i := by unfold rk; exact Int.tmod_eq_emod_of_nonneg b1.1
        obtain ⟨hE, hn⟩ := HF.out.next
        have HN : Hid (FQ L (i + 1) (putL xs i (rk L i))) := hn
        have hP := put_at HX.out M.le (by rw [HF.out.len]; omega) hE rfl
        clear hsx hE hn
        generalize putL xs i (rk L i) = ys at *
        generalize L.getD i 0 = lx at *
        generalize rk L i = rx at *
        go_wp2_with (first | (go_at_call 7; refine hP.mono ?_; rintro e w1 ⟨rfl, q1, m1⟩; have Q1 : Hid (Qu B w1 p ys) := q1; replace M := M.ln m1; clear q1 m1))
        go_roundg g'
        case measure => omega
        case rel => exact ⟨i + 1, ys, by omega, by go_num, Q1, HN, M⟩
end Go.Proofs.Ytmdhlgdikchhlaa
