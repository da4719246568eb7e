/- ReadyStays: somebody who goes, and comes back, leaves all others as they stood; the first of a rank that is pushed again is the first. -/
import Derived.Test.YtjhpiecbolmleaaSPure
namespace Go.Proofs.Ytjhpiecbolmleaa
open Go Go.RowKit Go.Shelf
set_option maxRecDepth 100000
set_option linter.unusedVariables false
set_option linter.unusedSimpArgs false
theorem does_at {B s : Nat} {w : World} {p : Nat} {X : Nat → List Int} (h : QS B s w p X) (k y t : Int) (hk : 0 ≤ k ∧ k ≤ 255) :
    Calls Try.prog 7 #[.pointer (some ⟨p, 0, none⟩), .agg #[.int .u8 k, .int .i64 y, .int .i64 t]] w fun e w' => e = .returned (.int .i64 (doE X (k, y, t))) ∧ QS B s w' p (doX X (k, y, t)) ∧ Mid B s w w' := does_any h (k, y, t) hk
set_option maxHeartbeats 16000000 in
theorem stays_law {w : World} {sp : Option Addr} {acts : List (Int × Int × Int)} (hs : Acts w.heap.size w sp acts) (hl : acts.length ≤ maxLen) (cap : Nat) (at0 : Int) (hat : 0 ≤ at0 ∧ at0 ≤ 255) :
    Calls Try.prog 4 #[.slice sp acts.length cap, .int .u8 at0] w fun e w' => e = .returned (.bool true) ∧ Below w.heap.size w w' := by
  unfold maxLen at hl
  obtain ⟨q, hq⟩ : ∃ q, acts.length = q := ⟨_, rfl⟩
  rw [hq] at hl ⊢
  have HQ : Hid (acts.length = q) := hq
  have HS : Hid (Acts w.heap.size w sp acts) := hs
  clear hq hs
  by_cases hbig : 300 < q
  · go_enter Try.func4, Try.ntmps4
    go_wp2_with (first | (go_at_call 5; refine (lives_any _).mono ?_; rintro e w1 ⟨rfl, hB⟩))
    go_ret
    exact ⟨rfl, hB⟩
  · obtain ⟨B, hB0⟩ : ∃ B, w.heap.size = B := ⟨_, rfl⟩
    have hN := qnew_any w
    rw [hB0] at hN HS ⊢
    have HB0 : Hid (w.heap.size = B) := hB0
    clear hB0
    go_enter Try.func4, Try.ntmps4
    go_wp2_with (first | (go_at_call 6; refine hN.mono ?_; rintro e w0 ⟨rfl, q0, m0⟩; obtain ⟨s, hs⟩ : ∃ s, w0.heap.size = s := ⟨_, rfl⟩; rw [hs] at q0; have Q0 : Hid (QS B s w0 B Y0) := q0; have M : Far B w w0 := ⟨m0, by have := m0.size; have := HB0.out; omega⟩; clear q0 m0 hs))
    go_loopg [6] q (fun gk s6 wx => ∃ (i : Nat) (X : Nat → List Int), i + gk = q ∧ s6 = .int .i64 i ∧ Hid (QS B s wx B X) ∧ Far B w wx)
    case atStart => exact ⟨0, _, by omega, rfl, Q0, M⟩
    case round =>
      clear Q0 M
      obtain ⟨i, X, hig, rfl, HX, M⟩ := hrel
      cases gk with
      | zero =>
        obtain rfl : i = q := by omega
        have hlt : ¬ ((i : Int) < i) := by omega
        obtain ⟨a, rfl⟩ := Int.eq_ofNat_of_zero_le hat.1
        have t1 : Int.tmod (a : Int) 32 = ((a % 32 : Nat) : Int) := (Int.ofNat_tmod a 32).symm
        have t2 : Int.tdiv (a : Int) 32 = ((a / 32 : Nat) : Int) := (Int.ofNat_tdiv a 32).symm
        obtain ⟨r, hr⟩ : ∃ r, a % 32 = r := ⟨_, rfl⟩
        obtain ⟨d, hd⟩ : ∃ d, a / 32 = d := ⟨_, rfl⟩
        have hr32 : r < 32 := by omega
        have hd8 : d < 8 := by omega
        rw [hr] at t1
        rw [hd] at t2
        clear hr hd
        obtain ⟨xs, hxs⟩ : ∃ xs, X r = xs := ⟨_, rfl⟩
        have HXS : Hid (X r = xs) := hxs
        obtain ⟨m, hm⟩ : ∃ m, xs.length = m := ⟨_, rfl⟩
        have HL : Hid (xs.length = m) := hm
        have HG : Hid (Good X) := HX.out.good
        have hls : lsX X (r : Int) = xs := by unfold lsX; rw [if_pos (by omega)]; exact hxs
        have hm256 : m ≤ 256 := by
          have h1 := few 256 (X r) (HG.out.nd r hr32) (fun x hx => by have := HG.out.lo r hr32 x hx; omega)
          rwa [hxs, hm] at h1
        have hL1 := list_at HX.out hls hm
        have hss := HX.out.le.1
        clear hxs hm hls
        by_cases hm0 : m = 0
        · subst hm0
          go_wp2_with (first
            | (go_at_call 5; refine (lives_any _).mono ?_; rintro e w4 ⟨rfl, m4⟩; replace M := M.low m4; clear m4)
            | (go_at_call 8; refine hL1.mono ?_; rintro e w2 ⟨sl, cl, rfl, _, _, _, m2⟩; replace M := M.low m2; clear m2))
          go_ret
          exact ⟨rfl, M.low'⟩
        · have hmz : ((m : Int) == 0) = false := by simpa using hm0
          have hmz2 : (m == 0) = false := by simpa using hm0
          have t3 : Int.tmod (d : Int) (m : Int) = ((d % m : Nat) : Int) := (Int.ofNat_tmod d m).symm
          obtain ⟨k, hk⟩ : ∃ k, d % m = k := ⟨_, rfl⟩
          have hkm : k < m := by rw [← hk]; exact Nat.mod_lt _ (by omega)
          have hkI : (k : Int) < m := by omega
          rw [hk] at t3
          clear hk
          obtain ⟨z, hz⟩ : ∃ z, xs.getD k 0 = z := ⟨_, rfl⟩
          have hzx : z ∈ xs := by rw [← hz]; exact getD_mem (by rw [HL.out]; exact hkm)
          have hzX : z ∈ X r := by rw [HXS.out]; exact hzx
          have hnd : xs.Nodup := by rw [← HXS.out]; exact HG.out.nd r hr32
          obtain ⟨e1, e2⟩ := rm_there HG.out hr32 hzX
          have e3 := ad_gone HG.out hr32 hzX
          have e4 := put_gone HG.out hr32 hzX
          rw [HXS.out] at e2 e3 e4
          obtain ⟨ys, hys⟩ : ∃ ys, xs.erase z ++ [z] = ys := ⟨_, rfl⟩
          rw [hys] at e4
          have hyl : ys.length = m := by rw [← hys, back_len hzx]; exact HL.out
          have HYL : Hid (ys.length = m) := hyl
          obtain ⟨M1, hM1⟩ : ∃ M1, m = M1 + 1 := ⟨m - 1, by omega⟩
          have HM1 : Hid (m = M1 + 1) := hM1
          have hMI : (m : Int) - 1 = (M1 : Int) := by omega
          have hMw : IntKind.i64.wrap ((m : Int) - 1) = (M1 : Int) := by rw [IntKind.wrap_i64]; omega
          have hMlt : (M1 : Int) < m := by omega
          have hyz : ys.getD M1 0 = z := by rw [← hys, show M1 = xs.length - 1 by (have := HL.out; omega)]; exact back_last hzx
          have HYA : Hid (∀ i, i < M1 → ys.getD i 0 = xs.getD (if k ≤ i then i + 1 else i) 0) := fun i hi => by
            have h1 := back_at hnd (k := k) (by rw [HL.out]; exact hkm) (i := i) (by rw [HL.out]; omega)
            rw [hz, hys] at h1
            exact h1
          have HC1 : Hid (∀ w', QS B s w' B X → Calls Try.prog 13 #[.pointer (some ⟨B, 0, none⟩), .int .i64 z] w' fun v w'' => v = .returned (.int .i64 0) ∧ QS B s w'' B (up X r (xs.erase z)) ∧ Mid B s w' w'') := fun w' h' => remove_at h' e1 e2
          have HC2 : Hid (∀ w', QS B s w' B (up X r (xs.erase z)) → Calls Try.prog 14 #[.pointer (some ⟨B, 0, none⟩), .int .i64 z, .int .i64 (r : Int)] w' fun v w'' => v = .returned (.int .i64 0) ∧ QS B s w'' B (up X r ys) ∧ Mid B s w' w'') := fun w' h' => put_at h' e3 e4
          have HC3 : Hid (∀ w', QS B s w' B (up X r ys) → Calls Try.prog 8 #[.pointer (some ⟨B, 0, none⟩), .int .i64 (r : Int)] w' fun e w'' => ∃ sp cap, e = .returned (.slice sp m cap) ∧ w''.ownsRow w'.heap.size 3 1 (.slice sp m cap) m (ys.map (Value.int .i64)) ∧ Src w'' sp ys ∧ QS B s w'' B (up X r ys) ∧ Below w'.heap.size w' w'') := fun w' h' => list_at h' (by unfold lsX; rw [if_pos (by omega)]; exact up_at X r ys) hyl
          have HSX : Hid (QS B s wr B X) := HX
          have hHZ : Hid (xs.getD k 0 = z) := hz
          have hHY : Hid (ys.getD M1 0 = z) := hyz
          clear e1 e2 e3 e4 hys hyl hz hyz hnd hzx hzX HX hM1
          go_wp2_with (first
            | (go_at_call 8; refine (HC3.out w4 Q4.out).mono ?_; rintro e w5 ⟨sl, cl, rfl, o5, _, q5, m5⟩; have Q5 : Hid (QS B s w5 B (up X r ys)) := q5; have LY : Hid (LT s w5 sl ys) := LT.own o5 HYL.out (by omega) (by have := Q4.out.le; omega); obtain ⟨gy, hgy, _, _, hgc⟩ := LY.out; have d5 := hgc M1 (by rw [HYL.out, HM1.out]; omega); rw [hHY.out] at d5; subst hgy; have LX5 : Hid (LT s w5 (some ⟨gx, 0, none⟩) xs) := LX4.out.mid (Mid.of (B := B) m5); obtain ⟨gx', hgx', _, _, hgc'⟩ := LX5.out; have c5 := hgc' k (by rw [HL.out]; exact hkm); cases hgx'; rw [hHZ.out] at c5; replace M := M.low m5; clear o5 q5 m5 hgc hgc' Q4 LX4)
            | (go_at_call 14; refine (HC2.out w3 Q3.out).mono ?_; rintro e w4 ⟨rfl, q4, m4⟩; have Q4 : Hid (QS B s w4 B (up X r ys)) := q4; have LX4 : Hid (LT s w4 (some ⟨gx, 0, none⟩) xs) := LX3.out.mid m4; replace M := M.mid m4; clear q4 m4 Q3 LX3)
            | (go_at_call 13; refine (HC1.out w2 Q2.out).mono ?_; rintro e w3 ⟨rfl, q3, m3⟩; have Q3 : Hid (QS B s w3 B (up X r (xs.erase z))) := q3; have LX3 : Hid (LT s w3 (some ⟨gx, 0, none⟩) xs) := LX2.out.mid m3; obtain ⟨gx', hgx', _, _, hgc'⟩ := LX3.out; have c3 := hgc' k (by rw [HL.out]; exact hkm); cases hgx'; rw [hHZ.out] at c3; replace M := M.mid m3; clear q3 m3 hgc' Q2 LX2)
            | (go_at_call 8; refine hL1.mono ?_; rintro e w2 ⟨sw, cw, rfl, o2, _, q2, m2⟩; have Q2 : Hid (QS B s w2 B X) := q2; have LX : LT s w2 sw xs := LT.own o2 HL.out (by omega) hss; obtain ⟨gx, hgx, h1, h2, hgc⟩ := LX; subst hgx; have c2 := hgc k (by rw [HL.out]; exact hkm); rw [hHZ.out] at c2; have LX2 : Hid (LT s w2 (some ⟨gx, 0, none⟩) xs) := ⟨gx, rfl, h1, h2, hgc⟩; replace M := M.low m2; clear o2 q2 m2 h1 h2 hgc))
          go_quiet ((fail))
          have HW5 : Hid (QS B s (w5.drewN nq) B (up X r ys) ∧ LT s (w5.drewN nq) (some ⟨gy, 0, none⟩) ys ∧ LT s (w5.drewN nq) (some ⟨gx, 0, none⟩) xs) := ⟨Q5.out.below (below_drewN _ _), LY.out.mid (Mid.drewN (B := B) _ _), LX5.out.mid (Mid.drewN (B := B) _ _)⟩
          replace M := M.low (below_drewN w5 nq)
          clear Q5 LY LX5 d5 c5
          generalize w5.drewN nq = w6 at *
          clear c3 c2
          go_wp2
          go_loopg [11] M1 (fun g2 s11 wx => ∃ j : Nat, j + g2 = M1 ∧ s11 = .int .i64 (j : Int) ∧ Hid (QS B s wx B (up X r ys) ∧ LT s wx (some ⟨gy, 0, none⟩) ys ∧ LT s wx (some ⟨gx, 0, none⟩) xs) ∧ Far B w wx)
          case atStart => exact ⟨0, by omega, rfl, HW5, M⟩
          case round =>
            clear HW5 M
            obtain ⟨j, hjg, rfl, HJ, M⟩ := hrel
            cases gk with
            | zero =>
              obtain rfl : j = M1 := by omega
              have hj1 : ¬ ((j : Int) + 1 < m) := by omega
              have hjw : IntKind.i64.wrap ((j : Int) + 1) = (j : Int) + 1 := by rw [IntKind.wrap_i64]; omega
              obtain ⟨j1, j2, j3⟩ := HJ.out
              have g2 := j1.good
              obtain ⟨y0, tl, hyt⟩ : ∃ y0 tl, ys = y0 :: tl := by
                cases hh : ys with
                | nil => have := HYL.out; rw [hh] at this; simp at this; omega
                | cons a l => exact ⟨a, l, rfl⟩
              have hy0 : y0 ∈ up X r ys r := by rw [up_at, hyt]; simp
              obtain ⟨e1, e2⟩ := rm_there g2 hr32 hy0
              have e3 := ad_gone g2 hr32 hy0
              have e4 := push_gone g2 hr32 hy0
              have htl : ys.erase y0 = tl := by rw [hyt]; simp
              rw [up_at, up_up, htl] at e2 e3 e4
              rw [up_up, ← hyt] at e4
              have HD1 : Hid (∀ w', QS B s w' B (up X r ys) → Calls Try.prog 13 #[.pointer (some ⟨B, 0, none⟩), .int .i64 y0] w' fun v w'' => v = .returned (.int .i64 0) ∧ QS B s w'' B (up X r tl) ∧ Mid B s w' w'') := fun w' h' => remove_at h' e1 e2
              have HD2 : Hid (∀ w', QS B s w' B (up X r tl) → Calls Try.prog 15 #[.pointer (some ⟨B, 0, none⟩), .int .i64 y0, .int .i64 (r : Int)] w' fun v w'' => v = .returned (.int .i64 0) ∧ QS B s w'' B (up X r ys) ∧ Mid B s w' w'') := fun w' h' => by
                have := qpush_any h' y0 (r : Int)
                rwa [e3, e4] at this
              have HLY : Hid (LT s wr (some ⟨gy, 0, none⟩) ys) := j2
              have HY0 : Hid (ys.getD 0 0 = y0) := by rw [hyt]; rfl
              have HQJ : Hid (QS B s wr B (up X r ys)) := j1
              obtain ⟨gy', hgy', _, _, hcy⟩ := j2
              cases hgy'
              have d6 := hcy 0 (by rw [HYL.out]; omega)
              rw [HY0.out] at d6
              have hm0I : (0 : Int) < m := by omega
              have hm6 : m ≤ 1000000 := by omega
              clear hcy j1 j3 g2 hyt hy0 e1 e2 e3 e4 htl HJ
              go_wp2_with (first
                | (go_at_call 5; have := Z9; refine (lives_any _).mono ?_; rintro e w11 ⟨rfl, m11⟩; replace M := M.low m11; clear m11)
                | (go_at_call 11; refine (same_is S9.out.1 S9.out.2 HYL.out hm6 _ _).mono ?_; rintro e w10 ⟨rfl, m10⟩; have Z9 := True.intro; replace M := M.low m10; clear m10)
                | (go_at_call 8; refine (HC3.out w8 Q8.out.1).mono ?_; rintro e w9 ⟨s9, c9, rfl, _, r9, _, m9⟩; have S9 : Hid (Src w9 s9 ys ∧ Src w9 (some ⟨gy, 0, none⟩) ys) := ⟨r9, (Q8.out.2.mid (Mid.of (B := B) m9)).src⟩; replace M := M.low m9; clear r9 m9)
                | (go_at_call 15; refine (HD2.out w7 Q7.out.1).mono ?_; rintro e w8 ⟨rfl, q8, m8⟩; have Q8 : Hid (QS B s w8 B (up X r ys) ∧ LT s w8 (some ⟨gy, 0, none⟩) ys) := ⟨q8, Q7.out.2.mid m8⟩; replace M := M.mid m8; clear q8 m8)
                | (go_at_call 13; refine (HD1.out wr HQJ.out).mono ?_; rintro e w7 ⟨rfl, q7, m7⟩; have Q7 : Hid (QS B s w7 B (up X r tl) ∧ LT s w7 (some ⟨gy, 0, none⟩) ys) := ⟨q7, HLY.out.mid m7⟩; obtain ⟨gy', hgy', _, _, hcy⟩ := Q7.out.2; cases hgy'; have d7 := hcy 0 (by rw [HYL.out]; omega); rw [HY0.out] at d7; replace M := M.mid m7; clear q7 m7 hcy))
              go_ret
              exact ⟨rfl, M.low'⟩
            | succ g2 =>
              have hjm : j < M1 := by omega
              have hj1 : (j : Int) + 1 < m := by omega
              have hj2 : (j : Int) < m := by omega
              have hjw : IntKind.i64.wrap ((j : Int) + 1) = (j : Int) + 1 := by rw [IntKind.wrap_i64]; omega
              have hya := HYA.out j hjm
              obtain ⟨j1, j2, j3⟩ := HJ.out
              obtain ⟨gy', hgy', _, _, hcy⟩ := j2
              cases hgy'
              obtain ⟨gx', hgx', _, _, hcx⟩ := j3
              cases hgx'
              have d6 := hcy j (by rw [HYL.out]; omega)
              rw [hya] at d6
              clear hya hcy
              by_cases hkj : k ≤ j
              · have hkj2 : (k : Int) ≤ (j : Int) := by omega
                rw [if_pos hkj] at d6
                have c6 := hcx (j + 1) (by rw [HL.out]; omega)
                clear hcx j1
                generalize xs.getD (j + 1) 0 = v at *
                go_wp2
                go_quiet ((fail))
                have HW7 : Hid (QS B s (wr.drewN nq) B (up X r ys) ∧ LT s (wr.drewN nq) (some ⟨gy, 0, none⟩) ys ∧ LT s (wr.drewN nq) (some ⟨gx, 0, none⟩) xs) := ⟨HJ.out.1.below (below_drewN _ _), HJ.out.2.1.mid (Mid.drewN (B := B) _ _), HJ.out.2.2.mid (Mid.drewN (B := B) _ _)⟩
                replace M := M.low (below_drewN wr nq)
                go_wp2
                go_roundg g2
                case measure => omega
                case rel => exact ⟨j + 1, by omega, by go_num, HW7, M⟩
              · have hkj2 : ¬ ((k : Int) ≤ (j : Int)) := by omega
                rw [if_neg hkj] at d6
                have c6 := hcx j (by rw [HL.out]; omega)
                clear hcx j1
                generalize xs.getD j 0 = v at *
                go_wp2
                go_quiet ((fail))
                have HW7 : Hid (QS B s (wr.drewN nq) B (up X r ys) ∧ LT s (wr.drewN nq) (some ⟨gy, 0, none⟩) ys ∧ LT s (wr.drewN nq) (some ⟨gx, 0, none⟩) xs) := ⟨HJ.out.1.below (below_drewN _ _), HJ.out.2.1.mid (Mid.drewN (B := B) _ _), HJ.out.2.2.mid (Mid.drewN (B := B) _ _)⟩
                replace M := M.low (below_drewN wr nq)
                go_wp2
                go_roundg g2
                case measure => omega
                case rel => exact ⟨j + 1, by omega, by go_num, HW7, M⟩
      | succ gk =>
        have hlt : (i : Int) < q := by omega
        obtain ⟨⟨k, y, t⟩, hx⟩ : ∃ x, acts[i]? = some x := ⟨_, List.getElem?_eq_getElem (by rw [HQ.out]; omega)⟩
        obtain ⟨b, off, rfl, hbl, hc⟩ := (HS.out.below M.low').spot (by rw [HQ.out]; omega)
        obtain ⟨y0, y1, y2⟩ := hc i _ hx
        obtain ⟨hk, _, _⟩ := HS.out.wf i _ hx
        simp only at y0 y1 y2 hk
        clear hc hx
        go_wp2_with (first | (go_at_call 7; refine (does_at HX.out k y t hk).mono ?_; rintro e w2 ⟨rfl, q2, m2⟩; have H2 : Hid (QS B s w2 B (doX X (k, y, t))) := q2; replace M := M.mid m2; clear q2 m2))
        go_roundg gk
        case measure => omega
        case rel => exact ⟨i + 1, _, by omega, by go_num, H2, M⟩
end Go.Proofs.Ytjhpiecbolmleaa
