/- WaitsGone: somebody who is removed leaves all others as they stood; put again, with their rank, they are the last of it. -/
import Derived.Test.YtmdhlgdikchhlaaArgs
namespace Go.Proofs.Ytmdhlgdikchhlaa
open Go Go.RowKit
set_option maxRecDepth 100000
set_option linter.unusedVariables false
set_option linter.unusedSimpArgs false
set_option maxHeartbeats 16000000 in
theorem gone_law {w : World} {sp : Option Addr} {L : List Int} (hs : BSrc w.heap.size w sp L) (hl : L.length ≤ maxLen) (cap : Nat) (at0 : Int) (hat : 0 ≤ at0 ∧ at0 ≤ 255) :
    Calls Try.prog 4 #[.slice sp L.length cap, .int .u8 at0] w fun e w' => e = .returned (.bool true) ∧ Below w.heap.size w w' := by
  unfold maxLen at hl
  obtain ⟨q, hq⟩ : ∃ q, L.length = q := ⟨_, rfl⟩
  rw [hq] at hl ⊢
  have HQ : Hid (L.length = q) := hq
  have HS : Hid (BSrc w.heap.size w sp L) := hs
  clear hq hs
  by_cases hq0 : q = 0
  · subst hq0
    go_enter Try.func4, Try.ntmps4
    go_wp2_with (first | (go_at_call 5; refine (lives_any _).mono ?_; rintro e w1 ⟨rfl, hB⟩))
    go_ret
    exact ⟨rfl, hB⟩
  have hqz : ((q : Int) == 0) = false := by simpa using hq0
  have hqz2 : (q == 0) = false := by simpa using hq0
  by_cases hbig : 200 < q
  · go_enter Try.func4, Try.ntmps4
    go_wp2_with (first | (go_at_call 5; refine (lives_any _).mono ?_; rintro e w1 ⟨rfl, hB⟩))
    go_ret
    exact ⟨rfl, hB⟩
  · obtain ⟨B, hB0⟩ : ∃ B, w.heap.size = B := ⟨_, rfl⟩
    have hN := qnew_any w
    rw [hB0] at hN HS ⊢
    have HB0 : Hid (w.heap.size = B) := hB0
    clear hB0
    obtain ⟨p, hp⟩ : ∃ p, B + 1 = p := ⟨_, rfl⟩
    rw [hp] at hN
    clear hp
    obtain ⟨b, off, rfl, hb⟩ := HS.out.spot' (by rw [HQ.out]; omega)
    go_enter Try.func4, Try.ntmps4
    go_wp2_with (first | (go_at_call 6; refine hN.mono ?_; rintro e w0 ⟨rfl, q0, m0⟩; have Q0 : Hid (Qu B w0 p []) := q0; have M : Far B w w0 := ⟨m0, by have := m0.size; have := HB0.out; omega⟩; clear q0 m0))
    go_loopg [6] q (fun gk s6 wx => ∃ (i : Nat) (xs : List (Int × Int)), i + gk = q ∧ s6 = .int .i64 i ∧ Hid (Qu B wx p xs) ∧ Hid (FQ L i xs) ∧ Far B w wx)
    case atStart => exact ⟨0, _, by omega, rfl, Q0, FQ.nil L, M⟩
    case round =>
      clear Q0 M
      obtain ⟨i, xs, hig, rfl, HX, HF, M⟩ := hrel
      cases gk with
      | zero =>
        obtain rfl : i = q := by omega
        have hlt : ¬ ((i : Int) < i) := by omega
        obtain ⟨a, rfl⟩ := Int.eq_ofNat_of_zero_le hat.1
        have t1 : Int.tmod (a : Int) (i : Int) = ((a % i : Nat) : Int) := (Int.ofNat_tmod a i).symm
        obtain ⟨k, hk⟩ : ∃ k, a % i = k := ⟨_, rfl⟩
        have hki : k < i := by rw [← hk]; exact Nat.mod_lt _ (by omega)
        have hkI : (k : Int) < i := by omega
        rw [hk] at t1
        clear hk
        obtain ⟨r0, r1, r2, r3, r4, r5, r6⟩ := HF.out.less hki
        obtain ⟨u0, u1, j2, u2, u3⟩ := HF.out.back hki
        obtain ⟨j, hj⟩ : ∃ j, wi xs (k : Int) = j := ⟨_, rfl⟩
        rw [hj] at r2 r3 r4 r5 r6
        have hsx := HS.out.below M.low'
        have bk := HS.out.at k
        have ek : Int.tmod (L.getD k 0) 32 = rk L k := by unfold rk; exact Int.tmod_eq_emod_of_nonneg bk.1
        have HL1 := list_at (n := i) HX.out M.le rfl (by rw [keys_len]; exact HF.out.len)
        have HRM : Hid (∀ w', Qu B w' p xs → B ≤ w'.heap.size → Calls Try.prog 9 #[.pointer (some ⟨p, 0, none⟩), .int .i64 (k : Int)] w' fun v w'' => v = .returned (.int .i64 0) ∧ Qu B w'' p (gone xs k) ∧ Ln B w' w'') := fun w' h' hB' => remove_at h' hB' r0 rfl
        obtain ⟨n1, hn1⟩ : ∃ n1, (gone xs (k : Int)).length = n1 := ⟨_, rfl⟩
        rw [hn1] at r1
        have HL2 : Hid (∀ w', Qu B w' p (gone xs k) → B ≤ w'.heap.size → Calls Try.prog 8 #[.pointer (some ⟨p, 0, none⟩)] w' fun e w'' => ∃ sp cap, e = .returned (.slice sp n1 cap) ∧ Ls w'.heap.size w'' sp n1 cap (keys (gone xs k)) ∧ Below w'.heap.size w' w'') := fun w' h' hB' => list_at (n := n1) h' hB' rfl (by rw [keys_len]; exact hn1)
        have HPT : Hid (∀ w', Qu B w' p (gone xs k) → B ≤ w'.heap.size → Calls Try.prog 7 #[.pointer (some ⟨p, 0, none⟩), .int .i64 (k : Int), .int .i64 (rk L k)] w' fun v w'' => v = .returned (.int .i64 0) ∧ Qu B w'' p (putL (gone xs k) k (rk L k)) ∧ Ln B w' w'') := fun w' h' hB' => put_at h' hB' (by omega) u0 rfl
        have HL3 : Hid (∀ w', Qu B w' p (putL (gone xs k) k (rk L k)) → B ≤ w'.heap.size → Calls Try.prog 8 #[.pointer (some ⟨p, 0, none⟩)] w' fun e w'' => ∃ sp cap, e = .returned (.slice sp i cap) ∧ Ls w'.heap.size w'' sp i cap (keys (putL (gone xs k) k (rk L k))) ∧ Below w'.heap.size w' w'') := fun w' h' hB' => list_at (n := i) h' hB' rfl (by rw [keys_len]; exact u1)
        have HU : Hid (∀ z, z < i → ∃ y : Nat, y < i ∧ (keys (putL (gone xs (k : Int)) k (rk L k))).getD z 0 = (y : Int) ∧ (z < j2 → y ≠ k) ∧ (z = j2 → y = k) ∧ (j2 < z → rk L y < rk L k)) := u3
        have HR3 : Hid ((keys xs).getD j 0 = (k : Int)) := r3
        have HR4 : Hid (∀ z, z < i → z ≠ j → (keys xs).getD z 0 ≠ (k : Int)) := r4
        have HR5 : Hid (∀ z, z < j → (keys (gone xs (k : Int))).getD z 0 = (keys xs).getD z 0) := r5
        have HR6 : Hid (∀ z, j < z → z < i → (keys (gone xs (k : Int))).getD (z - 1) 0 = (keys xs).getD z 0) := r6
        have HN1 : Hid (n1 + 1 = i) := r1
        have HJ : Hid (j < i) := r2
        have HJ2 : Hid (j2 < i) := u2
        clear u0 u1 u2 u3 r0 r1 r2 r3 r4 r5 r6 hj hn1 hsx hig
        generalize keys (putL (gone xs (k : Int)) k (rk L k)) = ks3 at *
        generalize putL (gone xs (k : Int)) k (rk L k) = zs at *
        generalize keys (gone xs (k : Int)) = ks2 at *
        generalize gone xs (k : Int) = ys at *
        generalize keys xs = ks at *
        go_wp2_with (first
          | (go_at_call 8; refine (HL2.out _ Q3.out M.le).mono ?_; rintro e w4 ⟨s4, c4, rfl, l4, m4⟩; have LL4 : Hid (Ls B w4 s2 i c2 ks ∧ Ls B w4 s4 n1 c4 ks2) := ⟨L3.out.below m4, l4.base M.le⟩; have Q4 : Hid (Qu B w4 p ys) := Q3.out.below m4; replace M := M.low m4; clear l4 m4 Q3 L3)
          | (go_at_call 9; refine (HRM.out _ Q2.out M.le).mono ?_; rintro e w3 ⟨rfl, q3, m3⟩; have L3 : Hid (Ls B w3 s2 i c2 ks) := L2.out.ln m3; have Q3 : Hid (Qu B w3 p ys) := q3; replace M := M.ln m3; clear q3 m3 Q2 L2)
          | (go_at_call 8; refine HL1.mono ?_; rintro e w2 ⟨s2, c2, rfl, l2, m2⟩; have L2 : Hid (Ls B w2 s2 i c2 ks) := l2.base M.le; have Q2 : Hid (Qu B w2 p xs) := HX.out.below m2; replace M := M.low m2; clear l2 m2 HX))
        obtain ⟨g2, rfl⟩ := LL4.out.1.spot (by omega)
        obtain ⟨nn, hnn⟩ : ∃ nn : Nat → Nat, nn = fun z => if z ≤ j then z else z - 1 := ⟨_, rfl⟩
        have n0 : Hid (nn 0 = 0) := by show _ = _; rw [hnn]; simp
        have n1' : Hid (nn i = n1) := by show _ = _; rw [hnn]; have := HN1.out; have := HJ.out; simp only; rw [if_neg (by omega)]; omega
        have n2 : Hid (nn (j + 1) = nn j) := by show _ = _; rw [hnn]; simp
        have n3 : Hid (∀ z, z < i → z ≠ j → nn (z + 1) = nn z + 1 ∧ nn z < n1 ∧ ks2.getD (nn z) 0 = ks.getD z 0) := fun z hz hne => by
          rw [hnn]
          have h1 := HN1.out
          have h2 := HJ.out
          simp only
          by_cases c : z < j
          · rw [if_pos (by omega), if_pos (by omega)]
            exact ⟨rfl, by omega, HR5.out z c⟩
          · rw [if_neg (by omega), if_neg (by omega)]
            exact ⟨by omega, by omega, HR6.out z (by omega) hz⟩
        clear hnn
        go_loopg [10, 11] i (fun gk s10 s11 wx => ∃ z : Nat, z + gk = i ∧ s11 = .int .i64 (z : Int) ∧ s10 = .int .i64 (nn z : Nat) ∧ Hid (Below w4.heap.size w4 wx) ∧ Far B w wx)
        case atStart => exact ⟨0, by omega, rfl, by rw [n0.out]; rfl, Below.refl _ _, M⟩
        case round =>
          clear M
          obtain ⟨z, hzg, rfl, rfl, HB4, M⟩ := hrel
          cases gk with
          | zero =>
            obtain rfl : z = i := by omega
            have hlt2 : ¬ ((z : Int) < z) := by omega
            have hnz := n1'.out
            rw [hnz]
            have hsx := HS.out.below M.low'
            have d1 := hsx.cell (i := k) (by rw [HQ.out]; exact hki)
            have Q5 : Hid (Qu B wr p ys) := Q4.out.below HB4.out
            have hnn1 : ((n1 : Int) == (n1 : Int)) = true := by simp
            clear hsx hnz
            generalize L.getD k 0 = lk at *
            go_wp2_with (first
              | (go_at_call 8; refine (HL3.out _ Q6.out M.le).mono ?_; rintro e w7 ⟨s7, c7, rfl, l7, m7⟩; have L7 : Hid (Ls B w7 s7 z c7 ks3) := l7.base M.le; replace M := M.low m7; clear l7 m7 Q6)
              | (go_at_call 7; refine (HPT.out _ Q5.out M.le).mono ?_; rintro e w6 ⟨rfl, q6, m6⟩; have Q6 : Hid (Qu B w6 p zs) := q6; replace M := M.ln m6; clear q6 m6 Q5))
            have hz0 : 0 < z := by omega
            obtain ⟨g7, rfl⟩ := L7.out.spot hz0
            clear d1
            go_loopg [12, 13] z (fun gk s12 s13 wx => ∃ y : Nat, y + gk = z ∧ s13 = .int .i64 (y : Int) ∧ s12 = .bool (decide (j2 < y)) ∧ Hid (Below w7.heap.size w7 wx) ∧ Far B w wx)
            case atStart => exact ⟨0, by omega, rfl, rfl, Below.refl _ _, M⟩
            case round =>
              clear M
              obtain ⟨x, hxg, rfl, rfl, HB7, M⟩ := hrel
              cases gk with
              | zero =>
                obtain rfl : x = z := by omega
                have hlt3 : ¬ ((x : Int) < x) := by omega
                have hseen : decide (j2 < x) = true := decide_eq_true HJ2.out
                rw [hseen]
                clear hseen
                go_wp2_with (first | (go_at_call 5; refine (lives_any _).mono ?_; rintro e w8 ⟨rfl, m8⟩; replace M := M.low m8; clear m8))
                go_ret
                exact ⟨rfl, M.low'⟩
              | succ g3 =>
                have hlt3 : (x : Int) < z := by omega
                obtain ⟨y, hy, ey, y1, y2, y3⟩ := HU.out x (by omega)
                have c7' := (L7.out.below HB7.out).cell (i := x) (by omega)
                rw [ey] at c7'
                have hsx := HS.out.below M.low'
                have e1 := hsx.cell (i := y) (by rw [HQ.out]; exact hy)
                have e2 := hsx.cell (i := k) (by rw [HQ.out]; exact hki)
                have by' := hsx.at y
                have bk' := hsx.at k
                have ey' : Int.tmod (L.getD y 0) 32 = rk L y := by unfold rk; exact Int.tmod_eq_emod_of_nonneg by'.1
                have ek' : Int.tmod (L.getD k 0) 32 = rk L k := by unfold rk; exact Int.tmod_eq_emod_of_nonneg bk'.1
                have o1 : decide ((y : Int) < 0) = false := decide_eq_false (by omega)
                have o2 : decide ((z : Int) ≤ (y : Int)) = false := decide_eq_false (by omega)
                have o2n : decide (z ≤ y) = false := decide_eq_false (by omega)
                have o3 : (y : Int) < z := by omega
                have r1 := rk_in L y
                have r2 := rk_in L k
                have HY1 : Hid (x < j2 → y ≠ k) := y1
                have HY2 : Hid (x = j2 → y = k) := y2
                have HY3 : Hid (j2 < x → rk L y < rk L k) := y3
                clear ey hsx y1 y2 y3
                rcases Nat.lt_trichotomy x j2 with hc | hc | hc
                · have hseen : decide (j2 < x) = false := decide_eq_false (by omega)
                  have hyk : ((y : Int) == (k : Int)) = false := by have := HY1.out hc; simp; omega
                  have hykn : (y == k) = false := by have := HY1.out hc; simpa using this
                  have HN3 : Hid (decide (j2 < x + 1) = false) := decide_eq_false (by omega)
                  rw [hseen]
                  clear hseen hc
                  generalize L.getD y 0 = ly at *
                  generalize L.getD k 0 = lk' at *
                  generalize rk L y = ry at *
                  generalize rk L k = rk' at *
                  go_wp2
                  go_quiet ((fail))
                  go_wp2
                  go_roundg g3
                  case measure => omega
                  case rel => exact ⟨x + 1, by omega, by go_num, by rw [HN3.out], HB7.out.trans ((below_drewN wr nq).mono HB7.out.size), M.low (below_drewN wr nq)⟩
                · have hseen : decide (j2 < x) = false := decide_eq_false (by omega)
                  have hyk : y = k := HY2.out hc
                  have HN3 : Hid (decide (j2 < x + 1) = true) := decide_eq_true (by omega)
                  rw [hseen]
                  subst hyk
                  clear hseen hc
                  generalize L.getD y 0 = ly at *
                  generalize rk L y = ry at *
                  go_wp2
                  go_quiet ((fail))
                  go_wp2
                  go_roundg g3
                  case measure => omega
                  case rel => exact ⟨x + 1, by omega, by go_num, by rw [HN3.out], HB7.out.trans ((below_drewN wr nq).mono HB7.out.size), M.low (below_drewN wr nq)⟩
                · have hseen : decide (j2 < x) = true := decide_eq_true hc
                  have hgr : decide (rk L k ≤ rk L y) = false := decide_eq_false (by have := HY3.out hc; omega)
                  have HN3 : Hid (decide (j2 < x + 1) = true) := decide_eq_true (by omega)
                  rw [hseen]
                  clear hseen hc
                  generalize L.getD y 0 = ly at *
                  generalize L.getD k 0 = lk' at *
                  generalize rk L y = ry at *
                  generalize rk L k = rk' at *
                  go_wp2
                  go_quiet ((fail))
                  go_wp2
                  go_roundg g3
                  case measure => omega
                  case rel => exact ⟨x + 1, by omega, by go_num, by rw [HN3.out], HB7.out.trans ((below_drewN wr nq).mono HB7.out.size), M.low (below_drewN wr nq)⟩
          | succ g'' =>
            have hlt2 : (z : Int) < i := by omega
            have LL := LL4.out.1.below HB4.out
            have c1 := LL.cell (i := z) (by omega)
            by_cases hzj : z = j
            · subst hzj
              rw [HR3.out] at c1
              clear LL
              go_wp2
              go_roundg g''
              case measure => omega
              case rel => exact ⟨z + 1, by omega, by go_num, by rw [n2.out], HB4, M⟩
            · obtain ⟨x1, x2, x3⟩ := n3.out z (by omega) hzj
              obtain ⟨g4, rfl⟩ := LL4.out.2.spot (by omega)
              have c2' := (LL4.out.2.below HB4.out).cell (i := nn z) x2
              rw [x3] at c2'
              have hv : (ks.getD z 0 == (k : Int)) = false := by simpa using HR4.out z (by omega) hzj
              have hge : decide ((n1 : Int) ≤ (nn z : Nat)) = false := decide_eq_false (by omega)
              have hx2 : ((nn z : Nat) : Int) < n1 := by omega
              have hx200 : nn z < 200 := by have := HN1.out; omega
              have HX1 : Hid (nn (z + 1) = nn z + 1) := x1
              have hvv : (ks.getD z 0 == ks.getD z 0) = true := by simp
              clear LL x1 x3 hzj
              generalize ks.getD z 0 = v at *
              obtain ⟨m, hm⟩ : ∃ m, nn z = m := ⟨_, rfl⟩
              rw [hm] at c2' hge hx2 x2 HX1 hx200
              simp only [hm]
              clear hm
              go_wp2
              go_quiet ((fail))
              go_wp2
              go_roundg g''
              case measure => omega
              case rel => exact ⟨z + 1, by omega, by go_num, by rw [HX1.out]; go_num, HB4.out.trans ((below_drewN wr nq).mono HB4.out.size), M.low (below_drewN wr nq)⟩
      | succ g' =>
        have hlt : (i : Int) < q := by omega
        have hsx := HS.out.below M.low'
        have d1 := hsx.cell (i := i) (by rw [HQ.out]; omega)
        have b1 := hsx.at i
        have e1 : Int.tmod (L.getD i 0) 32 = rk L i := by unfold rk; exact Int.tmod_eq_emod_of_nonneg b1.1
        obtain ⟨hE, hn⟩ := HF.out.next
        have HN : Hid (FQ L (i + 1) (putL xs i (rk L i))) := hn
        have hP := put_at HX.out M.le (by rw [HF.out.len]; omega) hE rfl
        clear hsx hE hn
        generalize putL xs i (rk L i) = ys at *
        generalize L.getD i 0 = lx at *
        generalize rk L i = rx at *
        go_wp2_with (first | (go_at_call 7; refine hP.mono ?_; rintro e w1 ⟨rfl, q1, m1⟩; have Q1 : Hid (Qu B w1 p ys) := q1; replace M := M.ln m1; clear q1 m1))
        go_roundg g'
        case measure => omega
        case rel => exact ⟨i + 1, ys, by omega, by go_num, Q1, HN, M⟩
end Go.Proofs.Ytmdhlgdikchhlaa
