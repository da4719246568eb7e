/- 'TimersStops' walked. -/
import Derived.Test.YtciafjmljmeimaaTw
import Derived.Test.YtciafjmljmeimaaTArgs
namespace Go.Proofs.Ytciafjmljmeimaa
open Go Go.RowKit
set_option maxRecDepth 100000
set_option linter.unusedVariables false
set_option linter.unusedSimpArgs false
set_option maxHeartbeats 16000000 in
theorem stops_any {w : World} {sp : Option Addr} {acts : List Ac} {cap : Nat} {id t : Int} (hs : Acts w.heap.size w sp acts) (hm : acts.length ≤ maxLen) (hid : -9223372036854775808 ≤ id ∧ id ≤ 9223372036854775807) (ht : 0 ≤ t ∧ t ≤ 255) :
    Calls Try.prog 4 #[.slice sp acts.length cap, .int .i64 id, .int .u8 t] w fun e w' => e = .returned (.bool true) ∧ Below w.heap.size w w' := by
  obtain ⟨T, rfl⟩ := Int.eq_ofNat_of_zero_le ht.1
  have HA : Hid (Acts w.heap.size w sp acts) := hs
  obtain ⟨M, hmm⟩ : ∃ m, acts.length = m := ⟨_, rfl⟩
  have HM : Hid (acts.length = M) := hmm
  rw [hmm] at hm ⊢
  unfold maxLen at hm
  have hwt : IntKind.i64.wrap (T : Int) = (T : Int) := by rw [IntKind.wrap_i64]; omega
  have hT : (T : Int) ≤ 255 := ht.2
  have HID : Hid (S64 id) := hid
  have HB0 : Hid (Below w.heap.size w w) := Below.refl _ _
  clear hs hmm ht hid
  by_cases hbig : 200 < M
  · go_enter Try.func4, Try.ntmps4
    go_wp2_with (go_at_call 5; refine (lives_any _).mono ?_; rintro e w2 ⟨rfl, hb⟩; have H2 : Hid (Below w.heap.size w w2) := hb; clear hb)
    go_ret
    exact ⟨rfl, H2.out⟩
  · have hm200 : M ≤ 200 := by omega
    clear hbig
    go_enter Try.func4, Try.ntmps4
    go_wp2_with (first
      | (go_at_call 6; have _ := H2.out; refine (new_tw H2.out).mono ?_; rintro e w3 ⟨q, nb, ub, rfl, hat, hk⟩; have H3 : Hid (Tw w.heap.size w w3 p mb tb (0) ([]) q nb ub (0) ([])) := hat; clear hat hk H2)
      | (go_at_call 6; refine (new_at w rfl _ HB0.out).mono ?_; rintro e w2 ⟨p, mb, tb, rfl, hat, hk⟩; have H2 : Hid (At w.heap.size w w2 p mb tb 0 []) := hat; clear hat hk HB0))
    go_loopg [9, 10] M (fun gk s9 s10 wx => ∃ (i n n' : Nat) (Z : List Alm), i + gk = M ∧ s9 = .int .i64 (i : Int) ∧ Hid (n ≤ i ∧ n' ≤ i ∧ Z.length ≤ i) ∧ Hid (Tw w.heap.size w wx p mb tb (n) (Z) q nb ub (n') (Z)))
    case atStart => exact ⟨0, 0, 0, [], by omega, rfl, ⟨by omega, by omega, by simp⟩, H3⟩
    case round =>
      clear H3
      obtain ⟨i, n, n', Z, hig, rfl, HZL, HT⟩ := hrel
      cases gk with
      | zero =>
        obtain rfl : i = M := by omega
        have hlt : ¬ ((i : Int) < i) := by omega
        have hzl := HZL.out
        obtain ⟨L, hL⟩ : ∃ L, leftA Z id = L := ⟨_, rfl⟩
        have HL : Hid (leftA Z id = L) := hL
        have HL2 : Hid (leftA (off Z id) id = 0) := leftV_no (has_off Z id)
        have HE2 : Hid (stopE (off Z id) id = 7) := by show _ = _; simp [stopE, has_off]
        have HO2 : Hid (off (off Z id) id = off Z id) := off_not (has_off Z id)
        clear hL hig
        by_cases hh : has (two Z) id = true
        · have HE : Hid (stopE Z id = 0) := by show _ = _; simp [stopE, hh]
          have hL0 : 0 < L := by have := left_pos HT.out.fine hh; rw [HL.out] at this; omega
          clear hh hzl
          go_wp2_with (first
            | (go_at_call 10; have _ := H5.out; refine (left_tw H5.out id HL2.out).mono ?_; rintro e w6 ⟨rfl, hat, hk⟩; have H6 : Hid (Tw w.heap.size w w6 p mb tb (n) (off Z id) q nb ub (n') (Z)) := hat; clear hat hk H5)
            | (go_at_call 8; have _ := H6.out; refine (stop_tw H6.out id HID.out HE2.out HO2.out).mono ?_; rintro e w7 ⟨rfl, hat, hk⟩; have H7 : Hid (Tw w.heap.size w w7 p mb tb (n) (off Z id) q nb ub (n') (Z)) := hat; clear hat hk H6)
            | (go_at_call 8; refine (stop_tw H4.out id HID.out HE.out rfl).mono ?_; rintro e w5 ⟨rfl, hat, hk⟩; have H5 : Hid (Tw w.heap.size w w5 p mb tb (n) (off Z id) q nb ub (n') (Z)) := hat; clear hat hk H4)
            | (go_at_call 10; refine (left_tw HT.out id HL.out).mono ?_; rintro e w4 ⟨rfl, hat, hk⟩; have H4 : Hid (Tw w.heap.size w w4 p mb tb (n) (Z) q nb ub (n') (Z)) := hat; clear hat hk HT))
          clear HL HL2 HE HE2 HO2
          go_loopg [13, 14, 15, 16, 17] T (fun gk s13 s14 s15 s16 s17 wx => ∃ (j : Nat) (Y : List Alm), j + gk = T ∧ s13 = .int .i64 (j : Int) ∧ Hid (Tw w.heap.size w wx p mb tb (n) (off Y id) q nb ub (n') (Y)))
          case atStart => exact ⟨0, Z, by omega, rfl, H7⟩
          case round =>
            clear H7
            obtain ⟨j, Y, hjg, rfl, HY⟩ := hrel
            cases gk with
            | zero =>
              have hlt : ¬ ((j : Int) < T) := by omega
              go_wp2_with (go_at_call 5; refine (lives_any _).mono ?_; rintro e w8 ⟨rfl, hb⟩; have H8 : Hid (Below w.heap.size w w8) := HY.out.bel.trans (hb.mono HY.out.size); clear hb)
              go_ret
              exact ⟨rfl, H8.out⟩
            | succ g2 =>
              have hlt : (j : Int) < T := by omega
              obtain ⟨D, hD⟩ : ∃ D, (due Y).map Prod.fst = D := ⟨_, rfl⟩
              obtain ⟨c, hc⟩ : ∃ c, D.length = c := ⟨_, rfl⟩
              obtain ⟨E, hE⟩ : ∃ E, D.filter (fun y => decide (y ≠ id)) = E := ⟨_, rfl⟩
              obtain ⟨d, hd⟩ : ∃ d, E.length = d := ⟨_, rfl⟩
              have HD : Hid ((due Y).map Prod.fst = D ∧ D.length = c ∧ D.filter (fun y => decide (y ≠ id)) = E ∧ E.length = d) := ⟨hD, hc, hE, hd⟩
              have HDO : Hid ((due (off Y id)).map Prod.fst = E) := by show _ = _; rw [due_off, hD, hE]
              have hcl : c ≤ 1000 := by rw [← hc, ← hD, List.length_map]; have := due_len Y; have := HY.out.symm.len; omega
              have hdl : d ≤ c := by rw [← hd, ← hE, ← hc]; exact List.length_filter_le _ _
              clear hD hc hE hd
              go_wp2_with (first
                | (go_at_call 9; have _ := H8.out; refine (tick_tw H8.out.symm HD.out.1 HD.out.2.1 rfl).mono ?_; rintro e w9 ⟨s9, c9, rfl, hr, hat, hk⟩; have H9 : Hid (Tw w.heap.size w w9 p mb tb (n) (off (tickL Y) id) q nb ub (n') (tickL Y)) := hat.symm; have R9 : Hid (w9.ownsRow w.heap.size 3 1 (.slice s9 c c9) c (num D)) := hr; have R8' : Hid (w9.ownsRow w.heap.size 3 1 (.slice s8 d c8) d (num E)) := owns_kw R8.out hk; clear hat hk hr H8)
                | (go_at_call 9; refine (tick_tw HY.out HDO.out HD.out.2.2.2 (tick_off Y id)).mono ?_; rintro e w8 ⟨s8, c8, rfl, hr, hat, hk⟩; have H8 : Hid (Tw w.heap.size w w8 p mb tb (n) (off (tickL Y) id) q nb ub (n') (Y)) := hat; have R8 : Hid (w8.ownsRow w.heap.size 3 1 (.slice s8 d c8) d (num E)) := hr; clear hat hk hr HY))
              clear R8 hlt
              go_loopg [16, 17] c (fun gq s16 s17 wx => ∃ k : Nat, k + gq = c ∧ s17 = .int .i64 (k : Int) ∧ s16 = .int .i64 ((((D.take k).filter (fun y => decide (y ≠ id))).length : Nat) : Int) ∧ Hid (Below w9.heap.size w9 wx))
              case atStart => exact ⟨0, by omega, rfl, by simp, Below.refl _ _⟩
              case round =>
                obtain ⟨k, hkg, rfl, rfl, HB⟩ := hrel
                cases gk with
                | zero =>
                  obtain rfl : k = c := by omega
                  have hlt : ¬ ((k : Int) < k) := by omega
                  have hfin : ((D.take k).filter (fun y => decide (y ≠ id))).length = d := by rw [List.take_of_length_le (by rw [HD.out.2.1]; exact Nat.le_refl _), HD.out.2.2.1, HD.out.2.2.2]
                  rw [hfin]
                  clear hfin
                  go_wp2
                  go_roundg g2
                  case measure => omega
                  case rel => exact ⟨j + 1, tickL Y, by omega, by go_num, H9.out.below HB.out⟩
                | succ gq =>
                  have hlt : (k : Int) < c := by omega
                  have hkc : k < D.length := by rw [HD.out.2.1]; omega
                  obtain ⟨x, hx⟩ : ∃ x, D[k]? = some x := ⟨_, List.getElem?_eq_getElem hkc⟩
                  obtain ⟨g, cp, e, _⟩ := owns_spot R9.out (by omega)
                  simp only [Value.slice.injEq] at e
                  obtain ⟨rfl, _, rfl⟩ := e
                  have hr := owns_below R9.out HB.out
                  have d0 : wr.cell? ⟨g, k, none⟩ = some (.int .i64 x) := by
                    rw [hr.cellAt k (by omega), num_at D k hkc, List.getD_eq_getElem?_getD, hx]; rfl
                  clear hr
                  by_cases h5 : x = id
                  · have HS1 : Hid ((D.take (k + 1)).filter (fun y => decide (y ≠ id)) = (D.take k).filter (fun y => decide (y ≠ id))) := others_not (by rw [hx, h5])
                    subst h5
                    clear hx
                    go_wp2
                    go_roundg gq
                    case measure => omega
                    case rel => exact ⟨k + 1, by omega, by go_num, by rw [HS1.out], HB⟩
                  · obtain ⟨hE1, hS1⟩ := others_at hx h5
                    rw [HD.out.2.2.1] at hE1
                    have HS1 : Hid (((D.take (k + 1)).filter (fun y => decide (y ≠ id))).length = ((D.take k).filter (fun y => decide (y ≠ id))).length + 1) := by show _ = _; rw [hS1, List.length_append]; rfl
                    obtain ⟨N, hN⟩ : ∃ N, ((D.take k).filter (fun y => decide (y ≠ id))).length = N := ⟨_, rfl⟩
                    rw [hN] at hE1 HS1 ⊢
                    have hNd : N < d := by rw [← HD.out.2.2.2]; exact (List.getElem?_eq_some_iff.1 hE1).1
                    obtain ⟨g3, cp3, e3, _⟩ := owns_spot R8'.out (by omega)
                    simp only [Value.slice.injEq] at e3
                    obtain ⟨rfl, _, rfl⟩ := e3
                    have hr2 := owns_below R8'.out HB.out
                    have d2 : wr.cell? ⟨g3, N, none⟩ = some (.int .i64 x) := by
                      rw [hr2.cellAt N (by omega), num_at E N (by rw [HD.out.2.2.2]; exact hNd), List.getD_eq_getElem?_getD, hE1]; rfl
                    have hN1 : ¬ ((d : Int) ≤ N) := by omega
                    have hN2 : decide ((d : Int) ≤ (N : Int)) = false := by simp; omega
                    have hN3 : (N : Int) < d := by omega
                    clear hr2 hE1 hS1 hx hN
                    go_wp2
                    go_quiet (fail)
                    go_wp2
                    go_roundg gq
                    case measure => omega
                    case rel => exact ⟨k + 1, by omega, by go_num, by rw [HS1.out]; go_num, HB.out.trans ((below_drewN _ _).mono HB.out.size)⟩
        · have hh' : has (two Z) id = false := by simpa using hh
          have HE : Hid (stopE Z id = 7) := by show _ = _; simp [stopE, hh']
          have hL0 : L = 0 := by have := leftV_no hh'; rw [← HL.out]; exact this
          subst hL0
          clear hh hh' hzl
          go_wp2_with (first
            | (go_at_call 10; have _ := H5.out; refine (left_tw H5.out id HL2.out).mono ?_; rintro e w6 ⟨rfl, hat, hk⟩; have H6 : Hid (Tw w.heap.size w w6 p mb tb (n) (off Z id) q nb ub (n') (Z)) := hat; clear hat hk H5)
            | (go_at_call 8; have _ := H6.out; refine (stop_tw H6.out id HID.out HE2.out HO2.out).mono ?_; rintro e w7 ⟨rfl, hat, hk⟩; have H7 : Hid (Tw w.heap.size w w7 p mb tb (n) (off Z id) q nb ub (n') (Z)) := hat; clear hat hk H6)
            | (go_at_call 8; refine (stop_tw H4.out id HID.out HE.out rfl).mono ?_; rintro e w5 ⟨rfl, hat, hk⟩; have H5 : Hid (Tw w.heap.size w w5 p mb tb (n) (off Z id) q nb ub (n') (Z)) := hat; clear hat hk H4)
            | (go_at_call 10; refine (left_tw HT.out id HL.out).mono ?_; rintro e w4 ⟨rfl, hat, hk⟩; have H4 : Hid (Tw w.heap.size w w4 p mb tb (n) (Z) q nb ub (n') (Z)) := hat; clear hat hk HT))
          clear HL HL2 HE HE2 HO2
          go_loopg [13, 14, 15, 16, 17] T (fun gk s13 s14 s15 s16 s17 wx => ∃ (j : Nat) (Y : List Alm), j + gk = T ∧ s13 = .int .i64 (j : Int) ∧ Hid (Tw w.heap.size w wx p mb tb (n) (off Y id) q nb ub (n') (Y)))
          case atStart => exact ⟨0, Z, by omega, rfl, H7⟩
          case round =>
            clear H7
            obtain ⟨j, Y, hjg, rfl, HY⟩ := hrel
            cases gk with
            | zero =>
              have hlt : ¬ ((j : Int) < T) := by omega
              go_wp2_with (go_at_call 5; refine (lives_any _).mono ?_; rintro e w8 ⟨rfl, hb⟩; have H8 : Hid (Below w.heap.size w w8) := HY.out.bel.trans (hb.mono HY.out.size); clear hb)
              go_ret
              exact ⟨rfl, H8.out⟩
            | succ g2 =>
              have hlt : (j : Int) < T := by omega
              obtain ⟨D, hD⟩ : ∃ D, (due Y).map Prod.fst = D := ⟨_, rfl⟩
              obtain ⟨c, hc⟩ : ∃ c, D.length = c := ⟨_, rfl⟩
              obtain ⟨E, hE⟩ : ∃ E, D.filter (fun y => decide (y ≠ id)) = E := ⟨_, rfl⟩
              obtain ⟨d, hd⟩ : ∃ d, E.length = d := ⟨_, rfl⟩
              have HD : Hid ((due Y).map Prod.fst = D ∧ D.length = c ∧ D.filter (fun y => decide (y ≠ id)) = E ∧ E.length = d) := ⟨hD, hc, hE, hd⟩
              have HDO : Hid ((due (off Y id)).map Prod.fst = E) := by show _ = _; rw [due_off, hD, hE]
              have hcl : c ≤ 1000 := by rw [← hc, ← hD, List.length_map]; have := due_len Y; have := HY.out.symm.len; omega
              have hdl : d ≤ c := by rw [← hd, ← hE, ← hc]; exact List.length_filter_le _ _
              clear hD hc hE hd
              go_wp2_with (first
                | (go_at_call 9; have _ := H8.out; refine (tick_tw H8.out.symm HD.out.1 HD.out.2.1 rfl).mono ?_; rintro e w9 ⟨s9, c9, rfl, hr, hat, hk⟩; have H9 : Hid (Tw w.heap.size w w9 p mb tb (n) (off (tickL Y) id) q nb ub (n') (tickL Y)) := hat.symm; have R9 : Hid (w9.ownsRow w.heap.size 3 1 (.slice s9 c c9) c (num D)) := hr; have R8' : Hid (w9.ownsRow w.heap.size 3 1 (.slice s8 d c8) d (num E)) := owns_kw R8.out hk; clear hat hk hr H8)
                | (go_at_call 9; refine (tick_tw HY.out HDO.out HD.out.2.2.2 (tick_off Y id)).mono ?_; rintro e w8 ⟨s8, c8, rfl, hr, hat, hk⟩; have H8 : Hid (Tw w.heap.size w w8 p mb tb (n) (off (tickL Y) id) q nb ub (n') (Y)) := hat; have R8 : Hid (w8.ownsRow w.heap.size 3 1 (.slice s8 d c8) d (num E)) := hr; clear hat hk hr HY))
              clear R8 hlt
              go_loopg [16, 17] c (fun gq s16 s17 wx => ∃ k : Nat, k + gq = c ∧ s17 = .int .i64 (k : Int) ∧ s16 = .int .i64 ((((D.take k).filter (fun y => decide (y ≠ id))).length : Nat) : Int) ∧ Hid (Below w9.heap.size w9 wx))
              case atStart => exact ⟨0, by omega, rfl, by simp, Below.refl _ _⟩
              case round =>
                obtain ⟨k, hkg, rfl, rfl, HB⟩ := hrel
                cases gk with
                | zero =>
                  obtain rfl : k = c := by omega
                  have hlt : ¬ ((k : Int) < k) := by omega
                  have hfin : ((D.take k).filter (fun y => decide (y ≠ id))).length = d := by rw [List.take_of_length_le (by rw [HD.out.2.1]; exact Nat.le_refl _), HD.out.2.2.1, HD.out.2.2.2]
                  rw [hfin]
                  clear hfin
                  go_wp2
                  go_roundg g2
                  case measure => omega
                  case rel => exact ⟨j + 1, tickL Y, by omega, by go_num, H9.out.below HB.out⟩
                | succ gq =>
                  have hlt : (k : Int) < c := by omega
                  have hkc : k < D.length := by rw [HD.out.2.1]; omega
                  obtain ⟨x, hx⟩ : ∃ x, D[k]? = some x := ⟨_, List.getElem?_eq_getElem hkc⟩
                  obtain ⟨g, cp, e, _⟩ := owns_spot R9.out (by omega)
                  simp only [Value.slice.injEq] at e
                  obtain ⟨rfl, _, rfl⟩ := e
                  have hr := owns_below R9.out HB.out
                  have d0 : wr.cell? ⟨g, k, none⟩ = some (.int .i64 x) := by
                    rw [hr.cellAt k (by omega), num_at D k hkc, List.getD_eq_getElem?_getD, hx]; rfl
                  clear hr
                  by_cases h5 : x = id
                  · have HS1 : Hid ((D.take (k + 1)).filter (fun y => decide (y ≠ id)) = (D.take k).filter (fun y => decide (y ≠ id))) := others_not (by rw [hx, h5])
                    subst h5
                    clear hx
                    go_wp2
                    go_roundg gq
                    case measure => omega
                    case rel => exact ⟨k + 1, by omega, by go_num, by rw [HS1.out], HB⟩
                  · obtain ⟨hE1, hS1⟩ := others_at hx h5
                    rw [HD.out.2.2.1] at hE1
                    have HS1 : Hid (((D.take (k + 1)).filter (fun y => decide (y ≠ id))).length = ((D.take k).filter (fun y => decide (y ≠ id))).length + 1) := by show _ = _; rw [hS1, List.length_append]; rfl
                    obtain ⟨N, hN⟩ : ∃ N, ((D.take k).filter (fun y => decide (y ≠ id))).length = N := ⟨_, rfl⟩
                    rw [hN] at hE1 HS1 ⊢
                    have hNd : N < d := by rw [← HD.out.2.2.2]; exact (List.getElem?_eq_some_iff.1 hE1).1
                    obtain ⟨g3, cp3, e3, _⟩ := owns_spot R8'.out (by omega)
                    simp only [Value.slice.injEq] at e3
                    obtain ⟨rfl, _, rfl⟩ := e3
                    have hr2 := owns_below R8'.out HB.out
                    have d2 : wr.cell? ⟨g3, N, none⟩ = some (.int .i64 x) := by
                      rw [hr2.cellAt N (by omega), num_at E N (by rw [HD.out.2.2.2]; exact hNd), List.getD_eq_getElem?_getD, hE1]; rfl
                    have hN1 : ¬ ((d : Int) ≤ N) := by omega
                    have hN2 : decide ((d : Int) ≤ (N : Int)) = false := by simp; omega
                    have hN3 : (N : Int) < d := by omega
                    clear hr2 hE1 hS1 hx hN
                    go_wp2
                    go_quiet (fail)
                    go_wp2
                    go_roundg gq
                    case measure => omega
                    case rel => exact ⟨k + 1, by omega, by go_num, by rw [HS1.out]; go_num, HB.out.trans ((below_drewN _ _).mono HB.out.size)⟩
      | succ g' =>
        have hlt : (i : Int) < M := by omega
        obtain ⟨⟨ak, who, ii, ee⟩, hx⟩ : ∃ x, acts[i]? = some x := ⟨_, List.getElem?_eq_getElem (by rw [HM.out]; omega)⟩
        obtain ⟨bb, ofs, rfl, hbl, hc⟩ := (HA.out.below HT.out.bel).spot (by rw [HM.out]; omega)
        obtain ⟨x0, x1, x2, x3⟩ := hc i _ hx
        obtain ⟨q0, q1, q2, q3⟩ := HA.out.wf i _ hx
        simp only at x0 x1 x2 x3 q0 q1 q2 q3
        have HS : Hid (S64 who) := q1
        clear hc hx
        have hb0 := alloc_below wr (.cells #[.int .u8 ak, .int .i64 who, .int .i64 ii, .int .i64 ee] 31)
        have HX : Hid ((wr.alloc (.cells #[.int .u8 ak, .int .i64 who, .int .i64 ii, .int .i64 ee] 31)).heap[wr.heap.size]? = some (.cells #[.int .u8 ak, .int .i64 who, .int .i64 ii, .int .i64 ee] 31 (0, 0))) := alloc_at wr _
        have H4 : Hid (Tw w.heap.size w (wr.alloc (.cells #[.int .u8 ak, .int .i64 who, .int .i64 ii, .int .i64 ee] 31)) p mb tb n Z q nb ub n' Z) := HT.out.below hb0
        clear hb0
        go_upto_region 9 with fail
        obtain ⟨X, hX⟩ : ∃ X, wr.heap.size = X := ⟨_, rfl⟩
        rw [hX] at HX
        rw [hX]
        clear hX
        generalize wr.alloc (.cells #[.int .u8 ak, .int .i64 who, .int .i64 ii, .int .i64 ee] 31) = w4 at *
        have y0 : w4.cell? ⟨X, 0, none⟩ = some (.int .u8 ak) := by rw [cell_of HX.out]; rfl
        have y1 : w4.cell? ⟨X, 1, none⟩ = some (.int .i64 who) := by rw [cell_of HX.out]; rfl
        have y2 : w4.cell? ⟨X, 2, none⟩ = some (.int .i64 ii) := by rw [cell_of HX.out]; rfl
        have y3 : w4.cell? ⟨X, 3, none⟩ = some (.int .i64 ee) := by rw [cell_of HX.out]; rfl
        clear x0 x1 x2 x3 HT
        by_cases hk2 : ak % 6 < 2
        · go_wp2_with (first
            | (go_at_call 7; have _ := H5.out; refine (start_tw H5.out.symm who ii ee HS.out (by have := HZL.out; omega) (by have := HZL.out; omega) (k := n' + 1) rfl rfl).mono ?_; rintro e w6 ⟨e1, rfl, hat, hk⟩; have H6 : Hid (Tw w.heap.size w w6 p mb tb (n + 1) (startL Z who ii ee) q nb ub (n' + 1) (startL Z who ii ee)) := hat.symm; clear hat hk)
            | (go_at_call 7; refine (start_tw H4.out who ii ee HS.out (by have := HZL.out; omega) (by have := HZL.out; omega) (k := n + 1) rfl rfl).mono ?_; rintro e w5 ⟨e0, rfl, hat, hk⟩; have H5 : Hid (Tw w.heap.size w w5 p mb tb (n + 1) (startL Z who ii ee) q nb ub (n') (Z)) := hat; have hx5 := hk _ _ _ _ (by decide) (by decide) HX.out; have z1 : w5.cell? ⟨X, 1, none⟩ = some (.int .i64 who) := (by rw [cell_of hx5]; rfl); have z2 : w5.cell? ⟨X, 2, none⟩ = some (.int .i64 ii) := (by rw [cell_of hx5]; rfl); have z3 : w5.cell? ⟨X, 3, none⟩ = some (.int .i64 ee) := (by rw [cell_of hx5]; rfl); clear hat hk hx5 H4))
          go_roundg g'
          case measure => omega
          case rel => exact ⟨i + 1, n + 1, n' + 1, _, by omega, by go_num, ⟨by have := HZL.out; omega, by have := HZL.out; omega, by have := HZL.out; have := start_len Z who ii ee; omega⟩, H6⟩
        · go_wp2_with (first
            | (go_at_call 9; have _ := H5.out; refine (tick_tw H5.out.symm rfl rfl rfl).mono ?_; rintro e w6 ⟨s6, c6, rfl, hr, hat, hk⟩; have H6 : Hid (Tw w.heap.size w w6 p mb tb (n) (tickL Z) q nb ub (n') (tickL Z)) := hat.symm; clear hat hk hr)
            | (go_at_call 9; refine (tick_tw H4.out rfl rfl rfl).mono ?_; rintro e w5 ⟨s5, c5, rfl, hr, hat, hk⟩; have H5 : Hid (Tw w.heap.size w w5 p mb tb (n) (tickL Z) q nb ub (n') (Z)) := hat; clear hat hk hr H4))
          go_roundg g'
          case measure => omega
          case rel => exact ⟨i + 1, n, n', _, by omega, by go_num, ⟨by have := HZL.out; omega, by have := HZL.out; omega, by have := HZL.out; have := tick_len Z; omega⟩, H6⟩
end Go.Proofs.Ytciafjmljmeimaa
