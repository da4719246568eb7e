/- 'TimersEach' walked. -/
import Derived.Test.YtciafjmljmeimaaSeen
import Derived.Test.YtciafjmljmeimaaEPure
import Derived.Test.YtciafjmljmeimaaTArgs
namespace Go.Proofs.Ytciafjmljmeimaa
open Go Go.RowKit
set_option maxRecDepth 100000
set_option linter.unusedVariables false
set_option linter.unusedSimpArgs false
theorem count_step (D : List Int) (q : Nat) (x : Int) (h : D[q]? = some x) : (D.take (q + 1)).count 5 = (D.take q).count 5 + if x = 5 then 1 else 0 := by
  obtain ⟨hq, e⟩ := List.getElem?_eq_some_iff.1 h
  rw [← List.take_append_getElem hq, List.count_append, e]
  by_cases c : x = 5 <;> simp [c, List.count_cons]
set_option maxHeartbeats 16000000 in
theorem each_any {w : World} {a b : Int} {sp : Option Addr} {acts : List Ac} {cap : Nat} {t : Int} (hs : Acts w.heap.size w sp acts) (hm : acts.length ≤ maxLen) (ha : 0 ≤ a ∧ a ≤ 255) (hb : 0 ≤ b ∧ b ≤ 255) (ht : 0 ≤ t ∧ t ≤ 255) :
    Calls Try.prog 3 #[.agg #[.int .u8 a, .int .u8 b, .slice sp acts.length cap, .int .u8 t]] w fun e w' => e = .returned (.bool true) ∧ Below w.heap.size w w' := by
  obtain ⟨T, rfl⟩ := Int.eq_ofNat_of_zero_le ht.1
  have HA : Hid (Acts w.heap.size w sp acts) := hs
  obtain ⟨m, hmm⟩ : ∃ m, acts.length = m := ⟨_, rfl⟩
  have HM : Hid (acts.length = m) := hmm
  rw [hmm] at hm ⊢
  unfold maxLen at hm
  have hwa : IntKind.i64.wrap a = a := by rw [IntKind.wrap_i64]; omega
  have hwb : IntKind.i64.wrap b = b := by rw [IntKind.wrap_i64]; omega
  have hwt : IntKind.i64.wrap (T : Int) = (T : Int) := by rw [IntKind.wrap_i64]; omega
  obtain ⟨F, hF⟩ : ∃ F, 1 + a = F := ⟨_, rfl⟩
  have hF1 : 1 ≤ F := by omega
  have hF2 : F ≤ 256 := by omega
  have hwF : IntKind.i64.wrap (1 + a) = F := by rw [IntKind.wrap_i64]; omega
  have HFB : Hid (1 ≤ F ∧ F ≤ 256 ∧ 0 ≤ b ∧ b ≤ 255) := ⟨hF1, hF2, hb.1, hb.2⟩
  have hT : (T : Int) ≤ 255 := ht.2
  have HB1 : Hid (Below w.heap.size w (w.alloc (.cells #[.int .u8 a, .int .u8 b, .slice sp m cap, .int .u8 T] 24))) := alloc_below w _
  have HST : Hid (startE 5 F b = 0 ∧ startL [] 5 F b = [(5, F, b)]) := by
    have h1 : ¬ badT F b := by unfold badT; omega
    have h2 : startE 5 F b = 0 := by simp [startE, h1]
    exact ⟨h2, by simp [startL, h2, off]⟩
  have HFV : Hid (Five [(5, F, b)] 5 (lfA F b ((0 : Nat) : Int)) b) := by
    show Five _ _ _ _
    rw [show ((0 : Nat) : Int) = 0 from rfl, lfA_zero hF1]
    exact Or.inr ⟨hF1, by simp⟩
  clear hs hF hmm ht
  by_cases hbig : 100 < m
  · go_enter Try.func3, Try.ntmps3
    go_wp2_with (go_at_call 5; refine (lives_any _).mono ?_; rintro e w2 ⟨rfl, hb⟩; have H2 : Hid (Below w.heap.size w w2) := HB1.out.trans (hb.mono HB1.out.size); clear hb)
    go_ret
    exact ⟨rfl, H2.out⟩
  · have hm100 : m ≤ 100 := by omega
    clear hbig
    go_enter Try.func3, Try.ntmps3
    go_wp2_with (first
      | (go_at_call 6; refine (new_at w rfl _ HB1.out).mono ?_; rintro e w2 ⟨p, mb, tb, rfl, hat, hk⟩; have H2 : Hid (At w.heap.size w w2 p mb tb 0 []) := hat; clear hat hk)
      | (go_at_call 7; refine (start_at H2.out 5 F b (s64 5 (by decide) (by decide)) (by decide) (by decide) (m := 1) rfl HST.out.1 HST.out.2).mono ?_; rintro e w3 ⟨rfl, hat, hk⟩; have H3 : Hid (At w.heap.size w w3 p mb tb 1 [(5, F, b)]) := hat; clear hat hk H2))
    clear HB1 HST hwa hwF ha
    go_loopg [10, 11, 12, 13, 14, 15, 16, 17] T (fun gk s10 s11 s12 s13 s14 s15 s16 s17 wx => ∃ (j k nn : Nat) (zs : List Alm), j + gk = T ∧ s11 = .int .i64 ((j : Int) + 1) ∧ s10 = .int .i64 (k : Int) ∧ k ≤ j ∧ nn ≤ j + 1 ∧ zs.length ≤ j + 1 ∧ Hid (At w.heap.size w wx p mb tb nn zs) ∧ Hid (Five zs 5 (lfA F b (j : Int)) b))
    case atStart => exact ⟨0, 0, 1, _, by omega, rfl, rfl, by omega, by omega, by simp, H3, HFV⟩
    case round =>
      clear H3 HFV
      obtain ⟨j, k, nn, Z, hjg, rfl, rfl, hkj, hnn, hZl, HT, HV⟩ := hrel
      cases gk with
      | zero =>
        have hlt : ¬ ((j : Int) + 1 ≤ T) := by omega
        go_wp2_with (go_at_call 5; refine (lives_any _).mono ?_; rintro e w4 ⟨rfl, hb⟩; have H4 : Hid (Below w.heap.size w w4) := HT.out.2.1.trans (hb.mono HT.out.size); clear hb)
        go_ret
        exact ⟨rfl, H4.out⟩
      | succ g' =>
        have hlt : (j : Int) + 1 ≤ T := by omega
        have HZL : Hid (nn ≤ j + 1 ∧ Z.length ≤ j + 1 ∧ j + 1 ≤ 255) := ⟨hnn, hZl, by omega⟩
        clear hnn hZl
        go_upto_if 50 with fail
        go_cut [10, 12] from 41 to 148 (fun s10 s12 wx => ∃ (k' nn' : Nat) (Y : List Alm), s10 = .int .i64 (k' : Int) ∧ k' ≤ j + 1 ∧ Hid (nn' ≤ j + 2 ∧ Y.length ≤ j + 2) ∧ Hid (At w.heap.size w wx p mb tb nn' Y) ∧ Hid (Five Y 5 (lfA F b (j : Int)) b))
        case first =>
          by_cases hkm : k < m
          · obtain ⟨⟨ak, who, ii, ee⟩, hx⟩ : ∃ x, acts[k]? = some x := ⟨_, List.getElem?_eq_getElem (by rw [HM.out]; omega)⟩
            obtain ⟨bb, ofs, rfl, hbl, hc⟩ := (HA.out.below HT.out.2.1).spot (by rw [HM.out]; omega)
            obtain ⟨x0, x1, x2, x3⟩ := hc k _ hx
            obtain ⟨q0, q1, q2, q3⟩ := HA.out.wf k _ hx
            simp only at x0 x1 x2 x3 q0 q1 q2 q3
            have HS : Hid (S64 who) := q1
            clear hc hx
            have hb0 := alloc_below wr (.cells #[.int .u8 ak, .int .i64 who, .int .i64 ii, .int .i64 ee] 31)
            have HX : Hid ((wr.alloc (.cells #[.int .u8 ak, .int .i64 who, .int .i64 ii, .int .i64 ee] 31)).heap[wr.heap.size]? = some (.cells #[.int .u8 ak, .int .i64 who, .int .i64 ii, .int .i64 ee] 31 (0, 0))) := alloc_at wr _
            have H4 : Hid (At w.heap.size w (wr.alloc (.cells #[.int .u8 ak, .int .i64 who, .int .i64 ii, .int .i64 ee] 31)) p mb tb nn Z) := HT.out.below hb0
            clear hb0
            go_upto_region 18 with fail
            obtain ⟨X, hX⟩ : ∃ X, wr.heap.size = X := ⟨_, rfl⟩
            rw [hX] at HX
            rw [hX]
            clear hX
            generalize wr.alloc (.cells #[.int .u8 ak, .int .i64 who, .int .i64 ii, .int .i64 ee] 31) = w4 at *
            have y0 : w4.cell? ⟨X, 0, none⟩ = some (.int .u8 ak) := by rw [cell_of HX.out]; rfl
            have y1 : w4.cell? ⟨X, 1, none⟩ = some (.int .i64 who) := by rw [cell_of HX.out]; rfl
            have y2 : w4.cell? ⟨X, 2, none⟩ = some (.int .i64 ii) := by rw [cell_of HX.out]; rfl
            have y3 : w4.cell? ⟨X, 3, none⟩ = some (.int .i64 ee) := by rw [cell_of HX.out]; rfl
            clear x0 x1 x2 x3 HT hlt
            by_cases h5 : who = 5
            · subst h5
              go_wp2
              go_meet
              exact ⟨k + 1, nn, Z, by go_num, by omega, ⟨by have := HZL.out; omega, by have := HZL.out; omega⟩, H4, HV⟩
            · by_cases h2 : ak % 2 = 0
              · have HV5 : Hid (Five (startL Z who ii ee) 5 (lfA F b (j : Int)) b) := HV.out.start h5
                go_wp2_with (go_at_call 7; refine (start_at H4.out who ii ee HS.out (by have := HZL.out; omega) (by have := HZL.out; omega) (m := nn + 1) rfl rfl rfl).mono ?_; rintro e w5 ⟨rfl, hat, hk⟩; have H5 : Hid (At w.heap.size w w5 p mb tb (nn + 1) (startL Z who ii ee)) := hat; have hx5 := hk _ _ _ _ (by decide) (by decide) HX.out; have z0 : w5.cell? ⟨X, 0, none⟩ = some (.int .u8 ak) := (by rw [cell_of hx5]; rfl); have z1 : w5.cell? ⟨X, 1, none⟩ = some (.int .i64 who) := (by rw [cell_of hx5]; rfl); clear hat hk hx5)
                go_meet
                exact ⟨k + 1, nn + 1, _, by go_num, by omega, ⟨by have := HZL.out; omega, by have := HZL.out; have := start_len Z who ii ee; omega⟩, H5, HV5⟩
              · have h3 : ak % 2 = 1 := by omega
                have HV5 : Hid (Five (off Z who) 5 (lfA F b (j : Int)) b) := HV.out.off h5
                go_wp2_with (go_at_call 8; refine (stop_at H4.out who HS.out rfl rfl).mono ?_; rintro e w5 ⟨rfl, hat, hk⟩; have H5 : Hid (At w.heap.size w w5 p mb tb nn (off Z who)) := hat; clear hat hk)
                go_meet
                exact ⟨k + 1, nn, _, by go_num, by omega, ⟨by have := HZL.out; omega, by have := HZL.out; have := off_len Z who; omega⟩, H5, HV5⟩
          · go_wp2
            go_meet
            exact ⟨k, nn, Z, rfl, by omega, ⟨by have := HZL.out; omega, by have := HZL.out; omega⟩, HT, HV⟩
        case rest =>
          obtain ⟨k', nn', Y, rfl, hk', HY, H5, HV5⟩ := hcut
          clear HT HV HZL
          obtain ⟨D, hD⟩ : ∃ D, (due Y).map Prod.fst = D := ⟨_, rfl⟩
          obtain ⟨c, hc⟩ : ∃ c, D.length = c := ⟨_, rfl⟩
          have HD : Hid ((due Y).map Prod.fst = D ∧ D.length = c) := ⟨hD, hc⟩
          have hcl : c ≤ 1000 := by rw [← hc, ← hD, List.length_map]; have := due_len Y; have := H5.out.len; omega
          have HCN : Hid (D.count 5 = if lfA F b (j : Int) = 1 then 1 else 0) := by rw [← hD]; exact HV5.out.count H5.out.fine
          have HV6 : Hid (Five (tickL Y) 5 (lfA F b ((j : Int) + 1)) b) := by
            have := HV5.out.tick H5.out.fine HFB.out.2.2.1
            rw [lf_next (by omega) HFB.out.1 HFB.out.2.2.1] at this
            exact this
          clear hD hc
          go_wp2_with (go_at_call 9; refine (tick_at H5.out HD.out.1 HD.out.2 rfl).mono ?_; rintro e w6 ⟨us, uc, rfl, hr, hat, hk⟩; have H6 : Hid (At w.heap.size w w6 p mb tb nn' (tickL Y)) := hat; have HR : Hid (w6.ownsRow w.heap.size 3 1 (.slice us c uc) c (num D)) := hr; clear hat hk hr H5)
          clear HV5 hlt
          go_loopg [14, 15] c (fun gq s14 s15 wx => ∃ q : Nat, q + gq = c ∧ s15 = .int .i64 (q : Int) ∧ s14 = .int .i64 (((D.take q).count 5 : Nat) : Int) ∧ w6 = wx)
          case atStart => exact ⟨0, by omega, rfl, by simp, rfl⟩
          case round =>
            obtain ⟨q, hqg, rfl, rfl, rfl⟩ := hrel
            cases gk with
            | zero =>
              obtain rfl : q = c := by omega
              have hlt : ¬ ((q : Int) < q) := by omega
              rw [show D.take q = D from List.take_of_length_le (by rw [HD.out.2]; exact Nat.le_refl _)]
              have hL : lfA F b (j : Int) = 1 ↔ (j : Int) + 1 = F ∨ (0 < b ∧ F < (j : Int) + 1 ∧ ((j : Int) + 1 - F) % b = 0) := lf_one (by omega) HFB.out.1 HFB.out.2.2.1
              have hcn := HCN.out
              obtain ⟨f1, f2, f3, f4⟩ := HFB.out
              obtain ⟨i, hi⟩ : ∃ i : Int, (j : Int) + 1 = i := ⟨_, rfl⟩
              have HI : Hid ((j : Int) + 1 = i) := hi
              have hib : 1 ≤ i ∧ i ≤ 255 := by omega
              have HJ : Hid (j + (g' + 1) = T) := hjg
              rw [hi] at hL HV6 ⊢
              clear hi hqg hjg HCN HFB HR
              by_cases hA : i < F
              · by_cases hb0 : 0 < b
                · have hc0 : D.count 5 = 0 := by rw [hcn, if_neg (fun h => by have := hL.1 h; omega)]
                  rw [hc0]
                  have HL0 : Hid (leftA (tickL Y) 5 = F - i) := by
                    show _ = _
                    rw [HV6.out.left H6.out.fine]
                    unfold lfA
                    rw [if_pos hA]
                  clear hcn hL hc0
                  go_wp2_with (go_at_call 10; refine (left_at H6.out 5 HL0.out).mono ?_; rintro e w7 ⟨rfl, hat, hk⟩; have H7 : Hid (At w.heap.size w w7 p mb tb nn' (tickL Y)) := hat; clear hat hk)
                  go_roundg g'
                  case measure => have := HJ.out; omega
                  case rel => exact ⟨j + 1, k', nn', tickL Y, by have := HJ.out; omega, by have h1 := HI.out; have h2 : ((j + 1 : Nat) : Int) = i := (by omega); rw [h2], rfl, by omega, by have := HY.out; omega, by have := HY.out; have := tick_len Y; omega, H7, by have h1 := HI.out; have h2 : ((j + 1 : Nat) : Int) = i := (by omega); show Five _ _ _ _; rw [h2]; exact HV6.out⟩
                · have hb1 : b = 0 := by omega
                  subst hb1
                  have hc0 : D.count 5 = 0 := by rw [hcn, if_neg (fun h => by have := hL.1 h; omega)]
                  rw [hc0]
                  have HL0 : Hid (leftA (tickL Y) 5 = F - i) := by
                    show _ = _
                    rw [HV6.out.left H6.out.fine]
                    unfold lfA
                    rw [if_pos hA]
                  clear hcn hL hc0
                  go_wp2_with (go_at_call 10; refine (left_at H6.out 5 HL0.out).mono ?_; rintro e w7 ⟨rfl, hat, hk⟩; have H7 : Hid (At w.heap.size w w7 p mb tb nn' (tickL Y)) := hat; clear hat hk)
                  go_roundg g'
                  case measure => have := HJ.out; omega
                  case rel => exact ⟨j + 1, k', nn', tickL Y, by have := HJ.out; omega, by have h1 := HI.out; have h2 : ((j + 1 : Nat) : Int) = i := (by omega); rw [h2], rfl, by omega, by have := HY.out; omega, by have := HY.out; have := tick_len Y; omega, H7, by have h1 := HI.out; have h2 : ((j + 1 : Nat) : Int) = i := (by omega); show Five _ _ _ _; rw [h2]; exact HV6.out⟩
              · by_cases hB : i = F
                · subst hB
                  have hmod : (i - i).tmod b = 0 := by simp
                  by_cases hb0 : 0 < b
                  · have hc0 : D.count 5 = 1 := by rw [hcn, if_pos (hL.2 (by omega))]
                    rw [hc0]
                    have HL0 : Hid (leftA (tickL Y) 5 = b) := by
                      show _ = _
                      rw [HV6.out.left H6.out.fine]
                      unfold lfA
                      rw [if_neg hA, if_pos hb0]; simp
                    clear hcn hL hc0
                    go_wp2_with (go_at_call 10; refine (left_at H6.out 5 HL0.out).mono ?_; rintro e w7 ⟨rfl, hat, hk⟩; have H7 : Hid (At w.heap.size w w7 p mb tb nn' (tickL Y)) := hat; clear hat hk)
                    go_roundg g'
                    case measure => have := HJ.out; omega
                    case rel => exact ⟨j + 1, k', nn', tickL Y, by have := HJ.out; omega, by have h1 := HI.out; have h2 : ((j + 1 : Nat) : Int) = i := (by omega); rw [h2], rfl, by omega, by have := HY.out; omega, by have := HY.out; have := tick_len Y; omega, H7, by have h1 := HI.out; have h2 : ((j + 1 : Nat) : Int) = i := (by omega); show Five _ _ _ _; rw [h2]; exact HV6.out⟩
                  · have hb1 : b = 0 := by omega
                    subst hb1
                    have hc0 : D.count 5 = 1 := by rw [hcn, if_pos (hL.2 (by omega))]
                    rw [hc0]
                    have HL0 : Hid (leftA (tickL Y) 5 = 0) := by
                      show _ = _
                      rw [HV6.out.left H6.out.fine]
                      unfold lfA
                      rw [if_neg hA, if_neg hb0]
                    clear hcn hL hc0
                    go_wp2_with (go_at_call 10; refine (left_at H6.out 5 HL0.out).mono ?_; rintro e w7 ⟨rfl, hat, hk⟩; have H7 : Hid (At w.heap.size w w7 p mb tb nn' (tickL Y)) := hat; clear hat hk)
                    go_roundg g'
                    case measure => have := HJ.out; omega
                    case rel => exact ⟨j + 1, k', nn', tickL Y, by have := HJ.out; omega, by have h1 := HI.out; have h2 : ((j + 1 : Nat) : Int) = i := (by omega); rw [h2], rfl, by omega, by have := HY.out; omega, by have := HY.out; have := tick_len Y; omega, H7, by have h1 := HI.out; have h2 : ((j + 1 : Nat) : Int) = i := (by omega); show Five _ _ _ _; rw [h2]; exact HV6.out⟩
                · have hC : F < i := by omega
                  by_cases hb0 : 0 < b
                  · obtain ⟨r, hr⟩ : ∃ r, (i - F) % b = r := ⟨_, rfl⟩
                    have hmod : (i - F).tmod b = r := by rw [Int.tmod_eq_emod_of_nonneg (by omega)]; exact hr
                    have hr1 := Int.emod_nonneg (i - F) (show b ≠ 0 by omega)
                    have hr2 := Int.emod_lt_of_pos (i - F) hb0
                    rw [hr] at hr1 hr2 hL
                    have HRR : Hid ((i - F) % b = r) := hr
                    clear hr
                    by_cases hr0 : r = 0
                    · subst hr0
                      have hc0 : D.count 5 = 1 := by rw [hcn, if_pos (hL.2 (by omega))]
                      rw [hc0]
                      have HL0 : Hid (leftA (tickL Y) 5 = b) := by
                        show _ = _
                        rw [HV6.out.left H6.out.fine]
                        unfold lfA
                        rw [if_neg hA, if_pos hb0, HRR.out]; omega
                      clear hcn hL hc0
                      go_wp2_with (go_at_call 10; refine (left_at H6.out 5 HL0.out).mono ?_; rintro e w7 ⟨rfl, hat, hk⟩; have H7 : Hid (At w.heap.size w w7 p mb tb nn' (tickL Y)) := hat; clear hat hk)
                      go_roundg g'
                      case measure => have := HJ.out; omega
                      case rel => exact ⟨j + 1, k', nn', tickL Y, by have := HJ.out; omega, by have h1 := HI.out; have h2 : ((j + 1 : Nat) : Int) = i := (by omega); rw [h2], rfl, by omega, by have := HY.out; omega, by have := HY.out; have := tick_len Y; omega, H7, by have h1 := HI.out; have h2 : ((j + 1 : Nat) : Int) = i := (by omega); show Five _ _ _ _; rw [h2]; exact HV6.out⟩
                    · have e1 : (i == F) = false := by simpa using hB
                      have e2 : (r == 0) = false := by simpa using hr0
                      have hc0 : D.count 5 = 0 := by rw [hcn, if_neg (fun h => by have := hL.1 h; omega)]
                      rw [hc0]
                      have HL0 : Hid (leftA (tickL Y) 5 = b - r) := by
                        show _ = _
                        rw [HV6.out.left H6.out.fine]
                        unfold lfA
                        rw [if_neg hA, if_pos hb0, HRR.out]
                      clear hcn hL hc0
                      go_wp2_with (go_at_call 10; refine (left_at H6.out 5 HL0.out).mono ?_; rintro e w7 ⟨rfl, hat, hk⟩; have H7 : Hid (At w.heap.size w w7 p mb tb nn' (tickL Y)) := hat; clear hat hk)
                      go_roundg g'
                      case measure => have := HJ.out; omega
                      case rel => exact ⟨j + 1, k', nn', tickL Y, by have := HJ.out; omega, by have h1 := HI.out; have h2 : ((j + 1 : Nat) : Int) = i := (by omega); rw [h2], rfl, by omega, by have := HY.out; omega, by have := HY.out; have := tick_len Y; omega, H7, by have h1 := HI.out; have h2 : ((j + 1 : Nat) : Int) = i := (by omega); show Five _ _ _ _; rw [h2]; exact HV6.out⟩
                  · have hb1 : b = 0 := by omega
                    subst hb1
                    have hc0 : D.count 5 = 0 := by rw [hcn, if_neg (fun h => by have := hL.1 h; omega)]
                    rw [hc0]
                    have HL0 : Hid (leftA (tickL Y) 5 = 0) := by
                      show _ = _
                      rw [HV6.out.left H6.out.fine]
                      unfold lfA
                      rw [if_neg hA, if_neg hb0]
                    clear hcn hL hc0
                    go_wp2_with (go_at_call 10; refine (left_at H6.out 5 HL0.out).mono ?_; rintro e w7 ⟨rfl, hat, hk⟩; have H7 : Hid (At w.heap.size w w7 p mb tb nn' (tickL Y)) := hat; clear hat hk)
                    go_roundg g'
                    case measure => have := HJ.out; omega
                    case rel => exact ⟨j + 1, k', nn', tickL Y, by have := HJ.out; omega, by have h1 := HI.out; have h2 : ((j + 1 : Nat) : Int) = i := (by omega); rw [h2], rfl, by omega, by have := HY.out; omega, by have := HY.out; have := tick_len Y; omega, H7, by have h1 := HI.out; have h2 : ((j + 1 : Nat) : Int) = i := (by omega); show Five _ _ _ _; rw [h2]; exact HV6.out⟩
            | succ gq =>
              have hlt : (q : Int) < c := by omega
              have hqc : q < D.length := by rw [HD.out.2]; omega
              obtain ⟨g, cp, e, _⟩ := owns_spot HR.out (by omega)
              simp only [Value.slice.injEq] at e
              obtain ⟨rfl, _, rfl⟩ := e
              have hr := HR.out
              have d0 : w6.cell? ⟨g, q, none⟩ = some (.int .i64 (D.getD q 0)) := by
                rw [hr.cellAt q (by omega), num_at D q hqc]
              obtain ⟨x, hx⟩ : ∃ x, D.getD q 0 = x := ⟨_, rfl⟩
              have hst := count_step D q x (by rw [← hx, List.getD_eq_getElem?_getD, List.getElem?_eq_getElem hqc]; rfl)
              rw [hx] at d0
              have hcq : (D.take q).count 5 ≤ q := by have := List.count_le_length (a := (5 : Int)) (l := D.take q); rw [List.length_take] at this; omega
              have HST : Hid ((D.take (q + 1)).count 5 = (D.take q).count 5 + if x = 5 then 1 else 0) := hst
              clear hr hx hst
              generalize (D.take q).count 5 = C at *
              by_cases h5 : x = 5
              · have HS1 : Hid ((D.take (q + 1)).count 5 = C + 1) := by have := HST.out; rw [if_pos h5] at this; exact this
                subst h5
                clear HST
                go_wp2
                go_roundg gq
                case measure => omega
                case rel => exact ⟨q + 1, by omega, by go_num, by rw [HS1.out]; go_num, rfl⟩
              · have HS1 : Hid ((D.take (q + 1)).count 5 = C) := by have := HST.out; rw [if_neg h5] at this; exact this
                clear HST
                go_wp2
                go_roundg gq
                case measure => omega
                case rel => exact ⟨q + 1, by omega, by go_num, by rw [HS1.out], rfl⟩
end Go.Proofs.Ytciafjmljmeimaa
