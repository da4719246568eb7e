/- 'HandlesPlaces' walked: handles that are there have places of their own, by which they are told rising. -/
import Derived.Test.YtkogmmldkpepaaaSeen
namespace Go.Proofs.Ytkogmmldkpepaaa
open Go Go.RowKit
set_option maxRecDepth 100000
set_option linter.unusedVariables false
/-- the first places have their first handles -/
def fill (k : Nat) : Slots := fun j => if j < k then (1, true) else (0, false)
theorem fill_in {k j : Nat} (h : j < k) : fill k j = (1, true) := if_pos h
theorem fill_out {k j : Nat} (h : ¬ j < k) : fill k j = (0, false) := if_neg h
theorem fill_zero : none0 = fill 0 := by funext j; rw [fill_out (by omega)]; rfl
theorem fill_fr {n k : Nat} (h : k < n) : fr n (fill k) = k := fr_is (by omega) (fun j hj => by rw [fill_in hj]; rfl) (fun _ => by rw [fill_out (by omega)]; rfl)
theorem fill_H {n k : Nat} (h : k < n) : makeH n (fill k) = 256 + k := by
  unfold makeH; rw [fill_fr h, if_pos h, fill_out (by omega)]; show (0 + 1) * 256 + k = 256 + k; omega
theorem fill_E {n k : Nat} (h : k < n) : makeE n (fill k) = 0 := by unfold makeE; rw [fill_fr h, if_pos h]
theorem fill_S {n k : Nat} (h : k < n) : makeS n (fill k) = fill (k + 1) := by
  unfold makeS; rw [fill_fr h, if_pos h, fill_out (by omega)]
  funext j
  by_cases e : j = k
  · subst e; rw [upd_at, fill_in (by omega)]
  · rw [upd_ne _ _ e]
    by_cases e2 : j < k
    · rw [fill_in e2, fill_in (by omega)]
    · rw [fill_out e2, fill_out (by omega)]
theorem one_is {s : Slots} {k : Nat} (hk : k < 256) (h : s k = (1, true)) : placeE s (256 + k) = 0 := by
  have e1 : (256 + k) % 256 = k := by omega
  have e2 : (256 + k) / 256 = 1 := by omega
  exact placeE_of (by omega) (by rw [e1, e2, h]) (by rw [e1, h])
theorem placeP_yes {s : Slots} {h : Nat} (hp : placeE s h = 0) : placeP s h = h % 256 := if_pos hp
theorem one_P {s : Slots} {k : Nat} (hk : k < 256) (h : s k = (1, true)) : placeP s (256 + k) = k := by
  rw [placeP_yes (one_is hk h)]; omega
theorem drop_ne {s : Slots} {h j : Nat} (hj : j ≠ h % 256) : dropS s h j = s j := by
  unfold dropS
  split
  · exact upd_ne _ _ hj
  · rfl
set_option maxHeartbeats 8000000 in
theorem places_any (most many drop : Int) (h1 : 0 ≤ most ∧ most ≤ 255) (h2 : 0 ≤ many ∧ many ≤ 255) (h3 : 0 ≤ drop ∧ drop ≤ 18446744073709551615) (w : World) :
    Calls Try.prog 5 #[.int .u8 most, .int .u8 many, .int .u64 drop] w fun e w' => e = .returned (.bool true) ∧ Below w.heap.size w w' := by
  obtain ⟨t, rfl⟩ := Int.eq_ofNat_of_zero_le h1.1
  obtain ⟨o, rfl⟩ := Int.eq_ofNat_of_zero_le h2.1
  obtain ⟨d, rfl⟩ := Int.eq_ofNat_of_zero_le h3.1
  obtain ⟨n, hn⟩ : ∃ n, 1 + t = n := ⟨_, rfl⟩
  have hN : (1 : Int) + (t : Int) = (n : Int) := by omega
  have hn1 : 1 ≤ n := by omega
  have hn2 : n ≤ 256 := by omega
  have ho : o ≤ 255 := by omega
  clear hn
  by_cases hon : o < n
  · have honI : (o : Int) < n := by omega
    go_enter Try.func5, Try.ntmps5
    go_wp2_with (first
      | (go_at_call 13; refine (nw_is n hn1 hn2).mono ?_; rintro e w0 ⟨rfl, hr, hb⟩; rw [fill_zero] at hr; have H0 : Hid (Tab w0 w.heap.size n (fill 0)) := hr; have HB0 : Hid (Below w.heap.size w w0) := hb; clear hr hb))
    go_loopg [11] o (fun g s11 wx => ∃ i : Nat, i + g = o ∧ s11 = .int .i64 i ∧ Hid (Tab wx w.heap.size n (fill i)) ∧ Hid (tk n (fill i) = i) ∧ Hid (Below w.heap.size w wx))
    case atStart => exact ⟨0, by omega, rfl, H0, tk_none (fun j hj => by rw [fill_out (by omega)]), HB0⟩
    case round =>
      clear H0 HB0
      obtain ⟨i, hig, rfl, HT, HC, HB⟩ := hrel
      cases gk with
      | succ g =>
        have hlt : (i : Int) < o := by omega
        have hin : i < n := by omega
        have M1 : Hid (makeH n (fill i) = 256 + i) := fill_H hin
        have M2 : Hid (makeE n (fill i) = 0) := fill_E hin
        have M3 : Hid (makeS n (fill i) = fill (i + 1)) := fill_S hin
        have M4 : Hid (tk n (fill (i + 1)) = i + 1) := by
          have := make_tk (n := n) (s := fill i) (by rw [fill_fr hin]; exact hin)
          rw [fill_S hin, HC.out] at this; exact this
        have P1 : Hid (placeE (fill (i + 1)) (256 + i) = 0) := one_is (by omega) (fill_in (by omega))
        have P2 : Hid (placeP (fill (i + 1)) (256 + i) = i) := one_P (by omega) (fill_in (by omega))
        go_wp2_with (first
          | (go_at_call 8; refine (mk_is HT.out M1.out M2.out (z := 256 + (i : Int)) (by omega)).mono ?_; rintro e w1 ⟨rfl, hr, hb⟩; rw [M3.out] at hr; have HA1 : Hid (Tab w1 w.heap.size n (fill (i + 1))) := hr; replace HB : Hid (Below w.heap.size w w1) := HB.out.trans (one_below hb (Nat.le_refl _) HB.out.size); clear hr hb)
          | (go_at_call 9; refine (pl_is HA1.out (256 + i) (by omega) P2.out P1.out (x := 256 + (i : Int)) (by omega)).mono ?_; rintro e w2 ⟨rfl, hb⟩; have HA2 : Hid (Tab w2 w.heap.size n (fill (i + 1))) := HA1.out.below hb; replace HB : Hid (Below w.heap.size w w2) := HB.out.trans (hb.mono HB.out.size); clear hb))
        go_roundg g
        case measure => omega
        case rel => exact ⟨i + 1, by omega, by go_num, HA2, M4, HB⟩
      | zero =>
        obtain rfl : o = i := by omega
        have hlt : ¬ ((o : Int) < o) := by omega
        go_wp2
        go_loopg [16, 17] o (fun g s16 s17 wx => ∃ (j left : Nat) (s : Slots), j + g = o ∧ left ≤ j ∧ s16 = .int .i64 left ∧ s17 = .int .i64 j ∧ Hid (Tab wx w.heap.size n s) ∧ Hid (∀ q, j ≤ q → q < o → s q = (1, true)) ∧ Hid (left + o = j + tk n s) ∧ Hid (Below w.heap.size w wx))
        case atStart => exact ⟨0, 0, fill o, by omega, by omega, rfl, rfl, HT, fun q _ hq => fill_in hq, by show _ = _; rw [HC.out], HB⟩
        case round =>
          clear HT HC HB
          obtain ⟨j, left, s, hjg, hlj, rfl, rfl, HT, HJ, HC, HB⟩ := hrel
          cases gk with
          | succ g =>
            have hlt : (j : Int) < o := by omega
            have e1 : Int.tmod (j : Int) 64 = ((j % 64 : Nat) : Int) := rfl
            have hj64 : j % 64 < 64 := by omega
            have HO : Hid (s j = (1, true)) := HJ.out j (Nat.le_refl _) (by omega)
            have P1 : Hid (placeE s (256 + j) = 0) := one_is (by omega) HO.out
            generalize j % 64 = jm at *
            go_wp2_with (first
              | (go_at_call 10; refine (dr_is HT.out (256 + j) (by omega) P1.out (x := 256 + (j : Int)) (by omega)).mono ?_; rintro e w1 ⟨rfl, hr, hb⟩; have HA1 : Hid (Tab w1 w.heap.size n (dropS s (256 + j))) := hr; have HB1 : Hid (Below w.heap.size w w1) := HB.out.trans (one_below hb (Nat.le_refl _) HB.out.size); clear hr hb))
            · go_roundg g
              case measure => omega
              case rel => exact ⟨j + 1, left + 1, s, by omega, by omega, by go_num, by go_num, HT, fun q hq1 hq2 => HJ.out q (by omega) hq2, by have := HC.out; show _ = _; omega, HB⟩
            · go_roundg g
              case measure => omega
              case rel => exact ⟨j + 1, left, _, by omega, by omega, rfl, by go_num, HA1, fun q hq1 hq2 => by rw [drop_ne (by omega)]; exact HJ.out q (by omega) hq2, by have := drop_tk HT.out.good P1.out; have h2 := HC.out; show _ = _; omega, HB1⟩
          | zero =>
            obtain rfl : o = j := by omega
            have hlt : ¬ ((o : Int) < o) := by omega
            have HM : Hid ((listL n s).length = left) := by have := HC.out; unfold tk at this; show _ = _; omega
            have HR : Hid ((listL n s).Pairwise (fun x y => x % 256 < y % 256)) := listL_rise hn2
            obtain ⟨wo, rfl⟩ : ∃ wo, wo = wr := ⟨wr, rfl⟩
            go_wp2_with (first
              | (go_at_call 11; refine (told_is HT.out HM.out).mono ?_; rintro e w3 ⟨tp, tc, rfl, ht3, hb⟩; have HS3 : Hid (Src w3 tp (ints (listL n s))) := ht3.at; have H3 : Hid (Tab w3 w.heap.size n s) := HT.out.below hb; have HB3 : Hid (Below w.heap.size w w3) := HB.out.trans (hb.mono HB.out.size); clear ht3 hb))
            go_loopg [19] left (fun g s19 wx => ∃ q : Nat, q + g = left ∧ s19 = .int .i64 q ∧ Hid (Below w3.heap.size w3 wx))
            case atStart => exact ⟨0, by omega, rfl, Below.refl _ _⟩
            case round =>
              obtain ⟨q, hqg, rfl, HQ⟩ := hrel
              have HB4 : Hid (Below w.heap.size w wr) := HB3.out.trans (HQ.out.mono HB3.out.size)
              cases gk with
              | zero =>
                have hql : ¬ ((q : Int) < left) := by omega
                go_wp2_with (first
                  | (go_at_call 12; refine (alive_any _).mono ?_; rintro e w5 ⟨rfl, hb⟩; have HB5 : Hid (Below w.heap.size w w5) := HB4.out.trans (hb.mono HB4.out.size); clear hb))
                go_ret
                exact ⟨rfl, HB5.out⟩
              | succ g =>
                have hql : (q : Int) < left := by omega
                have H4 : Hid (Tab wr w.heap.size n s) := H3.out.below HQ.out
                obtain ⟨b2, off2, rfl, hc2⟩ := (HS3.out.below HQ.out) (by rw [ints_len]; have := HM.out; omega)
                have ku := hc2 q (by rw [ints_len]; have := HM.out; omega)
                have HKC : Hid (∀ y, y < left → wr.cell? ⟨b2, off2 + y, none⟩ = some (.int .u32 (((listL n s).getD y 0 : Nat) : Int))) := fun y hy => by rw [hc2 y (by rw [ints_len]; have := HM.out; omega), ints_get]
                rw [ints_get] at ku
                have P1 : Hid (placeE s ((listL n s).getD q 0) = 0) := listL_at HT.out.good hn2 (by have := HM.out; omega)
                have P2 : Hid ((listL n s).getD q 0 ≤ 4294967295) := listL_getw HT.out.good hn2 (by have := HM.out; omega)
                clear hc2
                by_cases hq0 : q = 0
                · have HQ0 : Hid (q = 0) := hq0
                  clear hq0
                  obtain ⟨u, hu⟩ : ∃ u, (listL n s).getD q 0 = u := ⟨_, rfl⟩
                  rw [hu] at ku P1 P2
                  clear hu
                  have e2 : Int.tmod (u : Int) 256 = ((u % 256 : Nat) : Int) := rfl
                  have hu256 : u % 256 < 256 := by omega
                  have P3 : Hid (placeP s u = u % 256) := placeP_yes P1.out
                  generalize u % 256 = ua at *
                  go_wp2_with (first
                    | (go_at_call 9; refine (pl_is H4.out u P2.out P3.out P1.out).mono ?_; rintro e w5 ⟨rfl, hb⟩; have ku5 := (hb.cell (p := ⟨b2, off2 + q, none⟩) (cell_lt ku)).trans ku; have HQ5 : Hid (Below w3.heap.size w3 w5) := HQ.out.trans (hb.mono HQ.out.size); clear hb))
                  have hqd : decide (0 < q) = false := decide_eq_false (by have := HQ0.out; omega)
                  have hwu : IntKind.i64.wrap (ua : Int) = (ua : Int) := by rw [IntKind.wrap_i64]; omega
                  go_quiet ((fail))
                  go_wp2
                  go_roundg g
                  case measure => omega
                  case rel => exact ⟨q + 1, by omega, by go_num, HQ5.out.trans ((below_drewN _ _).mono HQ5.out.size)⟩
                · obtain ⟨q, rfl⟩ : ∃ r, q = r + 1 := ⟨q - 1, by omega⟩
                  have kv := HKC.out q (by omega)
                  have HRq : Hid ((listL n s).getD q 0 % 256 < (listL n s).getD (q + 1) 0 % 256) := by
                    have hr := HR.out
                    have l1 : q < (listL n s).length := by have := HM.out; omega
                    have l2 : q + 1 < (listL n s).length := by have := HM.out; omega
                    show _ < _
                    rw [show (listL n s).getD q 0 = (listL n s)[q] by simp [l1], show (listL n s).getD (q + 1) 0 = (listL n s)[q + 1] by simp [l2]]
                    exact List.pairwise_iff_getElem.1 hr q (q + 1) l1 l2 (by omega)
                  obtain ⟨u, hu⟩ : ∃ u, (listL n s).getD (q + 1) 0 = u := ⟨_, rfl⟩
                  obtain ⟨v, hv⟩ : ∃ v, (listL n s).getD q 0 = v := ⟨_, rfl⟩
                  rw [hu] at ku P1 P2 HRq
                  rw [hv] at kv HRq
                  clear hu hv
                  have e2 : Int.tmod (u : Int) 256 = ((u % 256 : Nat) : Int) := rfl
                  have e3 : Int.tmod (v : Int) 256 = ((v % 256 : Nat) : Int) := rfl
                  have hu256 : u % 256 < 256 := by omega
                  have hv256 : v % 256 < 256 := by omega
                  have P3 : Hid (placeP s u = u % 256) := placeP_yes P1.out
                  have hge : decide (((u % 256 : Nat) : Int) ≤ ((v % 256 : Nat) : Int)) = false := decide_eq_false (by have := HRq.out; omega)
                  have hge' : ¬ (((u % 256 : Nat) : Int) ≤ ((v % 256 : Nat) : Int)) := by have := HRq.out; omega
                  clear HRq
                  generalize u % 256 = ua at *
                  generalize v % 256 = va at *
                  have hq0 : ((q + 1 : Nat) : Int) - 1 = (q : Int) := by omega
                  have hqp : decide ((0 : Int) < ((q + 1 : Nat) : Int)) = true := decide_eq_true (by omega)
                  have hqq : (q : Int) < left := by omega
                  go_wp2_with (first
                    | (go_at_call 9; refine (pl_is H4.out u P2.out P3.out P1.out).mono ?_; rintro e w5 ⟨rfl, hb⟩; have ku5 := (hb.cell (p := ⟨b2, off2 + (q + 1), none⟩) (cell_lt ku)).trans ku; have kv5 := (hb.cell (p := ⟨b2, off2 + q, none⟩) (cell_lt kv)).trans kv; have HQ5 : Hid (Below w3.heap.size w3 w5) := HQ.out.trans (hb.mono HQ.out.size); clear hb))
                  have hwu : IntKind.i64.wrap (ua : Int) = (ua : Int) := by rw [IntKind.wrap_i64]; omega
                  go_quiet ((fail))
                  go_wp2
                  go_roundg g
                  case measure => omega
                  case rel => exact ⟨q + 1 + 1, by omega, by go_num, HQ5.out.trans ((below_drewN _ _).mono HQ5.out.size)⟩
  · have hon2 : ¬ (o : Int) < n := by omega
    by_cases hno : n < o
    · have hnoI : (n : Int) < o := by omega
      go_enter Try.func5, Try.ntmps5
      go_wp2_with (first
        | (go_at_call 13; refine (nw_is n hn1 hn2).mono ?_; rintro e w0 ⟨rfl, hr, hb⟩; rw [fill_zero] at hr; have H0 : Hid (Tab w0 w.heap.size n (fill 0)) := hr; have HB0 : Hid (Below w.heap.size w w0) := hb; clear hr hb))
      go_loopg [11] n (fun g s11 wx => ∃ i : Nat, i + g = n ∧ s11 = .int .i64 i ∧ Hid (Tab wx w.heap.size n (fill i)) ∧ Hid (tk n (fill i) = i) ∧ Hid (Below w.heap.size w wx))
      case atStart => exact ⟨0, by omega, rfl, H0, tk_none (fun j hj => by rw [fill_out (by omega)]), HB0⟩
      case round =>
        clear H0 HB0
        obtain ⟨i, hig, rfl, HT, HC, HB⟩ := hrel
        cases gk with
        | succ g =>
          have hlt : (i : Int) < n := by omega
          have hin : i < n := by omega
          have M1 : Hid (makeH n (fill i) = 256 + i) := fill_H hin
          have M2 : Hid (makeE n (fill i) = 0) := fill_E hin
          have M3 : Hid (makeS n (fill i) = fill (i + 1)) := fill_S hin
          have M4 : Hid (tk n (fill (i + 1)) = i + 1) := by
            have := make_tk (n := n) (s := fill i) (by rw [fill_fr hin]; exact hin)
            rw [fill_S hin, HC.out] at this; exact this
          have P1 : Hid (placeE (fill (i + 1)) (256 + i) = 0) := one_is (by omega) (fill_in (by omega))
          have P2 : Hid (placeP (fill (i + 1)) (256 + i) = i) := one_P (by omega) (fill_in (by omega))
          go_wp2_with (first
            | (go_at_call 8; refine (mk_is HT.out M1.out M2.out (z := 256 + (i : Int)) (by omega)).mono ?_; rintro e w1 ⟨rfl, hr, hb⟩; rw [M3.out] at hr; have HA1 : Hid (Tab w1 w.heap.size n (fill (i + 1))) := hr; replace HB : Hid (Below w.heap.size w w1) := HB.out.trans (one_below hb (Nat.le_refl _) HB.out.size); clear hr hb)
            | (go_at_call 9; refine (pl_is HA1.out (256 + i) (by omega) P2.out P1.out (x := 256 + (i : Int)) (by omega)).mono ?_; rintro e w2 ⟨rfl, hb⟩; have HA2 : Hid (Tab w2 w.heap.size n (fill (i + 1))) := HA1.out.below hb; replace HB : Hid (Below w.heap.size w w2) := HB.out.trans (hb.mono HB.out.size); clear hb))
          go_roundg g
          case measure => omega
          case rel => exact ⟨i + 1, by omega, by go_num, HA2, M4, HB⟩
        | zero =>
          obtain rfl : n = i := by omega
          have hlt : ¬ ((n : Int) < n) := by omega
          go_wp2
          go_loopg [16, 17] n (fun g s16 s17 wx => ∃ (j left : Nat) (s : Slots), j + g = n ∧ left ≤ j ∧ s16 = .int .i64 left ∧ s17 = .int .i64 j ∧ Hid (Tab wx w.heap.size n s) ∧ Hid (∀ q, j ≤ q → q < n → s q = (1, true)) ∧ Hid (left + n = j + tk n s) ∧ Hid (Below w.heap.size w wx))
          case atStart => exact ⟨0, 0, fill n, by omega, by omega, rfl, rfl, HT, fun q _ hq => fill_in hq, by show _ = _; rw [HC.out], HB⟩
          case round =>
            clear HT HC HB
            obtain ⟨j, left, s, hjg, hlj, rfl, rfl, HT, HJ, HC, HB⟩ := hrel
            cases gk with
            | succ g =>
              have hlt : (j : Int) < n := by omega
              have e1 : Int.tmod (j : Int) 64 = ((j % 64 : Nat) : Int) := rfl
              have hj64 : j % 64 < 64 := by omega
              have HO : Hid (s j = (1, true)) := HJ.out j (Nat.le_refl _) (by omega)
              have P1 : Hid (placeE s (256 + j) = 0) := one_is (by omega) HO.out
              generalize j % 64 = jm at *
              go_wp2_with (first
                | (go_at_call 10; refine (dr_is HT.out (256 + j) (by omega) P1.out (x := 256 + (j : Int)) (by omega)).mono ?_; rintro e w1 ⟨rfl, hr, hb⟩; have HA1 : Hid (Tab w1 w.heap.size n (dropS s (256 + j))) := hr; have HB1 : Hid (Below w.heap.size w w1) := HB.out.trans (one_below hb (Nat.le_refl _) HB.out.size); clear hr hb))
              · go_roundg g
                case measure => omega
                case rel => exact ⟨j + 1, left + 1, s, by omega, by omega, by go_num, by go_num, HT, fun q hq1 hq2 => HJ.out q (by omega) hq2, by have := HC.out; show _ = _; omega, HB⟩
              · go_roundg g
                case measure => omega
                case rel => exact ⟨j + 1, left, _, by omega, by omega, rfl, by go_num, HA1, fun q hq1 hq2 => by rw [drop_ne (by omega)]; exact HJ.out q (by omega) hq2, by have := drop_tk HT.out.good P1.out; have h2 := HC.out; show _ = _; omega, HB1⟩
            | zero =>
              obtain rfl : n = j := by omega
              have hlt : ¬ ((n : Int) < n) := by omega
              have HM : Hid ((listL n s).length = left) := by have := HC.out; unfold tk at this; show _ = _; omega
              have HR : Hid ((listL n s).Pairwise (fun x y => x % 256 < y % 256)) := listL_rise hn2
              obtain ⟨wo, rfl⟩ : ∃ wo, wo = wr := ⟨wr, rfl⟩
              go_wp2_with (first
                | (go_at_call 11; refine (told_is HT.out HM.out).mono ?_; rintro e w3 ⟨tp, tc, rfl, ht3, hb⟩; have HS3 : Hid (Src w3 tp (ints (listL n s))) := ht3.at; have H3 : Hid (Tab w3 w.heap.size n s) := HT.out.below hb; have HB3 : Hid (Below w.heap.size w w3) := HB.out.trans (hb.mono HB.out.size); clear ht3 hb))
              go_loopg [19] left (fun g s19 wx => ∃ q : Nat, q + g = left ∧ s19 = .int .i64 q ∧ Hid (Below w3.heap.size w3 wx))
              case atStart => exact ⟨0, by omega, rfl, Below.refl _ _⟩
              case round =>
                obtain ⟨q, hqg, rfl, HQ⟩ := hrel
                have HB4 : Hid (Below w.heap.size w wr) := HB3.out.trans (HQ.out.mono HB3.out.size)
                cases gk with
                | zero =>
                  have hql : ¬ ((q : Int) < left) := by omega
                  go_wp2_with (first
                    | (go_at_call 12; refine (alive_any _).mono ?_; rintro e w5 ⟨rfl, hb⟩; have HB5 : Hid (Below w.heap.size w w5) := HB4.out.trans (hb.mono HB4.out.size); clear hb))
                  go_ret
                  exact ⟨rfl, HB5.out⟩
                | succ g =>
                  have hql : (q : Int) < left := by omega
                  have H4 : Hid (Tab wr w.heap.size n s) := H3.out.below HQ.out
                  obtain ⟨b2, off2, rfl, hc2⟩ := (HS3.out.below HQ.out) (by rw [ints_len]; have := HM.out; omega)
                  have ku := hc2 q (by rw [ints_len]; have := HM.out; omega)
                  have HKC : Hid (∀ y, y < left → wr.cell? ⟨b2, off2 + y, none⟩ = some (.int .u32 (((listL n s).getD y 0 : Nat) : Int))) := fun y hy => by rw [hc2 y (by rw [ints_len]; have := HM.out; omega), ints_get]
                  rw [ints_get] at ku
                  have P1 : Hid (placeE s ((listL n s).getD q 0) = 0) := listL_at HT.out.good hn2 (by have := HM.out; omega)
                  have P2 : Hid ((listL n s).getD q 0 ≤ 4294967295) := listL_getw HT.out.good hn2 (by have := HM.out; omega)
                  clear hc2
                  by_cases hq0 : q = 0
                  · have HQ0 : Hid (q = 0) := hq0
                    clear hq0
                    obtain ⟨u, hu⟩ : ∃ u, (listL n s).getD q 0 = u := ⟨_, rfl⟩
                    rw [hu] at ku P1 P2
                    clear hu
                    have e2 : Int.tmod (u : Int) 256 = ((u % 256 : Nat) : Int) := rfl
                    have hu256 : u % 256 < 256 := by omega
                    have P3 : Hid (placeP s u = u % 256) := placeP_yes P1.out
                    generalize u % 256 = ua at *
                    go_wp2_with (first
                      | (go_at_call 9; refine (pl_is H4.out u P2.out P3.out P1.out).mono ?_; rintro e w5 ⟨rfl, hb⟩; have ku5 := (hb.cell (p := ⟨b2, off2 + q, none⟩) (cell_lt ku)).trans ku; have HQ5 : Hid (Below w3.heap.size w3 w5) := HQ.out.trans (hb.mono HQ.out.size); clear hb))
                    have hqd : decide (0 < q) = false := decide_eq_false (by have := HQ0.out; omega)
                    have hwu : IntKind.i64.wrap (ua : Int) = (ua : Int) := by rw [IntKind.wrap_i64]; omega
                    go_quiet ((fail))
                    go_wp2
                    go_roundg g
                    case measure => omega
                    case rel => exact ⟨q + 1, by omega, by go_num, HQ5.out.trans ((below_drewN _ _).mono HQ5.out.size)⟩
                  · obtain ⟨q, rfl⟩ : ∃ r, q = r + 1 := ⟨q - 1, by omega⟩
                    have kv := HKC.out q (by omega)
                    have HRq : Hid ((listL n s).getD q 0 % 256 < (listL n s).getD (q + 1) 0 % 256) := by
                      have hr := HR.out
                      have l1 : q < (listL n s).length := by have := HM.out; omega
                      have l2 : q + 1 < (listL n s).length := by have := HM.out; omega
                      show _ < _
                      rw [show (listL n s).getD q 0 = (listL n s)[q] by simp [l1], show (listL n s).getD (q + 1) 0 = (listL n s)[q + 1] by simp [l2]]
                      exact List.pairwise_iff_getElem.1 hr q (q + 1) l1 l2 (by omega)
                    obtain ⟨u, hu⟩ : ∃ u, (listL n s).getD (q + 1) 0 = u := ⟨_, rfl⟩
                    obtain ⟨v, hv⟩ : ∃ v, (listL n s).getD q 0 = v := ⟨_, rfl⟩
                    rw [hu] at ku P1 P2 HRq
                    rw [hv] at kv HRq
                    clear hu hv
                    have e2 : Int.tmod (u : Int) 256 = ((u % 256 : Nat) : Int) := rfl
                    have e3 : Int.tmod (v : Int) 256 = ((v % 256 : Nat) : Int) := rfl
                    have hu256 : u % 256 < 256 := by omega
                    have hv256 : v % 256 < 256 := by omega
                    have P3 : Hid (placeP s u = u % 256) := placeP_yes P1.out
                    have hge : decide (((u % 256 : Nat) : Int) ≤ ((v % 256 : Nat) : Int)) = false := decide_eq_false (by have := HRq.out; omega)
                    have hge' : ¬ (((u % 256 : Nat) : Int) ≤ ((v % 256 : Nat) : Int)) := by have := HRq.out; omega
                    clear HRq
                    generalize u % 256 = ua at *
                    generalize v % 256 = va at *
                    have hq0 : ((q + 1 : Nat) : Int) - 1 = (q : Int) := by omega
                    have hqp : decide ((0 : Int) < ((q + 1 : Nat) : Int)) = true := decide_eq_true (by omega)
                    have hqq : (q : Int) < left := by omega
                    go_wp2_with (first
                      | (go_at_call 9; refine (pl_is H4.out u P2.out P3.out P1.out).mono ?_; rintro e w5 ⟨rfl, hb⟩; have ku5 := (hb.cell (p := ⟨b2, off2 + (q + 1), none⟩) (cell_lt ku)).trans ku; have kv5 := (hb.cell (p := ⟨b2, off2 + q, none⟩) (cell_lt kv)).trans kv; have HQ5 : Hid (Below w3.heap.size w3 w5) := HQ.out.trans (hb.mono HQ.out.size); clear hb))
                    have hwu : IntKind.i64.wrap (ua : Int) = (ua : Int) := by rw [IntKind.wrap_i64]; omega
                    go_quiet ((fail))
                    go_wp2
                    go_roundg g
                    case measure => omega
                    case rel => exact ⟨q + 1 + 1, by omega, by go_num, HQ5.out.trans ((below_drewN _ _).mono HQ5.out.size)⟩
    · have heq : (o : Int) = n := by omega
      go_enter Try.func5, Try.ntmps5
      go_wp2_with (first
        | (go_at_call 13; refine (nw_is n hn1 hn2).mono ?_; rintro e w0 ⟨rfl, hr, hb⟩; rw [fill_zero] at hr; have H0 : Hid (Tab w0 w.heap.size n (fill 0)) := hr; have HB0 : Hid (Below w.heap.size w w0) := hb; clear hr hb))
      go_loopg [11] n (fun g s11 wx => ∃ i : Nat, i + g = n ∧ s11 = .int .i64 i ∧ Hid (Tab wx w.heap.size n (fill i)) ∧ Hid (tk n (fill i) = i) ∧ Hid (Below w.heap.size w wx))
      case atStart => exact ⟨0, by omega, rfl, H0, tk_none (fun j hj => by rw [fill_out (by omega)]), HB0⟩
      case round =>
        clear H0 HB0
        obtain ⟨i, hig, rfl, HT, HC, HB⟩ := hrel
        cases gk with
        | succ g =>
          have hlt : (i : Int) < n := by omega
          have hin : i < n := by omega
          have M1 : Hid (makeH n (fill i) = 256 + i) := fill_H hin
          have M2 : Hid (makeE n (fill i) = 0) := fill_E hin
          have M3 : Hid (makeS n (fill i) = fill (i + 1)) := fill_S hin
          have M4 : Hid (tk n (fill (i + 1)) = i + 1) := by
            have := make_tk (n := n) (s := fill i) (by rw [fill_fr hin]; exact hin)
            rw [fill_S hin, HC.out] at this; exact this
          have P1 : Hid (placeE (fill (i + 1)) (256 + i) = 0) := one_is (by omega) (fill_in (by omega))
          have P2 : Hid (placeP (fill (i + 1)) (256 + i) = i) := one_P (by omega) (fill_in (by omega))
          go_wp2_with (first
            | (go_at_call 8; refine (mk_is HT.out M1.out M2.out (z := 256 + (i : Int)) (by omega)).mono ?_; rintro e w1 ⟨rfl, hr, hb⟩; rw [M3.out] at hr; have HA1 : Hid (Tab w1 w.heap.size n (fill (i + 1))) := hr; replace HB : Hid (Below w.heap.size w w1) := HB.out.trans (one_below hb (Nat.le_refl _) HB.out.size); clear hr hb)
            | (go_at_call 9; refine (pl_is HA1.out (256 + i) (by omega) P2.out P1.out (x := 256 + (i : Int)) (by omega)).mono ?_; rintro e w2 ⟨rfl, hb⟩; have HA2 : Hid (Tab w2 w.heap.size n (fill (i + 1))) := HA1.out.below hb; replace HB : Hid (Below w.heap.size w w2) := HB.out.trans (hb.mono HB.out.size); clear hb))
          go_roundg g
          case measure => omega
          case rel => exact ⟨i + 1, by omega, by go_num, HA2, M4, HB⟩
        | zero =>
          obtain rfl : n = i := by omega
          have hlt : ¬ ((n : Int) < n) := by omega
          go_wp2
          go_loopg [16, 17] n (fun g s16 s17 wx => ∃ (j left : Nat) (s : Slots), j + g = n ∧ left ≤ j ∧ s16 = .int .i64 left ∧ s17 = .int .i64 j ∧ Hid (Tab wx w.heap.size n s) ∧ Hid (∀ q, j ≤ q → q < n → s q = (1, true)) ∧ Hid (left + n = j + tk n s) ∧ Hid (Below w.heap.size w wx))
          case atStart => exact ⟨0, 0, fill n, by omega, by omega, rfl, rfl, HT, fun q _ hq => fill_in hq, by show _ = _; rw [HC.out], HB⟩
          case round =>
            clear HT HC HB
            obtain ⟨j, left, s, hjg, hlj, rfl, rfl, HT, HJ, HC, HB⟩ := hrel
            cases gk with
            | succ g =>
              have hlt : (j : Int) < n := by omega
              have e1 : Int.tmod (j : Int) 64 = ((j % 64 : Nat) : Int) := rfl
              have hj64 : j % 64 < 64 := by omega
              have HO : Hid (s j = (1, true)) := HJ.out j (Nat.le_refl _) (by omega)
              have P1 : Hid (placeE s (256 + j) = 0) := one_is (by omega) HO.out
              generalize j % 64 = jm at *
              go_wp2_with (first
                | (go_at_call 10; refine (dr_is HT.out (256 + j) (by omega) P1.out (x := 256 + (j : Int)) (by omega)).mono ?_; rintro e w1 ⟨rfl, hr, hb⟩; have HA1 : Hid (Tab w1 w.heap.size n (dropS s (256 + j))) := hr; have HB1 : Hid (Below w.heap.size w w1) := HB.out.trans (one_below hb (Nat.le_refl _) HB.out.size); clear hr hb))
              · go_roundg g
                case measure => omega
                case rel => exact ⟨j + 1, left + 1, s, by omega, by omega, by go_num, by go_num, HT, fun q hq1 hq2 => HJ.out q (by omega) hq2, by have := HC.out; show _ = _; omega, HB⟩
              · go_roundg g
                case measure => omega
                case rel => exact ⟨j + 1, left, _, by omega, by omega, rfl, by go_num, HA1, fun q hq1 hq2 => by rw [drop_ne (by omega)]; exact HJ.out q (by omega) hq2, by have := drop_tk HT.out.good P1.out; have h2 := HC.out; show _ = _; omega, HB1⟩
            | zero =>
              obtain rfl : n = j := by omega
              have hlt : ¬ ((n : Int) < n) := by omega
              have HM : Hid ((listL n s).length = left) := by have := HC.out; unfold tk at this; show _ = _; omega
              have HR : Hid ((listL n s).Pairwise (fun x y => x % 256 < y % 256)) := listL_rise hn2
              obtain ⟨wo, rfl⟩ : ∃ wo, wo = wr := ⟨wr, rfl⟩
              go_wp2_with (first
                | (go_at_call 11; refine (told_is HT.out HM.out).mono ?_; rintro e w3 ⟨tp, tc, rfl, ht3, hb⟩; have HS3 : Hid (Src w3 tp (ints (listL n s))) := ht3.at; have H3 : Hid (Tab w3 w.heap.size n s) := HT.out.below hb; have HB3 : Hid (Below w.heap.size w w3) := HB.out.trans (hb.mono HB.out.size); clear ht3 hb))
              go_loopg [19] left (fun g s19 wx => ∃ q : Nat, q + g = left ∧ s19 = .int .i64 q ∧ Hid (Below w3.heap.size w3 wx))
              case atStart => exact ⟨0, by omega, rfl, Below.refl _ _⟩
              case round =>
                obtain ⟨q, hqg, rfl, HQ⟩ := hrel
                have HB4 : Hid (Below w.heap.size w wr) := HB3.out.trans (HQ.out.mono HB3.out.size)
                cases gk with
                | zero =>
                  have hql : ¬ ((q : Int) < left) := by omega
                  go_wp2_with (first
                    | (go_at_call 12; refine (alive_any _).mono ?_; rintro e w5 ⟨rfl, hb⟩; have HB5 : Hid (Below w.heap.size w w5) := HB4.out.trans (hb.mono HB4.out.size); clear hb))
                  go_ret
                  exact ⟨rfl, HB5.out⟩
                | succ g =>
                  have hql : (q : Int) < left := by omega
                  have H4 : Hid (Tab wr w.heap.size n s) := H3.out.below HQ.out
                  obtain ⟨b2, off2, rfl, hc2⟩ := (HS3.out.below HQ.out) (by rw [ints_len]; have := HM.out; omega)
                  have ku := hc2 q (by rw [ints_len]; have := HM.out; omega)
                  have HKC : Hid (∀ y, y < left → wr.cell? ⟨b2, off2 + y, none⟩ = some (.int .u32 (((listL n s).getD y 0 : Nat) : Int))) := fun y hy => by rw [hc2 y (by rw [ints_len]; have := HM.out; omega), ints_get]
                  rw [ints_get] at ku
                  have P1 : Hid (placeE s ((listL n s).getD q 0) = 0) := listL_at HT.out.good hn2 (by have := HM.out; omega)
                  have P2 : Hid ((listL n s).getD q 0 ≤ 4294967295) := listL_getw HT.out.good hn2 (by have := HM.out; omega)
                  clear hc2
                  by_cases hq0 : q = 0
                  · have HQ0 : Hid (q = 0) := hq0
                    clear hq0
                    obtain ⟨u, hu⟩ : ∃ u, (listL n s).getD q 0 = u := ⟨_, rfl⟩
                    rw [hu] at ku P1 P2
                    clear hu
                    have e2 : Int.tmod (u : Int) 256 = ((u % 256 : Nat) : Int) := rfl
                    have hu256 : u % 256 < 256 := by omega
                    have P3 : Hid (placeP s u = u % 256) := placeP_yes P1.out
                    generalize u % 256 = ua at *
                    go_wp2_with (first
                      | (go_at_call 9; refine (pl_is H4.out u P2.out P3.out P1.out).mono ?_; rintro e w5 ⟨rfl, hb⟩; have ku5 := (hb.cell (p := ⟨b2, off2 + q, none⟩) (cell_lt ku)).trans ku; have HQ5 : Hid (Below w3.heap.size w3 w5) := HQ.out.trans (hb.mono HQ.out.size); clear hb))
                    have hqd : decide (0 < q) = false := decide_eq_false (by have := HQ0.out; omega)
                    have hwu : IntKind.i64.wrap (ua : Int) = (ua : Int) := by rw [IntKind.wrap_i64]; omega
                    go_quiet ((fail))
                    go_wp2
                    go_roundg g
                    case measure => omega
                    case rel => exact ⟨q + 1, by omega, by go_num, HQ5.out.trans ((below_drewN _ _).mono HQ5.out.size)⟩
                  · obtain ⟨q, rfl⟩ : ∃ r, q = r + 1 := ⟨q - 1, by omega⟩
                    have kv := HKC.out q (by omega)
                    have HRq : Hid ((listL n s).getD q 0 % 256 < (listL n s).getD (q + 1) 0 % 256) := by
                      have hr := HR.out
                      have l1 : q < (listL n s).length := by have := HM.out; omega
                      have l2 : q + 1 < (listL n s).length := by have := HM.out; omega
                      show _ < _
                      rw [show (listL n s).getD q 0 = (listL n s)[q] by simp [l1], show (listL n s).getD (q + 1) 0 = (listL n s)[q + 1] by simp [l2]]
                      exact List.pairwise_iff_getElem.1 hr q (q + 1) l1 l2 (by omega)
                    obtain ⟨u, hu⟩ : ∃ u, (listL n s).getD (q + 1) 0 = u := ⟨_, rfl⟩
                    obtain ⟨v, hv⟩ : ∃ v, (listL n s).getD q 0 = v := ⟨_, rfl⟩
                    rw [hu] at ku P1 P2 HRq
                    rw [hv] at kv HRq
                    clear hu hv
                    have e2 : Int.tmod (u : Int) 256 = ((u % 256 : Nat) : Int) := rfl
                    have e3 : Int.tmod (v : Int) 256 = ((v % 256 : Nat) : Int) := rfl
                    have hu256 : u % 256 < 256 := by omega
                    have hv256 : v % 256 < 256 := by omega
                    have P3 : Hid (placeP s u = u % 256) := placeP_yes P1.out
                    have hge : decide (((u % 256 : Nat) : Int) ≤ ((v % 256 : Nat) : Int)) = false := decide_eq_false (by have := HRq.out; omega)
                    have hge' : ¬ (((u % 256 : Nat) : Int) ≤ ((v % 256 : Nat) : Int)) := by have := HRq.out; omega
                    clear HRq
                    generalize u % 256 = ua at *
                    generalize v % 256 = va at *
                    have hq0 : ((q + 1 : Nat) : Int) - 1 = (q : Int) := by omega
                    have hqp : decide ((0 : Int) < ((q + 1 : Nat) : Int)) = true := decide_eq_true (by omega)
                    have hqq : (q : Int) < left := by omega
                    go_wp2_with (first
                      | (go_at_call 9; refine (pl_is H4.out u P2.out P3.out P1.out).mono ?_; rintro e w5 ⟨rfl, hb⟩; have ku5 := (hb.cell (p := ⟨b2, off2 + (q + 1), none⟩) (cell_lt ku)).trans ku; have kv5 := (hb.cell (p := ⟨b2, off2 + q, none⟩) (cell_lt kv)).trans kv; have HQ5 : Hid (Below w3.heap.size w3 w5) := HQ.out.trans (hb.mono HQ.out.size); clear hb))
                    have hwu : IntKind.i64.wrap (ua : Int) = (ua : Int) := by rw [IntKind.wrap_i64]; omega
                    go_quiet ((fail))
                    go_wp2
                    go_roundg g
                    case measure => omega
                    case rel => exact ⟨q + 1 + 1, by omega, by go_num, HQ5.out.trans ((below_drewN _ _).mono HQ5.out.size)⟩
end Go.Proofs.Ytkogmmldkpepaaa
