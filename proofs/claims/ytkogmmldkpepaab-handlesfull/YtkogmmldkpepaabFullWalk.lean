/- 'HandlesFull' walked: as many handles are made as there are places; the next one has the least place that is free. -/
import Derived.Test.YtkogmmldkpepaabSeen
namespace Go.Proofs.Ytkogmmldkpepaab
open Go Go.RowKit
set_option maxRecDepth 100000
set_option linter.unusedVariables false
/-- the first places have their first handles -/
def fill (k : Nat) : Slots := fun j => if j < k then (1, true) else (0, false)
theorem fill_in {k j : Nat} (h : j < k) : fill k j = (1, true) := if_pos h
theorem fill_out {k j : Nat} (h : ¬ j < k) : fill k j = (0, false) := if_neg h
theorem fill_zero : none0 = fill 0 := by funext j; rw [fill_out (by omega)]; rfl
theorem fill_fr {n k : Nat} (h : k < n) : fr n (fill k) = k := fr_is (by omega) (fun j hj => by rw [fill_in hj]; rfl) (fun _ => by rw [fill_out (by omega)]; rfl)
theorem fill_H {n k : Nat} (h : k < n) : makeH n (fill k) = 256 + k := by
  unfold makeH; rw [fill_fr h, if_pos h, fill_out (by omega)]; show (0 + 1) * 256 + k = 256 + k; omega
theorem fill_E {n k : Nat} (h : k < n) : makeE n (fill k) = 0 := by unfold makeE; rw [fill_fr h, if_pos h]
theorem fill_S {n k : Nat} (h : k < n) : makeS n (fill k) = fill (k + 1) := by
  unfold makeS; rw [fill_fr h, if_pos h, fill_out (by omega)]
  funext j
  by_cases e : j = k
  · subst e; rw [upd_at, fill_in (by omega)]
  · rw [upd_ne _ _ e]
    by_cases e2 : j < k
    · rw [fill_in e2, fill_in (by omega)]
    · rw [fill_out e2, fill_out (by omega)]
theorem fill_full (n : Nat) : fr n (fill n) = n := fr_is (Nat.le_refl _) (fun j hj => by rw [fill_in hj]; rfl) (fun h => by omega)
theorem fill_young (n : Nat) : Young 1 (fill n) := fun i => by
  by_cases h : i < n
  · rw [fill_in h]; exact Nat.le_refl _
  · rw [fill_out h]; exact Nat.zero_le _
/-- where a handle is dropped, the least place that is free is that one's, or the one that was -/
theorem drop_fr {n : Nat} {s : Slots} {h : Nat} (g : Good n s) (hy : Young 1 s) (hp : placeE s h = 0) : fr n s ≠ h % 256 ∧ fr n (dropS s h) = min (fr n s) (h % 256) := by
  have hk := g.lt hp
  have ht := (placeE_ok hp).2.2
  have hno : isFr (s (h % 256)) = false := by rw [young_fr hy (by decide), ht]; rfl
  have hne : fr n s ≠ h % 256 := fun e => by
    have := fr_yes (n := n) (s := s) (by omega)
    rw [e, hno] at this; cases this
  refine ⟨hne, ?_⟩
  have e : dropS s h = upd s (h % 256) ((s (h % 256)).1, false) := if_pos hp
  have hle := fr_le n s
  have hat : isFr (upd s (h % 256) ((s (h % 256)).1, false) (h % 256)) = true := by rw [upd_at]; have := hy (h % 256); simp [isFr]; omega
  rw [e]
  refine fr_is (by omega) (fun j hj => ?_) (fun hlt => ?_)
  · rw [upd_ne _ _ (by omega)]
    exact fr_low (n := n) (by omega)
  · by_cases q : fr n s < h % 256
    · rw [show min (fr n s) (h % 256) = fr n s by omega, upd_ne _ _ hne]
      exact fr_yes (by omega)
    · rw [show min (fr n s) (h % 256) = h % 256 by omega]
      exact hat
theorem makeH_le {n : Nat} {s : Slots} (hn : n ≤ 256) (hf : fr n s < n) : makeH n s ≤ 4294967295 := by
  have := (isFr_not (fr_yes hf)).2
  unfold makeH; rw [if_pos hf]; omega
theorem makeH_place {n : Nat} {s : Slots} (hn : n ≤ 256) (hf : fr n s < n) : makeH n s % 256 = fr n s := by
  unfold makeH; rw [if_pos hf]; omega
set_option maxHeartbeats 8000000 in
theorem full_any {w : World} {sp : Option Addr} {zs : List Int} (most : Int) (hmost : 0 ≤ most ∧ most ≤ 255) (hs : BSrc w.heap.size w sp zs) (hl : zs.length ≤ maxLen) (cap : Nat) :
    Calls Try.prog 3 #[.int .u8 most, .slice sp zs.length cap] w fun e w' => e = .returned (.bool true) ∧ Below w.heap.size w w' := by
  obtain ⟨t, rfl⟩ := Int.eq_ofNat_of_zero_le hmost.1
  have e1 : Int.tmod (t : Int) 40 = ((t % 40 : Nat) : Int) := rfl
  have ht40 : t % 40 < 40 := by omega
  obtain ⟨n, hn⟩ : ∃ n, 1 + t % 40 = n := ⟨_, rfl⟩
  have hNI : (1 : Int) + ((t % 40 : Nat) : Int) = (n : Int) := by omega
  have hn1 : 1 ≤ n := by omega
  have hn2 : n ≤ 40 := by omega
  have ht : t ≤ 255 := by omega
  clear hn hmost
  generalize t % 40 = tm at *
  unfold maxLen at hl
  obtain ⟨m, hm⟩ : ∃ m, zs.length = m := ⟨_, rfl⟩
  have HZ : Hid (zs.length = m) := hm
  have HS : Hid (BSrc w.heap.size w sp zs) := hs
  rw [hm] at hl ⊢
  clear hs hm
  by_cases hbig : 50 < m
  · go_enter Try.func3, Try.ntmps3
    go_wp2_with (first
      | (go_at_call 5; have HM := hA1; refine (alive_any _).mono ?_; rintro e w2 ⟨rfl, hb⟩; have hB2 : Below w.heap.size w w2 := hA1.trans (hb.mono hA1.size); clear hb)
      | (go_at_call 5; refine (alive_any _).mono ?_; rintro e w1 ⟨rfl, hA1⟩))
    go_ret
    exact ⟨rfl, hB2⟩
  · go_enter Try.func3, Try.ntmps3
    go_wp2_with (first
      | (go_at_call 5; refine (alive_any _).mono ?_; rintro e w1 ⟨rfl, hb⟩; have HA : Hid (Below w.heap.size w w1) := hb; clear hb)
      | (go_at_call 6; refine (nw_is n hn1 (by omega)).mono ?_; rintro e w2 ⟨rfl, hr, hb⟩; rw [fill_zero] at hr; have H2 : Hid (Tab w2 w1.heap.size n (fill 0)) := hr; have HB : Hid (Below w.heap.size w w2) := HA.out.trans (hb.mono HA.out.size); have hp : w.heap.size ≤ w1.heap.size := HA.out.size; clear hr hb))
    generalize w1.heap.size = p at *
    go_loopg [8] n (fun g s8 wx => ∃ i : Nat, i + g = n ∧ s8 = .int .i64 i ∧ Hid (Tab wx p n (fill i)) ∧ Hid (Below w.heap.size w wx))
    case atStart => exact ⟨0, by omega, rfl, H2, HB⟩
    case round =>
      clear H2 HB HA
      obtain ⟨i, hig, rfl, HT, HB⟩ := hrel
      cases gk with
      | succ g =>
        have hlt : (i : Int) < n := by omega
        have hin : i < n := by omega
        have M2 : Hid (makeE n (fill i) = 0) := fill_E hin
        have M3 : Hid (makeS n (fill i) = fill (i + 1)) := fill_S hin
        go_wp2_with (first
          | (go_at_call 7; refine (mk_is HT.out rfl M2.out).mono ?_; rintro e w3 ⟨rfl, hr, hb⟩; rw [M3.out] at hr; have H3 : Hid (Tab w3 p n (fill (i + 1))) := hr; have HB3 : Hid (Below w.heap.size w w3) := HB.out.trans (one_below hb hp HB.out.size); clear hr hb))
        go_roundg g
        case measure => omega
        case rel => exact ⟨i + 1, by omega, by go_num, H3, HB3⟩
      | zero =>
        obtain rfl : n = i := by omega
        have hlt : ¬ ((n : Int) < n) := by omega
        go_wp2
        go_loopg [11, 12] m (fun g s11 s12 wx => ∃ (i F : Nat) (s : Slots), i + g = m ∧ s11 = .int .i64 F ∧ s12 = .int .i64 i ∧ Hid (fr n s = F) ∧ Hid (Young 1 s) ∧ Hid (Tab wx p n s) ∧ Hid (Below w.heap.size w wx))
        case atStart => exact ⟨0, n, fill n, by omega, rfl, rfl, fill_full n, fill_young n, HT, HB⟩
        case round =>
          clear HT HB
          obtain ⟨i, F, s, hig2, rfl, rfl, HF, HY, HT, HB⟩ := hrel
          have hFn : F ≤ n := by rw [← HF.out]; exact fr_le n s
          cases gk with
          | zero =>
            have hlm : ¬ ((i : Int) < m) := by omega
            by_cases qf : F = n
            · have hf : ¬ fr n s < n := by rw [HF.out]; omega
              have hFI : ((F : Int) == (n : Int)) = true := by simp; omega
              have M1 : Hid (makeH n s = 0) := if_neg hf
              have M2 : Hid (makeE n s = 3) := if_neg hf
              have M3 : Hid (makeS n s = s) := if_neg hf
              have HC2 : Hid ((listL n s).length = n) := full_tk HY.out (by decide) hf
              clear hf qf
              go_wp2_with (first
                | (go_at_call 7; refine (mk_is HT.out M1.out M2.out).mono ?_; rintro e w5 ⟨rfl, hr, hb⟩; rw [M3.out] at hr; have H5 : Hid (Tab w5 p n s) := hr; have HB5 : Hid (Below w.heap.size w w5) := HB.out.trans (one_below hb hp HB.out.size); clear hr hb HT)
                | (go_at_call 8; refine (told_is H5.out HC2.out).mono ?_; rintro e w6 ⟨tp6, tc6, rfl, ht6, hb⟩; have HB6 : Hid (Below w.heap.size w w6) := HB5.out.trans (hb.mono HB5.out.size); clear ht6 hb))
              go_ret
              exact ⟨rfl, HB6.out⟩
            · have hf : fr n s < n := by rw [HF.out]; omega
              have hFI : ((F : Int) == (n : Int)) = false := by simp; omega
              have M2 : Hid (makeE n s = 0) := if_pos hf
              have hxp := makeH_place (n := n) (s := s) (by omega) hf
              have hxw := makeH_le (n := n) (s := s) (by omega) hf
              rw [HF.out] at hxp
              obtain ⟨x, hx⟩ : ∃ x, makeH n s = x := ⟨_, rfl⟩
              have M1 : Hid (makeH n s = x) := hx
              rw [hx] at hxp hxw
              have e5 : Int.tmod (x : Int) 256 = (F : Int) := by rw [← hxp]; rfl
              clear hf qf hxp hx
              go_wp2_with (first
                | (go_at_call 7; refine (mk_is HT.out M1.out M2.out).mono ?_; rintro e w5 ⟨rfl, hr, hb⟩; have HB5 : Hid (Below w.heap.size w w5) := HB.out.trans (one_below hb hp HB.out.size); clear hr hb HT))
              go_ret
              exact ⟨rfl, HB5.out⟩
          | succ g =>
            have hlm : (i : Int) < m := by omega
            obtain ⟨b, off, rfl, hbl, hc⟩ := (HS.out.below HB.out).spot (by have := HZ.out; omega)
            have HC : Hid (∀ wx, Below w.heap.size wr wx → wx.cell? ⟨b, off + i, none⟩ = some (.int .u8 (zs.getD i 0))) := fun wx hx => (hx.cell (p := ⟨b, off + i, none⟩) hbl).trans (hc i (by have := HZ.out; omega))
            have hzb := HS.out.at i
            obtain ⟨z, hz⟩ := Int.eq_ofNat_of_zero_le hzb.1
            rw [hz] at hzb HC
            clear hc hz
            obtain ⟨l, hlq⟩ : ∃ l, (listL n s).length = l := ⟨_, rfl⟩
            have hl40 : l ≤ 40 := by have := listL_few (n := n) (s := s); omega
            have HL : Hid ((listL n s).length = l) := hlq
            clear hlq
            by_cases ql : l = 0
            · have hl0 : ((l : Int) == 0) = true := by simp; omega
              clear ql
              by_cases qf : F = n
              · have hf : ¬ fr n s < n := by rw [HF.out]; omega
                have hFI : ((F : Int) == (n : Int)) = true := by simp; omega
                have M1 : Hid (makeH n s = 0) := if_neg hf
                have M2 : Hid (makeE n s = 3) := if_neg hf
                have M3 : Hid (makeS n s = s) := if_neg hf
                have HC2 : Hid ((listL n s).length = n) := full_tk HY.out (by decide) hf
                clear hf qf
                go_wp2_with (first
                  | (go_at_call 8; refine (told_is HT.out HL.out).mono ?_; rintro e w3 ⟨tp, tc, rfl, ht3, hb⟩; have H3 : Hid (Tab w3 p n s) := HT.out.below hb; have HB3 : Hid (Below w.heap.size w w3) := HB.out.trans (hb.mono HB.out.size); clear ht3 hb HT)
                  | (go_at_call 7; refine (mk_is H3.out M1.out M2.out).mono ?_; rintro e w5 ⟨rfl, hr, hb⟩; rw [M3.out] at hr; have H5 : Hid (Tab w5 p n s) := hr; have HB5 : Hid (Below w.heap.size w w5) := HB3.out.trans (one_below hb hp HB3.out.size); clear hr hb H3)
                  | (go_at_call 8; refine (told_is H5.out HC2.out).mono ?_; rintro e w6 ⟨tp6, tc6, rfl, ht6, hb⟩; have HB6 : Hid (Below w.heap.size w w6) := HB5.out.trans (hb.mono HB5.out.size); clear ht6 hb))
                go_ret
                exact ⟨rfl, HB6.out⟩
              · have hf : fr n s < n := by rw [HF.out]; omega
                have hFI : ((F : Int) == (n : Int)) = false := by simp; omega
                have M2 : Hid (makeE n s = 0) := if_pos hf
                have hxp := makeH_place (n := n) (s := s) (by omega) hf
                have hxw := makeH_le (n := n) (s := s) (by omega) hf
                rw [HF.out] at hxp
                obtain ⟨x, hx⟩ : ∃ x, makeH n s = x := ⟨_, rfl⟩
                have M1 : Hid (makeH n s = x) := hx
                rw [hx] at hxp hxw
                have e5 : Int.tmod (x : Int) 256 = (F : Int) := by rw [← hxp]; rfl
                clear hf qf hxp hx
                go_wp2_with (first
                  | (go_at_call 8; refine (told_is HT.out HL.out).mono ?_; rintro e w3 ⟨tp, tc, rfl, ht3, hb⟩; have H3 : Hid (Tab w3 p n s) := HT.out.below hb; have HB3 : Hid (Below w.heap.size w w3) := HB.out.trans (hb.mono HB.out.size); clear ht3 hb HT)
                  | (go_at_call 7; refine (mk_is H3.out M1.out M2.out).mono ?_; rintro e w5 ⟨rfl, hr, hb⟩; have HB5 : Hid (Below w.heap.size w w5) := HB3.out.trans (one_below hb hp HB3.out.size); clear hr hb H3))
                go_ret
                exact ⟨rfl, HB5.out⟩
            · have hl0 : ((l : Int) == 0) = false := by simp; omega
              have e3 : Int.tmod (z : Int) (l : Int) = ((z % l : Nat) : Int) := rfl
              have hj : z % l < l := Nat.mod_lt _ (by omega)
              have hjI : ((z % l : Nat) : Int) < l := by omega
              clear ql
              generalize z % l = j at *
              have P1 : Hid (placeE s ((listL n s).getD j 0) = 0) := listL_at HT.out.good (by omega) (by have := HL.out; omega)
              have P2 : Hid ((listL n s).getD j 0 ≤ 4294967295) := listL_getw HT.out.good (by omega) (by have := HL.out; omega)
              obtain ⟨x, hx⟩ : ∃ x, (listL n s).getD j 0 = x := ⟨_, rfl⟩
              have HX : Hid ((listL n s).getD j 0 = x) := hx
              rw [hx] at P1 P2
              clear hx
              have e4 : Int.tmod (x : Int) 256 = ((x % 256 : Nat) : Int) := rfl
              have hx256 : x % 256 < 256 := by omega
              obtain ⟨hd1, hd2⟩ := drop_fr HT.out.good HY.out P1.out
              rw [HF.out] at hd1 hd2
              have HD : Hid (fr n (dropS s x) = min F (x % 256)) := hd2
              have HY2 : Hid (Young 1 (dropS s x)) := HY.out.drop x
              clear hd2
              generalize x % 256 = k at *
              by_cases qk : F < k
              · have qkI : (F : Int) < k := by omega
                have HD2 : Hid (fr n (dropS s x) = F) := by show _ = _; rw [HD.out]; omega
                clear hd1 qk
                go_wp2_with (first
                  | (go_at_call 8; refine (told_is HT.out HL.out).mono ?_; rintro e w3 ⟨tp, tc, rfl, ht3, hb⟩; have H3 : Hid (Tab w3 p n s) := HT.out.below hb; have HB3 : Hid (Below w.heap.size w w3) := HB.out.trans (hb.mono HB.out.size); have hz3 := HC.out w3 (hb.mono HB.out.size); obtain ⟨b2, off2, rfl, hc2⟩ := ht3.at (by rw [ints_len]; have := HL.out; omega); have ku := hc2 j (by rw [ints_len]; have := HL.out; omega); rw [ints_get, HX.out] at ku; clear hc2 ht3 hb)
                  | (go_at_call 9; refine (dr_is H3.out x P2.out P1.out).mono ?_; rintro e w4 ⟨rfl, hr, hb⟩; have H4 : Hid (Tab w4 p n (dropS s x)) := hr; have HB4 : Hid (Below w.heap.size w w4) := HB3.out.trans (one_below hb hp HB3.out.size); clear hr hb))
                go_roundg g
                case measure => omega
                case rel => exact ⟨i + 1, F, _, by omega, rfl, by go_num, HD2, HY2, H4, HB4⟩
              · have qkI : (k : Int) < F := by omega
                have HD2 : Hid (fr n (dropS s x) = k) := by show _ = _; rw [HD.out]; omega
                clear hd1 qk
                go_wp2_with (first
                  | (go_at_call 8; refine (told_is HT.out HL.out).mono ?_; rintro e w3 ⟨tp, tc, rfl, ht3, hb⟩; have H3 : Hid (Tab w3 p n s) := HT.out.below hb; have HB3 : Hid (Below w.heap.size w w3) := HB.out.trans (hb.mono HB.out.size); have hz3 := HC.out w3 (hb.mono HB.out.size); obtain ⟨b2, off2, rfl, hc2⟩ := ht3.at (by rw [ints_len]; have := HL.out; omega); have ku := hc2 j (by rw [ints_len]; have := HL.out; omega); rw [ints_get, HX.out] at ku; clear hc2 ht3 hb)
                  | (go_at_call 9; refine (dr_is H3.out x P2.out P1.out).mono ?_; rintro e w4 ⟨rfl, hr, hb⟩; have H4 : Hid (Tab w4 p n (dropS s x)) := hr; have HB4 : Hid (Below w.heap.size w w4) := HB3.out.trans (one_below hb hp HB3.out.size); clear hr hb))
                go_roundg g
                case measure => omega
                case rel => exact ⟨i + 1, k, _, by omega, rfl, by go_num, HD2, HY2, H4, HB4⟩
end Go.Proofs.Ytkogmmldkpepaab
