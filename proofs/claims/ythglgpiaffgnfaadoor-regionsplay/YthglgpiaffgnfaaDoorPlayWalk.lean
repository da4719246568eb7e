/- 'RegionsPlay' walked: whatever is done with a region, each answer is the documented one. -/
import Derived.Test.YthglgpiaffgnfaaDoorPlayEnd
namespace Go.Proofs.YthglgpiaffgnfaaDoor
open Go Go.RowKit
set_option maxRecDepth 100000
set_option linter.unusedVariables false
set_option maxHeartbeats 4000000 in
theorem play_any {w : World} {sp sa : Option Addr} {zs : List Int} {acts : List (Int × Int × Int)} (hs : Src w.heap.size w sp zs) (hm : zs.length ≤ maxLen) (c : Nat) (ha : Acts w.heap.size w sa acts) (hma : acts.length ≤ maxLen) (ca : Nat) (size : Int) (hsz : -9223372036854775808 ≤ size ∧ size ≤ 9223372036854775807) :
    Calls Tryd.prog 3 #[.int .i64 size, .slice sp zs.length c, .slice sa acts.length ca] w fun e w' => e = .returned (.bool true) ∧ Below w.heap.size w w' := by
  unfold maxLen at hm hma
  obtain ⟨n, hn⟩ : ∃ n, zs.length = n := ⟨_, rfl⟩
  obtain ⟨m, hm'⟩ : ∃ m, acts.length = m := ⟨_, rfl⟩
  rw [hn] at hm ⊢
  rw [hm'] at hma ⊢
  have HN : Hid (zs.length = n) := hn
  have HM : Hid (acts.length = m) := hm'
  clear hn hm'
  have hB : Below w.heap.size w w := Below.refl _ _
  have HA : Hid (Acts w.heap.size w sa acts) := ha
  have HS : Hid (Src w.heap.size w sp zs) := hs
  clear ha
  have hz := hs.wf
  by_cases h1 : n ≤ 10000
  · by_cases h2 : m ≤ 200
    · by_cases hok : 0 ≤ size ∧ size ≤ 4096 ∧ (n : Int) ≤ size
      · obtain ⟨s, rfl⟩ := Int.eq_ofNat_of_zero_le hok.1
        have hs4 : s ≤ 4096 := by omega
        have hns : n ≤ s := by omega
        have HL : Hid ((zs ++ List.replicate (s - n) 0).length = s) := by show _ = _; simp [HN.out]; omega
        go_enter Tryd.func3, Tryd.ntmps3
        go_wp2_with (first
          | (go_at_call 4; refine (twin_any hs hB.size HN.out (by omega) c).mono ?_; rintro e w2 ⟨rfl, hT, hb2⟩; replace hs := hs.below hb2; replace hB := hB.trans hb2; clear hb2)
          | (go_at_call 5; refine (new_size (Src.pre hT hz) (Nat.le_refl _) HN.out hs4 hns _).mono ?_; rintro e w3 ⟨p, g, rfl, hR, hb3, hg, hp⟩; have hTg := Nat.lt_of_lt_of_le hT.lt hg; replace hT : Row w3 _ _ := (hb3.block _ hT.lt).trans hT; replace hs := hs.below (hb3.mono hB.size); replace hB := hB.trans (hb3.mono hB.size); clear hb3 hg)
          | (go_at_call 6; refine (rnew_yes hs hB.size HN.out c s hs4 hns).mono ?_; rintro e w4 ⟨q, h, rfl, hQ, hb4, hh, hq⟩; have hph := Nat.lt_of_lt_of_le (at_lt hR.head) hh; have H2 : Two w w4 w.heap.size p g q h s zs _ _ := (⟨hR.below hb4, hQ, (hb4.block _ hT.lt).trans hT, hB.trans (hb4.mono hB.size), HL.out, HL.out, Nat.le_refl _, hTg, hp, hph, hq⟩ : Two w w4 w.heap.size p g q h s zs _ _); replace hs := hs.below (hb4.mono hB.size); clear hT hR hQ hb4 hB)
          | (go_at_call 7; refine (left_yes hs H2.tw HN.out (by omega) c).mono ?_; rintro e w5 ⟨rfl, hb5⟩; replace hs := hs.below (hb5.mono H2.bel.size); replace H2 := H2.below hb5; clear hb5))
        have T0 : Hid (Two w w5 w.heap.size p g q h s zs _ _) := H2
        clear H2 hs
        go_loopg [12] m (fun gk s12 wx => ∃ (i : Nat) (ys : List Int), i + gk = m ∧ s12 = .int .i64 i ∧ Hid (Two w wx w.heap.size p g q h s zs ys ys))
        case atStart => exact ⟨0, _, by omega, rfl, T0⟩
        case round =>
          clear T0
          obtain ⟨i, ys, hig, rfl, HT⟩ := hrel
          cases gk with
          | zero =>
            obtain rfl : i = m := by omega
            have hlt : ¬ ((i : Int) < i) := by omega
            have hwf := HT.out.reg.wf
            have HY : Hid (ys.length = s) := HT.out.l1
            go_wp2_with (first
              | (go_at_call 16; refine (bytes_len HT2.out.reg HY.out).mono ?_; rintro e w9 ⟨rfl, hc9, hd9⟩; have oc := hb8.lt; have HT3 : Hid (Two w w9 w.heap.size p g q h s zs ys ys) := HT2.out.below hd9; have Hb : Hid (Row w9 bB ys) := (hd9.block _ hb8.lt).trans hb8; clear hb8; generalize w8.heap.size = cB at *; have Hc : Hid (Row w9 cB ys) := hc9; clear hc9 hd9)
              | (go_at_call 16; refine (bytes_len HT.out.reg HY.out).mono ?_; rintro e w8 ⟨rfl, hb8, hd8⟩; have HT2 : Hid (Two w w8 w.heap.size p g q h s zs ys ys) := HT.out.below hd8; have ob := HT.out.tw.lt; generalize wr.heap.size = bB at *; clear hd8)
              | (go_at_call 18; refine (rbytes_any HT3.out.ref HY.out).mono ?_; rintro e w10 ⟨spr, cr, rfl, hsr, hd10⟩; have HT4 : Hid (Two w w10 w.heap.size p g q h s zs ys ys) := HT3.out.below hd10; replace Hb : Hid (Row w10 bB ys) := (hd10.block _ Hb.out.lt).trans Hb.out; replace Hc : Hid (Row w10 cB ys) := (hd10.block _ Hc.out.lt).trans Hc.out; clear hd10)
              | (go_at_call 17; refine (same_len (Src.row (n := 0) Hb.out hwf) hsr HY.out (by omega) _ _).mono ?_; rintro e w11 ⟨rfl, hd11⟩; have HT5 : Hid (Two w w11 w.heap.size p g q h s zs ys ys) := HT4.out.below hd11; replace Hb : Hid (Row w11 bB ys) := (hd11.block _ Hb.out.lt).trans Hb.out; replace Hc : Hid (Row w11 cB ys) := (hd11.block _ Hc.out.lt).trans Hc.out; clear hd11 hsr)
              | (go_at_call 17; refine (same_len (Src.row (n := 0) Hc.out hwf) (Src.row (n := 0) Hb.out hwf) HY.out (by omega) _ _).mono ?_; rintro e w12 ⟨rfl, hd12⟩; have HT6 : Hid (Two w w12 w.heap.size p g q h s zs ys ys) := HT5.out.below hd12; replace Hb : Hid (Row w12 bB ys) := (hd12.block _ Hb.out.lt).trans Hb.out; replace Hc : Hid (Row w12 cB ys) := (hd12.block _ Hc.out.lt).trans Hc.out; clear hd12)
              | (go_at_call 7; refine (left_yes (HS.out.below HT6.out.bel) HT6.out.tw HN.out (by omega) c).mono ?_; rintro e w13 ⟨rfl, hd13⟩; have HT7 : Hid (Two w w13 w.heap.size p g q h s zs ys ys) := HT6.out.below hd13; replace Hb : Hid (Row w13 bB ys) := (hd13.block _ Hb.out.lt).trans Hb.out; replace Hc : Hid (Row w13 cB ys) := (hd13.block _ Hc.out.lt).trans Hc.out; clear hd13)
              | (go_at_call 19; refine (put_any HK2.out (by simp) (by omega) _ _ _).mono ?_; rintro e w16 ⟨rfl, v3, hk3, hu3⟩; have HK3 : Hid (Bk w.heap.size w16 KK 3 v3 [⟨.slice (some ⟨w.heap.size, 0, none⟩) n (n + 1), n, .slice none 0 0, 1⟩, ⟨.slice (some ⟨bB, 0, none⟩) s s, s, .slice none 0 0, 2⟩, ⟨.slice (some ⟨cB, 0, none⟩) s s, s, .slice none 0 0, 3⟩]) := hk3; replace HBl : Hid (Below w.heap.size w w16) := HK2.out.put_below HBl.out hu3; replace Ht : Hid (Row w16 w.heap.size (zs ++ [77])) := Ht.out.put HK2.out hu3; replace Hb : Hid (Row w16 bB ys) := Hb.out.put HK2.out hu3; replace Hc : Hid (Row w16 cB ys) := Hc.out.put HK2.out hu3; clear hk3 hu3)
              | (go_at_call 19; refine (put_any HK1.out (by simp) (by omega) _ _ _).mono ?_; rintro e w15 ⟨rfl, v2, hk2, hu2⟩; have HK2 : Hid (Bk w.heap.size w15 KK 2 v2 [⟨.slice (some ⟨w.heap.size, 0, none⟩) n (n + 1), n, .slice none 0 0, 1⟩, ⟨.slice (some ⟨bB, 0, none⟩) s s, s, .slice none 0 0, 2⟩]) := hk2; replace HBl : Hid (Below w.heap.size w w15) := HK1.out.put_below HBl.out hu2; replace Ht : Hid (Row w15 w.heap.size (zs ++ [77])) := Ht.out.put HK1.out hu2; replace Hb : Hid (Row w15 bB ys) := Hb.out.put HK1.out hu2; replace Hc : Hid (Row w15 cB ys) := Hc.out.put HK1.out hu2; clear hk2 hu2)
              | (go_at_call 19; refine (put_any (Bk.start (B := w.heap.size) HT7.out.bel.size) (by simp) (by omega) _ _ _).mono ?_; rintro e w14 ⟨rfl, v1, hk1, hu1⟩; have hba := alloc_below w13 (.cells (bk 0 (.slice none 0 0)) 52); have hKs := Bk.start (w := w13) (B := w.heap.size) HT7.out.bel.size; have HK1 : Hid (Bk w.heap.size w14 w13.heap.size 1 v1 [⟨.slice (some ⟨w.heap.size, 0, none⟩) n (n + 1), n, .slice none 0 0, 1⟩]) := hk1; have HBl : Hid (Below w.heap.size w w14) := hKs.put_below (HT7.out.bel.trans (hba.mono HT7.out.bel.size)) hu1; have Ht : Hid (Row w14 w.heap.size (zs ++ [77])) := Row.put ((hba.block _ HT7.out.tw.lt).trans HT7.out.tw) hKs hu1; replace Hb : Hid (Row w14 bB ys) := Row.put ((hba.block _ Hb.out.lt).trans Hb.out) hKs hu1; replace Hc : Hid (Row w14 cB ys) := Row.put ((hba.block _ Hc.out.lt).trans Hc.out) hKs hu1; clear hk1 hu1 hba hKs; generalize w13.heap.size = KK at *)
              | (go_at_call 20; refine (apart_yes HK3.out (three Ht.out Hb.out Hc.out (Nat.le_refl _) ob oc HN.out HY.out h1 hs4)).mono ?_; rintro e w17 ⟨rfl, hd17⟩))
            go_ret
            exact ⟨rfl, HBl.out.trans hd17⟩
          | succ g' =>
            have hlt : (i : Int) < m := by omega
            obtain ⟨⟨k, a, v⟩, hx⟩ : ∃ x, acts[i]? = some x := ⟨_, List.getElem?_eq_getElem (by rw [HM.out]; omega)⟩
            obtain ⟨b, off, rfl, hbl, hc⟩ := (HA.out.below HT.out.bel).spot (by rw [HM.out]; omega)
            obtain ⟨y0, y1, y2⟩ := hc i _ hx
            obtain ⟨hk, hka, hv⟩ := HA.out.wf i _ hx
            simp only at y0 y1 y2 hk hka hv
            clear hc hx
            obtain ⟨ka, rfl⟩ := Int.eq_ofNat_of_zero_le hka.1
            have hX := alloc_at wr (.cells #[.int .u8 k, .int .u32 ka, .int .u32 v] 35)
            have hb0 := alloc_below wr (.cells #[.int .u8 k, .int .u32 ka, .int .u32 v] 35)
            have hsz0 := alloc_size wr (.cells #[.int .u8 k, .int .u32 ka, .int .u32 v] 35)
            have H0 : Hid (Two w (wr.alloc (.cells #[.int .u8 k, .int .u32 ka, .int .u32 v] 35)) w.heap.size p g q h s zs ys ys) := HT.out.below hb0
            have hXl : wr.heap.size < (wr.alloc (.cells #[.int .u8 k, .int .u32 ka, .int .u32 v] 35)).heap.size := by omega
            have hXg : wr.heap.size ≠ g := by have := HT.out.reg.row.lt; omega
            clear hb0 hsz0
            have hkm : 0 ≤ k % 4 ∧ k % 4 < 4 := by omega
            by_cases k0 : k % 4 = 0
            · by_cases hin : ka + 4 ≤ s
              · go_wp2_with (first
                  | (go_at_call 8; refine (setWord_yes H0.out.reg ka (by rw [H0.out.l1]; omega) v hv).mono ?_; rintro e w6 ⟨rfl, hr6, hb6⟩; have H6 : Hid (Two w w6 w.heap.size p g q h s zs (Go.splice ys ka (bs4 v)) ys) := H0.out.setReg hb6 hr6 (by rw [length_splice _ _ _ (by show ka + 4 ≤ _; rw [H0.out.l1]; omega)]; exact H0.out.l1); have hX6 := (hb6.block wr.heap.size hXl hXg).trans hX; have x1 : w6.cell? ⟨wr.heap.size, 1, none⟩ = some (.int .u32 ka) := (by rw [cell_of hX6]; rfl); have x2 : w6.cell? ⟨wr.heap.size, 2, none⟩ = some (.int .u32 v) := (by rw [cell_of hX6]; rfl); clear hX6)
                  | (go_at_call 9; refine (rsetWord_yes H6.out.ref ka (by rw [H0.out.l1]; omega) v hv).mono ?_; rintro e w7 ⟨rfl, hr7, hb7⟩; have H7 : Hid (Two w w7 w.heap.size p g q h s zs (Go.splice ys ka (bs4 v)) (Go.splice ys ka (bs4 v))) := H6.out.setRef hb7 hr7 (by rw [length_splice _ _ _ (by show ka + 4 ≤ _; rw [H0.out.l1]; omega)]; exact H0.out.l1)))
                go_roundg g'
                case measure => omega
                case rel => exact ⟨i + 1, Go.splice ys ka (bs4 v), by omega, by go_num, H7⟩
              · go_wp2_with (first
                  | (go_at_call 8; refine (setWord_no H0.out.reg ka hka (by rw [H0.out.l1]; omega) v).mono ?_; rintro e wx ⟨rfl, rfl⟩)
                  | (go_at_call 9; refine (rsetWord_no H0.out.ref ka hka (by rw [H0.out.l1]; omega) v).mono ?_; rintro e wx ⟨rfl, rfl⟩))
                go_roundg g'
                case measure => omega
                case rel => exact ⟨i + 1, ys, by omega, by go_num, H0⟩
            · by_cases k1 : k % 4 = 1
              · by_cases hin : ka < s
                · go_wp2_with (first
                    | (go_at_call 10; refine (setByte_yes H0.out.reg ka (by rw [H0.out.l1]; omega) (v % 256) (by omega)).mono ?_; rintro e w6 ⟨rfl, hr6, hb6⟩; have H6 : Hid (Two w w6 w.heap.size p g q h s zs (ys.set ka (v % 256)) ys) := H0.out.setReg hb6 hr6 (by rw [List.length_set]; exact H0.out.l1); have hX6 := (hb6.block wr.heap.size hXl hXg).trans hX; have x1 : w6.cell? ⟨wr.heap.size, 1, none⟩ = some (.int .u32 ka) := (by rw [cell_of hX6]; rfl); have x2 : w6.cell? ⟨wr.heap.size, 2, none⟩ = some (.int .u32 v) := (by rw [cell_of hX6]; rfl); clear hX6)
                    | (go_at_call 11; refine (rsetByte_yes H6.out.ref ka (by rw [H0.out.l1]; omega) (v % 256) (by omega)).mono ?_; rintro e w7 ⟨rfl, hr7, hb7⟩; have H7 : Hid (Two w w7 w.heap.size p g q h s zs (ys.set ka (v % 256)) (ys.set ka (v % 256))) := H6.out.setRef hb7 hr7 (by rw [List.length_set]; exact H0.out.l1)))
                  go_roundg g'
                  case measure => omega
                  case rel => exact ⟨i + 1, ys.set ka (v % 256), by omega, by go_num, H7⟩
                · go_wp2_with (first
                    | (go_at_call 10; refine (setByte_no H0.out.reg ka hka (by rw [H0.out.l1]; omega) (v % 256)).mono ?_; rintro e wx ⟨rfl, rfl⟩)
                    | (go_at_call 11; refine (rsetByte_no H0.out.ref ka hka (by rw [H0.out.l1]; omega) (v % 256)).mono ?_; rintro e wx ⟨rfl, rfl⟩))
                  go_roundg g'
                  case measure => omega
                  case rel => exact ⟨i + 1, ys, by omega, by go_num, H0⟩
              · by_cases k2 : k % 4 = 2
                · by_cases hin : ka + 4 ≤ s
                  · go_wp2_with (first
                      | (go_at_call 12; refine (word_yes H0.out.reg ka (by rw [H0.out.l1]; omega)).mono ?_; rintro e wx ⟨rfl, rfl⟩)
                      | (go_at_call 13; refine (rword_yes H0.out.ref ka (by rw [H0.out.l1]; omega)).mono ?_; rintro e wx ⟨rfl, rfl⟩))
                    go_roundg g'
                    case measure => omega
                    case rel => exact ⟨i + 1, ys, by omega, by go_num, H0⟩
                  · go_wp2_with (first
                      | (go_at_call 12; refine (word_no H0.out.reg ka hka (by rw [H0.out.l1]; omega)).mono ?_; rintro e wx ⟨rfl, rfl⟩)
                      | (go_at_call 13; refine (rword_no H0.out.ref ka hka (by rw [H0.out.l1]; omega)).mono ?_; rintro e wx ⟨rfl, rfl⟩))
                    go_roundg g'
                    case measure => omega
                    case rel => exact ⟨i + 1, ys, by omega, by go_num, H0⟩
                · have k3 : k % 4 = 3 := by omega
                  clear k0 k1 k2
                  by_cases hin : ka < s
                  · go_wp2_with (first
                      | (go_at_call 14; refine (byte_yes H0.out.reg ka (by rw [H0.out.l1]; omega)).mono ?_; rintro e wx ⟨rfl, rfl⟩)
                      | (go_at_call 15; refine (rbyte_yes H0.out.ref ka (by rw [H0.out.l1]; omega)).mono ?_; rintro e wx ⟨rfl, rfl⟩))
                    go_roundg g'
                    case measure => omega
                    case rel => exact ⟨i + 1, ys, by omega, by go_num, H0⟩
                  · go_wp2_with (first
                      | (go_at_call 14; refine (byte_no H0.out.reg ka hka (by rw [H0.out.l1]; omega)).mono ?_; rintro e wx ⟨rfl, rfl⟩)
                      | (go_at_call 15; refine (rbyte_no H0.out.ref ka hka (by rw [H0.out.l1]; omega)).mono ?_; rintro e wx ⟨rfl, rfl⟩))
                    go_roundg g'
                    case measure => omega
                    case rel => exact ⟨i + 1, ys, by omega, by go_num, H0⟩
      · have hbad : size < 0 ∨ 4096 < size ∨ size < n := by omega
        go_enter Tryd.func3, Tryd.ntmps3
        go_wp2_with (first
          | (go_at_call 4; refine (twin_any hs hB.size HN.out (by omega) c).mono ?_; rintro e w2 ⟨rfl, hT, hb2⟩; replace hs := hs.below hb2; replace hB := hB.trans hb2; clear hb2)
          | (go_at_call 5; refine (new_no n (n + 1) size (by omega) hbad).mono ?_; rintro e wx ⟨rfl, rfl⟩)
          | (go_at_call 6; refine (rnew_no n c size (by omega) hbad).mono ?_; rintro e wx ⟨rfl, rfl⟩)
          | (go_at_call 7; refine (left_yes hs hT HN.out (by omega) c).mono ?_; rintro e w5 ⟨rfl, hb5⟩; replace hB := hB.trans (hb5.mono hB.size); clear hb5))
        go_ret
        exact ⟨rfl, hB⟩
    · go_enter Tryd.func3, Tryd.ntmps3
      go_wp2
      go_ret
      exact ⟨rfl, hB⟩
  · go_enter Tryd.func3, Tryd.ntmps3
    go_wp2
    go_ret
    exact ⟨rfl, hB⟩
end Go.Proofs.YthglgpiaffgnfaaDoor
