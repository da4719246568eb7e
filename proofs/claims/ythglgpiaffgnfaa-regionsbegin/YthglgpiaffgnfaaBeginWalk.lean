/- 'RegionsBegin' walked: a region has its bytes, and noughts behind them; what was handed in, and what was told, is memory of its own. -/
import Derived.Test.YthglgpiaffgnfaaOwn
import Derived.Test.YthglgpiaffgnfaaTwin
namespace Go.Proofs.Ythglgpiaffgnfaa
open Go Go.RowKit
set_option maxRecDepth 100000
set_option linter.unusedVariables false
theorem Row.frozen {w : World} {g : Nat} {zs : List Int} (h : Row w g zs) (i : Nat) : w.frozen? ⟨g, i, none⟩ = false := by
  unfold Row at h; simp [World.frozen?, h]
theorem new_size {w : World} {B n s : Nat} {sp : Option Addr} {zs : List Int} (hs : Src B w sp zs) (hBw : B ≤ w.heap.size) (hz : zs.length = n) (hn : s ≤ 4096) (hns : n ≤ s) (c : Nat) :
    Calls Try.prog 14 #[.int .i64 s, .slice sp n c] w fun e w' => ∃ p g, e = .returned (.tuple #[.pointer (some ⟨p, 0, none⟩), .int .i64 0]) ∧ Reg w' p g (zs ++ List.replicate (s - n) 0) ∧ Below w.heap.size w w' ∧ w.heap.size ≤ g ∧ g < p := by
  subst hz
  exact new_yes hs hBw c s hn hns
theorem seven_at (all : List Int) (i : Nat) : (List.replicate i 7 ++ all.drop i).getD i 0 = all.getD i 0 := by
  simp [List.getElem?_append_right]
theorem seven_set (all : List Int) (i : Nat) (h : i < all.length) : (List.replicate i 7 ++ all.drop i).set i 7 = List.replicate (i + 1) 7 ++ all.drop (i + 1) := by
  rw [List.set_append_right _ _ (by simp), List.drop_eq_getElem_cons h, List.length_replicate, Nat.sub_self, List.set_cons_zero, List.replicate_succ', List.append_assoc, List.singleton_append]
theorem behind_zero (zs : List Int) (k i : Nat) (h : zs.length ≤ i) : (zs ++ List.replicate k 0).getD i 0 = 0 := by
  rw [List.getD_eq_getElem?_getD, List.getElem?_append_right h, List.getElem?_replicate]
  split <;> rfl
theorem Src.pre {w : World} {g : Nat} {zs ys : List Int} (h : Row w g (zs ++ ys)) (hw : isB zs) : Src w.heap.size w (some ⟨g, 0, none⟩) zs := Src.rowPre (n := 0) h hw
set_option maxHeartbeats 4000000 in
theorem begin_any {w : World} {sp : Option Addr} {zs : List Int} (hs : Src w.heap.size w sp zs) (hm : zs.length ≤ maxLen) (c : Nat) (a : Int) (ha : 0 ≤ a ∧ a ≤ 65535) :
    Calls Try.prog 6 #[.slice sp zs.length c, .int .u16 a] w fun e w' => e = .returned (.bool true) ∧ Below w.heap.size w w' := by
  have hB : Below w.heap.size w w := Below.refl _ _
  unfold maxLen at hm
  obtain ⟨n, hn⟩ : ∃ n, zs.length = n := ⟨_, rfl⟩
  rw [hn] at hm ⊢
  have HN : Hid (zs.length = n) := hn
  clear hn
  by_cases h4 : n ≤ 4096
  · have hmod := Int.emod_nonneg a (show (4097 - (n : Int)) ≠ 0 by omega)
    have hmod2 := Int.emod_lt_of_pos a (show 0 < (4097 - (n : Int)) by omega)
    obtain ⟨s, hsz⟩ : ∃ s : Nat, (n : Int) + a % (4097 - n) = s := ⟨(n + a % (4097 - n)).toNat, by omega⟩
    have hns : n ≤ s := by omega
    have hs4 : s ≤ 4096 := by omega
    have HL : Hid ((zs ++ List.replicate (s - n) 0).length = s) := by show _ = _; simp [HN.out]; omega
    have hz := hs.wf
    go_enter Try.func6, Try.ntmps6
    go_wp2_with (first
      | (go_at_call 13; refine (alive_any _).mono ?_; rintro e w1 ⟨rfl, hb⟩; replace hs := hs.below (hb.mono hB.size); replace hB := hB.trans (hb.mono hB.size); clear hb)
      | (go_at_call 16; refine (twin_any hs hB.size HN.out (by omega) c).mono ?_; rintro e w2 ⟨rfl, hT, hb2⟩; replace hs := hs.below (hb2.mono hB.size); have hTw := hB.size; replace hB := hB.trans (hb2.mono hB.size); clear hb2)
      | (go_at_call 14; refine (new_size (Src.pre hT hz) (Nat.le_refl _) HN.out hs4 hns _).mono ?_; rintro e w3 ⟨p, g, rfl, hR, hb3, hg, hp⟩; have hTl := hT.lt; replace hT : Row w3 _ _ := (hb3.block _ hT.lt).trans hT; replace hs := hs.below (hb3.mono hB.size); replace hB := hB.trans (hb3.mono hB.size); clear hb3))
    generalize w1.heap.size = T at *
    obtain ⟨all, eA⟩ : ∃ all, zs ++ List.replicate (s - n) 0 = all := ⟨_, rfl⟩
    rw [eA] at HL hR
    have HA : Hid (zs ++ List.replicate (s - n) 0 = all) := eA
    clear eA
    go_loopg [9] n (fun gk s9 wx => ∃ (i : Nat) (cur : List Int), i + gk = n ∧ s9 = .int .i64 i ∧ But T w3 wx ∧ Hid (Row wx T cur) ∧ Hid (cur.length = n + 1))
    case atStart => exact ⟨0, zs ++ [77], by omega, rfl, But.of (Below.refl _ _), hT, by show _ = _; simp [HN.out]⟩
    case round =>
      clear hT
      obtain ⟨i, cur, hig, rfl, hU, HT, HC⟩ := hrel
      cases gk with
      | zero =>
        obtain rfl : i = n := by omega
        replace hs := hs.below (hU.below hTw hB.size)
        replace hR := hR.but hU (by omega) (by omega)
        replace hB := hB.trans (hU.below hTw hB.size)
        clear hU HT
        go_wp2_with (first
          | (go_at_call 12; refine (bytes_len hR HL.out).mono ?_; rintro e w4 ⟨rfl, hb4, hd4⟩; replace hs := hs.below (hd4.mono hB.size); have hgK : g ≠ _ := Nat.ne_of_lt hR.row.lt; have hpK : p ≠ _ := Nat.ne_of_lt (at_lt hR.head); replace hR := hR.below hd4; have hls := hB.size; replace hB := hB.trans (hd4.mono hB.size); clear hd4)
          | (go_at_call 15; refine (same_len (Src.pre (by rw [← HA.out] at hb4; exact hb4) hz) hs HN.out (by omega) _ _).mono ?_; rintro e w5 ⟨rfl, hd5⟩; replace hs := hs.below (hd5.mono hB.size); replace hR := hR.below hd5; replace hb4 : Row w5 _ _ := (hd5.block _ hb4.lt).trans hb4; replace hB := hB.trans (hd5.mono hB.size); clear hd5))
        have hbl := hb4.lt
        generalize wr.heap.size = K at *
        go_loopg [11] s (fun gk s11 wx => ∃ j : Nat, j + gk = s ∧ s11 = .int .i64 j ∧ But K w5 wx ∧ Hid (Row wx K (List.replicate j 7 ++ all.drop j)))
        case atStart => exact ⟨0, by omega, rfl, But.of (Below.refl _ _), by show Row _ _ _; simpa using hb4⟩
        case round =>
          clear hb4
          obtain ⟨j, hjg, rfl, hU, HK⟩ := hrel
          cases gk with
          | zero =>
            obtain rfl : j = s := by omega
            replace hs := hs.below (hU.below hls hB.size)
            replace hR := hR.but hU hpK hgK
            replace hB := hB.trans (hU.below hls hB.size)
            clear hU HK
            go_wp2_with (first
              | (go_at_call 12; refine (bytes_len hR HL.out).mono ?_; rintro e w7 ⟨rfl, hb7, hd7⟩; replace hs := hs.below (hd7.mono hB.size); replace hB := hB.trans (hd7.mono hB.size); clear hd7)
              | (go_at_call 14; refine (new_no i c _ (by omega) (by omega)).mono ?_; rintro e wx ⟨rfl, rfl⟩)
              | (go_at_call 15; refine (same_len (Src.pre (by rw [← HA.out] at hb7; exact hb7) hz) hs HN.out (by omega) _ _).mono ?_; rintro e w8 ⟨rfl, hd8⟩; replace hB := hB.trans (hd8.mono hB.size)))
            go_ret
            exact ⟨rfl, hB⟩
          | succ g' =>
            have k1 := HK.out.cell j (by have := HL.out; simp; omega)
            have k2 := HK.out.frozen j
            rw [seven_at] at k1
            have HE : Hid ((List.replicate j 7 ++ all.drop j).set j 7 = List.replicate (j + 1) 7 ++ all.drop (j + 1)) := seven_set all j (by rw [HL.out]; omega)
            have HK2 : Hid (Row _ K ((List.replicate j 7 ++ all.drop j).set j 7)) := HK.out.set 7
            by_cases hij : i ≤ j
            · rw [← HA.out, behind_zero zs _ j (by rw [HN.out]; omega)] at k1
              go_wp2
              go_roundg g'
              case measure => omega
              case rel => exact ⟨j + 1, by omega, by go_num, hU.trans (But.setCell _ _ _ _), by show Row _ _ _; rw [← HE.out]; exact HK2.out⟩
            · have dj : decide ((i : Int) ≤ j) = false := by simp; omega
              generalize all.getD j 0 = zj at *
              go_wp2
              go_roundg g'
              case measure => omega
              case rel => exact ⟨j + 1, by omega, by go_num, hU.trans (But.setCell _ _ _ _), by show Row _ _ _; rw [← HE.out]; exact HK2.out⟩
      | succ g' =>
        have k1 := HT.out.cell i (by rw [HC.out]; omega)
        have k2 := HT.out.frozen i
        generalize cur.getD i 0 = zi at *
        go_wp2
        go_roundg g'
        case measure => omega
        case rel => exact ⟨i + 1, _, by omega, by go_num, hU.trans (But.setCell _ _ _ _), HT.out.set _, by show _ = _; rw [List.length_set]; exact HC.out⟩
  · go_enter Try.func6, Try.ntmps6
    go_wp2_with (first
      | (go_at_call 13; refine (alive_any _).mono ?_; rintro e w1 ⟨rfl, hb⟩; replace hB := hB.trans (hb.mono hB.size); clear hb))
    go_ret
    exact ⟨rfl, hB⟩
end Go.Proofs.Ythglgpiaffgnfaa
