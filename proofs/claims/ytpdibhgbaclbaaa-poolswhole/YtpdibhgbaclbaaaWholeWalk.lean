/- 'PoolsWhole' walked: each block is free, or one's, whatever is done. -/
import Derived.Test.YtpdibhgbaclbaaaAllWalk
import Derived.Deep.CutBlock
namespace Go.Proofs.Ytpdibhgbaclbaaa
open Go Go.RowKit
set_option maxRecDepth 100000
set_option linter.unusedVariables false
theorem owns_base {w : World} {B B' m s : Nat} {t : TypeId} {v : Value} {xs : List Value} (h : w.ownsRow B' t s v m xs) (hb : B ≤ B') : w.ownsRow B t s v m xs := by
  obtain ⟨h1, h2⟩ := h
  refine ⟨h1, ?_⟩
  rcases h2 with h2 | ⟨g, cap, cur, rfl, hg, r⟩
  · exact Or.inl h2
  · exact Or.inr ⟨g, cap, cur, rfl, by omega, r⟩
theorem set_self (l : List Int) {i : Nat} {v : Int} (h : i < l.length) : (l.set i v).getD i 0 = v := by simp [h]
theorem set_other (l : List Int) {i j : Nat} {v : Int} (h : j ≠ i) : (l.set i v).getD j 0 = l.getD j 0 := by
  simp [Ne.symm h]
theorem at_if {l : List Int} {n bi j : Nat} {v : Int} (hl : l.length = n) (hb : bi < n) : (l.set bi v).getD j 0 = if (j : Int) = (bi : Int) then v else l.getD j 0 := by
  by_cases h : j = bi
  · subst h; rw [if_pos rfl]; exact set_self l (by omega)
  · rw [if_neg (by omega)]; exact set_other l h
/-- the first one that is free, or none is -/
theorem first_free (l : List Int) (n : Nat) : (∃ i, i < n ∧ l.getD i 0 = 0 ∧ ∀ j, j < i → l.getD j 0 ≠ 0) ∨ (∀ j, j < n → l.getD j 0 ≠ 0) := by
  induction n with
  | zero => right; intro j hj; omega
  | succ n ih =>
    rcases ih with ⟨i, hi, h1, h2⟩ | h
    · exact Or.inl ⟨i, by omega, h1, h2⟩
    · by_cases hz : l.getD n 0 = 0
      · exact Or.inl ⟨n, by omega, hz, h⟩
      · right
        intro j hj
        by_cases e : j = n
        · subst e; exact hz
        · exact h j (by omega)
set_option maxHeartbeats 16000000 in
theorem whole_walk (m : Int) (hm : 0 ≤ m ∧ m ≤ 255) {sp : Option Addr} {acts : List (Int × Int × Int)} (w : World) (hs : Acts w.heap.size w sp acts) (hl : acts.length ≤ maxLen) (cap : Nat) :
    Calls Try.prog 4 #[.int .u8 m, .slice sp acts.length cap] w fun e w' => e = .returned (.bool true) ∧ Below w.heap.size w w' := by
  unfold maxLen at hl
  obtain ⟨n, hn⟩ := Int.eq_ofNat_of_zero_le (a := 1 + m % 64) (by omega)
  have HN : Hid ((n : Int) = 1 + m % 64) := hn.symm
  have h1 : 1 ≤ n := by omega
  have h2 : n ≤ 64 := by omega
  obtain ⟨q, hq⟩ : ∃ q, acts.length = q := ⟨_, rfl⟩
  rw [hq] at hl ⊢
  have HQ : Hid (acts.length = q) := hq
  have HS : Hid (Acts w.heap.size w sp acts) := hs
  clear hq hs
  by_cases hbig : 100 < q
  · go_enter Try.func4, Try.ntmps4
    go_wp2_with (first
      | (go_at_call 13; clear M1; refine (alive_any _).mono ?_; rintro e w2 ⟨rfl, hb2⟩)
      | (go_at_call 13; refine (alive_any _).mono ?_; rintro e w1 ⟨rfl, hB⟩; have M1 := True.intro))
    go_ret
    exact ⟨rfl, hB.trans (hb2.mono hB.size)⟩
  · go_enter Try.func4, Try.ntmps4
    go_wp2_with (first
      | (go_at_call 13; refine (alive_any _).mono ?_; rintro e w1 ⟨rfl, hB⟩)
      | (go_at_call 14; refine (of_any m hm n HN.out).mono ?_; rintro e w2 ⟨rfl, hP, hb2⟩; have HP : Hid (Pool w2 w1.heap.size n (List.replicate n 0)) := hP; have hp0 := hB.size; replace hB := hB.trans (hb2.mono hB.size); clear hP hb2; generalize w1.heap.size = p at *))
    go_loopg [7] q (fun gk s7 wx => ∃ (i : Nat) (Z : List Int), i + gk = q ∧ s7 = .int .i64 i ∧ Hid (Pool wx p n Z) ∧ Below w.heap.size w wx)
    case atStart => exact ⟨0, _, by omega, rfl, HP, hB⟩
    case round =>
      clear HP hB
      obtain ⟨i, Z, hig, rfl, HP, hB⟩ := hrel
      cases gk with
      | zero =>
        obtain rfl : i = q := by omega
        have hlt : ¬ ((i : Int) < i) := by omega
        go_wp2
        go_ret
        exact ⟨rfl, hB⟩
      | succ g' =>
        have hlt : (i : Int) < q := by omega
        obtain ⟨⟨k, who, blk⟩, hx⟩ : ∃ x, acts[i]? = some x := ⟨_, List.getElem?_eq_getElem (by rw [HQ.out]; omega)⟩
        obtain ⟨b, off, rfl, hbl, hc⟩ := (HS.out.below hB).spot (by rw [HQ.out]; omega)
        obtain ⟨y0, y1, y2⟩ := hc i _ hx
        obtain ⟨hk, hwho, hblk⟩ := HS.out.wf i _ hx
        simp only at y0 y1 y2 hk hwho hblk
        clear hc hx
        have hkm : 0 ≤ k % 4 ∧ k % 4 < 4 := by omega
        have HZL : Hid (Z.length = n) := HP.out.len
        have hXp : wr.heap.size ≠ p := by have := HP.out.lt; omega
        have hb0 := alloc_below wr (.cells #[.int .u8 k, .int .u32 who, .int .i64 blk] 41)
        have HX0 : Hid ((wr.alloc (.cells #[.int .u8 k, .int .u32 who, .int .i64 blk] 41)).heap[wr.heap.size]? = some (.cells #[.int .u8 k, .int .u32 who, .int .i64 blk] 41 (0, 0))) := alloc_at wr _
        have H0 : Hid (Pool (wr.alloc (.cells #[.int .u8 k, .int .u32 who, .int .i64 blk] 41)) p n Z) := HP.out.below hb0
        replace hB := hB.trans (hb0.mono hB.size)
        clear hb0
        have M0 := True.intro
        go_upto_block 2 with (first
          | (go_at_call 11; clear M0; refine (owners_any H0.out).mono ?_; rintro e w4 ⟨g1, c1, rfl, hr, hb4⟩; have HR : Hid (w4.ownsRow w.heap.size 22 1 (.slice (some ⟨g1, 0, none⟩) n c1) n (wrd Z)) := owns_base hr hB.size; have H4 : Hid (Pool w4 p n Z) := H0.out.below hb4; have HX : Hid (w4.heap[wr.heap.size]? = some (.cells #[.int .u8 k, .int .u32 who, .int .i64 blk] 41 (0, 0))) := (hb4.block _ (at_lt HX0.out)).trans HX0.out; replace hB := hB.trans (hb4.mono hB.size); have x0 : w4.cell? ⟨wr.heap.size, 0, none⟩ = some (.int .u8 k) := (by rw [cell_of HX.out]; rfl); have x1 : w4.cell? ⟨wr.heap.size, 1, none⟩ = some (.int .u32 who) := (by rw [cell_of HX.out]; rfl); have x2 : w4.cell? ⟨wr.heap.size, 2, none⟩ = some (.int .i64 blk) := (by rw [cell_of HX.out]; rfl); clear hr hb4))
        clear y0 y1 y2 H0 HX0 HP
        go_cut [10, 11, 12, 13] from 33 to 168 (fun s10 s11 s12 s13 wx => ∃ (Y : List Int) (bl V : Int), s10 = .int .i64 bl ∧ s11 = .int .u32 V ∧ Hid (Pool wx p n Y) ∧ Hid (wx.ownsRow w.heap.size 22 1 (.slice (some ⟨g1, 0, none⟩) n c1) n (wrd Z)) ∧ Hid (Below w.heap.size w wx) ∧ Hid (∀ j, j < n → Y.getD j 0 = if (j : Int) = bl then V else Z.getD j 0))
        case first =>
          by_cases hk3 : k % 4 = 3
          · go_wp2
            go_roundg g'
            case measure => omega
            case rel => exact ⟨i + 1, Z, by omega, by go_num, H4, hB⟩
          · by_cases hk2 : k % 4 = 2
            · by_cases hno : who = 0 ∨ blk < 0 ∨ (n : Int) ≤ blk
              · go_wp2_with (first
                  | (go_at_call 9; refine (free_no H4.out who blk hwho.1 hno).mono ?_; rintro e wx ⟨rfl, rfl⟩))
                go_quiet ((fail))
                have hdq := below_drewN wx nq
                have H6 : Hid (Pool (wx.drewN nq) p n (Z)) := H4.out.below hdq
                replace HR : Hid ((wx.drewN nq).ownsRow w.heap.size 22 1 (.slice (some ⟨g1, 0, none⟩) n c1) n (wrd Z)) := owns_below HR.out hdq
                replace hB := hB.trans (hdq.mono hB.size)
                clear hdq
                generalize wx.drewN nq = w6 at *
                go_wp2
                go_meet
                exact ⟨Z, -1, _, rfl, rfl, H6, HR, hB, fun j _ => by rw [if_neg (by omega)]⟩
              · obtain ⟨bi, rfl⟩ := Int.eq_ofNat_of_zero_le (a := blk) (by omega)
                have hbi : bi < n := by omega
                have hbn : (bi : Int) < n := by omega
                have hw0 : 0 < who := by omega
                clear hno
                by_cases ho : Z.getD bi 0 = who
                · have HO : Hid (Z.getD bi 0 = who) := ho
                  clear ho
                  go_wp2_with (first
                    | (go_at_call 9; refine (free_yes H4.out who bi (by omega) hbi HO.out).mono ?_; rintro e w5 ⟨rfl, hp5, hb5⟩; have H5 : Hid (Pool w5 p n (Z.set bi 0)) := hp5; replace HR : Hid (w5.ownsRow w.heap.size 22 1 (.slice (some ⟨g1, 0, none⟩) n c1) n (wrd Z)) := owns_but HR.out H4.out hb5; have y1 : w5.cell? ⟨g1, bi, none⟩ = some (.int .u32 who) := (by rw [own_cell HR.out hbi, HO.out]); have hx5 := (hb5.block _ (at_lt HX.out) hXp).trans HX.out; have xx1 : w5.cell? ⟨wr.heap.size, 1, none⟩ = some (.int .u32 who) := (by rw [cell_of hx5]; rfl); have xx2 : w5.cell? ⟨wr.heap.size, 2, none⟩ = some (.int .i64 (bi : Int)) := (by rw [cell_of hx5]; rfl); replace hB := hB.trans (hb5.below hp0 hB.size); clear hp5 hb5 hx5))
                  go_quiet ((fail))
                  have hdq := below_drewN w5 nq
                  have H6 : Hid (Pool (w5.drewN nq) p n (Z.set bi 0)) := H5.out.below hdq
                  replace HR : Hid ((w5.drewN nq).ownsRow w.heap.size 22 1 (.slice (some ⟨g1, 0, none⟩) n c1) n (wrd Z)) := owns_below HR.out hdq
                  replace hB := hB.trans (hdq.mono hB.size)
                  clear hdq
                  generalize w5.drewN nq = w6 at *
                  go_wp2
                  go_meet
                  exact ⟨Z.set bi 0, bi, 0, rfl, rfl, H6, HR, hB, fun j hj => at_if HZL.out hbi⟩
                · have HO : Hid (Z.getD bi 0 ≠ who) := ho
                  clear ho
                  go_wp2_with (first
                    | (go_at_call 9; refine (free_other H4.out who bi (by omega) hbi HO.out).mono ?_; rintro e wx ⟨rfl, rfl⟩))
                  go_quiet ((fail))
                  have hdq := below_drewN wx nq
                  have H6 : Hid (Pool (wx.drewN nq) p n (Z)) := H4.out.below hdq
                  replace HR : Hid ((wx.drewN nq).ownsRow w.heap.size 22 1 (.slice (some ⟨g1, 0, none⟩) n c1) n (wrd Z)) := owns_below HR.out hdq
                  replace hB := hB.trans (hdq.mono hB.size)
                  clear hdq
                  generalize wx.drewN nq = w6 at *
                  go_wp2
                  go_meet
                  exact ⟨Z, -1, _, rfl, rfl, H6, HR, hB, fun j _ => by rw [if_neg (by omega)]⟩
            · have hk01 : k % 4 = 0 ∨ k % 4 = 1 := by omega
              by_cases hw : who = 0
              · subst hw
                rcases hk01 with hk0 | hk1
                all_goals
                  go_wp2_with (first
                    | (go_at_call 8; refine (alloc_nobody H4.out).mono ?_; rintro e w5 ⟨rfl, hb5⟩; have H5 : Hid (Pool w5 p n Z) := H4.out.below hb5; replace HR : Hid (w5.ownsRow w.heap.size 22 1 (.slice (some ⟨g1, 0, none⟩) n c1) n (wrd Z)) := owns_below HR.out hb5; replace hB := hB.trans (hb5.mono hB.size); clear hb5))
                  go_meet
                  exact ⟨Z, -1, _, rfl, rfl, H5, HR, hB, fun j _ => by rw [if_neg (by omega)]⟩
              · have hw0 : 0 < who := by omega
                rcases first_free Z n with ⟨bi, hbi, hz0, hzm⟩ | hf
                · have hbn : (bi : Int) < n := by omega
                  have HZ0 : Hid (Z.getD bi 0 = 0) := hz0
                  have HZM : Hid (∀ j, j < bi → Z.getD j 0 ≠ 0) := hzm
                  clear hz0 hzm
                  rcases hk01 with hk0 | hk1
                  all_goals
                    go_wp2_with (first
                      | (go_at_call 8; refine (alloc_yes H4.out who (by omega) bi hbi HZ0.out HZM.out).mono ?_; rintro e w5 ⟨rfl, hp5, hb5⟩; have H5 : Hid (Pool w5 p n (Z.set bi who)) := hp5; replace HR : Hid (w5.ownsRow w.heap.size 22 1 (.slice (some ⟨g1, 0, none⟩) n c1) n (wrd Z)) := owns_but HR.out H4.out hb5; have y1 : w5.cell? ⟨g1, bi, none⟩ = some (.int .u32 0) := (by rw [own_cell HR.out hbi, HZ0.out]); replace hB := hB.trans (hb5.below hp0 hB.size); clear hp5 hb5))
                    go_meet
                    exact ⟨Z.set bi who, bi, who, rfl, rfl, H5, HR, hB, fun j hj => at_if HZL.out hbi⟩
                · have HF : Hid (∀ j, j < n → Z.getD j 0 ≠ 0) := hf
                  clear hf
                  rcases hk01 with hk0 | hk1
                  all_goals
                    go_wp2_with (first
                      | (go_at_call 8; refine (alloc_full H4.out who (by omega) HF.out).mono ?_; rintro e w5 ⟨rfl, hb5⟩; have H5 : Hid (Pool w5 p n Z) := H4.out.below hb5; replace HR : Hid (w5.ownsRow w.heap.size 22 1 (.slice (some ⟨g1, 0, none⟩) n c1) n (wrd Z)) := owns_below HR.out hb5; replace hB := hB.trans (hb5.mono hB.size); clear hb5))
                    go_meet
                    exact ⟨Z, -1, _, rfl, rfl, H5, HR, hB, fun j _ => by rw [if_neg (by omega)]⟩
        case rest =>
          obtain ⟨Y, bl, V, rfl, rfl, HP5, HR1, HB1, HE⟩ := hcut
          clear HR H4 HX hB x0 x1 x2
          have hB := HB1.out
          clear HB1
          have HY : Hid (Y.length = n) := HP5.out.len
          go_wp2_with (first
            | (go_at_call 11; refine (owners_any HP5.out).mono ?_; rintro e w9 ⟨g2, c2, rfl, hr2, hb9⟩; have HR2 : Hid (w9.ownsRow w.heap.size 22 1 (.slice (some ⟨g2, 0, none⟩) n c2) n (wrd Y)) := owns_base hr2 hB.size; have HR : Hid (w9.ownsRow w.heap.size 22 1 (.slice (some ⟨g1, 0, none⟩) n c1) n (wrd Z)) := owns_below HR1.out hb9; have HP9 : Hid (Pool w9 p n Y) := HP5.out.below hb9; replace hB := hB.trans (hb9.mono hB.size); clear hr2 hb9 HR1 HP5))
          go_loopg [15, 16] n (fun g s15 s16 wx => ∃ j : Nat, j + g = n ∧ s16 = .int .i64 j ∧ s15 = .int .i64 (cnt 0 (Y.take j) : Nat) ∧ Hid (Below w9.heap.size w9 wx))
          case atStart => exact ⟨0, by omega, rfl, rfl, Below.refl _ _⟩
          case round =>
            obtain ⟨j, hjg, rfl, rfl, HD⟩ := hrel
            have hcj : cnt 0 (Y.take j) ≤ n := by have := cnt_le 0 (Y.take j); rw [List.length_take] at this; omega
            cases gk with
            | zero =>
              obtain rfl : j = n := by omega
              have hjl : ¬ ((j : Int) < j) := by omega
              have HPz : Hid (Pool wr p j Y) := HP9.out.below HD.out
              have HC : Hid (cnt 0 Y = cnt 0 (Y.take j)) := by show _ = _; rw [List.take_of_length_le (by rw [HY.out]; omega)]
              replace hB := hB.trans (HD.out.mono hB.size)
              generalize cnt 0 (Y.take j) = cc at *
              go_wp2_with (first
                | (go_at_call 12; refine (left_is HPz.out HC.out).mono ?_; rintro e w11 ⟨rfl, hb11⟩; replace hB := hB.trans (hb11.mono hB.size); have HP11 : Hid (Pool w11 p j Y) := HPz.out.below hb11; clear hb11))
              go_roundg g'
              case measure => omega
              case rel => exact ⟨i + 1, Y, by omega, by go_num, HP11, hB⟩
            | succ g =>
              have hjl : (j : Int) < n := by omega
              have e1 := own_cell (owns_below HR.out HD.out) (i := j) (by omega)
              have e2 := own_cell (owns_below HR2.out HD.out) (i := j) (by omega)
              have HC : Hid (cnt 0 (Y.take (j + 1)) = cnt 0 (Y.take j) + hit (Y.getD j 0) 0) := by show _ = _; rw [take_snoc Y j (by rw [HY.out]; omega), cnt_snoc]
              have HD2 : ∀ nq, Hid (Below w9.heap.size w9 (wr.drewN nq)) := fun nq => HD.out.trans ((below_drewN _ _).mono HD.out.size)
              rw [HE.out j (by omega)] at e2 HC
              by_cases hji : (j : Int) = bl
              · rw [if_pos hji] at e2 HC
                subst hji
                generalize Z.getD j 0 = z at *
                by_cases hz : V = 0
                · subst hz
                  rw [hit_yes] at HC
                  go_wp2
                  go_quiet ((fail))
                  go_wp2
                  go_roundg g
                  case measure => omega
                  case rel => exact ⟨j + 1, by omega, by go_num, by rw [HC.out]; rfl, HD2 _⟩
                · have hz' : (V == 0) = false := by simpa using hz
                  rw [hit_no hz] at HC
                  go_wp2
                  go_quiet ((fail))
                  go_wp2
                  go_roundg g
                  case measure => omega
                  case rel => exact ⟨j + 1, by omega, by go_num, by rw [HC.out]; rfl, HD2 _⟩
              · rw [if_neg hji] at e2 HC
                have hji' : ((j : Int) == bl) = false := by simpa using hji
                have hji1 : ((j : Int) != bl) = true := by simpa using hji
                generalize Z.getD j 0 = z at *
                by_cases hz : z = 0
                · subst hz
                  rw [hit_yes] at HC
                  go_wp2
                  go_quiet ((fail))
                  go_wp2
                  go_roundg g
                  case measure => omega
                  case rel => exact ⟨j + 1, by omega, by go_num, by rw [HC.out]; rfl, HD2 _⟩
                · have hz' : (z == 0) = false := by simpa using hz
                  rw [hit_no hz] at HC
                  go_wp2
                  go_quiet ((fail))
                  go_wp2
                  go_roundg g
                  case measure => omega
                  case rel => exact ⟨j + 1, by omega, by go_num, by rw [HC.out]; rfl, HD2 _⟩
end Go.Proofs.Ytpdibhgbaclbaaa
