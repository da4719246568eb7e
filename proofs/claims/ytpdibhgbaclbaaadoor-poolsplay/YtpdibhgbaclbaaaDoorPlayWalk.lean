/- 'PoolsPlay' walked: whatever is done with a pool, each answer is the documented one. -/
import Derived.Test.YtpdibhgbaclbaaaDoorPlaySt
import Derived.Deep.CutBlock
import Derived.Deep.RegionHeld3
namespace Go.Proofs.YtpdibhgbaclbaaaDoor
open Go Go.RowKit
set_option maxRecDepth 100000
set_option linter.unusedVariables false
theorem left_is {w : World} {p n c : Nat} {zs : List Int} (h : Pool w p n zs) (hc : cnt 0 zs = c) :
    Calls Tryd.prog 15 #[.pointer (some ⟨p, 0, none⟩)] w fun e w' => e = .returned (.int .i64 (c : Nat)) ∧ Below w.heap.size w w' := by
  subst hc; exact left_any h
theorem rleft_is {w : World} {q h n c : Nat} {zs : List Int} (H : Ref w q h n zs) (hc : cnt 0 zs = c) :
    Calls Tryd.prog 16 #[.pointer (some ⟨q, 0, none⟩)] w fun e w' => e = .returned (.int .i64 (c : Nat)) ∧ w' = w := by
  subst hc; exact rleft_any H
theorem below_drew (w : World) : Below w.heap.size w w.drew := (Below.refl _ _).drew
set_option maxHeartbeats 16000000 in
theorem play_any {w : World} {sa : Option Addr} {acts : List (Int × Int × Int)} (ha : Acts w.heap.size w sa acts) (hma : acts.length ≤ maxLen) (ca : Nat) (many size : Int) (hmn : -9223372036854775808 ≤ many ∧ many ≤ 9223372036854775807) (hsz : -9223372036854775808 ≤ size ∧ size ≤ 9223372036854775807) :
    Calls Tryd.prog 3 #[.int .i64 many, .int .i64 size, .slice sa acts.length ca] w fun e w' => e = .returned (.bool true) ∧ Below w.heap.size w w' := by
  unfold maxLen at hma
  obtain ⟨m, hm'⟩ : ∃ m, acts.length = m := ⟨_, rfl⟩
  rw [hm'] at hma ⊢
  have HM : Hid (acts.length = m) := hm'
  have HA : Hid (Acts w.heap.size w sa acts) := ha
  clear hm' ha
  by_cases hbig : 300 < m
  · go_enter Tryd.func3, Tryd.ntmps3
    go_wp2
    go_ret
    exact ⟨rfl, Below.refl _ _⟩
  · by_cases hbad : many < 1 ∨ 64 < many ∨ size < 1 ∨ 256 < size
    · have HBad : Hid (many < 1 ∨ 64 < many ∨ size < 1 ∨ 256 < size) := hbad
      clear hbad
      go_enter Tryd.func3, Tryd.ntmps3
      go_wp2_with (first
        | (go_at_call 4; refine (new_no many size HBad.out).mono ?_; rintro e wx ⟨rfl, hwx⟩; obtain rfl := hwx.symm)
        | (go_at_call 5; refine (rnew_no many size HBad.out).mono ?_; rintro e wx ⟨rfl, hwx⟩; obtain rfl := hwx.symm))
      go_ret
      exact ⟨rfl, Below.refl _ _⟩
    · obtain ⟨n, rfl⟩ := Int.eq_ofNat_of_zero_le (a := many) (by omega)
      have h1 : 1 ≤ n := by omega
      have h2 : n ≤ 64 := by omega
      have hs : 1 ≤ size ∧ size ≤ 256 := by omega
      clear hbad
      go_enter Tryd.func3, Tryd.ntmps3
      go_wp2_with (first
        | (go_at_call 4; refine (new_yes n size h1 h2 hs).mono ?_; rintro e w1 ⟨rfl, hP1, hb1⟩; have HP1 : Hid (Pool w1 w.heap.size n (List.replicate n 0)) := hP1; have HB1 : Hid (Below w.heap.size w w1) := hb1; clear hP1 hb1)
        | (go_at_call 5; refine (rnew_yes n size h1 h2 hs).mono ?_; rintro e w2 ⟨q, h, rfl, hR2, hb2, hh2, hq2⟩; have HP2 : Hid (Pool w2 w.heap.size n (List.replicate n 0)) := HP1.out.below hb2; have HR2 : Hid (Ref w2 q h n (List.replicate n 0)) := hR2; have HB2 : Hid (Below w.heap.size w w2) := HB1.out.trans (hb2.mono HB1.out.size); have hloh : w.heap.size ≤ h := Nat.le_trans HB1.out.size hh2; clear hR2 hb2 HP1 HB1 hh2 hq2))
      have hba := alloc_below w2 (.cells (bk 0 (.slice none 0 0)) 39)
      have HS0 : Hid (St w (w2.alloc (.cells (bk 0 (.slice none 0 0)) 39)) w.heap.size q h w2.heap.size n 0 (.slice none 0 0) [] (List.replicate n 0) (List.replicate n 0)) :=
        ⟨HP2.out.below hba, HR2.out.below hba, Bk.start HB2.out.size, ⟨fun j e he => by simp at he, fun j k e f _ he => by simp at he, fun j e he => by simp at he, fun j e he => by simp at he⟩, HB2.out.trans (hba.mono HB2.out.size), Nat.le_refl _, hloh, fun j e he => by simp at he, rfl⟩
      clear hba HP2 HR2 HB2 hloh
      generalize w2.heap.size = K at *
      go_loopg [12] m (fun gk s12 wx => ∃ (i : Nat) (v : Value) (E : List Ent) (Z : List Int), i + gk = m ∧ s12 = .int .i64 i ∧ Hid (St w wx w.heap.size q h K n i v E Z Z))
      case atStart => exact ⟨0, _, _, _, by omega, rfl, HS0⟩
      case round =>
        clear HS0
        obtain ⟨i, v, E, Z, hig, rfl, HT⟩ := hrel
        cases gk with
        | zero =>
          obtain rfl : i = m := by omega
          have hlt : ¬ ((i : Int) < i) := by omega
          go_wp2_with (first
            | (go_at_call 18; refine (apart_yes HT.out.book HT.out.lists).mono ?_; rintro e w17 ⟨rfl, hd17⟩))
          go_ret
          exact ⟨rfl, HT.out.bel.trans hd17⟩
        | succ g' =>
          have hlt : (i : Int) < m := by omega
          obtain ⟨⟨k, who, blk⟩, hx⟩ : ∃ x, acts[i]? = some x := ⟨_, List.getElem?_eq_getElem (by rw [HM.out]; omega)⟩
          obtain ⟨b, off, rfl, hbl, hc⟩ := (HA.out.below HT.out.bel).spot (by rw [HM.out]; omega)
          obtain ⟨y0, y1, y2⟩ := hc i _ hx
          obtain ⟨hk, hwho, hblk⟩ := HA.out.wf i _ hx
          simp only at y0 y1 y2 hk hwho hblk
          clear hc hx
          have hkm : 0 ≤ k % 4 ∧ k % 4 < 4 := by omega
          have HZL : Hid (Z.length = n) := HT.out.pool.len
          have hXp : wr.heap.size ≠ w.heap.size := by have := HT.out.pool.lt; omega
          have hXh : wr.heap.size ≠ h := by have := HT.out.ref.row.lt; omega
          have hb0 := alloc_below wr (.cells #[.int .u8 k, .int .u32 who, .int .i64 blk] 42)
          have HX : Hid ((wr.alloc (.cells #[.int .u8 k, .int .u32 who, .int .i64 blk] 42)).heap[wr.heap.size]? = some (.cells #[.int .u8 k, .int .u32 who, .int .i64 blk] 42 (0, 0))) := alloc_at wr _
          have H4 : Hid (St w (wr.alloc (.cells #[.int .u8 k, .int .u32 who, .int .i64 blk] 42)) w.heap.size q h K n i v E Z Z) := HT.out.below hb0
          clear hb0
          go_upto_block 2 with fail
          generalize wr.alloc (.cells #[.int .u8 k, .int .u32 who, .int .i64 blk] 42) = w4 at *
          generalize wr.heap.size = X at *
          have x0 : w4.cell? ⟨X, 0, none⟩ = some (.int .u8 k) := by rw [cell_of HX.out]; rfl
          have x1 : w4.cell? ⟨X, 1, none⟩ = some (.int .u32 who) := by rw [cell_of HX.out]; rfl
          have x2 : w4.cell? ⟨X, 2, none⟩ = some (.int .i64 blk) := by rw [cell_of HX.out]; rfl
          clear y0 y1 y2 HT
          go_cut [14, 15, 16, 17] from 44 to 121 (fun s14 s15 s16 s17 wx => ∃ (Z' : List Int), Hid (St w wx w.heap.size q h K n i v E Z' Z'))
          case first =>
            by_cases hk3 : k % 4 = 3
            · by_cases hw : who = 0
              · subst hw
                have H4d : Hid (St w w4.drew w.heap.size q h K n i v E Z Z) := H4.out.below (below_drew w4)
                have HXd : Hid (w4.drew.heap[X]? = some (.cells #[.int .u8 k, .int .u32 0, .int .i64 blk] 42 (0, 0))) := HX.out
                go_wp2
                go_region_held3 (fun w' => w'.cell? ⟨X, 1, none⟩ = some (.int .u32 0) ∧ w'.cell? ⟨X, 2, none⟩ = some (.int .i64 blk)) (go_keep) (first
                  | (go_at_call 10; refine (all_nobody _).mono ?_; rintro e w5 ⟨rfl, hb5⟩; have H5 : Hid (St w w5 w.heap.size q h K n i v E (Z) (Z)) := H4d.out.below hb5; have hx5 := (hb5.block X (at_lt HXd.out)).trans HXd.out; have xx1 : w5.cell? ⟨X, 1, none⟩ = some (.int .u32 0) := (by rw [cell_of hx5]; rfl); have xx2 : w5.cell? ⟨X, 2, none⟩ = some (.int .i64 blk) := (by rw [cell_of hx5]; rfl); clear hb5 hx5)
                  | (go_at_call 11; refine (rall_nobody H5.out.ref).mono ?_; rintro e wx ⟨rfl, hwx⟩; obtain rfl := hwx.symm))
                all_goals
                  go_wp2
                  go_meet
                  exact ⟨_, H5⟩
              · have hw0 : 0 < who := by omega
                have H4d : Hid (St w w4.drew w.heap.size q h K n i v E Z Z) := H4.out.below (below_drew w4)
                have HXd : Hid (w4.drew.heap[X]? = some (.cells #[.int .u8 k, .int .u32 who, .int .i64 blk] 42 (0, 0))) := HX.out
                go_wp2
                go_region_held3 (fun w' => w'.cell? ⟨X, 1, none⟩ = some (.int .u32 who) ∧ w'.cell? ⟨X, 2, none⟩ = some (.int .i64 blk)) (go_keep) (first
                  | (go_at_call 10; refine (all_any H4d.out.pool who hw0).mono ?_; rintro e w5 ⟨rfl, hp5, hb5⟩; have H5 : Hid (St w w5 w.heap.size q h K n i v E (clr who Z) (Z)) := H4d.out.setPool hb5 hp5; have hx5 := (hb5.block X (at_lt HXd.out) hXp).trans HXd.out; have xx1 : w5.cell? ⟨X, 1, none⟩ = some (.int .u32 who) := (by rw [cell_of hx5]; rfl); have xx2 : w5.cell? ⟨X, 2, none⟩ = some (.int .i64 blk) := (by rw [cell_of hx5]; rfl); have HX5 : Hid (w5.heap[X]? = some (.cells #[.int .u8 k, .int .u32 who, .int .i64 blk] 42 (0, 0))) := hx5; clear hp5 hb5 hx5)
                  | (go_at_call 11; refine (rall_any H5.out.ref who hw0).mono ?_; rintro e w6 ⟨rfl, hr6, hb6⟩; have H6 : Hid (St w w6 w.heap.size q h K n i v E (clr who Z) (clr who Z)) := H5.out.setRef hb6 hr6; have hx6 := (hb6.block X (at_lt HX5.out) hXh).trans HX5.out; have xy1 : w6.cell? ⟨X, 1, none⟩ = some (.int .u32 who) := (by rw [cell_of hx6]; rfl); have xy2 : w6.cell? ⟨X, 2, none⟩ = some (.int .i64 blk) := (by rw [cell_of hx6]; rfl); clear hr6 hb6 hx6))
                all_goals
                  go_wp2
                  go_meet
                  exact ⟨_, H6⟩
            · by_cases hk2 : k % 4 = 2
              · by_cases hno : who = 0 ∨ blk < 0 ∨ (n : Int) ≤ blk
                · have HNO : Hid (who = 0 ∨ blk < 0 ∨ (n : Int) ≤ blk) := hno
                  clear hno
                  have H4d : Hid (St w w4.drew w.heap.size q h K n i v E Z Z) := H4.out.below (below_drew w4)
                  have HXd : Hid (w4.drew.heap[X]? = some (.cells #[.int .u8 k, .int .u32 who, .int .i64 blk] 42 (0, 0))) := HX.out
                  go_wp2
                  go_region_held3 (fun w' => w'.cell? ⟨X, 1, none⟩ = some (.int .u32 who) ∧ w'.cell? ⟨X, 2, none⟩ = some (.int .i64 blk)) (go_keep) (first
                    | (go_at_call 8; refine (free_no H4d.out.pool who blk hwho.1 HNO.out).mono ?_; rintro e wx ⟨rfl, hwx⟩; obtain rfl := hwx.symm)
                    | (go_at_call 9; refine (rfree_no H4d.out.ref who blk hwho.1 HNO.out).mono ?_; rintro e wx ⟨rfl, hwx⟩; obtain rfl := hwx.symm))
                  all_goals
                    go_wp2
                    go_meet
                    exact ⟨_, H4d⟩
                · obtain ⟨bi, rfl⟩ := Int.eq_ofNat_of_zero_le (a := blk) (by omega)
                  have hbi : bi < n := by omega
                  have hw0 : 0 < who := by omega
                  clear hno
                  by_cases ho : Z.getD bi 0 = who
                  · have HO : Hid (Z.getD bi 0 = who) := ho
                    clear ho
                    have H4d : Hid (St w w4.drew w.heap.size q h K n i v E Z Z) := H4.out.below (below_drew w4)
                    have HXd : Hid (w4.drew.heap[X]? = some (.cells #[.int .u8 k, .int .u32 who, .int .i64 (bi : Int)] 42 (0, 0))) := HX.out
                    go_wp2
                    go_region_held3 (fun w' => w'.cell? ⟨X, 1, none⟩ = some (.int .u32 who) ∧ w'.cell? ⟨X, 2, none⟩ = some (.int .i64 (bi : Int))) (go_keep) (first
                      | (go_at_call 8; refine (free_yes H4d.out.pool who bi hw0 hbi HO.out).mono ?_; rintro e w5 ⟨rfl, hp5, hb5⟩; have H5 : Hid (St w w5 w.heap.size q h K n i v E (Z.set bi 0) (Z)) := H4d.out.setPool hb5 hp5; have hx5 := (hb5.block X (at_lt HXd.out) hXp).trans HXd.out; have xx1 : w5.cell? ⟨X, 1, none⟩ = some (.int .u32 who) := (by rw [cell_of hx5]; rfl); have xx2 : w5.cell? ⟨X, 2, none⟩ = some (.int .i64 (bi : Int)) := (by rw [cell_of hx5]; rfl); have HX5 : Hid (w5.heap[X]? = some (.cells #[.int .u8 k, .int .u32 who, .int .i64 (bi : Int)] 42 (0, 0))) := hx5; clear hp5 hb5 hx5)
                      | (go_at_call 9; refine (rfree_yes H5.out.ref who bi hw0 hbi HO.out).mono ?_; rintro e w6 ⟨rfl, hr6, hb6⟩; have H6 : Hid (St w w6 w.heap.size q h K n i v E (Z.set bi 0) (Z.set bi 0)) := H5.out.setRef hb6 hr6; have hx6 := (hb6.block X (at_lt HX5.out) hXh).trans HX5.out; have xy1 : w6.cell? ⟨X, 1, none⟩ = some (.int .u32 who) := (by rw [cell_of hx6]; rfl); have xy2 : w6.cell? ⟨X, 2, none⟩ = some (.int .i64 (bi : Int)) := (by rw [cell_of hx6]; rfl); clear hr6 hb6 hx6))
                    all_goals
                      go_wp2
                      go_meet
                      exact ⟨_, H6⟩
                  · have HO : Hid (Z.getD bi 0 ≠ who) := ho
                    clear ho
                    have H4d : Hid (St w w4.drew w.heap.size q h K n i v E Z Z) := H4.out.below (below_drew w4)
                    have HXd : Hid (w4.drew.heap[X]? = some (.cells #[.int .u8 k, .int .u32 who, .int .i64 (bi : Int)] 42 (0, 0))) := HX.out
                    go_wp2
                    go_region_held3 (fun w' => w'.cell? ⟨X, 1, none⟩ = some (.int .u32 who) ∧ w'.cell? ⟨X, 2, none⟩ = some (.int .i64 (bi : Int))) (go_keep) (first
                      | (go_at_call 8; refine (free_other H4d.out.pool who bi hw0 hbi HO.out).mono ?_; rintro e wx ⟨rfl, hwx⟩; obtain rfl := hwx.symm)
                      | (go_at_call 9; refine (rfree_other H4d.out.ref who bi hw0 hbi HO.out).mono ?_; rintro e wx ⟨rfl, hwx⟩; obtain rfl := hwx.symm))
                    all_goals
                      go_wp2
                      go_meet
                      exact ⟨_, H4d⟩
              · have hk01 : k % 4 = 0 ∨ k % 4 = 1 := by omega
                by_cases hw : who = 0
                · subst hw
                  rcases hk01 with hk0 | hk1
                  all_goals
                    go_wp2_with (first
                      | (go_at_call 6; refine (alloc_nobody H4.out.pool).mono ?_; rintro e w5 ⟨rfl, hb5⟩; have H5 : Hid (St w w5 w.heap.size q h K n i v E (Z) (Z)) := H4.out.below hb5; have hx5 := (hb5.block X (at_lt HX.out)).trans HX.out; have xx1 : w5.cell? ⟨X, 1, none⟩ = some (.int .u32 0) := (by rw [cell_of hx5]; rfl); have xx2 : w5.cell? ⟨X, 2, none⟩ = some (.int .i64 blk) := (by rw [cell_of hx5]; rfl); clear hb5 hx5)
                      | (go_at_call 7; refine (ralloc_nobody _).mono ?_; rintro e wx ⟨rfl, hwx⟩; obtain rfl := hwx.symm))
                    go_meet
                    exact ⟨_, H5⟩
                · have hw0 : 0 < who := by omega
                  rcases first_free Z n with ⟨bi, hbi, hz0, hzm⟩ | hf
                  · have HZ0 : Hid (Z.getD bi 0 = 0) := hz0
                    have HZM : Hid (∀ j, j < bi → Z.getD j 0 ≠ 0) := hzm
                    clear hz0 hzm
                    rcases hk01 with hk0 | hk1
                    all_goals
                      go_wp2_with (first
                        | (go_at_call 6; refine (alloc_yes H4.out.pool who (by omega) bi hbi HZ0.out HZM.out).mono ?_; rintro e w5 ⟨rfl, hp5, hb5⟩; have H5 : Hid (St w w5 w.heap.size q h K n i v E (Z.set bi who) (Z)) := H4.out.setPool hb5 hp5; have hx5 := (hb5.block X (at_lt HX.out) hXp).trans HX.out; have xx1 : w5.cell? ⟨X, 1, none⟩ = some (.int .u32 who) := (by rw [cell_of hx5]; rfl); have xx2 : w5.cell? ⟨X, 2, none⟩ = some (.int .i64 blk) := (by rw [cell_of hx5]; rfl); clear hp5 hb5 hx5)
                        | (go_at_call 7; refine (ralloc_yes H5.out.ref who (by omega) bi hbi HZ0.out HZM.out).mono ?_; rintro e w6 ⟨rfl, hr6, hb6⟩; have H6 : Hid (St w w6 w.heap.size q h K n i v E (Z.set bi who) (Z.set bi who)) := H5.out.setRef hb6 hr6; clear hr6 hb6))
                      go_meet
                      exact ⟨_, H6⟩
                  · have HF : Hid (∀ j, j < n → Z.getD j 0 ≠ 0) := hf
                    clear hf
                    rcases hk01 with hk0 | hk1
                    all_goals
                      go_wp2_with (first
                        | (go_at_call 6; refine (alloc_full H4.out.pool who (by omega) HF.out).mono ?_; rintro e w5 ⟨rfl, hb5⟩; have H5 : Hid (St w w5 w.heap.size q h K n i v E (Z) (Z)) := H4.out.below hb5; have hx5 := (hb5.block X (at_lt HX.out)).trans HX.out; have xx1 : w5.cell? ⟨X, 1, none⟩ = some (.int .u32 who) := (by rw [cell_of hx5]; rfl); have xx2 : w5.cell? ⟨X, 2, none⟩ = some (.int .i64 blk) := (by rw [cell_of hx5]; rfl); clear hb5 hx5)
                        | (go_at_call 7; refine (ralloc_full H5.out.ref who (by omega) HF.out).mono ?_; rintro e wx ⟨rfl, hwx⟩; obtain rfl := hwx.symm))
                      go_meet
                      exact ⟨_, H5⟩
          case rest =>
            obtain ⟨Y, H5⟩ := hcut
            clear H4 HX x0 x1 x2 hXp hXh HZL
            have hwf := H5.out.pool.wf
            have HYL : Hid (Y.length = n) := H5.out.pool.len
            obtain ⟨c, hc⟩ : ∃ c, cnt 0 Y = c := ⟨_, rfl⟩
            have HC : Hid (cnt 0 Y = c) := hc
            clear hc
            have HW : Hid (isW Y) := hwf
            clear hwf
            go_wp2_with (first
              | (go_at_call 12; refine (owners_any H5.out.pool).mono ?_; rintro e w6 ⟨g, cg, rfl, hr6, hb6⟩; have HFr : Hid (g ≠ h ∧ ∀ (j : Nat) (e : Ent), E[j]? = some e → e.v.ownBlock ≠ some g) := H5.out.fresh (hr6.lt g rfl).1; have HO : Hid (w6.ownsRow w.heap.size 40 1 (.slice (some ⟨g, 0, none⟩) n cg) n (wrd Y)) := owns_base hr6 H5.out.bel.size; have H6 : Hid (St w w6 w.heap.size q h K n i v E Y Y) := H5.out.below hb6; clear hr6 hb6)
              | (go_at_call 14; refine (rowners_any H6.out.ref).mono ?_; rintro e w7 ⟨g7, c7, rfl, hr7, hb7⟩; have HO7 : Hid (w7.ownsRow w.heap.size 40 1 (.slice (some ⟨g7, 0, none⟩) n c7) n (wrd Y)) := owns_base hr7 H6.out.bel.size; replace HO : Hid (w7.ownsRow w.heap.size 40 1 (.slice (some ⟨g, 0, none⟩) n cg) n (wrd Y)) := owns_below HO.out hb7; have H7 : Hid (St w w7 w.heap.size q h K n i v E Y Y) := H6.out.below hb7; clear hr7 hb7)
              | (go_at_call 13; refine (same_len (own_src HO.out HW.out) (own_src HO7.out HW.out) HYL.out (by omega) _ _).mono ?_; rintro e w8 ⟨rfl, hb8⟩; replace HO : Hid (w8.ownsRow w.heap.size 40 1 (.slice (some ⟨g, 0, none⟩) n cg) n (wrd Y)) := owns_below HO.out hb8; have H8 : Hid (St w w8 w.heap.size q h K n i v E Y Y) := H7.out.below hb8; clear hb8 HO7)
              | (go_at_call 15; refine (left_is H8.out.pool HC.out).mono ?_; rintro e w9 ⟨rfl, hb9⟩; replace HO : Hid (w9.ownsRow w.heap.size 40 1 (.slice (some ⟨g, 0, none⟩) n cg) n (wrd Y)) := owns_below HO.out hb9; have H9 : Hid (St w w9 w.heap.size q h K n i v E Y Y) := H8.out.below hb9; clear hb9)
              | (go_at_call 16; refine (rleft_is H9.out.ref HC.out).mono ?_; rintro e wx ⟨rfl, hwx⟩; obtain rfl := hwx.symm)
              | (go_at_call 17; refine (put_any H9.out.book (by rw [H9.out.many]; omega) (by omega) _ _ _).mono ?_; rintro e w10 ⟨rfl, v', hk10, hu10⟩; have H10 : Hid (St w w10 w.heap.size q h K n (i + 1) v' _ Y Y) := H9.out.put (by omega) HO.out HFr.out.1 HFr.out.2 hk10 hu10; clear hk10 hu10))
            go_roundg g'
            case measure => omega
            case rel => exact ⟨i + 1, _, _, _, by omega, by go_num, H10⟩
end Go.Proofs.YtpdibhgbaclbaaaDoor
