/- 'LinesPlay' walked: whatever is done with lines, each answer, those that call, and those that are masked, are the documented ones. -/
import Derived.Test.YtedheamenlnfkaaPlaySt
import Derived.Test.YtedheamenlnfkaaArgs
namespace Go.Proofs.Ytedheamenlnfkaa
open Go Go.RowKit
set_option maxRecDepth 100000
set_option linter.unusedVariables false
set_option maxHeartbeats 16000000 in
theorem play_any {w : World} {sa : Option Addr} {acts : List (Int × Int)} (ha : Acts w.heap.size w sa acts) (hma : acts.length ≤ maxLen) (ca : Nat) :
    Calls Try.prog 3 #[.slice sa acts.length ca] w fun e w' => e = .returned (.bool true) ∧ Below w.heap.size w w' := by
  unfold maxLen at hma
  obtain ⟨m, hm'⟩ : ∃ m, acts.length = m := ⟨_, rfl⟩
  rw [hm'] at hma ⊢
  have HM : Hid (acts.length = m) := hm'
  have HA : Hid (Acts w.heap.size w sa acts) := ha
  clear hm' ha
  by_cases hbig : 500 < m
  · go_enter Try.func3, Try.ntmps3
    go_wp2
    go_ret
    exact ⟨rfl, Below.refl _ _⟩
  · go_enter Try.func3, Try.ntmps3
    go_wp2_with (first
      | (go_at_call 9; refine new_any.mono ?_; rintro e w1 ⟨rfl, hP1, hb1⟩; have HP1 : Hid (Tab w1 w.heap.size 0 0) := hP1; have HB1 : Hid (Below w.heap.size w w1) := hb1; clear hP1 hb1))
    have HS0 : Hid (St w (w1.alloc (.cells z16 28)) w.heap.size w1.heap.size 0 0 0 0) :=
      ⟨HP1.out.below (alloc_below w1 _), z16_ref w1, (by have := HP1.out.lt; omega), HB1.out.trans ((alloc_below w1 _).mono HB1.out.size), Nat.le_refl _, HB1.out.size⟩
    unfold z16 at HS0
    clear HP1 HB1
    generalize w1.heap.size = q at *
    go_loopg [5] m (fun gk s5 wx => ∃ (i : Nat) (c n : Nat), i + gk = m ∧ s5 = .int .i64 i ∧ Hid (St w wx w.heap.size q c n c n))
    case atStart => exact ⟨0, 0, 0, by omega, rfl, HS0⟩
    case round =>
      clear HS0
      obtain ⟨i, c, n, hig, rfl, HT⟩ := hrel
      cases gk with
      | zero =>
        obtain rfl : i = m := by omega
        have hlt : ¬ ((i : Int) < i) := by omega
        go_wp2
        go_ret
        exact ⟨rfl, HT.out.bel⟩
      | succ g' =>
        have hlt : (i : Int) < m := by omega
        obtain ⟨⟨k, r⟩, hx⟩ : ∃ x, acts[i]? = some x := ⟨_, List.getElem?_eq_getElem (by rw [HM.out]; omega)⟩
        obtain ⟨b, off, rfl, hbl, hc⟩ := (HA.out.below HT.out.bel).spot (by rw [HM.out]; omega)
        obtain ⟨y0, y1⟩ := hc i _ hx
        obtain ⟨hk, hrb⟩ := HA.out.wf i _ hx
        simp only at y0 y1 hk hrb
        clear hc hx
        have hkm : 0 ≤ k % 4 ∧ k % 4 < 4 := by omega
        have hXp : wr.heap.size ≠ w.heap.size := by have := HT.out.tab.lt; omega
        have hXq : wr.heap.size ≠ q := by have := HT.out.ref.lt; omega
        have hXlt : wr.heap.size < (wr.alloc (.cells #[.int .u8 k, .int .i64 r] 30)).heap.size := by rw [alloc_size]; omega
        have hb0 := alloc_below wr (.cells #[.int .u8 k, .int .i64 r] 30)
        have HX : Hid ((wr.alloc (.cells #[.int .u8 k, .int .i64 r] 30)).heap[wr.heap.size]? = some (.cells #[.int .u8 k, .int .i64 r] 30 (0, 0))) := alloc_at wr _
        have H4 : Hid (St w (wr.alloc (.cells #[.int .u8 k, .int .i64 r] 30)) w.heap.size q c n c n) := HT.out.below hb0
        clear hb0
        go_upto_block 2 with fail
        obtain ⟨X, hX⟩ : ∃ X, wr.heap.size = X := ⟨_, rfl⟩
        rw [hX] at HX hXp hXq hXlt
        rw [hX]
        clear hX
        generalize wr.alloc (.cells #[.int .u8 k, .int .i64 r] 30) = w4 at *
        have x0 : w4.cell? ⟨X, 0, none⟩ = some (.int .u8 k) := by rw [cell_of HX.out]; rfl
        have x1 : w4.cell? ⟨X, 1, none⟩ = some (.int .i64 r) := by rw [cell_of HX.out]; rfl
        clear y0 y1 HT
        go_cut [7, 8, 9, 10] from 31 to 80 (fun s7 s8 s9 s10 wx => ∃ c n : Nat, Hid (St w wx w.heap.size q c n c n))
        case first =>
          by_cases hk0 : k % 4 = 0
          · go_wp2
            have H4d : Hid (St w w4.drew w.heap.size q c n c n) := H4.out.below (below_drewN _ 1)
            have HXd : Hid (w4.drew.heap[X]? = some (.cells #[.int .u8 k, .int .i64 r] 30 (0, 0))) := HX.out
            have hXd : X < w4.drew.heap.size := hXlt
            clear H4
            go_region_held3 (fun w' => w'.cell? ⟨X, 1, none⟩ = some (.int .i64 r)) (go_keep) (first
              | (go_at_call 10; refine (raise_any H4d.out.tab r).mono ?_; rintro e w5 ⟨rfl, hr, hb⟩; have H5 : Hid (St w w5 w.heap.size q (raiseC c r) n c n) := H4d.out.setTab hb hr; have hx5 : Hid (w5.heap[X]? = some (.cells #[.int .u8 k, .int .i64 r] 30 (0, 0))) := (hb.block X hXd (one_mem hXp)).trans HXd.out; have xl5 : Hid (X < w5.heap.size) := at_lt hx5.out; have xxw5 : w5.cell? ⟨X, 1, none⟩ = some (.int .i64 r) := (by rw [cell_of hx5.out]; rfl); have xyw5 : w5.cell? ⟨X, 0, none⟩ = some (.int .u8 k) := (by rw [cell_of hx5.out]; rfl); clear hr hb H4d)
              | (go_at_call 10; refine (raise_any G5.out.tab r).mono ?_; rintro e w6 ⟨rfl, hr, hb⟩; have H6 : Hid (St w w6 w.heap.size q (raiseC c r) n (raiseC c r) n) := G5.out.setTab hb hr; have hx6 : Hid (w6.heap[X]? = some (.cells #[.int .u8 k, .int .i64 r] 30 (0, 0))) := (hb.block X xl5.out (one_mem hXp)).trans hx5.out; have xxw6 : w6.cell? ⟨X, 1, none⟩ = some (.int .i64 r) := (by rw [cell_of hx6.out]; rfl); have xyw6 : w6.cell? ⟨X, 0, none⟩ = some (.int .u8 k) := (by rw [cell_of hx6.out]; rfl); clear hr hb G5)
              | (go_at_call 11; refine (rraise_any H5.out.ref r).mono ?_; rintro e w6 ⟨rfl, hr, hb⟩; have H6 : Hid (St w w6 w.heap.size q (raiseC c r) n (raiseC c r) n) := H5.out.setRef hb hr; have hx6 : Hid (w6.heap[X]? = some (.cells #[.int .u8 k, .int .i64 r] 30 (0, 0))) := (hb.block X xl5.out (one_mem hXq)).trans hx5.out; have xxw6 : w6.cell? ⟨X, 1, none⟩ = some (.int .i64 r) := (by rw [cell_of hx6.out]; rfl); have xyw6 : w6.cell? ⟨X, 0, none⟩ = some (.int .u8 k) := (by rw [cell_of hx6.out]; rfl); clear hr hb H5)
              | (go_at_call 11; refine (rraise_any H4d.out.ref r).mono ?_; rintro e w5 ⟨rfl, hr, hb⟩; have G5 : Hid (St w w5 w.heap.size q c n (raiseC c r) n) := H4d.out.setRef hb hr; have hx5 : Hid (w5.heap[X]? = some (.cells #[.int .u8 k, .int .i64 r] 30 (0, 0))) := (hb.block X hXd (one_mem hXq)).trans HXd.out; have xl5 : Hid (X < w5.heap.size) := at_lt hx5.out; have xxw5 : w5.cell? ⟨X, 1, none⟩ = some (.int .i64 r) := (by rw [cell_of hx5.out]; rfl); have xyw5 : w5.cell? ⟨X, 0, none⟩ = some (.int .u8 k) := (by rw [cell_of hx5.out]; rfl); clear hr hb H4d))
            all_goals
              go_wp2
              go_meet
              exact ⟨_, _, H6⟩
          · by_cases hk1 : k % 4 = 1
            · go_wp2
              have H4d : Hid (St w w4.drew w.heap.size q c n c n) := H4.out.below (below_drewN _ 1)
              have HXd : Hid (w4.drew.heap[X]? = some (.cells #[.int .u8 k, .int .i64 r] 30 (0, 0))) := HX.out
              have hXd : X < w4.drew.heap.size := hXlt
              clear H4
              go_region_held3 (fun w' => w'.cell? ⟨X, 0, none⟩ = some (.int .u8 k) ∧ w'.cell? ⟨X, 1, none⟩ = some (.int .i64 r)) (go_keep) (first
                | (go_at_call 12; refine (mask_any H4d.out.tab r (k.tmod 4 == 1)).mono ?_; rintro e w5 ⟨rfl, hr, hb⟩; have H5 : Hid (St w w5 w.heap.size q c (maskM n r (k.tmod 4 == 1)) c n) := H4d.out.setTab hb hr; have hx5 : Hid (w5.heap[X]? = some (.cells #[.int .u8 k, .int .i64 r] 30 (0, 0))) := (hb.block X hXd (one_mem hXp)).trans HXd.out; have xl5 : Hid (X < w5.heap.size) := at_lt hx5.out; have xxw5 : w5.cell? ⟨X, 1, none⟩ = some (.int .i64 r) := (by rw [cell_of hx5.out]; rfl); have xyw5 : w5.cell? ⟨X, 0, none⟩ = some (.int .u8 k) := (by rw [cell_of hx5.out]; rfl); clear hr hb H4d)
                | (go_at_call 12; refine (mask_any G5.out.tab r (k.tmod 4 == 1)).mono ?_; rintro e w6 ⟨rfl, hr, hb⟩; have H6 : Hid (St w w6 w.heap.size q c (maskM n r (k.tmod 4 == 1)) c (maskM n r (k.tmod 4 == 1))) := G5.out.setTab hb hr; have hx6 : Hid (w6.heap[X]? = some (.cells #[.int .u8 k, .int .i64 r] 30 (0, 0))) := (hb.block X xl5.out (one_mem hXp)).trans hx5.out; have xxw6 : w6.cell? ⟨X, 1, none⟩ = some (.int .i64 r) := (by rw [cell_of hx6.out]; rfl); have xyw6 : w6.cell? ⟨X, 0, none⟩ = some (.int .u8 k) := (by rw [cell_of hx6.out]; rfl); clear hr hb G5)
                | (go_at_call 13; refine (rmask_any H5.out.ref r (k.tmod 4 == 1)).mono ?_; rintro e w6 ⟨rfl, hr, hb⟩; have H6 : Hid (St w w6 w.heap.size q c (maskM n r (k.tmod 4 == 1)) c (maskM n r (k.tmod 4 == 1))) := H5.out.setRef hb hr; have hx6 : Hid (w6.heap[X]? = some (.cells #[.int .u8 k, .int .i64 r] 30 (0, 0))) := (hb.block X xl5.out (one_mem hXq)).trans hx5.out; have xxw6 : w6.cell? ⟨X, 1, none⟩ = some (.int .i64 r) := (by rw [cell_of hx6.out]; rfl); have xyw6 : w6.cell? ⟨X, 0, none⟩ = some (.int .u8 k) := (by rw [cell_of hx6.out]; rfl); clear hr hb H5)
                | (go_at_call 13; refine (rmask_any H4d.out.ref r (k.tmod 4 == 1)).mono ?_; rintro e w5 ⟨rfl, hr, hb⟩; have G5 : Hid (St w w5 w.heap.size q c n c (maskM n r (k.tmod 4 == 1))) := H4d.out.setRef hb hr; have hx5 : Hid (w5.heap[X]? = some (.cells #[.int .u8 k, .int .i64 r] 30 (0, 0))) := (hb.block X hXd (one_mem hXq)).trans HXd.out; have xl5 : Hid (X < w5.heap.size) := at_lt hx5.out; have xxw5 : w5.cell? ⟨X, 1, none⟩ = some (.int .i64 r) := (by rw [cell_of hx5.out]; rfl); have xyw5 : w5.cell? ⟨X, 0, none⟩ = some (.int .u8 k) := (by rw [cell_of hx5.out]; rfl); clear hr hb H4d))
              all_goals
                go_wp2
                go_meet
                exact ⟨_, _, H6⟩
            · by_cases hk2 : k % 4 = 2
              · go_wp2
                have H4d : Hid (St w w4.drew w.heap.size q c n c n) := H4.out.below (below_drewN _ 1)
                have HXd : Hid (w4.drew.heap[X]? = some (.cells #[.int .u8 k, .int .i64 r] 30 (0, 0))) := HX.out
                have hXd : X < w4.drew.heap.size := hXlt
                clear H4
                go_region_held3 (fun w' => w'.cell? ⟨X, 0, none⟩ = some (.int .u8 k) ∧ w'.cell? ⟨X, 1, none⟩ = some (.int .i64 r)) (go_keep) (first
                  | (go_at_call 12; refine (mask_any H4d.out.tab r (k.tmod 4 == 1)).mono ?_; rintro e w5 ⟨rfl, hr, hb⟩; have H5 : Hid (St w w5 w.heap.size q c (maskM n r (k.tmod 4 == 1)) c n) := H4d.out.setTab hb hr; have hx5 : Hid (w5.heap[X]? = some (.cells #[.int .u8 k, .int .i64 r] 30 (0, 0))) := (hb.block X hXd (one_mem hXp)).trans HXd.out; have xl5 : Hid (X < w5.heap.size) := at_lt hx5.out; have xxw5 : w5.cell? ⟨X, 1, none⟩ = some (.int .i64 r) := (by rw [cell_of hx5.out]; rfl); have xyw5 : w5.cell? ⟨X, 0, none⟩ = some (.int .u8 k) := (by rw [cell_of hx5.out]; rfl); clear hr hb H4d)
                  | (go_at_call 12; refine (mask_any G5.out.tab r (k.tmod 4 == 1)).mono ?_; rintro e w6 ⟨rfl, hr, hb⟩; have H6 : Hid (St w w6 w.heap.size q c (maskM n r (k.tmod 4 == 1)) c (maskM n r (k.tmod 4 == 1))) := G5.out.setTab hb hr; have hx6 : Hid (w6.heap[X]? = some (.cells #[.int .u8 k, .int .i64 r] 30 (0, 0))) := (hb.block X xl5.out (one_mem hXp)).trans hx5.out; have xxw6 : w6.cell? ⟨X, 1, none⟩ = some (.int .i64 r) := (by rw [cell_of hx6.out]; rfl); have xyw6 : w6.cell? ⟨X, 0, none⟩ = some (.int .u8 k) := (by rw [cell_of hx6.out]; rfl); clear hr hb G5)
                  | (go_at_call 13; refine (rmask_any H5.out.ref r (k.tmod 4 == 1)).mono ?_; rintro e w6 ⟨rfl, hr, hb⟩; have H6 : Hid (St w w6 w.heap.size q c (maskM n r (k.tmod 4 == 1)) c (maskM n r (k.tmod 4 == 1))) := H5.out.setRef hb hr; have hx6 : Hid (w6.heap[X]? = some (.cells #[.int .u8 k, .int .i64 r] 30 (0, 0))) := (hb.block X xl5.out (one_mem hXq)).trans hx5.out; have xxw6 : w6.cell? ⟨X, 1, none⟩ = some (.int .i64 r) := (by rw [cell_of hx6.out]; rfl); have xyw6 : w6.cell? ⟨X, 0, none⟩ = some (.int .u8 k) := (by rw [cell_of hx6.out]; rfl); clear hr hb H5)
                  | (go_at_call 13; refine (rmask_any H4d.out.ref r (k.tmod 4 == 1)).mono ?_; rintro e w5 ⟨rfl, hr, hb⟩; have G5 : Hid (St w w5 w.heap.size q c n c (maskM n r (k.tmod 4 == 1))) := H4d.out.setRef hb hr; have hx5 : Hid (w5.heap[X]? = some (.cells #[.int .u8 k, .int .i64 r] 30 (0, 0))) := (hb.block X hXd (one_mem hXq)).trans HXd.out; have xl5 : Hid (X < w5.heap.size) := at_lt hx5.out; have xxw5 : w5.cell? ⟨X, 1, none⟩ = some (.int .i64 r) := (by rw [cell_of hx5.out]; rfl); have xyw5 : w5.cell? ⟨X, 0, none⟩ = some (.int .u8 k) := (by rw [cell_of hx5.out]; rfl); clear hr hb H4d))
                all_goals
                  go_wp2
                  go_meet
                  exact ⟨_, _, H6⟩
              · have hk3 : k % 4 = 3 := by omega
                go_wp2_with (first
                  | (go_at_call 14; refine (next_any H4.out.tab).mono ?_; rintro e w5 ⟨rfl, hr, hb⟩; have H5 : Hid (St w w5 w.heap.size q (nextC c n) n c n) := H4.out.setTab hb hr; clear hr hb)
                  | (go_at_call 15; refine (rnext_any H5.out.ref).mono ?_; rintro e w6 ⟨rfl, hr, hb⟩; have H6 : Hid (St w w6 w.heap.size q (nextC c n) n (nextC c n) n) := H5.out.setRef hb hr; clear hr hb))
                go_meet
                exact ⟨_, _, H6⟩
        case rest =>
          obtain ⟨c', n', H5⟩ := hcut
          clear H4 HX x0 x1 hXp hXq hXlt
          go_wp2_with (first
            | (go_at_call 16; refine (calls_any H5.out.tab).mono ?_; rintro e wx ⟨rfl, hwx⟩; obtain rfl := hwx.symm)
            | (go_at_call 17; refine (rcalls_any H5.out.ref).mono ?_; rintro e w6 ⟨rfl, hb⟩; have H6 : Hid (St w w6 w.heap.size q c' n' c' n') := H5.out.below hb; clear hb H5)
            | (go_at_call 18; refine (masks_any H6.out.tab).mono ?_; rintro e wx ⟨rfl, hwx⟩; obtain rfl := hwx.symm)
            | (go_at_call 19; refine (rmasks_any H6.out.ref).mono ?_; rintro e w7 ⟨rfl, hb⟩; have H7 : Hid (St w w7 w.heap.size q c' n' c' n') := H6.out.below hb; clear hb H6))
          go_roundg g'
          case measure => omega
          case rel => exact ⟨i + 1, _, _, by omega, by go_num, H7⟩
end Go.Proofs.Ytedheamenlnfkaa
