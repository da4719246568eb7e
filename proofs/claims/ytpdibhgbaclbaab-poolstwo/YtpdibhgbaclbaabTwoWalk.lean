/- 'PoolsTwo' walked: two pools have nothing in common; what is refused changes nothing. -/
import Derived.Test.YtpdibhgbaclbaabMore
namespace Go.Proofs.Ytpdibhgbaclbaab
open Go Go.RowKit
set_option maxRecDepth 100000
set_option linter.unusedVariables false
/-- both pools, and what the second one told at first -/
structure Twos (w wx : World) (p r n g0 c0 : Nat) (Z : List Int) : Prop where
  one : Pool wx p n Z
  two : Pool wx r n (List.replicate n 0)
  row : wx.ownsRow w.heap.size 28 1 (.slice (some ⟨g0, 0, none⟩) n c0) n (wrd (List.replicate n 0))
  bel : Below w.heap.size w wx
  ne : r ≠ p
  lo : w.heap.size ≤ p
theorem Twos.below {w wx w' : World} {p r n g0 c0 : Nat} {Z : List Int} (h : Twos w wx p r n g0 c0 Z) (hb : Below wx.heap.size wx w') : Twos w w' p r n g0 c0 Z :=
  ⟨h.one.below hb, h.two.below hb, owns_below h.row hb, h.bel.trans (hb.mono h.bel.size), h.ne, h.lo⟩
theorem Twos.but {w wx w' : World} {p r n g0 c0 : Nat} {Z Z' : List Int} (h : Twos w wx p r n g0 c0 Z) (hb : But p wx w') (hp : Pool w' p n Z') : Twos w w' p r n g0 c0 Z' :=
  ⟨hp, h.two.but hb h.ne, owns_but h.row h.one hb, h.bel.trans (hb.below h.lo h.bel.size), h.ne, h.lo⟩
theorem cnt_zeros (n : Nat) : cnt 0 (List.replicate n 0) = n := by
  have h : cnt 0 (List.replicate n 0) = (List.replicate n (0 : Int)).length := List.countP_eq_length.2 (fun a ha => by rw [(List.mem_replicate.1 ha).2]; rfl)
  rw [h, List.length_replicate]
theorem isW_zeros (n : Nat) : isW (List.replicate n 0) := isW_zero n
set_option maxHeartbeats 16000000 in
theorem two_walk (m : Int) (hm : 0 ≤ m ∧ m ≤ 255) {sp : Option Addr} {acts : List (Int × Int × Int)} (w : World) (hs : Acts w.heap.size w sp acts) (hl : acts.length ≤ maxLen) (cap : Nat) :
    Calls Try.prog 3 #[.int .u8 m, .slice sp acts.length cap] w fun e w' => e = .returned (.bool true) ∧ Below w.heap.size w w' := by
  unfold maxLen at hl
  obtain ⟨n, hn⟩ := Int.eq_ofNat_of_zero_le (a := 1 + m % 64) (by omega)
  have HN : Hid ((n : Int) = 1 + m % 64) := hn.symm
  have h1 : 1 ≤ n := by omega
  have h2 : n ≤ 64 := by omega
  obtain ⟨q, hq⟩ : ∃ q, acts.length = q := ⟨_, rfl⟩
  rw [hq] at hl ⊢
  have HQ : Hid (acts.length = q) := hq
  have HS : Hid (Acts w.heap.size w sp acts) := hs
  clear hq hs
  by_cases hbig : 60 < q
  · go_enter Try.func3, Try.ntmps3
    go_wp2_with (first
      | (go_at_call 5; clear M1; refine (alive_any _).mono ?_; rintro e w2 ⟨rfl, hb2⟩)
      | (go_at_call 5; refine (alive_any _).mono ?_; rintro e w1 ⟨rfl, hB⟩; have M1 := True.intro))
    go_ret
    exact ⟨rfl, hB.trans (hb2.mono hB.size)⟩
  · go_enter Try.func3, Try.ntmps3
    go_wp2_with (first
      | (go_at_call 5; refine (alive_any _).mono ?_; rintro e w1 ⟨rfl, hB⟩)
      | (go_at_call 6; clear M1; refine (of_any m hm n HN.out).mono ?_; rintro e w3 ⟨rfl, hP3, hb3⟩; have HP : Hid (Pool w3 p n (List.replicate n 0)) := HP1.out.below hb3; have HR : Hid (Pool w3 w2.heap.size n (List.replicate n 0)) := hP3; have hne : w2.heap.size ≠ p := (by have := HP1.out.lt; omega); replace hB := hB.trans (hb3.mono hB.size); clear hP3 hb3 HP1; generalize w2.heap.size = r at *)
      | (go_at_call 6; refine (of_any m hm n HN.out).mono ?_; rintro e w2 ⟨rfl, hP2, hb2⟩; have HP1 : Hid (Pool w2 w1.heap.size n (List.replicate n 0)) := hP2; have hp0 := hB.size; replace hB := hB.trans (hb2.mono hB.size); clear hP2 hb2; generalize w1.heap.size = p at *; have M1 := True.intro)
      | (go_at_call 7; refine (owners_any HR.out).mono ?_; rintro e w4 ⟨g0, c0, rfl, hr0, hb4⟩; have HT0 : Hid (Twos w w4 p r n g0 c0 (List.replicate n 0)) := ⟨HP.out.below hb4, HR.out.below hb4, owns_base hr0 hB.size, hB.trans (hb4.mono hB.size), hne, hp0⟩; clear hr0 hb4 HP HR hB))
    go_loopg [8] q (fun gk s8 wx => ∃ (i : Nat) (Z : List Int), i + gk = q ∧ s8 = .int .i64 i ∧ Hid (Twos w wx p r n g0 c0 Z))
    case atStart => exact ⟨0, _, by omega, rfl, HT0⟩
    case round =>
      clear HT0
      obtain ⟨i, Z, hig, rfl, HT⟩ := hrel
      cases gk with
      | zero =>
        obtain rfl : i = q := by omega
        have hlt : ¬ ((i : Int) < i) := by omega
        have ZC : Hid (cnt 0 (List.replicate n 0) = n) := cnt_zeros n
        go_wp2_with (first
          | (go_at_call 7; refine (owners_any HT.out.two).mono ?_; rintro e w5 ⟨g5, c5, rfl, hr5, hb5⟩; have HT5 : Hid (Twos w w5 p r n g0 c0 Z) := HT.out.below hb5; have HR5 : Hid (w5.ownsRow wr.heap.size 28 1 (.slice (some ⟨g5, 0, none⟩) n c5) n (wrd (List.replicate n 0))) := hr5; clear hr5 hb5)
          | (go_at_call 11; refine (same_len (own_src HR5.out (isW_zeros n)) (own_src HT5.out.row (isW_zeros n)) (by simp) (by omega) _ _).mono ?_; rintro e w6 ⟨rfl, hb6⟩; have HT6 : Hid (Twos w w6 p r n g0 c0 Z) := HT5.out.below hb6; clear hb6)
          | (go_at_call 12; refine (left_is HT6.out.two ZC.out).mono ?_; rintro e w7 ⟨rfl, hb7⟩; have HT7 : Hid (Twos w w7 p r n g0 c0 Z) := HT6.out.below hb7; clear hb7))
        go_ret
        exact ⟨rfl, HT7.out.bel⟩
      | succ g' =>
        have hlt : (i : Int) < q := by omega
        obtain ⟨⟨k, who, blk⟩, hx⟩ : ∃ x, acts[i]? = some x := ⟨_, List.getElem?_eq_getElem (by rw [HQ.out]; omega)⟩
        obtain ⟨b, off, rfl, hbl, hc⟩ := (HS.out.below HT.out.bel).spot (by rw [HQ.out]; omega)
        obtain ⟨y0, y1, y2⟩ := hc i _ hx
        obtain ⟨hk, hwho, hblk⟩ := HS.out.wf i _ hx
        simp only at y0 y1 y2 hk hwho hblk
        clear hc hx
        have hkm : 0 ≤ k % 4 ∧ k % 4 < 4 := by omega
        have HZL : Hid (Z.length = n) := HT.out.one.len
        have HW : Hid (isW Z) := HT.out.one.wf
        by_cases hk3 : k % 4 = 3
        · by_cases hw : who = 0
          · subst hw
            have hb0 := alloc_below wr (.cells #[.int .u8 k, .int .u32 0, .int .i64 blk] 30)
            have HX0 : Hid ((wr.alloc (.cells #[.int .u8 k, .int .u32 0, .int .i64 blk] 30)).heap[wr.heap.size]? = some (.cells #[.int .u8 k, .int .u32 0, .int .i64 blk] 30 (0, 0))) := alloc_at wr _
            have H0 : Hid (Twos w (wr.alloc (.cells #[.int .u8 k, .int .u32 0, .int .i64 blk] 30)) p r n g0 c0 Z) := HT.out.below hb0
            clear hb0
            have M0 := True.intro
            go_wp2_with (first
              | (go_at_call 7; clear M0; refine (owners_any H0.out.one).mono ?_; rintro e w4 ⟨g1, c1, rfl, hr, hb4⟩; have HR : Hid (w4.ownsRow w.heap.size 28 1 (.slice (some ⟨g1, 0, none⟩) n c1) n (wrd Z)) := owns_base hr H0.out.bel.size; have H4 : Hid (Twos w w4 p r n g0 c0 Z) := H0.out.below hb4; have HX : Hid (w4.heap[wr.heap.size]? = some (.cells #[.int .u8 k, .int .u32 0, .int .i64 blk] 30 (0, 0))) := (hb4.block _ (at_lt HX0.out)).trans HX0.out; have x0 : w4.cell? ⟨wr.heap.size, 0, none⟩ = some (.int .u8 k) := (by rw [cell_of HX.out]; rfl); have x1 : w4.cell? ⟨wr.heap.size, 1, none⟩ = some (.int .u32 0) := (by rw [cell_of HX.out]; rfl); have x2 : w4.cell? ⟨wr.heap.size, 2, none⟩ = some (.int .i64 blk) := (by rw [cell_of HX.out]; rfl); clear hr hb4)
              | (go_at_call 10; refine (all_nobody _).mono ?_; rintro e w5 ⟨rfl, hb5⟩; have H5 : Hid (Twos w w5 p r n g0 c0 Z) := H4.out.below hb5; replace HR : Hid (w5.ownsRow w.heap.size 28 1 (.slice (some ⟨g1, 0, none⟩) n c1) n (wrd Z)) := owns_below HR.out hb5; clear hb5))
            go_roundg g'
            case measure => omega
            case rel => exact ⟨i + 1, _, by omega, by go_num, H5⟩
          · have hw0 : 0 < who := by omega
            have hb0 := alloc_below wr (.cells #[.int .u8 k, .int .u32 who, .int .i64 blk] 30)
            have HX0 : Hid ((wr.alloc (.cells #[.int .u8 k, .int .u32 who, .int .i64 blk] 30)).heap[wr.heap.size]? = some (.cells #[.int .u8 k, .int .u32 who, .int .i64 blk] 30 (0, 0))) := alloc_at wr _
            have H0 : Hid (Twos w (wr.alloc (.cells #[.int .u8 k, .int .u32 who, .int .i64 blk] 30)) p r n g0 c0 Z) := HT.out.below hb0
            clear hb0
            have M0 := True.intro
            go_wp2_with (first
              | (go_at_call 7; clear M0; refine (owners_any H0.out.one).mono ?_; rintro e w4 ⟨g1, c1, rfl, hr, hb4⟩; have HR : Hid (w4.ownsRow w.heap.size 28 1 (.slice (some ⟨g1, 0, none⟩) n c1) n (wrd Z)) := owns_base hr H0.out.bel.size; have H4 : Hid (Twos w w4 p r n g0 c0 Z) := H0.out.below hb4; have HX : Hid (w4.heap[wr.heap.size]? = some (.cells #[.int .u8 k, .int .u32 who, .int .i64 blk] 30 (0, 0))) := (hb4.block _ (at_lt HX0.out)).trans HX0.out; have x0 : w4.cell? ⟨wr.heap.size, 0, none⟩ = some (.int .u8 k) := (by rw [cell_of HX.out]; rfl); have x1 : w4.cell? ⟨wr.heap.size, 1, none⟩ = some (.int .u32 who) := (by rw [cell_of HX.out]; rfl); have x2 : w4.cell? ⟨wr.heap.size, 2, none⟩ = some (.int .i64 blk) := (by rw [cell_of HX.out]; rfl); clear hr hb4)
              | (go_at_call 10; refine (all_any H4.out.one who hw0).mono ?_; rintro e w5 ⟨rfl, hp5, hb5⟩; have HF : Hid (Twos w w5 p r n g0 c0 (clr who Z)) := H4.out.but hb5 hp5; clear hb5 hp5))
            go_roundg g'
            case measure => omega
            case rel => exact ⟨i + 1, _, by omega, by go_num, HF⟩
        · by_cases hk2 : k % 4 = 2
          · by_cases hno : who = 0 ∨ blk < 0 ∨ (n : Int) ≤ blk
            · have hb0 := alloc_below wr (.cells #[.int .u8 k, .int .u32 who, .int .i64 blk] 30)
              have HX0 : Hid ((wr.alloc (.cells #[.int .u8 k, .int .u32 who, .int .i64 blk] 30)).heap[wr.heap.size]? = some (.cells #[.int .u8 k, .int .u32 who, .int .i64 blk] 30 (0, 0))) := alloc_at wr _
              have H0 : Hid (Twos w (wr.alloc (.cells #[.int .u8 k, .int .u32 who, .int .i64 blk] 30)) p r n g0 c0 Z) := HT.out.below hb0
              clear hb0
              have M0 := True.intro
              go_wp2_with (first
                | (go_at_call 7; clear M0; refine (owners_any H0.out.one).mono ?_; rintro e w4 ⟨g1, c1, rfl, hr, hb4⟩; have HR : Hid (w4.ownsRow w.heap.size 28 1 (.slice (some ⟨g1, 0, none⟩) n c1) n (wrd Z)) := owns_base hr H0.out.bel.size; have H4 : Hid (Twos w w4 p r n g0 c0 Z) := H0.out.below hb4; have HX : Hid (w4.heap[wr.heap.size]? = some (.cells #[.int .u8 k, .int .u32 who, .int .i64 blk] 30 (0, 0))) := (hb4.block _ (at_lt HX0.out)).trans HX0.out; have x0 : w4.cell? ⟨wr.heap.size, 0, none⟩ = some (.int .u8 k) := (by rw [cell_of HX.out]; rfl); have x1 : w4.cell? ⟨wr.heap.size, 1, none⟩ = some (.int .u32 who) := (by rw [cell_of HX.out]; rfl); have x2 : w4.cell? ⟨wr.heap.size, 2, none⟩ = some (.int .i64 blk) := (by rw [cell_of HX.out]; rfl); clear hr hb4)
                | (go_at_call 9; refine (free_no H4.out.one who blk hwho.1 hno).mono ?_; rintro e wx ⟨rfl, rfl⟩; have H5 := H4)
                | (go_at_call 7; refine (owners_any H5.out.one).mono ?_; rintro e w6 ⟨g2, c2, rfl, hr2, hb6⟩; have HR2 : Hid (w6.ownsRow w.heap.size 28 1 (.slice (some ⟨g2, 0, none⟩) n c2) n (wrd Z)) := owns_base hr2 H5.out.bel.size; replace HR : Hid (w6.ownsRow w.heap.size 28 1 (.slice (some ⟨g1, 0, none⟩) n c1) n (wrd Z)) := owns_below HR.out hb6; have H6 : Hid (Twos w w6 p r n g0 c0 Z) := H5.out.below hb6; clear hr2 hb6)
                | (go_at_call 11; refine (same_len (own_src HR2.out HW.out) (own_src HR.out HW.out) HZL.out (by omega) _ _).mono ?_; rintro e w7 ⟨rfl, hb7⟩; have HF : Hid (Twos w w7 p r n g0 c0 Z) := H6.out.below hb7; clear hb7))
              go_roundg g'
              case measure => omega
              case rel => exact ⟨i + 1, _, by omega, by go_num, HF⟩
            · obtain ⟨bi, rfl⟩ := Int.eq_ofNat_of_zero_le (a := blk) (by omega)
              have hbi : bi < n := by omega
              have hw0 : 0 < who := by omega
              clear hno
              by_cases ho : Z.getD bi 0 = who
              · have HO : Hid (Z.getD bi 0 = who) := ho
                clear ho
                have hb0 := alloc_below wr (.cells #[.int .u8 k, .int .u32 who, .int .i64 (bi : Int)] 30)
                have HX0 : Hid ((wr.alloc (.cells #[.int .u8 k, .int .u32 who, .int .i64 (bi : Int)] 30)).heap[wr.heap.size]? = some (.cells #[.int .u8 k, .int .u32 who, .int .i64 (bi : Int)] 30 (0, 0))) := alloc_at wr _
                have H0 : Hid (Twos w (wr.alloc (.cells #[.int .u8 k, .int .u32 who, .int .i64 (bi : Int)] 30)) p r n g0 c0 Z) := HT.out.below hb0
                clear hb0
                have M0 := True.intro
                go_wp2_with (first
                  | (go_at_call 7; clear M0; refine (owners_any H0.out.one).mono ?_; rintro e w4 ⟨g1, c1, rfl, hr, hb4⟩; have HR : Hid (w4.ownsRow w.heap.size 28 1 (.slice (some ⟨g1, 0, none⟩) n c1) n (wrd Z)) := owns_base hr H0.out.bel.size; have H4 : Hid (Twos w w4 p r n g0 c0 Z) := H0.out.below hb4; have HX : Hid (w4.heap[wr.heap.size]? = some (.cells #[.int .u8 k, .int .u32 who, .int .i64 (bi : Int)] 30 (0, 0))) := (hb4.block _ (at_lt HX0.out)).trans HX0.out; have x0 : w4.cell? ⟨wr.heap.size, 0, none⟩ = some (.int .u8 k) := (by rw [cell_of HX.out]; rfl); have x1 : w4.cell? ⟨wr.heap.size, 1, none⟩ = some (.int .u32 who) := (by rw [cell_of HX.out]; rfl); have x2 : w4.cell? ⟨wr.heap.size, 2, none⟩ = some (.int .i64 (bi : Int)) := (by rw [cell_of HX.out]; rfl); clear hr hb4)
                  | (go_at_call 9; refine (free_yes H4.out.one who bi hw0 hbi HO.out).mono ?_; rintro e w5 ⟨rfl, hp5, hb5⟩; have HF : Hid (Twos w w5 p r n g0 c0 (Z.set bi 0)) := H4.out.but hb5 hp5; clear hb5 hp5))
                go_roundg g'
                case measure => omega
                case rel => exact ⟨i + 1, _, by omega, by go_num, HF⟩
              · have HO : Hid (Z.getD bi 0 ≠ who) := ho
                clear ho
                have hb0 := alloc_below wr (.cells #[.int .u8 k, .int .u32 who, .int .i64 (bi : Int)] 30)
                have HX0 : Hid ((wr.alloc (.cells #[.int .u8 k, .int .u32 who, .int .i64 (bi : Int)] 30)).heap[wr.heap.size]? = some (.cells #[.int .u8 k, .int .u32 who, .int .i64 (bi : Int)] 30 (0, 0))) := alloc_at wr _
                have H0 : Hid (Twos w (wr.alloc (.cells #[.int .u8 k, .int .u32 who, .int .i64 (bi : Int)] 30)) p r n g0 c0 Z) := HT.out.below hb0
                clear hb0
                have M0 := True.intro
                go_wp2_with (first
                  | (go_at_call 7; clear M0; refine (owners_any H0.out.one).mono ?_; rintro e w4 ⟨g1, c1, rfl, hr, hb4⟩; have HR : Hid (w4.ownsRow w.heap.size 28 1 (.slice (some ⟨g1, 0, none⟩) n c1) n (wrd Z)) := owns_base hr H0.out.bel.size; have H4 : Hid (Twos w w4 p r n g0 c0 Z) := H0.out.below hb4; have HX : Hid (w4.heap[wr.heap.size]? = some (.cells #[.int .u8 k, .int .u32 who, .int .i64 (bi : Int)] 30 (0, 0))) := (hb4.block _ (at_lt HX0.out)).trans HX0.out; have x0 : w4.cell? ⟨wr.heap.size, 0, none⟩ = some (.int .u8 k) := (by rw [cell_of HX.out]; rfl); have x1 : w4.cell? ⟨wr.heap.size, 1, none⟩ = some (.int .u32 who) := (by rw [cell_of HX.out]; rfl); have x2 : w4.cell? ⟨wr.heap.size, 2, none⟩ = some (.int .i64 (bi : Int)) := (by rw [cell_of HX.out]; rfl); clear hr hb4)
                  | (go_at_call 9; refine (free_other H4.out.one who bi hw0 hbi HO.out).mono ?_; rintro e wx ⟨rfl, rfl⟩; have H5 := H4)
                  | (go_at_call 7; refine (owners_any H5.out.one).mono ?_; rintro e w6 ⟨g2, c2, rfl, hr2, hb6⟩; have HR2 : Hid (w6.ownsRow w.heap.size 28 1 (.slice (some ⟨g2, 0, none⟩) n c2) n (wrd Z)) := owns_base hr2 H5.out.bel.size; replace HR : Hid (w6.ownsRow w.heap.size 28 1 (.slice (some ⟨g1, 0, none⟩) n c1) n (wrd Z)) := owns_below HR.out hb6; have H6 : Hid (Twos w w6 p r n g0 c0 Z) := H5.out.below hb6; clear hr2 hb6)
                  | (go_at_call 11; refine (same_len (own_src HR2.out HW.out) (own_src HR.out HW.out) HZL.out (by omega) _ _).mono ?_; rintro e w7 ⟨rfl, hb7⟩; have HF : Hid (Twos w w7 p r n g0 c0 Z) := H6.out.below hb7; clear hb7))
                go_roundg g'
                case measure => omega
                case rel => exact ⟨i + 1, _, by omega, by go_num, HF⟩
          · have hk01 : k % 4 = 0 ∨ k % 4 = 1 := by omega
            by_cases hw : who = 0
            · subst hw
              have hb0 := alloc_below wr (.cells #[.int .u8 k, .int .u32 0, .int .i64 blk] 30)
              have HX0 : Hid ((wr.alloc (.cells #[.int .u8 k, .int .u32 0, .int .i64 blk] 30)).heap[wr.heap.size]? = some (.cells #[.int .u8 k, .int .u32 0, .int .i64 blk] 30 (0, 0))) := alloc_at wr _
              have H0 : Hid (Twos w (wr.alloc (.cells #[.int .u8 k, .int .u32 0, .int .i64 blk] 30)) p r n g0 c0 Z) := HT.out.below hb0
              clear hb0
              have M0 := True.intro
              rcases hk01 with hk0 | hk1
              all_goals
                go_wp2_with (first
                  | (go_at_call 7; clear M0; refine (owners_any H0.out.one).mono ?_; rintro e w4 ⟨g1, c1, rfl, hr, hb4⟩; have HR : Hid (w4.ownsRow w.heap.size 28 1 (.slice (some ⟨g1, 0, none⟩) n c1) n (wrd Z)) := owns_base hr H0.out.bel.size; have H4 : Hid (Twos w w4 p r n g0 c0 Z) := H0.out.below hb4; have HX : Hid (w4.heap[wr.heap.size]? = some (.cells #[.int .u8 k, .int .u32 0, .int .i64 blk] 30 (0, 0))) := (hb4.block _ (at_lt HX0.out)).trans HX0.out; have x0 : w4.cell? ⟨wr.heap.size, 0, none⟩ = some (.int .u8 k) := (by rw [cell_of HX.out]; rfl); have x1 : w4.cell? ⟨wr.heap.size, 1, none⟩ = some (.int .u32 0) := (by rw [cell_of HX.out]; rfl); have x2 : w4.cell? ⟨wr.heap.size, 2, none⟩ = some (.int .i64 blk) := (by rw [cell_of HX.out]; rfl); clear hr hb4)
                  | (go_at_call 8; refine (alloc_nobody H4.out.one).mono ?_; rintro e w5 ⟨rfl, hb5⟩; have H5 : Hid (Twos w w5 p r n g0 c0 Z) := H4.out.below hb5; replace HR : Hid (w5.ownsRow w.heap.size 28 1 (.slice (some ⟨g1, 0, none⟩) n c1) n (wrd Z)) := owns_below HR.out hb5; clear hb5)
                  | (go_at_call 7; refine (owners_any H5.out.one).mono ?_; rintro e w6 ⟨g2, c2, rfl, hr2, hb6⟩; have HR2 : Hid (w6.ownsRow w.heap.size 28 1 (.slice (some ⟨g2, 0, none⟩) n c2) n (wrd Z)) := owns_base hr2 H5.out.bel.size; replace HR : Hid (w6.ownsRow w.heap.size 28 1 (.slice (some ⟨g1, 0, none⟩) n c1) n (wrd Z)) := owns_below HR.out hb6; have H6 : Hid (Twos w w6 p r n g0 c0 Z) := H5.out.below hb6; clear hr2 hb6)
                  | (go_at_call 11; refine (same_len (own_src HR2.out HW.out) (own_src HR.out HW.out) HZL.out (by omega) _ _).mono ?_; rintro e w7 ⟨rfl, hb7⟩; have HF : Hid (Twos w w7 p r n g0 c0 Z) := H6.out.below hb7; clear hb7))
                go_roundg g'
                case measure => omega
                case rel => exact ⟨i + 1, _, by omega, by go_num, HF⟩
            · have hw0 : 0 < who := by omega
              rcases first_free Z n with ⟨bi, hbi, hz0, hzm⟩ | hf
              · have HZ0 : Hid (Z.getD bi 0 = 0) := hz0
                have HZM : Hid (∀ j, j < bi → Z.getD j 0 ≠ 0) := hzm
                clear hz0 hzm
                have hb0 := alloc_below wr (.cells #[.int .u8 k, .int .u32 who, .int .i64 blk] 30)
                have HX0 : Hid ((wr.alloc (.cells #[.int .u8 k, .int .u32 who, .int .i64 blk] 30)).heap[wr.heap.size]? = some (.cells #[.int .u8 k, .int .u32 who, .int .i64 blk] 30 (0, 0))) := alloc_at wr _
                have H0 : Hid (Twos w (wr.alloc (.cells #[.int .u8 k, .int .u32 who, .int .i64 blk] 30)) p r n g0 c0 Z) := HT.out.below hb0
                clear hb0
                have M0 := True.intro
                rcases hk01 with hk0 | hk1
                all_goals
                  go_wp2_with (first
                    | (go_at_call 7; clear M0; refine (owners_any H0.out.one).mono ?_; rintro e w4 ⟨g1, c1, rfl, hr, hb4⟩; have HR : Hid (w4.ownsRow w.heap.size 28 1 (.slice (some ⟨g1, 0, none⟩) n c1) n (wrd Z)) := owns_base hr H0.out.bel.size; have H4 : Hid (Twos w w4 p r n g0 c0 Z) := H0.out.below hb4; have HX : Hid (w4.heap[wr.heap.size]? = some (.cells #[.int .u8 k, .int .u32 who, .int .i64 blk] 30 (0, 0))) := (hb4.block _ (at_lt HX0.out)).trans HX0.out; have x0 : w4.cell? ⟨wr.heap.size, 0, none⟩ = some (.int .u8 k) := (by rw [cell_of HX.out]; rfl); have x1 : w4.cell? ⟨wr.heap.size, 1, none⟩ = some (.int .u32 who) := (by rw [cell_of HX.out]; rfl); have x2 : w4.cell? ⟨wr.heap.size, 2, none⟩ = some (.int .i64 blk) := (by rw [cell_of HX.out]; rfl); clear hr hb4)
                    | (go_at_call 8; refine (alloc_yes H4.out.one who ⟨hw0, hwho.2⟩ bi hbi HZ0.out HZM.out).mono ?_; rintro e w5 ⟨rfl, hp5, hb5⟩; have HF : Hid (Twos w w5 p r n g0 c0 (Z.set bi who)) := H4.out.but hb5 hp5; clear hb5 hp5))
                  go_roundg g'
                  case measure => omega
                  case rel => exact ⟨i + 1, _, by omega, by go_num, HF⟩
              · have HFF : Hid (∀ j, j < n → Z.getD j 0 ≠ 0) := hf
                clear hf
                have hb0 := alloc_below wr (.cells #[.int .u8 k, .int .u32 who, .int .i64 blk] 30)
                have HX0 : Hid ((wr.alloc (.cells #[.int .u8 k, .int .u32 who, .int .i64 blk] 30)).heap[wr.heap.size]? = some (.cells #[.int .u8 k, .int .u32 who, .int .i64 blk] 30 (0, 0))) := alloc_at wr _
                have H0 : Hid (Twos w (wr.alloc (.cells #[.int .u8 k, .int .u32 who, .int .i64 blk] 30)) p r n g0 c0 Z) := HT.out.below hb0
                clear hb0
                have M0 := True.intro
                rcases hk01 with hk0 | hk1
                all_goals
                  go_wp2_with (first
                    | (go_at_call 7; clear M0; refine (owners_any H0.out.one).mono ?_; rintro e w4 ⟨g1, c1, rfl, hr, hb4⟩; have HR : Hid (w4.ownsRow w.heap.size 28 1 (.slice (some ⟨g1, 0, none⟩) n c1) n (wrd Z)) := owns_base hr H0.out.bel.size; have H4 : Hid (Twos w w4 p r n g0 c0 Z) := H0.out.below hb4; have HX : Hid (w4.heap[wr.heap.size]? = some (.cells #[.int .u8 k, .int .u32 who, .int .i64 blk] 30 (0, 0))) := (hb4.block _ (at_lt HX0.out)).trans HX0.out; have x0 : w4.cell? ⟨wr.heap.size, 0, none⟩ = some (.int .u8 k) := (by rw [cell_of HX.out]; rfl); have x1 : w4.cell? ⟨wr.heap.size, 1, none⟩ = some (.int .u32 who) := (by rw [cell_of HX.out]; rfl); have x2 : w4.cell? ⟨wr.heap.size, 2, none⟩ = some (.int .i64 blk) := (by rw [cell_of HX.out]; rfl); clear hr hb4)
                    | (go_at_call 8; refine (alloc_full H4.out.one who ⟨hw0, hwho.2⟩ HFF.out).mono ?_; rintro e w5 ⟨rfl, hb5⟩; have H5 : Hid (Twos w w5 p r n g0 c0 Z) := H4.out.below hb5; replace HR : Hid (w5.ownsRow w.heap.size 28 1 (.slice (some ⟨g1, 0, none⟩) n c1) n (wrd Z)) := owns_below HR.out hb5; clear hb5)
                    | (go_at_call 7; refine (owners_any H5.out.one).mono ?_; rintro e w6 ⟨g2, c2, rfl, hr2, hb6⟩; have HR2 : Hid (w6.ownsRow w.heap.size 28 1 (.slice (some ⟨g2, 0, none⟩) n c2) n (wrd Z)) := owns_base hr2 H5.out.bel.size; replace HR : Hid (w6.ownsRow w.heap.size 28 1 (.slice (some ⟨g1, 0, none⟩) n c1) n (wrd Z)) := owns_below HR.out hb6; have H6 : Hid (Twos w w6 p r n g0 c0 Z) := H5.out.below hb6; clear hr2 hb6)
                    | (go_at_call 11; refine (same_len (own_src HR2.out HW.out) (own_src HR.out HW.out) HZL.out (by omega) _ _).mono ?_; rintro e w7 ⟨rfl, hb7⟩; have HF : Hid (Twos w w7 p r n g0 c0 Z) := H6.out.below hb7; clear hb7))
                  go_roundg g'
                  case measure => omega
                  case rel => exact ⟨i + 1, _, by omega, by go_num, HF⟩
end Go.Proofs.Ytpdibhgbaclbaab
