/- 'HandlesPlay' walked: whatever is done with a table, each answer, and all handles, are the documented ones. -/
import Derived.Test.YtkogmmldkpepaaaDoorPlaySt
import Derived.Test.YtkogmmldkpepaaaDoorArgs
import Derived.Deep.CutBlock
namespace Go.Proofs.YtkogmmldkpepaaaDoor
open Go Go.RowKit
set_option maxRecDepth 100000
set_option linter.unusedVariables false
theorem Told.src {B : Nat} {w : World} {v : Value} {l : List Nat} (h : Told B w v l) : ∃ sp cap, v = .slice sp l.length cap ∧ Src w sp (ints l) := by
  have := Src.own (zs := ints l) (by rw [ints_len]; exact h)
  rw [ints_len] at this
  exact this
theorem Told.below {B : Nat} {w w' : World} {v : Value} {l : List Nat} (h : Told B w v l) (hb : Below w.heap.size w w') : Told B w' v l := owns_below h hb
theorem Told.at {B : Nat} {w : World} {sp : Option Addr} {m cap : Nat} {l : List Nat} (h : Told B w (.slice sp m cap) l) : Src w sp (ints l) := by
  obtain ⟨sp', cap', e, hs⟩ := h.src
  simp only [Value.slice.injEq] at e
  rw [e.1]; exact hs
theorem Told.row {B : Nat} {w : World} {v : Value} {l : List Nat} {m : Nat} (h : Told B w v l) (hm : l.length = m) : w.ownsRow B 40 1 v m (wrd (ints l)) := by subst hm; exact h
theorem told_is {w : World} {p n : Nat} {s : Slots} {m : Nat} (H : Tab w p n s) (hm : (listL n s).length = m) :
    Calls Tryd.prog 12 #[.pointer (some ⟨p, 0, none⟩)] w fun e w' => ∃ sp cap, e = .returned (.slice sp m cap) ∧ Told w.heap.size w' (.slice sp m cap) (listL n s) ∧ Below w.heap.size w w' := by
  subst hm
  refine (list_any H).mono ?_
  rintro e w' ⟨v, rfl, ho, hb⟩
  obtain ⟨sp, cap, rfl, hs⟩ := ho.src
  exact ⟨sp, cap, rfl, ho, hb⟩
theorem rtold_is {w : World} {q ga gb n : Nat} {s : Slots} {m : Nat} (H : Ref w q ga gb n s) (hm : (listL n s).length = m) :
    Calls Tryd.prog 14 #[.pointer (some ⟨q, 0, none⟩)] w fun e w' => ∃ sp cap, e = .returned (.slice sp m cap) ∧ Src w' sp (ints (listL n s)) ∧ Below w.heap.size w w' := by
  subst hm
  refine (rlist_any H).mono ?_
  rintro e w' ⟨v, rfl, ho, hb⟩
  obtain ⟨sp, cap, rfl, hs⟩ := ho.src
  exact ⟨sp, cap, rfl, hs, hb⟩
set_option maxHeartbeats 16000000 in
theorem play_any {w : World} {sa : Option Addr} {acts : List (Int × Int)} (ha : Acts w.heap.size w sa acts) (hma : acts.length ≤ maxLen) (ca : Nat) (most : Int) :
    Calls Tryd.prog 3 #[.int .i64 most, .slice sa acts.length ca] w fun e w' => e = .returned (.bool true) ∧ Below w.heap.size w w' := by
  unfold maxLen at hma
  obtain ⟨m, hm'⟩ : ∃ m, acts.length = m := ⟨_, rfl⟩
  rw [hm'] at hma ⊢
  have HM : Hid (acts.length = m) := hm'
  have HA : Hid (Acts w.heap.size w sa acts) := ha
  clear hm' ha
  by_cases hbig : 300 < m
  · go_enter Tryd.func3, Tryd.ntmps3
    go_wp2
    go_ret
    exact ⟨rfl, Below.refl _ _⟩
  · by_cases hbad : most < 1 ∨ 256 < most
    · have HBad : Hid (most < 1 ∨ 256 < most) := hbad
      clear hbad
      go_enter Tryd.func3, Tryd.ntmps3
      go_wp2_with (first
        | (go_at_call 4; refine (new_no most HBad.out).mono ?_; rintro e wx ⟨rfl, hwx⟩; obtain rfl := hwx.symm)
        | (go_at_call 5; refine (rnew_no most HBad.out).mono ?_; rintro e wx ⟨rfl, hwx⟩; obtain rfl := hwx.symm))
      go_ret
      exact ⟨rfl, Below.refl _ _⟩
    · obtain ⟨n, rfl⟩ := Int.eq_ofNat_of_zero_le (a := most) (by omega)
      have h1 : 1 ≤ n := by omega
      have h2 : n ≤ 256 := by omega
      clear hbad
      go_enter Tryd.func3, Tryd.ntmps3
      go_wp2_with (first
        | (go_at_call 4; refine (new_yes n h1 h2).mono ?_; rintro e w1 ⟨rfl, hP1, hb1⟩; have HP1 : Hid (Tab w1 w.heap.size n none0) := hP1; have HB1 : Hid (Below w.heap.size w w1) := hb1; clear hP1 hb1)
        | (go_at_call 5; refine (rnew_yes n h1 h2).mono ?_; rintro e w2 ⟨q, rfl, ga, gb, hR2, hb2, lq, la, lb⟩; have HP2 : Hid (Tab w2 w.heap.size n none0) := HP1.out.below hb2; have HR2 : Hid (Ref w2 q ga gb n none0) := hR2; have HB2 : Hid (Below w.heap.size w w2) := HB1.out.trans (hb2.mono HB1.out.size); have HLO : Hid (w.heap.size ≤ ga ∧ w.heap.size ≤ gb) := (by have := HB1.out.size; exact ⟨by omega, by omega⟩); clear hR2 hb2 HP1 HB1 lq la lb))
      have hba := alloc_below w2 (.cells (bk 0 (.slice none 0 0)) 39)
      have HS0 : Hid (St w (w2.alloc (.cells (bk 0 (.slice none 0 0)) 39)) w.heap.size q ga gb w2.heap.size n 0 (.slice none 0 0) [] none0 none0) :=
        ⟨HP2.out.below hba, HR2.out.below hba, Bk.start HB2.out.size, ⟨fun j e he => by simp at he, fun j k e f _ he => by simp at he, fun j e he => by simp at he, fun j e he => by simp at he⟩, HB2.out.trans (hba.mono HB2.out.size), Nat.le_refl _, HLO.out.1, HLO.out.2, fun j e he => by simp at he, rfl⟩
      clear hba HP2 HR2 HB2 HLO
      generalize w2.heap.size = K at *
      go_loopg [10] m (fun gk s10 wx => ∃ (i : Nat) (v : Value) (E : List Ent) (Z : Slots), i + gk = m ∧ s10 = .int .i64 i ∧ Hid (St w wx w.heap.size q ga gb K n i v E Z Z))
      case atStart => exact ⟨0, _, _, _, by omega, rfl, HS0⟩
      case round =>
        clear HS0
        obtain ⟨i, v, E, Z, hig, rfl, HT⟩ := hrel
        cases gk with
        | zero =>
          obtain rfl : i = m := by omega
          have hlt : ¬ ((i : Int) < i) := by omega
          go_wp2_with (first
            | (go_at_call 16; refine (apart_yes HT.out.book HT.out.lists).mono ?_; rintro e w17 ⟨rfl, hd17⟩))
          go_ret
          exact ⟨rfl, HT.out.bel.trans hd17⟩
        | succ g' =>
          have hlt : (i : Int) < m := by omega
          obtain ⟨⟨k, z⟩, hx⟩ : ∃ x, acts[i]? = some x := ⟨_, List.getElem?_eq_getElem (by rw [HM.out]; omega)⟩
          obtain ⟨b, off, rfl, hbl, hc⟩ := (HA.out.below HT.out.bel).spot (by rw [HM.out]; omega)
          obtain ⟨y0, y1⟩ := hc i _ hx
          obtain ⟨hk, hzb⟩ := HA.out.wf i _ hx
          simp only at y0 y1 hk hzb
          clear hc hx
          obtain ⟨x, rfl⟩ := Int.eq_ofNat_of_zero_le hzb.1
          have hx32 : x ≤ 4294967295 := by omega
          have hkm : 0 ≤ k % 4 ∧ k % 4 < 4 := by omega
          have hXp : wr.heap.size ≠ w.heap.size := by have := HT.out.tab.lt; omega
          have hXa : wr.heap.size ≠ ga := by have := HT.out.ref.lay.lt.2.1; omega
          have hXb : wr.heap.size ≠ gb := by have := HT.out.ref.lay.lt.2.2; omega
          have hXlt : wr.heap.size < (wr.alloc (.cells #[.int .u8 k, .int .u32 (x : Nat)] 42)).heap.size := by rw [alloc_size]; omega
          have hb0 := alloc_below wr (.cells #[.int .u8 k, .int .u32 (x : Nat)] 42)
          have HX : Hid ((wr.alloc (.cells #[.int .u8 k, .int .u32 (x : Nat)] 42)).heap[wr.heap.size]? = some (.cells #[.int .u8 k, .int .u32 (x : Nat)] 42 (0, 0))) := alloc_at wr _
          have H4 : Hid (St w (wr.alloc (.cells #[.int .u8 k, .int .u32 (x : Nat)] 42)) w.heap.size q ga gb K n i v E Z Z) := HT.out.below hb0
          clear hb0
          go_upto_block 2 with fail
          obtain ⟨X, hX⟩ : ∃ X, wr.heap.size = X := ⟨_, rfl⟩
          rw [hX] at HX hXp hXa hXb hXlt
          rw [hX]
          clear hX
          generalize wr.alloc (.cells #[.int .u8 k, .int .u32 (x : Nat)] 42) = w4 at *
          have x0 : w4.cell? ⟨X, 0, none⟩ = some (.int .u8 k) := by rw [cell_of HX.out]; rfl
          have x1 : w4.cell? ⟨X, 1, none⟩ = some (.int .u32 (x : Nat)) := by rw [cell_of HX.out]; rfl
          clear y0 y1 HT
          go_cut [12, 13, 14, 15, 16, 17, 18, 19] from 54 to 110 (fun s12 s13 s14 s15 s16 s17 s18 s19 wx => ∃ Y : Slots, Hid (St w wx w.heap.size q ga gb K n i v E Y Y))
          case first =>
            by_cases hk01 : k % 4 = 0 ∨ k % 4 = 1
            · rcases hk01 with hk0 | hk1
              all_goals
                go_wp2_with (first
                  | (go_at_call 6; refine (make_any H4.out.tab).mono ?_; rintro e w5 ⟨rfl, hr, hb⟩; have H5 : Hid (St w w5 w.heap.size q ga gb K n i v E (makeS n Z) (Z)) := H4.out.setTab hb hr; clear hr hb)
                  | (go_at_call 7; refine (rmake_any H5.out.ref).mono ?_; rintro e w6 ⟨rfl, hr, hb⟩; have H6 : Hid (St w w6 w.heap.size q ga gb K n i v E (makeS n Z) (makeS n Z)) := H5.out.setRef hb hr; clear hr hb))
                go_meet
                exact ⟨_, H6⟩
            · by_cases hk2 : k % 4 = 2
              · go_wp2
                have H4d : Hid (St w w4.drew w.heap.size q ga gb K n i v E (Z) (Z)) := H4.out.below (below_drewN _ 1)
                have HXd : Hid (w4.drew.heap[X]? = some (.cells #[.int .u8 k, .int .u32 (x : Nat)] 42 (0, 0))) := HX.out
                have hXd : X < w4.drew.heap.size := hXlt
                clear H4
                go_region_held3 (fun w' => w'.cell? ⟨X, 1, none⟩ = some (.int .u32 (x : Nat))) (go_keep) (first
                  | (go_at_call 8; refine (drop_any H4d.out.tab x hx32).mono ?_; rintro e w5 ⟨rfl, hr, hb⟩; have H5 : Hid (St w w5 w.heap.size q ga gb K n i v E (dropS Z x) (Z)) := H4d.out.setTab hb hr; have hx5 : Hid (w5.heap[X]? = some (.cells #[.int .u8 k, .int .u32 (x : Nat)] 42 (0, 0))) := (hb.block X hXd (one_mem hXp)).trans HXd.out; have xl5 : Hid (X < w5.heap.size) := at_lt hx5.out; have xx5 : w5.cell? ⟨X, 1, none⟩ = some (.int .u32 (x : Nat)) := (by rw [cell_of hx5.out]; rfl); clear hr hb H4d)
                  | (go_at_call 8; refine (drop_any G5.out.tab x hx32).mono ?_; rintro e w6 ⟨rfl, hr, hb⟩; have H6 : Hid (St w w6 w.heap.size q ga gb K n i v E (dropS Z x) (dropS Z x)) := G5.out.setTab hb hr; have hx6 : Hid (w6.heap[X]? = some (.cells #[.int .u8 k, .int .u32 (x : Nat)] 42 (0, 0))) := (hb.block X xl5.out (one_mem hXp)).trans hx5.out; have xx6 : w6.cell? ⟨X, 1, none⟩ = some (.int .u32 (x : Nat)) := (by rw [cell_of hx6.out]; rfl); clear hr hb G5)
                  | (go_at_call 9; refine (rdrop_any H5.out.ref x hx32).mono ?_; rintro e w6 ⟨rfl, hr, hb⟩; replace hb := hb.mono (m := [ga, gb]) (by simp); have H6 : Hid (St w w6 w.heap.size q ga gb K n i v E (dropS Z x) (dropS Z x)) := H5.out.setRef hb hr; have hx6 : Hid (w6.heap[X]? = some (.cells #[.int .u8 k, .int .u32 (x : Nat)] 42 (0, 0))) := (hb.block X xl5.out (two_mem hXa hXb)).trans hx5.out; have xx6 : w6.cell? ⟨X, 1, none⟩ = some (.int .u32 (x : Nat)) := (by rw [cell_of hx6.out]; rfl); clear hr hb H5)
                  | (go_at_call 9; refine (rdrop_any H4d.out.ref x hx32).mono ?_; rintro e w5 ⟨rfl, hr, hb⟩; replace hb := hb.mono (m := [ga, gb]) (by simp); have G5 : Hid (St w w5 w.heap.size q ga gb K n i v E (Z) (dropS Z x)) := H4d.out.setRef hb hr; have hx5 : Hid (w5.heap[X]? = some (.cells #[.int .u8 k, .int .u32 (x : Nat)] 42 (0, 0))) := (hb.block X hXd (two_mem hXa hXb)).trans HXd.out; have xl5 : Hid (X < w5.heap.size) := at_lt hx5.out; have xx5 : w5.cell? ⟨X, 1, none⟩ = some (.int .u32 (x : Nat)) := (by rw [cell_of hx5.out]; rfl); clear hr hb H4d))
                all_goals
                  go_wp2
                  go_meet
                  exact ⟨_, H6⟩
              · have hk3 : k % 4 = 3 := by omega
                go_wp2_with (first
                  | (go_at_call 10; refine (place_any H4.out.tab x hx32).mono ?_; rintro e w5 ⟨rfl, hb⟩; have H5 : Hid (St w w5 w.heap.size q ga gb K n i v E (Z) (Z)) := H4.out.below hb; have hx5 := (hb.block X hXlt).trans HX.out; have xx1 : w5.cell? ⟨X, 1, none⟩ = some (.int .u32 (x : Nat)) := (by rw [cell_of hx5]; rfl); clear hb hx5)
                  | (go_at_call 11; refine (rplace_any H5.out.ref x hx32).mono ?_; rintro e w6 ⟨rfl, hw6⟩; obtain rfl := hw6.symm))
                go_meet
                exact ⟨_, H5⟩
          case rest =>
            obtain ⟨Y, H5⟩ := hcut
            clear H4 HX x0 x1 hXp hXa hXb hXlt
            obtain ⟨c, hc⟩ : ∃ c, (listL n Y).length = c := ⟨_, rfl⟩
            have HC : Hid ((listL n Y).length = c) := hc
            have hcn : c ≤ 256 := by rw [← hc]; have := tk_le n Y; unfold tk at this; omega
            clear hc
            go_wp2_with (first
              | (go_at_call 12; refine (told_is H5.out.tab HC.out).mono ?_; rintro e w6 ⟨tp, tc, rfl, ht, hb⟩; have HF : Hid (∀ g, (Value.slice tp c tc).ownBlock = some g → g ≠ ga ∧ ∀ (j : Nat) (e : Ent), E[j]? = some e → e.v.ownBlock ≠ some g) := (fun g hg => H5.out.fresh (ht.lt g hg).1); have HL : Hid (Told wc.heap.size w6 (.slice tp c tc) (listL n Y)) := ht; have HLW : Hid (w.heap.size ≤ wc.heap.size) := H5.out.bel.size; have H6 : Hid (St w w6 w.heap.size q ga gb K n i v E Y Y) := H5.out.below hb; clear ht hb)
              | (go_at_call 14; refine (rtold_is H6.out.ref HC.out).mono ?_; rintro e w7 ⟨sp7, c7, rfl, hs, hb⟩; have HS7 : Hid (Src w7 sp7 (ints (listL n Y))) := hs; replace HL : Hid (Told wc.heap.size w7 (.slice tp c tc) (listL n Y)) := HL.out.below hb; have H7 : Hid (St w w7 w.heap.size q ga gb K n i v E Y Y) := H6.out.below hb; clear hs hb)
              | (go_at_call 13; refine (same_is HL.out.at HS7.out (by rw [ints_len]; exact HC.out) (by omega) _ _).mono ?_; rintro e w8 ⟨rfl, hb⟩; replace HL : Hid (Told wc.heap.size w8 (.slice tp c tc) (listL n Y)) := HL.out.below hb; have H8 : Hid (St w w8 w.heap.size q ga gb K n i v E Y Y) := H7.out.below hb; clear hb)
              | (go_at_call 15; refine (book_put H8.out.book (by rw [H8.out.many]; omega) (by omega) _ _ _).mono ?_; rintro e w10 ⟨rfl, v', hk10, hu10⟩; have H10 : Hid (St w w10 w.heap.size q ga gb K n (i + 1) v' _ Y Y) := H8.out.put (by omega) (by omega) (owns_base (HL.out.row HC.out) HLW.out) HF.out hk10 hu10; clear hk10 hu10))
            go_roundg g'
            case measure => omega
            case rel => exact ⟨i + 1, _, _, _, by omega, by go_num, H10⟩
end Go.Proofs.YtkogmmldkpepaaaDoor
