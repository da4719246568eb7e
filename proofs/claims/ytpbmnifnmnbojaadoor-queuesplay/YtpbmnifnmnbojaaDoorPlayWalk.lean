/- 'QueuesPlay' walked: whatever is done with a queue, each answer, and all that are there, are the documented ones. -/
import Derived.Test.YtpbmnifnmnbojaaDoorPlaySt
import Derived.Test.YtpbmnifnmnbojaaDoorArgs
import Derived.Deep.CutBlock
namespace Go.Proofs.YtpbmnifnmnbojaaDoor
open Go Go.RowKit
set_option maxRecDepth 100000
set_option linter.unusedVariables false
theorem list_is {w : World} {p n m : Nat} {xs : List Int} (h : Que w p n xs) (hm : xs.length = m) :
    Calls Tryd.prog 14 #[.pointer (some ⟨p, 0, none⟩)] w fun e w' => e = .returned (.slice (some ⟨w.heap.size, 0, none⟩) m m) ∧ Row w' w.heap.size xs ∧ Below w.heap.size w w' := by subst hm; exact list_any h
theorem rlist_is {B : Nat} {w : World} {q n m : Nat} {v : Value} {xs : List Int} (h : Ref B w q n v xs) (hm : xs.length = m) :
    Calls Tryd.prog 16 #[.pointer (some ⟨q, 0, none⟩)] w fun e w' => ∃ sp cap, e = .returned (.slice sp m cap) ∧ Src w' sp xs ∧ Below w.heap.size w w' := by subst hm; exact rlist_any h
theorem row_own {w : World} {B l m : Nat} {xs : List Int} (h : Row w l xs) (hm : xs.length = m) (hb : B ≤ l) (hl : m ≤ 64) : w.ownsRow B 40 1 (.slice (some ⟨l, 0, none⟩) m m) m (xs.map (Value.int .u32)) := by
  subst hm; exact own_row h hb (by omega)
set_option maxHeartbeats 16000000 in
theorem play_any {w : World} {sa : Option Addr} {acts : List (Int × Int)} (ha : Acts w.heap.size w sa acts) (hma : acts.length ≤ maxLen) (ca : Nat) (most : Int) :
    Calls Tryd.prog 3 #[.int .i64 most, .slice sa acts.length ca] w fun e w' => e = .returned (.bool true) ∧ Below w.heap.size w w' := by
  unfold maxLen at hma
  obtain ⟨m, hm'⟩ : ∃ m, acts.length = m := ⟨_, rfl⟩
  rw [hm'] at hma ⊢
  have HM : Hid (acts.length = m) := hm'
  have HA : Hid (Acts w.heap.size w sa acts) := ha
  clear hm' ha
  by_cases hbig : 300 < m
  · go_enter Tryd.func3, Tryd.ntmps3
    go_wp2
    go_ret
    exact ⟨rfl, Below.refl _ _⟩
  · by_cases hbad : most < 1 ∨ 64 < most
    · have HBad : Hid (most < 1 ∨ 64 < most) := hbad
      clear hbad
      go_enter Tryd.func3, Tryd.ntmps3
      go_wp2_with (first
        | (go_at_call 4; refine (new_no most HBad.out).mono ?_; rintro e wx ⟨rfl, rfl⟩)
        | (go_at_call 5; refine (rnew_no most HBad.out).mono ?_; rintro e wx ⟨rfl, rfl⟩))
      go_ret
      exact ⟨rfl, Below.refl _ _⟩
    · obtain ⟨n, rfl⟩ := Int.eq_ofNat_of_zero_le (a := most) (by omega)
      have h1 : 1 ≤ n := by omega
      have h2 : n ≤ 64 := by omega
      clear hbad
      go_enter Tryd.func3, Tryd.ntmps3
      go_wp2_with (first
        | (go_at_call 4; refine (new_yes n h1 h2).mono ?_; rintro e w1 ⟨rfl, hP1, hb1⟩; have HP1 : Hid (Que w1 w.heap.size n []) := hP1; have HB1 : Hid (Below w.heap.size w w1) := hb1; clear hP1 hb1)
        | (go_at_call 5; refine (rnew_yes n h1 h2).mono ?_; rintro e w2 ⟨rfl, hR2, hb2⟩; have HP2 : Hid (Que w2 w.heap.size n []) := HP1.out.below hb2; have HR2 : Hid (Ref w.heap.size w2 w1.heap.size n (.slice none 0 0) []) := ⟨hR2.head, Or.inl ⟨rfl, rfl⟩, hR2.lo, hR2.hi, hR2.len, HB1.out.size⟩; have HB2 : Hid (Below w.heap.size w w2) := HB1.out.trans (hb2.mono HB1.out.size); clear hR2 hb2 HP1 HB1))
      have hba := alloc_below w2 (.cells (bk 0 (.slice none 0 0)) 39)
      have HS0 : Hid (St w (w2.alloc (.cells (bk 0 (.slice none 0 0)) 39)) w.heap.size w1.heap.size w2.heap.size n 0 (.slice none 0 0) (.slice none 0 0) [] [] []) :=
        ⟨HP2.out.below hba, HR2.out.below hba, Bk.start HB2.out.size, ⟨fun j e he => by simp at he, fun j k e f _ he => by simp at he, fun j e he => by simp at he, fun j e he => by simp at he⟩, HB2.out.trans (hba.mono HB2.out.size), Nat.le_refl _, fun j e he => by simp at he, rfl⟩
      clear hba HP2 HR2 HB2
      generalize w2.heap.size = K at *
      generalize w1.heap.size = q at *
      go_loopg [10] m (fun gk s10 wx => ∃ (i : Nat) (v u : Value) (E : List Ent) (Z : List Int), i + gk = m ∧ s10 = .int .i64 i ∧ Hid (St w wx w.heap.size q K n i v u E Z Z))
      case atStart => exact ⟨0, _, _, _, _, by omega, rfl, HS0⟩
      case round =>
        clear HS0
        obtain ⟨i, v, u, E, Z, hig, rfl, HT⟩ := hrel
        cases gk with
        | zero =>
          obtain rfl : i = m := by omega
          have hlt : ¬ ((i : Int) < i) := by omega
          go_wp2_with (first
            | (go_at_call 18; refine (apart_yes HT.out.book HT.out.lists).mono ?_; rintro e w17 ⟨rfl, hd17⟩))
          go_ret
          exact ⟨rfl, HT.out.bel.trans hd17⟩
        | succ g' =>
          have hlt : (i : Int) < m := by omega
          obtain ⟨⟨k, z⟩, hx⟩ : ∃ x, acts[i]? = some x := ⟨_, List.getElem?_eq_getElem (by rw [HM.out]; omega)⟩
          obtain ⟨b, off, rfl, hbl, hc⟩ := (HA.out.below HT.out.bel).spot (by rw [HM.out]; omega)
          obtain ⟨y0, y1⟩ := hc i _ hx
          obtain ⟨hk, hzb⟩ := HA.out.wf i _ hx
          simp only at y0 y1 hk hzb
          clear hc hx
          have hkm : 0 ≤ k % 6 ∧ k % 6 < 6 := by omega
          have hXp : wr.heap.size ≠ w.heap.size := by have := HT.out.ring.lt; omega
          have hXlt : wr.heap.size < (wr.alloc (.cells #[.int .u8 k, .int .u32 z] 42)).heap.size := by rw [alloc_size]; omega
          have hb0 := alloc_below wr (.cells #[.int .u8 k, .int .u32 z] 42)
          have HX : Hid ((wr.alloc (.cells #[.int .u8 k, .int .u32 z] 42)).heap[wr.heap.size]? = some (.cells #[.int .u8 k, .int .u32 z] 42 (0, 0))) := alloc_at wr _
          have H4 : Hid (St w (wr.alloc (.cells #[.int .u8 k, .int .u32 z] 42)) w.heap.size q K n i v u E Z Z) := HT.out.below hb0
          clear hb0
          go_upto_block 2 with fail
          obtain ⟨X, hX⟩ : ∃ X, wr.heap.size = X := ⟨_, rfl⟩
          rw [hX] at HX hXp hXlt
          rw [hX]
          clear hX
          generalize wr.alloc (.cells #[.int .u8 k, .int .u32 z] 42) = w4 at *
          have x0 : w4.cell? ⟨X, 0, none⟩ = some (.int .u8 k) := by rw [cell_of HX.out]; rfl
          have x1 : w4.cell? ⟨X, 1, none⟩ = some (.int .u32 z) := by rw [cell_of HX.out]; rfl
          clear y0 y1 HT
          go_cut [12, 13, 14, 15] from 52 to 96 (fun s12 s13 s14 s15 wx => ∃ (Y : List Int) (a e : Int) (u' : Value), s12 = .int .u32 a ∧ s13 = .int .u32 a ∧ s14 = .int .i64 e ∧ s15 = .int .i64 e ∧ Hid (St w wx w.heap.size q K n i v u' E Y Y))
          case first =>
            by_cases hk01 : k % 6 = 0 ∨ k % 6 = 1
            · rcases hk01 with hk0 | hk1
              all_goals
                go_wp2_with (first
                  | (go_at_call 6; refine (put_any H4.out.ring z).mono ?_; rintro e w5 ⟨rfl, hr, hb⟩; have H5 : Hid (St w w5 w.heap.size q K n i v u E (putL Z n z) (Z)) := H4.out.setRing hb hr; have hx5 := (hb.block X hXlt (by simpa using hXp)).trans HX.out; have xx1 : w5.cell? ⟨X, 1, none⟩ = some (.int .u32 z) := (by rw [cell_of hx5]; rfl); clear hr hb hx5)
                  | (go_at_call 7; refine (rput_any H5.out.ref H5.out.bel.size z).mono ?_; rintro e w6 ⟨rfl, hn⟩; have H6 : Hid (∃ u', St w w6 w.heap.size q K n i v u' E (putL Z n z) (putL Z n z)) := H5.out.setRef hn; clear hn))
                go_meet
                obtain ⟨u', h6⟩ := H6.out
                exact ⟨putL Z n z, 0, _, u', rfl, rfl, rfl, rfl, h6⟩
            · by_cases hk2 : k % 6 = 2
              · go_wp2_with (first
                  | (go_at_call 8; refine (push_any H4.out.ring z).mono ?_; rintro e w5 ⟨rfl, hr, hb⟩; have H5 : Hid (St w w5 w.heap.size q K n i v u E (pushL Z n z) (Z)) := H4.out.setRing hb hr; have hx5 := (hb.block X hXlt (by simpa using hXp)).trans HX.out; have xx1 : w5.cell? ⟨X, 1, none⟩ = some (.int .u32 z) := (by rw [cell_of hx5]; rfl); clear hr hb hx5)
                  | (go_at_call 9; refine (rpush_any H5.out.ref H5.out.bel.size z).mono ?_; rintro e w6 ⟨rfl, hn⟩; have H6 : Hid (∃ u', St w w6 w.heap.size q K n i v u' E (pushL Z n z) (pushL Z n z)) := H5.out.setRef hn; clear hn))
                go_meet
                obtain ⟨u', h6⟩ := H6.out
                exact ⟨pushL Z n z, 0, _, u', rfl, rfl, rfl, rfl, h6⟩
              · by_cases hk34 : k % 6 = 3 ∨ k % 6 = 4
                · rcases hk34 with hk3 | hk4
                  all_goals
                    go_wp2_with (first
                      | (go_at_call 10; refine (take_any H4.out.ring).mono ?_; rintro e w5 ⟨rfl, hr, hb⟩; have H5 : Hid (St w w5 w.heap.size q K n i v u E (Z.tail) (Z)) := H4.out.setRing hb hr; have hx5 := (hb.block X hXlt (by simpa using hXp)).trans HX.out; have xx1 : w5.cell? ⟨X, 1, none⟩ = some (.int .u32 z) := (by rw [cell_of hx5]; rfl); clear hr hb hx5)
                      | (go_at_call 11; refine (rtake_any H5.out.ref).mono ?_; rintro e w6 ⟨rfl, hn⟩; have H6 : Hid (∃ u', St w w6 w.heap.size q K n i v u' E (Z.tail) (Z.tail)) := H5.out.setRef hn; clear hn))
                    go_meet
                    obtain ⟨u', h6⟩ := H6.out
                    exact ⟨Z.tail, _, _, u', rfl, rfl, rfl, rfl, h6⟩
                · have hk5 : k % 6 = 5 := by omega
                  go_wp2_with (first
                    | (go_at_call 12; refine (peek_any H4.out.ring).mono ?_; rintro e w5 ⟨rfl, kq, hw⟩; have H5 : Hid (St w w5 w.heap.size q K n i v u E (Z) (Z)) := (by rw [hw]; exact H4.out.below (below_drewN _ _)); clear hw)
                    | (go_at_call 13; refine (rpeek_any H5.out.ref).mono ?_; rintro e w6 ⟨rfl, rfl⟩))
                  go_meet
                  exact ⟨Z, _, _, u, rfl, rfl, rfl, rfl, H5⟩
          case rest =>
            obtain ⟨Y, a, e, u', rfl, rfl, rfl, rfl, H5⟩ := hcut
            clear H4 HX x0 x1 hXp hXlt
            obtain ⟨c, hc⟩ : ∃ c, Y.length = c := ⟨_, rfl⟩
            have HC : Hid (Y.length = c) := hc
            have hcn : c ≤ 64 := by rw [← hc]; exact Nat.le_trans H5.out.ring.len H5.out.ring.hi
            clear hc
            go_wp2_with (first
              | (go_at_call 14; refine (list_is H5.out.ring HC.out).mono ?_; rintro e w6 ⟨rfl, hr, hb⟩; have HFr := H5.out.fresh (l := wc.heap.size) (Nat.le_refl _); have HF : Hid ((∀ b, u'.ownBlock = some b → b ≠ wc.heap.size) ∧ ∀ (j : Nat) (e : Ent), E[j]? = some e → e.v.ownBlock ≠ some wc.heap.size) := HFr; have HL : Hid (Row w6 wc.heap.size Y) := hr; have HLW : Hid (w.heap.size ≤ wc.heap.size) := H5.out.bel.size; have H6 : Hid (St w w6 w.heap.size q K n i v u' E Y Y) := H5.out.below hb; clear hr hb HFr)
              | (go_at_call 16; refine (rlist_is H6.out.ref HC.out).mono ?_; rintro e w7 ⟨sp7, c7, rfl, hs, hb⟩; have HS7 : Hid (Src w7 sp7 Y) := hs; replace HL : Hid (Row w7 wc.heap.size Y) := HL.out.below hb; have H7 : Hid (St w w7 w.heap.size q K n i v u' E Y Y) := H6.out.below hb; clear hs hb)
              | (go_at_call 15; refine (same_is (Src.row HL.out) HS7.out HC.out (by omega) _ _).mono ?_; rintro e w8 ⟨rfl, hb⟩; replace HL : Hid (Row w8 wc.heap.size Y) := HL.out.below hb; have H8 : Hid (St w w8 w.heap.size q K n i v u' E Y Y) := H7.out.below hb; clear hb)
              | (go_at_call 17; refine (book_put H8.out.book (by rw [H8.out.many]; omega) (by omega) _ _ _).mono ?_; rintro e w10 ⟨rfl, v', hk10, hu10⟩; have H10 : Hid (St w w10 w.heap.size q K n (i + 1) v' u' _ Y Y) := H8.out.put (by omega) hcn (row_own HL.out HC.out HLW.out hcn) HF.out.1 HF.out.2 hk10 hu10; clear hk10 hu10))
            go_roundg g'
            case measure => omega
            case rel => exact ⟨i + 1, _, _, _, _, by omega, by go_num, H10⟩
end Go.Proofs.YtpbmnifnmnbojaaDoor
