/- 'TimersPlay' walked: whatever is done with alarms, each answer is the documented one. -/
import Derived.Test.YtciafjmljmeimaaDoorPlaySt
import Derived.Test.YtciafjmljmeimaaDoorTArgs
import Derived.Deep.CutBlock
namespace Go.Proofs.YtciafjmljmeimaaDoor
open Go Go.RowKit
set_option maxRecDepth 100000
set_option linter.unusedVariables false
theorem own_src {w : World} {B : Nat} {sp : Option Addr} {n c : Nat} {zs : List Int} (h : w.ownsRow B 3 1 (.slice sp n c) n (num zs)) (hn : zs.length = n) : Src w sp zs := by
  subst hn
  obtain ⟨sp', cap', e, hs⟩ := Src.own h
  simp only [Value.slice.injEq] at e
  rw [e.1]; exact hs
theorem ptick_at {B : Nat} {w : World} {p mb tb n m : Nat} {v : Value} {zs : List Alm} (h : Al B w p mb tb n v zs) (hB : B ≤ w.heap.size) (hm : (due zs).length = m) :
    Calls Tryd.prog 11 #[.pointer (some ⟨p, 0, none⟩)] w fun e w' => ∃ sp cap, e = .returned (.slice sp m cap) ∧ w'.ownsRow w.heap.size 3 1 (.slice sp m cap) m (num ((due zs).map Prod.fst)) ∧ NxL B w w' p mb tb n v (tickL zs) := by
  subst hm; exact atick_is h hB
theorem qtick_at {B : Nat} {w : World} {q m : Nat} {v : Value} {zs : List Alm} (h : KR B w q v zs) (hf : Fine zs) (hB : B ≤ w.heap.size) (hm : (due zs).length = m) :
    Calls Tryd.prog 13 #[.pointer (some ⟨q, 0, none⟩)] w fun e w' => ∃ sp cap, e = .returned (.slice sp m cap) ∧ w'.ownsRow w.heap.size 3 1 (.slice sp m cap) m (num ((due zs).map Prod.fst)) ∧ RN B w w' q v (tickL zs) := by
  subst hm; exact ktick_is h hf hB
set_option maxHeartbeats 16000000 in
theorem play_any {w : World} {sa : Option Addr} {acts : List Ac} (ha : Acts w.heap.size w sa acts) (hma : acts.length ≤ maxLen) (ca : Nat) :
    Calls Tryd.prog 3 #[.slice sa acts.length ca] w fun e w' => e = .returned (.bool true) ∧ Below w.heap.size w w' := by
  unfold maxLen at hma
  obtain ⟨m, hm'⟩ : ∃ m, acts.length = m := ⟨_, rfl⟩
  rw [hm'] at hma ⊢
  have HM : Hid (acts.length = m) := hm'
  have HA : Hid (Acts w.heap.size w sa acts) := ha
  clear hm' ha
  by_cases hbig : 300 < m
  · go_enter Tryd.func3, Tryd.ntmps3
    go_wp2_with (go_at_call 4; refine (lives_any _).mono ?_; rintro e w2 ⟨rfl, hb⟩; have H2 : Hid (Below w.heap.size w w2) := hb; clear hb)
    go_ret
    exact ⟨rfl, H2.out⟩
  · go_enter Tryd.func3, Tryd.ntmps3
    go_wp2_with (first
      | (go_at_call 5; refine (anew_any w w.heap.size (Nat.le_refl _)).mono ?_; rintro e w1 ⟨p, mb, tb, rfl, hP1, hb1, _⟩; have HP1 : Hid (Al w.heap.size w1 p mb tb 0 (.slice none 0 0) []) := hP1; have HB1 : Hid (Below w.heap.size w w1) := hb1; clear hP1 hb1)
      | (go_at_call 6; refine (knew_any w1 w.heap.size HB1.out.size).mono ?_; rintro e w2 ⟨rfl, hQ, hb2⟩; have HQ2 : Hid (KR w.heap.size w2 w1.heap.size (.slice none 0 0) [] ∧ Below w1.heap.size w1 w2) := ⟨hQ, hb2⟩; clear hQ hb2))
    have HS0 : Hid (St w (w2.alloc (.cells (bk 0 (.slice none 0 0)) 37)) p mb tb w1.heap.size w2.heap.size 0 0 (.slice none 0 0) (.slice none 0 0) (.slice none 0 0) [] [] []) := by
      have hbb := alloc_below w2 (.cells (bk 0 (.slice none 0 0)) 37)
      have hB2 := HB1.out.trans (HQ2.out.2.mono HB1.out.size)
      have hK := Bk.start (w := w2) (B := w.heap.size) hB2.size
      exact ⟨(HP1.out.below HQ2.out.2).below hbb, HQ2.out.1.below hbb, hK, ⟨fun j e he => by simp at he, fun j k e f _ he => by simp at he, fun j e he => by simp at he, fun j e he => by simp at he⟩, hB2.trans (hbb.mono hB2.size), rfl⟩
    clear HP1 HB1 HQ2
    generalize w2.heap.size = K at *
    generalize w1.heap.size = q at *
    go_loopg [6, 7, 8] m (fun gk s6 s7 s8 wx => ∃ (i n nb : Nat) (vp u v : Value) (E : List Ent) (Z : List Alm), i + gk = m ∧ n ≤ i ∧ nb ≤ i ∧ Z.length ≤ i ∧ s6 = .int .i64 (i : Int) ∧ Hid (St w wx p mb tb q K n nb vp u v E Z Z))
    case atStart => exact ⟨0, 0, 0, _, _, _, _, [], by omega, by omega, by omega, by simp, rfl, HS0⟩
    case round =>
      clear HS0
      obtain ⟨i, n, nb, vp, u, v, E, Z, hig, hn, hnb, hZl, rfl, HT⟩ := hrel
      cases gk with
      | zero =>
        obtain rfl : i = m := by omega
        have hlt : ¬ ((i : Int) < i) := by omega
        go_wp2_with (first
          | (go_at_call 17; refine (apart_yes HT.out.book HT.out.lists).mono ?_; rintro e w17 ⟨rfl, hd17⟩; have HD : Hid (Below w.heap.size w w17) := HT.out.bel.trans hd17; clear hd17)
          | (go_at_call 4; refine (lives_any _).mono ?_; rintro e w18 ⟨rfl, hb⟩; have HE : Hid (Below w.heap.size w w18) := HD.out.trans (hb.mono HD.out.size); clear hb))
        go_ret
        exact ⟨rfl, HE.out⟩
      | succ g' =>
        have hlt : (i : Int) < m := by omega
        have hbi : i < 300 := by omega
        obtain ⟨⟨k, y, t, s⟩, hx⟩ : ∃ x, acts[i]? = some x := ⟨_, List.getElem?_eq_getElem (by rw [HM.out]; omega)⟩
        obtain ⟨b, ofs, rfl, hbl, hc⟩ := (HA.out.below HT.out.bel).spot (by rw [HM.out]; omega)
        obtain ⟨y0, y1, y2, y3⟩ := hc i _ hx
        obtain ⟨hk, hyb, htb, hsb⟩ := HA.out.wf i _ hx
        simp only at y0 y1 y2 y3 hk hyb htb hsb
        have HY : Hid (S64 y) := hyb
        clear hc hx
        have hkm : 0 ≤ k % 6 ∧ k % 6 < 6 := by omega
        have HZL : Hid (Z.length ≤ i ∧ n ≤ i ∧ nb ≤ i) := ⟨hZl, hn, hnb⟩
        clear hZl hn hnb
        have hb0 := alloc_below wr (.cells #[.int .u8 k, .int .i64 y, .int .i64 t, .int .i64 s] 39)
        have HX : Hid ((wr.alloc (.cells #[.int .u8 k, .int .i64 y, .int .i64 t, .int .i64 s] 39)).heap[wr.heap.size]? = some (.cells #[.int .u8 k, .int .i64 y, .int .i64 t, .int .i64 s] 39 (0, 0))) := alloc_at wr _
        have H4 : Hid (St w (wr.alloc (.cells #[.int .u8 k, .int .i64 y, .int .i64 t, .int .i64 s] 39)) p mb tb q K n nb vp u v E Z Z) := HT.out.below hb0
        clear hb0
        go_upto_region 10 with fail
        obtain ⟨X, hX⟩ : ∃ X, wr.heap.size = X := ⟨_, rfl⟩
        rw [hX] at HX
        rw [hX]
        clear hX
        generalize wr.alloc (.cells #[.int .u8 k, .int .i64 y, .int .i64 t, .int .i64 s] 39) = w4 at *
        have x0 : w4.cell? ⟨X, 0, none⟩ = some (.int .u8 k) := by rw [cell_of HX.out]; rfl
        have x1 : w4.cell? ⟨X, 1, none⟩ = some (.int .i64 y) := by rw [cell_of HX.out]; rfl
        have x2 : w4.cell? ⟨X, 2, none⟩ = some (.int .i64 t) := by rw [cell_of HX.out]; rfl
        have x3 : w4.cell? ⟨X, 3, none⟩ = some (.int .i64 s) := by rw [cell_of HX.out]; rfl
        clear y0 y1 y2 y3 HT
        go_upto_block 2 with fail
        go_cut [8] from 15 to 76 (fun s8 wx => ∃ (n' nb' : Nat) (vp' u' v' : Value) (E' : List Ent) (Y : List Alm), Hid (Y.length ≤ i + 1 ∧ n' ≤ i + 1 ∧ nb' ≤ i + 1) ∧ Hid (wx.heap[X]? = some (.cells #[.int .u8 k, .int .i64 y, .int .i64 t, .int .i64 s] 39 (0, 0))) ∧ Hid (St w wx p mb tb q K n' nb' vp' u' v' E' Y Y))
        case first =>
          by_cases hk01 : k % 6 = 0 ∨ k % 6 = 1
          · rcases hk01 with hk0 | hk1
            all_goals
              go_wp2
              have H4d : Hid (St w w4.drew p mb tb q K (n) (nb) vp u v E (Z) (Z)) := H4.out.below (below_drewN _ 1)
              have HXd : Hid (w4.drew.heap[X]? = some (.cells #[.int .u8 k, .int .i64 y, .int .i64 t, .int .i64 s] 39 (0, 0))) := HX.out
              have HFZ : Hid (Fine Z) := H4.out.lst.fine
              clear H4
              go_region_held3 (fun w' => w'.cell? ⟨X, 1, none⟩ = some (.int .i64 y) ∧ w'.cell? ⟨X, 2, none⟩ = some (.int .i64 t) ∧ w'.cell? ⟨X, 3, none⟩ = some (.int .i64 s)) (go_keep) (first
                | (go_at_call 7; refine (start_is H4d.out.lst HY.out t s (by have := HZL.out; omega) (by have := HZL.out; omega) H4d.out.bel.size).mono ?_; rintro e w5 ⟨rfl, hn⟩; have hxw5 : Hid (w5.heap[X]? = some (.cells #[.int .u8 k, .int .i64 y, .int .i64 t, .int .i64 s] 39 (0, 0))) := H4d.out.ntX hn HXd.out; have xx1w5 : w5.cell? ⟨X, 1, none⟩ = some (.int .i64 y) := (by rw [cell_of hxw5.out]; rfl); have xx2w5 : w5.cell? ⟨X, 2, none⟩ = some (.int .i64 t) := (by rw [cell_of hxw5.out]; rfl); have xx3w5 : w5.cell? ⟨X, 3, none⟩ = some (.int .i64 s) := (by rw [cell_of hxw5.out]; rfl); obtain ⟨vp5, h5⟩ := H4d.out.setLst hn; have H5 : Hid (St w w5 p mb tb q K (n + 1) (nb) vp5 u v E (startL Z y t s) (Z)) := h5; clear hn h5 H4d)
                | (go_at_call 7; refine (start_is G5.out.lst HY.out t s (by have := HZL.out; omega) (by have := HZL.out; omega) G5.out.bel.size).mono ?_; rintro e w6 ⟨rfl, hn⟩; have hxw6 : Hid (w6.heap[X]? = some (.cells #[.int .u8 k, .int .i64 y, .int .i64 t, .int .i64 s] 39 (0, 0))) := G5.out.ntX hn hxw5.out; have xx1w6 : w6.cell? ⟨X, 1, none⟩ = some (.int .i64 y) := (by rw [cell_of hxw6.out]; rfl); have xx2w6 : w6.cell? ⟨X, 2, none⟩ = some (.int .i64 t) := (by rw [cell_of hxw6.out]; rfl); have xx3w6 : w6.cell? ⟨X, 3, none⟩ = some (.int .i64 s) := (by rw [cell_of hxw6.out]; rfl); obtain ⟨vp6, h6⟩ := G5.out.setLst hn; have H6 : Hid (∃ a b, St w w6 p mb tb q K (n + 1) (nb) a b v E (startL Z y t s) (startL Z y t s)) := ⟨_, _, h6⟩; clear hn h6 G5)
                | (go_at_call 8; refine (kstart_is H5.out.ref y t s (by have := HZL.out; omega) H5.out.bel.size).mono ?_; rintro e w6 ⟨rfl, hn⟩; have hxw6 : Hid (w6.heap[X]? = some (.cells #[.int .u8 k, .int .i64 y, .int .i64 t, .int .i64 s] 39 (0, 0))) := H5.out.rnX hn hxw5.out; have xx1w6 : w6.cell? ⟨X, 1, none⟩ = some (.int .i64 y) := (by rw [cell_of hxw6.out]; rfl); have xx2w6 : w6.cell? ⟨X, 2, none⟩ = some (.int .i64 t) := (by rw [cell_of hxw6.out]; rfl); have xx3w6 : w6.cell? ⟨X, 3, none⟩ = some (.int .i64 s) := (by rw [cell_of hxw6.out]; rfl); obtain ⟨u6, h6⟩ := H5.out.setRef hn; have H6 : Hid (∃ a b, St w w6 p mb tb q K (n + 1) (nb) a b v E (startL Z y t s) (startL Z y t s)) := ⟨_, _, h6⟩; clear hn h6 H5)
                | (go_at_call 8; refine (kstart_is H4d.out.ref y t s (by have := HZL.out; omega) H4d.out.bel.size).mono ?_; rintro e w5 ⟨rfl, hn⟩; have hxw5 : Hid (w5.heap[X]? = some (.cells #[.int .u8 k, .int .i64 y, .int .i64 t, .int .i64 s] 39 (0, 0))) := H4d.out.rnX hn HXd.out; have xx1w5 : w5.cell? ⟨X, 1, none⟩ = some (.int .i64 y) := (by rw [cell_of hxw5.out]; rfl); have xx2w5 : w5.cell? ⟨X, 2, none⟩ = some (.int .i64 t) := (by rw [cell_of hxw5.out]; rfl); have xx3w5 : w5.cell? ⟨X, 3, none⟩ = some (.int .i64 s) := (by rw [cell_of hxw5.out]; rfl); obtain ⟨u5, h5⟩ := H4d.out.setRef hn; have G5 : Hid (St w w5 p mb tb q K (n) (nb) vp u5 v E (Z) (startL Z y t s)) := h5; clear hn h5 H4d))
              all_goals
                go_wp2
                go_meet
                obtain ⟨a6, b6, h6⟩ := H6.out
                exact ⟨_, nb, _, _, _, _, _, ⟨by have h1 := start_len Z y t s; have h2 := HZL.out; omega, by have := HZL.out; omega, by have := HZL.out; omega⟩, hxw6, h6⟩
          · by_cases hk2 : k % 6 = 2
            · go_wp2
              have H4d : Hid (St w w4.drew p mb tb q K (n) (nb) vp u v E (Z) (Z)) := H4.out.below (below_drewN _ 1)
              have HXd : Hid (w4.drew.heap[X]? = some (.cells #[.int .u8 k, .int .i64 y, .int .i64 t, .int .i64 s] 39 (0, 0))) := HX.out
              have HFZ : Hid (Fine Z) := H4.out.lst.fine
              clear H4
              go_region_held3 (fun w' => w'.cell? ⟨X, 1, none⟩ = some (.int .i64 y)) (go_keep) (first
                | (go_at_call 9; refine (stop_is H4d.out.lst HY.out).mono ?_; rintro e w5 ⟨rfl, hn⟩; have hxw5 : Hid (w5.heap[X]? = some (.cells #[.int .u8 k, .int .i64 y, .int .i64 t, .int .i64 s] 39 (0, 0))) := H4d.out.ntX hn HXd.out; have xx1w5 : w5.cell? ⟨X, 1, none⟩ = some (.int .i64 y) := (by rw [cell_of hxw5.out]; rfl); obtain ⟨vp5, h5⟩ := H4d.out.setLst hn; have H5 : Hid (St w w5 p mb tb q K (n) (nb) vp5 u v E (off Z y) (Z)) := h5; clear hn h5 H4d)
                | (go_at_call 9; refine (stop_is G5.out.lst HY.out).mono ?_; rintro e w6 ⟨rfl, hn⟩; have hxw6 : Hid (w6.heap[X]? = some (.cells #[.int .u8 k, .int .i64 y, .int .i64 t, .int .i64 s] 39 (0, 0))) := G5.out.ntX hn hxw5.out; have xx1w6 : w6.cell? ⟨X, 1, none⟩ = some (.int .i64 y) := (by rw [cell_of hxw6.out]; rfl); obtain ⟨vp6, h6⟩ := G5.out.setLst hn; have H6 : Hid (∃ a b, St w w6 p mb tb q K (n) (nb) a b v E (off Z y) (off Z y)) := ⟨_, _, h6⟩; clear hn h6 G5)
                | (go_at_call 10; refine (kstop_is H5.out.ref HFZ.out y H5.out.bel.size).mono ?_; rintro e w6 ⟨rfl, hn⟩; have hxw6 : Hid (w6.heap[X]? = some (.cells #[.int .u8 k, .int .i64 y, .int .i64 t, .int .i64 s] 39 (0, 0))) := H5.out.rnX hn hxw5.out; have xx1w6 : w6.cell? ⟨X, 1, none⟩ = some (.int .i64 y) := (by rw [cell_of hxw6.out]; rfl); obtain ⟨u6, h6⟩ := H5.out.setRef hn; have H6 : Hid (∃ a b, St w w6 p mb tb q K (n) (nb) a b v E (off Z y) (off Z y)) := ⟨_, _, h6⟩; clear hn h6 H5)
                | (go_at_call 10; refine (kstop_is H4d.out.ref HFZ.out y H4d.out.bel.size).mono ?_; rintro e w5 ⟨rfl, hn⟩; have hxw5 : Hid (w5.heap[X]? = some (.cells #[.int .u8 k, .int .i64 y, .int .i64 t, .int .i64 s] 39 (0, 0))) := H4d.out.rnX hn HXd.out; have xx1w5 : w5.cell? ⟨X, 1, none⟩ = some (.int .i64 y) := (by rw [cell_of hxw5.out]; rfl); obtain ⟨u5, h5⟩ := H4d.out.setRef hn; have G5 : Hid (St w w5 p mb tb q K (n) (nb) vp u5 v E (Z) (off Z y)) := h5; clear hn h5 H4d))
              all_goals
                go_wp2
                go_meet
                obtain ⟨a6, b6, h6⟩ := H6.out
                exact ⟨_, nb, _, _, _, _, _, ⟨by have h1 := off_len Z y; have h2 := HZL.out; omega, by have := HZL.out; omega, by have := HZL.out; omega⟩, hxw6, h6⟩
            · have hk0 : ¬ k % 6 = 0 := fun h => hk01 (Or.inl h)
              have hk1 : ¬ k % 6 = 1 := fun h => hk01 (Or.inr h)
              clear hk01
              obtain ⟨c, hc⟩ : ∃ c, (due Z).length = c := ⟨_, rfl⟩
              have HC : Hid ((due Z).length = c) := hc
              have HCm : Hid (((due Z).map Prod.fst).length = c) := by show _ = _; rw [List.length_map]; exact hc
              have hcn : c ≤ 1000 := by rw [← hc]; have h1 := due_len Z; have h2 := HZL.out; omega
              have HFZ : Hid (Fine Z) := H4.out.lst.fine
              have HNB : Hid (nb + 1 ≤ 1000) := (by have := HZL.out; show _ ≤ _; omega)
              have HCN : Hid (c ≤ 1000000) := (by show _ ≤ _; omega)
              clear hc
              go_wp2_with (first
                | (go_at_call 11; refine (ptick_at H4.out.lst H4.out.bel.size HC.out).mono ?_; rintro e w5 ⟨tp, tc, rfl, ho, hn⟩; have HF : Hid (Far E (.slice tp c tc)) := H4.out.far ho; have HO : Hid (w5.ownsRow w.heap.size 3 1 (.slice tp c tc) c (num ((due Z).map Prod.fst))) := owns_base ho H4.out.bel.size; have hxw5 : Hid (w5.heap[X]? = some (.cells #[.int .u8 k, .int .i64 y, .int .i64 t, .int .i64 s] 39 (0, 0))) := H4.out.ntX hn HX.out; obtain ⟨vp5, h5⟩ := H4.out.setLst hn; have H5 : Hid (St w w5 p mb tb q K (n) (nb) vp5 u v E (tickL Z) (Z)) := h5; clear ho hn h5)
                | (go_at_call 13; refine (qtick_at H5.out.ref HFZ.out H5.out.bel.size HC.out).mono ?_; rintro e w6 ⟨sp6, c6, rfl, ho6, hn⟩; have HS6 : Hid (Src w6 sp6 ((due Z).map Prod.fst)) := own_src ho6 HCm.out; have HO6 : Hid (w6.ownsRow w.heap.size 3 1 (.slice tp c tc) c (num ((due Z).map Prod.fst))) := H5.out.rnRow hn HO.out; have hxw6 : Hid (w6.heap[X]? = some (.cells #[.int .u8 k, .int .i64 y, .int .i64 t, .int .i64 s] 39 (0, 0))) := H5.out.rnX hn hxw5.out; obtain ⟨u6, h6⟩ := H5.out.setRef hn; have H6 : Hid (St w w6 p mb tb q K (n) (nb) vp5 u6 v E (tickL Z) (tickL Z)) := h6; clear ho6 hn h6)
                | (go_at_call 12; refine (same_is (own_src HO6.out HCm.out) HS6.out HCm.out (by omega) _ _).mono ?_; rintro e w7 ⟨rfl, hb⟩; have HO7 : Hid (w7.ownsRow w.heap.size 3 1 (.slice tp c tc) c (num ((due Z).map Prod.fst))) := owns_below HO6.out hb; have hxw7 : Hid (w7.heap[X]? = some (.cells #[.int .u8 k, .int .i64 y, .int .i64 t, .int .i64 s] 39 (0, 0))) := (hb.block X (at_lt hxw6.out)).trans hxw6.out; have H7 : Hid (St w w7 p mb tb q K (n) (nb) vp5 u6 v E (tickL Z) (tickL Z)) := H6.out.below hb; clear hb)
                | (go_at_call 14; refine (book_put H7.out.book (by rw [H7.out.many]; exact HNB.out) (by have := HNB.out; omega) _ _ _).mono ?_; rintro e w8 ⟨rfl, v8, hk8, hu8⟩; have hxw8 : Hid (w8.heap[X]? = some (.cells #[.int .u8 k, .int .i64 y, .int .i64 t, .int .i64 s] 39 (0, 0))) := H7.out.rowK hu8 hxw7.out; have H8 : Hid (St w w8 p mb tb q K n (nb + 1) vp5 u6 v8 _ (tickL Z) (tickL Z)) := H7.out.put HNB.out HCN.out HO7.out HF.out hk8 hu8; clear hk8 hu8))
              go_meet
              exact ⟨n, nb + 1, _, _, _, _, _, ⟨by have h1 := tick_len Z; have h2 := HZL.out; omega, by have := HZL.out; omega, by have := HZL.out; omega⟩, hxw8, H8⟩
        case rest =>
          obtain ⟨n', nb', vp', u', v', E', Y, HYL, HX5, H5⟩ := hcut
          clear H4 HX x0 x1 x2 x3 HZL
          have x1 : wc.cell? ⟨X, 1, none⟩ = some (.int .i64 y) := by rw [cell_of HX5.out]; rfl
          have HFY : Hid (Fine Y) := H5.out.lst.fine
          have H5d : Hid (St w wc.drew p mb tb q K n' nb' vp' u' v' E' Y Y) := H5.out.below (below_drewN _ 1)
          have HXd : Hid (wc.drew.heap[X]? = some (.cells #[.int .u8 k, .int .i64 y, .int .i64 t, .int .i64 s] 39 (0, 0))) := HX5.out
          clear H5
          go_wp2
          go_region_held3 (fun w' => w'.cell? ⟨X, 1, none⟩ = some (.int .i64 y)) (go_keep) (first
            | (go_at_call 15; refine (aleft_is H5d.out.lst y).mono ?_; rintro e w6 ⟨rfl, hb⟩; have hxw6 : Hid (w6.heap[X]? = some (.cells #[.int .u8 k, .int .i64 y, .int .i64 t, .int .i64 s] 39 (0, 0))) := (hb.block X (at_lt HXd.out)).trans HXd.out; have xx1w6 : w6.cell? ⟨X, 1, none⟩ = some (.int .i64 y) := (by rw [cell_of hxw6.out]; rfl); have H6 : Hid (St w w6 p mb tb q K n' nb' vp' u' v' E' Y Y) := H5d.out.below hb; clear hb H5d)
            | (go_at_call 15; refine (aleft_is G6.out.lst y).mono ?_; rintro e w7 ⟨rfl, hb⟩; have hxw7 : Hid (w7.heap[X]? = some (.cells #[.int .u8 k, .int .i64 y, .int .i64 t, .int .i64 s] 39 (0, 0))) := (hb.block X (at_lt HXd.out)).trans HXd.out; have xx1w7 : w7.cell? ⟨X, 1, none⟩ = some (.int .i64 y) := (by rw [cell_of hxw7.out]; rfl); have H7 : Hid (∃ a b, St w w7 p mb tb q K n' nb' a b v' E' Y Y) := ⟨_, _, G6.out.below hb⟩; clear hb G6)
            | (go_at_call 16; refine (kleft_is H6.out.ref HFY.out y).mono ?_; rintro e w7 ⟨rfl, hw⟩; obtain rfl := hw; have H7 : Hid (∃ a b, St w w6 p mb tb q K n' nb' a b v' E' Y Y) := ⟨_, _, H6.out⟩; clear H6)
            | (go_at_call 16; refine (kleft_is H5d.out.ref HFY.out y).mono ?_; rintro e w7 ⟨rfl, hw⟩; obtain rfl := hw; have G6 : Hid (St w wc.drew p mb tb q K n' nb' vp' u' v' E' Y Y) := H5d.out; clear H5d))
          all_goals
            go_wp2
            go_roundg g'
            case measure => omega
            case rel =>
              obtain ⟨a6, b6, h6⟩ := H7.out
              exact ⟨i + 1, n', nb', _, _, _, _, _, by omega, HYL.out.2.1, HYL.out.2.2, HYL.out.1, by go_num, h6⟩
end Go.Proofs.YtciafjmljmeimaaDoor
