/- 'DeltasPlay' walked: whatever is done with a list, each answer, and all that sleep, are the documented ones. -/
import Derived.Test.YtdifgjioaikchaaDoorPlaySt
import Derived.Test.YtdifgjioaikchaaDoorArgs
import Derived.Deep.CutBlock
namespace Go.Proofs.YtdifgjioaikchaaDoor
open Go Go.RowKit
set_option maxRecDepth 100000
set_option linter.unusedVariables false
theorem own_src {w : World} {B : Nat} {sp : Option Addr} {n c : Nat} {zs : List Int} (h : w.ownsRow B 3 1 (.slice sp n c) n (num zs)) (hn : zs.length = n) : Src w sp zs := by
  subst hn
  obtain ⟨sp', cap', e, hs⟩ := Src.own h
  simp only [Value.slice.injEq] at e
  rw [e.1]; exact hs
theorem tick_at {B : Nat} {w : World} {p m : Nat} {v : Value} {ys : List (Int × Int)} (h : Lst B w p v ys) (hB : B ≤ w.heap.size) (hm : (woke ys).length = m) :
    Calls Tryd.prog 11 #[.pointer (some ⟨p, 0, none⟩)] w fun e w' => ∃ sp cap, e = .returned (.slice sp m cap) ∧ w'.ownsRow w.heap.size 3 1 (.slice sp m cap) m (num (woke ys)) ∧ Nt B w w' p v (rest ys) := by
  subst hm
  refine (tick_is h hB).mono ?_
  rintro e w' ⟨u, rfl, ho, _, hn⟩
  obtain ⟨sp, cap, rfl, _⟩ := own_form ho
  exact ⟨sp, cap, rfl, ho, hn⟩
theorem rtick_at {B : Nat} {w : World} {q m : Nat} {v : Value} {ys : List (Int × Int)} (h : Ref B w q v ys) (hB : B ≤ w.heap.size) (hm : (woke ys).length = m) :
    Calls Tryd.prog 13 #[.pointer (some ⟨q, 0, none⟩)] w fun e w' => ∃ sp cap, e = .returned (.slice sp m cap) ∧ w'.ownsRow w.heap.size 3 1 (.slice sp m cap) m (num (woke ys)) ∧ RN B w w' q v (rest ys) := by
  subst hm; exact rtick_is h hB
theorem all_at {B : Nat} {w : World} {p m : Nat} {v : Value} {ys : List (Int × Int)} (h : Lst B w p v ys) (hm : ys.length = m) :
    Calls Tryd.prog 15 #[.pointer (some ⟨p, 0, none⟩)] w fun e w' => ∃ sp cap, e = .returned (.slice sp m cap) ∧ w'.ownsRow w.heap.size 3 1 (.slice sp m cap) m (num (allOf ys)) ∧ Below w.heap.size w w' := by
  subst hm
  refine (all_is h).mono ?_
  rintro e w' ⟨rfl, hr, hb⟩
  refine ⟨_, _, rfl, ?_, hb⟩
  have := own_row hr (Nat.le_refl _) (by rw [allOf_len]; have := h.len; omega)
  rw [allOf_len] at this
  exact this
theorem rall_at {B : Nat} {w : World} {q m : Nat} {v : Value} {ys : List (Int × Int)} (h : Ref B w q v ys) (hm : ys.length = m) :
    Calls Tryd.prog 16 #[.pointer (some ⟨q, 0, none⟩)] w fun e w' => ∃ sp cap, e = .returned (.slice sp m cap) ∧ w'.ownsRow w.heap.size 3 1 (.slice sp m cap) m (num (allOf ys)) ∧ Below w.heap.size w w' := by
  subst hm; exact rall_is h
theorem St.ntX {w0 wx w' : World} {p q K nb X : Nat} {vp u v : Value} {E : List Ent} {xs ys zs : List (Int × Int)} {cx : Array Value} (H : St w0 wx p q K nb vp u v E xs ys) (hn : Nt w0.heap.size wx w' p vp zs) (hX : wx.heap[X]? = some (.cells cx 40 (0, 0))) : w'.heap[X]? = some (.cells cx 40 (0, 0)) := by
  obtain ⟨_, _, hb, _⟩ := hn
  exact (hb.block X (at_lt hX) (H.outL hX (by decide) (by decide))).trans hX
theorem St.rnX {w0 wx w' : World} {p q K nb X : Nat} {vp u v : Value} {E : List Ent} {xs ys zs : List (Int × Int)} {cx : Array Value} (H : St w0 wx p q K nb vp u v E xs ys) (hn : RN w0.heap.size wx w' q u zs) (hX : wx.heap[X]? = some (.cells cx 40 (0, 0))) : w'.heap[X]? = some (.cells cx 40 (0, 0)) := by
  obtain ⟨_, _, hb, _⟩ := hn
  exact (hb.block X (at_lt hX) (H.outR hX (by decide) (by decide))).trans hX
theorem St.rnRow {w0 wx w' : World} {p q K nb B m : Nat} {vp u v z : Value} {E : List Ent} {xs ys zs : List (Int × Int)} {us : List Value} (H : St w0 wx p q K nb vp u v E xs ys) (hn : RN w0.heap.size wx w' q u zs) (ho : wx.ownsRow B 3 1 z m us) : w'.ownsRow B 3 1 z m us := by
  obtain ⟨_, _, hb, _⟩ := hn
  exact owns_buts ho hb (H.rowL ho)
set_option maxHeartbeats 16000000 in
theorem play_any {w : World} {sa : Option Addr} {acts : List (Int × Int × Int)} (ha : Acts w.heap.size w sa acts) (hma : acts.length ≤ maxLen) (ca : Nat) :
    Calls Tryd.prog 3 #[.slice sa acts.length ca] w fun e w' => e = .returned (.bool true) ∧ Below w.heap.size w w' := by
  unfold maxLen at hma
  obtain ⟨m, hm'⟩ : ∃ m, acts.length = m := ⟨_, rfl⟩
  rw [hm'] at hma ⊢
  have HM : Hid (acts.length = m) := hm'
  have HA : Hid (Acts w.heap.size w sa acts) := ha
  clear hm' ha
  by_cases hbig : 300 < m
  · go_enter Tryd.func3, Tryd.ntmps3
    go_wp2
    go_ret
    exact ⟨rfl, Below.refl _ _⟩
  · go_enter Tryd.func3, Tryd.ntmps3
    go_wp2_with (go_at_call 4; refine (new_any w w.heap.size (Nat.le_refl _)).mono ?_; rintro e w1 ⟨rfl, hP1, hb1⟩; have HP1 : Hid (Lst w.heap.size w1 w.heap.size (.slice none 0 0) []) := hP1; have HB1 : Hid (Below w.heap.size w w1) := hb1; clear hP1 hb1)
    have HS0 : Hid (St w ((w1.alloc (.cells #[.slice none 0 0] 28)).alloc (.cells (bk 0 (.slice none 0 0)) 38)) w.heap.size w1.heap.size (w1.heap.size + 1) 0 (.slice none 0 0) (.slice none 0 0) (.slice none 0 0) [] [] []) := by
      have hba := alloc_below w1 (.cells #[.slice none 0 0] 28)
      have hbb := alloc_below (w1.alloc (.cells #[.slice none 0 0] 28)) (.cells (bk 0 (.slice none 0 0)) 38)
      have hB1 := HB1.out.trans (hba.mono HB1.out.size)
      have hR : Ref w.heap.size (w1.alloc (.cells #[.slice none 0 0] 28)) w1.heap.size (.slice none 0 0) [] := ⟨alloc_at w1 _, World.ownsRow_nil _ _ _ _, HB1.out.size, by simp, Good.nil⟩
      have hK := Bk.start (w := w1.alloc (.cells #[.slice none 0 0] 28)) (B := w.heap.size) hB1.size
      rw [alloc_size] at hK
      exact ⟨(HP1.out.below hba).below hbb, hR.below hbb, hK, ⟨fun j e he => by simp at he, fun j k e f _ he => by simp at he, fun j e he => by simp at he, fun j e he => by simp at he⟩, hB1.trans (hbb.mono hB1.size), rfl⟩
    clear HP1 HB1
    generalize w1.heap.size + 1 = K at *
    generalize w1.heap.size = q at *
    go_loopg [6] m (fun gk s6 wx => ∃ (i nb : Nat) (vp u v : Value) (E : List Ent) (Z : List (Int × Int)), i + gk = m ∧ nb ≤ 2 * i ∧ Z.length ≤ i ∧ s6 = .int .i64 i ∧ Hid (St w wx w.heap.size q K nb vp u v E Z Z))
    case atStart => exact ⟨0, 0, _, _, _, _, [], by omega, by omega, by simp, rfl, HS0⟩
    case round =>
      clear HS0
      obtain ⟨i, nb, vp, u, v, E, Z, hig, hnb, hZl, rfl, HT⟩ := hrel
      cases gk with
      | zero =>
        obtain rfl : i = m := by omega
        have hlt : ¬ ((i : Int) < i) := by omega
        go_wp2_with (first
          | (go_at_call 17; refine (apart_yes HT.out.book HT.out.lists).mono ?_; rintro e w17 ⟨rfl, hd17⟩))
        go_ret
        exact ⟨rfl, HT.out.bel.trans hd17⟩
      | succ g' =>
        have hlt : (i : Int) < m := by omega
        have hbi : i < 300 := by omega
        obtain ⟨⟨k, y, t⟩, hx⟩ : ∃ x, acts[i]? = some x := ⟨_, List.getElem?_eq_getElem (by rw [HM.out]; omega)⟩
        obtain ⟨b, off, rfl, hbl, hc⟩ := (HA.out.below HT.out.bel).spot (by rw [HM.out]; omega)
        obtain ⟨y0, y1, y2⟩ := hc i _ hx
        obtain ⟨hk, hyb, htb⟩ := HA.out.wf i _ hx
        simp only at y0 y1 y2 hk hyb htb
        have HY : Hid ((-9223372036854775808 ≤ y ∧ y ≤ 9223372036854775807) ∧ (-9223372036854775808 ≤ t ∧ t ≤ 9223372036854775807)) := ⟨hyb, htb⟩
        clear hc hx hyb htb
        have hkm : 0 ≤ k % 6 ∧ k % 6 < 6 := by omega
        have HZL : Hid (Z.length ≤ i) := hZl
        clear hZl
        have hb0 := alloc_below wr (.cells #[.int .u8 k, .int .i64 y, .int .i64 t] 40)
        have HX : Hid ((wr.alloc (.cells #[.int .u8 k, .int .i64 y, .int .i64 t] 40)).heap[wr.heap.size]? = some (.cells #[.int .u8 k, .int .i64 y, .int .i64 t] 40 (0, 0))) := alloc_at wr _
        have H4 : Hid (St w (wr.alloc (.cells #[.int .u8 k, .int .i64 y, .int .i64 t] 40)) w.heap.size q K nb vp u v E Z Z) := HT.out.below hb0
        clear hb0
        go_upto_block 2 with fail
        obtain ⟨X, hX⟩ : ∃ X, wr.heap.size = X := ⟨_, rfl⟩
        rw [hX] at HX
        rw [hX]
        clear hX
        generalize wr.alloc (.cells #[.int .u8 k, .int .i64 y, .int .i64 t] 40) = w4 at *
        have x0 : w4.cell? ⟨X, 0, none⟩ = some (.int .u8 k) := by rw [cell_of HX.out]; rfl
        have x1 : w4.cell? ⟨X, 1, none⟩ = some (.int .i64 y) := by rw [cell_of HX.out]; rfl
        have x2 : w4.cell? ⟨X, 2, none⟩ = some (.int .i64 t) := by rw [cell_of HX.out]; rfl
        clear y0 y1 y2 HT
        go_cut [8, 9, 10, 11, 12] from 33 to 95 (fun s8 s9 s10 s11 s12 wx => ∃ (nb' : Nat) (vp' u' v' : Value) (E' : List Ent) (Y : List (Int × Int)), nb' ≤ 2 * i + 1 ∧ Y.length ≤ i + 1 ∧ Hid (St w wx w.heap.size q K nb' vp' u' v' E' Y Y))
        case first =>
          by_cases hk01 : k % 6 = 0 ∨ k % 6 = 1
          · rcases hk01 with hk0 | hk1
            all_goals
              have HZ1 : Hid (Z.length < 1000) := (by have := HZL.out; show _ < _; omega)
              go_wp2
              have H4d : Hid (St w w4.drew w.heap.size q K (nb) vp u v E (Z) (Z)) := H4.out.below (below_drewN _ 1)
              have HXd : Hid (w4.drew.heap[X]? = some (.cells #[.int .u8 k, .int .i64 y, .int .i64 t] 40 (0, 0))) := HX.out
              clear H4
              go_region_held3 (fun w' => w'.cell? ⟨X, 1, none⟩ = some (.int .i64 y) ∧ w'.cell? ⟨X, 2, none⟩ = some (.int .i64 t)) (go_keep) (first
                | (go_at_call 5; refine (put_is H4d.out.lst y t HZ1.out H4d.out.bel.size).mono ?_; rintro e w5 ⟨rfl, hn⟩; have hxw5 : Hid (w5.heap[X]? = some (.cells #[.int .u8 k, .int .i64 y, .int .i64 t] 40 (0, 0))) := H4d.out.ntX hn HXd.out; have xx1w5 : w5.cell? ⟨X, 1, none⟩ = some (.int .i64 y) := (by rw [cell_of hxw5.out]; rfl); have xx2w5 : w5.cell? ⟨X, 2, none⟩ = some (.int .i64 t) := (by rw [cell_of hxw5.out]; rfl); obtain ⟨vp5, h5⟩ := H4d.out.setLst hn; have H5 : Hid (St w w5 w.heap.size q K (nb) vp5 u v E (putL Z y t) (Z)) := h5; clear hn h5 H4d)
                | (go_at_call 5; refine (put_is G5.out.lst y t HZ1.out G5.out.bel.size).mono ?_; rintro e w6 ⟨rfl, hn⟩; have hxw6 : Hid (w6.heap[X]? = some (.cells #[.int .u8 k, .int .i64 y, .int .i64 t] 40 (0, 0))) := G5.out.ntX hn hxw5.out; have xx1w6 : w6.cell? ⟨X, 1, none⟩ = some (.int .i64 y) := (by rw [cell_of hxw6.out]; rfl); have xx2w6 : w6.cell? ⟨X, 2, none⟩ = some (.int .i64 t) := (by rw [cell_of hxw6.out]; rfl); obtain ⟨vp6, h6⟩ := G5.out.setLst hn; have H6 : Hid (∃ a b, St w w6 w.heap.size q K (nb) a b v E (putL Z y t) (putL Z y t)) := ⟨_, _, h6⟩; clear hn h6 G5)
                | (go_at_call 6; refine (rput_is H5.out.ref y t HZ1.out H5.out.bel.size).mono ?_; rintro e w6 ⟨rfl, hn⟩; have hxw6 : Hid (w6.heap[X]? = some (.cells #[.int .u8 k, .int .i64 y, .int .i64 t] 40 (0, 0))) := H5.out.rnX hn hxw5.out; have xx1w6 : w6.cell? ⟨X, 1, none⟩ = some (.int .i64 y) := (by rw [cell_of hxw6.out]; rfl); have xx2w6 : w6.cell? ⟨X, 2, none⟩ = some (.int .i64 t) := (by rw [cell_of hxw6.out]; rfl); obtain ⟨u6, h6⟩ := H5.out.setRef hn; have H6 : Hid (∃ a b, St w w6 w.heap.size q K (nb) a b v E (putL Z y t) (putL Z y t)) := ⟨_, _, h6⟩; clear hn h6 H5)
                | (go_at_call 6; refine (rput_is H4d.out.ref y t HZ1.out H4d.out.bel.size).mono ?_; rintro e w5 ⟨rfl, hn⟩; have hxw5 : Hid (w5.heap[X]? = some (.cells #[.int .u8 k, .int .i64 y, .int .i64 t] 40 (0, 0))) := H4d.out.rnX hn HXd.out; have xx1w5 : w5.cell? ⟨X, 1, none⟩ = some (.int .i64 y) := (by rw [cell_of hxw5.out]; rfl); have xx2w5 : w5.cell? ⟨X, 2, none⟩ = some (.int .i64 t) := (by rw [cell_of hxw5.out]; rfl); obtain ⟨u5, h5⟩ := H4d.out.setRef hn; have G5 : Hid (St w w5 w.heap.size q K (nb) vp u5 v E (Z) (putL Z y t)) := h5; clear hn h5 H4d))
              all_goals
                go_wp2
                go_meet
                obtain ⟨a6, b6, h6⟩ := H6.out
                exact ⟨nb, _, _, _, _, _, by omega, by have h1 := putL_len Z y t; have h2 := HZL.out; omega, h6⟩
          · by_cases hk2 : k % 6 = 2
            · go_wp2
              have H4d : Hid (St w w4.drew w.heap.size q K (nb) vp u v E (Z) (Z)) := H4.out.below (below_drewN _ 1)
              have HXd : Hid (w4.drew.heap[X]? = some (.cells #[.int .u8 k, .int .i64 y, .int .i64 t] 40 (0, 0))) := HX.out
              clear H4
              go_region_held3 (fun w' => w'.cell? ⟨X, 1, none⟩ = some (.int .i64 y) ∧ w'.cell? ⟨X, 2, none⟩ = some (.int .i64 t)) (go_keep) (first
                | (go_at_call 7; refine (remove_is H4d.out.lst y).mono ?_; rintro e w5 ⟨rfl, hn⟩; have hxw5 : Hid (w5.heap[X]? = some (.cells #[.int .u8 k, .int .i64 y, .int .i64 t] 40 (0, 0))) := H4d.out.ntX hn HXd.out; have xx1w5 : w5.cell? ⟨X, 1, none⟩ = some (.int .i64 y) := (by rw [cell_of hxw5.out]; rfl); have xx2w5 : w5.cell? ⟨X, 2, none⟩ = some (.int .i64 t) := (by rw [cell_of hxw5.out]; rfl); obtain ⟨vp5, h5⟩ := H4d.out.setLst hn; have H5 : Hid (St w w5 w.heap.size q K (nb) vp5 u v E (gone Z y) (Z)) := h5; clear hn h5 H4d)
                | (go_at_call 7; refine (remove_is G5.out.lst y).mono ?_; rintro e w6 ⟨rfl, hn⟩; have hxw6 : Hid (w6.heap[X]? = some (.cells #[.int .u8 k, .int .i64 y, .int .i64 t] 40 (0, 0))) := G5.out.ntX hn hxw5.out; have xx1w6 : w6.cell? ⟨X, 1, none⟩ = some (.int .i64 y) := (by rw [cell_of hxw6.out]; rfl); have xx2w6 : w6.cell? ⟨X, 2, none⟩ = some (.int .i64 t) := (by rw [cell_of hxw6.out]; rfl); obtain ⟨vp6, h6⟩ := G5.out.setLst hn; have H6 : Hid (∃ a b, St w w6 w.heap.size q K (nb) a b v E (gone Z y) (gone Z y)) := ⟨_, _, h6⟩; clear hn h6 G5)
                | (go_at_call 8; refine (rremove_is H5.out.ref y H5.out.bel.size).mono ?_; rintro e w6 ⟨rfl, hn⟩; have hxw6 : Hid (w6.heap[X]? = some (.cells #[.int .u8 k, .int .i64 y, .int .i64 t] 40 (0, 0))) := H5.out.rnX hn hxw5.out; have xx1w6 : w6.cell? ⟨X, 1, none⟩ = some (.int .i64 y) := (by rw [cell_of hxw6.out]; rfl); have xx2w6 : w6.cell? ⟨X, 2, none⟩ = some (.int .i64 t) := (by rw [cell_of hxw6.out]; rfl); obtain ⟨u6, h6⟩ := H5.out.setRef hn; have H6 : Hid (∃ a b, St w w6 w.heap.size q K (nb) a b v E (gone Z y) (gone Z y)) := ⟨_, _, h6⟩; clear hn h6 H5)
                | (go_at_call 8; refine (rremove_is H4d.out.ref y H4d.out.bel.size).mono ?_; rintro e w5 ⟨rfl, hn⟩; have hxw5 : Hid (w5.heap[X]? = some (.cells #[.int .u8 k, .int .i64 y, .int .i64 t] 40 (0, 0))) := H4d.out.rnX hn HXd.out; have xx1w5 : w5.cell? ⟨X, 1, none⟩ = some (.int .i64 y) := (by rw [cell_of hxw5.out]; rfl); have xx2w5 : w5.cell? ⟨X, 2, none⟩ = some (.int .i64 t) := (by rw [cell_of hxw5.out]; rfl); obtain ⟨u5, h5⟩ := H4d.out.setRef hn; have G5 : Hid (St w w5 w.heap.size q K (nb) vp u5 v E (Z) (gone Z y)) := h5; clear hn h5 H4d))
              all_goals
                go_wp2
                go_meet
                obtain ⟨a6, b6, h6⟩ := H6.out
                exact ⟨nb, _, _, _, _, _, by omega, by have h1 := gone_len Z y; have h2 := HZL.out; omega, h6⟩
            · by_cases hk3 : k % 6 = 3
              · go_wp2_with (first
                  | (go_at_call 9; refine (left_is H4.out.lst y).mono ?_; rintro e w5 ⟨rfl, hb⟩; have H5 : Hid (St w w5 w.heap.size q K (nb) vp u v E (Z) (Z)) := H4.out.below hb; have hxw5 : Hid (w5.heap[X]? = some (.cells #[.int .u8 k, .int .i64 y, .int .i64 t] 40 (0, 0))) := (hb.block X (at_lt HX.out)).trans HX.out; have xx1w5 : w5.cell? ⟨X, 1, none⟩ = some (.int .i64 y) := (by rw [cell_of hxw5.out]; rfl); have xx2w5 : w5.cell? ⟨X, 2, none⟩ = some (.int .i64 t) := (by rw [cell_of hxw5.out]; rfl); clear hb)
                  | (go_at_call 10; refine (rleft_is H5.out.ref y).mono ?_; rintro e w6 ⟨rfl, hw6⟩; obtain rfl := hw6.symm))
                go_meet
                exact ⟨nb, _, _, _, _, _, by omega, by have := HZL.out; omega, H5⟩
              · by_cases hk4 : k % 6 = 4
                · obtain ⟨c, hc⟩ : ∃ c, (woke Z).length = c := ⟨_, rfl⟩
                  have HC : Hid ((woke Z).length = c) := hc
                  have hcn : c ≤ 1000 := by rw [← hc]; have h1 := woke_len Z; have h2 := HZL.out; omega
                  clear hc
                  go_wp2_with (first
                    | (go_at_call 11; refine (tick_at H4.out.lst H4.out.bel.size HC.out).mono ?_; rintro e w5 ⟨tp, tc, rfl, ho, hn⟩; have HF : Hid (Far E (.slice tp c tc)) := H4.out.far ho; have HO : Hid (w5.ownsRow w.heap.size 3 1 (.slice tp c tc) c (num (woke Z))) := owns_base ho H4.out.bel.size; obtain ⟨vp5, h5⟩ := H4.out.setLst hn; have H5 : Hid (St w w5 w.heap.size q K (nb) vp5 u v E (rest Z) (Z)) := h5; clear ho hn h5)
                    | (go_at_call 13; refine (rtick_at H5.out.ref H5.out.bel.size HC.out).mono ?_; rintro e w6 ⟨sp6, c6, rfl, ho6, hn⟩; have HS6 : Hid (Src w6 sp6 (woke Z)) := own_src ho6 HC.out; have HO6 : Hid (w6.ownsRow w.heap.size 3 1 (.slice tp c tc) c (num (woke Z))) := H5.out.rnRow hn HO.out; obtain ⟨u6, h6⟩ := H5.out.setRef hn; have H6 : Hid (St w w6 w.heap.size q K (nb) vp5 u6 v E (rest Z) (rest Z)) := h6; clear ho6 hn h6)
                    | (go_at_call 12; refine (same_is (own_src HO6.out HC.out) HS6.out HC.out (by omega) _ _).mono ?_; rintro e w7 ⟨rfl, hb⟩; have HO7 : Hid (w7.ownsRow w.heap.size 3 1 (.slice tp c tc) c (num (woke Z))) := owns_below HO6.out hb; have H7 : Hid (St w w7 w.heap.size q K (nb) vp5 u6 v E (rest Z) (rest Z)) := H6.out.below hb; clear hb)
                    | (go_at_call 14; refine (book_put H7.out.book (by rw [H7.out.many]; omega) (by omega) _ _ _).mono ?_; rintro e w8 ⟨rfl, v8, hk8, hu8⟩; have H8 : Hid (St w w8 w.heap.size q K (nb + 1) vp5 u6 v8 _ (rest Z) (rest Z)) := H7.out.put (by omega) (by omega) HO7.out HF.out hk8 hu8; clear hk8 hu8))
                  go_meet
                  exact ⟨nb + 1, _, _, _, _, _, by omega, by have h1 := rest_len Z; have h2 := HZL.out; omega, H8⟩
                · have hk5 : k % 6 = 5 := by omega
                  obtain ⟨c, hc⟩ : ∃ c, (woke Z).length = c := ⟨_, rfl⟩
                  have HC : Hid ((woke Z).length = c) := hc
                  have hcn : c ≤ 1000 := by rw [← hc]; have h1 := woke_len Z; have h2 := HZL.out; omega
                  clear hc
                  go_wp2_with (first
                    | (go_at_call 11; refine (tick_at H4.out.lst H4.out.bel.size HC.out).mono ?_; rintro e w5 ⟨tp, tc, rfl, ho, hn⟩; have HF : Hid (Far E (.slice tp c tc)) := H4.out.far ho; have HO : Hid (w5.ownsRow w.heap.size 3 1 (.slice tp c tc) c (num (woke Z))) := owns_base ho H4.out.bel.size; obtain ⟨vp5, h5⟩ := H4.out.setLst hn; have H5 : Hid (St w w5 w.heap.size q K (nb) vp5 u v E (rest Z) (Z)) := h5; clear ho hn h5)
                    | (go_at_call 13; refine (rtick_at H5.out.ref H5.out.bel.size HC.out).mono ?_; rintro e w6 ⟨sp6, c6, rfl, ho6, hn⟩; have HS6 : Hid (Src w6 sp6 (woke Z)) := own_src ho6 HC.out; have HO6 : Hid (w6.ownsRow w.heap.size 3 1 (.slice tp c tc) c (num (woke Z))) := H5.out.rnRow hn HO.out; obtain ⟨u6, h6⟩ := H5.out.setRef hn; have H6 : Hid (St w w6 w.heap.size q K (nb) vp5 u6 v E (rest Z) (rest Z)) := h6; clear ho6 hn h6)
                    | (go_at_call 12; refine (same_is (own_src HO6.out HC.out) HS6.out HC.out (by omega) _ _).mono ?_; rintro e w7 ⟨rfl, hb⟩; have HO7 : Hid (w7.ownsRow w.heap.size 3 1 (.slice tp c tc) c (num (woke Z))) := owns_below HO6.out hb; have H7 : Hid (St w w7 w.heap.size q K (nb) vp5 u6 v E (rest Z) (rest Z)) := H6.out.below hb; clear hb)
                    | (go_at_call 14; refine (book_put H7.out.book (by rw [H7.out.many]; omega) (by omega) _ _ _).mono ?_; rintro e w8 ⟨rfl, v8, hk8, hu8⟩; have H8 : Hid (St w w8 w.heap.size q K (nb + 1) vp5 u6 v8 _ (rest Z) (rest Z)) := H7.out.put (by omega) (by omega) HO7.out HF.out hk8 hu8; clear hk8 hu8))
                  go_meet
                  exact ⟨nb + 1, _, _, _, _, _, by omega, by have h1 := rest_len Z; have h2 := HZL.out; omega, H8⟩
        case rest =>
          obtain ⟨nb', vp', u', v', E', Y, hnb', hYl, H5⟩ := hcut
          clear H4 HX x0 x1 x2 HZL
          obtain ⟨c, hc⟩ : ∃ c, Y.length = c := ⟨_, rfl⟩
          have HC : Hid (Y.length = c) := hc
          have HC2 : Hid ((allOf Y).length = c) := by show _ = _; rw [allOf_len]; exact hc
          have HYL : Hid (Y.length ≤ i + 1) := hYl
          have hcn : c ≤ 1000 := by omega
          clear hc hYl
          go_wp2_with (first
            | (go_at_call 15; refine (all_at H5.out.lst HC.out).mono ?_; rintro e w6 ⟨tp, tc, rfl, ho, hb⟩; have HF : Hid (Far E' (.slice tp c tc)) := H5.out.far ho; have HO : Hid (w6.ownsRow w.heap.size 3 1 (.slice tp c tc) c (num (allOf Y))) := owns_base ho H5.out.bel.size; have H6 : Hid (St w w6 w.heap.size q K (nb') vp' u' v' E' (Y) (Y)) := H5.out.below hb; clear ho hb)
            | (go_at_call 16; refine (rall_at H6.out.ref HC.out).mono ?_; rintro e w7 ⟨sp7, c7, rfl, ho7, hb⟩; have HS7 : Hid (Src w7 sp7 (allOf Y)) := own_src ho7 HC2.out; have HO7 : Hid (w7.ownsRow w.heap.size 3 1 (.slice tp c tc) c (num (allOf Y))) := owns_below HO.out hb; have H7 : Hid (St w w7 w.heap.size q K (nb') vp' u' v' E' (Y) (Y)) := H6.out.below hb; clear ho7 hb)
            | (go_at_call 12; refine (same_is (own_src HO7.out HC2.out) HS7.out HC2.out (by omega) _ _).mono ?_; rintro e w8 ⟨rfl, hb⟩; have HO8 : Hid (w8.ownsRow w.heap.size 3 1 (.slice tp c tc) c (num (allOf Y))) := owns_below HO7.out hb; have H8 : Hid (St w w8 w.heap.size q K (nb') vp' u' v' E' (Y) (Y)) := H7.out.below hb; clear hb)
            | (go_at_call 14; refine (book_put H8.out.book (by rw [H8.out.many]; omega) (by omega) _ _ _).mono ?_; rintro e w10 ⟨rfl, v10, hk10, hu10⟩; have H10 : Hid (St w w10 w.heap.size q K (nb' + 1) vp' u' v10 _ Y Y) := H8.out.put (by omega) (by omega) HO8.out HF.out hk10 hu10; clear hk10 hu10))
          go_roundg g'
          case measure => omega
          case rel => exact ⟨i + 1, nb' + 1, _, _, _, _, _, by omega, by omega, HYL.out, by go_num, H10⟩
end Go.Proofs.YtdifgjioaikchaaDoor
