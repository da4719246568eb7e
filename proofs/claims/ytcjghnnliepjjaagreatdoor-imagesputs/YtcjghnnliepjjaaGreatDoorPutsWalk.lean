/- 'ImagesPuts', walked: whether any image may be, and its bytes, are the document's own answers; it stays as it was, and answers are memory of their own. -/
import Derived.Test.YtcjghnnliepjjaaGreatDoorPuts0
namespace Go.Proofs.YtcjghnnliepjjaaGreatDoor
open Go Go.RowKit
set_option maxRecDepth 100000
set_option linter.unusedVariables false
set_option maxHeartbeats 4000000 in
theorem puts_a {w : World} {n : Int} {sp cp : Option Addr} {ds cs : List Int} {dc k kc : Nat} (hg : 5000 < ds.length ∨ 1100 < k) :
    Calls Tryz.prog 3 #[.agg #[.int .i64 n, .slice sp ds.length dc, .slice cp k kc]] w fun e w' => e = .returned (.bool true) ∧ Below w.heap.size w w' := by
  have cG := fun W => great_any (w := W) n sp ds.length dc cp k kc
  rw [decide_eq_true hg] at cG
  have hb0 : Below w.heap.size w (w.alloc (.cells #[.int .i64 n, .slice sp ds.length dc, .slice cp k kc] 25)) := alloc_below _ _
  clear hg
  go_enter Tryz.func3, Tryz.ntmps3
  go_wp2_with (first
    | (go_at_call 8; refine (cG _).mono ?_; rintro e w1 ⟨rfl, hb1⟩))
  go_ret
  exact ⟨rfl, on1 hb0 hb1⟩
set_option maxHeartbeats 8000000 in
theorem puts_b {w : World} (hE : Env3 w) {n : Int} {sp cp : Option Addr} {ds cs : List Int} {dc k kc : Nat} (h : ImgA w sp ds dc cp cs k kc) (hg : ¬ (5000 < ds.length ∨ 1100 < k)) :
    Calls Tryz.prog 3 #[.agg #[.int .i64 n, .slice sp ds.length dc, .slice cp k kc]] w fun e w' => e = .returned (.bool true) ∧ Below w.heap.size w w' := by
  have hd : ds.length ≤ 5000 := by omega
  have hk : k ≤ 1100 := by omega
  have cG := fun W => great_any (w := W) n sp ds.length dc cp k kc
  rw [decide_eq_false hg] at cG
  have hlen := h.i.len
  have hEn : ∀ W, Below w.heap.size w W → Env W := fun W hW => (hE.on hW).1.1
  have cT : ∀ W, Below w.heap.size w W → _ := fun W hW => twinM_any (n := n) (h.i.on hW) (by omega) (by omega) dc kc
  have HT : Hid (∀ W g hh, TwinM W g hh ds cs → Img W (some ⟨g, 0, none⟩) ds (some ⟨hh, 0, none⟩) cs k) := fun W g hh t => t.img h.i.len h.i.db h.i.cb
  have cP : ∀ W g hh, Below w.heap.size w W → TwinM W g hh ds cs → _ := fun W g hh hW t => put_own (size := n) (hEn W hW) (HT.out W g hh t) (ds.length + 1) (k + 1) (fun e => by cases e)
  have cR : ∀ W, Below w.heap.size w W → _ := fun W hW => rput_own (size := n) (h.i.on hW) dc kc h.dn
  have cC : ∀ W g hh, Below w.heap.size w W → TwinM W g hh ds cs → _ := fun W g hh hW t => Check_img (size := n) (hEn W hW) (HT.out W g hh t) (ds.length + 1) (k + 1)
  have cD : ∀ W, Below w.heap.size w W → _ := fun W hW => rCheck_img (size := n) (h.i.on hW) dc kc
  have cL : ∀ W g hh, Below w.heap.size w W → TwinM W g hh ds cs → _ := fun W g hh hW t => leftM_any (n := n) t (h.i.on hW) (by omega) (by omega) dc kc
  have hLl : (putL n ds cs k).length ≤ 10000 := by have := putL_len n ds cs k; omega
  have cS : ∀ (W : World) (p q : Option Addr) (c d : Nat), Src W p (putL n ds cs k) → Src W q (putL n ds cs k) → _ := fun W p q c d h1 h2 => same_any h1 h2 (by omega) (by omega) c d
  rw [decide_eq_true (rfl : putL n ds cs k = putL n ds cs k)] at cS
  have hlc : Hid (cs.length = 4 * k) := hlen
  clear hE hEn h hg hlen
  generalize putE n ds cs k = Er at *
  generalize putL n ds cs k = L at *
  generalize okI n ds cs k = ok at *
  have q1 : (ok != ok) = false := by simp
  have q2 : (Er != Er) = false := by simp
  have hb0 : Below w.heap.size w (w.alloc (.cells #[.int .i64 n, .slice sp ds.length dc, .slice cp k kc] 25)) := alloc_below _ _
  have X : Box (w.alloc (.cells #[.int .i64 n, .slice sp ds.length dc, .slice cp k kc] 25)) w.heap.size (.int .i64 n) (.slice sp ds.length dc) (.slice cp k kc) := Box.new w _ _ _ _
  have M0 := True.intro
  go_enter Tryz.func3, Tryz.ntmps3
  go_wp2_with (first
    | (go_at_call 8; refine (cG _).mono ?_; rintro e w1 ⟨rfl, hb1⟩; have B1 : Hid (Below w.heap.size w w1) := on1 hb0 hb1; have X1 := X.on hb1; have x10 := X1.c0; have x11 := X1.c1; have x12 := X1.c2)
    | (go_at_call 9; refine (cT _ B1.out).mono ?_; rintro e w2 ⟨g, hh, rfl, ⟨tm, g1, h1, gh⟩, hb2⟩; have B2 : Hid (Below w.heap.size w w2) := on1 B1.out hb2; have X2 := X1.on hb2; have T2 : Box (w2.alloc (.cells #[.int .i64 n, .slice (some ⟨g, 0, none⟩) ds.length (ds.length + 1), .slice (some ⟨hh, 0, none⟩) k (k + 1)] 25)) w2.heap.size (.int .i64 n) (.slice (some ⟨g, 0, none⟩) ds.length (ds.length + 1)) (.slice (some ⟨hh, 0, none⟩) k (k + 1)) := Box.new w2 _ _ _ _; have b2 : Below w2.heap.size w2 (w2.alloc (.cells #[.int .i64 n, .slice (some ⟨g, 0, none⟩) ds.length (ds.length + 1), .slice (some ⟨hh, 0, none⟩) k (k + 1)] 25)) := alloc_below _ _; have TM2 : Hid _ := tm.on b2; have Hg : Hid (g < w2.heap.size ∧ hh < w2.heap.size) := ⟨at_lt tm.d, at_lt tm.c⟩)
    | (clear M0; go_at_call 10; refine (cP _ _ _ (on1 B2.out b2) TM2.out).mono ?_; rintro e w3 ⟨qa, ca, rfl, oa, hb3⟩; have B3 : Hid (Below w.heap.size w w3) := on1 (on1 B2.out b2) hb3; have X3 := (X2.on b2).on hb3; have T3 := T2.on hb3; have t30 := T3.c0; have t31 := T3.c1; have t32 := T3.c2; have TM3 : Hid _ := TM2.out.on hb3)
    | (go_at_call 10; refine (cP _ _ _ B3.out TM3.out).mono ?_; rintro e w4 ⟨qb, cb, rfl, ob, hb4⟩; have B4 : Hid (Below w.heap.size w w4) := on1 B3.out hb4; have X4 := X3.on hb4; have x40 := X4.c0; have x41 := X4.c1; have x42 := X4.c2)
    | (go_at_call 11; refine (cR _ B4.out).mono ?_; rintro e w5 ⟨qw, cw, rfl, ow, hb5⟩))
  have B5 : Hid (Below w.heap.size w w5) := on1 B4.out hb5
  have X5 := X4.on hb5
  have T5 := (T3.on hb4).on hb5
  have TM5 : Hid (TwinM w5 g hh ds cs) := (TM3.out.on hb4).on hb5
  have OA : Hid _ := owns_below (owns_below oa hb4) hb5
  have OB : Hid _ := owns_below ob hb5
  have OW : Hid _ := ow
  have z2 : w.heap.size ≤ w2.heap.size := B2.out.size
  have S01 : Hid (∀ x, (Value.slice (some ⟨g, 0, none⟩) ds.length (ds.length + 1)).ownBlock = some x → (Value.slice qa L.length ca).ownBlock ≠ some x) := fun x hx e => by
    have h1 := (oa.lt x e).1
    rw [alloc_size] at h1
    have h2 := Hg.out.1
    simp only [Value.ownBlock, Option.some.injEq] at hx
    omega
  have S02 : Hid (∀ x, (Value.slice (some ⟨g, 0, none⟩) ds.length (ds.length + 1)).ownBlock = some x → (Value.slice qb L.length cb).ownBlock ≠ some x) := fun x hx e => by
    have h1 := (ob.lt x e).1
    have h2 := Hg.out.1
    have h3 := hb3.size
    rw [alloc_size] at h3
    simp only [Value.ownBlock, Option.some.injEq] at hx
    omega
  have S12 : Hid (∀ x, (Value.slice qa L.length ca).ownBlock = some x → (Value.slice qb L.length cb).ownBlock ≠ some x) := fun x hx e => by
    have h1 := (ob.lt x e).1
    have h2 := (oa.lt x hx).2
    omega
  have l2 : w2.heap.size < w5.heap.size := by have := cell_lt T5.c0; exact this
  have l1 : w.heap.size < w5.heap.size := cell_lt X5.c0
  have hWB : Hid (w.heap.size ≤ (w2.alloc (.cells #[.int .i64 n, .slice (some ⟨g, 0, none⟩) ds.length (ds.length + 1), .slice (some ⟨hh, 0, none⟩) k (k + 1)] 25)).heap.size) := (on1 B2.out b2).size
  have hW3 : Hid (w.heap.size ≤ w3.heap.size) := B3.out.size
  have hG1 : Hid (w.heap.size ≤ g ∧ w.heap.size ≤ hh) := by have := B1.out.size; exact ⟨by omega, by omega⟩
  clear oa ob ow X X1 X2 X3 X4 T2 T3 x10 x11 x12 t30 t31 t32 x40 x41 x42 tm TM2 TM3 cG cT cP cR hb1 hb2 hb3 hb4 hb5 b2 g1 h1 gh
  have x50 := X5.c0
  have x51 := X5.c1
  have x52 := X5.c2
  have t50 := T5.c0
  have t51 := T5.c1
  have t52 := T5.c2
  have BA : ∀ v, Below w.heap.size w (above w5 v) := fun v => on1 B5.out (below_above w5 v)
  have TA : ∀ v, TwinM (above w5 v) g hh ds cs := fun v => TM5.out.on (below_above w5 v)
  have SA : ∀ v, Src (above w5 v) qa L := fun v => (src_own OA.out).below (below_above w5 v)
  have SB : ∀ v, Src (above w5 v) qb L := fun v => (src_own OB.out).below (below_above w5 v)
  have SW : ∀ v, Src (above w5 v) qw L := fun v => (src_own OW.out).below (below_above w5 v)
  have hca := @above_cell
  refine wp_region_calm (by kernel_rfl) (by kernel_rfl) ?_
  repeat (go_big_quiet_step (first
    | (go_at_call 12; exact calm_call (cC _ _ _ (BA _) (TA _)))
    | (go_at_call 13; exact calm_call (cD _ (BA _)))
    | (go_at_call_of 14 (Value.slice qa L.length ca); exact calm_call (cS _ _ _ _ _ (SA _) (SW _)))
    | (go_at_call_of 14 (Value.slice qb L.length cb); exact calm_call (cS _ _ _ _ _ (SB _) (SW _)))
    | (go_at_call 15; exact calm_call (cL _ _ _ (BA _) (TA _)))))
  refine wpQuiet_nil ?_
  intro w6 hb6
  have B6 : Hid (Below w.heap.size w w6) := on1 B5.out hb6
  have T6 := T5.on hb6
  have RD : Hid _ := twin_own (TM5.out.on hb6).d hG1.out.1 (by omega)
  have RC : Hid _ := twin_ownI (TM5.out.on hb6).c hG1.out.2 hlc.out (by omega)
  have RA : Hid _ := owns_base (owns_below OA.out hb6) hWB.out
  have RB : Hid _ := owns_base (owns_below OB.out hb6) hW3.out
  have TW0 : Hid _ := two_new w6 B6.out.size
  have l6 : w2.heap.size < w6.heap.size := cell_lt T6.c0
  clear x50 x51 x52 t50 t51 t52 BA TA SA SB SW hca X5 T5 cC cD cL cS hb6 OA OB OW TM5
  have t60 := T6.c0
  have t61 := T6.c1
  have t62 := T6.c2
  have M1 := True.intro
  go_wp2_with (first
    | (go_at_call 16; refine (image_keep TW0.out (by decide) (by decide) (by decide) n _ _ _ _ _ _).mono ?_; rintro e w7 ⟨rfl, v1, v2, TW7, o7, b7⟩)
    | (clear M1; go_at_call 17; refine (bytes_keep TW7 (by simp) (by decide) qa L.length ca).mono ?_; rintro e w8 ⟨rfl, v3, TW8, o8, u8⟩)
    | (go_at_call 17; refine (bytes_keep TW8 (by simp) (by decide) qb L.length cb).mono ?_; rintro e w9 ⟨rfl, v4, TW9, o9, u9⟩; have OO : Oth [42, 94, 108] w6 w9 := (((Oth.below (alloc_below w6 _)).trans o7).trans (o8.mono (by simp))).trans (o9.mono (by simp)))
    | (go_at_call 18; refine (apart_yes TW9 (lists3 (OO.row RD.out (by decide)) (OO.row RA.out (by decide)) (OO.row RB.out (by decide)) S01.out S02.out S12.out (by decide) (by decide) (by decide) (by omega) (by omega) (by omega)) (lists1 (OO.row RC.out (by decide)) (by decide) (by omega))).mono ?_; rintro e w10 ⟨rfl, b10⟩))
  go_ret
  refine ⟨rfl, ?_⟩
  have b8 := two_below TW7.b.base TW7.b.head TW7.b.row u8
  have b9 := two_below TW8.b.base TW8.b.head TW8.b.row u9
  exact ((((B6.out.trans ((alloc_below w6 _).mono B6.out.size)).trans b7).trans b8).trans b9).trans b10
theorem puts_any {w : World} (hE : Env3 w) {n : Int} {sp cp : Option Addr} {ds cs : List Int} {dc k kc : Nat} (h : ImgA w sp ds dc cp cs k kc) :
    Calls Tryz.prog 3 #[.agg #[.int .i64 n, .slice sp ds.length dc, .slice cp k kc]] w fun e w' => e = .returned (.bool true) ∧ Below w.heap.size w w' := by
  by_cases hg : 5000 < ds.length ∨ 1100 < k
  · exact puts_a (cs := cs) hg
  · exact puts_b hE h hg
end Go.Proofs.YtcjghnnliepjjaaGreatDoor
