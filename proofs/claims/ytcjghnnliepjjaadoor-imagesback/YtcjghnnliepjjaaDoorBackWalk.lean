/- 'ImagesBack', walked. -/
import Derived.Test.YtcjghnnliepjjaaDoorBoxes
namespace Go.Proofs.YtcjghnnliepjjaaDoor
open Go Go.RowKit
set_option maxRecDepth 100000
set_option linter.unusedVariables false
/-- what Get answers of bytes that are an image's -/
theorem get_img {w : World} (hE : Env w) {sp : Option Addr} {zs : List Int} (hs : Src w sp zs) (hb : Bs zs) (c : Nat) (hc : zs.length ≤ c) {n : Int} {ds cs : List Int} {k : Nat} (hg : getI zs = some (n, ds, cs, k)) :
    Calls Tryd.prog 8 #[.slice sp zs.length c] w fun e w' => ∃ p pc r rc, e = .returned (.tuple #[.agg #[.int .i64 n, .slice p ds.length pc, .slice r k rc], .int .i64 0]) ∧ (Img w' p ds r cs k ∧ (p = none → pc = 0)) ∧ Below w.heap.size w w' := by
  have h := Get_any hE hs hb c hc
  rw [hg] at h
  obtain ⟨_, _, hl, b1, b2⟩ := put_get hb hg
  refine h.mono fun e w' h => ?_
  obtain ⟨vd, vc, rfl, o1, o2, hbb⟩ := h
  obtain ⟨p, pc, rfl, _⟩ := owns_form o1
  obtain ⟨r, rc, rfl, _⟩ := owns_form o2
  exact ⟨p, pc, r, rc, rfl, ⟨⟨src_own o1, src_own o2, hl, b1, b2⟩, (owns_cap o1).1⟩, hbb⟩
theorem get_none {w : World} (hE : Env w) {sp : Option Addr} {zs : List Int} (hs : Src w sp zs) (hb : Bs zs) (c : Nat) (hc : zs.length ≤ c) (hg : getI zs = none) :
    Calls Tryd.prog 8 #[.slice sp zs.length c] w fun e w' => e = .returned (.tuple #[.agg #[.int .i64 0, .slice none 0 0, .slice none 0 0], .int .i64 14]) ∧ Below w.heap.size w w' := by
  have h := Get_any hE hs hb c hc
  rw [hg] at h
  exact h
set_option maxHeartbeats 4000000 in
theorem back_a {w : World} (hE : Env3 w) {n : Int} {sp cp bp : Option Addr} {ds cs zs : List Int} {dc k kc bc : Nat} (h : ImgA w sp ds dc cp cs k kc) (hb : Src w bp zs) (hz : Bs zs) (hbc : zs.length ≤ bc) (hbm : zs.length ≤ maxLen) (hg : 5000 < ds.length ∨ 1100 < k) :
    Calls Tryd.prog 3 #[.agg #[.int .i64 n, .slice sp ds.length dc, .slice cp k kc], .slice bp zs.length bc] w fun e w' => e = .returned (.bool true) ∧ Below w.heap.size w w' := by
  have cA : ∀ W, Below w.heap.size w W → _ := fun W hW => alive_any W (hE.on hW)
  have cG := fun W => great_any (w := W) n sp ds.length dc cp k kc
  rw [decide_eq_true hg] at cG
  have hb0 : Below w.heap.size w (w.alloc (.cells #[.int .i64 n, .slice sp ds.length dc, .slice cp k kc] 25)) := alloc_below _ _
  have X : Box (w.alloc (.cells #[.int .i64 n, .slice sp ds.length dc, .slice cp k kc] 25)) w.heap.size (.int .i64 n) (.slice sp ds.length dc) (.slice cp k kc) := Box.new w _ _ _ _
  clear hE h hb
  have M0 := True.intro
  have M1 := True.intro
  go_enter Tryd.func3, Tryd.ntmps3
  go_wp2_with (first
    | (clear M0; go_at_call 4; refine (cA _ (by first | exact hb0 | exact on1 hb0 (alloc_below _ _) | exact on1 (on1 hb0 (alloc_below _ _)) (alloc_below _ _))).mono ?_; rintro e w1 ⟨rfl, hb1⟩; have L1 := (show Below _ _ w1 from hb1); have B1 : Hid (Below w.heap.size w w1) := (by first | exact on1 hb0 hb1 | exact on1 hb0 (two_allocs hb1) | exact on1 (on1 hb0 (alloc_below _ _)) (two_allocs hb1)); have X1 : Box w1 (w.heap.size) (.int .i64 n) (.slice sp ds.length dc) (.slice cp k kc) := (by first | exact X.on hb1 | exact X.on (two_allocs hb1) | exact (X.on (alloc_below _ _)).on (two_allocs hb1)); have X1a := X1.c0; have X1b := X1.c1; have X1c := X1.c2; have X1l := cell_lt X1.c0)
    | (go_at_call 5; refine (cG _).mono ?_; rintro e w2 ⟨rfl, hb2⟩; have L2 := (show Below _ _ w2 from hb2); have B2 : Hid (Below w.heap.size w w2) := (by first | exact on1 B1.out hb2 | exact on1 B1.out (two_allocs hb2) | exact on1 (on1 B1.out (alloc_below _ _)) (two_allocs hb2)); have X2 : Box w2 (w.heap.size) (.int .i64 n) (.slice sp ds.length dc) (.slice cp k kc) := (by first | exact X1.on hb2 | exact X1.on (two_allocs hb2) | exact (X1.on (alloc_below _ _)).on (two_allocs hb2)); have X2a := X2.c0; have X2b := X2.c1; have X2c := X2.c2; have X2l := cell_lt X2.c0)
    | (clear M1; go_at_call 4; refine (cA _ (by first | exact B2.out | exact on1 B2.out (alloc_below _ _) | exact on1 (on1 B2.out (alloc_below _ _)) (alloc_below _ _))).mono ?_; rintro e w3 ⟨rfl, hb3⟩; have L3 := (show Below _ _ w3 from hb3); have B3 : Hid (Below w.heap.size w w3) := (by first | exact on1 B2.out hb3 | exact on1 B2.out (two_allocs hb3) | exact on1 (on1 B2.out (alloc_below _ _)) (two_allocs hb3)); have X3 : Box w3 (w.heap.size) (.int .i64 n) (.slice sp ds.length dc) (.slice cp k kc) := (by first | exact X2.on hb3 | exact X2.on (two_allocs hb3) | exact (X2.on (alloc_below _ _)).on (two_allocs hb3)); have X3a := X3.c0; have X3b := X3.c1; have X3c := X3.c2; have X3l := cell_lt X3.c0))
  go_ret
  exact ⟨rfl, B3.out⟩
set_option maxHeartbeats 4000000 in
theorem back_b {w : World} (hE : Env3 w) {n : Int} {sp cp bp : Option Addr} {ds cs zs : List Int} {dc k kc bc : Nat} (h : ImgA w sp ds dc cp cs k kc) (hb : Src w bp zs) (hz : Bs zs) (hbc : zs.length ≤ bc) (hbm : zs.length ≤ maxLen) (hg : ¬ (5000 < ds.length ∨ 1100 < k)) (hlg : 10000 < zs.length) :
    Calls Tryd.prog 3 #[.agg #[.int .i64 n, .slice sp ds.length dc, .slice cp k kc], .slice bp zs.length bc] w fun e w' => e = .returned (.bool true) ∧ Below w.heap.size w w' := by
  have cA : ∀ W, Below w.heap.size w W → _ := fun W hW => alive_any W (hE.on hW)
  have cG := fun W => great_any (w := W) n sp ds.length dc cp k kc
  rw [decide_eq_false hg] at cG
  have hlI : (10000 : Int) < zs.length := by omega
  have hb0 : Below w.heap.size w (w.alloc (.cells #[.int .i64 n, .slice sp ds.length dc, .slice cp k kc] 25)) := alloc_below _ _
  have X : Box (w.alloc (.cells #[.int .i64 n, .slice sp ds.length dc, .slice cp k kc] 25)) w.heap.size (.int .i64 n) (.slice sp ds.length dc) (.slice cp k kc) := Box.new w _ _ _ _
  clear hE h hb
  have M0 := True.intro
  have M1 := True.intro
  go_enter Tryd.func3, Tryd.ntmps3
  go_wp2_with (first
    | (clear M0; go_at_call 4; refine (cA _ (by first | exact hb0 | exact on1 hb0 (alloc_below _ _) | exact on1 (on1 hb0 (alloc_below _ _)) (alloc_below _ _))).mono ?_; rintro e w1 ⟨rfl, hb1⟩; have L1 := (show Below _ _ w1 from hb1); have B1 : Hid (Below w.heap.size w w1) := (by first | exact on1 hb0 hb1 | exact on1 hb0 (two_allocs hb1) | exact on1 (on1 hb0 (alloc_below _ _)) (two_allocs hb1)); have X1 : Box w1 (w.heap.size) (.int .i64 n) (.slice sp ds.length dc) (.slice cp k kc) := (by first | exact X.on hb1 | exact X.on (two_allocs hb1) | exact (X.on (alloc_below _ _)).on (two_allocs hb1)); have X1a := X1.c0; have X1b := X1.c1; have X1c := X1.c2; have X1l := cell_lt X1.c0)
    | (go_at_call 5; refine (cG _).mono ?_; rintro e w2 ⟨rfl, hb2⟩; have L2 := (show Below _ _ w2 from hb2); have B2 : Hid (Below w.heap.size w w2) := (by first | exact on1 B1.out hb2 | exact on1 B1.out (two_allocs hb2) | exact on1 (on1 B1.out (alloc_below _ _)) (two_allocs hb2)); have X2 : Box w2 (w.heap.size) (.int .i64 n) (.slice sp ds.length dc) (.slice cp k kc) := (by first | exact X1.on hb2 | exact X1.on (two_allocs hb2) | exact (X1.on (alloc_below _ _)).on (two_allocs hb2)); have X2a := X2.c0; have X2b := X2.c1; have X2c := X2.c2; have X2l := cell_lt X2.c0)
    | (clear M1; go_at_call 4; refine (cA _ (by first | exact B2.out | exact on1 B2.out (alloc_below _ _) | exact on1 (on1 B2.out (alloc_below _ _)) (alloc_below _ _))).mono ?_; rintro e w3 ⟨rfl, hb3⟩; have L3 := (show Below _ _ w3 from hb3); have B3 : Hid (Below w.heap.size w w3) := (by first | exact on1 B2.out hb3 | exact on1 B2.out (two_allocs hb3) | exact on1 (on1 B2.out (alloc_below _ _)) (two_allocs hb3)); have X3 : Box w3 (w.heap.size) (.int .i64 n) (.slice sp ds.length dc) (.slice cp k kc) := (by first | exact X2.on hb3 | exact X2.on (two_allocs hb3) | exact (X2.on (alloc_below _ _)).on (two_allocs hb3)); have X3a := X3.c0; have X3b := X3.c1; have X3c := X3.c2; have X3l := cell_lt X3.c0))
  go_ret
  exact ⟨rfl, B3.out⟩
set_option maxHeartbeats 8000000 in
theorem back_yy {w : World} (hE : Env3 w) {n : Int} {sp cp bp : Option Addr} {ds cs zs : List Int} {dc k kc bc : Nat} (h : ImgA w sp ds dc cp cs k kc) (hb : Src w bp zs) (hz : Bs zs) (hbc : zs.length ≤ bc) (hbm : zs.length ≤ maxLen) (hg : ¬ (5000 < ds.length ∨ 1100 < k)) (hlg : zs.length ≤ 10000) (ho : okI n ds cs k = true) {n2 : Int} {ds2 cs2 : List Int} {k2 : Nat} (hgt : getI zs = some (n2, ds2, cs2, k2)) :
    Calls Tryd.prog 3 #[.agg #[.int .i64 n, .slice sp ds.length dc, .slice cp k kc], .slice bp zs.length bc] w fun e w' => e = .returned (.bool true) ∧ Below w.heap.size w w' := by
  have cA : ∀ W, Below w.heap.size w W → _ := fun W hW => alive_any W (hE.on hW)
  have cG := fun W => great_any (w := W) n sp ds.length dc cp k kc
  rw [decide_eq_false hg] at cG
  have hlI : ¬ ((10000 : Int) < zs.length) := by omega
  have cK : ∀ W, Below w.heap.size w W → _ := fun W hW => Check_img (size := n) (hE.on hW).two.env (h.i.on hW) dc kc
  rw [ho] at cK
  have cB : ∀ W, Below w.heap.size w W → _ := fun W hW => get_img (hE.on hW).two.env (hb.below hW) hz bc hbc hgt
  have cP : ∀ W, Below w.heap.size w W → _ := fun W hW => put_src (size := n) (hE.on hW).two.env (h.i.on hW) dc kc h.dn ho
  have hpl := putB_len n ds cs k
  have hcl := h.i.len
  have hpb := putB_bs h.i.db h.i.cb ho
  have hgp := get_put hcl ho
  have hNI : (((putB n ds cs k).length : Nat) : Int) = 9 + (ds.length : Int) + 4 * (k : Int) := by omega
  have cH : ∀ W q d, Below w.heap.size w W → Src W q (putB n ds cs k) → (putB n ds cs k).length ≤ d → _ := fun W q d hW hs hd => get_img (hE.on hW).two.env hs hpb d hd hgp
  have cM : ∀ W p pc r rc, Below w.heap.size w W → Img W p ds r cs k → _ := fun W p pc r rc hW hI => sameM_any (n := n) (n' := n) hI (h.i.on hW) (by omega) (by omega) (by omega) (by omega) pc dc rc kc
  rw [show sameB n n ds ds cs cs = true from (sameB_iff ..).2 ⟨rfl, rfl, rfl⟩] at cM
  have hNB : ((((putB n ds cs k).length : Nat) : Int) == 9 + (ds.length : Int) + 4 * (k : Int)) = true := by simpa using hNI
  have hdl2 : ds.length ≤ 5000 := by omega
  have hkl2 : k ≤ 1100 := by omega
  generalize putB n ds cs k = ps at *
  clear hpl hcl hpb hgp hNI
  obtain ⟨hok2, hpu2, hl2, hd2, hc2⟩ := put_get hz hgt
  have cP2 : ∀ W p pc r rc, Below w.heap.size w W → Img W p ds2 r cs2 k2 → (p = none → pc = 0) → _ := fun W p pc r rc hW hI hp => put_src (size := n2) (hE.on hW).two.env hI pc rc hp hok2
  rw [hpu2] at cP2
  have cK2 : ∀ W p pc r rc, Below w.heap.size w W → Img W p ds2 r cs2 k2 → _ := fun W p pc r rc hW hI => Check_img (size := n2) (hE.on hW).two.env hI pc rc
  rw [hok2] at cK2
  have cS : ∀ W q d, Below w.heap.size w W → Src W q zs → _ := fun W q d hW hs => same_any hs (hb.below hW) (by omega) (by omega) d bc
  rw [show decide (zs = zs) = true from decide_eq_true rfl] at cS
  clear hok2 hpu2 hl2 hd2 hc2
  have hb0 : Below w.heap.size w (w.alloc (.cells #[.int .i64 n, .slice sp ds.length dc, .slice cp k kc] 25)) := alloc_below _ _
  have X : Box (w.alloc (.cells #[.int .i64 n, .slice sp ds.length dc, .slice cp k kc] 25)) w.heap.size (.int .i64 n) (.slice sp ds.length dc) (.slice cp k kc) := Box.new w _ _ _ _
  clear hE h hb ho hgt hz hg
  have M0 := True.intro
  have M1 := True.intro
  have M2 := True.intro
  have M3 := True.intro
  have M4 := True.intro
  have M5 := True.intro
  have M6 := True.intro
  have M7 := True.intro
  have M8 := True.intro
  go_enter Tryd.func3, Tryd.ntmps3
  go_wp2_with (first
    | (clear M0; go_at_call 4; refine (cA _ (by first | exact hb0 | exact on1 hb0 (alloc_below _ _) | exact on1 (on1 hb0 (alloc_below _ _)) (alloc_below _ _))).mono ?_; rintro e w1 ⟨rfl, hb1⟩; have L1 := (show Below _ _ w1 from hb1); have B1 : Hid (Below w.heap.size w w1) := (by first | exact on1 hb0 hb1 | exact on1 hb0 (two_allocs hb1) | exact on1 (on1 hb0 (alloc_below _ _)) (two_allocs hb1)); have X1 : Box w1 (w.heap.size) (.int .i64 n) (.slice sp ds.length dc) (.slice cp k kc) := (by first | exact X.on hb1 | exact X.on (two_allocs hb1) | exact (X.on (alloc_below _ _)).on (two_allocs hb1)); have X1a := X1.c0; have X1b := X1.c1; have X1c := X1.c2; have X1l := cell_lt X1.c0)
    | (go_at_call 5; refine (cG _).mono ?_; rintro e w2 ⟨rfl, hb2⟩; have L2 := (show Below _ _ w2 from hb2); have B2 : Hid (Below w.heap.size w w2) := (by first | exact on1 B1.out hb2 | exact on1 B1.out (two_allocs hb2) | exact on1 (on1 B1.out (alloc_below _ _)) (two_allocs hb2)); have X2 : Box w2 (w.heap.size) (.int .i64 n) (.slice sp ds.length dc) (.slice cp k kc) := (by first | exact X1.on hb2 | exact X1.on (two_allocs hb2) | exact (X1.on (alloc_below _ _)).on (two_allocs hb2)); have X2a := X2.c0; have X2b := X2.c1; have X2c := X2.c2; have X2l := cell_lt X2.c0)
    | (clear M1; go_at_call 6; refine (cP _ (by first | exact B2.out | exact on1 B2.out (alloc_below _ _) | exact on1 (on1 B2.out (alloc_below _ _)) (alloc_below _ _))).mono ?_; rintro e w3 ⟨q, d, rfl, hS, hb3⟩; have L3 := (show Below _ _ w3 from hb3); have B3 : Hid (Below w.heap.size w w3) := (by first | exact on1 B2.out hb3 | exact on1 B2.out (two_allocs hb3) | exact on1 (on1 B2.out (alloc_below _ _)) (two_allocs hb3)); have X3 : Box w3 (w.heap.size) (.int .i64 n) (.slice sp ds.length dc) (.slice cp k kc) := (by first | exact X2.on hb3 | exact X2.on (two_allocs hb3) | exact (X2.on (alloc_below _ _)).on (two_allocs hb3)); have X3a := X3.c0; have X3b := X3.c1; have X3c := X3.c2; have X3l := cell_lt X3.c0; have S3 : Hid (Src w3 q ps ∧ ps.length ≤ d) := ⟨hS.1, hS.2.1⟩; clear hS)
    | (clear M2; go_at_call 7; refine (cK _ (by first | exact B3.out | exact on1 B3.out (alloc_below _ _) | exact on1 (on1 B3.out (alloc_below _ _)) (alloc_below _ _))).mono ?_; rintro e w4 ⟨rfl, hb4⟩; have L4 := (show Below _ _ w4 from hb4); have B4 : Hid (Below w.heap.size w w4) := (by first | exact on1 B3.out hb4 | exact on1 B3.out (two_allocs hb4) | exact on1 (on1 B3.out (alloc_below _ _)) (two_allocs hb4)); have X4 : Box w4 (w.heap.size) (.int .i64 n) (.slice sp ds.length dc) (.slice cp k kc) := (by first | exact X3.on hb4 | exact X3.on (two_allocs hb4) | exact (X3.on (alloc_below _ _)).on (two_allocs hb4)); have X4a := X4.c0; have X4b := X4.c1; have X4c := X4.c2; have X4l := cell_lt X4.c0; have S4 : Hid (Src w4 q ps ∧ ps.length ≤ d) := ⟨S3.out.1.below hb4, S3.out.2⟩)
    | (clear M3; go_at_call 8; refine (cH _ q d (by first | exact B4.out | exact on1 B4.out (alloc_below _ _) | exact on1 (on1 B4.out (alloc_below _ _)) (alloc_below _ _)) S4.out.1 S4.out.2).mono ?_; rintro e w5 ⟨p, pc, r, rc, rfl, hI, hb5⟩; have L5 := (show Below _ _ w5 from hb5); have B5 : Hid (Below w.heap.size w w5) := (by first | exact on1 B4.out hb5 | exact on1 B4.out (two_allocs hb5) | exact on1 (on1 B4.out (alloc_below _ _)) (two_allocs hb5)); have X5 : Box w5 (w.heap.size) (.int .i64 n) (.slice sp ds.length dc) (.slice cp k kc) := (by first | exact X4.on hb5 | exact X4.on (two_allocs hb5) | exact (X4.on (alloc_below _ _)).on (two_allocs hb5)); have X5a := X5.c0; have X5b := X5.c1; have X5c := X5.c2; have X5l := cell_lt X5.c0; have I5 : Hid (Img w5 p ds r cs k) := hI.1; clear hI)
    | (clear M4; go_at_call 9; refine (cM _ p pc r rc (by first | exact B5.out | exact on1 B5.out (alloc_below _ _) | exact on1 (on1 B5.out (alloc_below _ _)) (alloc_below _ _)) (I5.out.on (alloc_below _ _))).mono ?_; rintro e w6 ⟨rfl, hb6⟩; have L6 := (show Below _ _ w6 from hb6); have B6 : Hid (Below w.heap.size w w6) := (by first | exact on1 B5.out hb6 | exact on1 B5.out (two_allocs hb6) | exact on1 (on1 B5.out (alloc_below _ _)) (two_allocs hb6)); have X6 : Box w6 (w.heap.size) (.int .i64 n) (.slice sp ds.length dc) (.slice cp k kc) := (by first | exact X5.on hb6 | exact X5.on (two_allocs hb6) | exact (X5.on (alloc_below _ _)).on (two_allocs hb6)); have X6a := X6.c0; have X6b := X6.c1; have X6c := X6.c2; have X6l := cell_lt X6.c0)
    | (clear M5; go_at_call 8; refine (cB _ (by first | exact B6.out | exact on1 B6.out (alloc_below _ _) | exact on1 (on1 B6.out (alloc_below _ _)) (alloc_below _ _))).mono ?_; rintro e w7 ⟨p2, pc2, r2, rc2, rfl, hI2, hb7⟩; have L7 := (show Below _ _ w7 from hb7); have B7 : Hid (Below w.heap.size w w7) := (by first | exact on1 B6.out hb7 | exact on1 B6.out (two_allocs hb7) | exact on1 (on1 B6.out (alloc_below _ _)) (two_allocs hb7)); have X7 : Box w7 (w.heap.size) (.int .i64 n) (.slice sp ds.length dc) (.slice cp k kc) := (by first | exact X6.on hb7 | exact X6.on (two_allocs hb7) | exact (X6.on (alloc_below _ _)).on (two_allocs hb7)); have X7a := X7.c0; have X7b := X7.c1; have X7c := X7.c2; have X7l := cell_lt X7.c0; have J : Hid (Img w7 p2 ds2 r2 cs2 k2 ∧ (p2 = none → pc2 = 0)) := hI2; clear hI2)
    | (clear M6; go_at_call 6; refine (cP2 _ p2 pc2 r2 rc2 (by first | exact B7.out | exact on1 B7.out (alloc_below _ _) | exact on1 (on1 B7.out (alloc_below _ _)) (alloc_below _ _)) (J.out.1.on (alloc_below _ _)) J.out.2).mono ?_; rintro e w8 ⟨q2, d2, rfl, hS2, hb8⟩; have L8 := (show Below _ _ w8 from hb8); have B8 : Hid (Below w.heap.size w w8) := (by first | exact on1 B7.out hb8 | exact on1 B7.out (two_allocs hb8) | exact on1 (on1 B7.out (alloc_below _ _)) (two_allocs hb8)); have X8 : Box w8 (w.heap.size) (.int .i64 n) (.slice sp ds.length dc) (.slice cp k kc) := (by first | exact X7.on hb8 | exact X7.on (two_allocs hb8) | exact (X7.on (alloc_below _ _)).on (two_allocs hb8)); have X8a := X8.c0; have X8b := X8.c1; have X8c := X8.c2; have X8l := cell_lt X8.c0; have J2 : Hid (Img w8 p2 ds2 r2 cs2 k2) := ((J.out.1.on (alloc_below _ _)).on hb8); have V : Box w8 w7.heap.size (.int .i64 n2) (.slice p2 ds2.length pc2) (.slice r2 k2 rc2) := ((Box.new w7 _ _ _ 25).on hb8); have V0 := V.c0; have V1 := V.c1; have V2 := V.c2; have T2 : Hid (Src w8 q2 zs) := hS2.1; clear hS2)
    | (clear M7; go_at_call 7; refine (cK2 _ p2 pc2 r2 rc2 (by first | exact B8.out | exact on1 B8.out (alloc_below _ _) | exact on1 (on1 B8.out (alloc_below _ _)) (alloc_below _ _)) J2.out).mono ?_; rintro e w9 ⟨rfl, hb9⟩; have L9 := (show Below _ _ w9 from hb9); have B9 : Hid (Below w.heap.size w w9) := (by first | exact on1 B8.out hb9 | exact on1 B8.out (two_allocs hb9) | exact on1 (on1 B8.out (alloc_below _ _)) (two_allocs hb9)); have X9 : Box w9 (w.heap.size) (.int .i64 n) (.slice sp ds.length dc) (.slice cp k kc) := (by first | exact X8.on hb9 | exact X8.on (two_allocs hb9) | exact (X8.on (alloc_below _ _)).on (two_allocs hb9)); have X9a := X9.c0; have X9b := X9.c1; have X9c := X9.c2; have X9l := cell_lt X9.c0; have T3 : Hid (Src w9 q2 zs) := (T2.out.below hb9))
    | (go_at_call 10; refine (cS _ q2 d2 (by first | exact B9.out | exact on1 B9.out (alloc_below _ _) | exact on1 (on1 B9.out (alloc_below _ _)) (alloc_below _ _)) T3.out).mono ?_; rintro e w10 ⟨rfl, hb10⟩; have L10 := (show Below _ _ w10 from hb10); have B10 : Hid (Below w.heap.size w w10) := (by first | exact on1 B9.out hb10 | exact on1 B9.out (two_allocs hb10) | exact on1 (on1 B9.out (alloc_below _ _)) (two_allocs hb10)); have X10 : Box w10 (w.heap.size) (.int .i64 n) (.slice sp ds.length dc) (.slice cp k kc) := (by first | exact X9.on hb10 | exact X9.on (two_allocs hb10) | exact (X9.on (alloc_below _ _)).on (two_allocs hb10)); have X10a := X10.c0; have X10b := X10.c1; have X10c := X10.c2; have X10l := cell_lt X10.c0))
  go_ret
  exact ⟨rfl, B10.out⟩
set_option maxHeartbeats 8000000 in
theorem back_yn {w : World} (hE : Env3 w) {n : Int} {sp cp bp : Option Addr} {ds cs zs : List Int} {dc k kc bc : Nat} (h : ImgA w sp ds dc cp cs k kc) (hb : Src w bp zs) (hz : Bs zs) (hbc : zs.length ≤ bc) (hbm : zs.length ≤ maxLen) (hg : ¬ (5000 < ds.length ∨ 1100 < k)) (hlg : zs.length ≤ 10000) (ho : okI n ds cs k = true) (hgt : getI zs = none) :
    Calls Tryd.prog 3 #[.agg #[.int .i64 n, .slice sp ds.length dc, .slice cp k kc], .slice bp zs.length bc] w fun e w' => e = .returned (.bool true) ∧ Below w.heap.size w w' := by
  have cA : ∀ W, Below w.heap.size w W → _ := fun W hW => alive_any W (hE.on hW)
  have cG := fun W => great_any (w := W) n sp ds.length dc cp k kc
  rw [decide_eq_false hg] at cG
  have hlI : ¬ ((10000 : Int) < zs.length) := by omega
  have cK : ∀ W, Below w.heap.size w W → _ := fun W hW => Check_img (size := n) (hE.on hW).two.env (h.i.on hW) dc kc
  rw [ho] at cK
  have cB : ∀ W, Below w.heap.size w W → _ := fun W hW => get_none (hE.on hW).two.env (hb.below hW) hz bc hbc hgt
  have cP : ∀ W, Below w.heap.size w W → _ := fun W hW => put_src (size := n) (hE.on hW).two.env (h.i.on hW) dc kc h.dn ho
  have hpl := putB_len n ds cs k
  have hcl := h.i.len
  have hpb := putB_bs h.i.db h.i.cb ho
  have hgp := get_put hcl ho
  have hNI : (((putB n ds cs k).length : Nat) : Int) = 9 + (ds.length : Int) + 4 * (k : Int) := by omega
  have cH : ∀ W q d, Below w.heap.size w W → Src W q (putB n ds cs k) → (putB n ds cs k).length ≤ d → _ := fun W q d hW hs hd => get_img (hE.on hW).two.env hs hpb d hd hgp
  have cM : ∀ W p pc r rc, Below w.heap.size w W → Img W p ds r cs k → _ := fun W p pc r rc hW hI => sameM_any (n := n) (n' := n) hI (h.i.on hW) (by omega) (by omega) (by omega) (by omega) pc dc rc kc
  rw [show sameB n n ds ds cs cs = true from (sameB_iff ..).2 ⟨rfl, rfl, rfl⟩] at cM
  have hNB : ((((putB n ds cs k).length : Nat) : Int) == 9 + (ds.length : Int) + 4 * (k : Int)) = true := by simpa using hNI
  have hdl2 : ds.length ≤ 5000 := by omega
  have hkl2 : k ≤ 1100 := by omega
  generalize putB n ds cs k = ps at *
  clear hpl hcl hpb hgp hNI
  have hb0 : Below w.heap.size w (w.alloc (.cells #[.int .i64 n, .slice sp ds.length dc, .slice cp k kc] 25)) := alloc_below _ _
  have X : Box (w.alloc (.cells #[.int .i64 n, .slice sp ds.length dc, .slice cp k kc] 25)) w.heap.size (.int .i64 n) (.slice sp ds.length dc) (.slice cp k kc) := Box.new w _ _ _ _
  clear hE h hb ho hgt hz hg
  have M0 := True.intro
  have M1 := True.intro
  have M2 := True.intro
  have M3 := True.intro
  have M4 := True.intro
  have M5 := True.intro
  have M6 := True.intro
  have M7 := True.intro
  have M8 := True.intro
  go_enter Tryd.func3, Tryd.ntmps3
  go_wp2_with (first
    | (clear M0; go_at_call 4; refine (cA _ (by first | exact hb0 | exact on1 hb0 (alloc_below _ _) | exact on1 (on1 hb0 (alloc_below _ _)) (alloc_below _ _))).mono ?_; rintro e w1 ⟨rfl, hb1⟩; have L1 := (show Below _ _ w1 from hb1); have B1 : Hid (Below w.heap.size w w1) := (by first | exact on1 hb0 hb1 | exact on1 hb0 (two_allocs hb1) | exact on1 (on1 hb0 (alloc_below _ _)) (two_allocs hb1)); have X1 : Box w1 (w.heap.size) (.int .i64 n) (.slice sp ds.length dc) (.slice cp k kc) := (by first | exact X.on hb1 | exact X.on (two_allocs hb1) | exact (X.on (alloc_below _ _)).on (two_allocs hb1)); have X1a := X1.c0; have X1b := X1.c1; have X1c := X1.c2; have X1l := cell_lt X1.c0)
    | (go_at_call 5; refine (cG _).mono ?_; rintro e w2 ⟨rfl, hb2⟩; have L2 := (show Below _ _ w2 from hb2); have B2 : Hid (Below w.heap.size w w2) := (by first | exact on1 B1.out hb2 | exact on1 B1.out (two_allocs hb2) | exact on1 (on1 B1.out (alloc_below _ _)) (two_allocs hb2)); have X2 : Box w2 (w.heap.size) (.int .i64 n) (.slice sp ds.length dc) (.slice cp k kc) := (by first | exact X1.on hb2 | exact X1.on (two_allocs hb2) | exact (X1.on (alloc_below _ _)).on (two_allocs hb2)); have X2a := X2.c0; have X2b := X2.c1; have X2c := X2.c2; have X2l := cell_lt X2.c0)
    | (clear M1; go_at_call 6; refine (cP _ (by first | exact B2.out | exact on1 B2.out (alloc_below _ _) | exact on1 (on1 B2.out (alloc_below _ _)) (alloc_below _ _))).mono ?_; rintro e w3 ⟨q, d, rfl, hS, hb3⟩; have L3 := (show Below _ _ w3 from hb3); have B3 : Hid (Below w.heap.size w w3) := (by first | exact on1 B2.out hb3 | exact on1 B2.out (two_allocs hb3) | exact on1 (on1 B2.out (alloc_below _ _)) (two_allocs hb3)); have X3 : Box w3 (w.heap.size) (.int .i64 n) (.slice sp ds.length dc) (.slice cp k kc) := (by first | exact X2.on hb3 | exact X2.on (two_allocs hb3) | exact (X2.on (alloc_below _ _)).on (two_allocs hb3)); have X3a := X3.c0; have X3b := X3.c1; have X3c := X3.c2; have X3l := cell_lt X3.c0; have S3 : Hid (Src w3 q ps ∧ ps.length ≤ d) := ⟨hS.1, hS.2.1⟩; clear hS)
    | (clear M2; go_at_call 7; refine (cK _ (by first | exact B3.out | exact on1 B3.out (alloc_below _ _) | exact on1 (on1 B3.out (alloc_below _ _)) (alloc_below _ _))).mono ?_; rintro e w4 ⟨rfl, hb4⟩; have L4 := (show Below _ _ w4 from hb4); have B4 : Hid (Below w.heap.size w w4) := (by first | exact on1 B3.out hb4 | exact on1 B3.out (two_allocs hb4) | exact on1 (on1 B3.out (alloc_below _ _)) (two_allocs hb4)); have X4 : Box w4 (w.heap.size) (.int .i64 n) (.slice sp ds.length dc) (.slice cp k kc) := (by first | exact X3.on hb4 | exact X3.on (two_allocs hb4) | exact (X3.on (alloc_below _ _)).on (two_allocs hb4)); have X4a := X4.c0; have X4b := X4.c1; have X4c := X4.c2; have X4l := cell_lt X4.c0; have S4 : Hid (Src w4 q ps ∧ ps.length ≤ d) := ⟨S3.out.1.below hb4, S3.out.2⟩)
    | (clear M3; go_at_call 8; refine (cH _ q d (by first | exact B4.out | exact on1 B4.out (alloc_below _ _) | exact on1 (on1 B4.out (alloc_below _ _)) (alloc_below _ _)) S4.out.1 S4.out.2).mono ?_; rintro e w5 ⟨p, pc, r, rc, rfl, hI, hb5⟩; have L5 := (show Below _ _ w5 from hb5); have B5 : Hid (Below w.heap.size w w5) := (by first | exact on1 B4.out hb5 | exact on1 B4.out (two_allocs hb5) | exact on1 (on1 B4.out (alloc_below _ _)) (two_allocs hb5)); have X5 : Box w5 (w.heap.size) (.int .i64 n) (.slice sp ds.length dc) (.slice cp k kc) := (by first | exact X4.on hb5 | exact X4.on (two_allocs hb5) | exact (X4.on (alloc_below _ _)).on (two_allocs hb5)); have X5a := X5.c0; have X5b := X5.c1; have X5c := X5.c2; have X5l := cell_lt X5.c0; have I5 : Hid (Img w5 p ds r cs k) := hI.1; clear hI)
    | (clear M4; go_at_call 9; refine (cM _ p pc r rc (by first | exact B5.out | exact on1 B5.out (alloc_below _ _) | exact on1 (on1 B5.out (alloc_below _ _)) (alloc_below _ _)) (I5.out.on (alloc_below _ _))).mono ?_; rintro e w6 ⟨rfl, hb6⟩; have L6 := (show Below _ _ w6 from hb6); have B6 : Hid (Below w.heap.size w w6) := (by first | exact on1 B5.out hb6 | exact on1 B5.out (two_allocs hb6) | exact on1 (on1 B5.out (alloc_below _ _)) (two_allocs hb6)); have X6 : Box w6 (w.heap.size) (.int .i64 n) (.slice sp ds.length dc) (.slice cp k kc) := (by first | exact X5.on hb6 | exact X5.on (two_allocs hb6) | exact (X5.on (alloc_below _ _)).on (two_allocs hb6)); have X6a := X6.c0; have X6b := X6.c1; have X6c := X6.c2; have X6l := cell_lt X6.c0)
    | (clear M5; go_at_call 8; refine (cB _ (by first | exact B6.out | exact on1 B6.out (alloc_below _ _) | exact on1 (on1 B6.out (alloc_below _ _)) (alloc_below _ _))).mono ?_; rintro e w7 ⟨rfl, hb7⟩; have L7 := (show Below _ _ w7 from hb7); have B7 : Hid (Below w.heap.size w w7) := (by first | exact on1 B6.out hb7 | exact on1 B6.out (two_allocs hb7) | exact on1 (on1 B6.out (alloc_below _ _)) (two_allocs hb7)); have X7 : Box w7 (w.heap.size) (.int .i64 n) (.slice sp ds.length dc) (.slice cp k kc) := (by first | exact X6.on hb7 | exact X6.on (two_allocs hb7) | exact (X6.on (alloc_below _ _)).on (two_allocs hb7)); have X7a := X7.c0; have X7b := X7.c1; have X7c := X7.c2; have X7l := cell_lt X7.c0))
  go_ret
  exact ⟨rfl, on1 B7.out (alloc_below _ _)⟩
set_option maxHeartbeats 8000000 in
theorem back_ny {w : World} (hE : Env3 w) {n : Int} {sp cp bp : Option Addr} {ds cs zs : List Int} {dc k kc bc : Nat} (h : ImgA w sp ds dc cp cs k kc) (hb : Src w bp zs) (hz : Bs zs) (hbc : zs.length ≤ bc) (hbm : zs.length ≤ maxLen) (hg : ¬ (5000 < ds.length ∨ 1100 < k)) (hlg : zs.length ≤ 10000) (ho : okI n ds cs k = false) {n2 : Int} {ds2 cs2 : List Int} {k2 : Nat} (hgt : getI zs = some (n2, ds2, cs2, k2)) :
    Calls Tryd.prog 3 #[.agg #[.int .i64 n, .slice sp ds.length dc, .slice cp k kc], .slice bp zs.length bc] w fun e w' => e = .returned (.bool true) ∧ Below w.heap.size w w' := by
  have cA : ∀ W, Below w.heap.size w W → _ := fun W hW => alive_any W (hE.on hW)
  have cG := fun W => great_any (w := W) n sp ds.length dc cp k kc
  rw [decide_eq_false hg] at cG
  have hlI : ¬ ((10000 : Int) < zs.length) := by omega
  have cK : ∀ W, Below w.heap.size w W → _ := fun W hW => Check_img (size := n) (hE.on hW).two.env (h.i.on hW) dc kc
  rw [ho] at cK
  have cB : ∀ W, Below w.heap.size w W → _ := fun W hW => get_img (hE.on hW).two.env (hb.below hW) hz bc hbc hgt
  have cP : ∀ W, Below w.heap.size w W → _ := fun W hW => Put_no (size := n) (hE.on hW).two.env (h.i.on hW) dc kc ho
  obtain ⟨hok2, hpu2, hl2, hd2, hc2⟩ := put_get hz hgt
  have cP2 : ∀ W p pc r rc, Below w.heap.size w W → Img W p ds2 r cs2 k2 → (p = none → pc = 0) → _ := fun W p pc r rc hW hI hp => put_src (size := n2) (hE.on hW).two.env hI pc rc hp hok2
  rw [hpu2] at cP2
  have cK2 : ∀ W p pc r rc, Below w.heap.size w W → Img W p ds2 r cs2 k2 → _ := fun W p pc r rc hW hI => Check_img (size := n2) (hE.on hW).two.env hI pc rc
  rw [hok2] at cK2
  have cS : ∀ W q d, Below w.heap.size w W → Src W q zs → _ := fun W q d hW hs => same_any hs (hb.below hW) (by omega) (by omega) d bc
  rw [show decide (zs = zs) = true from decide_eq_true rfl] at cS
  clear hok2 hpu2 hl2 hd2 hc2
  have hb0 : Below w.heap.size w (w.alloc (.cells #[.int .i64 n, .slice sp ds.length dc, .slice cp k kc] 25)) := alloc_below _ _
  have X : Box (w.alloc (.cells #[.int .i64 n, .slice sp ds.length dc, .slice cp k kc] 25)) w.heap.size (.int .i64 n) (.slice sp ds.length dc) (.slice cp k kc) := Box.new w _ _ _ _
  clear hE h hb ho hgt hz hg
  have M0 := True.intro
  have M1 := True.intro
  have M2 := True.intro
  have M3 := True.intro
  have M4 := True.intro
  have M5 := True.intro
  have M6 := True.intro
  have M7 := True.intro
  have M8 := True.intro
  go_enter Tryd.func3, Tryd.ntmps3
  go_wp2_with (first
    | (clear M0; go_at_call 4; refine (cA _ (by first | exact hb0 | exact on1 hb0 (alloc_below _ _) | exact on1 (on1 hb0 (alloc_below _ _)) (alloc_below _ _))).mono ?_; rintro e w1 ⟨rfl, hb1⟩; have L1 := (show Below _ _ w1 from hb1); have B1 : Hid (Below w.heap.size w w1) := (by first | exact on1 hb0 hb1 | exact on1 hb0 (two_allocs hb1) | exact on1 (on1 hb0 (alloc_below _ _)) (two_allocs hb1)); have X1 : Box w1 (w.heap.size) (.int .i64 n) (.slice sp ds.length dc) (.slice cp k kc) := (by first | exact X.on hb1 | exact X.on (two_allocs hb1) | exact (X.on (alloc_below _ _)).on (two_allocs hb1)); have X1a := X1.c0; have X1b := X1.c1; have X1c := X1.c2; have X1l := cell_lt X1.c0)
    | (go_at_call 5; refine (cG _).mono ?_; rintro e w2 ⟨rfl, hb2⟩; have L2 := (show Below _ _ w2 from hb2); have B2 : Hid (Below w.heap.size w w2) := (by first | exact on1 B1.out hb2 | exact on1 B1.out (two_allocs hb2) | exact on1 (on1 B1.out (alloc_below _ _)) (two_allocs hb2)); have X2 : Box w2 (w.heap.size) (.int .i64 n) (.slice sp ds.length dc) (.slice cp k kc) := (by first | exact X1.on hb2 | exact X1.on (two_allocs hb2) | exact (X1.on (alloc_below _ _)).on (two_allocs hb2)); have X2a := X2.c0; have X2b := X2.c1; have X2c := X2.c2; have X2l := cell_lt X2.c0)
    | (clear M1; go_at_call 6; refine (cP _ (by first | exact B2.out | exact on1 B2.out (alloc_below _ _) | exact on1 (on1 B2.out (alloc_below _ _)) (alloc_below _ _))).mono ?_; rintro e w3 ⟨rfl, hb3⟩; have L3 := (show Below _ _ w3 from hb3); have B3 : Hid (Below w.heap.size w w3) := (by first | exact on1 B2.out hb3 | exact on1 B2.out (two_allocs hb3) | exact on1 (on1 B2.out (alloc_below _ _)) (two_allocs hb3)); have X3 : Box w3 (w.heap.size) (.int .i64 n) (.slice sp ds.length dc) (.slice cp k kc) := (by first | exact X2.on hb3 | exact X2.on (two_allocs hb3) | exact (X2.on (alloc_below _ _)).on (two_allocs hb3)); have X3a := X3.c0; have X3b := X3.c1; have X3c := X3.c2; have X3l := cell_lt X3.c0)
    | (clear M2; go_at_call 7; refine (cK _ (by first | exact B3.out | exact on1 B3.out (alloc_below _ _) | exact on1 (on1 B3.out (alloc_below _ _)) (alloc_below _ _))).mono ?_; rintro e w4 ⟨rfl, hb4⟩; have L4 := (show Below _ _ w4 from hb4); have B4 : Hid (Below w.heap.size w w4) := (by first | exact on1 B3.out hb4 | exact on1 B3.out (two_allocs hb4) | exact on1 (on1 B3.out (alloc_below _ _)) (two_allocs hb4)); have X4 : Box w4 (w.heap.size) (.int .i64 n) (.slice sp ds.length dc) (.slice cp k kc) := (by first | exact X3.on hb4 | exact X3.on (two_allocs hb4) | exact (X3.on (alloc_below _ _)).on (two_allocs hb4)); have X4a := X4.c0; have X4b := X4.c1; have X4c := X4.c2; have X4l := cell_lt X4.c0)
    | (clear M5; go_at_call 8; refine (cB _ (by first | exact B4.out | exact on1 B4.out (alloc_below _ _) | exact on1 (on1 B4.out (alloc_below _ _)) (alloc_below _ _))).mono ?_; rintro e w5 ⟨p2, pc2, r2, rc2, rfl, hI2, hb5⟩; have L5 := (show Below _ _ w5 from hb5); have B5 : Hid (Below w.heap.size w w5) := (by first | exact on1 B4.out hb5 | exact on1 B4.out (two_allocs hb5) | exact on1 (on1 B4.out (alloc_below _ _)) (two_allocs hb5)); have X5 : Box w5 (w.heap.size) (.int .i64 n) (.slice sp ds.length dc) (.slice cp k kc) := (by first | exact X4.on hb5 | exact X4.on (two_allocs hb5) | exact (X4.on (alloc_below _ _)).on (two_allocs hb5)); have X5a := X5.c0; have X5b := X5.c1; have X5c := X5.c2; have X5l := cell_lt X5.c0; have J : Hid (Img w5 p2 ds2 r2 cs2 k2 ∧ (p2 = none → pc2 = 0)) := hI2; clear hI2)
    | (clear M6; go_at_call 6; refine (cP2 _ p2 pc2 r2 rc2 (by first | exact B5.out | exact on1 B5.out (alloc_below _ _) | exact on1 (on1 B5.out (alloc_below _ _)) (alloc_below _ _)) (J.out.1.on (alloc_below _ _)) J.out.2).mono ?_; rintro e w6 ⟨q2, d2, rfl, hS2, hb6⟩; have L6 := (show Below _ _ w6 from hb6); have B6 : Hid (Below w.heap.size w w6) := (by first | exact on1 B5.out hb6 | exact on1 B5.out (two_allocs hb6) | exact on1 (on1 B5.out (alloc_below _ _)) (two_allocs hb6)); have X6 : Box w6 (w.heap.size) (.int .i64 n) (.slice sp ds.length dc) (.slice cp k kc) := (by first | exact X5.on hb6 | exact X5.on (two_allocs hb6) | exact (X5.on (alloc_below _ _)).on (two_allocs hb6)); have X6a := X6.c0; have X6b := X6.c1; have X6c := X6.c2; have X6l := cell_lt X6.c0; have J2 : Hid (Img w6 p2 ds2 r2 cs2 k2) := ((J.out.1.on (alloc_below _ _)).on hb6); have V : Box w6 w5.heap.size (.int .i64 n2) (.slice p2 ds2.length pc2) (.slice r2 k2 rc2) := ((Box.new w5 _ _ _ 25).on hb6); have V0 := V.c0; have V1 := V.c1; have V2 := V.c2; have T2 : Hid (Src w6 q2 zs) := hS2.1; clear hS2)
    | (clear M7; go_at_call 7; refine (cK2 _ p2 pc2 r2 rc2 (by first | exact B6.out | exact on1 B6.out (alloc_below _ _) | exact on1 (on1 B6.out (alloc_below _ _)) (alloc_below _ _)) J2.out).mono ?_; rintro e w7 ⟨rfl, hb7⟩; have L7 := (show Below _ _ w7 from hb7); have B7 : Hid (Below w.heap.size w w7) := (by first | exact on1 B6.out hb7 | exact on1 B6.out (two_allocs hb7) | exact on1 (on1 B6.out (alloc_below _ _)) (two_allocs hb7)); have X7 : Box w7 (w.heap.size) (.int .i64 n) (.slice sp ds.length dc) (.slice cp k kc) := (by first | exact X6.on hb7 | exact X6.on (two_allocs hb7) | exact (X6.on (alloc_below _ _)).on (two_allocs hb7)); have X7a := X7.c0; have X7b := X7.c1; have X7c := X7.c2; have X7l := cell_lt X7.c0; have T3 : Hid (Src w7 q2 zs) := (T2.out.below hb7))
    | (go_at_call 10; refine (cS _ q2 d2 (by first | exact B7.out | exact on1 B7.out (alloc_below _ _) | exact on1 (on1 B7.out (alloc_below _ _)) (alloc_below _ _)) T3.out).mono ?_; rintro e w8 ⟨rfl, hb8⟩; have L8 := (show Below _ _ w8 from hb8); have B8 : Hid (Below w.heap.size w w8) := (by first | exact on1 B7.out hb8 | exact on1 B7.out (two_allocs hb8) | exact on1 (on1 B7.out (alloc_below _ _)) (two_allocs hb8)); have X8 : Box w8 (w.heap.size) (.int .i64 n) (.slice sp ds.length dc) (.slice cp k kc) := (by first | exact X7.on hb8 | exact X7.on (two_allocs hb8) | exact (X7.on (alloc_below _ _)).on (two_allocs hb8)); have X8a := X8.c0; have X8b := X8.c1; have X8c := X8.c2; have X8l := cell_lt X8.c0))
  go_ret
  exact ⟨rfl, B8.out⟩
set_option maxHeartbeats 8000000 in
theorem back_nn {w : World} (hE : Env3 w) {n : Int} {sp cp bp : Option Addr} {ds cs zs : List Int} {dc k kc bc : Nat} (h : ImgA w sp ds dc cp cs k kc) (hb : Src w bp zs) (hz : Bs zs) (hbc : zs.length ≤ bc) (hbm : zs.length ≤ maxLen) (hg : ¬ (5000 < ds.length ∨ 1100 < k)) (hlg : zs.length ≤ 10000) (ho : okI n ds cs k = false) (hgt : getI zs = none) :
    Calls Tryd.prog 3 #[.agg #[.int .i64 n, .slice sp ds.length dc, .slice cp k kc], .slice bp zs.length bc] w fun e w' => e = .returned (.bool true) ∧ Below w.heap.size w w' := by
  have cA : ∀ W, Below w.heap.size w W → _ := fun W hW => alive_any W (hE.on hW)
  have cG := fun W => great_any (w := W) n sp ds.length dc cp k kc
  rw [decide_eq_false hg] at cG
  have hlI : ¬ ((10000 : Int) < zs.length) := by omega
  have cK : ∀ W, Below w.heap.size w W → _ := fun W hW => Check_img (size := n) (hE.on hW).two.env (h.i.on hW) dc kc
  rw [ho] at cK
  have cB : ∀ W, Below w.heap.size w W → _ := fun W hW => get_none (hE.on hW).two.env (hb.below hW) hz bc hbc hgt
  have cP : ∀ W, Below w.heap.size w W → _ := fun W hW => Put_no (size := n) (hE.on hW).two.env (h.i.on hW) dc kc ho
  have hb0 : Below w.heap.size w (w.alloc (.cells #[.int .i64 n, .slice sp ds.length dc, .slice cp k kc] 25)) := alloc_below _ _
  have X : Box (w.alloc (.cells #[.int .i64 n, .slice sp ds.length dc, .slice cp k kc] 25)) w.heap.size (.int .i64 n) (.slice sp ds.length dc) (.slice cp k kc) := Box.new w _ _ _ _
  clear hE h hb ho hgt hz hg
  have M0 := True.intro
  have M1 := True.intro
  have M2 := True.intro
  have M3 := True.intro
  have M4 := True.intro
  have M5 := True.intro
  have M6 := True.intro
  have M7 := True.intro
  have M8 := True.intro
  go_enter Tryd.func3, Tryd.ntmps3
  go_wp2_with (first
    | (clear M0; go_at_call 4; refine (cA _ (by first | exact hb0 | exact on1 hb0 (alloc_below _ _) | exact on1 (on1 hb0 (alloc_below _ _)) (alloc_below _ _))).mono ?_; rintro e w1 ⟨rfl, hb1⟩; have L1 := (show Below _ _ w1 from hb1); have B1 : Hid (Below w.heap.size w w1) := (by first | exact on1 hb0 hb1 | exact on1 hb0 (two_allocs hb1) | exact on1 (on1 hb0 (alloc_below _ _)) (two_allocs hb1)); have X1 : Box w1 (w.heap.size) (.int .i64 n) (.slice sp ds.length dc) (.slice cp k kc) := (by first | exact X.on hb1 | exact X.on (two_allocs hb1) | exact (X.on (alloc_below _ _)).on (two_allocs hb1)); have X1a := X1.c0; have X1b := X1.c1; have X1c := X1.c2; have X1l := cell_lt X1.c0)
    | (go_at_call 5; refine (cG _).mono ?_; rintro e w2 ⟨rfl, hb2⟩; have L2 := (show Below _ _ w2 from hb2); have B2 : Hid (Below w.heap.size w w2) := (by first | exact on1 B1.out hb2 | exact on1 B1.out (two_allocs hb2) | exact on1 (on1 B1.out (alloc_below _ _)) (two_allocs hb2)); have X2 : Box w2 (w.heap.size) (.int .i64 n) (.slice sp ds.length dc) (.slice cp k kc) := (by first | exact X1.on hb2 | exact X1.on (two_allocs hb2) | exact (X1.on (alloc_below _ _)).on (two_allocs hb2)); have X2a := X2.c0; have X2b := X2.c1; have X2c := X2.c2; have X2l := cell_lt X2.c0)
    | (clear M1; go_at_call 6; refine (cP _ (by first | exact B2.out | exact on1 B2.out (alloc_below _ _) | exact on1 (on1 B2.out (alloc_below _ _)) (alloc_below _ _))).mono ?_; rintro e w3 ⟨rfl, hb3⟩; have L3 := (show Below _ _ w3 from hb3); have B3 : Hid (Below w.heap.size w w3) := (by first | exact on1 B2.out hb3 | exact on1 B2.out (two_allocs hb3) | exact on1 (on1 B2.out (alloc_below _ _)) (two_allocs hb3)); have X3 : Box w3 (w.heap.size) (.int .i64 n) (.slice sp ds.length dc) (.slice cp k kc) := (by first | exact X2.on hb3 | exact X2.on (two_allocs hb3) | exact (X2.on (alloc_below _ _)).on (two_allocs hb3)); have X3a := X3.c0; have X3b := X3.c1; have X3c := X3.c2; have X3l := cell_lt X3.c0)
    | (clear M2; go_at_call 7; refine (cK _ (by first | exact B3.out | exact on1 B3.out (alloc_below _ _) | exact on1 (on1 B3.out (alloc_below _ _)) (alloc_below _ _))).mono ?_; rintro e w4 ⟨rfl, hb4⟩; have L4 := (show Below _ _ w4 from hb4); have B4 : Hid (Below w.heap.size w w4) := (by first | exact on1 B3.out hb4 | exact on1 B3.out (two_allocs hb4) | exact on1 (on1 B3.out (alloc_below _ _)) (two_allocs hb4)); have X4 : Box w4 (w.heap.size) (.int .i64 n) (.slice sp ds.length dc) (.slice cp k kc) := (by first | exact X3.on hb4 | exact X3.on (two_allocs hb4) | exact (X3.on (alloc_below _ _)).on (two_allocs hb4)); have X4a := X4.c0; have X4b := X4.c1; have X4c := X4.c2; have X4l := cell_lt X4.c0)
    | (clear M5; go_at_call 8; refine (cB _ (by first | exact B4.out | exact on1 B4.out (alloc_below _ _) | exact on1 (on1 B4.out (alloc_below _ _)) (alloc_below _ _))).mono ?_; rintro e w5 ⟨rfl, hb5⟩; have L5 := (show Below _ _ w5 from hb5); have B5 : Hid (Below w.heap.size w w5) := (by first | exact on1 B4.out hb5 | exact on1 B4.out (two_allocs hb5) | exact on1 (on1 B4.out (alloc_below _ _)) (two_allocs hb5)); have X5 : Box w5 (w.heap.size) (.int .i64 n) (.slice sp ds.length dc) (.slice cp k kc) := (by first | exact X4.on hb5 | exact X4.on (two_allocs hb5) | exact (X4.on (alloc_below _ _)).on (two_allocs hb5)); have X5a := X5.c0; have X5b := X5.c1; have X5c := X5.c2; have X5l := cell_lt X5.c0))
  go_ret
  exact ⟨rfl, on1 B5.out (alloc_below _ _)⟩
theorem back_any {w : World} (hE : Env3 w) {n : Int} {sp cp bp : Option Addr} {ds cs zs : List Int} {dc k kc bc : Nat} (h : ImgA w sp ds dc cp cs k kc) (hb : Src w bp zs) (hz : Bs zs) (hbc : zs.length ≤ bc) (hbm : zs.length ≤ maxLen) :
    Calls Tryd.prog 3 #[.agg #[.int .i64 n, .slice sp ds.length dc, .slice cp k kc], .slice bp zs.length bc] w fun e w' => e = .returned (.bool true) ∧ Below w.heap.size w w' := by
  by_cases hg : 5000 < ds.length ∨ 1100 < k
  · exact back_a hE h hb hz hbc hbm hg
  · by_cases hlg : 10000 < zs.length
    · exact back_b hE h hb hz hbc hbm hg hlg
    · cases ho : okI n ds cs k with
      | true =>
        cases hgt : getI zs with
        | none => exact back_yn hE h hb hz hbc hbm hg (by omega) ho hgt
        | some v => obtain ⟨n2, ds2, cs2, k2⟩ := v; exact back_yy hE h hb hz hbc hbm hg (by omega) ho hgt
      | false =>
        cases hgt : getI zs with
        | none => exact back_nn hE h hb hz hbc hbm hg (by omega) ho hgt
        | some v => obtain ⟨n2, ds2, cs2, k2⟩ := v; exact back_ny hE h hb hz hbc hbm hg (by omega) ho hgt
end Go.Proofs.YtcjghnnliepjjaaDoor
