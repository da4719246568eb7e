/- 'ImagesUnlike': the ways that claim nothing, and all of them. -/
import Derived.Test.YtcjghnnliepjjabDoorUnlikeWalk
namespace Go.Proofs.YtcjghnnliepjjabDoor
open Go Go.RowKit
set_option maxRecDepth 100000
set_option linter.unusedVariables false
set_option maxHeartbeats 4000000 in
theorem unlike_a {w : World} (hE : Env3 w) {n n' : Int} {sp sp' cp cp' : Option Addr} {ds ds' cs cs' : List Int} {dc dc' k k' kc kc' : Nat} (h : ImgA w sp ds dc cp cs k kc) (h' : ImgA w sp' ds' dc' cp' cs' k' kc') (hg : 5000 < ds.length ∨ 1100 < k) :
    Calls Tryd.prog 5 #[.agg #[.int .i64 n, .slice sp ds.length dc, .slice cp k kc], .agg #[.int .i64 n', .slice sp' ds'.length dc', .slice cp' k' kc']] w fun e w' => e = .returned (.bool true) ∧ Below w.heap.size w w' := by
  have cA : ∀ W, Below w.heap.size w W → _ := fun W hW => alive_any W (hE.on hW)
  have cG := fun W => great_any (w := W) n sp ds.length dc cp k kc
  rw [decide_eq_true hg] at cG
  have hb0 : Below w.heap.size w ((w.alloc (.cells #[.int .i64 n, .slice sp ds.length dc, .slice cp k kc] 26)).alloc (.cells #[.int .i64 n', .slice sp' ds'.length dc', .slice cp' k' kc'] 26)) := on1 (alloc_below _ _) (alloc_below _ _)
  clear hE h h'
  have X : Box ((w.alloc (.cells #[.int .i64 n, .slice sp ds.length dc, .slice cp k kc] 26)).alloc (.cells #[.int .i64 n', .slice sp' ds'.length dc', .slice cp' k' kc'] 26)) w.heap.size (.int .i64 n) (.slice sp ds.length dc) (.slice cp k kc) := (Box.new w _ _ _ _).on (alloc_below _ _)
  have Y : Box ((w.alloc (.cells #[.int .i64 n, .slice sp ds.length dc, .slice cp k kc] 26)).alloc (.cells #[.int .i64 n', .slice sp' ds'.length dc', .slice cp' k' kc'] 26)) (w.heap.size + 1) (.int .i64 n') (.slice sp' ds'.length dc') (.slice cp' k' kc') := by
    have := Box.new (w.alloc (.cells #[.int .i64 n, .slice sp ds.length dc, .slice cp k kc] 26)) (.int .i64 n') (.slice sp' ds'.length dc') (.slice cp' k' kc') 26
    rwa [alloc_size] at this
  have M0 := True.intro
  have M1 := True.intro
  have M2 := True.intro
  have M3 := True.intro
  have M4 := True.intro
  have M5 := True.intro
  go_enter Tryd.func5, Tryd.ntmps5
  go_wp2_with (first
    | (clear M0; go_at_call 9; refine (cA _ (by first | exact hb0 | exact on1 hb0 (alloc_below _ _) | exact on1 (on1 hb0 (alloc_below _ _)) (alloc_below _ _))).mono ?_; rintro e w1 ⟨rfl, hb1⟩; have L1 := (show Below _ _ w1 from hb1); have B1 : Hid (Below w.heap.size w w1) := (by first | exact on1 hb0 hb1 | exact on1 hb0 (two_allocs hb1) | exact on1 (on1 hb0 (alloc_below _ _)) (two_allocs hb1)); have X1 : Box w1 (w.heap.size) (.int .i64 n) (.slice sp ds.length dc) (.slice cp k kc) := (by first | exact X.on hb1 | exact X.on (two_allocs hb1) | exact (X.on (alloc_below _ _)).on (two_allocs hb1)); have X1a := X1.c0; have X1b := X1.c1; have X1c := X1.c2; have Y1 : Box w1 (w.heap.size + 1) (.int .i64 n') (.slice sp' ds'.length dc') (.slice cp' k' kc') := (by first | exact Y.on hb1 | exact Y.on (two_allocs hb1) | exact (Y.on (alloc_below _ _)).on (two_allocs hb1)); have Y1a := Y1.c0; have Y1b := Y1.c1; have Y1c := Y1.c2)
    | (clear M1; go_at_call 12; refine (cG _).mono ?_; rintro e w2 ⟨rfl, hb2⟩; have L2 := (show Below _ _ w2 from hb2); have B2 : Hid (Below w.heap.size w w2) := (by first | exact on1 B1.out hb2 | exact on1 B1.out (two_allocs hb2) | exact on1 (on1 B1.out (alloc_below _ _)) (two_allocs hb2)); have X2 : Box w2 (w.heap.size) (.int .i64 n) (.slice sp ds.length dc) (.slice cp k kc) := (by first | exact X1.on hb2 | exact X1.on (two_allocs hb2) | exact (X1.on (alloc_below _ _)).on (two_allocs hb2)); have X2a := X2.c0; have X2b := X2.c1; have X2c := X2.c2; have Y2 : Box w2 (w.heap.size + 1) (.int .i64 n') (.slice sp' ds'.length dc') (.slice cp' k' kc') := (by first | exact Y1.on hb2 | exact Y1.on (two_allocs hb2) | exact (Y1.on (alloc_below _ _)).on (two_allocs hb2)); have Y2a := Y2.c0; have Y2b := Y2.c1; have Y2c := Y2.c2)
    | (clear M5; go_at_call 9; refine (cA _ (by first | exact B2.out | exact on1 B2.out (alloc_below _ _) | exact on1 (on1 B2.out (alloc_below _ _)) (alloc_below _ _))).mono ?_; rintro e w3 ⟨rfl, hb3⟩; have L3 := (show Below _ _ w3 from hb3); have B3 : Hid (Below w.heap.size w w3) := (by first | exact on1 B2.out hb3 | exact on1 B2.out (two_allocs hb3) | exact on1 (on1 B2.out (alloc_below _ _)) (two_allocs hb3)); have X3 : Box w3 (w.heap.size) (.int .i64 n) (.slice sp ds.length dc) (.slice cp k kc) := (by first | exact X2.on hb3 | exact X2.on (two_allocs hb3) | exact (X2.on (alloc_below _ _)).on (two_allocs hb3)); have X3a := X3.c0; have X3b := X3.c1; have X3c := X3.c2; have Y3 : Box w3 (w.heap.size + 1) (.int .i64 n') (.slice sp' ds'.length dc') (.slice cp' k' kc') := (by first | exact Y2.on hb3 | exact Y2.on (two_allocs hb3) | exact (Y2.on (alloc_below _ _)).on (two_allocs hb3)); have Y3a := Y3.c0; have Y3b := Y3.c1; have Y3c := Y3.c2))
  go_ret
  exact ⟨rfl, B3.out⟩
set_option maxHeartbeats 4000000 in
theorem unlike_b {w : World} (hE : Env3 w) {n n' : Int} {sp sp' cp cp' : Option Addr} {ds ds' cs cs' : List Int} {dc dc' k k' kc kc' : Nat} (h : ImgA w sp ds dc cp cs k kc) (h' : ImgA w sp' ds' dc' cp' cs' k' kc') (hg : ¬ (5000 < ds.length ∨ 1100 < k)) (hg' : 5000 < ds'.length ∨ 1100 < k') :
    Calls Tryd.prog 5 #[.agg #[.int .i64 n, .slice sp ds.length dc, .slice cp k kc], .agg #[.int .i64 n', .slice sp' ds'.length dc', .slice cp' k' kc']] w fun e w' => e = .returned (.bool true) ∧ Below w.heap.size w w' := by
  have cA : ∀ W, Below w.heap.size w W → _ := fun W hW => alive_any W (hE.on hW)
  have cG := fun W => great_any (w := W) n sp ds.length dc cp k kc
  rw [decide_eq_false hg] at cG
  have cG' := fun W => great_any (w := W) n' sp' ds'.length dc' cp' k' kc'
  rw [decide_eq_true hg'] at cG'
  have hb0 : Below w.heap.size w ((w.alloc (.cells #[.int .i64 n, .slice sp ds.length dc, .slice cp k kc] 26)).alloc (.cells #[.int .i64 n', .slice sp' ds'.length dc', .slice cp' k' kc'] 26)) := on1 (alloc_below _ _) (alloc_below _ _)
  clear hE h h'
  have X : Box ((w.alloc (.cells #[.int .i64 n, .slice sp ds.length dc, .slice cp k kc] 26)).alloc (.cells #[.int .i64 n', .slice sp' ds'.length dc', .slice cp' k' kc'] 26)) w.heap.size (.int .i64 n) (.slice sp ds.length dc) (.slice cp k kc) := (Box.new w _ _ _ _).on (alloc_below _ _)
  have Y : Box ((w.alloc (.cells #[.int .i64 n, .slice sp ds.length dc, .slice cp k kc] 26)).alloc (.cells #[.int .i64 n', .slice sp' ds'.length dc', .slice cp' k' kc'] 26)) (w.heap.size + 1) (.int .i64 n') (.slice sp' ds'.length dc') (.slice cp' k' kc') := by
    have := Box.new (w.alloc (.cells #[.int .i64 n, .slice sp ds.length dc, .slice cp k kc] 26)) (.int .i64 n') (.slice sp' ds'.length dc') (.slice cp' k' kc') 26
    rwa [alloc_size] at this
  have M0 := True.intro
  have M1 := True.intro
  have M2 := True.intro
  have M3 := True.intro
  have M4 := True.intro
  have M5 := True.intro
  go_enter Tryd.func5, Tryd.ntmps5
  go_wp2_with (first
    | (clear M0; go_at_call 9; refine (cA _ (by first | exact hb0 | exact on1 hb0 (alloc_below _ _) | exact on1 (on1 hb0 (alloc_below _ _)) (alloc_below _ _))).mono ?_; rintro e w1 ⟨rfl, hb1⟩; have L1 := (show Below _ _ w1 from hb1); have B1 : Hid (Below w.heap.size w w1) := (by first | exact on1 hb0 hb1 | exact on1 hb0 (two_allocs hb1) | exact on1 (on1 hb0 (alloc_below _ _)) (two_allocs hb1)); have X1 : Box w1 (w.heap.size) (.int .i64 n) (.slice sp ds.length dc) (.slice cp k kc) := (by first | exact X.on hb1 | exact X.on (two_allocs hb1) | exact (X.on (alloc_below _ _)).on (two_allocs hb1)); have X1a := X1.c0; have X1b := X1.c1; have X1c := X1.c2; have Y1 : Box w1 (w.heap.size + 1) (.int .i64 n') (.slice sp' ds'.length dc') (.slice cp' k' kc') := (by first | exact Y.on hb1 | exact Y.on (two_allocs hb1) | exact (Y.on (alloc_below _ _)).on (two_allocs hb1)); have Y1a := Y1.c0; have Y1b := Y1.c1; have Y1c := Y1.c2)
    | (clear M1; go_at_call 12; refine (cG _).mono ?_; rintro e w2 ⟨rfl, hb2⟩; have L2 := (show Below _ _ w2 from hb2); have B2 : Hid (Below w.heap.size w w2) := (by first | exact on1 B1.out hb2 | exact on1 B1.out (two_allocs hb2) | exact on1 (on1 B1.out (alloc_below _ _)) (two_allocs hb2)); have X2 : Box w2 (w.heap.size) (.int .i64 n) (.slice sp ds.length dc) (.slice cp k kc) := (by first | exact X1.on hb2 | exact X1.on (two_allocs hb2) | exact (X1.on (alloc_below _ _)).on (two_allocs hb2)); have X2a := X2.c0; have X2b := X2.c1; have X2c := X2.c2; have Y2 : Box w2 (w.heap.size + 1) (.int .i64 n') (.slice sp' ds'.length dc') (.slice cp' k' kc') := (by first | exact Y1.on hb2 | exact Y1.on (two_allocs hb2) | exact (Y1.on (alloc_below _ _)).on (two_allocs hb2)); have Y2a := Y2.c0; have Y2b := Y2.c1; have Y2c := Y2.c2)
    | (clear M2; go_at_call 12; refine (cG' _).mono ?_; rintro e w3 ⟨rfl, hb3⟩; have L3 := (show Below _ _ w3 from hb3); have B3 : Hid (Below w.heap.size w w3) := (by first | exact on1 B2.out hb3 | exact on1 B2.out (two_allocs hb3) | exact on1 (on1 B2.out (alloc_below _ _)) (two_allocs hb3)); have X3 : Box w3 (w.heap.size) (.int .i64 n) (.slice sp ds.length dc) (.slice cp k kc) := (by first | exact X2.on hb3 | exact X2.on (two_allocs hb3) | exact (X2.on (alloc_below _ _)).on (two_allocs hb3)); have X3a := X3.c0; have X3b := X3.c1; have X3c := X3.c2; have Y3 : Box w3 (w.heap.size + 1) (.int .i64 n') (.slice sp' ds'.length dc') (.slice cp' k' kc') := (by first | exact Y2.on hb3 | exact Y2.on (two_allocs hb3) | exact (Y2.on (alloc_below _ _)).on (two_allocs hb3)); have Y3a := Y3.c0; have Y3b := Y3.c1; have Y3c := Y3.c2)
    | (clear M5; go_at_call 9; refine (cA _ (by first | exact B3.out | exact on1 B3.out (alloc_below _ _) | exact on1 (on1 B3.out (alloc_below _ _)) (alloc_below _ _))).mono ?_; rintro e w4 ⟨rfl, hb4⟩; have L4 := (show Below _ _ w4 from hb4); have B4 : Hid (Below w.heap.size w w4) := (by first | exact on1 B3.out hb4 | exact on1 B3.out (two_allocs hb4) | exact on1 (on1 B3.out (alloc_below _ _)) (two_allocs hb4)); have X4 : Box w4 (w.heap.size) (.int .i64 n) (.slice sp ds.length dc) (.slice cp k kc) := (by first | exact X3.on hb4 | exact X3.on (two_allocs hb4) | exact (X3.on (alloc_below _ _)).on (two_allocs hb4)); have X4a := X4.c0; have X4b := X4.c1; have X4c := X4.c2; have Y4 : Box w4 (w.heap.size + 1) (.int .i64 n') (.slice sp' ds'.length dc') (.slice cp' k' kc') := (by first | exact Y3.on hb4 | exact Y3.on (two_allocs hb4) | exact (Y3.on (alloc_below _ _)).on (two_allocs hb4)); have Y4a := Y4.c0; have Y4b := Y4.c1; have Y4c := Y4.c2))
  go_ret
  exact ⟨rfl, B4.out⟩
set_option maxHeartbeats 4000000 in
theorem unlike_c {w : World} (hE : Env3 w) {n n' : Int} {sp sp' cp cp' : Option Addr} {ds ds' cs cs' : List Int} {dc dc' k k' kc kc' : Nat} (h : ImgA w sp ds dc cp cs k kc) (h' : ImgA w sp' ds' dc' cp' cs' k' kc') (hg : ¬ (5000 < ds.length ∨ 1100 < k)) (hg' : ¬ (5000 < ds'.length ∨ 1100 < k')) (ho : okI n ds cs k = false) :
    Calls Tryd.prog 5 #[.agg #[.int .i64 n, .slice sp ds.length dc, .slice cp k kc], .agg #[.int .i64 n', .slice sp' ds'.length dc', .slice cp' k' kc']] w fun e w' => e = .returned (.bool true) ∧ Below w.heap.size w w' := by
  have cA : ∀ W, Below w.heap.size w W → _ := fun W hW => alive_any W (hE.on hW)
  have cG := fun W => great_any (w := W) n sp ds.length dc cp k kc
  rw [decide_eq_false hg] at cG
  have cG' := fun W => great_any (w := W) n' sp' ds'.length dc' cp' k' kc'
  rw [decide_eq_false hg'] at cG'
  have cK : ∀ W, Below w.heap.size w W → _ := fun W hW => Check_img (size := n) (hE.on hW).two.env (h.i.on hW) dc kc
  rw [ho] at cK
  have hb0 : Below w.heap.size w ((w.alloc (.cells #[.int .i64 n, .slice sp ds.length dc, .slice cp k kc] 26)).alloc (.cells #[.int .i64 n', .slice sp' ds'.length dc', .slice cp' k' kc'] 26)) := on1 (alloc_below _ _) (alloc_below _ _)
  clear hE h h'
  have X : Box ((w.alloc (.cells #[.int .i64 n, .slice sp ds.length dc, .slice cp k kc] 26)).alloc (.cells #[.int .i64 n', .slice sp' ds'.length dc', .slice cp' k' kc'] 26)) w.heap.size (.int .i64 n) (.slice sp ds.length dc) (.slice cp k kc) := (Box.new w _ _ _ _).on (alloc_below _ _)
  have Y : Box ((w.alloc (.cells #[.int .i64 n, .slice sp ds.length dc, .slice cp k kc] 26)).alloc (.cells #[.int .i64 n', .slice sp' ds'.length dc', .slice cp' k' kc'] 26)) (w.heap.size + 1) (.int .i64 n') (.slice sp' ds'.length dc') (.slice cp' k' kc') := by
    have := Box.new (w.alloc (.cells #[.int .i64 n, .slice sp ds.length dc, .slice cp k kc] 26)) (.int .i64 n') (.slice sp' ds'.length dc') (.slice cp' k' kc') 26
    rwa [alloc_size] at this
  have M0 := True.intro
  have M1 := True.intro
  have M2 := True.intro
  have M3 := True.intro
  have M4 := True.intro
  have M5 := True.intro
  go_enter Tryd.func5, Tryd.ntmps5
  go_wp2_with (first
    | (clear M0; go_at_call 9; refine (cA _ (by first | exact hb0 | exact on1 hb0 (alloc_below _ _) | exact on1 (on1 hb0 (alloc_below _ _)) (alloc_below _ _))).mono ?_; rintro e w1 ⟨rfl, hb1⟩; have L1 := (show Below _ _ w1 from hb1); have B1 : Hid (Below w.heap.size w w1) := (by first | exact on1 hb0 hb1 | exact on1 hb0 (two_allocs hb1) | exact on1 (on1 hb0 (alloc_below _ _)) (two_allocs hb1)); have X1 : Box w1 (w.heap.size) (.int .i64 n) (.slice sp ds.length dc) (.slice cp k kc) := (by first | exact X.on hb1 | exact X.on (two_allocs hb1) | exact (X.on (alloc_below _ _)).on (two_allocs hb1)); have X1a := X1.c0; have X1b := X1.c1; have X1c := X1.c2; have Y1 : Box w1 (w.heap.size + 1) (.int .i64 n') (.slice sp' ds'.length dc') (.slice cp' k' kc') := (by first | exact Y.on hb1 | exact Y.on (two_allocs hb1) | exact (Y.on (alloc_below _ _)).on (two_allocs hb1)); have Y1a := Y1.c0; have Y1b := Y1.c1; have Y1c := Y1.c2)
    | (clear M1; go_at_call 12; refine (cG _).mono ?_; rintro e w2 ⟨rfl, hb2⟩; have L2 := (show Below _ _ w2 from hb2); have B2 : Hid (Below w.heap.size w w2) := (by first | exact on1 B1.out hb2 | exact on1 B1.out (two_allocs hb2) | exact on1 (on1 B1.out (alloc_below _ _)) (two_allocs hb2)); have X2 : Box w2 (w.heap.size) (.int .i64 n) (.slice sp ds.length dc) (.slice cp k kc) := (by first | exact X1.on hb2 | exact X1.on (two_allocs hb2) | exact (X1.on (alloc_below _ _)).on (two_allocs hb2)); have X2a := X2.c0; have X2b := X2.c1; have X2c := X2.c2; have Y2 : Box w2 (w.heap.size + 1) (.int .i64 n') (.slice sp' ds'.length dc') (.slice cp' k' kc') := (by first | exact Y1.on hb2 | exact Y1.on (two_allocs hb2) | exact (Y1.on (alloc_below _ _)).on (two_allocs hb2)); have Y2a := Y2.c0; have Y2b := Y2.c1; have Y2c := Y2.c2)
    | (clear M2; go_at_call 12; refine (cG' _).mono ?_; rintro e w3 ⟨rfl, hb3⟩; have L3 := (show Below _ _ w3 from hb3); have B3 : Hid (Below w.heap.size w w3) := (by first | exact on1 B2.out hb3 | exact on1 B2.out (two_allocs hb3) | exact on1 (on1 B2.out (alloc_below _ _)) (two_allocs hb3)); have X3 : Box w3 (w.heap.size) (.int .i64 n) (.slice sp ds.length dc) (.slice cp k kc) := (by first | exact X2.on hb3 | exact X2.on (two_allocs hb3) | exact (X2.on (alloc_below _ _)).on (two_allocs hb3)); have X3a := X3.c0; have X3b := X3.c1; have X3c := X3.c2; have Y3 : Box w3 (w.heap.size + 1) (.int .i64 n') (.slice sp' ds'.length dc') (.slice cp' k' kc') := (by first | exact Y2.on hb3 | exact Y2.on (two_allocs hb3) | exact (Y2.on (alloc_below _ _)).on (two_allocs hb3)); have Y3a := Y3.c0; have Y3b := Y3.c1; have Y3c := Y3.c2)
    | (clear M3; go_at_call 8; refine (cK _ (by first | exact B3.out | exact on1 B3.out (alloc_below _ _) | exact on1 (on1 B3.out (alloc_below _ _)) (alloc_below _ _))).mono ?_; rintro e w4 ⟨rfl, hb4⟩; have L4 := (show Below _ _ w4 from hb4); have B4 : Hid (Below w.heap.size w w4) := (by first | exact on1 B3.out hb4 | exact on1 B3.out (two_allocs hb4) | exact on1 (on1 B3.out (alloc_below _ _)) (two_allocs hb4)); have X4 : Box w4 (w.heap.size) (.int .i64 n) (.slice sp ds.length dc) (.slice cp k kc) := (by first | exact X3.on hb4 | exact X3.on (two_allocs hb4) | exact (X3.on (alloc_below _ _)).on (two_allocs hb4)); have X4a := X4.c0; have X4b := X4.c1; have X4c := X4.c2; have Y4 : Box w4 (w.heap.size + 1) (.int .i64 n') (.slice sp' ds'.length dc') (.slice cp' k' kc') := (by first | exact Y3.on hb4 | exact Y3.on (two_allocs hb4) | exact (Y3.on (alloc_below _ _)).on (two_allocs hb4)); have Y4a := Y4.c0; have Y4b := Y4.c1; have Y4c := Y4.c2)
    | (clear M5; go_at_call 9; refine (cA _ (by first | exact B4.out | exact on1 B4.out (alloc_below _ _) | exact on1 (on1 B4.out (alloc_below _ _)) (alloc_below _ _))).mono ?_; rintro e w5 ⟨rfl, hb5⟩; have L5 := (show Below _ _ w5 from hb5); have B5 : Hid (Below w.heap.size w w5) := (by first | exact on1 B4.out hb5 | exact on1 B4.out (two_allocs hb5) | exact on1 (on1 B4.out (alloc_below _ _)) (two_allocs hb5)); have X5 : Box w5 (w.heap.size) (.int .i64 n) (.slice sp ds.length dc) (.slice cp k kc) := (by first | exact X4.on hb5 | exact X4.on (two_allocs hb5) | exact (X4.on (alloc_below _ _)).on (two_allocs hb5)); have X5a := X5.c0; have X5b := X5.c1; have X5c := X5.c2; have Y5 : Box w5 (w.heap.size + 1) (.int .i64 n') (.slice sp' ds'.length dc') (.slice cp' k' kc') := (by first | exact Y4.on hb5 | exact Y4.on (two_allocs hb5) | exact (Y4.on (alloc_below _ _)).on (two_allocs hb5)); have Y5a := Y5.c0; have Y5b := Y5.c1; have Y5c := Y5.c2))
  go_ret
  exact ⟨rfl, B5.out⟩
set_option maxHeartbeats 4000000 in
theorem unlike_d {w : World} (hE : Env3 w) {n n' : Int} {sp sp' cp cp' : Option Addr} {ds ds' cs cs' : List Int} {dc dc' k k' kc kc' : Nat} (h : ImgA w sp ds dc cp cs k kc) (h' : ImgA w sp' ds' dc' cp' cs' k' kc') (hg : ¬ (5000 < ds.length ∨ 1100 < k)) (hg' : ¬ (5000 < ds'.length ∨ 1100 < k')) (ho : okI n ds cs k = true) (ho' : okI n' ds' cs' k' = false) :
    Calls Tryd.prog 5 #[.agg #[.int .i64 n, .slice sp ds.length dc, .slice cp k kc], .agg #[.int .i64 n', .slice sp' ds'.length dc', .slice cp' k' kc']] w fun e w' => e = .returned (.bool true) ∧ Below w.heap.size w w' := by
  have cA : ∀ W, Below w.heap.size w W → _ := fun W hW => alive_any W (hE.on hW)
  have cG := fun W => great_any (w := W) n sp ds.length dc cp k kc
  rw [decide_eq_false hg] at cG
  have cG' := fun W => great_any (w := W) n' sp' ds'.length dc' cp' k' kc'
  rw [decide_eq_false hg'] at cG'
  have cK : ∀ W, Below w.heap.size w W → _ := fun W hW => Check_img (size := n) (hE.on hW).two.env (h.i.on hW) dc kc
  rw [ho] at cK
  have cK' : ∀ W, Below w.heap.size w W → _ := fun W hW => Check_img (size := n') (hE.on hW).two.env (h'.i.on hW) dc' kc'
  rw [ho'] at cK'
  have hb0 : Below w.heap.size w ((w.alloc (.cells #[.int .i64 n, .slice sp ds.length dc, .slice cp k kc] 26)).alloc (.cells #[.int .i64 n', .slice sp' ds'.length dc', .slice cp' k' kc'] 26)) := on1 (alloc_below _ _) (alloc_below _ _)
  clear hE h h'
  have X : Box ((w.alloc (.cells #[.int .i64 n, .slice sp ds.length dc, .slice cp k kc] 26)).alloc (.cells #[.int .i64 n', .slice sp' ds'.length dc', .slice cp' k' kc'] 26)) w.heap.size (.int .i64 n) (.slice sp ds.length dc) (.slice cp k kc) := (Box.new w _ _ _ _).on (alloc_below _ _)
  have Y : Box ((w.alloc (.cells #[.int .i64 n, .slice sp ds.length dc, .slice cp k kc] 26)).alloc (.cells #[.int .i64 n', .slice sp' ds'.length dc', .slice cp' k' kc'] 26)) (w.heap.size + 1) (.int .i64 n') (.slice sp' ds'.length dc') (.slice cp' k' kc') := by
    have := Box.new (w.alloc (.cells #[.int .i64 n, .slice sp ds.length dc, .slice cp k kc] 26)) (.int .i64 n') (.slice sp' ds'.length dc') (.slice cp' k' kc') 26
    rwa [alloc_size] at this
  have M0 := True.intro
  have M1 := True.intro
  have M2 := True.intro
  have M3 := True.intro
  have M4 := True.intro
  have M5 := True.intro
  go_enter Tryd.func5, Tryd.ntmps5
  go_wp2_with (first
    | (clear M0; go_at_call 9; refine (cA _ (by first | exact hb0 | exact on1 hb0 (alloc_below _ _) | exact on1 (on1 hb0 (alloc_below _ _)) (alloc_below _ _))).mono ?_; rintro e w1 ⟨rfl, hb1⟩; have L1 := (show Below _ _ w1 from hb1); have B1 : Hid (Below w.heap.size w w1) := (by first | exact on1 hb0 hb1 | exact on1 hb0 (two_allocs hb1) | exact on1 (on1 hb0 (alloc_below _ _)) (two_allocs hb1)); have X1 : Box w1 (w.heap.size) (.int .i64 n) (.slice sp ds.length dc) (.slice cp k kc) := (by first | exact X.on hb1 | exact X.on (two_allocs hb1) | exact (X.on (alloc_below _ _)).on (two_allocs hb1)); have X1a := X1.c0; have X1b := X1.c1; have X1c := X1.c2; have Y1 : Box w1 (w.heap.size + 1) (.int .i64 n') (.slice sp' ds'.length dc') (.slice cp' k' kc') := (by first | exact Y.on hb1 | exact Y.on (two_allocs hb1) | exact (Y.on (alloc_below _ _)).on (two_allocs hb1)); have Y1a := Y1.c0; have Y1b := Y1.c1; have Y1c := Y1.c2)
    | (clear M1; go_at_call 12; refine (cG _).mono ?_; rintro e w2 ⟨rfl, hb2⟩; have L2 := (show Below _ _ w2 from hb2); have B2 : Hid (Below w.heap.size w w2) := (by first | exact on1 B1.out hb2 | exact on1 B1.out (two_allocs hb2) | exact on1 (on1 B1.out (alloc_below _ _)) (two_allocs hb2)); have X2 : Box w2 (w.heap.size) (.int .i64 n) (.slice sp ds.length dc) (.slice cp k kc) := (by first | exact X1.on hb2 | exact X1.on (two_allocs hb2) | exact (X1.on (alloc_below _ _)).on (two_allocs hb2)); have X2a := X2.c0; have X2b := X2.c1; have X2c := X2.c2; have Y2 : Box w2 (w.heap.size + 1) (.int .i64 n') (.slice sp' ds'.length dc') (.slice cp' k' kc') := (by first | exact Y1.on hb2 | exact Y1.on (two_allocs hb2) | exact (Y1.on (alloc_below _ _)).on (two_allocs hb2)); have Y2a := Y2.c0; have Y2b := Y2.c1; have Y2c := Y2.c2)
    | (clear M2; go_at_call 12; refine (cG' _).mono ?_; rintro e w3 ⟨rfl, hb3⟩; have L3 := (show Below _ _ w3 from hb3); have B3 : Hid (Below w.heap.size w w3) := (by first | exact on1 B2.out hb3 | exact on1 B2.out (two_allocs hb3) | exact on1 (on1 B2.out (alloc_below _ _)) (two_allocs hb3)); have X3 : Box w3 (w.heap.size) (.int .i64 n) (.slice sp ds.length dc) (.slice cp k kc) := (by first | exact X2.on hb3 | exact X2.on (two_allocs hb3) | exact (X2.on (alloc_below _ _)).on (two_allocs hb3)); have X3a := X3.c0; have X3b := X3.c1; have X3c := X3.c2; have Y3 : Box w3 (w.heap.size + 1) (.int .i64 n') (.slice sp' ds'.length dc') (.slice cp' k' kc') := (by first | exact Y2.on hb3 | exact Y2.on (two_allocs hb3) | exact (Y2.on (alloc_below _ _)).on (two_allocs hb3)); have Y3a := Y3.c0; have Y3b := Y3.c1; have Y3c := Y3.c2)
    | (clear M3; go_at_call 8; refine (cK _ (by first | exact B3.out | exact on1 B3.out (alloc_below _ _) | exact on1 (on1 B3.out (alloc_below _ _)) (alloc_below _ _))).mono ?_; rintro e w4 ⟨rfl, hb4⟩; have L4 := (show Below _ _ w4 from hb4); have B4 : Hid (Below w.heap.size w w4) := (by first | exact on1 B3.out hb4 | exact on1 B3.out (two_allocs hb4) | exact on1 (on1 B3.out (alloc_below _ _)) (two_allocs hb4)); have X4 : Box w4 (w.heap.size) (.int .i64 n) (.slice sp ds.length dc) (.slice cp k kc) := (by first | exact X3.on hb4 | exact X3.on (two_allocs hb4) | exact (X3.on (alloc_below _ _)).on (two_allocs hb4)); have X4a := X4.c0; have X4b := X4.c1; have X4c := X4.c2; have Y4 : Box w4 (w.heap.size + 1) (.int .i64 n') (.slice sp' ds'.length dc') (.slice cp' k' kc') := (by first | exact Y3.on hb4 | exact Y3.on (two_allocs hb4) | exact (Y3.on (alloc_below _ _)).on (two_allocs hb4)); have Y4a := Y4.c0; have Y4b := Y4.c1; have Y4c := Y4.c2)
    | (clear M4; go_at_call 8; refine (cK' _ (by first | exact B4.out | exact on1 B4.out (alloc_below _ _) | exact on1 (on1 B4.out (alloc_below _ _)) (alloc_below _ _))).mono ?_; rintro e w5 ⟨rfl, hb5⟩; have L5 := (show Below _ _ w5 from hb5); have B5 : Hid (Below w.heap.size w w5) := (by first | exact on1 B4.out hb5 | exact on1 B4.out (two_allocs hb5) | exact on1 (on1 B4.out (alloc_below _ _)) (two_allocs hb5)); have X5 : Box w5 (w.heap.size) (.int .i64 n) (.slice sp ds.length dc) (.slice cp k kc) := (by first | exact X4.on hb5 | exact X4.on (two_allocs hb5) | exact (X4.on (alloc_below _ _)).on (two_allocs hb5)); have X5a := X5.c0; have X5b := X5.c1; have X5c := X5.c2; have Y5 : Box w5 (w.heap.size + 1) (.int .i64 n') (.slice sp' ds'.length dc') (.slice cp' k' kc') := (by first | exact Y4.on hb5 | exact Y4.on (two_allocs hb5) | exact (Y4.on (alloc_below _ _)).on (two_allocs hb5)); have Y5a := Y5.c0; have Y5b := Y5.c1; have Y5c := Y5.c2)
    | (clear M5; go_at_call 9; refine (cA _ (by first | exact B5.out | exact on1 B5.out (alloc_below _ _) | exact on1 (on1 B5.out (alloc_below _ _)) (alloc_below _ _))).mono ?_; rintro e w6 ⟨rfl, hb6⟩; have L6 := (show Below _ _ w6 from hb6); have B6 : Hid (Below w.heap.size w w6) := (by first | exact on1 B5.out hb6 | exact on1 B5.out (two_allocs hb6) | exact on1 (on1 B5.out (alloc_below _ _)) (two_allocs hb6)); have X6 : Box w6 (w.heap.size) (.int .i64 n) (.slice sp ds.length dc) (.slice cp k kc) := (by first | exact X5.on hb6 | exact X5.on (two_allocs hb6) | exact (X5.on (alloc_below _ _)).on (two_allocs hb6)); have X6a := X6.c0; have X6b := X6.c1; have X6c := X6.c2; have Y6 : Box w6 (w.heap.size + 1) (.int .i64 n') (.slice sp' ds'.length dc') (.slice cp' k' kc') := (by first | exact Y5.on hb6 | exact Y5.on (two_allocs hb6) | exact (Y5.on (alloc_below _ _)).on (two_allocs hb6)); have Y6a := Y6.c0; have Y6b := Y6.c1; have Y6c := Y6.c2))
  go_ret
  exact ⟨rfl, B6.out⟩
theorem unlike_any {w : World} (hE : Env3 w) {n n' : Int} {sp sp' cp cp' : Option Addr} {ds ds' cs cs' : List Int} {dc dc' k k' kc kc' : Nat} (h : ImgA w sp ds dc cp cs k kc) (h' : ImgA w sp' ds' dc' cp' cs' k' kc') :
    Calls Tryd.prog 5 #[.agg #[.int .i64 n, .slice sp ds.length dc, .slice cp k kc], .agg #[.int .i64 n', .slice sp' ds'.length dc', .slice cp' k' kc']] w fun e w' => e = .returned (.bool true) ∧ Below w.heap.size w w' := by
  by_cases hg : 5000 < ds.length ∨ 1100 < k
  · exact unlike_a hE h h' hg
  · by_cases hg' : 5000 < ds'.length ∨ 1100 < k'
    · exact unlike_b hE h h' hg hg'
    · cases ho : okI n ds cs k with
      | false => exact unlike_c hE h h' hg hg' ho
      | true =>
        cases ho' : okI n' ds' cs' k' with
        | false => exact unlike_d hE h h' hg hg' ho ho'
        | true => exact unlike_yes hE h h' hg hg' ho ho'
end Go.Proofs.YtcjghnnliepjjabDoor
