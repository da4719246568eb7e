/- 'ImagesParts', walked. -/
import Derived.Test.YtcjghnnliepjjabDoorBoxes
namespace Go.Proofs.YtcjghnnliepjjabDoor
open Go Go.RowKit
set_option maxRecDepth 100000
set_option linter.unusedVariables false
theorem put_at (n : Int) (ds cs : List Int) (k : Nat) : (putB n ds cs k).getD 3 0 = n / 256 ∧ (putB n ds cs k).getD 4 0 = n % 256 ∧ (putB n ds cs k).getD 5 0 = (ds.length : Int) / 256 ∧ (putB n ds cs k).getD 6 0 = (ds.length : Int) % 256 ∧ (putB n ds cs k).getD 7 0 = (k : Int) / 256 ∧ (putB n ds cs k).getD 8 0 = (k : Int) % 256 := ⟨rfl, rfl, rfl, rfl, rfl, rfl⟩
theorem two_sum (m : Int) (h0 : 0 ≤ m) (h1 : m ≤ 65535) : wrap64 (wrap64 (wrap64 (m / 256) * 256) + wrap64 (m % 256)) = m := by
  rw [show wrap64 (m / 256) = m / 256 by unfold wrap64; omega, show wrap64 (m % 256) = m % 256 by unfold wrap64; omega, show wrap64 (m / 256 * 256) = m / 256 * 256 by unfold wrap64; omega]
  unfold wrap64
  omega
theorem conv3 {w : World} {b off c : Nat} {zs : List Int} (h : Src w (some ⟨b, off, none⟩) zs) (ht : zs.take 3 = [116, 107, 49]) : (convert 23 9 (.slice (some ⟨b, off, none⟩) 3 c)).run Tryd.prog w = .ok (.string ⟨#[116, 107, 49]⟩) w := by
  have h3 := h.take 3
  rw [ht] at h3
  exact conv_src (c := c) h3 (by intro z hz; simp at hz; unfold byte; omega)
set_option maxHeartbeats 4000000 in
theorem parts_a {w : World} (hE : Env3 w) {n : Int} {sp cp : Option Addr} {ds cs : List Int} {dc k kc : Nat} (h : ImgA w sp ds dc cp cs k kc) (hg : 5000 < ds.length ∨ 1100 < k) :
    Calls Tryd.prog 6 #[.agg #[.int .i64 n, .slice sp ds.length dc, .slice cp k kc]] w fun e w' => e = .returned (.bool true) ∧ Below w.heap.size w w' := by
  have cA : ∀ W, Below w.heap.size w W → _ := fun W hW => alive_any W (hE.on hW)
  have cG := fun W => great_any (w := W) n sp ds.length dc cp k kc
  rw [decide_eq_true hg] at cG
  have hb0 : Below w.heap.size w (w.alloc (.cells #[.int .i64 n, .slice sp ds.length dc, .slice cp k kc] 26)) := alloc_below _ _
  have X : Box (w.alloc (.cells #[.int .i64 n, .slice sp ds.length dc, .slice cp k kc] 26)) w.heap.size (.int .i64 n) (.slice sp ds.length dc) (.slice cp k kc) := Box.new w _ _ _ _
  clear hE h
  have M0 := True.intro
  have M1 := True.intro
  go_enter Tryd.func6, Tryd.ntmps6
  go_wp2_with (first
    | (clear M0; go_at_call 9; refine (cA _ (by first | exact hb0 | exact on1 hb0 (alloc_below _ _) | exact on1 (on1 hb0 (alloc_below _ _)) (alloc_below _ _))).mono ?_; rintro e w1 ⟨rfl, hb1⟩; have L1 := (show Below _ _ w1 from hb1); have B1 : Hid (Below w.heap.size w w1) := (by first | exact on1 hb0 hb1 | exact on1 hb0 (two_allocs hb1) | exact on1 (on1 hb0 (alloc_below _ _)) (two_allocs hb1)); have X1 : Box w1 (w.heap.size) (.int .i64 n) (.slice sp ds.length dc) (.slice cp k kc) := (by first | exact X.on hb1 | exact X.on (two_allocs hb1) | exact (X.on (alloc_below _ _)).on (two_allocs hb1)); have X1a := X1.c0; have X1b := X1.c1; have X1c := X1.c2; have X1l := cell_lt X1.c0)
    | (go_at_call 12; refine (cG _).mono ?_; rintro e w2 ⟨rfl, hb2⟩; have L2 := (show Below _ _ w2 from hb2); have B2 : Hid (Below w.heap.size w w2) := (by first | exact on1 B1.out hb2 | exact on1 B1.out (two_allocs hb2) | exact on1 (on1 B1.out (alloc_below _ _)) (two_allocs hb2)); have X2 : Box w2 (w.heap.size) (.int .i64 n) (.slice sp ds.length dc) (.slice cp k kc) := (by first | exact X1.on hb2 | exact X1.on (two_allocs hb2) | exact (X1.on (alloc_below _ _)).on (two_allocs hb2)); have X2a := X2.c0; have X2b := X2.c1; have X2c := X2.c2; have X2l := cell_lt X2.c0)
    | (clear M1; go_at_call 9; refine (cA _ (by first | exact B2.out | exact on1 B2.out (alloc_below _ _) | exact on1 (on1 B2.out (alloc_below _ _)) (alloc_below _ _))).mono ?_; rintro e w3 ⟨rfl, hb3⟩; have L3 := (show Below _ _ w3 from hb3); have B3 : Hid (Below w.heap.size w w3) := (by first | exact on1 B2.out hb3 | exact on1 B2.out (two_allocs hb3) | exact on1 (on1 B2.out (alloc_below _ _)) (two_allocs hb3)); have X3 : Box w3 (w.heap.size) (.int .i64 n) (.slice sp ds.length dc) (.slice cp k kc) := (by first | exact X2.on hb3 | exact X2.on (two_allocs hb3) | exact (X2.on (alloc_below _ _)).on (two_allocs hb3)); have X3a := X3.c0; have X3b := X3.c1; have X3c := X3.c2; have X3l := cell_lt X3.c0))
  go_ret
  exact ⟨rfl, B3.out⟩
set_option maxHeartbeats 4000000 in
theorem parts_b {w : World} (hE : Env3 w) {n : Int} {sp cp : Option Addr} {ds cs : List Int} {dc k kc : Nat} (h : ImgA w sp ds dc cp cs k kc) (hg : ¬ (5000 < ds.length ∨ 1100 < k)) (ho : okI n ds cs k = false) :
    Calls Tryd.prog 6 #[.agg #[.int .i64 n, .slice sp ds.length dc, .slice cp k kc]] w fun e w' => e = .returned (.bool true) ∧ Below w.heap.size w w' := by
  have cA : ∀ W, Below w.heap.size w W → _ := fun W hW => alive_any W (hE.on hW)
  have cG := fun W => great_any (w := W) n sp ds.length dc cp k kc
  rw [decide_eq_false hg] at cG
  have cK : ∀ W, Below w.heap.size w W → _ := fun W hW => Check_img (size := n) (hE.on hW).two.env (h.i.on hW) dc kc
  rw [ho] at cK
  have hb0 : Below w.heap.size w (w.alloc (.cells #[.int .i64 n, .slice sp ds.length dc, .slice cp k kc] 26)) := alloc_below _ _
  have X : Box (w.alloc (.cells #[.int .i64 n, .slice sp ds.length dc, .slice cp k kc] 26)) w.heap.size (.int .i64 n) (.slice sp ds.length dc) (.slice cp k kc) := Box.new w _ _ _ _
  clear hE h
  have M0 := True.intro
  have M1 := True.intro
  go_enter Tryd.func6, Tryd.ntmps6
  go_wp2_with (first
    | (clear M0; go_at_call 9; refine (cA _ (by first | exact hb0 | exact on1 hb0 (alloc_below _ _) | exact on1 (on1 hb0 (alloc_below _ _)) (alloc_below _ _))).mono ?_; rintro e w1 ⟨rfl, hb1⟩; have L1 := (show Below _ _ w1 from hb1); have B1 : Hid (Below w.heap.size w w1) := (by first | exact on1 hb0 hb1 | exact on1 hb0 (two_allocs hb1) | exact on1 (on1 hb0 (alloc_below _ _)) (two_allocs hb1)); have X1 : Box w1 (w.heap.size) (.int .i64 n) (.slice sp ds.length dc) (.slice cp k kc) := (by first | exact X.on hb1 | exact X.on (two_allocs hb1) | exact (X.on (alloc_below _ _)).on (two_allocs hb1)); have X1a := X1.c0; have X1b := X1.c1; have X1c := X1.c2; have X1l := cell_lt X1.c0)
    | (go_at_call 12; refine (cG _).mono ?_; rintro e w2 ⟨rfl, hb2⟩; have L2 := (show Below _ _ w2 from hb2); have B2 : Hid (Below w.heap.size w w2) := (by first | exact on1 B1.out hb2 | exact on1 B1.out (two_allocs hb2) | exact on1 (on1 B1.out (alloc_below _ _)) (two_allocs hb2)); have X2 : Box w2 (w.heap.size) (.int .i64 n) (.slice sp ds.length dc) (.slice cp k kc) := (by first | exact X1.on hb2 | exact X1.on (two_allocs hb2) | exact (X1.on (alloc_below _ _)).on (two_allocs hb2)); have X2a := X2.c0; have X2b := X2.c1; have X2c := X2.c2; have X2l := cell_lt X2.c0)
    | (go_at_call 8; refine (cK _ (by first | exact B2.out | exact on1 B2.out (alloc_below _ _) | exact on1 (on1 B2.out (alloc_below _ _)) (alloc_below _ _))).mono ?_; rintro e w3 ⟨rfl, hb3⟩; have L3 := (show Below _ _ w3 from hb3); have B3 : Hid (Below w.heap.size w w3) := (by first | exact on1 B2.out hb3 | exact on1 B2.out (two_allocs hb3) | exact on1 (on1 B2.out (alloc_below _ _)) (two_allocs hb3)); have X3 : Box w3 (w.heap.size) (.int .i64 n) (.slice sp ds.length dc) (.slice cp k kc) := (by first | exact X2.on hb3 | exact X2.on (two_allocs hb3) | exact (X2.on (alloc_below _ _)).on (two_allocs hb3)); have X3a := X3.c0; have X3b := X3.c1; have X3c := X3.c2; have X3l := cell_lt X3.c0)
    | (clear M1; go_at_call 9; refine (cA _ (by first | exact B3.out | exact on1 B3.out (alloc_below _ _) | exact on1 (on1 B3.out (alloc_below _ _)) (alloc_below _ _))).mono ?_; rintro e w4 ⟨rfl, hb4⟩; have L4 := (show Below _ _ w4 from hb4); have B4 : Hid (Below w.heap.size w w4) := (by first | exact on1 B3.out hb4 | exact on1 B3.out (two_allocs hb4) | exact on1 (on1 B3.out (alloc_below _ _)) (two_allocs hb4)); have X4 : Box w4 (w.heap.size) (.int .i64 n) (.slice sp ds.length dc) (.slice cp k kc) := (by first | exact X3.on hb4 | exact X3.on (two_allocs hb4) | exact (X3.on (alloc_below _ _)).on (two_allocs hb4)); have X4a := X4.c0; have X4b := X4.c1; have X4c := X4.c2; have X4l := cell_lt X4.c0))
  go_ret
  exact ⟨rfl, B4.out⟩
theorem put_four {n : Int} {ds cs : List Int} {k : Nat} (hl : cs.length = 4 * k) {i : Nat} (hi : i < k) : ((putB n ds cs k).drop (9 + ds.length + 4 * i)).take 4 = [cs.getD (4 * i) 0, cs.getD (4 * i + 1) 0, cs.getD (4 * i + 2) 0, cs.getD (4 * i + 3) 0] := by
  have e : (putB n ds cs k).drop (9 + ds.length + 4 * i) = cs.drop (4 * i) := by
    rw [show 9 + ds.length + 4 * i = 9 + (ds.length + 4 * i) by omega, ← List.drop_drop, putB_drop, ← List.drop_drop, List.drop_left]
  have h4 := take_four cs i (by omega)
  have h5 : (cs.take (4 * (i + 1))).drop (4 * i) = (cs.drop (4 * i)).take 4 := by rw [List.drop_take]; congr 1; omega
  rw [e, ← h5, ← h4, List.drop_left']
  simp; omega
set_option maxHeartbeats 8000000 in
theorem parts_yes {w : World} (hE : Env3 w) {n : Int} {sp cp : Option Addr} {ds cs : List Int} {dc k kc : Nat} (h : ImgA w sp ds dc cp cs k kc) (hg : ¬ (5000 < ds.length ∨ 1100 < k)) (ho : okI n ds cs k = true) :
    Calls Tryd.prog 6 #[.agg #[.int .i64 n, .slice sp ds.length dc, .slice cp k kc]] w fun e w' => e = .returned (.bool true) ∧ Below w.heap.size w w' := by
  have cA : ∀ W, Below w.heap.size w W → _ := fun W hW => alive_any W (hE.on hW)
  have cG := fun W => great_any (w := W) n sp ds.length dc cp k kc
  rw [decide_eq_false hg] at cG
  have cK : ∀ W, Below w.heap.size w W → _ := fun W hW => Check_img (size := n) (hE.on hW).two.env (h.i.on hW) dc kc
  rw [ho] at cK
  have cP : ∀ W, Below w.heap.size w W → _ := fun W hW => put_src (size := n) (hE.on hW).two.env (h.i.on hW) dc kc h.dn ho
  have hpl := putB_len n ds cs k
  have hcl := h.i.len
  have hpa := put_at n ds cs k
  have hpd : ((putB n ds cs k).drop 9).take ds.length = ds := by rw [putB_drop]; simp
  have hpc : ∀ i, i < k → ((putB n ds cs k).drop (9 + ds.length + 4 * i)).take 4 = [cs.getD (4 * i) 0, cs.getD (4 * i + 1) 0, cs.getD (4 * i + 2) 0, cs.getD (4 * i + 3) 0] := fun i hi => put_four hcl hi
  have hpt : (putB n ds cs k).take 3 = [116, 107, 49] := rfl
  have hb := (okI_iff _ _ _ _).1 ho
  have hNB : ((((putB n ds cs k).length : Nat) : Int) == 9 + (ds.length : Int) + 4 * (k : Int)) = true := by simpa using (show (((putB n ds cs k).length : Nat) : Int) = 9 + (ds.length : Int) + 4 * (k : Int) by omega)
  have hdl2 : ds.length ≤ 5000 := by omega
  have hkl2 : k ≤ 1100 := by omega
  have hz3 : 3 ≤ (putB n ds cs k).length := by omega
  have HL : Hid ((putB n ds cs k).length = 9 + (ds.length + 4 * k)) := by show _ = _; omega
  have HA : Hid (ImgA w sp ds dc cp cs k kc) := h
  generalize putB n ds cs k = zs at *
  clear hpl hE h ho hg
  have hb0 : Below w.heap.size w (w.alloc (.cells #[.int .i64 n, .slice sp ds.length dc, .slice cp k kc] 26)) := alloc_below _ _
  have X : Box (w.alloc (.cells #[.int .i64 n, .slice sp ds.length dc, .slice cp k kc] 26)) w.heap.size (.int .i64 n) (.slice sp ds.length dc) (.slice cp k kc) := Box.new w _ _ _ _
  have M0 := True.intro
  have M1 := True.intro
  go_enter Tryd.func6, Tryd.ntmps6
  go_wp2_with (first
    | (clear M0; go_at_call 9; refine (cA _ (by first | exact hb0 | exact on1 hb0 (alloc_below _ _) | exact on1 (on1 hb0 (alloc_below _ _)) (alloc_below _ _))).mono ?_; rintro e w1 ⟨rfl, hb1⟩; have L1 := (show Below _ _ w1 from hb1); have B1 : Hid (Below w.heap.size w w1) := (by first | exact on1 hb0 hb1 | exact on1 hb0 (two_allocs hb1) | exact on1 (on1 hb0 (alloc_below _ _)) (two_allocs hb1)); have X1 : Box w1 (w.heap.size) (.int .i64 n) (.slice sp ds.length dc) (.slice cp k kc) := (by first | exact X.on hb1 | exact X.on (two_allocs hb1) | exact (X.on (alloc_below _ _)).on (two_allocs hb1)); have X1a := X1.c0; have X1b := X1.c1; have X1c := X1.c2; have X1l := cell_lt X1.c0)
    | (go_at_call 12; refine (cG _).mono ?_; rintro e w2 ⟨rfl, hb2⟩; have L2 := (show Below _ _ w2 from hb2); have B2 : Hid (Below w.heap.size w w2) := (by first | exact on1 B1.out hb2 | exact on1 B1.out (two_allocs hb2) | exact on1 (on1 B1.out (alloc_below _ _)) (two_allocs hb2)); have X2 : Box w2 (w.heap.size) (.int .i64 n) (.slice sp ds.length dc) (.slice cp k kc) := (by first | exact X1.on hb2 | exact X1.on (two_allocs hb2) | exact (X1.on (alloc_below _ _)).on (two_allocs hb2)); have X2a := X2.c0; have X2b := X2.c1; have X2c := X2.c2; have X2l := cell_lt X2.c0)
    | (go_at_call 8; refine (cK _ (by first | exact B2.out | exact on1 B2.out (alloc_below _ _) | exact on1 (on1 B2.out (alloc_below _ _)) (alloc_below _ _))).mono ?_; rintro e w3 ⟨rfl, hb3⟩; have L3 := (show Below _ _ w3 from hb3); have B3 : Hid (Below w.heap.size w w3) := (by first | exact on1 B2.out hb3 | exact on1 B2.out (two_allocs hb3) | exact on1 (on1 B2.out (alloc_below _ _)) (two_allocs hb3)); have X3 : Box w3 (w.heap.size) (.int .i64 n) (.slice sp ds.length dc) (.slice cp k kc) := (by first | exact X2.on hb3 | exact X2.on (two_allocs hb3) | exact (X2.on (alloc_below _ _)).on (two_allocs hb3)); have X3a := X3.c0; have X3b := X3.c1; have X3c := X3.c2; have X3l := cell_lt X3.c0)
    | (go_at_call 7; refine (cP _ (by first | exact B3.out | exact on1 B3.out (alloc_below _ _) | exact on1 (on1 B3.out (alloc_below _ _)) (alloc_below _ _))).mono ?_; rintro e w4 ⟨q, d, rfl, hS, hb4⟩; have L4 := (show Below _ _ w4 from hb4); have B4 : Hid (Below w.heap.size w w4) := (by first | exact on1 B3.out hb4 | exact on1 B3.out (two_allocs hb4) | exact on1 (on1 B3.out (alloc_below _ _)) (two_allocs hb4)); have X4 : Box w4 (w.heap.size) (.int .i64 n) (.slice sp ds.length dc) (.slice cp k kc) := (by first | exact X3.on hb4 | exact X3.on (two_allocs hb4) | exact (X3.on (alloc_below _ _)).on (two_allocs hb4)); have X4a := X4.c0; have X4b := X4.c1; have X4c := X4.c2; have X4l := cell_lt X4.c0; obtain ⟨qb, qo, rfl⟩ := hS.1.some_of (by omega); have S4 : Hid (Src w4 (some ⟨qb, qo, none⟩) zs) := hS.1; have hdd := hS.2.1; have hcv := conv3 (c := d) hS.1 hpt; clear hS; have h3d : 3 ≤ d := (by omega)))
  all_goals first | (exfalso; have := HL.out; omega) | skip
  have hw5 := alloc_below w4 (.cells #[.int .i64 n, .int .i64 ds.length, .int .i64 k] 3)
  have B5 : Hid (Below w.heap.size w (w4.alloc (.cells #[.int .i64 n, .int .i64 ds.length, .int .i64 k] 3))) := on1 B4.out hw5
  have L5 : Box (w4.alloc (.cells #[.int .i64 n, .int .i64 ds.length, .int .i64 k] 3)) w4.heap.size (.int .i64 n) (.int .i64 ds.length) (.int .i64 k) := Box.new w4 _ _ _ _
  have X5 := X4.on hw5
  have S5 : Hid (Src (w4.alloc (.cells #[.int .i64 n, .int .i64 ds.length, .int .i64 k] 3)) (some ⟨qb, qo, none⟩) zs) := S4.out.below hw5
  generalize hW5 : w4.alloc (.cells #[.int .i64 n, .int .i64 ds.length, .int .i64 k] 3) = W5 at *
  have HPC : Hid (∀ i, i < k → _) := hpc
  have HPD : Hid (_ = _) := hpd
  have HB : Hid (_ ∧ _) := hb
  have HCL : Hid (cs.length = 4 * k) := hcl
  obtain ⟨v3, v4, v5, v6, v7, v8⟩ := hpa
  have H34 : Hid (zs.getD 3 0 * 256 + zs.getD 4 0 = n ∧ (0 ≤ zs.getD 3 0 ∧ zs.getD 3 0 ≤ 255) ∧ (0 ≤ zs.getD 4 0 ∧ zs.getD 4 0 ≤ 255)) := by show _ ∧ _; rw [v3, v4]; omega
  have H56 : Hid (zs.getD 5 0 * 256 + zs.getD 6 0 = ds.length ∧ (0 ≤ zs.getD 5 0 ∧ zs.getD 5 0 ≤ 255) ∧ (0 ≤ zs.getD 6 0 ∧ zs.getD 6 0 ≤ 255)) := by show _ ∧ _; rw [v5, v6]; omega
  have H78 : Hid (zs.getD 7 0 * 256 + zs.getD 8 0 = k ∧ (0 ≤ zs.getD 7 0 ∧ zs.getD 7 0 ≤ 255) ∧ (0 ≤ zs.getD 8 0 ∧ zs.getD 8 0 ≤ 255)) := by show _ ∧ _; rw [v7, v8]; omega
  have h9 : 9 ≤ zs.length := by have := HL.out; omega
  have hw4 : w.heap.size < w4.heap.size := X4l
  clear v3 v4 v5 v6 v7 v8 hpc hpd hb hcl hpt hNB hz3 hb0 X M1 X1 X1a X1b X1c X1l X2 X2a X2b X2c X2l X3 X3a X3b X3c X3l X4 X4a X4b X4c X4l hb1 hb2 hb3 hb4 L1 L2 L3 L4 B1 B2 B3 B4 S4 hcv cA cG cK cP hw5 hW5
  go_loopg [6] 3 (fun g s6 wx => ∃ i : Nat, i + g = 3 ∧ s6 = .int .i64 i ∧ Below W5.heap.size W5 wx)
  case atStart => exact ⟨0, by omega, rfl, Below.refl _ _⟩
  case round =>
    obtain ⟨i, hig, rfl, hB⟩ := hrel
    have L6 := L5.on hB
    have X6 := X5.on hB
    have S6 : Hid (Src wr (some ⟨qb, qo, none⟩) zs) := S5.out.below hB
    have N6 := nine_at S6.out h9
    have L6a := L6.c0; have L6b := L6.c1; have L6c := L6.c2
    cases gk with
    | zero =>
      obtain rfl : i = 3 := by omega
      have cS : ∀ W p c, Below w.heap.size w W → Src W p ds → _ := fun W p c hW hp => same_any hp (HA.out.on hW).i.d (by omega) (by omega) c dc
      rw [show decide (ds = ds) = true from decide_eq_true rfl] at cS
      obtain ⟨U, hU⟩ : ∃ U : Nat, (9 : Int) + ds.length = U := ⟨9 + ds.length, by omega⟩
      have hUw : IntKind.i64.wrap (U : Int) = U := by rw [IntKind.wrap_i64]; omega
      have hU1 : (9 : Int) ≤ U := by omega
      have hU2 : (U : Int) ≤ d := by have := HL.out; omega
      have cS2 : ∀ W p c, Below w.heap.size w W → Src W p ds → Calls Tryd.prog 14 #[.slice p (U - 9) c, .slice sp ds.length dc] W fun e w' => e = .returned (.bool true) ∧ Below W.heap.size W w' := fun W p c hW hp => by
        rw [show U - 9 = ds.length by omega]; exact cS W p c hW hp
      have HDS : Hid (d = 9 → ∀ W p, Src W p ds) := fun h W p => by
        obtain rfl : ds = [] := List.eq_nil_of_length_eq_zero (by have := HL.out; omega)
        exact Src.nil _ _
      have B6 : Hid (Below w.heap.size w wr) := on1 B5.out hB
      have T6 : Hid (Src wr (some ⟨qb, qo + 9, none⟩) ds) := by have := (S6.out.drop 9).take ds.length; rw [HPD.out] at this; exact this
      have X6a := X6.c0; have X6b := X6.c1; have X6c := X6.c2
      have hD : Below wr.heap.size wr wr.drew := below_drewN _ 1
      clear L6 L6a L6b L6c N6 H34 H56 H78 hig
      by_cases h9d : d = 9
      all_goals first | (have hU3 : (U : Int) ≤ 9 := by omega) | skip
      all_goals
        go_wp2
        go_region_held3 (fun w' => w'.cell? ⟨w.heap.size, 1, none⟩ = some (.slice sp ds.length dc)) (go_keep) (first
          | (go_at_call 14; (refine (cS2 wr.drew _ _ (on1 B6.out hD) (by first | exact HDS.out h9d _ _ | exact T6.out.below hD)).mono ?_); rintro e w7 ⟨rfl, hb7⟩; have X7 := (X6.on hD).on hb7; have X7a := X7.c0; have X7b := X7.c1; have X7c := X7.c2; have C7 : Hid (Below W5.heap.size W5 w7) := (on1 (on1 hB hD) hb7)))
        clear hU hUw hU1 hU2 cS cS2 T6 S6 X6 X6a X6b X6c B6 X7 X7a X7b X7c hb7
        go_wp2
        go_loopg [7] k (fun g s7 wx => ∃ i : Nat, i + g = k ∧ s7 = .int .i64 i ∧ Below W5.heap.size W5 wx)
        case atStart => exact ⟨0, by omega, rfl, C7.out⟩
        case round =>
          clear hB hD C7
          obtain ⟨i, hig, rfl, hB⟩ := hrel
          have X6 := X5.on hB
          have X6a := X6.c0; have X6b := X6.c1; have X6c := X6.c2; have X6l := cell_lt X6.c0
          cases gk with
          | zero =>
            have hlt : ¬ ((i : Int) < k) := by omega
            clear hig h9d
            go_wp2
            go_ret
            exact ⟨rfl, on1 B5.out hB⟩
          | succ g =>
            first
            | (exfalso; have := HL.out; omega)
            | skip
              clear h9d
              have hlt : (i : Int) < k := by omega
              have B6 : Hid (Below w.heap.size w wr) := on1 B5.out hB
              have hl := HCL.out
              obtain ⟨b, off, rfl, hbw⟩ := HA.out.i.c.spot (by omega)
              obtain ⟨q0, q1, q2, q3⟩ := ((HA.out.on B6.out).i.c).quad hl (show i < k by omega)
              have hp := HPC.out i (by omega)
              have S6 : Hid (Src wr (some ⟨qb, qo, none⟩) zs) := S5.out.below hB
              clear hl
              generalize cs.getD (4 * i) 0 = e0 at *
              generalize cs.getD (4 * i + 1) 0 = e1 at *
              generalize cs.getD (4 * i + 2) 0 = e2 at *
              generalize cs.getD (4 * i + 3) 0 = e3 at *
              obtain ⟨A, hA⟩ : ∃ A : Nat, (9 : Int) + ds.length + 4 * i = A := ⟨9 + ds.length + 4 * i, by omega⟩
              obtain ⟨A2, hA2⟩ : ∃ A2 : Nat, (13 : Int) + ds.length + 4 * i = A2 := ⟨13 + ds.length + 4 * i, by omega⟩
              have T6 : Hid (Src wr (some ⟨qb, qo + A, none⟩) [e0, e1, e2, e3]) := by
                have := (S6.out.drop (9 + ds.length + 4 * i)).take 4
                rw [hp, show 9 + ds.length + 4 * i = A by omega] at this
                exact this
              have hAw : IntKind.i64.wrap (A : Int) = A := by rw [IntKind.wrap_i64]; omega
              have hA2w : IntKind.i64.wrap (A2 : Int) = A2 := by rw [IntKind.wrap_i64]; omega
              have hw9 : IntKind.i64.wrap (9 + (ds.length : Int)) = 9 + (ds.length : Int) := by rw [IntKind.wrap_i64]; omega
              have hw13 : IntKind.i64.wrap (13 + (ds.length : Int)) = 13 + (ds.length : Int) := by rw [IntKind.wrap_i64]; omega
              have hw4i : IntKind.i64.wrap (4 * (i : Int)) = 4 * (i : Int) := by rw [IntKind.wrap_i64]; omega
              have hA1 : (A : Int) ≤ A2 := by omega
              have hA3 : (A2 : Int) ≤ d := by have := HL.out; omega
              have hA4 : ¬ (d = A) := by omega
              have hA0 : (0 : Int) ≤ A := by omega
              have cS4 : ∀ W p c q, Src W p [e0, e1, e2, e3] → Src W q [e0, e1, e2, e3] → Calls Tryd.prog 14 #[.slice p (A2 - A) c, .slice q 4 4] W fun e w' => e = .returned (.bool true) ∧ Below W.heap.size W w' := fun W p c q h1 h2 => by
                have := same_any h1 h2 (by simp) (by simp) c 4
                rw [show decide ([e0, e1, e2, e3] = [e0, e1, e2, e3]) = true from decide_eq_true rfl] at this
                rw [show A2 - A = 4 by omega]
                exact this
              clear hp S6 S5
              go_wp2_with (go_at_call 15; refine (iPut_any _ _ _ _ _).mono ?_; rintro e w8 ⟨rfl, hb8⟩; have X8 := X6.on hb8; have X8a := X8.c0; have X8b := X8.c1; have X8c := X8.c2; have X8l := cell_lt X8.c0)
              have hD := ((alloc_below w8 (.cells #[.int .u8 e0, .int .u8 e1, .int .u8 e2, .int .u8 e3] 41)).drew)
              go_region_held3 (fun w' => w'.cell? ⟨w.heap.size, 1, none⟩ = some (.slice sp ds.length dc)) (go_keep) (first
                | (go_at_call 14; (refine (cS4 _ _ _ _ ((T6.out.below hb8).below hD) ((Src.four _ _ _ _ _ _).below (Below.refl _ _).drew)).mono ?_); rintro e w9 ⟨rfl, hb9⟩; have X9 := (X8.on hD).on hb9; have X9a := X9.c0; have X9b := X9.c1; have X9c := X9.c2))
              go_wp2
              go_roundg g
              case measure => omega
              case rel => exact ⟨i + 1, by omega, by go_num, on1 (on1 (on1 hB hb8) hD) hb9⟩
    | succ g =>
      have hi : i = 0 ∨ i = 1 ∨ i = 2 := by omega
      rcases hi with rfl | rfl | rfl
      · have y3 := N6 3 (by omega); have y4 := N6 4 (by omega)
        obtain ⟨e1, e2, e3⟩ := H34.out
        generalize zs.getD 3 0 = z3 at *
        generalize zs.getD 4 0 = z4 at *
        have HE : (z3 * 256 + z4 == n) = true := by simpa using e1
        clear N6 e1 H34 H56 H78
        go_wp2
        go_quiet ((fail))
        go_wp2
        go_roundg g
        case measure => omega
        case rel => exact ⟨1, by omega, by go_num, hB.trans ((below_drewN _ _).mono hB.size)⟩
      · have y3 := N6 5 (by omega); have y4 := N6 6 (by omega)
        obtain ⟨e1, e2, e3⟩ := H56.out
        generalize zs.getD 5 0 = z3 at *
        generalize zs.getD 6 0 = z4 at *
        have HE : (z3 * 256 + z4 == (ds.length : Int)) = true := by simpa using e1
        clear N6 e1 H34 H56 H78
        go_wp2
        go_quiet ((fail))
        go_wp2
        go_roundg g
        case measure => omega
        case rel => exact ⟨2, by omega, by go_num, hB.trans ((below_drewN _ _).mono hB.size)⟩
      · have y3 := N6 7 (by omega); have y4 := N6 8 (by omega)
        obtain ⟨e1, e2, e3⟩ := H78.out
        generalize zs.getD 7 0 = z3 at *
        generalize zs.getD 8 0 = z4 at *
        have HE : (z3 * 256 + z4 == (k : Int)) = true := by simpa using e1
        clear N6 e1 H34 H56 H78
        go_wp2
        go_quiet ((fail))
        go_wp2
        go_roundg g
        case measure => omega
        case rel => exact ⟨3, by omega, by go_num, hB.trans ((below_drewN _ _).mono hB.size)⟩
theorem parts_any {w : World} (hE : Env3 w) {n : Int} {sp cp : Option Addr} {ds cs : List Int} {dc k kc : Nat} (h : ImgA w sp ds dc cp cs k kc) :
    Calls Tryd.prog 6 #[.agg #[.int .i64 n, .slice sp ds.length dc, .slice cp k kc]] w fun e w' => e = .returned (.bool true) ∧ Below w.heap.size w w' := by
  by_cases hg : 5000 < ds.length ∨ 1100 < k
  · exact parts_a hE h hg
  · cases ho : okI n ds cs k with
    | false => exact parts_b hE h hg ho
    | true => exact parts_yes hE h hg ho
end Go.Proofs.YtcjghnnliepjjabDoor
