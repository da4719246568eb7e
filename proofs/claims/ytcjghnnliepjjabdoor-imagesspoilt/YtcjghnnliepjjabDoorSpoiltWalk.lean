/- 'ImagesSpoilt', walked. -/
import Derived.Test.YtcjghnnliepjjabDoorSpoiltPure
namespace Go.Proofs.YtcjghnnliepjjabDoor
open Go Go.RowKit
set_option maxRecDepth 100000
set_option linter.unusedVariables false
/-- what Get answers of bytes that are none, or an image's: the error alone -/
theorem get_none {w : World} (hE : Env w) {sp : Option Addr} {zs : List Int} (hs : Src w sp zs) (hb : Bs zs) (c : Nat) (hc : zs.length ≤ c) (hg : getI zs = none) :
    Calls Tryd.prog 10 #[.slice sp zs.length c] w fun e w' => e = .returned (.tuple #[.agg #[.int .i64 0, .slice none 0 0, .slice none 0 0], .int .i64 14]) ∧ Below w.heap.size w w' := by
  have h := Get_any hE hs hb c hc
  rw [hg] at h
  exact h
theorem get_yes {w : World} (hE : Env w) {sp : Option Addr} {zs : List Int} (hs : Src w sp zs) (hb : Bs zs) (c : Nat) (hc : zs.length ≤ c) {r : Int × List Int × List Int × Nat} (hg : getI zs = some r) :
    Calls Tryd.prog 10 #[.slice sp zs.length c] w fun e w' => ∃ m p pl pc r rl rc, e = .returned (.tuple #[.agg #[.int .i64 m, .slice p pl pc, .slice r rl rc], .int .i64 0]) ∧ Below w.heap.size w w' := by
  obtain ⟨n, ds, cs, k⟩ := r
  have h := Get_any hE hs hb c hc
  rw [hg] at h
  refine h.mono fun e w' h => ?_
  obtain ⟨vd, vc, rfl, o1, o2, hbb⟩ := h
  obtain ⟨p, pc, rfl, _⟩ := owns_form o1
  obtain ⟨r, rc, rfl, _⟩ := owns_form o2
  exact ⟨n, p, _, pc, r, _, rc, rfl, hbb⟩
theorem twin_o {w : World} {sp : Option Addr} {zs : List Int} (hs : Src w sp zs) (hl : zs.length ≤ 100000) (c : Nat) :
    Calls Tryd.prog 13 #[.slice sp zs.length c] w fun e w' => ∃ O, e = .returned (.slice (some ⟨O, 0, none⟩) zs.length (zs.length + 1)) ∧ (BRow w' O (zs ++ [77]) ∧ w.heap.size ≤ O) ∧ Below w.heap.size w w' := by
  refine (twin_any hs rfl hl c).mono fun e w' h => ?_
  obtain ⟨d, rfl, ⟨h1, rfl⟩, h2⟩ := h
  exact ⟨_, rfl, ⟨h1, Nat.le_refl _⟩, h2⟩
theorem nil_grown {w w' : World} (h : w.grownBy w' (Value.ownBlock (.slice none 0 0))) : Below w.heap.size w w' := own_grown (e := 5) (s := 1) (n := 0) (xs := []) (World.ownsRow_nil _ _ _ _) h (Nat.le_refl _)
theorem own_nil {w : World} {B : Nat} {v : Value} {zs : List Int} (h : w.ownsRow B 5 1 v (0 + zs.length) (byt ([] ++ zs))) : w.ownsRow B 5 1 v zs.length (byt zs) := by
  rw [Nat.zero_add] at h
  exact h
theorem Box.set {w : World} {B g k : Nat} {a b c v : Value} (h : Box w B a b c) (hn : B ≠ g) : Box (w.setCell ⟨g, k, none⟩ v) B a b c := ⟨(setCell_cell hn).trans h.c0, (setCell_cell hn).trans h.c1, (setCell_cell hn).trans h.c2⟩
theorem brow_at {w : World} {g : Nat} {zs : List Int} {i : Nat} (h : BRow w g zs) (hi : i < zs.length) : w.cell? ⟨g, i, none⟩ = some (.int .u8 (zs.getD i 0)) := by
  rw [cell_of h]
  simpa using byt_at zs i hi
theorem set_app {zs : List Int} {i : Nat} {c : Int} (h : i < zs.length) : (zs ++ [77]).set i c = zs.set i c ++ [77] := List.set_append_left _ _ h
theorem src_row {w : World} {g : Nat} {zs : List Int} (h : BRow w g (zs ++ [77])) : Src w (some ⟨g, 0, none⟩) zs := by
  have := h.src.take zs.length
  rwa [List.take_left'] at this
  rfl
theorem Bs.set {zs : List Int} (h : Bs zs) (i : Nat) {c : Int} (hc : byte c) : Bs (zs.set i c) := fun z hz => by
  rcases List.mem_or_eq_of_mem_set hz with h1 | h1
  · exact h z h1
  · rw [h1]; exact hc
set_option maxHeartbeats 4000000 in
theorem spoilt_a {w : World} (hE : Env3 w) {n : Int} {sp cp : Option Addr} {ds cs : List Int} {dc k kc : Nat} (h : ImgA w sp ds dc cp cs k kc) {c a : Int} (hcb : byte c) (hab : 0 ≤ a ∧ a ≤ 65535) (hg : 5000 < ds.length ∨ 1100 < k) :
    Calls Tryd.prog 4 #[.agg #[.int .i64 n, .slice sp ds.length dc, .slice cp k kc], .int .u8 c, .int .u16 a] w fun e w' => e = .returned (.bool true) ∧ Below w.heap.size w w' := by
  have cA : ∀ W, Below w.heap.size w W → _ := fun W hW => alive_any W (hE.on hW)
  have cG := fun W => great_any (w := W) n sp ds.length dc cp k kc
  rw [decide_eq_true hg] at cG
  have hb0 : Below w.heap.size w (w.alloc (.cells #[.int .i64 n, .slice sp ds.length dc, .slice cp k kc] 26)) := alloc_below _ _
  have X : Box (w.alloc (.cells #[.int .i64 n, .slice sp ds.length dc, .slice cp k kc] 26)) w.heap.size (.int .i64 n) (.slice sp ds.length dc) (.slice cp k kc) := Box.new w _ _ _ _
  clear hE h
  have M0 := True.intro
  have M1 := True.intro
  go_enter Tryd.func4, Tryd.ntmps4
  go_wp2_with (first
    | (clear M0; go_at_call 9; refine (cA _ (by first | exact hb0 | exact on1 hb0 (alloc_below _ _) | exact on1 (on1 hb0 (alloc_below _ _)) (alloc_below _ _))).mono ?_; rintro e w1 ⟨rfl, hb1⟩; have L1 := (show Below _ _ w1 from hb1); have B1 : Hid (Below w.heap.size w w1) := (by first | exact on1 hb0 hb1 | exact on1 hb0 (two_allocs hb1) | exact on1 (on1 hb0 (alloc_below _ _)) (two_allocs hb1)); have X1 : Box w1 (w.heap.size) (.int .i64 n) (.slice sp ds.length dc) (.slice cp k kc) := (by first | exact X.on hb1 | exact X.on (two_allocs hb1) | exact (X.on (alloc_below _ _)).on (two_allocs hb1)); have X1a := X1.c0; have X1b := X1.c1; have X1c := X1.c2; have X1l := cell_lt X1.c0)
    | (go_at_call 12; refine (cG _).mono ?_; rintro e w2 ⟨rfl, hb2⟩; have L2 := (show Below _ _ w2 from hb2); have B2 : Hid (Below w.heap.size w w2) := (by first | exact on1 B1.out hb2 | exact on1 B1.out (two_allocs hb2) | exact on1 (on1 B1.out (alloc_below _ _)) (two_allocs hb2)); have X2 : Box w2 (w.heap.size) (.int .i64 n) (.slice sp ds.length dc) (.slice cp k kc) := (by first | exact X1.on hb2 | exact X1.on (two_allocs hb2) | exact (X1.on (alloc_below _ _)).on (two_allocs hb2)); have X2a := X2.c0; have X2b := X2.c1; have X2c := X2.c2; have X2l := cell_lt X2.c0)
    | (clear M1; go_at_call 9; refine (cA _ (by first | exact B2.out | exact on1 B2.out (alloc_below _ _) | exact on1 (on1 B2.out (alloc_below _ _)) (alloc_below _ _))).mono ?_; rintro e w3 ⟨rfl, hb3⟩; have L3 := (show Below _ _ w3 from hb3); have B3 : Hid (Below w.heap.size w w3) := (by first | exact on1 B2.out hb3 | exact on1 B2.out (two_allocs hb3) | exact on1 (on1 B2.out (alloc_below _ _)) (two_allocs hb3)); have X3 : Box w3 (w.heap.size) (.int .i64 n) (.slice sp ds.length dc) (.slice cp k kc) := (by first | exact X2.on hb3 | exact X2.on (two_allocs hb3) | exact (X2.on (alloc_below _ _)).on (two_allocs hb3)); have X3a := X3.c0; have X3b := X3.c1; have X3c := X3.c2; have X3l := cell_lt X3.c0))
  go_ret
  exact ⟨rfl, B3.out⟩
set_option maxHeartbeats 4000000 in
theorem spoilt_b {w : World} (hE : Env3 w) {n : Int} {sp cp : Option Addr} {ds cs : List Int} {dc k kc : Nat} (h : ImgA w sp ds dc cp cs k kc) {c a : Int} (hcb : byte c) (hab : 0 ≤ a ∧ a ≤ 65535) (hg : ¬ (5000 < ds.length ∨ 1100 < k)) (ho : okI n ds cs k = false) :
    Calls Tryd.prog 4 #[.agg #[.int .i64 n, .slice sp ds.length dc, .slice cp k kc], .int .u8 c, .int .u16 a] w fun e w' => e = .returned (.bool true) ∧ Below w.heap.size w w' := by
  have cA : ∀ W, Below w.heap.size w W → _ := fun W hW => alive_any W (hE.on hW)
  have cG := fun W => great_any (w := W) n sp ds.length dc cp k kc
  rw [decide_eq_false hg] at cG
  have cK : ∀ W, Below w.heap.size w W → _ := fun W hW => Check_img (size := n) (hE.on hW).two.env (h.i.on hW) dc kc
  rw [ho] at cK
  have hb0 : Below w.heap.size w (w.alloc (.cells #[.int .i64 n, .slice sp ds.length dc, .slice cp k kc] 26)) := alloc_below _ _
  have X : Box (w.alloc (.cells #[.int .i64 n, .slice sp ds.length dc, .slice cp k kc] 26)) w.heap.size (.int .i64 n) (.slice sp ds.length dc) (.slice cp k kc) := Box.new w _ _ _ _
  clear hE h
  have M0 := True.intro
  have M1 := True.intro
  go_enter Tryd.func4, Tryd.ntmps4
  go_wp2_with (first
    | (clear M0; go_at_call 9; refine (cA _ (by first | exact hb0 | exact on1 hb0 (alloc_below _ _) | exact on1 (on1 hb0 (alloc_below _ _)) (alloc_below _ _))).mono ?_; rintro e w1 ⟨rfl, hb1⟩; have L1 := (show Below _ _ w1 from hb1); have B1 : Hid (Below w.heap.size w w1) := (by first | exact on1 hb0 hb1 | exact on1 hb0 (two_allocs hb1) | exact on1 (on1 hb0 (alloc_below _ _)) (two_allocs hb1)); have X1 : Box w1 (w.heap.size) (.int .i64 n) (.slice sp ds.length dc) (.slice cp k kc) := (by first | exact X.on hb1 | exact X.on (two_allocs hb1) | exact (X.on (alloc_below _ _)).on (two_allocs hb1)); have X1a := X1.c0; have X1b := X1.c1; have X1c := X1.c2; have X1l := cell_lt X1.c0)
    | (go_at_call 12; refine (cG _).mono ?_; rintro e w2 ⟨rfl, hb2⟩; have L2 := (show Below _ _ w2 from hb2); have B2 : Hid (Below w.heap.size w w2) := (by first | exact on1 B1.out hb2 | exact on1 B1.out (two_allocs hb2) | exact on1 (on1 B1.out (alloc_below _ _)) (two_allocs hb2)); have X2 : Box w2 (w.heap.size) (.int .i64 n) (.slice sp ds.length dc) (.slice cp k kc) := (by first | exact X1.on hb2 | exact X1.on (two_allocs hb2) | exact (X1.on (alloc_below _ _)).on (two_allocs hb2)); have X2a := X2.c0; have X2b := X2.c1; have X2c := X2.c2; have X2l := cell_lt X2.c0)
    | (go_at_call 8; refine (cK _ (by first | exact B2.out | exact on1 B2.out (alloc_below _ _) | exact on1 (on1 B2.out (alloc_below _ _)) (alloc_below _ _))).mono ?_; rintro e w3 ⟨rfl, hb3⟩; have L3 := (show Below _ _ w3 from hb3); have B3 : Hid (Below w.heap.size w w3) := (by first | exact on1 B2.out hb3 | exact on1 B2.out (two_allocs hb3) | exact on1 (on1 B2.out (alloc_below _ _)) (two_allocs hb3)); have X3 : Box w3 (w.heap.size) (.int .i64 n) (.slice sp ds.length dc) (.slice cp k kc) := (by first | exact X2.on hb3 | exact X2.on (two_allocs hb3) | exact (X2.on (alloc_below _ _)).on (two_allocs hb3)); have X3a := X3.c0; have X3b := X3.c1; have X3c := X3.c2; have X3l := cell_lt X3.c0)
    | (clear M1; go_at_call 9; refine (cA _ (by first | exact B3.out | exact on1 B3.out (alloc_below _ _) | exact on1 (on1 B3.out (alloc_below _ _)) (alloc_below _ _))).mono ?_; rintro e w4 ⟨rfl, hb4⟩; have L4 := (show Below _ _ w4 from hb4); have B4 : Hid (Below w.heap.size w w4) := (by first | exact on1 B3.out hb4 | exact on1 B3.out (two_allocs hb4) | exact on1 (on1 B3.out (alloc_below _ _)) (two_allocs hb4)); have X4 : Box w4 (w.heap.size) (.int .i64 n) (.slice sp ds.length dc) (.slice cp k kc) := (by first | exact X3.on hb4 | exact X3.on (two_allocs hb4) | exact (X3.on (alloc_below _ _)).on (two_allocs hb4)); have X4a := X4.c0; have X4b := X4.c1; have X4c := X4.c2; have X4l := cell_lt X4.c0))
  go_ret
  exact ⟨rfl, B4.out⟩
set_option maxHeartbeats 8000000 in
theorem spoilt_yy {w : World} (hE : Env3 w) {n : Int} {sp cp : Option Addr} {ds cs : List Int} {dc k kc : Nat} (h : ImgA w sp ds dc cp cs k kc) {c a : Int} (hcb : byte c) (hab : 0 ≤ a ∧ a ≤ 65535) (hg : ¬ (5000 < ds.length ∨ 1100 < k)) (ho : okI n ds cs k = true) {j i3 : Nat} (hj : Int.tmod a ((putB n ds cs k).length : Int) = j) (hi3 : Int.tmod a 3 = i3) (hs : (putB n ds cs k).set i3 c = putB n ds cs k) (hk : 0 < k) :
    Calls Tryd.prog 4 #[.agg #[.int .i64 n, .slice sp ds.length dc, .slice cp k kc], .int .u8 c, .int .u16 a] w fun e w' => e = .returned (.bool true) ∧ Below w.heap.size w w' := by
  have cA : ∀ W, Below w.heap.size w W → _ := fun W hW => alive_any W (hE.on hW)
  have cG := fun W => great_any (w := W) n sp ds.length dc cp k kc
  rw [decide_eq_false hg] at cG
  have cK : ∀ W, Below w.heap.size w W → _ := fun W hW => Check_img (size := n) (hE.on hW).two.env (h.i.on hW) dc kc
  rw [ho] at cK
  have cP : ∀ W, Below w.heap.size w W → _ := fun W hW => put_src (size := n) (hE.on hW).two.env (h.i.on hW) dc kc h.dn ho
  have hpl := putB_len n ds cs k
  have hcl := h.i.len
  have hpb := putB_bs h.i.db h.i.cb ho
  have hgp := get_put hcl ho
  have hsc := fun hk : 0 < k => spoilt_code hcl ho hk
  have hzn : 9 ≤ (putB n ds cs k).length ∧ (putB n ds cs k).length ≤ 20000 := by omega
  have hz4 : 0 < k → 4 ≤ (putB n ds cs k).length := fun _ => by omega
  have hkI : (0 : Int) < k := by omega
  generalize putB n ds cs k = zs at *
  clear hpl hcl
  have hjl : j < zs.length := by
    have h1 := Int.tmod_lt_of_pos a (show (0 : Int) < zs.length by omega)
    omega
  have hi3l : i3 < 3 := by
    have h1 := Int.tmod_lt_of_pos a (show (0 : Int) < 3 by omega)
    omega
  have c1 : ∀ W q d, Below w.heap.size w W → Src W q (zs ++ [c]) → zs.length + 1 ≤ d → _ := fun W q d hW hS hd => get_none (hE.on hW).two.env hS (hpb.app (Bs.cons hcb Bs.nil)) d (by simpa using hd) (spoilt_more hgp c)
  rw [show (zs ++ [c]).length = zs.length + 1 by simp] at c1
  have c2 : ∀ W q d, Below w.heap.size w W → Src W q zs → zs.length ≤ d → _ := fun W q d hW hS hd => get_none (hE.on hW).two.env (hS.take j) (hpb.take j) d (by simp; omega) (spoilt_less hgp hjl)
  rw [show (zs.take j).length = j by simp; omega] at c2
  have c3 : ∀ W O, Below w.heap.size w W → BRow W O (zs.set i3 c ++ [77]) → _ := fun W O hW hS => get_yes (hE.on hW).two.env (src_row hS) (hpb.set i3 hcb) (zs.length + 1) (by simp) (by rw [hs]; exact hgp)
  rw [show (zs.set i3 c).length = zs.length by simp] at c3
  have c4 : ∀ W O, Below w.heap.size w W → BRow W O (zs.set (zs.length - 4) 200 ++ [77]) → _ := fun W O hW hS => get_none (hE.on hW).two.env (src_row hS) (hpb.set _ ⟨by decide, by decide⟩) (zs.length + 1) (by simp) (hsc hk)
  rw [show (zs.set (zs.length - 4) 200).length = zs.length by simp] at c4
  have cT : ∀ W q d, Src W q zs → _ := fun W q d hS => twin_o hS (by omega) d
  have cS : ∀ W O q d, BRow W O (zs.set i3 c ++ [77]) → Src W q zs → _ := fun W O q d hO hS => same_any (src_row hO) hS (by simp; omega) (by omega) (zs.length + 1) d
  rw [show (zs.set i3 c).length = zs.length by simp, show decide (zs.set i3 c = zs) = true from decide_eq_true hs] at cS
  have h9I : ¬ ((zs.length : Int) < 9) := by omega
  have h3I : (i3 : Int) < zs.length := by omega
  have hi3z : i3 < zs.length := by omega
  have hm4 : ((zs.length : Int) - 4) = ((zs.length - 4 : Nat) : Int) := by have := hz4 hk; omega
  have h4I : ((zs.length - 4 : Nat) : Int) < zs.length := by have := hz4 hk; omega
  have h4z : zs.length - 4 < zs.length := by have := hz4 hk; omega
  obtain ⟨p4, hp4⟩ : ∃ p4, zs.length - 4 = p4 := ⟨_, rfl⟩
  rw [hp4] at hm4 h4I h4z c4
  clear hp4
  clear hpb hgp hsc hs hz4 hk
  have hb0 : Below w.heap.size w (w.alloc (.cells #[.int .i64 n, .slice sp ds.length dc, .slice cp k kc] 26)) := alloc_below _ _
  have X : Box (w.alloc (.cells #[.int .i64 n, .slice sp ds.length dc, .slice cp k kc] 26)) w.heap.size (.int .i64 n) (.slice sp ds.length dc) (.slice cp k kc) := Box.new w _ _ _ _
  clear hE h ho hg
  have M0 := True.intro
  have M1 := True.intro
  have M2 := True.intro
  have M3 := True.intro
  have M4 := True.intro
  have M5 := True.intro
  have M6 := True.intro
  have M7 := True.intro
  have M8 := True.intro
  have M9 := True.intro
  go_enter Tryd.func4, Tryd.ntmps4
  go_wp2_with (first
    | (clear M0; go_at_call 9; refine (cA _ (by first | exact hb0 | exact on1 hb0 (alloc_below _ _) | exact on1 (on1 hb0 (alloc_below _ _)) (alloc_below _ _))).mono ?_; rintro e w1 ⟨rfl, hb1⟩; have L1 := (show Below _ _ w1 from hb1); have B1 : Hid (Below w.heap.size w w1) := (by first | exact on1 hb0 hb1 | exact on1 hb0 (two_allocs hb1) | exact on1 (on1 hb0 (alloc_below _ _)) (two_allocs hb1)); have X1 : Box w1 (w.heap.size) (.int .i64 n) (.slice sp ds.length dc) (.slice cp k kc) := (by first | exact X.on hb1 | exact X.on (two_allocs hb1) | exact (X.on (alloc_below _ _)).on (two_allocs hb1)); have X1a := X1.c0; have X1b := X1.c1; have X1c := X1.c2; have X1l := cell_lt X1.c0)
    | (go_at_call 12; refine (cG _).mono ?_; rintro e w2 ⟨rfl, hb2⟩; have L2 := (show Below _ _ w2 from hb2); have B2 : Hid (Below w.heap.size w w2) := (by first | exact on1 B1.out hb2 | exact on1 B1.out (two_allocs hb2) | exact on1 (on1 B1.out (alloc_below _ _)) (two_allocs hb2)); have X2 : Box w2 (w.heap.size) (.int .i64 n) (.slice sp ds.length dc) (.slice cp k kc) := (by first | exact X1.on hb2 | exact X1.on (two_allocs hb2) | exact (X1.on (alloc_below _ _)).on (two_allocs hb2)); have X2a := X2.c0; have X2b := X2.c1; have X2c := X2.c2; have X2l := cell_lt X2.c0)
    | (go_at_call 8; refine (cK _ (by first | exact B2.out | exact on1 B2.out (alloc_below _ _) | exact on1 (on1 B2.out (alloc_below _ _)) (alloc_below _ _))).mono ?_; rintro e w3 ⟨rfl, hb3⟩; have L3 := (show Below _ _ w3 from hb3); have B3 : Hid (Below w.heap.size w w3) := (by first | exact on1 B2.out hb3 | exact on1 B2.out (two_allocs hb3) | exact on1 (on1 B2.out (alloc_below _ _)) (two_allocs hb3)); have X3 : Box w3 (w.heap.size) (.int .i64 n) (.slice sp ds.length dc) (.slice cp k kc) := (by first | exact X2.on hb3 | exact X2.on (two_allocs hb3) | exact (X2.on (alloc_below _ _)).on (two_allocs hb3)); have X3a := X3.c0; have X3b := X3.c1; have X3c := X3.c2; have X3l := cell_lt X3.c0)
    | (go_at_call 7; refine (cP _ (by first | exact B3.out | exact on1 B3.out (alloc_below _ _) | exact on1 (on1 B3.out (alloc_below _ _)) (alloc_below _ _))).mono ?_; rintro e w4 ⟨q, d, rfl, hS, hb4⟩; have L4 := (show Below _ _ w4 from hb4); have B4 : Hid (Below w.heap.size w w4) := (by first | exact on1 B3.out hb4 | exact on1 B3.out (two_allocs hb4) | exact on1 (on1 B3.out (alloc_below _ _)) (two_allocs hb4)); have X4 : Box w4 (w.heap.size) (.int .i64 n) (.slice sp ds.length dc) (.slice cp k kc) := (by first | exact X3.on hb4 | exact X3.on (two_allocs hb4) | exact (X3.on (alloc_below _ _)).on (two_allocs hb4)); have X4a := X4.c0; have X4b := X4.c1; have X4c := X4.c2; have X4l := cell_lt X4.c0; obtain ⟨qb, qo, rfl⟩ := hS.1.some_of (by omega); have hqb := cell_lt (nine_at hS.1 hzn.1 0 (by omega)); have S4 : Hid (Src w4 (some ⟨qb, qo, none⟩) zs) := hS.1; have hdd := hS.2.1; clear hS; have hjd : j ≤ d := (by omega))
    | (at_builtin; clear M2; refine wpList_more rfl (.const (.slice none 0 0)) (.tmp 43) rfl (zs := zs) (xs := []) (n := 0) (B := w4.heap.size) rfl rfl (World.ownsRow_nil _ _ _ _) S4.out (fun h => by cases h) (by omega) (Nat.le_refl _) ?_; intro v5 u5 O5 G5; have b5 : Below w4.heap.size w4 u5 := (nil_grown G5.out); have O5' : Hid (u5.ownsRow w4.heap.size 5 1 v5 zs.length (byt zs)) := (own_nil O5.out))
    | (at_builtin; clear M3; refine wpList_byte rfl (.tmp 44) (.tmp 46) rfl (t := zs.length + 1) (B := w4.heap.size) rfl rfl (owns_below O5'.out (alloc_below _ _)) (Src.one _ _ _) rfl (by omega) (by have := b5.size; rw [alloc_size]; omega) ?_; intro p6 c6 u6 O6 G6; have b6 : Below w4.heap.size w4 u6 := (b5.trans (((alloc_below u5 _).mono b5.size).trans (own_grown (owns_below O5'.out (alloc_below _ _)) G6.out (by have := b5.size; rw [alloc_size]; omega)))); have B4' : Hid (Below w.heap.size w u6) := (on1 B4.out b6); have X4' := X4.on b6; have X4'a := X4'.c0; have X4'b := X4'.c1; have X4'c := X4'.c2; have X4'l := cell_lt X4'.c0; have S4' : Hid (Src u6 (some ⟨qb, qo, none⟩) zs) := (S4.out.below b6); have hqb' : qb < u6.heap.size := (by have := b6.size; omega))
    | (clear M4; go_at_call 10; refine (c1 _ p6 c6 B4'.out (src_own O6.out) (owns_cap O6.out).2).mono ?_; rintro e w7 ⟨rfl, hb7⟩; have B7 : Hid (Below w.heap.size w w7) := (on1 B4'.out (hb7)); have X7 := X4'.on (hb7); have X7a := X7.c0; have X7b := X7.c1; have X7c := X7.c2; have X7l := cell_lt X7.c0; have S7 : Hid (Src w7 (some ⟨qb, qo, none⟩) zs) := (S4'.out.below hb7); have hq7 : qb < w7.heap.size := (by have := hb7.size; omega))
    | (clear M5; go_at_call 10; refine (c2 _ _ d (on1 B7.out (alloc_below _ _)) (S7.out.below (alloc_below _ _)) hdd).mono ?_; rintro e w8 ⟨rfl, hb8⟩; have B8 : Hid (Below w.heap.size w w8) := (on1 B7.out (two_allocs hb8)); have X8 := X7.on (two_allocs hb8); have X8a := X8.c0; have X8b := X8.c1; have X8c := X8.c2; have X8l := cell_lt X8.c0; have S8 : Hid (Src w8 (some ⟨qb, qo, none⟩) zs) := (S7.out.below (two_allocs hb8)); have hq8 : qb < w8.heap.size := (by have := (two_allocs hb8).size; omega))
    | (clear M6; go_at_call 13; refine (cT _ _ d (S8.out.below (alloc_below _ _))).mono ?_; rintro e w9 ⟨O, rfl, hO, hb9⟩; have B9 : Hid (Below w.heap.size w w9) := (on1 B8.out (two_allocs hb9)); have X9 := X8.on (two_allocs hb9); have X9a := X9.c0; have X9b := X9.c1; have X9c := X9.c2; have X9l := cell_lt X9.c0; have R9 : Hid (BRow (w9.setCell ⟨O, i3, none⟩ (.int .u8 c)) O (zs.set i3 c ++ [77])) := (by show BRow _ _ _; rw [← set_app hi3z]; exact hO.1.set i3 c); have hOx : w.heap.size < O := (by have := hO.2; rw [alloc_size] at this; omega); have hOq : qb < O := (by have := hO.2; rw [alloc_size] at this; omega); have hcO : w9.cell? ⟨O, i3, none⟩ = some (.int .u8 ((zs ++ [77]).getD i3 0)) := (brow_at hO.1 (by simp; omega)); have hfO := free_of hO.1 i3; have B9' : Hid (Below w.heap.size w (w9.setCell ⟨O, i3, none⟩ (.int .u8 c))) := (B9.out.setCell (Nat.le_of_lt hOx) _); have X9' : Box (w9.setCell ⟨O, i3, none⟩ (.int .u8 c)) w.heap.size (.int .i64 n) (.slice sp ds.length dc) (.slice cp k kc) := (X9.set (by omega)); have X9'a := X9'.c0; have X9'b := X9'.c1; have X9'c := X9'.c2; have S9 : Hid (Src (w9.setCell ⟨O, i3, none⟩ (.int .u8 c)) (some ⟨qb, qo, none⟩) zs) := ((S8.out.below (two_allocs hb9)).else (fun b off e => by simp at e; omega)); have hq9 : qb < (w9.setCell ⟨O, i3, none⟩ (.int .u8 c)).heap.size := (by rw [setCell_size]; have := (two_allocs hb9).size; omega))
    | (clear M7; go_at_call 10; refine (c3 _ O B9'.out R9.out).mono ?_; rintro e w10 ⟨m3, p3, pl3, pc3, r3, rl3, rc3, rfl, hb10⟩; have B10 : Hid (Below w.heap.size w w10) := (on1 B9'.out (hb10)); have X10 := X9'.on (hb10); have X10a := X10.c0; have X10b := X10.c1; have X10c := X10.c2; have X10l := cell_lt X10.c0; have R10 : Hid (BRow w10 O (zs.set i3 c ++ [77])) := (R9.out.on hb10); have S10 : Hid (Src w10 (some ⟨qb, qo, none⟩) zs) := (S9.out.below hb10); have hq10 : qb < w10.heap.size := (by have := hb10.size; omega); have hO10 : O < w10.heap.size := (at_lt R10.out))
    | (clear M8; go_at_call 13; refine (cT _ _ d (S10.out.below (alloc_below _ _))).mono ?_; rintro e w11 ⟨P, rfl, hP, hb11⟩; have B11 : Hid (Below w.heap.size w w11) := (on1 B10.out (two_allocs hb11)); have X11 := X10.on (two_allocs hb11); have X11a := X11.c0; have X11b := X11.c1; have X11c := X11.c2; have X11l := cell_lt X11.c0; have R11 : Hid (BRow (w11.setCell ⟨P, p4, none⟩ (.int .u8 200)) P (zs.set p4 200 ++ [77])) := (by show BRow _ _ _; rw [← set_app h4z]; exact hP.1.set p4 200); have hPx : w.heap.size < P := (by have := hP.2; rw [alloc_size] at this; omega); have hPq : qb < P := (by have := hP.2; rw [alloc_size] at this; omega); have hPO : O < P := (by have := hP.2; rw [alloc_size] at this; omega); have hcP : w11.cell? ⟨P, p4, none⟩ = some (.int .u8 ((zs ++ [77]).getD p4 0)) := (brow_at hP.1 (by simp; omega)); have hfP := free_of hP.1 p4; have B11' : Hid (Below w.heap.size w (w11.setCell ⟨P, p4, none⟩ (.int .u8 200))) := (B11.out.setCell (Nat.le_of_lt hPx) _); have X11' : Box (w11.setCell ⟨P, p4, none⟩ (.int .u8 200)) w.heap.size (.int .i64 n) (.slice sp ds.length dc) (.slice cp k kc) := (X11.set (by omega)); have X11'a := X11'.c0; have X11'b := X11'.c1; have X11'c := X11'.c2; have S11 : Hid (Src (w11.setCell ⟨P, p4, none⟩ (.int .u8 200)) (some ⟨qb, qo, none⟩) zs) := ((S10.out.below (two_allocs hb11)).else (fun b off e => by simp at e; omega)); have T11 : Hid (BRow (w11.setCell ⟨P, p4, none⟩ (.int .u8 200)) O (zs.set i3 c ++ [77])) := (by show BRow _ _ _; unfold BRow; rw [heap_else _ _ _ _ _ (by omega)]; exact R10.out.on (two_allocs hb11)))
    | (clear M9; go_at_call 10; refine (c4 _ P B11'.out R11.out).mono ?_; rintro e w12 ⟨rfl, hb12⟩; have B12 : Hid (Below w.heap.size w w12) := (on1 B11'.out (hb12)); have X12 := X11'.on (hb12); have X12a := X12.c0; have X12b := X12.c1; have X12c := X12.c2; have X12l := cell_lt X12.c0; have T12 : Hid (BRow w12 O (zs.set i3 c ++ [77])) := (T11.out.on hb12); have S12 : Hid (Src w12 (some ⟨qb, qo, none⟩) zs) := (S11.out.below hb12))
    | (go_at_call 14; refine (cS _ O _ d T12.out S12.out).mono ?_; rintro e w13 ⟨rfl, hb13⟩; have B13 : Hid (Below w.heap.size w w13) := (on1 B12.out (hb13)); have X13 := X12.on (hb13); have X13a := X13.c0; have X13b := X13.c1; have X13c := X13.c2; have X13l := cell_lt X13.c0))
  go_ret
  exact ⟨rfl, B13.out⟩
set_option maxHeartbeats 8000000 in
theorem spoilt_yn {w : World} (hE : Env3 w) {n : Int} {sp cp : Option Addr} {ds cs : List Int} {dc k kc : Nat} (h : ImgA w sp ds dc cp cs k kc) {c a : Int} (hcb : byte c) (hab : 0 ≤ a ∧ a ≤ 65535) (hg : ¬ (5000 < ds.length ∨ 1100 < k)) (ho : okI n ds cs k = true) {j i3 : Nat} (hj : Int.tmod a ((putB n ds cs k).length : Int) = j) (hi3 : Int.tmod a 3 = i3) (hs : (putB n ds cs k).set i3 c = putB n ds cs k) (hk : k = 0) :
    Calls Tryd.prog 4 #[.agg #[.int .i64 n, .slice sp ds.length dc, .slice cp k kc], .int .u8 c, .int .u16 a] w fun e w' => e = .returned (.bool true) ∧ Below w.heap.size w w' := by
  have cA : ∀ W, Below w.heap.size w W → _ := fun W hW => alive_any W (hE.on hW)
  have cG := fun W => great_any (w := W) n sp ds.length dc cp k kc
  rw [decide_eq_false hg] at cG
  have cK : ∀ W, Below w.heap.size w W → _ := fun W hW => Check_img (size := n) (hE.on hW).two.env (h.i.on hW) dc kc
  rw [ho] at cK
  have cP : ∀ W, Below w.heap.size w W → _ := fun W hW => put_src (size := n) (hE.on hW).two.env (h.i.on hW) dc kc h.dn ho
  have hpl := putB_len n ds cs k
  have hcl := h.i.len
  have hpb := putB_bs h.i.db h.i.cb ho
  have hgp := get_put hcl ho
  have hsc := fun hk : 0 < k => spoilt_code hcl ho hk
  have hzn : 9 ≤ (putB n ds cs k).length ∧ (putB n ds cs k).length ≤ 20000 := by omega
  have hz4 : 0 < k → 4 ≤ (putB n ds cs k).length := fun _ => by omega
  have hkI : ¬ ((0 : Int) < k) := by omega
  generalize putB n ds cs k = zs at *
  clear hpl hcl
  have hjl : j < zs.length := by
    have h1 := Int.tmod_lt_of_pos a (show (0 : Int) < zs.length by omega)
    omega
  have hi3l : i3 < 3 := by
    have h1 := Int.tmod_lt_of_pos a (show (0 : Int) < 3 by omega)
    omega
  have c1 : ∀ W q d, Below w.heap.size w W → Src W q (zs ++ [c]) → zs.length + 1 ≤ d → _ := fun W q d hW hS hd => get_none (hE.on hW).two.env hS (hpb.app (Bs.cons hcb Bs.nil)) d (by simpa using hd) (spoilt_more hgp c)
  rw [show (zs ++ [c]).length = zs.length + 1 by simp] at c1
  have c2 : ∀ W q d, Below w.heap.size w W → Src W q zs → zs.length ≤ d → _ := fun W q d hW hS hd => get_none (hE.on hW).two.env (hS.take j) (hpb.take j) d (by simp; omega) (spoilt_less hgp hjl)
  rw [show (zs.take j).length = j by simp; omega] at c2
  have c3 : ∀ W O, Below w.heap.size w W → BRow W O (zs.set i3 c ++ [77]) → _ := fun W O hW hS => get_yes (hE.on hW).two.env (src_row hS) (hpb.set i3 hcb) (zs.length + 1) (by simp) (by rw [hs]; exact hgp)
  rw [show (zs.set i3 c).length = zs.length by simp] at c3
  have cT : ∀ W q d, Src W q zs → _ := fun W q d hS => twin_o hS (by omega) d
  have cS : ∀ W O q d, BRow W O (zs.set i3 c ++ [77]) → Src W q zs → _ := fun W O q d hO hS => same_any (src_row hO) hS (by simp; omega) (by omega) (zs.length + 1) d
  rw [show (zs.set i3 c).length = zs.length by simp, show decide (zs.set i3 c = zs) = true from decide_eq_true hs] at cS
  have h9I : ¬ ((zs.length : Int) < 9) := by omega
  have h3I : (i3 : Int) < zs.length := by omega
  have hi3z : i3 < zs.length := by omega
  clear hpb hgp hsc hs hz4 hk
  have hb0 : Below w.heap.size w (w.alloc (.cells #[.int .i64 n, .slice sp ds.length dc, .slice cp k kc] 26)) := alloc_below _ _
  have X : Box (w.alloc (.cells #[.int .i64 n, .slice sp ds.length dc, .slice cp k kc] 26)) w.heap.size (.int .i64 n) (.slice sp ds.length dc) (.slice cp k kc) := Box.new w _ _ _ _
  clear hE h ho hg
  have M0 := True.intro
  have M1 := True.intro
  have M2 := True.intro
  have M3 := True.intro
  have M4 := True.intro
  have M5 := True.intro
  have M6 := True.intro
  have M7 := True.intro
  have M8 := True.intro
  have M9 := True.intro
  go_enter Tryd.func4, Tryd.ntmps4
  go_wp2_with (first
    | (clear M0; go_at_call 9; refine (cA _ (by first | exact hb0 | exact on1 hb0 (alloc_below _ _) | exact on1 (on1 hb0 (alloc_below _ _)) (alloc_below _ _))).mono ?_; rintro e w1 ⟨rfl, hb1⟩; have L1 := (show Below _ _ w1 from hb1); have B1 : Hid (Below w.heap.size w w1) := (by first | exact on1 hb0 hb1 | exact on1 hb0 (two_allocs hb1) | exact on1 (on1 hb0 (alloc_below _ _)) (two_allocs hb1)); have X1 : Box w1 (w.heap.size) (.int .i64 n) (.slice sp ds.length dc) (.slice cp k kc) := (by first | exact X.on hb1 | exact X.on (two_allocs hb1) | exact (X.on (alloc_below _ _)).on (two_allocs hb1)); have X1a := X1.c0; have X1b := X1.c1; have X1c := X1.c2; have X1l := cell_lt X1.c0)
    | (go_at_call 12; refine (cG _).mono ?_; rintro e w2 ⟨rfl, hb2⟩; have L2 := (show Below _ _ w2 from hb2); have B2 : Hid (Below w.heap.size w w2) := (by first | exact on1 B1.out hb2 | exact on1 B1.out (two_allocs hb2) | exact on1 (on1 B1.out (alloc_below _ _)) (two_allocs hb2)); have X2 : Box w2 (w.heap.size) (.int .i64 n) (.slice sp ds.length dc) (.slice cp k kc) := (by first | exact X1.on hb2 | exact X1.on (two_allocs hb2) | exact (X1.on (alloc_below _ _)).on (two_allocs hb2)); have X2a := X2.c0; have X2b := X2.c1; have X2c := X2.c2; have X2l := cell_lt X2.c0)
    | (go_at_call 8; refine (cK _ (by first | exact B2.out | exact on1 B2.out (alloc_below _ _) | exact on1 (on1 B2.out (alloc_below _ _)) (alloc_below _ _))).mono ?_; rintro e w3 ⟨rfl, hb3⟩; have L3 := (show Below _ _ w3 from hb3); have B3 : Hid (Below w.heap.size w w3) := (by first | exact on1 B2.out hb3 | exact on1 B2.out (two_allocs hb3) | exact on1 (on1 B2.out (alloc_below _ _)) (two_allocs hb3)); have X3 : Box w3 (w.heap.size) (.int .i64 n) (.slice sp ds.length dc) (.slice cp k kc) := (by first | exact X2.on hb3 | exact X2.on (two_allocs hb3) | exact (X2.on (alloc_below _ _)).on (two_allocs hb3)); have X3a := X3.c0; have X3b := X3.c1; have X3c := X3.c2; have X3l := cell_lt X3.c0)
    | (go_at_call 7; refine (cP _ (by first | exact B3.out | exact on1 B3.out (alloc_below _ _) | exact on1 (on1 B3.out (alloc_below _ _)) (alloc_below _ _))).mono ?_; rintro e w4 ⟨q, d, rfl, hS, hb4⟩; have L4 := (show Below _ _ w4 from hb4); have B4 : Hid (Below w.heap.size w w4) := (by first | exact on1 B3.out hb4 | exact on1 B3.out (two_allocs hb4) | exact on1 (on1 B3.out (alloc_below _ _)) (two_allocs hb4)); have X4 : Box w4 (w.heap.size) (.int .i64 n) (.slice sp ds.length dc) (.slice cp k kc) := (by first | exact X3.on hb4 | exact X3.on (two_allocs hb4) | exact (X3.on (alloc_below _ _)).on (two_allocs hb4)); have X4a := X4.c0; have X4b := X4.c1; have X4c := X4.c2; have X4l := cell_lt X4.c0; obtain ⟨qb, qo, rfl⟩ := hS.1.some_of (by omega); have hqb := cell_lt (nine_at hS.1 hzn.1 0 (by omega)); have S4 : Hid (Src w4 (some ⟨qb, qo, none⟩) zs) := hS.1; have hdd := hS.2.1; clear hS; have hjd : j ≤ d := (by omega))
    | (at_builtin; clear M2; refine wpList_more rfl (.const (.slice none 0 0)) (.tmp 43) rfl (zs := zs) (xs := []) (n := 0) (B := w4.heap.size) rfl rfl (World.ownsRow_nil _ _ _ _) S4.out (fun h => by cases h) (by omega) (Nat.le_refl _) ?_; intro v5 u5 O5 G5; have b5 : Below w4.heap.size w4 u5 := (nil_grown G5.out); have O5' : Hid (u5.ownsRow w4.heap.size 5 1 v5 zs.length (byt zs)) := (own_nil O5.out))
    | (at_builtin; clear M3; refine wpList_byte rfl (.tmp 44) (.tmp 46) rfl (t := zs.length + 1) (B := w4.heap.size) rfl rfl (owns_below O5'.out (alloc_below _ _)) (Src.one _ _ _) rfl (by omega) (by have := b5.size; rw [alloc_size]; omega) ?_; intro p6 c6 u6 O6 G6; have b6 : Below w4.heap.size w4 u6 := (b5.trans (((alloc_below u5 _).mono b5.size).trans (own_grown (owns_below O5'.out (alloc_below _ _)) G6.out (by have := b5.size; rw [alloc_size]; omega)))); have B4' : Hid (Below w.heap.size w u6) := (on1 B4.out b6); have X4' := X4.on b6; have X4'a := X4'.c0; have X4'b := X4'.c1; have X4'c := X4'.c2; have X4'l := cell_lt X4'.c0; have S4' : Hid (Src u6 (some ⟨qb, qo, none⟩) zs) := (S4.out.below b6); have hqb' : qb < u6.heap.size := (by have := b6.size; omega))
    | (clear M4; go_at_call 10; refine (c1 _ p6 c6 B4'.out (src_own O6.out) (owns_cap O6.out).2).mono ?_; rintro e w7 ⟨rfl, hb7⟩; have B7 : Hid (Below w.heap.size w w7) := (on1 B4'.out (hb7)); have X7 := X4'.on (hb7); have X7a := X7.c0; have X7b := X7.c1; have X7c := X7.c2; have X7l := cell_lt X7.c0; have S7 : Hid (Src w7 (some ⟨qb, qo, none⟩) zs) := (S4'.out.below hb7); have hq7 : qb < w7.heap.size := (by have := hb7.size; omega))
    | (clear M5; go_at_call 10; refine (c2 _ _ d (on1 B7.out (alloc_below _ _)) (S7.out.below (alloc_below _ _)) hdd).mono ?_; rintro e w8 ⟨rfl, hb8⟩; have B8 : Hid (Below w.heap.size w w8) := (on1 B7.out (two_allocs hb8)); have X8 := X7.on (two_allocs hb8); have X8a := X8.c0; have X8b := X8.c1; have X8c := X8.c2; have X8l := cell_lt X8.c0; have S8 : Hid (Src w8 (some ⟨qb, qo, none⟩) zs) := (S7.out.below (two_allocs hb8)); have hq8 : qb < w8.heap.size := (by have := (two_allocs hb8).size; omega))
    | (clear M6; go_at_call 13; refine (cT _ _ d (S8.out.below (alloc_below _ _))).mono ?_; rintro e w9 ⟨O, rfl, hO, hb9⟩; have B9 : Hid (Below w.heap.size w w9) := (on1 B8.out (two_allocs hb9)); have X9 := X8.on (two_allocs hb9); have X9a := X9.c0; have X9b := X9.c1; have X9c := X9.c2; have X9l := cell_lt X9.c0; have R9 : Hid (BRow (w9.setCell ⟨O, i3, none⟩ (.int .u8 c)) O (zs.set i3 c ++ [77])) := (by show BRow _ _ _; rw [← set_app hi3z]; exact hO.1.set i3 c); have hOx : w.heap.size < O := (by have := hO.2; rw [alloc_size] at this; omega); have hOq : qb < O := (by have := hO.2; rw [alloc_size] at this; omega); have hcO : w9.cell? ⟨O, i3, none⟩ = some (.int .u8 ((zs ++ [77]).getD i3 0)) := (brow_at hO.1 (by simp; omega)); have hfO := free_of hO.1 i3; have B9' : Hid (Below w.heap.size w (w9.setCell ⟨O, i3, none⟩ (.int .u8 c))) := (B9.out.setCell (Nat.le_of_lt hOx) _); have X9' : Box (w9.setCell ⟨O, i3, none⟩ (.int .u8 c)) w.heap.size (.int .i64 n) (.slice sp ds.length dc) (.slice cp k kc) := (X9.set (by omega)); have X9'a := X9'.c0; have X9'b := X9'.c1; have X9'c := X9'.c2; have S9 : Hid (Src (w9.setCell ⟨O, i3, none⟩ (.int .u8 c)) (some ⟨qb, qo, none⟩) zs) := ((S8.out.below (two_allocs hb9)).else (fun b off e => by simp at e; omega)); have hq9 : qb < (w9.setCell ⟨O, i3, none⟩ (.int .u8 c)).heap.size := (by rw [setCell_size]; have := (two_allocs hb9).size; omega))
    | (clear M7; go_at_call 10; refine (c3 _ O B9'.out R9.out).mono ?_; rintro e w10 ⟨m3, p3, pl3, pc3, r3, rl3, rc3, rfl, hb10⟩; have B10 : Hid (Below w.heap.size w w10) := (on1 B9'.out (hb10)); have X10 := X9'.on (hb10); have X10a := X10.c0; have X10b := X10.c1; have X10c := X10.c2; have X10l := cell_lt X10.c0; have R10 : Hid (BRow w10 O (zs.set i3 c ++ [77])) := (R9.out.on hb10); have S10 : Hid (Src w10 (some ⟨qb, qo, none⟩) zs) := (S9.out.below hb10); have hq10 : qb < w10.heap.size := (by have := hb10.size; omega); have hO10 : O < w10.heap.size := (at_lt R10.out))
    | (clear M8; go_at_call 13; refine (cT _ _ d (S10.out.below (alloc_below _ _))).mono ?_; rintro e w11 ⟨P, rfl, hP, hb11⟩; have B11 : Hid (Below w.heap.size w w11) := (on1 B10.out (two_allocs hb11)); have X11 := X10.on (two_allocs hb11); have X11a := X11.c0; have X11b := X11.c1; have X11c := X11.c2; have X11l := cell_lt X11.c0; have T12 : Hid (BRow w11 O (zs.set i3 c ++ [77])) := (R10.out.on (two_allocs hb11)); have S12 : Hid (Src w11 (some ⟨qb, qo, none⟩) zs) := (S10.out.below (two_allocs hb11)))
    | (go_at_call 14; refine (cS _ O _ d T12.out S12.out).mono ?_; rintro e w13 ⟨rfl, hb13⟩; have B13 : Hid (Below w.heap.size w w13) := (on1 B11.out (hb13)); have X13 := X11.on (hb13); have X13a := X13.c0; have X13b := X13.c1; have X13c := X13.c2; have X13l := cell_lt X13.c0))
  go_ret
  exact ⟨rfl, B13.out⟩
set_option maxHeartbeats 8000000 in
theorem spoilt_ny {w : World} (hE : Env3 w) {n : Int} {sp cp : Option Addr} {ds cs : List Int} {dc k kc : Nat} (h : ImgA w sp ds dc cp cs k kc) {c a : Int} (hcb : byte c) (hab : 0 ≤ a ∧ a ≤ 65535) (hg : ¬ (5000 < ds.length ∨ 1100 < k)) (ho : okI n ds cs k = true) {j i3 : Nat} (hj : Int.tmod a ((putB n ds cs k).length : Int) = j) (hi3 : Int.tmod a 3 = i3) (hs : (putB n ds cs k).set i3 c ≠ putB n ds cs k) (hk : 0 < k) :
    Calls Tryd.prog 4 #[.agg #[.int .i64 n, .slice sp ds.length dc, .slice cp k kc], .int .u8 c, .int .u16 a] w fun e w' => e = .returned (.bool true) ∧ Below w.heap.size w w' := by
  have cA : ∀ W, Below w.heap.size w W → _ := fun W hW => alive_any W (hE.on hW)
  have cG := fun W => great_any (w := W) n sp ds.length dc cp k kc
  rw [decide_eq_false hg] at cG
  have cK : ∀ W, Below w.heap.size w W → _ := fun W hW => Check_img (size := n) (hE.on hW).two.env (h.i.on hW) dc kc
  rw [ho] at cK
  have cP : ∀ W, Below w.heap.size w W → _ := fun W hW => put_src (size := n) (hE.on hW).two.env (h.i.on hW) dc kc h.dn ho
  have hpl := putB_len n ds cs k
  have hcl := h.i.len
  have hpb := putB_bs h.i.db h.i.cb ho
  have hgp := get_put hcl ho
  have hsc := fun hk : 0 < k => spoilt_code hcl ho hk
  have hzn : 9 ≤ (putB n ds cs k).length ∧ (putB n ds cs k).length ≤ 20000 := by omega
  have hz4 : 0 < k → 4 ≤ (putB n ds cs k).length := fun _ => by omega
  have hkI : (0 : Int) < k := by omega
  generalize putB n ds cs k = zs at *
  clear hpl hcl
  have hjl : j < zs.length := by
    have h1 := Int.tmod_lt_of_pos a (show (0 : Int) < zs.length by omega)
    omega
  have hi3l : i3 < 3 := by
    have h1 := Int.tmod_lt_of_pos a (show (0 : Int) < 3 by omega)
    omega
  have c1 : ∀ W q d, Below w.heap.size w W → Src W q (zs ++ [c]) → zs.length + 1 ≤ d → _ := fun W q d hW hS hd => get_none (hE.on hW).two.env hS (hpb.app (Bs.cons hcb Bs.nil)) d (by simpa using hd) (spoilt_more hgp c)
  rw [show (zs ++ [c]).length = zs.length + 1 by simp] at c1
  have c2 : ∀ W q d, Below w.heap.size w W → Src W q zs → zs.length ≤ d → _ := fun W q d hW hS hd => get_none (hE.on hW).two.env (hS.take j) (hpb.take j) d (by simp; omega) (spoilt_less hgp hjl)
  rw [show (zs.take j).length = j by simp; omega] at c2
  have c3 : ∀ W O, Below w.heap.size w W → BRow W O (zs.set i3 c ++ [77]) → _ := fun W O hW hS => get_none (hE.on hW).two.env (src_row hS) (hpb.set i3 hcb) (zs.length + 1) (by simp) (spoilt_mark hgp hi3l hs)
  rw [show (zs.set i3 c).length = zs.length by simp] at c3
  have c4 : ∀ W O, Below w.heap.size w W → BRow W O (zs.set (zs.length - 4) 200 ++ [77]) → _ := fun W O hW hS => get_none (hE.on hW).two.env (src_row hS) (hpb.set _ ⟨by decide, by decide⟩) (zs.length + 1) (by simp) (hsc hk)
  rw [show (zs.set (zs.length - 4) 200).length = zs.length by simp] at c4
  have cT : ∀ W q d, Src W q zs → _ := fun W q d hS => twin_o hS (by omega) d
  have cS : ∀ W O q d, BRow W O (zs.set i3 c ++ [77]) → Src W q zs → _ := fun W O q d hO hS => same_any (src_row hO) hS (by simp; omega) (by omega) (zs.length + 1) d
  rw [show (zs.set i3 c).length = zs.length by simp, show decide (zs.set i3 c = zs) = false from decide_eq_false hs] at cS
  have h9I : ¬ ((zs.length : Int) < 9) := by omega
  have h3I : (i3 : Int) < zs.length := by omega
  have hi3z : i3 < zs.length := by omega
  have hm4 : ((zs.length : Int) - 4) = ((zs.length - 4 : Nat) : Int) := by have := hz4 hk; omega
  have h4I : ((zs.length - 4 : Nat) : Int) < zs.length := by have := hz4 hk; omega
  have h4z : zs.length - 4 < zs.length := by have := hz4 hk; omega
  obtain ⟨p4, hp4⟩ : ∃ p4, zs.length - 4 = p4 := ⟨_, rfl⟩
  rw [hp4] at hm4 h4I h4z c4
  clear hp4
  clear hpb hgp hsc hs hz4 hk
  have hb0 : Below w.heap.size w (w.alloc (.cells #[.int .i64 n, .slice sp ds.length dc, .slice cp k kc] 26)) := alloc_below _ _
  have X : Box (w.alloc (.cells #[.int .i64 n, .slice sp ds.length dc, .slice cp k kc] 26)) w.heap.size (.int .i64 n) (.slice sp ds.length dc) (.slice cp k kc) := Box.new w _ _ _ _
  clear hE h ho hg
  have M0 := True.intro
  have M1 := True.intro
  have M2 := True.intro
  have M3 := True.intro
  have M4 := True.intro
  have M5 := True.intro
  have M6 := True.intro
  have M7 := True.intro
  have M8 := True.intro
  have M9 := True.intro
  go_enter Tryd.func4, Tryd.ntmps4
  go_wp2_with (first
    | (clear M0; go_at_call 9; refine (cA _ (by first | exact hb0 | exact on1 hb0 (alloc_below _ _) | exact on1 (on1 hb0 (alloc_below _ _)) (alloc_below _ _))).mono ?_; rintro e w1 ⟨rfl, hb1⟩; have L1 := (show Below _ _ w1 from hb1); have B1 : Hid (Below w.heap.size w w1) := (by first | exact on1 hb0 hb1 | exact on1 hb0 (two_allocs hb1) | exact on1 (on1 hb0 (alloc_below _ _)) (two_allocs hb1)); have X1 : Box w1 (w.heap.size) (.int .i64 n) (.slice sp ds.length dc) (.slice cp k kc) := (by first | exact X.on hb1 | exact X.on (two_allocs hb1) | exact (X.on (alloc_below _ _)).on (two_allocs hb1)); have X1a := X1.c0; have X1b := X1.c1; have X1c := X1.c2; have X1l := cell_lt X1.c0)
    | (go_at_call 12; refine (cG _).mono ?_; rintro e w2 ⟨rfl, hb2⟩; have L2 := (show Below _ _ w2 from hb2); have B2 : Hid (Below w.heap.size w w2) := (by first | exact on1 B1.out hb2 | exact on1 B1.out (two_allocs hb2) | exact on1 (on1 B1.out (alloc_below _ _)) (two_allocs hb2)); have X2 : Box w2 (w.heap.size) (.int .i64 n) (.slice sp ds.length dc) (.slice cp k kc) := (by first | exact X1.on hb2 | exact X1.on (two_allocs hb2) | exact (X1.on (alloc_below _ _)).on (two_allocs hb2)); have X2a := X2.c0; have X2b := X2.c1; have X2c := X2.c2; have X2l := cell_lt X2.c0)
    | (go_at_call 8; refine (cK _ (by first | exact B2.out | exact on1 B2.out (alloc_below _ _) | exact on1 (on1 B2.out (alloc_below _ _)) (alloc_below _ _))).mono ?_; rintro e w3 ⟨rfl, hb3⟩; have L3 := (show Below _ _ w3 from hb3); have B3 : Hid (Below w.heap.size w w3) := (by first | exact on1 B2.out hb3 | exact on1 B2.out (two_allocs hb3) | exact on1 (on1 B2.out (alloc_below _ _)) (two_allocs hb3)); have X3 : Box w3 (w.heap.size) (.int .i64 n) (.slice sp ds.length dc) (.slice cp k kc) := (by first | exact X2.on hb3 | exact X2.on (two_allocs hb3) | exact (X2.on (alloc_below _ _)).on (two_allocs hb3)); have X3a := X3.c0; have X3b := X3.c1; have X3c := X3.c2; have X3l := cell_lt X3.c0)
    | (go_at_call 7; refine (cP _ (by first | exact B3.out | exact on1 B3.out (alloc_below _ _) | exact on1 (on1 B3.out (alloc_below _ _)) (alloc_below _ _))).mono ?_; rintro e w4 ⟨q, d, rfl, hS, hb4⟩; have L4 := (show Below _ _ w4 from hb4); have B4 : Hid (Below w.heap.size w w4) := (by first | exact on1 B3.out hb4 | exact on1 B3.out (two_allocs hb4) | exact on1 (on1 B3.out (alloc_below _ _)) (two_allocs hb4)); have X4 : Box w4 (w.heap.size) (.int .i64 n) (.slice sp ds.length dc) (.slice cp k kc) := (by first | exact X3.on hb4 | exact X3.on (two_allocs hb4) | exact (X3.on (alloc_below _ _)).on (two_allocs hb4)); have X4a := X4.c0; have X4b := X4.c1; have X4c := X4.c2; have X4l := cell_lt X4.c0; obtain ⟨qb, qo, rfl⟩ := hS.1.some_of (by omega); have hqb := cell_lt (nine_at hS.1 hzn.1 0 (by omega)); have S4 : Hid (Src w4 (some ⟨qb, qo, none⟩) zs) := hS.1; have hdd := hS.2.1; clear hS; have hjd : j ≤ d := (by omega))
    | (at_builtin; clear M2; refine wpList_more rfl (.const (.slice none 0 0)) (.tmp 43) rfl (zs := zs) (xs := []) (n := 0) (B := w4.heap.size) rfl rfl (World.ownsRow_nil _ _ _ _) S4.out (fun h => by cases h) (by omega) (Nat.le_refl _) ?_; intro v5 u5 O5 G5; have b5 : Below w4.heap.size w4 u5 := (nil_grown G5.out); have O5' : Hid (u5.ownsRow w4.heap.size 5 1 v5 zs.length (byt zs)) := (own_nil O5.out))
    | (at_builtin; clear M3; refine wpList_byte rfl (.tmp 44) (.tmp 46) rfl (t := zs.length + 1) (B := w4.heap.size) rfl rfl (owns_below O5'.out (alloc_below _ _)) (Src.one _ _ _) rfl (by omega) (by have := b5.size; rw [alloc_size]; omega) ?_; intro p6 c6 u6 O6 G6; have b6 : Below w4.heap.size w4 u6 := (b5.trans (((alloc_below u5 _).mono b5.size).trans (own_grown (owns_below O5'.out (alloc_below _ _)) G6.out (by have := b5.size; rw [alloc_size]; omega)))); have B4' : Hid (Below w.heap.size w u6) := (on1 B4.out b6); have X4' := X4.on b6; have X4'a := X4'.c0; have X4'b := X4'.c1; have X4'c := X4'.c2; have X4'l := cell_lt X4'.c0; have S4' : Hid (Src u6 (some ⟨qb, qo, none⟩) zs) := (S4.out.below b6); have hqb' : qb < u6.heap.size := (by have := b6.size; omega))
    | (clear M4; go_at_call 10; refine (c1 _ p6 c6 B4'.out (src_own O6.out) (owns_cap O6.out).2).mono ?_; rintro e w7 ⟨rfl, hb7⟩; have B7 : Hid (Below w.heap.size w w7) := (on1 B4'.out (hb7)); have X7 := X4'.on (hb7); have X7a := X7.c0; have X7b := X7.c1; have X7c := X7.c2; have X7l := cell_lt X7.c0; have S7 : Hid (Src w7 (some ⟨qb, qo, none⟩) zs) := (S4'.out.below hb7); have hq7 : qb < w7.heap.size := (by have := hb7.size; omega))
    | (clear M5; go_at_call 10; refine (c2 _ _ d (on1 B7.out (alloc_below _ _)) (S7.out.below (alloc_below _ _)) hdd).mono ?_; rintro e w8 ⟨rfl, hb8⟩; have B8 : Hid (Below w.heap.size w w8) := (on1 B7.out (two_allocs hb8)); have X8 := X7.on (two_allocs hb8); have X8a := X8.c0; have X8b := X8.c1; have X8c := X8.c2; have X8l := cell_lt X8.c0; have S8 : Hid (Src w8 (some ⟨qb, qo, none⟩) zs) := (S7.out.below (two_allocs hb8)); have hq8 : qb < w8.heap.size := (by have := (two_allocs hb8).size; omega))
    | (clear M6; go_at_call 13; refine (cT _ _ d (S8.out.below (alloc_below _ _))).mono ?_; rintro e w9 ⟨O, rfl, hO, hb9⟩; have B9 : Hid (Below w.heap.size w w9) := (on1 B8.out (two_allocs hb9)); have X9 := X8.on (two_allocs hb9); have X9a := X9.c0; have X9b := X9.c1; have X9c := X9.c2; have X9l := cell_lt X9.c0; have R9 : Hid (BRow (w9.setCell ⟨O, i3, none⟩ (.int .u8 c)) O (zs.set i3 c ++ [77])) := (by show BRow _ _ _; rw [← set_app hi3z]; exact hO.1.set i3 c); have hOx : w.heap.size < O := (by have := hO.2; rw [alloc_size] at this; omega); have hOq : qb < O := (by have := hO.2; rw [alloc_size] at this; omega); have hcO : w9.cell? ⟨O, i3, none⟩ = some (.int .u8 ((zs ++ [77]).getD i3 0)) := (brow_at hO.1 (by simp; omega)); have hfO := free_of hO.1 i3; have B9' : Hid (Below w.heap.size w (w9.setCell ⟨O, i3, none⟩ (.int .u8 c))) := (B9.out.setCell (Nat.le_of_lt hOx) _); have X9' : Box (w9.setCell ⟨O, i3, none⟩ (.int .u8 c)) w.heap.size (.int .i64 n) (.slice sp ds.length dc) (.slice cp k kc) := (X9.set (by omega)); have X9'a := X9'.c0; have X9'b := X9'.c1; have X9'c := X9'.c2; have S9 : Hid (Src (w9.setCell ⟨O, i3, none⟩ (.int .u8 c)) (some ⟨qb, qo, none⟩) zs) := ((S8.out.below (two_allocs hb9)).else (fun b off e => by simp at e; omega)); have hq9 : qb < (w9.setCell ⟨O, i3, none⟩ (.int .u8 c)).heap.size := (by rw [setCell_size]; have := (two_allocs hb9).size; omega))
    | (clear M7; go_at_call 10; refine (c3 _ O B9'.out R9.out).mono ?_; rintro e w10 ⟨rfl, hb10⟩; have B10 : Hid (Below w.heap.size w w10) := (on1 B9'.out (hb10)); have X10 := X9'.on (hb10); have X10a := X10.c0; have X10b := X10.c1; have X10c := X10.c2; have X10l := cell_lt X10.c0; have R10 : Hid (BRow w10 O (zs.set i3 c ++ [77])) := (R9.out.on hb10); have S10 : Hid (Src w10 (some ⟨qb, qo, none⟩) zs) := (S9.out.below hb10); have hq10 : qb < w10.heap.size := (by have := hb10.size; omega); have hO10 : O < w10.heap.size := (at_lt R10.out))
    | (clear M8; go_at_call 13; refine (cT _ _ d (S10.out.below (alloc_below _ _))).mono ?_; rintro e w11 ⟨P, rfl, hP, hb11⟩; have B11 : Hid (Below w.heap.size w w11) := (on1 B10.out (two_allocs hb11)); have X11 := X10.on (two_allocs hb11); have X11a := X11.c0; have X11b := X11.c1; have X11c := X11.c2; have X11l := cell_lt X11.c0; have R11 : Hid (BRow (w11.setCell ⟨P, p4, none⟩ (.int .u8 200)) P (zs.set p4 200 ++ [77])) := (by show BRow _ _ _; rw [← set_app h4z]; exact hP.1.set p4 200); have hPx : w.heap.size < P := (by have := hP.2; rw [alloc_size] at this; omega); have hPq : qb < P := (by have := hP.2; rw [alloc_size] at this; omega); have hPO : O < P := (by have := hP.2; rw [alloc_size] at this; omega); have hcP : w11.cell? ⟨P, p4, none⟩ = some (.int .u8 ((zs ++ [77]).getD p4 0)) := (brow_at hP.1 (by simp; omega)); have hfP := free_of hP.1 p4; have B11' : Hid (Below w.heap.size w (w11.setCell ⟨P, p4, none⟩ (.int .u8 200))) := (B11.out.setCell (Nat.le_of_lt hPx) _); have X11' : Box (w11.setCell ⟨P, p4, none⟩ (.int .u8 200)) w.heap.size (.int .i64 n) (.slice sp ds.length dc) (.slice cp k kc) := (X11.set (by omega)); have X11'a := X11'.c0; have X11'b := X11'.c1; have X11'c := X11'.c2; have S11 : Hid (Src (w11.setCell ⟨P, p4, none⟩ (.int .u8 200)) (some ⟨qb, qo, none⟩) zs) := ((S10.out.below (two_allocs hb11)).else (fun b off e => by simp at e; omega)); have T11 : Hid (BRow (w11.setCell ⟨P, p4, none⟩ (.int .u8 200)) O (zs.set i3 c ++ [77])) := (by show BRow _ _ _; unfold BRow; rw [heap_else _ _ _ _ _ (by omega)]; exact R10.out.on (two_allocs hb11)))
    | (clear M9; go_at_call 10; refine (c4 _ P B11'.out R11.out).mono ?_; rintro e w12 ⟨rfl, hb12⟩; have B12 : Hid (Below w.heap.size w w12) := (on1 B11'.out (hb12)); have X12 := X11'.on (hb12); have X12a := X12.c0; have X12b := X12.c1; have X12c := X12.c2; have X12l := cell_lt X12.c0; have T12 : Hid (BRow w12 O (zs.set i3 c ++ [77])) := (T11.out.on hb12); have S12 : Hid (Src w12 (some ⟨qb, qo, none⟩) zs) := (S11.out.below hb12))
    | (go_at_call 14; refine (cS _ O _ d T12.out S12.out).mono ?_; rintro e w13 ⟨rfl, hb13⟩; have B13 : Hid (Below w.heap.size w w13) := (on1 B12.out (hb13)); have X13 := X12.on (hb13); have X13a := X13.c0; have X13b := X13.c1; have X13c := X13.c2; have X13l := cell_lt X13.c0))
  go_ret
  exact ⟨rfl, B13.out⟩
set_option maxHeartbeats 8000000 in
theorem spoilt_nn {w : World} (hE : Env3 w) {n : Int} {sp cp : Option Addr} {ds cs : List Int} {dc k kc : Nat} (h : ImgA w sp ds dc cp cs k kc) {c a : Int} (hcb : byte c) (hab : 0 ≤ a ∧ a ≤ 65535) (hg : ¬ (5000 < ds.length ∨ 1100 < k)) (ho : okI n ds cs k = true) {j i3 : Nat} (hj : Int.tmod a ((putB n ds cs k).length : Int) = j) (hi3 : Int.tmod a 3 = i3) (hs : (putB n ds cs k).set i3 c ≠ putB n ds cs k) (hk : k = 0) :
    Calls Tryd.prog 4 #[.agg #[.int .i64 n, .slice sp ds.length dc, .slice cp k kc], .int .u8 c, .int .u16 a] w fun e w' => e = .returned (.bool true) ∧ Below w.heap.size w w' := by
  have cA : ∀ W, Below w.heap.size w W → _ := fun W hW => alive_any W (hE.on hW)
  have cG := fun W => great_any (w := W) n sp ds.length dc cp k kc
  rw [decide_eq_false hg] at cG
  have cK : ∀ W, Below w.heap.size w W → _ := fun W hW => Check_img (size := n) (hE.on hW).two.env (h.i.on hW) dc kc
  rw [ho] at cK
  have cP : ∀ W, Below w.heap.size w W → _ := fun W hW => put_src (size := n) (hE.on hW).two.env (h.i.on hW) dc kc h.dn ho
  have hpl := putB_len n ds cs k
  have hcl := h.i.len
  have hpb := putB_bs h.i.db h.i.cb ho
  have hgp := get_put hcl ho
  have hsc := fun hk : 0 < k => spoilt_code hcl ho hk
  have hzn : 9 ≤ (putB n ds cs k).length ∧ (putB n ds cs k).length ≤ 20000 := by omega
  have hz4 : 0 < k → 4 ≤ (putB n ds cs k).length := fun _ => by omega
  have hkI : ¬ ((0 : Int) < k) := by omega
  generalize putB n ds cs k = zs at *
  clear hpl hcl
  have hjl : j < zs.length := by
    have h1 := Int.tmod_lt_of_pos a (show (0 : Int) < zs.length by omega)
    omega
  have hi3l : i3 < 3 := by
    have h1 := Int.tmod_lt_of_pos a (show (0 : Int) < 3 by omega)
    omega
  have c1 : ∀ W q d, Below w.heap.size w W → Src W q (zs ++ [c]) → zs.length + 1 ≤ d → _ := fun W q d hW hS hd => get_none (hE.on hW).two.env hS (hpb.app (Bs.cons hcb Bs.nil)) d (by simpa using hd) (spoilt_more hgp c)
  rw [show (zs ++ [c]).length = zs.length + 1 by simp] at c1
  have c2 : ∀ W q d, Below w.heap.size w W → Src W q zs → zs.length ≤ d → _ := fun W q d hW hS hd => get_none (hE.on hW).two.env (hS.take j) (hpb.take j) d (by simp; omega) (spoilt_less hgp hjl)
  rw [show (zs.take j).length = j by simp; omega] at c2
  have c3 : ∀ W O, Below w.heap.size w W → BRow W O (zs.set i3 c ++ [77]) → _ := fun W O hW hS => get_none (hE.on hW).two.env (src_row hS) (hpb.set i3 hcb) (zs.length + 1) (by simp) (spoilt_mark hgp hi3l hs)
  rw [show (zs.set i3 c).length = zs.length by simp] at c3
  have cT : ∀ W q d, Src W q zs → _ := fun W q d hS => twin_o hS (by omega) d
  have cS : ∀ W O q d, BRow W O (zs.set i3 c ++ [77]) → Src W q zs → _ := fun W O q d hO hS => same_any (src_row hO) hS (by simp; omega) (by omega) (zs.length + 1) d
  rw [show (zs.set i3 c).length = zs.length by simp, show decide (zs.set i3 c = zs) = false from decide_eq_false hs] at cS
  have h9I : ¬ ((zs.length : Int) < 9) := by omega
  have h3I : (i3 : Int) < zs.length := by omega
  have hi3z : i3 < zs.length := by omega
  clear hpb hgp hsc hs hz4 hk
  have hb0 : Below w.heap.size w (w.alloc (.cells #[.int .i64 n, .slice sp ds.length dc, .slice cp k kc] 26)) := alloc_below _ _
  have X : Box (w.alloc (.cells #[.int .i64 n, .slice sp ds.length dc, .slice cp k kc] 26)) w.heap.size (.int .i64 n) (.slice sp ds.length dc) (.slice cp k kc) := Box.new w _ _ _ _
  clear hE h ho hg
  have M0 := True.intro
  have M1 := True.intro
  have M2 := True.intro
  have M3 := True.intro
  have M4 := True.intro
  have M5 := True.intro
  have M6 := True.intro
  have M7 := True.intro
  have M8 := True.intro
  have M9 := True.intro
  go_enter Tryd.func4, Tryd.ntmps4
  go_wp2_with (first
    | (clear M0; go_at_call 9; refine (cA _ (by first | exact hb0 | exact on1 hb0 (alloc_below _ _) | exact on1 (on1 hb0 (alloc_below _ _)) (alloc_below _ _))).mono ?_; rintro e w1 ⟨rfl, hb1⟩; have L1 := (show Below _ _ w1 from hb1); have B1 : Hid (Below w.heap.size w w1) := (by first | exact on1 hb0 hb1 | exact on1 hb0 (two_allocs hb1) | exact on1 (on1 hb0 (alloc_below _ _)) (two_allocs hb1)); have X1 : Box w1 (w.heap.size) (.int .i64 n) (.slice sp ds.length dc) (.slice cp k kc) := (by first | exact X.on hb1 | exact X.on (two_allocs hb1) | exact (X.on (alloc_below _ _)).on (two_allocs hb1)); have X1a := X1.c0; have X1b := X1.c1; have X1c := X1.c2; have X1l := cell_lt X1.c0)
    | (go_at_call 12; refine (cG _).mono ?_; rintro e w2 ⟨rfl, hb2⟩; have L2 := (show Below _ _ w2 from hb2); have B2 : Hid (Below w.heap.size w w2) := (by first | exact on1 B1.out hb2 | exact on1 B1.out (two_allocs hb2) | exact on1 (on1 B1.out (alloc_below _ _)) (two_allocs hb2)); have X2 : Box w2 (w.heap.size) (.int .i64 n) (.slice sp ds.length dc) (.slice cp k kc) := (by first | exact X1.on hb2 | exact X1.on (two_allocs hb2) | exact (X1.on (alloc_below _ _)).on (two_allocs hb2)); have X2a := X2.c0; have X2b := X2.c1; have X2c := X2.c2; have X2l := cell_lt X2.c0)
    | (go_at_call 8; refine (cK _ (by first | exact B2.out | exact on1 B2.out (alloc_below _ _) | exact on1 (on1 B2.out (alloc_below _ _)) (alloc_below _ _))).mono ?_; rintro e w3 ⟨rfl, hb3⟩; have L3 := (show Below _ _ w3 from hb3); have B3 : Hid (Below w.heap.size w w3) := (by first | exact on1 B2.out hb3 | exact on1 B2.out (two_allocs hb3) | exact on1 (on1 B2.out (alloc_below _ _)) (two_allocs hb3)); have X3 : Box w3 (w.heap.size) (.int .i64 n) (.slice sp ds.length dc) (.slice cp k kc) := (by first | exact X2.on hb3 | exact X2.on (two_allocs hb3) | exact (X2.on (alloc_below _ _)).on (two_allocs hb3)); have X3a := X3.c0; have X3b := X3.c1; have X3c := X3.c2; have X3l := cell_lt X3.c0)
    | (go_at_call 7; refine (cP _ (by first | exact B3.out | exact on1 B3.out (alloc_below _ _) | exact on1 (on1 B3.out (alloc_below _ _)) (alloc_below _ _))).mono ?_; rintro e w4 ⟨q, d, rfl, hS, hb4⟩; have L4 := (show Below _ _ w4 from hb4); have B4 : Hid (Below w.heap.size w w4) := (by first | exact on1 B3.out hb4 | exact on1 B3.out (two_allocs hb4) | exact on1 (on1 B3.out (alloc_below _ _)) (two_allocs hb4)); have X4 : Box w4 (w.heap.size) (.int .i64 n) (.slice sp ds.length dc) (.slice cp k kc) := (by first | exact X3.on hb4 | exact X3.on (two_allocs hb4) | exact (X3.on (alloc_below _ _)).on (two_allocs hb4)); have X4a := X4.c0; have X4b := X4.c1; have X4c := X4.c2; have X4l := cell_lt X4.c0; obtain ⟨qb, qo, rfl⟩ := hS.1.some_of (by omega); have hqb := cell_lt (nine_at hS.1 hzn.1 0 (by omega)); have S4 : Hid (Src w4 (some ⟨qb, qo, none⟩) zs) := hS.1; have hdd := hS.2.1; clear hS; have hjd : j ≤ d := (by omega))
    | (at_builtin; clear M2; refine wpList_more rfl (.const (.slice none 0 0)) (.tmp 43) rfl (zs := zs) (xs := []) (n := 0) (B := w4.heap.size) rfl rfl (World.ownsRow_nil _ _ _ _) S4.out (fun h => by cases h) (by omega) (Nat.le_refl _) ?_; intro v5 u5 O5 G5; have b5 : Below w4.heap.size w4 u5 := (nil_grown G5.out); have O5' : Hid (u5.ownsRow w4.heap.size 5 1 v5 zs.length (byt zs)) := (own_nil O5.out))
    | (at_builtin; clear M3; refine wpList_byte rfl (.tmp 44) (.tmp 46) rfl (t := zs.length + 1) (B := w4.heap.size) rfl rfl (owns_below O5'.out (alloc_below _ _)) (Src.one _ _ _) rfl (by omega) (by have := b5.size; rw [alloc_size]; omega) ?_; intro p6 c6 u6 O6 G6; have b6 : Below w4.heap.size w4 u6 := (b5.trans (((alloc_below u5 _).mono b5.size).trans (own_grown (owns_below O5'.out (alloc_below _ _)) G6.out (by have := b5.size; rw [alloc_size]; omega)))); have B4' : Hid (Below w.heap.size w u6) := (on1 B4.out b6); have X4' := X4.on b6; have X4'a := X4'.c0; have X4'b := X4'.c1; have X4'c := X4'.c2; have X4'l := cell_lt X4'.c0; have S4' : Hid (Src u6 (some ⟨qb, qo, none⟩) zs) := (S4.out.below b6); have hqb' : qb < u6.heap.size := (by have := b6.size; omega))
    | (clear M4; go_at_call 10; refine (c1 _ p6 c6 B4'.out (src_own O6.out) (owns_cap O6.out).2).mono ?_; rintro e w7 ⟨rfl, hb7⟩; have B7 : Hid (Below w.heap.size w w7) := (on1 B4'.out (hb7)); have X7 := X4'.on (hb7); have X7a := X7.c0; have X7b := X7.c1; have X7c := X7.c2; have X7l := cell_lt X7.c0; have S7 : Hid (Src w7 (some ⟨qb, qo, none⟩) zs) := (S4'.out.below hb7); have hq7 : qb < w7.heap.size := (by have := hb7.size; omega))
    | (clear M5; go_at_call 10; refine (c2 _ _ d (on1 B7.out (alloc_below _ _)) (S7.out.below (alloc_below _ _)) hdd).mono ?_; rintro e w8 ⟨rfl, hb8⟩; have B8 : Hid (Below w.heap.size w w8) := (on1 B7.out (two_allocs hb8)); have X8 := X7.on (two_allocs hb8); have X8a := X8.c0; have X8b := X8.c1; have X8c := X8.c2; have X8l := cell_lt X8.c0; have S8 : Hid (Src w8 (some ⟨qb, qo, none⟩) zs) := (S7.out.below (two_allocs hb8)); have hq8 : qb < w8.heap.size := (by have := (two_allocs hb8).size; omega))
    | (clear M6; go_at_call 13; refine (cT _ _ d (S8.out.below (alloc_below _ _))).mono ?_; rintro e w9 ⟨O, rfl, hO, hb9⟩; have B9 : Hid (Below w.heap.size w w9) := (on1 B8.out (two_allocs hb9)); have X9 := X8.on (two_allocs hb9); have X9a := X9.c0; have X9b := X9.c1; have X9c := X9.c2; have X9l := cell_lt X9.c0; have R9 : Hid (BRow (w9.setCell ⟨O, i3, none⟩ (.int .u8 c)) O (zs.set i3 c ++ [77])) := (by show BRow _ _ _; rw [← set_app hi3z]; exact hO.1.set i3 c); have hOx : w.heap.size < O := (by have := hO.2; rw [alloc_size] at this; omega); have hOq : qb < O := (by have := hO.2; rw [alloc_size] at this; omega); have hcO : w9.cell? ⟨O, i3, none⟩ = some (.int .u8 ((zs ++ [77]).getD i3 0)) := (brow_at hO.1 (by simp; omega)); have hfO := free_of hO.1 i3; have B9' : Hid (Below w.heap.size w (w9.setCell ⟨O, i3, none⟩ (.int .u8 c))) := (B9.out.setCell (Nat.le_of_lt hOx) _); have X9' : Box (w9.setCell ⟨O, i3, none⟩ (.int .u8 c)) w.heap.size (.int .i64 n) (.slice sp ds.length dc) (.slice cp k kc) := (X9.set (by omega)); have X9'a := X9'.c0; have X9'b := X9'.c1; have X9'c := X9'.c2; have S9 : Hid (Src (w9.setCell ⟨O, i3, none⟩ (.int .u8 c)) (some ⟨qb, qo, none⟩) zs) := ((S8.out.below (two_allocs hb9)).else (fun b off e => by simp at e; omega)); have hq9 : qb < (w9.setCell ⟨O, i3, none⟩ (.int .u8 c)).heap.size := (by rw [setCell_size]; have := (two_allocs hb9).size; omega))
    | (clear M7; go_at_call 10; refine (c3 _ O B9'.out R9.out).mono ?_; rintro e w10 ⟨rfl, hb10⟩; have B10 : Hid (Below w.heap.size w w10) := (on1 B9'.out (hb10)); have X10 := X9'.on (hb10); have X10a := X10.c0; have X10b := X10.c1; have X10c := X10.c2; have X10l := cell_lt X10.c0; have R10 : Hid (BRow w10 O (zs.set i3 c ++ [77])) := (R9.out.on hb10); have S10 : Hid (Src w10 (some ⟨qb, qo, none⟩) zs) := (S9.out.below hb10); have hq10 : qb < w10.heap.size := (by have := hb10.size; omega); have hO10 : O < w10.heap.size := (at_lt R10.out))
    | (clear M8; go_at_call 13; refine (cT _ _ d (S10.out.below (alloc_below _ _))).mono ?_; rintro e w11 ⟨P, rfl, hP, hb11⟩; have B11 : Hid (Below w.heap.size w w11) := (on1 B10.out (two_allocs hb11)); have X11 := X10.on (two_allocs hb11); have X11a := X11.c0; have X11b := X11.c1; have X11c := X11.c2; have X11l := cell_lt X11.c0; have T12 : Hid (BRow w11 O (zs.set i3 c ++ [77])) := (R10.out.on (two_allocs hb11)); have S12 : Hid (Src w11 (some ⟨qb, qo, none⟩) zs) := (S10.out.below (two_allocs hb11)))
    | (go_at_call 14; refine (cS _ O _ d T12.out S12.out).mono ?_; rintro e w13 ⟨rfl, hb13⟩; have B13 : Hid (Below w.heap.size w w13) := (on1 B11.out (hb13)); have X13 := X11.on (hb13); have X13a := X13.c0; have X13b := X13.c1; have X13c := X13.c2; have X13l := cell_lt X13.c0))
  go_ret
  exact ⟨rfl, B13.out⟩
theorem spoilt_any {w : World} (hE : Env3 w) {n : Int} {sp cp : Option Addr} {ds cs : List Int} {dc k kc : Nat} (h : ImgA w sp ds dc cp cs k kc) {c a : Int} (hcb : byte c) (hab : 0 ≤ a ∧ a ≤ 65535) :
    Calls Tryd.prog 4 #[.agg #[.int .i64 n, .slice sp ds.length dc, .slice cp k kc], .int .u8 c, .int .u16 a] w fun e w' => e = .returned (.bool true) ∧ Below w.heap.size w w' := by
  by_cases hg : 5000 < ds.length ∨ 1100 < k
  · exact spoilt_a hE h hcb hab hg
  · cases ho : okI n ds cs k with
    | false => exact spoilt_b hE h hcb hab hg ho
    | true =>
      have hpl := putB_len n ds cs k
      obtain ⟨j, hj⟩ : ∃ j : Nat, Int.tmod a ((putB n ds cs k).length : Int) = j := ⟨(Int.tmod a ((putB n ds cs k).length : Int)).toNat, by have := Int.tmod_nonneg ((putB n ds cs k).length : Int) hab.1; omega⟩
      obtain ⟨i3, hi3⟩ : ∃ i3 : Nat, Int.tmod a 3 = i3 := ⟨(Int.tmod a 3).toNat, by have := Int.tmod_nonneg 3 hab.1; omega⟩
      by_cases hs : (putB n ds cs k).set i3 c = putB n ds cs k
      · by_cases hk : 0 < k
        · exact spoilt_yy hE h hcb hab hg ho hj hi3 hs hk
        · exact spoilt_yn hE h hcb hab hg ho hj hi3 hs (by omega)
      · by_cases hk : 0 < k
        · exact spoilt_ny hE h hcb hab hg ho hj hi3 hs hk
        · exact spoilt_nn hE h hcb hab hg ho hj hi3 hs (by omega)
end Go.Proofs.YtcjghnnliepjjabDoor
