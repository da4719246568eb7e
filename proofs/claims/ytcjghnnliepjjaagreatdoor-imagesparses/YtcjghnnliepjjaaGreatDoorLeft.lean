/- Whether a twin is still what it was made of: it is. -/
import Derived.Test.YtcjghnnliepjjaaGreatDoorTwinI
namespace Go.Proofs.YtcjghnnliepjjaaGreatDoor
open Go Go.RowKit
set_option maxRecDepth 100000
set_option linter.unusedVariables false
theorem brow_at {w : World} {g : Nat} {zs : List Int} {i : Nat} (h : BRow w g zs) (hi : i < zs.length) : w.cell? ⟨g, i, none⟩ = some (.int .u8 (zs.getD i 0)) := by
  rw [cell_of h]
  simpa using byt_at zs i hi
theorem end_at (zs ys : List Int) (z : Int) {n : Nat} (h : zs.length = n) : (zs ++ z :: ys).getD n 0 = z := by
  subst h
  simp
theorem app_at {xs ys : List Int} {i : Nat} (h : i < xs.length) : (xs ++ ys).getD i 0 = xs.getD i 0 := by
  simp [List.getElem?_append_left h]
set_option maxHeartbeats 4000000 in
theorem left_any {w : World} {sp : Option Addr} {zs : List Int} {O n : Nat} (ht : BRow w O (zs ++ [77])) (hs : Src w sp zs) (hn : zs.length = n) (hl : n ≤ 100000) (c : Nat) :
    Calls Tryz.prog 23 #[.slice (some ⟨O, 0, none⟩) n (n + 1), .slice sp n c] w fun e w' => e = .returned (.bool true) ∧ Below w.heap.size w w' := by
  have HS : Hid (Src w sp zs) := hs
  have HT : Hid (BRow w O (zs ++ [77])) := ht
  have HN : Hid (zs.length = n) := hn
  have hcap : ¬ ((n : Int) + 1 ≤ n) := by omega
  clear hs ht hn
  go_enter Tryz.func23, Tryz.ntmps23
  go_wp2
  go_loopg [5] n (fun g s5 wx => ∃ i : Nat, i + g = n ∧ s5 = .int .i64 i ∧ Below w.heap.size w wx)
  case atStart => exact ⟨0, by omega, rfl, Below.refl _ _⟩
  case round =>
    obtain ⟨i, hig, rfl, hB⟩ := hrel
    cases gk with
    | zero =>
      have hlt : ¬ ((i : Int) < n) := by omega
      have he := brow_at (HT.out.on hB) (i := n) (by simp [HN.out])
      rw [end_at zs [] 77 HN.out] at he
      clear hig
      go_wp2
      go_ret
      exact ⟨rfl, hB⟩
    | succ g =>
      have hlt : (i : Int) < n := by omega
      obtain ⟨b1, o1, rfl, c1⟩ := HS.out (by rw [HN.out]; omega)
      have k1 := (hB.cell (p := ⟨b1, o1 + i, none⟩) (cell_lt (c1 i (by rw [HN.out]; omega)))).trans (c1 i (by rw [HN.out]; omega))
      have k2 := brow_at (HT.out.on hB) (i := i) (by simp [HN.out]; omega)
      rw [app_at (xs := zs) (by have := HN.out; omega)] at k2
      clear c1
      generalize zs.getD i 0 = z at *
      go_wp2
      go_quiet ((fail))
      go_wp2
      go_roundg g
      case measure => omega
      case rel => exact ⟨i + 1, by omega, by go_num, hB.trans ((below_drewN _ _).mono hB.size)⟩
set_option maxHeartbeats 4000000 in
theorem leftI_any {w : World} {sp : Option Addr} {cs : List Int} {O k : Nat} (ht : IRow w O (cs ++ [254, 0, 0, 0])) (hs : Src w sp cs) (hn : cs.length = 4 * k) (hl : k ≤ 100000) (c : Nat) :
    Calls Tryz.prog 38 #[.slice (some ⟨O, 0, none⟩) k (k + 1), .slice sp k c] w fun e w' => e = .returned (.bool true) ∧ Below w.heap.size w w' := by
  have HS : Hid (Src w sp cs) := hs
  have HT : Hid (IRow w O (cs ++ [254, 0, 0, 0])) := ht
  have HN : Hid (cs.length = 4 * k) := hn
  have hcap : ¬ ((k : Int) + 1 ≤ k) := by omega
  have HM : Hid ((cs ++ [254, 0, 0, 0]).length = 4 * (k + 1)) := by show _ = _; simp; omega
  have hne := neq_ins
  clear hs ht hn
  go_enter Tryz.func38, Tryz.ntmps38
  go_wp2
  go_loopg [5] k (fun g s5 wx => ∃ i : Nat, i + g = k ∧ s5 = .int .i64 i ∧ Below w.heap.size w wx)
  case atStart => exact ⟨0, by omega, rfl, Below.refl _ _⟩
  case round =>
    obtain ⟨i, hig, rfl, hB⟩ := hrel
    cases gk with
    | zero =>
      have hlt : ¬ ((i : Int) < k) := by omega
      obtain ⟨p0, p1, p2, p3⟩ := (HT.out.on hB).src.quad HM.out (show k < k + 1 by omega)
      have hh := HN.out
      rw [end_at cs [0, 0, 0] 254 hh] at p0
      simp only [Nat.zero_add] at p0 p1 p2 p3
      clear hig hh
      go_wp2
      go_ret
      exact ⟨rfl, on1 hB (alloc_below _ _)⟩
    | succ g =>
      have hlt : (i : Int) < k := by omega
      have hh := HN.out
      obtain ⟨b1, o1, rfl, hb1⟩ := HS.out.spot (by omega)
      obtain ⟨p0, p1, p2, p3⟩ := (HS.out.below hB).quad hh (show i < k by omega)
      obtain ⟨q0, q1, q2, q3⟩ := (HT.out.on hB).src.quad HM.out (show i < k + 1 by omega)
      rw [app_at (show 4 * i < cs.length by omega)] at q0
      rw [app_at (show 4 * i + 1 < cs.length by omega)] at q1
      rw [app_at (show 4 * i + 2 < cs.length by omega)] at q2
      rw [app_at (show 4 * i + 3 < cs.length by omega)] at q3
      simp only [Nat.zero_add] at q0 q1 q2 q3
      clear hh
      generalize cs.getD (4 * i) 0 = z0 at *
      generalize cs.getD (4 * i + 1) 0 = z1 at *
      generalize cs.getD (4 * i + 2) 0 = z2 at *
      generalize cs.getD (4 * i + 3) 0 = z3 at *
      go_wp2
      go_quiet ((fail))
      go_wp2
      go_roundg g
      case measure => omega
      case rel => exact ⟨i + 1, by omega, by go_num, hB.trans ((below_drewN _ _).mono hB.size)⟩
theorem Buts.drew {l : List Nat} {a b : World} (h : Buts l a b) : Buts l a b.drew := ⟨h.os, h.tape, h.output, h.size, h.block⟩
/-- the twin of an image -/
structure TwinM (w : World) (g h : Nat) (ds cs : List Int) : Prop where
  d : BRow w g (ds ++ [77])
  c : IRow w h (cs ++ [254, 0, 0, 0])
theorem TwinM.on {w w' : World} {g h : Nat} {ds cs : List Int} (t : TwinM w g h ds cs) (hb : Below w.heap.size w w') : TwinM w' g h ds cs := ⟨t.d.on hb, t.c.on hb⟩
theorem TwinM.set {w : World} {B g h i : Nat} {v : Value} {ds cs : List Int} (t : TwinM w g h ds cs) (hg : B ≠ g) (hh : B ≠ h) : TwinM (w.setCell ⟨B, i, none⟩ v) g h ds cs := ⟨by unfold BRow; rw [heap_else _ _ _ _ _ (Ne.symm hg)]; exact t.d, by unfold IRow; rw [heap_else _ _ _ _ _ (Ne.symm hh)]; exact t.c⟩
theorem src_twin {w : World} {g : Nat} {zs : List Int} (h : BRow w g (zs ++ [77])) : Src w (some ⟨g, 0, none⟩) zs := by
  have := h.src.take zs.length
  rwa [List.take_left'] at this
  rfl
theorem srcI_twin {w : World} {g : Nat} {zs ys : List Int} (h : IRow w g (zs ++ ys)) : Src w (some ⟨g, 0, none⟩) zs := by
  have := h.src.take zs.length
  rwa [List.take_left'] at this
  rfl
theorem TwinM.img {w : World} {g h : Nat} {ds cs : List Int} {k : Nat} (t : TwinM w g h ds cs) (hl : cs.length = 4 * k) (hd : Bs ds) (hc : Bs cs) : Img w (some ⟨g, 0, none⟩) ds (some ⟨h, 0, none⟩) cs k := ⟨src_twin t.d, srcI_twin t.c, hl, hd, hc⟩
set_option maxHeartbeats 4000000 in
theorem twinM_any {w : World} {n : Int} {sp cp : Option Addr} {ds cs : List Int} {k : Nat} (hI : Img w sp ds cp cs k) (hd : ds.length ≤ 100000) (hk : k ≤ 100000) (dc kc : Nat) :
    Calls Tryz.prog 9 #[.agg #[.int .i64 n, .slice sp ds.length dc, .slice cp k kc]] w fun e w' => ∃ g h, e = .returned (.agg #[.int .i64 n, .slice (some ⟨g, 0, none⟩) ds.length (ds.length + 1), .slice (some ⟨h, 0, none⟩) k (k + 1)]) ∧ (TwinM w' g h ds cs ∧ w.heap.size < g ∧ w.heap.size < h ∧ g ≠ h) ∧ Below w.heap.size w w' := by
  have cB : ∀ W, Below w.heap.size w W → _ := fun W hW => twin_any (hI.on hW).d rfl hd dc
  have cI : ∀ W, Below w.heap.size w W → _ := fun W hW => twinI_any (hI.on hW).c hI.len hk kc
  have X : Box (w.alloc (.cells #[.int .i64 n, .slice sp ds.length dc, .slice cp k kc] 25)) w.heap.size (.int .i64 n) (.slice sp ds.length dc) (.slice cp k kc) := Box.new w _ _ _ _
  have hb0 : Below w.heap.size w (w.alloc (.cells #[.int .i64 n, .slice sp ds.length dc, .slice cp k kc] 25)) := alloc_below _ _
  clear hI
  go_enter Tryz.func9, Tryz.ntmps9
  go_wp2_with fail
  have hb1 : Below w.heap.size w ((w.alloc (.cells #[.int .i64 n, .slice sp ds.length dc, .slice cp k kc] 25)).alloc (.cells #[.int .i64 0, .slice none 0 0, .slice none 0 0] 25)) := on1 hb0 (alloc_below _ _)
  have X1 := X.on (alloc_below _ (.cells #[.int .i64 0, .slice none 0 0, .slice none 0 0] 25))
  have Z1 := Box.new (w.alloc (.cells #[.int .i64 n, .slice sp ds.length dc, .slice cp k kc] 25)) (.int .i64 0) (.slice none 0 0) (.slice none 0 0) 25
  have hz := alloc_size w (.cells #[.int .i64 n, .slice sp ds.length dc, .slice cp k kc] 25)
  have hz2 := alloc_size (w.alloc (.cells #[.int .i64 n, .slice sp ds.length dc, .slice cp k kc] 25)) (.cells #[.int .i64 0, .slice none 0 0, .slice none 0 0] 25)
  rw [hz] at Z1 hz2
  have F1 := free_of (alloc_at (w.alloc (.cells #[.int .i64 n, .slice sp ds.length dc, .slice cp k kc] 25)) (.cells #[.int .i64 0, .slice none 0 0, .slice none 0 0] 25))
  rw [hz] at F1
  clear X hb0 hz
  generalize ((w.alloc (.cells #[.int .i64 n, .slice sp ds.length dc, .slice cp k kc] 25)).alloc (.cells #[.int .i64 0, .slice none 0 0, .slice none 0 0] 25)) = W1 at *
  have x0 := X1.c0
  have x1 := X1.c1
  have x2 := X1.c2
  have hD : Below W1.heap.size W1 W1.drew := (Below.refl _ _).drew
  have M0 := True.intro
  go_region_held3 (fun w' => w'.cell? ⟨w.heap.size, 0, none⟩ = some (.int .i64 n) ∧ w'.cell? ⟨w.heap.size, 1, none⟩ = some (.slice sp ds.length dc) ∧ w'.cell? ⟨w.heap.size, 2, none⟩ = some (.slice cp k kc)) (go_keep) (first
    | (go_at_call 19; clear M0; refine (cB W1.drew (on1 hb1 hD)).mono ?_; rintro e u1 ⟨_, rfl, ⟨R1, rfl⟩, hu1⟩; have V1 : Hid (Below W1.heap.size W1 u1) := (on1 hD hu1); have Y1 := X1.on V1.out; have y0 := Y1.c0; have y1 := Y1.c1; have y2 := Y1.c2; have RR : Hid (BRow u1 W1.heap.size (ds ++ [77])) := R1)
    | (go_at_call 28; refine (cI u1 (on1 hb1 V1.out)).mono ?_; rintro e u2 ⟨_, rfl, ⟨R2, rfl⟩, hu2⟩; have V2 : Hid (Below W1.heap.size W1 u2) := (on1 V1.out hu2); have Y2 := X1.on V2.out; have Z2 := Z1.on V2.out; have a0 := Z2.c0; have a1 := Z2.c1; have a2 := Z2.c2; have fr := fun i => ((bcell V2.out).2 _ i (cell_lt Z1.c0)).trans (F1 i); have t0 := Y2.c0; have t1 := Y2.c1; have t2 := Y2.c2; have TT : Hid (TwinM u2 W1.heap.size u1.heap.size ds cs) := ⟨RR.out.on hu2, R2⟩; have NN : Hid (w.heap.size < W1.heap.size ∧ w.heap.size < u1.heap.size ∧ W1.heap.size ≠ u1.heap.size) := ⟨by omega, by have := V1.out.size; omega, by have := at_lt RR.out; omega⟩))
  go_wp2
  rw [hz2] at TT NN
  · obtain ⟨W, hW, f0, f1, f2, fb⟩ := fin_set (a := .int .i64 n) (b := .slice (some ⟨w.heap.size + 1 + 1, 0, none⟩) ds.length (ds.length + 1)) (c := .slice (some ⟨u1.heap.size, 0, none⟩) k (k + 1)) (on1 hb1 V2.out) (Nat.le_succ _) a0 a1 a2
    have tw := ((TT.out.set (i := 0) (v := .int .i64 n) (B := w.heap.size + 1) (by omega) (by have := V1.out.size; omega)).set (i := 1) (v := .slice (some ⟨w.heap.size + 1 + 1, 0, none⟩) ds.length (ds.length + 1)) (B := w.heap.size + 1) (by omega) (by have := V1.out.size; omega)).set (i := 2) (v := .slice (some ⟨u1.heap.size, 0, none⟩) k (k + 1)) (B := w.heap.size + 1) (by omega) (by have := V1.out.size; omega)
    rw [← hW] at tw ⊢
    exact bodyPost_ret (v := .agg #[.int .i64 n, .slice (some ⟨w.heap.size + 1 + 1, 0, none⟩) ds.length (ds.length + 1), .slice (some ⟨u1.heap.size, 0, none⟩) k (k + 1)]) (by simp [results, Tryz.results9, go_sem, f0, f1, f2]) rfl ⟨_, _, rfl, ⟨tw, NN.out⟩, fb⟩
set_option maxHeartbeats 4000000 in
theorem leftM_any {w : World} {n : Int} {sp cp : Option Addr} {ds cs : List Int} {k g h : Nat} (hT : TwinM w g h ds cs) (hI : Img w sp ds cp cs k) (hd : ds.length ≤ 100000) (hk : k ≤ 100000) (dc kc : Nat) :
    Calls Tryz.prog 15 #[.agg #[.int .i64 n, .slice (some ⟨g, 0, none⟩) ds.length (ds.length + 1), .slice (some ⟨h, 0, none⟩) k (k + 1)], .agg #[.int .i64 n, .slice sp ds.length dc, .slice cp k kc]] w fun e w' => e = .returned (.bool true) ∧ Below w.heap.size w w' := by
  have cB : ∀ W, Below w.heap.size w W → _ := fun W hW => left_any (hT.on hW).d (hI.on hW).d rfl hd dc
  have cI : ∀ W, Below w.heap.size w W → _ := fun W hW => leftI_any (hT.on hW).c (hI.on hW).c hI.len hk kc
  have hb0 : Below w.heap.size w ((w.alloc (.cells #[.int .i64 n, .slice (some ⟨g, 0, none⟩) ds.length (ds.length + 1), .slice (some ⟨h, 0, none⟩) k (k + 1)] 25)).alloc (.cells #[.int .i64 n, .slice sp ds.length dc, .slice cp k kc] 25)) := on1 (alloc_below _ _) (alloc_below _ _)
  clear hI hT
  go_enter Tryz.func15, Tryz.ntmps15
  go_wp2_with (first
    | (go_at_call 23; refine (cB _ hb0).mono ?_; rintro e w1 ⟨rfl, hb1⟩; obtain ⟨x0, x1, x2⟩ := cells_box2 hb1; obtain ⟨y0, y1, y2⟩ := cells_box3 hb1)
    | (go_at_call 38; refine (cI _ (on1 hb0 hb1)).mono ?_; rintro e w2 ⟨rfl, hb2⟩))
  go_ret
  exact ⟨rfl, on1 (on1 hb0 hb1) hb2⟩
end Go.Proofs.YtcjghnnliepjjaaGreatDoor
