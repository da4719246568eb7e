/- 'ImagesUnlike', walked. -/
import Derived.Test.YtcjghnnliepjjabDoorBoxes
namespace Go.Proofs.YtcjghnnliepjjabDoor
open Go Go.RowKit
set_option maxRecDepth 100000
set_option linter.unusedVariables false
set_option maxHeartbeats 8000000 in
theorem unlike_yes {w : World} (hE : Env3 w) {n n' : Int} {sp sp' cp cp' : Option Addr} {ds ds' cs cs' : List Int} {dc dc' k k' kc kc' : Nat} (h : ImgA w sp ds dc cp cs k kc) (h' : ImgA w sp' ds' dc' cp' cs' k' kc') (hg : ¬ (5000 < ds.length ∨ 1100 < k)) (hg' : ¬ (5000 < ds'.length ∨ 1100 < k')) (ho : okI n ds cs k = true) (ho' : okI n' ds' cs' k' = true) :
    Calls Tryd.prog 5 #[.agg #[.int .i64 n, .slice sp ds.length dc, .slice cp k kc], .agg #[.int .i64 n', .slice sp' ds'.length dc', .slice cp' k' kc']] w fun e w' => e = .returned (.bool true) ∧ Below w.heap.size w w' := by
  have cG := fun W => great_any (w := W) n sp ds.length dc cp k kc
  have cG' := fun W => great_any (w := W) n' sp' ds'.length dc' cp' k' kc'
  rw [decide_eq_false hg] at cG
  rw [decide_eq_false hg'] at cG'
  have cK : ∀ W, Below w.heap.size w W → _ := fun W hW => Check_img (size := n) (hE.on hW).two.env (h.i.on hW) dc kc
  have cK' : ∀ W, Below w.heap.size w W → _ := fun W hW => Check_img (size := n') (hE.on hW).two.env (h'.i.on hW) dc' kc'
  rw [ho] at cK
  rw [ho'] at cK'
  have cP : ∀ W, Below w.heap.size w W → _ := fun W hW => put_src (size := n) (hE.on hW).two.env (h.i.on hW) dc kc h.dn ho
  have cP' : ∀ W, Below w.heap.size w W → _ := fun W hW => put_src (size := n') (hE.on hW).two.env (h'.i.on hW) dc' kc' h'.dn ho'
  have hl := putB_len n ds cs k
  have hl' := putB_len n' ds' cs' k'
  have hcl := h.i.len
  have hcl' := h'.i.len
  have cA : ∀ W, Below w.heap.size w W → _ := fun W hW => alive_any W (hE.on hW)
  obtain ⟨r, hr⟩ : ∃ r, decide (putB n ds cs k = putB n' ds' cs' k') = r := ⟨_, rfl⟩
  have hr' : sameB n n' ds ds' cs cs' = r := by
    rw [← hr]
    cases hb : sameB n n' ds ds' cs cs' with
    | true => exact (decide_eq_true ((put_inj hcl hcl' ho ho').2 ((sameB_iff ..).1 hb))).symm
    | false => exact (decide_eq_false fun e => by rw [(sameB_iff ..).2 ((put_inj hcl hcl' ho ho').1 e)] at hb; cases hb).symm
  have cM : ∀ W, Below w.heap.size w W → _ := fun W hW => sameM_any (n := n) (n' := n') (h.i.on hW) (h'.i.on hW) (by omega) (by omega) (by omega) (by omega) dc dc' kc kc'
  rw [hr'] at cM
  have cS : ∀ W q d q' d', Src W q (putB n ds cs k) → Src W q' (putB n' ds' cs' k') → _ := fun W q d q' d' h1 h2 => same_any h1 h2 (by omega) (by omega) d d'
  rw [hr] at cS
  have hb0 : Below w.heap.size w ((w.alloc (.cells #[.int .i64 n, .slice sp ds.length dc, .slice cp k kc] 26)).alloc (.cells #[.int .i64 n', .slice sp' ds'.length dc', .slice cp' k' kc'] 26)) := on1 (alloc_below _ _) (alloc_below _ _)
  generalize putB n ds cs k = zs at *
  generalize putB n' ds' cs' k' = zs' at *
  clear hE h h' hg hg' ho ho' hl hl' hcl hcl' hr hr'
  have X : Box ((w.alloc (.cells #[.int .i64 n, .slice sp ds.length dc, .slice cp k kc] 26)).alloc (.cells #[.int .i64 n', .slice sp' ds'.length dc', .slice cp' k' kc'] 26)) w.heap.size (.int .i64 n) (.slice sp ds.length dc) (.slice cp k kc) := (Box.new w _ _ _ _).on (alloc_below _ _)
  have Y : Box ((w.alloc (.cells #[.int .i64 n, .slice sp ds.length dc, .slice cp k kc] 26)).alloc (.cells #[.int .i64 n', .slice sp' ds'.length dc', .slice cp' k' kc'] 26)) (w.heap.size + 1) (.int .i64 n') (.slice sp' ds'.length dc') (.slice cp' k' kc') := by
    have := Box.new (w.alloc (.cells #[.int .i64 n, .slice sp ds.length dc, .slice cp k kc] 26)) (.int .i64 n') (.slice sp' ds'.length dc') (.slice cp' k' kc') 26
    rwa [alloc_size] at this
  have M1 := True.intro
  have M2 := True.intro
  have M3 := True.intro
  have M4 := True.intro
  have M5 := True.intro
  have M6 := True.intro
  go_enter Tryd.func5, Tryd.ntmps5
  go_wp2_with (first
    | (go_at_call 9; refine (cA _ (by first | exact hb0 | exact on1 hb0 (alloc_below _ _) | exact on1 (on1 hb0 (alloc_below _ _)) (alloc_below _ _))).mono ?_; rintro e w1 ⟨rfl, hb1⟩; have L1 := (show Below _ _ w1 from hb1); have B1 : Hid (Below w.heap.size w w1) := (by first | exact on1 hb0 hb1 | exact on1 hb0 (two_allocs hb1) | exact on1 (on1 hb0 (alloc_below _ _)) (two_allocs hb1)); have X1 : Box w1 (w.heap.size) (.int .i64 n) (.slice sp ds.length dc) (.slice cp k kc) := (by first | exact X.on hb1 | exact X.on (two_allocs hb1) | exact (X.on (alloc_below _ _)).on (two_allocs hb1)); have X1a := X1.c0; have X1b := X1.c1; have X1c := X1.c2; have Y1 : Box w1 (w.heap.size + 1) (.int .i64 n') (.slice sp' ds'.length dc') (.slice cp' k' kc') := (by first | exact Y.on hb1 | exact Y.on (two_allocs hb1) | exact (Y.on (alloc_below _ _)).on (two_allocs hb1)); have Y1a := Y1.c0; have Y1b := Y1.c1; have Y1c := Y1.c2)
    | (clear M1; go_at_call 12; refine (cG _).mono ?_; rintro e w2 ⟨rfl, hb2⟩; have L2 := (show Below _ _ w2 from hb2); have B2 : Hid (Below w.heap.size w w2) := (by first | exact on1 B1.out hb2 | exact on1 B1.out (two_allocs hb2) | exact on1 (on1 B1.out (alloc_below _ _)) (two_allocs hb2)); have X2 : Box w2 (w.heap.size) (.int .i64 n) (.slice sp ds.length dc) (.slice cp k kc) := (by first | exact X1.on hb2 | exact X1.on (two_allocs hb2) | exact (X1.on (alloc_below _ _)).on (two_allocs hb2)); have X2a := X2.c0; have X2b := X2.c1; have X2c := X2.c2; have Y2 : Box w2 (w.heap.size + 1) (.int .i64 n') (.slice sp' ds'.length dc') (.slice cp' k' kc') := (by first | exact Y1.on hb2 | exact Y1.on (two_allocs hb2) | exact (Y1.on (alloc_below _ _)).on (two_allocs hb2)); have Y2a := Y2.c0; have Y2b := Y2.c1; have Y2c := Y2.c2)
    | (clear M2; go_at_call 12; refine (cG' _).mono ?_; rintro e w3 ⟨rfl, hb3⟩; have L3 := (show Below _ _ w3 from hb3); have B3 : Hid (Below w.heap.size w w3) := (by first | exact on1 B2.out hb3 | exact on1 B2.out (two_allocs hb3) | exact on1 (on1 B2.out (alloc_below _ _)) (two_allocs hb3)); have X3 : Box w3 (w.heap.size) (.int .i64 n) (.slice sp ds.length dc) (.slice cp k kc) := (by first | exact X2.on hb3 | exact X2.on (two_allocs hb3) | exact (X2.on (alloc_below _ _)).on (two_allocs hb3)); have X3a := X3.c0; have X3b := X3.c1; have X3c := X3.c2; have Y3 : Box w3 (w.heap.size + 1) (.int .i64 n') (.slice sp' ds'.length dc') (.slice cp' k' kc') := (by first | exact Y2.on hb3 | exact Y2.on (two_allocs hb3) | exact (Y2.on (alloc_below _ _)).on (two_allocs hb3)); have Y3a := Y3.c0; have Y3b := Y3.c1; have Y3c := Y3.c2)
    | (clear M3; go_at_call 8; refine (cK _ (by first | exact B3.out | exact on1 B3.out (alloc_below _ _) | exact on1 (on1 B3.out (alloc_below _ _)) (alloc_below _ _))).mono ?_; rintro e w4 ⟨rfl, hb4⟩; have L4 := (show Below _ _ w4 from hb4); have B4 : Hid (Below w.heap.size w w4) := (by first | exact on1 B3.out hb4 | exact on1 B3.out (two_allocs hb4) | exact on1 (on1 B3.out (alloc_below _ _)) (two_allocs hb4)); have X4 : Box w4 (w.heap.size) (.int .i64 n) (.slice sp ds.length dc) (.slice cp k kc) := (by first | exact X3.on hb4 | exact X3.on (two_allocs hb4) | exact (X3.on (alloc_below _ _)).on (two_allocs hb4)); have X4a := X4.c0; have X4b := X4.c1; have X4c := X4.c2; have Y4 : Box w4 (w.heap.size + 1) (.int .i64 n') (.slice sp' ds'.length dc') (.slice cp' k' kc') := (by first | exact Y3.on hb4 | exact Y3.on (two_allocs hb4) | exact (Y3.on (alloc_below _ _)).on (two_allocs hb4)); have Y4a := Y4.c0; have Y4b := Y4.c1; have Y4c := Y4.c2)
    | (clear M4; go_at_call 8; refine (cK' _ (by first | exact B4.out | exact on1 B4.out (alloc_below _ _) | exact on1 (on1 B4.out (alloc_below _ _)) (alloc_below _ _))).mono ?_; rintro e w5 ⟨rfl, hb5⟩; have L5 := (show Below _ _ w5 from hb5); have B5 : Hid (Below w.heap.size w w5) := (by first | exact on1 B4.out hb5 | exact on1 B4.out (two_allocs hb5) | exact on1 (on1 B4.out (alloc_below _ _)) (two_allocs hb5)); have X5 : Box w5 (w.heap.size) (.int .i64 n) (.slice sp ds.length dc) (.slice cp k kc) := (by first | exact X4.on hb5 | exact X4.on (two_allocs hb5) | exact (X4.on (alloc_below _ _)).on (two_allocs hb5)); have X5a := X5.c0; have X5b := X5.c1; have X5c := X5.c2; have Y5 : Box w5 (w.heap.size + 1) (.int .i64 n') (.slice sp' ds'.length dc') (.slice cp' k' kc') := (by first | exact Y4.on hb5 | exact Y4.on (two_allocs hb5) | exact (Y4.on (alloc_below _ _)).on (two_allocs hb5)); have Y5a := Y5.c0; have Y5b := Y5.c1; have Y5c := Y5.c2)
    | (clear M5; go_at_call 7; refine (cP _ (by first | exact B5.out | exact on1 B5.out (alloc_below _ _) | exact on1 (on1 B5.out (alloc_below _ _)) (alloc_below _ _))).mono ?_; rintro e w6 ⟨q, d, rfl, hS, hb6⟩; have L6 := (show Below _ _ w6 from hb6); have B6 : Hid (Below w.heap.size w w6) := (by first | exact on1 B5.out hb6 | exact on1 B5.out (two_allocs hb6) | exact on1 (on1 B5.out (alloc_below _ _)) (two_allocs hb6)); have X6 : Box w6 (w.heap.size) (.int .i64 n) (.slice sp ds.length dc) (.slice cp k kc) := (by first | exact X5.on hb6 | exact X5.on (two_allocs hb6) | exact (X5.on (alloc_below _ _)).on (two_allocs hb6)); have X6a := X6.c0; have X6b := X6.c1; have X6c := X6.c2; have Y6 : Box w6 (w.heap.size + 1) (.int .i64 n') (.slice sp' ds'.length dc') (.slice cp' k' kc') := (by first | exact Y5.on hb6 | exact Y5.on (two_allocs hb6) | exact (Y5.on (alloc_below _ _)).on (two_allocs hb6)); have Y6a := Y6.c0; have Y6b := Y6.c1; have Y6c := Y6.c2; have S6 : Hid (Src w6 q zs) := hS.1; clear hS)
    | (clear M6; go_at_call 7; refine (cP' _ (by first | exact B6.out | exact on1 B6.out (alloc_below _ _) | exact on1 (on1 B6.out (alloc_below _ _)) (alloc_below _ _))).mono ?_; rintro e w7 ⟨q', d', rfl, hS', hb7⟩; have L7 := (show Below _ _ w7 from hb7); have B7 : Hid (Below w.heap.size w w7) := (by first | exact on1 B6.out hb7 | exact on1 B6.out (two_allocs hb7) | exact on1 (on1 B6.out (alloc_below _ _)) (two_allocs hb7)); have X7 : Box w7 (w.heap.size) (.int .i64 n) (.slice sp ds.length dc) (.slice cp k kc) := (by first | exact X6.on hb7 | exact X6.on (two_allocs hb7) | exact (X6.on (alloc_below _ _)).on (two_allocs hb7)); have X7a := X7.c0; have X7b := X7.c1; have X7c := X7.c2; have Y7 : Box w7 (w.heap.size + 1) (.int .i64 n') (.slice sp' ds'.length dc') (.slice cp' k' kc') := (by first | exact Y6.on hb7 | exact Y6.on (two_allocs hb7) | exact (Y6.on (alloc_below _ _)).on (two_allocs hb7)); have Y7a := Y7.c0; have Y7b := Y7.c1; have Y7c := Y7.c2; have S7 : Hid (Src w7 q zs) := (S6.out.below hb7); have S7' : Hid (Src w7 q' zs') := hS'.1; clear hS'))
  have BD : Hid (Below w.heap.size w w7.drew) := B7.out.drew
  have hD : Below w7.heap.size w7 w7.drew := (Below.refl _ _).drew
  have XD := X7.on hD
  have YD := Y7.on hD
  have cSd := cS w7.drew q d q' d' (S7.out.below hD) (S7'.out.below hD)
  have cMd := cM w7.drew BD.out
  have M8 := True.intro
  have a0 := X7a
  have a1 := X7b
  have a2 := X7c
  have b0 := Y7a
  have b1 := Y7b
  have b2 := Y7c
  go_region_held3 (fun w' => (w'.cell? ⟨w.heap.size, 0, none⟩ = some (.int .i64 n) ∧ w'.cell? ⟨w.heap.size, 1, none⟩ = some (.slice sp ds.length dc) ∧ w'.cell? ⟨w.heap.size, 2, none⟩ = some (.slice cp k kc)) ∧ (w'.cell? ⟨w.heap.size + 1, 0, none⟩ = some (.int .i64 n') ∧ w'.cell? ⟨w.heap.size + 1, 1, none⟩ = some (.slice sp' ds'.length dc') ∧ w'.cell? ⟨w.heap.size + 1, 2, none⟩ = some (.slice cp' k' kc'))) (go_keep) (first
    | (go_at_call 14; clear M8; refine cSd.mono ?_; rintro e u1 ⟨rfl, hu1⟩; have V1 : Hid (Below w.heap.size w u1) := (on1 BD.out hu1); have X8 := XD.on hu1; have Y8 := YD.on hu1; have x80 := X8.c0; have x81 := X8.c1; have x82 := X8.c2; have y80 := Y8.c0; have y81 := Y8.c1; have y82 := Y8.c2; clear cSd cMd)
    | (go_at_call 11; refine (cM u1 V1.out).mono ?_; rintro e u2 ⟨rfl, hu2⟩; have V2 : Hid (Below w.heap.size w u2) := (on1 V1.out hu2); have X9 := X8.on hu2; have Y9 := Y8.on hu2; have x90 := X9.c0; have x91 := X9.c1; have x92 := X9.c2; have y90 := Y9.c0; have y91 := Y9.c1; have y92 := Y9.c2)
    | (go_at_call 11; refine cMd.mono ?_; rintro e t1 ⟨rfl, ht1⟩; have T1 : Hid (Below w.heap.size w t1) := (on1 BD.out ht1); have X8 := XD.on ht1; have Y8 := YD.on ht1; have x80 := X8.c0; have x81 := X8.c1; have x82 := X8.c2; have y80 := Y8.c0; have y81 := Y8.c1; have y82 := Y8.c2; have cS1 := cS t1 q d q' d' ((S7.out.below hD).below ht1) ((S7'.out.below hD).below ht1); clear cSd cMd M8)
    | (go_at_call 14; refine cS1.mono ?_; rintro e t2 ⟨rfl, ht2⟩; have V2 : Hid (Below w.heap.size w t2) := (on1 T1.out ht2); have X9 := X8.on ht2; have Y9 := Y8.on ht2; have x90 := X9.c0; have x91 := X9.c1; have x92 := X9.c2; have y90 := Y9.c0; have y91 := Y9.c1; have y92 := Y9.c2))
  all_goals
    go_wp2
    go_ret
    exact ⟨rfl, V2.out⟩
end Go.Proofs.YtcjghnnliepjjabDoor
