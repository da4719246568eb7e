/- An instruction is done that asks. -/
import Derived.Test.YtomccgodfimaiaaGreatDoorCDo3
namespace Go.Proofs.YtomccgodfimaiaaGreatDoor
open Go Go.RowKit
set_option maxRecDepth 100000
set_option linter.all false

set_option maxHeartbeats 8000000 in
theorem do_ask {w : World} {G : Kp} {cv : Value} {c : Cr} (h : CM w G cv c) {i : Nat} (hi : i < G.k) (hpc : c.pc = (i : Nat)) {o : Nat} (ho : o < 23) {x y z : Int} (hin : inAt c.cs i = .agg #[.int .u8 (o : Nat), .int .u8 x, .int .u8 y, .int .u8 z]) (hd : dvO o = .agg #[.nilFunc, .nilFunc, .func (.func 87) #[] #[]]) {v0 v1 v2 v3 v4 : Int} (hT : ∀ W, CM W G cv c → Calls Tryz.prog 87 #[.pointer (some ⟨G.p, 0, none⟩), .agg #[.int .u8 (o : Nat), .int .u8 x, .int .u8 y, .int .u8 z]] W fun e w' => e = .returned (.agg #[.int .u8 v0, .int .u32 v1, .int .u32 v2, .int .u32 v3, .int .i64 v4]) ∧ Below W.heap.size W w') :
    Calls Tryz.prog 40 #[.pointer (some ⟨G.p, 0, none⟩)] w fun e w' => e = .returned (.tuple #[.bool true, .agg #[.int .u8 v0, .int .u32 v1, .int .u32 v2, .int .u32 v3, .int .i64 v4], .int .i64 0]) ∧ CM w' G cv { c with pc := (c.pc + 1), asked := true } ∧ Buts (ownL G cv) w w' := by
  have hm := hmf
  have hI : ∀ W, CM W G cv c → Calls Tryz.prog 91 #[.pointer (some ⟨G.p, 0, none⟩)] W fun e w' => e = .returned (.agg #[.int .u8 (o : Nat), .int .u8 x, .int .u8 y, .int .u8 z]) ∧ Below W.heap.size W w' := fun W hW => by rw [← hin]; exact instr_yes hW hi hpc
  have hN : ∀ W, CM W G cv c → Calls Tryz.prog 92 #[.pointer (some ⟨G.p, 0, none⟩)] W fun e w' => e = .returned (.int .i64 (c.pc + 1)) ∧ w' = W := fun W hW => next_any hW
  have hL : ∀ W, CM W G cv c → (Instr.lookup 80 (.map (some G.mb)) (.int .u8 (o : Nat)) false).run Tryz.prog W = .ok (.agg #[.nilFunc, .nilFunc, .func (.func 87) #[] #[]]) W := fun W hW => by
    obtain ⟨ck, hmap⟩ := hW.map
    have := look_op hmap o _ (find_op o ho)
    rwa [hd] at this
  obtain ⟨w3, hw3, h3, r3, b3⟩ := do_start h
  have H3 : Hid (CM w3 G cv c) := h3
  have R3 : Hid (Rv w3 w.heap.size false (.int .u8 0) (.int .u32 0) (.int .u32 0) (.int .u32 0) (.int .i64 0) 0) := r3
  have HB3 : Hid (Below w.heap.size w w3) := b3
  have HPC : Hid (-128 ≤ (c.pc + 1) ∧ (c.pc + 1) ≤ 65535) := (show _ ∧ _ from ⟨by omega, by have := h.k; omega⟩)
  have HPW : Hid (G.p < w.heap.size ∧ _) := ⟨h.plt, core_lt h⟩
  clear h h3 r3 b3 hi hpc hin hd ho
  go_enter_defers Tryz.func40, Tryz.ntmps40
  go_wp2_with (go_at_call 91; refine (hI _ H3.out).mono ?_; rintro e w4 ⟨rfl, hb4⟩; have H4 : Hid (CM w4 G cv c) := H3.out.below hb4; have R4 : Hid (Rv w4 w.heap.size false (.int .u8 0) (.int .u32 0) (.int .u32 0) (.int .u32 0) (.int .i64 0) 0) := R3.out.below hb4; have HB4 : Hid (Below w.heap.size w w4) := HB3.out.trans (hb4.mono HB3.out.size); clear hb4)
  clear hw3
  have b5 := alloc_below w4 (.cells #[.int .u8 (o : Nat), .int .u8 x, .int .u8 y, .int .u8 z] 70)
  obtain ⟨y0, y1, y2, y3⟩ := box_c w4 (o : Nat) x y z
  have s5 := alloc_size w4 (.cells #[.int .u8 (o : Nat), .int .u8 x, .int .u8 y, .int .u8 z] 70)
  generalize w4.alloc (.cells #[.int .u8 (o : Nat), .int .u8 x, .int .u8 y, .int .u8 z] 70) = w5 at *
  have H5 : Hid (CM w5 G cv c) := H4.out.below b5
  have R5 : Hid (Rv w5 w.heap.size false (.int .u8 0) (.int .u32 0) (.int .u32 0) (.int .u32 0) (.int .i64 0) 0) := R4.out.below b5
  have HB5 : Hid (Below w.heap.size w w5) := HB4.out.trans (b5.mono HB4.out.size)
  have HS5 : Hid (w5.heap.size = w4.heap.size + 1) := s5
  have c13 := H5.out.c13
  have l1 := hL _ H5.out.drew
  have l2 := hL _ (H5.out.one (.cells #[.nilFunc, .nilFunc, .nilFunc] 105)).drew
  have n13 := World.new_ne w5 ⟨G.p, 13, none⟩ c13
  have ny0 := World.new_ne w5 ⟨w4.heap.size, 0, none⟩ y0
  clear b5 s5 H3 R3 HB3 H4 R4 HB4
  refine (fun (hfin : Hid ?F) => ?main) ?fin
  case main =>
   go_region_held3 (fun w' => w'.cell? ⟨G.p, 13, none⟩ = some (.map (some G.mb)) ∧ w'.cell? ⟨w4.heap.size, 0, none⟩ = some (.int .u8 (o : Nat))) (go_keep) (first
    | (go_at_call 92; refine (hN _ H5.out.drew).mono ?_; rintro e w6 ⟨rfl, rfl⟩)
    | (go_at_call 92; refine (hN _ (H5.out.drew.one _)).mono ?_; rintro e w6 ⟨rfl, rfl⟩)
    | fail)
   all_goals exact hfin.out
  unfold Hid
  obtain ⟨h6, r6, b6, d0, d1, d2, i0, i1, i2, i3⟩ := do_mid (v := #[.nilFunc, .nilFunc, .func (.func 87) #[] #[]]) H5.out R5.out HB5.out HS5.out y0 y1 y2 y3
  generalize (w5.alloc (.cells #[.nilFunc, .nilFunc, .func (.func 87) #[] #[]] 105)).drew = w6 at *
  have H6 : Hid (CM w6 G cv c) := h6
  have R6 : Hid (Rv w6 w.heap.size false (.int .u8 0) (.int .u32 0) (.int .u32 0) (.int .u32 0) (.int .i64 0) 0) := r6
  have HB6 : Hid (Below w.heap.size w w6) := b6
  have ty := fnT_y
  have tn := fnT_n
  have gy := fnG_y
  have gn := fnG_n
  have ay := fnA_y
  have an := fnA_n
  have HX5 : Hid (w.heap.size ≤ w5.heap.size ∧ w5.heap.size < w6.heap.size) := ⟨HB5.out.size, lt_of_some d0⟩
  clear h6 r6 b6 l1 l2 n13 ny0 c13 y0 y1 y2 y3 hI hL hN H5 R5 HB5 HS5
  have d0' : w6.cell? ⟨w5.heap.size, 0, none⟩ = some _ := d0
  have d1' : w6.cell? ⟨w5.heap.size, 1, none⟩ = some _ := d1
  have d2' : w6.cell? ⟨w5.heap.size, 2, none⟩ = some _ := d2
  clear d0 d1 d2
  have HLT : Hid (w.heap.size + 1 + 1 < w6.heap.size) := at_lt R6.out.x2
  go_wp2_with (go_at_call 87; refine (hT _ H6.out).mono ?_; rintro e w7 ⟨rfl, b7⟩; have HB7 : Hid (Buts (ownL G cv) w6 w7) := Buts.of b7; have H7 : Hid (CM w7 G cv c) := H6.out.below b7; have R7 : Hid (Rv w7 w.heap.size false (.int .u8 0) (.int .u32 0) (.int .u32 0) (.int .u32 0) (.int .i64 0) 0) := R6.out.below b7; have e0 := ((bcell b7).1 _ 0 HX5.out.2).trans d0'; have e1 := ((bcell b7).1 _ 1 HX5.out.2).trans d1'; have e2 := ((bcell b7).1 _ 2 HX5.out.2).trans d2'; clear b7; obtain ⟨x0, x1, q1, q2, q3, q4, q5, g1, g2, g3, g4, g5, -⟩ := R7.out.all)
  obtain ⟨rA, bA⟩ := rv_set6 R7.out true (.int .u8 v0) (.int .u32 v1) (.int .u32 v2) (.int .u32 v3) (.int .i64 v4)
  have HA : Hid (CM _ G cv c) := CM.beside bA H7.out HPW.out.1 HPW.out.2 (fun b hb => Or.inl hb) HLT.out
  have RA : Hid (Rv _ w.heap.size true (.int .u8 v0) (.int .u32 v1) (.int .u32 v2) (.int .u32 v3) (.int .i64 v4) 0) := rA
  have HBA : Hid (Buts (ownL G cv) w _) := ((Buts.of HB6.out).trans HB7.out).high bA (fun q hq => by simp at hq; omega)
  clear bA rA HB7 H7 R7
  generalize ((((((w7.setCell ⟨w.heap.size, 0, none⟩ (.bool true)).setCell ⟨w.heap.size + 1, 0, none⟩ (.int .u8 v0)).setCell ⟨w.heap.size + 1, 1, none⟩ (.int .u32 v1)).setCell ⟨w.heap.size + 1, 2, none⟩ (.int .u32 v2)).setCell ⟨w.heap.size + 1, 3, none⟩ (.int .u32 v3)).setCell ⟨w.heap.size + 1, 4, none⟩ (.int .i64 v4)) = wA at *
  clear x0 x1 q1 q2 q3 q4 q5 g1 g2 g3 g4 g5 e0 d0' d1' d2' e1 e2 i0 i1 i2 i3 ty tn gy gn ay an hm hT
  have r8 := HA.out.c8
  have f8 := HA.out.fz 8
  have r12 := HA.out.c12
  have f12 := HA.out.fz 12
  obtain ⟨x0, -⟩ := RA.out.all
  go_region
  have H8 := ((HA.out.setPc HPC.out).setAsk true).drew
  have B8 : Buts [G.p] wA ((wA.setCell ⟨G.p, 8, none⟩ (.int .i64 (c.pc + 1))).setCell ⟨G.p, 12, none⟩ (.bool true)).drew := ((Buts.cell wA G.p 8 _).trans (Buts.cell _ G.p 12 _)).drew
  have R8 : Hid (Rv ((wA.setCell ⟨G.p, 8, none⟩ (.int .i64 (c.pc + 1))).setCell ⟨G.p, 12, none⟩ (.bool true)).drew w.heap.size true (.int .u8 v0) (.int .u32 v1) (.int .u32 v2) (.int .u32 v3) (.int .i64 v4) 0) := RA.out.buts B8 (by have := HPW.out.1; simp; omega) (by have := HPW.out.1; simp; omega) (by have := HPW.out.1; simp; omega)
  generalize ((wA.setCell ⟨G.p, 8, none⟩ (.int .i64 (c.pc + 1))).setCell ⟨G.p, 12, none⟩ (.bool true)).drew = w8 at *
  have H8' : Hid (CM w8 G cv _) := H8
  have HB8 : Hid (Buts [G.p] wA w8) := B8
  clear r8 f8 r12 f12 x0 H8 B8 HA RA
  obtain ⟨q0, g0, q1, q2, q3, q4, q5, g1, g2, g3, g4, g5, q6, g6⟩ := R8.out.all
  have hxy : ¬ w.heap.size = w.heap.size + 1 := by omega
  go_wp2
  go_region
  go_wp2
  obtain ⟨r9, b9⟩ := rv_set R8.out true (.int .u8 v0) (.int .u32 v1) (.int .u32 v2) (.int .u32 v3) (.int .i64 v4) 0
  refine leaves_cons (f := 90) (args := #[.pointer (some ⟨w.heap.size, 0, none⟩), .pointer (some ⟨w.heap.size + 1, 0, none⟩), .pointer (some ⟨w.heap.size + 1 + 1, 0, none⟩)]) (by simp) (by simp [go_sem]) ?_
  refine (catch_idle _ _ _ _).mono ?_
  rintro e u' w9 ⟨rfl, rfl, rfl⟩
  have h69 := at_lt R6.out.x2
  refine ⟨_, do_results r9.drew _ rfl rfl rfl, rfl, CM.beside b9.drew H8'.out HPW.out.1 HPW.out.2 (fun b hb => Or.inl hb) h69, ?_⟩
  · exact (((HBA.out).trans (HB8.out.mono (fun q hq => by rw [List.mem_singleton] at hq; subst hq; simp [ownL]))).high b9 (fun q hq => by simp at hq; omega)).drew

set_option maxHeartbeats 8000000 in
theorem do_end {w : World} {G : Kp} {cv : Value} {c : Cr} (h : CM w G cv c) {i : Nat} (hi : i < G.k) (hpc : c.pc = (i : Nat)) {o : Nat} (ho : o < 23) {x y z : Int} (hin : inAt c.cs i = .agg #[.int .u8 (o : Nat), .int .u8 x, .int .u8 y, .int .u8 z]) (hd : dvO o = .agg #[.nilFunc, .nilFunc, .func (.func 88) #[] #[]]) {v0 v1 v2 v3 v4 : Int} (hT : ∀ W, CM W G cv c → Calls Tryz.prog 88 #[.pointer (some ⟨G.p, 0, none⟩), .agg #[.int .u8 (o : Nat), .int .u8 x, .int .u8 y, .int .u8 z]] W fun e w' => e = .returned (.agg #[.int .u8 v0, .int .u32 v1, .int .u32 v2, .int .u32 v3, .int .i64 v4]) ∧ Below W.heap.size W w') :
    Calls Tryz.prog 40 #[.pointer (some ⟨G.p, 0, none⟩)] w fun e w' => e = .returned (.tuple #[.bool true, .agg #[.int .u8 v0, .int .u32 v1, .int .u32 v2, .int .u32 v3, .int .i64 v4], .int .i64 0]) ∧ CM w' G cv { c with pc := (c.pc + 1), asked := true } ∧ Buts (ownL G cv) w w' := by
  have hm := hmf
  have hI : ∀ W, CM W G cv c → Calls Tryz.prog 91 #[.pointer (some ⟨G.p, 0, none⟩)] W fun e w' => e = .returned (.agg #[.int .u8 (o : Nat), .int .u8 x, .int .u8 y, .int .u8 z]) ∧ Below W.heap.size W w' := fun W hW => by rw [← hin]; exact instr_yes hW hi hpc
  have hN : ∀ W, CM W G cv c → Calls Tryz.prog 92 #[.pointer (some ⟨G.p, 0, none⟩)] W fun e w' => e = .returned (.int .i64 (c.pc + 1)) ∧ w' = W := fun W hW => next_any hW
  have hL : ∀ W, CM W G cv c → (Instr.lookup 80 (.map (some G.mb)) (.int .u8 (o : Nat)) false).run Tryz.prog W = .ok (.agg #[.nilFunc, .nilFunc, .func (.func 88) #[] #[]]) W := fun W hW => by
    obtain ⟨ck, hmap⟩ := hW.map
    have := look_op hmap o _ (find_op o ho)
    rwa [hd] at this
  obtain ⟨w3, hw3, h3, r3, b3⟩ := do_start h
  have H3 : Hid (CM w3 G cv c) := h3
  have R3 : Hid (Rv w3 w.heap.size false (.int .u8 0) (.int .u32 0) (.int .u32 0) (.int .u32 0) (.int .i64 0) 0) := r3
  have HB3 : Hid (Below w.heap.size w w3) := b3
  have HPC : Hid (-128 ≤ (c.pc + 1) ∧ (c.pc + 1) ≤ 65535) := (show _ ∧ _ from ⟨by omega, by have := h.k; omega⟩)
  have HPW : Hid (G.p < w.heap.size ∧ _) := ⟨h.plt, core_lt h⟩
  clear h h3 r3 b3 hi hpc hin hd ho
  go_enter_defers Tryz.func40, Tryz.ntmps40
  go_wp2_with (go_at_call 91; refine (hI _ H3.out).mono ?_; rintro e w4 ⟨rfl, hb4⟩; have H4 : Hid (CM w4 G cv c) := H3.out.below hb4; have R4 : Hid (Rv w4 w.heap.size false (.int .u8 0) (.int .u32 0) (.int .u32 0) (.int .u32 0) (.int .i64 0) 0) := R3.out.below hb4; have HB4 : Hid (Below w.heap.size w w4) := HB3.out.trans (hb4.mono HB3.out.size); clear hb4)
  clear hw3
  have b5 := alloc_below w4 (.cells #[.int .u8 (o : Nat), .int .u8 x, .int .u8 y, .int .u8 z] 70)
  obtain ⟨y0, y1, y2, y3⟩ := box_c w4 (o : Nat) x y z
  have s5 := alloc_size w4 (.cells #[.int .u8 (o : Nat), .int .u8 x, .int .u8 y, .int .u8 z] 70)
  generalize w4.alloc (.cells #[.int .u8 (o : Nat), .int .u8 x, .int .u8 y, .int .u8 z] 70) = w5 at *
  have H5 : Hid (CM w5 G cv c) := H4.out.below b5
  have R5 : Hid (Rv w5 w.heap.size false (.int .u8 0) (.int .u32 0) (.int .u32 0) (.int .u32 0) (.int .i64 0) 0) := R4.out.below b5
  have HB5 : Hid (Below w.heap.size w w5) := HB4.out.trans (b5.mono HB4.out.size)
  have HS5 : Hid (w5.heap.size = w4.heap.size + 1) := s5
  have c13 := H5.out.c13
  have l1 := hL _ H5.out.drew
  have l2 := hL _ (H5.out.one (.cells #[.nilFunc, .nilFunc, .nilFunc] 105)).drew
  have n13 := World.new_ne w5 ⟨G.p, 13, none⟩ c13
  have ny0 := World.new_ne w5 ⟨w4.heap.size, 0, none⟩ y0
  clear b5 s5 H3 R3 HB3 H4 R4 HB4
  refine (fun (hfin : Hid ?F) => ?main) ?fin
  case main =>
   go_region_held3 (fun w' => w'.cell? ⟨G.p, 13, none⟩ = some (.map (some G.mb)) ∧ w'.cell? ⟨w4.heap.size, 0, none⟩ = some (.int .u8 (o : Nat))) (go_keep) (first
    | (go_at_call 92; refine (hN _ H5.out.drew).mono ?_; rintro e w6 ⟨rfl, rfl⟩)
    | (go_at_call 92; refine (hN _ (H5.out.drew.one _)).mono ?_; rintro e w6 ⟨rfl, rfl⟩)
    | fail)
   all_goals exact hfin.out
  unfold Hid
  obtain ⟨h6, r6, b6, d0, d1, d2, i0, i1, i2, i3⟩ := do_mid (v := #[.nilFunc, .nilFunc, .func (.func 88) #[] #[]]) H5.out R5.out HB5.out HS5.out y0 y1 y2 y3
  generalize (w5.alloc (.cells #[.nilFunc, .nilFunc, .func (.func 88) #[] #[]] 105)).drew = w6 at *
  have H6 : Hid (CM w6 G cv c) := h6
  have R6 : Hid (Rv w6 w.heap.size false (.int .u8 0) (.int .u32 0) (.int .u32 0) (.int .u32 0) (.int .i64 0) 0) := r6
  have HB6 : Hid (Below w.heap.size w w6) := b6
  have ty := fnT_y
  have tn := fnT_n
  have gy := fnG_y
  have gn := fnG_n
  have ay := fnA_y
  have an := fnA_n
  have HX5 : Hid (w.heap.size ≤ w5.heap.size ∧ w5.heap.size < w6.heap.size) := ⟨HB5.out.size, lt_of_some d0⟩
  clear h6 r6 b6 l1 l2 n13 ny0 c13 y0 y1 y2 y3 hI hL hN H5 R5 HB5 HS5
  have d0' : w6.cell? ⟨w5.heap.size, 0, none⟩ = some _ := d0
  have d1' : w6.cell? ⟨w5.heap.size, 1, none⟩ = some _ := d1
  have d2' : w6.cell? ⟨w5.heap.size, 2, none⟩ = some _ := d2
  clear d0 d1 d2
  have HLT : Hid (w.heap.size + 1 + 1 < w6.heap.size) := at_lt R6.out.x2
  go_wp2_with (go_at_call 88; refine (hT _ H6.out).mono ?_; rintro e w7 ⟨rfl, b7⟩; have HB7 : Hid (Buts (ownL G cv) w6 w7) := Buts.of b7; have H7 : Hid (CM w7 G cv c) := H6.out.below b7; have R7 : Hid (Rv w7 w.heap.size false (.int .u8 0) (.int .u32 0) (.int .u32 0) (.int .u32 0) (.int .i64 0) 0) := R6.out.below b7; have e0 := ((bcell b7).1 _ 0 HX5.out.2).trans d0'; have e1 := ((bcell b7).1 _ 1 HX5.out.2).trans d1'; have e2 := ((bcell b7).1 _ 2 HX5.out.2).trans d2'; clear b7; obtain ⟨x0, x1, q1, q2, q3, q4, q5, g1, g2, g3, g4, g5, -⟩ := R7.out.all)
  obtain ⟨rA, bA⟩ := rv_set6 R7.out true (.int .u8 v0) (.int .u32 v1) (.int .u32 v2) (.int .u32 v3) (.int .i64 v4)
  have HA : Hid (CM _ G cv c) := CM.beside bA H7.out HPW.out.1 HPW.out.2 (fun b hb => Or.inl hb) HLT.out
  have RA : Hid (Rv _ w.heap.size true (.int .u8 v0) (.int .u32 v1) (.int .u32 v2) (.int .u32 v3) (.int .i64 v4) 0) := rA
  have HBA : Hid (Buts (ownL G cv) w _) := ((Buts.of HB6.out).trans HB7.out).high bA (fun q hq => by simp at hq; omega)
  clear bA rA HB7 H7 R7
  generalize ((((((w7.setCell ⟨w.heap.size, 0, none⟩ (.bool true)).setCell ⟨w.heap.size + 1, 0, none⟩ (.int .u8 v0)).setCell ⟨w.heap.size + 1, 1, none⟩ (.int .u32 v1)).setCell ⟨w.heap.size + 1, 2, none⟩ (.int .u32 v2)).setCell ⟨w.heap.size + 1, 3, none⟩ (.int .u32 v3)).setCell ⟨w.heap.size + 1, 4, none⟩ (.int .i64 v4)) = wA at *
  clear x0 x1 q1 q2 q3 q4 q5 g1 g2 g3 g4 g5 e0 d0' d1' d2' e1 e2 i0 i1 i2 i3 ty tn gy gn ay an hm hT
  have r8 := HA.out.c8
  have f8 := HA.out.fz 8
  have r12 := HA.out.c12
  have f12 := HA.out.fz 12
  obtain ⟨x0, -⟩ := RA.out.all
  go_region
  have H8 := ((HA.out.setPc HPC.out).setAsk true).drew
  have B8 : Buts [G.p] wA ((wA.setCell ⟨G.p, 8, none⟩ (.int .i64 (c.pc + 1))).setCell ⟨G.p, 12, none⟩ (.bool true)).drew := ((Buts.cell wA G.p 8 _).trans (Buts.cell _ G.p 12 _)).drew
  have R8 : Hid (Rv ((wA.setCell ⟨G.p, 8, none⟩ (.int .i64 (c.pc + 1))).setCell ⟨G.p, 12, none⟩ (.bool true)).drew w.heap.size true (.int .u8 v0) (.int .u32 v1) (.int .u32 v2) (.int .u32 v3) (.int .i64 v4) 0) := RA.out.buts B8 (by have := HPW.out.1; simp; omega) (by have := HPW.out.1; simp; omega) (by have := HPW.out.1; simp; omega)
  generalize ((wA.setCell ⟨G.p, 8, none⟩ (.int .i64 (c.pc + 1))).setCell ⟨G.p, 12, none⟩ (.bool true)).drew = w8 at *
  have H8' : Hid (CM w8 G cv _) := H8
  have HB8 : Hid (Buts [G.p] wA w8) := B8
  clear r8 f8 r12 f12 x0 H8 B8 HA RA
  obtain ⟨q0, g0, q1, q2, q3, q4, q5, g1, g2, g3, g4, g5, q6, g6⟩ := R8.out.all
  have hxy : ¬ w.heap.size = w.heap.size + 1 := by omega
  go_wp2
  go_region
  go_wp2
  obtain ⟨r9, b9⟩ := rv_set R8.out true (.int .u8 v0) (.int .u32 v1) (.int .u32 v2) (.int .u32 v3) (.int .i64 v4) 0
  refine leaves_cons (f := 90) (args := #[.pointer (some ⟨w.heap.size, 0, none⟩), .pointer (some ⟨w.heap.size + 1, 0, none⟩), .pointer (some ⟨w.heap.size + 1 + 1, 0, none⟩)]) (by simp) (by simp [go_sem]) ?_
  refine (catch_idle _ _ _ _).mono ?_
  rintro e u' w9 ⟨rfl, rfl, rfl⟩
  have h69 := at_lt R6.out.x2
  refine ⟨_, do_results r9.drew _ rfl rfl rfl, rfl, CM.beside b9.drew H8'.out HPW.out.1 HPW.out.2 (fun b hb => Or.inl hb) h69, ?_⟩
  · exact (((HBA.out).trans (HB8.out.mono (fun q hq => by rw [List.mem_singleton] at hq; subst hq; simp [ownL]))).high b9 (fun q hq => by simp at hq; omega)).drew

end Go.Proofs.YtomccgodfimaiaaGreatDoor
