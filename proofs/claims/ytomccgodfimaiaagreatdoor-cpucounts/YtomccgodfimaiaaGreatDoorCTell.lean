/- What a core says: a byte more on its console, the last 256 of them. -/
import Derived.Test.YtomccgodfimaiaaGreatDoorCAsk
import Derived.Test.YtomccgodfimaiaaGreatDoorCHeld
namespace Go.Proofs.YtomccgodfimaiaaGreatDoor
open Go Go.RowKit
set_option maxRecDepth 100000
set_option linter.all false
theorem cell_block {w w' : World} {b i : Nat} (h : w'.heap[b]? = w.heap[b]?) : w'.cell? ⟨b, i, none⟩ = w.cell? ⟨b, i, none⟩ := World.cell?_of_block (w := w) h
theorem frozen_block {w w' : World} {b i : Nat} (h : w'.heap[b]? = w.heap[b]?) : w'.frozen? ⟨b, i, none⟩ = w.frozen? ⟨b, i, none⟩ := by simp [World.frozen?, h]
set_option maxHeartbeats 4000000 in
theorem tell_any {w : World} {G : Kp} {cv : Value} {c : Cr} (h : CM w G cv c) (o y z : Int) {a : Nat} (ha : a < 8) (hcl : c.con.length ≤ 256) :
    Calls Tryz.prog 86 #[.pointer (some ⟨G.p, 0, none⟩), .agg #[.int .u8 o, .int .u8 (a : Nat), .int .u8 y, .int .u8 z]] w fun e w' => e = .returned (.tuple #[]) ∧ ∃ cv', CM w' G cv' { c with con := (c.con ++ [c.rs.getD a 0 % 256]).drop ((c.con.length + 1) - 256) } ∧ Buts (G.p :: cv.ownBlock.toList) w w' ∧ (∀ b, cv'.ownBlock = some b → cv.ownBlock = some b ∨ w.heap.size ≤ b) := by
  obtain ⟨w1, hw1, h1, b1, s1, x0, x1, x2, x3⟩ := h.boxed o (a : Nat) y z
  have ha' : (a : Int) < 8 := by omega
  have ra := h1.r a ha
  have r11 := h1.c11
  have hwr : IntKind.u8.wrap (c.rs.getD a 0) = c.rs.getD a 0 % 256 := by rw [IntKind.wrap_u8]
  generalize c.rs.getD a 0 = va at *
  have hlw : w.heap.size < w1.heap.size := by omega
  have pw := h1.plt
  have H : Hid (CM w1 G cv c) := h1
  have HB : Hid (Below w.heap.size w w1) := b1
  clear h h1 b1 s1
  go_enter Tryz.func86, Tryz.ntmps86
  go_wp2
  clear hw1 x0 x2 x3
  have ca := @above_cell
  refine wp_region_any (by kernel_rfl) ?_
  refine wpAny_take (i := 0) (v := (.pointer (some ⟨G.p, 0, none⟩))) rfl (by kernel_rfl) (by kernel_rfl) (by kernel_rfl) (fun c a w h => h) (Or.inl ⟨rfl, fun w => by go_simp⟩) ?_
  simp only [List.getElem_toArray, List.getElem_cons_succ, List.getElem_cons_zero, Act.put, List.setIfInBounds_toArray, List.set_cons_succ, List.set_cons_zero]
  refine wpAny_take (i := 1) (v := (.pointer (some ⟨G.p, 0, none⟩))) rfl (by kernel_rfl) (by kernel_rfl) (by kernel_rfl) (fun c a w h => h) (Or.inl ⟨rfl, fun w => by go_simp⟩) ?_
  simp only [List.getElem_toArray, List.getElem_cons_succ, List.getElem_cons_zero, Act.put, List.setIfInBounds_toArray, List.set_cons_succ, List.set_cons_zero]
  refine wpAny_take (i := 2) (v := (.pointer (some ⟨G.p, 0, none⟩))) rfl (by kernel_rfl) (by kernel_rfl) (by kernel_rfl) (fun c a w h => h) (Or.inl ⟨rfl, fun w => by go_simp⟩) ?_
  simp only [List.getElem_toArray, List.getElem_cons_succ, List.getElem_cons_zero, Act.put, List.setIfInBounds_toArray, List.set_cons_succ, List.set_cons_zero]
  refine wpAny_take (i := 3) (v := (.pointer (some ⟨G.p, 11, none⟩))) rfl (by kernel_rfl) (by kernel_rfl) (by kernel_rfl) (fun c a w h => h) (Or.inl ⟨rfl, fun w => by go_simp⟩) ?_
  simp only [List.getElem_toArray, List.getElem_cons_succ, List.getElem_cons_zero, Act.put, List.setIfInBounds_toArray, List.set_cons_succ, List.set_cons_zero]
  refine any_load_then (w := w1) (fun w' => w'.cell? ⟨G.p, 11, none⟩ = some cv) _ 4 _ cv (List.range' 5 8) 13 _ (List.range' 14 4) rfl rfl (by kernel_rfl) (Below.refl _ _).drew (fun w' hb => ((bcell hb).1 _ _ pw).trans r11) (fun c a w h => h) (Or.inl ⟨rfl, fun w hw => by go_simp⟩) ?_
  rw [pick_range 8 5 (by decide), pick_range 4 14 (by decide)]
  simp only [List.getElem_toArray, List.getElem_cons_succ, List.getElem_cons_zero, Act.put, List.setIfInBounds_toArray, List.set_cons_succ, List.set_cons_zero, List.take_succ_cons, List.take_zero, List.drop_succ_cons, List.drop_zero, List.cons_append, List.nil_append]
  go_big_quiet_step (fail)
  repeat (go_big_quiet_step (fail))
  refine wpQuiet_nil ?_
  intro w2 b2 K hK
  have H2 : Hid (CM w2 G cv c) := H.out.below b2
  have HB2 : Hid (Below w.heap.size w w2) := HB.out.trans (b2.mono HB.out.size)
  clear b2 ca x1 ra r11
  go_simp
  have H3 : Hid (CM (w2.alloc (.cells #[.int .u8 (va % 256)] 5)) G cv c) := H2.out.one _
  have HB3 : Hid (Below w.heap.size w (w2.alloc (.cells #[.int .u8 (va % 256)] 5))) := HB2.out.trans ((alloc_below w2 _).mono HB2.out.size)
  refine hK _ _ ⟨H3.out.c11, ?_⟩
  clear hK K
  have HZ : Hid ((w2.alloc (.cells #[.int .u8 (va % 256)] 5)).cell? ⟨w2.heap.size, 0, none⟩ = some (.int .u8 (va % 256))) := (show _ = _ by simp [go_sem])
  have HCP : Hid (Part (w2.alloc (.cells #[.int .u8 (va % 256)] 5)) cv c.con) := H3.out.con
  have HCL : Hid (c.con.length ≤ 256) := hcl
  have HBS : Hid (Bs (c.con ++ [va % 256])) := (show Bs _ from H3.out.conb.app (fun z hz => by rw [List.mem_singleton] at hz; subst hz; exact ⟨by omega, by omega⟩))
  clear H2 HB2 H hcl
  go_wp2_with (at_builtin; go_loud (refine wpList_part (v := cv) (z := va % 256) (xs := c.con) rfl (.tmp 8) (.tmp 17) rfl rfl rfl rfl HCP.out (by have := HCL.out; omega) HZ.out ?_; intro b off cap w4 P4 B4 N4; have c4 : w4.cell? ⟨G.p, 11, none⟩ = some cv := (cell_block (B4.out.block _ H3.out.plt (by simpa using fun e => (H3.out.vp e) rfl))).trans H3.out.c11; have f4 : w4.frozen? ⟨G.p, 11, none⟩ = false := (frozen_block (B4.out.block _ H3.out.plt (by simpa using fun e => (H3.out.vp e) rfl))).trans (H3.out.fz 11)))
  obtain ⟨h5, b5⟩ := H3.out.grow B4.out P4.out (fun g hg => by
    obtain rfl : b = g := by simpa [Value.ownBlock] using hg
    exact N4.out) HBS.out (by have := HCL.out; simp; omega)
  have hcap : c.con.length + 1 ≤ cap := by
    rcases h5.con with ⟨e, _⟩ | ⟨b', off', cap', cur, e, _, hc, _⟩
    · cases e
    · simp only [Value.slice.injEq] at e
      obtain ⟨_, _, rfl⟩ := e
      simpa using hc
  have B5 : Hid (Buts (G.p :: cv.ownBlock.toList) w (w4.setCell ⟨G.p, 11, none⟩ (.slice (some ⟨b, off, none⟩) (c.con.length + 1) cap))) := Buts.drop HB3.out b5
  have c5 := h5.c11
  have f5 := h5.fz 11
  have H5 : Hid (CM _ G _ _) := h5
  have HN4 : Hid (∀ b', (Value.slice (some ⟨b, off, none⟩) (c.con.length + 1) cap).ownBlock = some b' → cv.ownBlock = some b' ∨ w.heap.size ≤ b') := fun b' e => by
    obtain rfl : b = b' := by simpa [Value.ownBlock] using e
    rcases N4.out with e | e
    · exact Or.inl e
    · exact Or.inr (Nat.le_trans HB3.out.size e)
  generalize w4.setCell ⟨G.p, 11, none⟩ (.slice (some ⟨b, off, none⟩) (c.con.length + 1) cap) = w5 at *
  clear h5 b5 H3 HB3 HZ HCP P4 B4 N4 c4 f4 HB hwr pw hlw
  by_cases hn : c.con.length + 1 ≤ 256
  · have e0 : c.con.length + 1 - 256 = 0 := by omega
    obtain ⟨n, hnn⟩ : ∃ n, c.con.length + 1 = n := ⟨_, rfl⟩
    have HNN : Hid (c.con.length + 1 = n) := hnn
    have HE0 : Hid (c.con.length + 1 - 256 = 0) := e0
    rw [hnn] at c5 hn hcap H5 HN4 ⊢
    clear hnn e0
    have hx : max (0 : Int) ((n : Int) - 256) = 0 := by omega
    go_region
    go_end0
    refine ⟨rfl, .slice (some ⟨b, off, none⟩) n cap, ?_, (B5.out.trans ((Buts.cell _ _ _ _).mono (fun x hx => by simp at hx; simp [hx]))).drew, HN4.out⟩
    rw [HE0.out, List.drop_zero]
    exact (H5.out.setCon H5.out.con H5.out.conb H5.out.conl H5.out.cone).drew
  · have e0 : c.con.length = 256 := by have := HCL.out; omega
    have e1 : c.con.length + 1 = 257 := by omega
    have HE0 : Hid (c.con.length + 1 - 256 = 1) := (show _ = _ by omega)
    have HE1 : Hid (c.con.length = 256) := e0
    rw [e1] at c5 hcap H5 HN4 ⊢
    clear e0 e1 hn
    have hcap' : ¬ cap = 1 := by omega
    have hx : max (0 : Int) 1 = 1 := by decide
    go_region
    go_end0
    refine ⟨rfl, .slice (some ⟨b, off + 1, none⟩) 256 (cap - 1), ?_, (B5.out.trans ((Buts.cell _ _ _ _).mono (fun x hx => by simp at hx; simp [hx]))).drew, fun b' e => HN4.out b' (by simpa [Value.ownBlock] using e)⟩
    rw [HE0.out]
    have pd := H5.out.con.drop 1 (by have := HE1.out; simp; omega)
    have hcone := H5.out.cone
    exact (H5.out.setCon pd (H5.out.conb.drop 1) (by have := HE1.out; simp; omega) (by simpa [Value.ownBlock] using hcone)).drew
end Go.Proofs.YtomccgodfimaiaaGreatDoor
