/- Some answers that the document fixes. -/
import Derived.Test.YtdneldjnkkpmoaaDoorParse
import Derived.Test.YtdneldjnkkpmoaaDoorEq
namespace Go.Proofs.YtdneldjnkkpmoaaDoor
open Go Go.RowKit
set_option maxRecDepth 100000
theorem Env3.one {w : World} (h : Env3 w) (o : Obj) : Env3 (w.alloc o) := h.on ((Below.refl _ _).alloc (Nat.le_refl _) _)
set_option maxHeartbeats 1000000 in
theorem is_yes (s : ByteArray) (o : Nat) (h255 : o ≤ 255) (a b c : Int) (ha : byte a) (hb : byte b) (hc : byte c) (hs : s.size < 1000) (hq : prs (splitP s) = some (o, [a, b, c])) (hm : may o a b c = true)
    (hp : 1 ≤ (parts o a b c).length ∧ (parts o a b c).length ≤ 4) (ht : text o a b c = s) (w : World) (hE : Env3 w) :
    Calls Tryd.prog 30 #[.string s, .agg #[.int .u8 o, .int .u8 a, .int .u8 b, .int .u8 c]] w fun e w' => e = .returned (.bool true) ∧ Below w.heap.size w w' := by
  have he24 := eq_instr
  have cP := Parse_any s (by omega) (w.alloc (.cells #[.int .u8 o, .int .u8 a, .int .u8 b, .int .u8 c] 24)) (hE.one _)
  rw [hq] at cP
  simp only [pv] at cP
  have cT : ∀ W, Env3 W → Calls Tryd.prog 16 #[.agg #[.int .u8 o, .int .u8 a, .int .u8 b, .int .u8 c]] W fun e w' => e = .returned (.tuple #[.string s, .int .i64 0]) ∧ Below W.heap.size W w' := fun W hW => by
    have h := Text_yes o h255 a b c W hW.two.env ha hb hc hm hp (by rw [ht]; omega)
    rwa [ht] at h
  have HE : Hid (Env3 w) := hE
  clear hE hq ht
  go_enter Tryd.func30, Tryd.ntmps30
  go_wp2_with (first
    | (go_at_call 18; refine cP.mono ?_; rintro e w1 ⟨hb1, rfl⟩; have z1 : w.heap.size < w1.heap.size := (by have := hb1.size; simp at this; omega); have x0 : w1.cell? ⟨w.heap.size, 0, none⟩ = some (.int .u8 o) := (by rw [(bcell hb1).1 _ _ (by simp)]; simp [go_sem]); have x1 : w1.cell? ⟨w.heap.size, 1, none⟩ = some (.int .u8 a) := (by rw [(bcell hb1).1 _ _ (by simp)]; simp [go_sem]); have x2 : w1.cell? ⟨w.heap.size, 2, none⟩ = some (.int .u8 b) := (by rw [(bcell hb1).1 _ _ (by simp)]; simp [go_sem]); have x3 : w1.cell? ⟨w.heap.size, 3, none⟩ = some (.int .u8 c) := (by rw [(bcell hb1).1 _ _ (by simp)]; simp [go_sem]))
    | (go_at_call 16; refine (cT _ (((HE.out.one _).on hb1).one _)).mono ?_; rintro e w2 ⟨rfl, hb2⟩; have q2 := (bcell hb2).1))
  go_ret
  refine ⟨rfl, ?_⟩
  exact ((((Below.refl _ _).alloc (Nat.le_refl _) _).trans (hb1.mono (by simp))).alloc (by omega) _).trans (hb2.mono (by simp; omega))
theorem is0 (W : World) (hW : Env3 W) : Calls Tryd.prog 30 #[.string ⟨#[115, 101, 116, 32, 114, 49, 32, 51, 48, 48]⟩, .agg #[.int .u8 1, .int .u8 1, .int .u8 1, .int .u8 44]] W fun e w' => e = .returned (.bool true) ∧ Below W.heap.size W w' :=
  is_yes ⟨#[115, 101, 116, 32, 114, 49, 32, 51, 48, 48]⟩ 1 (by decide) 1 1 44 ⟨by decide, by decide⟩ ⟨by decide, by decide⟩ ⟨by decide, by decide⟩ (by decide) (by decide +kernel) (by decide +kernel) (by decide +kernel) (by decide +kernel) W hW
theorem is1 (W : World) (hW : Env3 W) : Calls Tryd.prog 30 #[.string ⟨#[115, 97, 109, 101, 32, 114, 49, 32, 114, 50, 32, 45, 51]⟩, .agg #[.int .u8 15, .int .u8 1, .int .u8 2, .int .u8 253]] W fun e w' => e = .returned (.bool true) ∧ Below W.heap.size W w' :=
  is_yes ⟨#[115, 97, 109, 101, 32, 114, 49, 32, 114, 50, 32, 45, 51]⟩ 15 (by decide) 1 2 253 ⟨by decide, by decide⟩ ⟨by decide, by decide⟩ ⟨by decide, by decide⟩ (by decide) (by decide +kernel) (by decide +kernel) (by decide +kernel) (by decide +kernel) W hW
theorem is2 (W : World) (hW : Env3 W) : Calls Tryd.prog 30 #[.string ⟨#[103, 111, 32, 50, 53, 54]⟩, .agg #[.int .u8 19, .int .u8 1, .int .u8 0, .int .u8 0]] W fun e w' => e = .returned (.bool true) ∧ Below W.heap.size W w' :=
  is_yes ⟨#[103, 111, 32, 50, 53, 54]⟩ 19 (by decide) 1 0 0 ⟨by decide, by decide⟩ ⟨by decide, by decide⟩ ⟨by decide, by decide⟩ (by decide) (by decide +kernel) (by decide +kernel) (by decide +kernel) (by decide +kernel) W hW
theorem is3 (W : World) (hW : Env3 W) : Calls Tryd.prog 30 #[.string ⟨#[97, 115, 107, 32, 50, 48]⟩, .agg #[.int .u8 21, .int .u8 20, .int .u8 0, .int .u8 0]] W fun e w' => e = .returned (.bool true) ∧ Below W.heap.size W w' :=
  is_yes ⟨#[97, 115, 107, 32, 50, 48]⟩ 21 (by decide) 20 0 0 ⟨by decide, by decide⟩ ⟨by decide, by decide⟩ ⟨by decide, by decide⟩ (by decide) (by decide +kernel) (by decide +kernel) (by decide +kernel) (by decide +kernel) W hW
theorem is4 (W : World) (hW : Env3 W) : Calls Tryd.prog 30 #[.string ⟨#[108, 111, 97, 100, 32, 114, 55, 32, 114, 48, 32, 50, 53, 53]⟩, .agg #[.int .u8 11, .int .u8 7, .int .u8 0, .int .u8 255]] W fun e w' => e = .returned (.bool true) ∧ Below W.heap.size W w' :=
  is_yes ⟨#[108, 111, 97, 100, 32, 114, 55, 32, 114, 48, 32, 50, 53, 53]⟩ 11 (by decide) 7 0 255 ⟨by decide, by decide⟩ ⟨by decide, by decide⟩ ⟨by decide, by decide⟩ (by decide) (by decide +kernel) (by decide +kernel) (by decide +kernel) (by decide +kernel) W hW
theorem is5 (W : World) (hW : Env3 W) : Calls Tryd.prog 30 #[.string ⟨#[110, 111, 112]⟩, .agg #[.int .u8 0, .int .u8 0, .int .u8 0, .int .u8 0]] W fun e w' => e = .returned (.bool true) ∧ Below W.heap.size W w' :=
  is_yes ⟨#[110, 111, 112]⟩ 0 (by decide) 0 0 0 ⟨by decide, by decide⟩ ⟨by decide, by decide⟩ ⟨by decide, by decide⟩ (by decide) (by decide +kernel) (by decide +kernel) (by decide +kernel) (by decide +kernel) W hW
theorem get0 (W : World) (hW : Env3 W) : Calls Tryd.prog 9 #[.agg #[.int .u8 23, .int .u8 0, .int .u8 0, .int .u8 0]] W fun e w' => e = .returned (.tuple #[.agg #[.int .u8 0, .int .u8 0, .int .u8 0, .int .u8 0], .int .i64 14]) ∧ Below W.heap.size W w' :=
  Get_no 23 (by decide) 0 0 0 W hW.two.env ⟨by decide, by decide⟩ ⟨by decide, by decide⟩ ⟨by decide, by decide⟩ (by decide)
theorem get1 (W : World) (hW : Env3 W) : Calls Tryd.prog 9 #[.agg #[.int .u8 0, .int .u8 1, .int .u8 0, .int .u8 0]] W fun e w' => e = .returned (.tuple #[.agg #[.int .u8 0, .int .u8 0, .int .u8 0, .int .u8 0], .int .i64 14]) ∧ Below W.heap.size W w' :=
  Get_no 0 (by decide) 1 0 0 W hW.two.env ⟨by decide, by decide⟩ ⟨by decide, by decide⟩ ⟨by decide, by decide⟩ (by decide)
theorem get2 (W : World) (hW : Env3 W) : Calls Tryd.prog 9 #[.agg #[.int .u8 3, .int .u8 8, .int .u8 0, .int .u8 0]] W fun e w' => e = .returned (.tuple #[.agg #[.int .u8 0, .int .u8 0, .int .u8 0, .int .u8 0], .int .i64 14]) ∧ Below W.heap.size W w' :=
  Get_no 3 (by decide) 8 0 0 W hW.two.env ⟨by decide, by decide⟩ ⟨by decide, by decide⟩ ⟨by decide, by decide⟩ (by decide)
theorem text0 (W : World) (hW : Env3 W) : Calls Tryd.prog 16 #[.agg #[.int .u8 21, .int .u8 0, .int .u8 0, .int .u8 0]] W fun e w' => e = .returned (.tuple #[.string ⟨#[]⟩, .int .i64 1]) ∧ Below W.heap.size W w' :=
  Text_no 21 (by decide) 0 0 0 W hW.two.env ⟨by decide, by decide⟩ ⟨by decide, by decide⟩ ⟨by decide, by decide⟩ (by decide)
theorem parse0 (W : World) (hW : Env3 W) : Calls Tryd.prog 18 #[.string ⟨#[115, 97, 109, 101, 32, 114, 48, 32, 114, 48, 32, 45, 48]⟩] W fun e w' => e = .returned (.tuple #[.agg #[.int .u8 0, .int .u8 0, .int .u8 0, .int .u8 0], .int .i64 14]) ∧ Below W.heap.size W w' := by
  refine (Parse_any ⟨#[115, 97, 109, 101, 32, 114, 48, 32, 114, 48, 32, 45, 48]⟩ (by decide) W hW).mono ?_
  rintro e w' ⟨h, rfl⟩
  exact ⟨by rw [show prs (splitP ⟨#[115, 97, 109, 101, 32, 114, 48, 32, 114, 48, 32, 45, 48]⟩) = none by decide +kernel]; rfl, h⟩
theorem parse1 (W : World) (hW : Env3 W) : Calls Tryd.prog 18 #[.string ⟨#[109, 111, 118, 101, 32, 114, 49, 32, 32, 114, 50]⟩] W fun e w' => e = .returned (.tuple #[.agg #[.int .u8 0, .int .u8 0, .int .u8 0, .int .u8 0], .int .i64 14]) ∧ Below W.heap.size W w' := by
  refine (Parse_any ⟨#[109, 111, 118, 101, 32, 114, 49, 32, 32, 114, 50]⟩ (by decide) W hW).mono ?_
  rintro e w' ⟨h, rfl⟩
  exact ⟨by rw [show prs (splitP ⟨#[109, 111, 118, 101, 32, 114, 49, 32, 32, 114, 50]⟩) = none by decide +kernel]; rfl, h⟩
end Go.Proofs.YtdneldjnkkpmoaaDoor
