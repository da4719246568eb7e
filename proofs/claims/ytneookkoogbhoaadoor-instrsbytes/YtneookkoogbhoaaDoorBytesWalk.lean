/- 'InstrsBytes', walked. -/
import Derived.Test.YtneookkoogbhoaaDoorEq
namespace Go.Proofs.YtneookkoogbhoaaDoor
open Go Go.RowKit
set_option maxRecDepth 100000
set_option maxHeartbeats 4000000 in
theorem bytes_yes (o p : Nat) (ho : o ≤ 255) (hp : p ≤ 255) (a b c d e f : Int) (ha : byte a) (hb : byte b) (hc : byte c) (hd : byte d) (he : byte e) (hf : byte f) (w : World) (hE : Env w) (hm : may p d e f = true) :
    Calls Tryd.prog 3 #[.agg #[.int .u8 o, .int .u8 a, .int .u8 b, .int .u8 c], .agg #[.int .u8 p, .int .u8 d, .int .u8 e, .int .u8 f]] w fun e w' => e = .returned (.bool true) ∧ Below w.heap.size w w' := by
  have HE : Hid (Env w) := hE
  have hca := @above_cell
  have he25 := eq_bytes
  have he24 := eq_instr
  clear hE
  go_enter Tryd.func3, Tryd.ntmps3
  go_wp2_with (first
    | (go_at_call 9; refine (Get_yes _ hp _ _ _ _ (HE.out.on (((Below.refl _ _).alloc (Nat.le_refl _) _).alloc (by simp) _)) hd he hf hm).mono ?_; rintro e w1 ⟨rfl, hb1⟩; obtain ⟨q1, q2⟩ := bcell hb1; have z1 : w.heap.size + 1 < w1.heap.size := (by have := hb1.size; simp at this; omega))
    | (go_at_call 10; refine (refGet_yes _ hp _ _ _ _ hd he hf hm).mono ?_; rintro e w2 ⟨rfl, hb2⟩; obtain ⟨q3, q4⟩ := bcell hb2; have z2 : w1.heap.size < w2.heap.size := (by have := hb2.size; simp at this; omega)))
  have x0 : w2.cell? ⟨w.heap.size, 0, none⟩ = some (.int .u8 o) := by rw [q3 _ _ (by simp; omega)]; simp [go_sem, Nat.lt_of_succ_lt z1]; rw [q1 _ _ (by simp; omega)]; simp [go_sem]
  have x1 : w2.cell? ⟨w.heap.size, 1, none⟩ = some (.int .u8 a) := by rw [q3 _ _ (by simp; omega)]; simp [go_sem, Nat.lt_of_succ_lt z1]; rw [q1 _ _ (by simp; omega)]; simp [go_sem]
  have x2 : w2.cell? ⟨w.heap.size, 2, none⟩ = some (.int .u8 b) := by rw [q3 _ _ (by simp; omega)]; simp [go_sem, Nat.lt_of_succ_lt z1]; rw [q1 _ _ (by simp; omega)]; simp [go_sem]
  have x3 : w2.cell? ⟨w.heap.size, 3, none⟩ = some (.int .u8 c) := by rw [q3 _ _ (by simp; omega)]; simp [go_sem, Nat.lt_of_succ_lt z1]; rw [q1 _ _ (by simp; omega)]; simp [go_sem]
  have y0 : w2.cell? ⟨w1.heap.size, 0, none⟩ = some (.int .u8 p) := by rw [q3 _ _ (by simp)]; simp [go_sem]
  have y1 : w2.cell? ⟨w1.heap.size, 1, none⟩ = some (.int .u8 d) := by rw [q3 _ _ (by simp)]; simp [go_sem]
  have y2 : w2.cell? ⟨w1.heap.size, 2, none⟩ = some (.int .u8 e) := by rw [q3 _ _ (by simp)]; simp [go_sem]
  have y3 : w2.cell? ⟨w1.heap.size, 3, none⟩ = some (.int .u8 f) := by rw [q3 _ _ (by simp)]; simp [go_sem]
  have z3 : w.heap.size < w2.heap.size := by omega
  have HB : Hid (Below w.heap.size w w2) := by
    have h1 : Below w.heap.size w w1 := (((Below.refl _ _).alloc (Nat.le_refl _) _).alloc (by simp) _).trans (hb1.mono (by simp; omega))
    exact (h1.alloc (by omega) _).trans (hb2.mono (by simp; omega))
  clear q1 q2 q3 q4 hb1 hb2
  refine wp_region_calm (by kernel_rfl) (by kernel_rfl) ?_
  repeat (go_big_quiet_step (first
    | (go_at_call 11; exact calm_call (Check_any _ ho _ _ _ _ (HE.out.on (((HB.out.alloc (by omega) _)).trans ((below_above _ _).mono (by simp; omega)))) ha hb hc))
    | (go_at_call 12; exact calm_call (refCheck_any _ ho _ _ _ _ ha hb hc))
    | (go_at_call 13; exact calm_call (Put_any _ _ _ _ _))
    | (go_at_call 14; exact calm_call (refPut_any _ _ _ _ _))))
  refine wpQuiet_nil ?_
  intro w3 hb3
  go_wp2
  go_ret
  exact ⟨rfl, ((HB.out.alloc (by omega) _)).trans (hb3.mono (by simp; omega))⟩
set_option maxHeartbeats 4000000 in
theorem bytes_no (o p : Nat) (ho : o ≤ 255) (hp : p ≤ 255) (a b c d e f : Int) (ha : byte a) (hb : byte b) (hc : byte c) (hd : byte d) (he : byte e) (hf : byte f) (w : World) (hE : Env w) (hm : may p d e f = false) :
    Calls Tryd.prog 3 #[.agg #[.int .u8 o, .int .u8 a, .int .u8 b, .int .u8 c], .agg #[.int .u8 p, .int .u8 d, .int .u8 e, .int .u8 f]] w fun e w' => e = .returned (.bool true) ∧ Below w.heap.size w w' := by
  have HE : Hid (Env w) := hE
  have hca := @above_cell
  have he25 := eq_bytes
  have he24 := eq_instr
  clear hE
  go_enter Tryd.func3, Tryd.ntmps3
  go_wp2_with (first
    | (go_at_call 9; refine (Get_no _ hp _ _ _ _ (HE.out.on (((Below.refl _ _).alloc (Nat.le_refl _) _).alloc (by simp) _)) hd he hf hm).mono ?_; rintro e w1 ⟨rfl, hb1⟩; obtain ⟨q1, q2⟩ := bcell hb1; have z1 : w.heap.size + 1 < w1.heap.size := (by have := hb1.size; simp at this; omega))
    | (go_at_call 10; refine (refGet_no _ hp _ _ _ _ hd he hf hm).mono ?_; rintro e w2 ⟨rfl, hb2⟩; obtain ⟨q3, q4⟩ := bcell hb2; have z2 : w1.heap.size < w2.heap.size := (by have := hb2.size; simp at this; omega)))
  have x0 : w2.cell? ⟨w.heap.size, 0, none⟩ = some (.int .u8 o) := by rw [q3 _ _ (by simp; omega)]; simp [go_sem, Nat.lt_of_succ_lt z1]; rw [q1 _ _ (by simp; omega)]; simp [go_sem]
  have x1 : w2.cell? ⟨w.heap.size, 1, none⟩ = some (.int .u8 a) := by rw [q3 _ _ (by simp; omega)]; simp [go_sem, Nat.lt_of_succ_lt z1]; rw [q1 _ _ (by simp; omega)]; simp [go_sem]
  have x2 : w2.cell? ⟨w.heap.size, 2, none⟩ = some (.int .u8 b) := by rw [q3 _ _ (by simp; omega)]; simp [go_sem, Nat.lt_of_succ_lt z1]; rw [q1 _ _ (by simp; omega)]; simp [go_sem]
  have x3 : w2.cell? ⟨w.heap.size, 3, none⟩ = some (.int .u8 c) := by rw [q3 _ _ (by simp; omega)]; simp [go_sem, Nat.lt_of_succ_lt z1]; rw [q1 _ _ (by simp; omega)]; simp [go_sem]
  have y0 : w2.cell? ⟨w1.heap.size, 0, none⟩ = some (.int .u8 0) := by rw [q3 _ _ (by simp)]; simp [go_sem]
  have y1 : w2.cell? ⟨w1.heap.size, 1, none⟩ = some (.int .u8 0) := by rw [q3 _ _ (by simp)]; simp [go_sem]
  have y2 : w2.cell? ⟨w1.heap.size, 2, none⟩ = some (.int .u8 0) := by rw [q3 _ _ (by simp)]; simp [go_sem]
  have y3 : w2.cell? ⟨w1.heap.size, 3, none⟩ = some (.int .u8 0) := by rw [q3 _ _ (by simp)]; simp [go_sem]
  have z3 : w.heap.size < w2.heap.size := by omega
  have HB : Hid (Below w.heap.size w w2) := by
    have h1 : Below w.heap.size w w1 := (((Below.refl _ _).alloc (Nat.le_refl _) _).alloc (by simp) _).trans (hb1.mono (by simp; omega))
    exact (h1.alloc (by omega) _).trans (hb2.mono (by simp; omega))
  clear q1 q2 q3 q4 hb1 hb2
  refine wp_region_calm (by kernel_rfl) (by kernel_rfl) ?_
  repeat (go_big_quiet_step (first
    | (go_at_call 11; exact calm_call (Check_any _ ho _ _ _ _ (HE.out.on (((HB.out.alloc (by omega) _)).trans ((below_above _ _).mono (by simp; omega)))) ha hb hc))
    | (go_at_call 12; exact calm_call (refCheck_any _ ho _ _ _ _ ha hb hc))
    | (go_at_call 13; exact calm_call (Put_any _ _ _ _ _))
    | (go_at_call 14; exact calm_call (refPut_any _ _ _ _ _))))
  refine wpQuiet_nil ?_
  intro w3 hb3
  go_wp2
  go_ret
  exact ⟨rfl, ((HB.out.alloc (by omega) _)).trans (hb3.mono (by simp; omega))⟩
end Go.Proofs.YtneookkoogbhoaaDoor
