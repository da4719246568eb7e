/- Two instructions that copy four bytes, by plain numbers; the image that is built of them; bytes of one's own. -/
import Derived.Test.YtomccgodfimaiaaGreatDoorCLives
namespace Go.Proofs.YtomccgodfimaiaaGreatDoor
open Go Go.RowKit
set_option maxRecDepth 100000
set_option linter.all false
def cpL (a b : Int) : List Int := [11, 1, 0, a, 12, 1, 0, b]
def k1 (m : List Int) (a b : Int) : Cr := { rs := [0, Rn.wv ((m.drop a.toNat).take 4), 0, 0, 0, 0, 0, 0], pc := 1, zs := m, cs := cpL a b, con := [], asked := false }
def k2 (m : List Int) (a b : Int) : Cr := { rs := [0, Rn.wv ((m.drop a.toNat).take 4), 0, 0, 0, 0, 0, 0], pc := 2, zs := splice m b.toNat ((m.drop a.toNat).take 4), cs := cpL a b, con := [], asked := false }
theorem newC_self (m cs : List Int) : newC m.length m cs = { rs := [0, 0, 0, 0, 0, 0, 0, 0], pc := 0, zs := m, cs := cs, con := [], asked := false } := by
  simp [newC, List.replicate]
theorem plc0 (c : Cr) (h : c.rs.getD 0 0 = 0) (z : Int) (hz : byte z) : plc c 0 z = z := by
  unfold plc
  rw [h]
  unfold byte at hz
  omega
theorem sc1 {m : List Int} {a b : Int} (ha : byte a) (h : a + 4 ≤ (m.length : Int)) : stepC 2 (newC m.length m (cpL a b)) = some (k1 m a b, none) := by
  rw [newC_self]
  show opC _ 11 1 0 a = _
  unfold opC
  simp only
  rw [show (0 : Int).toNat = 0 from rfl, plc0 _ rfl a ha, if_pos h]
  rfl
theorem sn1 {m : List Int} {a b : Int} (ha : byte a) (h : ¬ a + 4 ≤ (m.length : Int)) : stepC 2 (newC m.length m (cpL a b)) = none := by
  rw [newC_self]
  show opC _ 11 1 0 a = _
  unfold opC
  simp only
  rw [show (0 : Int).toNat = 0 from rfl, plc0 _ rfl a ha, if_neg h]
theorem wv_bs4 {z0 z1 z2 z3 : Int} (h0 : byte z0) (h1 : byte z1) (h2 : byte z2) (h3 : byte z3) : Rn.bs4 (Rn.wv [z0, z1, z2, z3]) = [z0, z1, z2, z3] := by
  unfold byte at h0 h1 h2 h3
  simp only [Rn.wv, Rn.bs4, List.foldl, List.cons.injEq, and_true]
  refine ⟨?_, ?_, ?_, ?_⟩ <;> omega
theorem sc2 {m : List Int} {a b : Int} (hm : Bs m) (ha : byte a) (hb : byte b) (h : a + 4 ≤ (m.length : Int)) (h2 : b + 4 ≤ (m.length : Int)) : stepC 2 (k1 m a b) = some (k2 m a b, none) := by
  show opC _ 12 1 0 b = _
  unfold opC
  simp only
  rw [show (0 : Int).toNat = 0 from rfl, plc0 _ rfl b hb, show (k1 m a b).zs = m from rfl, if_pos h2]
  have hk : a.toNat + 4 ≤ m.length := by unfold byte at ha; omega
  have : Rn.bs4 (Rn.wv ((m.drop a.toNat).take 4)) = (m.drop a.toNat).take 4 := by
    rw [Rn.four_of hk]
    have e : ∀ j, byte (m.getD j 0) := fun j => by
      rcases Nat.lt_or_ge j m.length with h | h
      · exact hm _ (by simp [h])
      · rw [show m.getD j 0 = 0 by simp [h]]; exact ⟨by decide, by decide⟩
    exact wv_bs4 (e _) (e _) (e _) (e _)
  show some (_, _) = some (_, _)
  simp only [k2, k1, nxt]
  rw [show ([0, Rn.wv ((m.drop a.toNat).take 4), 0, 0, 0, 0, 0, 0] : List Int).getD (1 : Int).toNat 0 = Rn.wv ((m.drop a.toNat).take 4) from rfl, this]
  rfl
theorem sn2 {m : List Int} {a b : Int} (hb : byte b) (h2 : ¬ b + 4 ≤ (m.length : Int)) : stepC 2 (k1 m a b) = none := by
  show opC _ 12 1 0 b = _
  unfold opC
  simp only
  rw [show (0 : Int).toNat = 0 from rfl, plc0 _ rfl b hb, show (k1 m a b).zs = m from rfl, if_neg h2]
theorem byte_cases {p : Nat → Bool} (hp : (List.range 256).all p = true) {z : Int} (hz : byte z) : p z.toNat = true := by
  unfold byte at hz
  exact List.all_eq_true.1 hp z.toNat (by simp; omega)
theorem may_ld {z : Int} (hz : byte z) : may 11 1 0 z = true := by
  have := byte_cases (p := fun n => may 11 1 0 (n : Int)) (by kernel_rfl) hz
  rwa [show ((z.toNat : Nat) : Int) = z by unfold byte at hz; omega] at this
theorem may_st {z : Int} (hz : byte z) : may 12 1 0 z = true := by
  have := byte_cases (p := fun n => may 12 1 0 (n : Int)) (by kernel_rfl) hz
  rwa [show ((z.toNat : Nat) : Int) = z by unfold byte at hz; omega] at this
theorem okCp {m : List Int} {a b : Int} (hl : m.length ≤ 300) (ha : byte a) (hb : byte b) : okI ((m.length : Nat) : Int) m (cpL a b) 2 = true := by
  rw [okI_iff]
  refine ⟨⟨by omega, by omega, by omega, by omega⟩, (mayAll_iff _ _).2 fun i hi => ?_⟩
  match i, hi with
  | 0, _ => exact may_ld ha
  | 1, _ => exact may_st hb
  | n + 2, h => omega
theorem cp_src (w : World) (a b : Int) : Src (w.alloc (.cells #[.int .u8 11, .int .u8 1, .int .u8 0, .int .u8 a, .int .u8 12, .int .u8 1, .int .u8 0, .int .u8 b] 70)) (some ⟨w.heap.size, 0, none⟩) (cpL a b) := fun _ =>
  ⟨w.heap.size, 0, rfl, fun i hi => by
    rw [cell_of (alloc_at w _)]
    have : i < 8 := hi
    match i, this with
    | 0, _ => rfl | 1, _ => rfl | 2, _ => rfl | 3, _ => rfl | 4, _ => rfl | 5, _ => rfl | 6, _ => rfl | 7, _ => rfl
    | n + 8, h => omega⟩
theorem cp_img {w : World} {sp : Option Addr} {m : List Int} {a b : Int} (hs : Src w sp m) (hm : Bs m) (ha : byte a) (hb : byte b) : Img (w.alloc (.cells #[.int .u8 11, .int .u8 1, .int .u8 0, .int .u8 a, .int .u8 12, .int .u8 1, .int .u8 0, .int .u8 b] 70)) sp m (some ⟨w.heap.size, 0, none⟩) (cpL a b) 2 :=
  ⟨hs.below (alloc_below w _), cp_src w a b, rfl, hm, fun z hz => by
    simp only [cpL, List.mem_cons, List.not_mem_nil, or_false] at hz
    rcases hz with rfl | rfl | rfl | rfl | rfl | rfl | rfl | rfl <;> first | exact ha | exact hb | exact ⟨by decide, by decide⟩⟩
end Go.Proofs.YtomccgodfimaiaaGreatDoor
