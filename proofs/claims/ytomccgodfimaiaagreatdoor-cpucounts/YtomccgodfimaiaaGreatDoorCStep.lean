/- A step, by plain numbers: what an instruction makes of a core; each of them done. -/
import Derived.Test.YtomccgodfimaiaaGreatDoorCDt1
import Derived.Test.YtomccgodfimaiaaGreatDoorCDt2
import Derived.Test.YtomccgodfimaiaaGreatDoorCDt3
import Derived.Test.YtomccgodfimaiaaGreatDoorCDf1
import Derived.Test.YtomccgodfimaiaaGreatDoorCDg1
import Derived.Test.YtomccgodfimaiaaGreatDoorCDa1
namespace Go.Proofs.YtomccgodfimaiaaGreatDoor
open Go Go.RowKit
set_option maxRecDepth 100000
set_option linter.all false
abbrev A5 := Int × Int × Int × Int × Int
def nxt (c : Cr) : Cr := { c with pc := c.pc + 1, asked := false }
/-- what an instruction makes of a core; none: it is at fault -/
def opC (c : Cr) (o : Nat) (x y z : Int) : Option (Cr × Option A5) :=
  match o with
  | 0 => some (nxt c, none)
  | 1 => some ({ nxt c with rs := c.rs.set x.toNat (y * 256 + z) }, none)
  | 2 => some ({ nxt c with rs := c.rs.set x.toNat (c.rs.getD y.toNat 0) }, none)
  | 11 => if plc c y.toNat z + 4 ≤ c.zs.length then some ({ nxt c with rs := c.rs.set x.toNat (Rn.wv ((c.zs.drop (plc c y.toNat z).toNat).take 4)) }, none) else none
  | 12 => if plc c y.toNat z + 4 ≤ c.zs.length then some ({ nxt c with zs := splice c.zs (plc c y.toNat z).toNat (Rn.bs4 (c.rs.getD x.toNat 0)) }, none) else none
  | 13 => if plc c y.toNat z < c.zs.length then some ({ nxt c with rs := c.rs.set x.toNat (c.zs.getD (plc c y.toNat z).toNat 0) }, none) else none
  | 14 => if plc c y.toNat z < c.zs.length then some ({ nxt c with zs := c.zs.set (plc c y.toNat z).toNat (c.rs.getD x.toNat 0 % 256) }, none) else none
  | 19 => some ({ c with pc := x * 256 + y, asked := false }, none)
  | 20 => some ({ nxt c with con := (c.con ++ [c.rs.getD x.toNat 0 % 256]).drop ((c.con.length + 1) - 256) }, none)
  | 21 => some ({ c with pc := c.pc + 1, asked := true }, some (x, c.rs.getD 0 0, c.rs.getD 1 0, c.rs.getD 2 0, Un.sgn (c.rs.getD 3 0)))
  | 22 => some ({ c with pc := c.pc + 1, asked := true }, some (20, 0, 0, 0, 0))
  | _ => if o ≤ 10 then some ({ nxt c with rs := c.rs.set x.toNat (Un.dov (o : Nat) (c.rs.getD y.toNat 0) (c.rs.getD z.toNat 0)) }, none)
    else some ({ c with pc := if Un.hov (o : Nat) (c.rs.getD x.toNat 0) (c.rs.getD y.toNat 0) then c.pc + 1 + sx z else c.pc + 1, asked := false }, none)
def stepC (k : Nat) (c : Cr) : Option (Cr × Option A5) :=
  if 0 ≤ c.pc ∧ c.pc < k then opC c (c.cs.getD (4 * c.pc.toNat) 0).toNat (c.cs.getD (4 * c.pc.toNat + 1) 0) (c.cs.getD (4 * c.pc.toNat + 2) 0) (c.cs.getD (4 * c.pc.toNat + 3) 0) else none
def askO : Option A5 → Value
  | none => zAsk
  | some (v0, v1, v2, v3, v4) => .agg #[.int .u8 v0, .int .u32 v1, .int .u32 v2, .int .u32 v3, .int .i64 v4]
def StepPost (G : Kp) (cv : Value) (w : World) (e : Ending) (w' : World) : Option (Cr × Option A5) → Prop
  | none => e = .returned (.tuple #[.bool false, zAsk, .int .i64 15]) ∧ Below w.heap.size w w'
  | some (c', a) => e = .returned (.tuple #[.bool a.isSome, askO a, .int .i64 0]) ∧ ∃ cv', CM w' G cv' c' ∧ Buts (ownL G cv) w w' ∧ ∀ b, cv'.ownBlock = some b → cv.ownBlock = some b ∨ w.heap.size ≤ b
theorem to_reg {x : Int} (h : 0 ≤ x ∧ x ≤ 7) : x.toNat < 8 ∧ x = ((x.toNat : Nat) : Int) := ⟨by omega, by omega⟩
theorem own_p {G : Kp} {cv : Value} {w w' : World} (h : Buts [G.p] w w') : Buts (ownL G cv) w w' := h.mono (fun x hx => by simp at hx; simp [ownL, hx])
theorem own_g {G : Kp} {cv : Value} {w w' : World} (h : Buts [G.g] w w') : Buts (ownL G cv) w w' := h.mono (fun x hx => by simp at hx; simp [ownL, hx])
theorem own_v {G : Kp} {cv : Value} {w w' : World} (h : Buts (G.p :: cv.ownBlock.toList) w w') : Buts (ownL G cv) w w' := h.mono (fun x hx => by
  simp only [List.mem_cons] at hx
  simp only [ownL, List.mem_cons]
  rcases hx with h | h
  · exact Or.inl h
  · exact Or.inr (Or.inr h))
theorem plc_nat {w : World} {G : Kp} {cv : Value} {c : Cr} (h : CM w G cv c) (b : Nat) (z : Int) : plc c b z = (((plc c b z).toNat : Nat) : Int) ∧ 0 ≤ plc c b z := by
  have : 0 ≤ plc c b z := by unfold plc; omega
  exact ⟨by omega, this⟩

theorem op_0 {w : World} {G : Kp} {cv : Value} {c : Cr} (h : CM w G cv c) (hcl : c.con.length ≤ 256) {i : Nat} (hi : i < G.k) (hpc : c.pc = (i : Nat)) {x y z : Int} (hx : byte x) (hy : byte y) (hz : byte z) (hm : may 0 x y z = true) (hin : inAt c.cs i = .agg #[.int .u8 ((0 : Nat) : Int), .int .u8 x, .int .u8 y, .int .u8 z]) :
    Calls Tryz.prog 40 #[.pointer (some ⟨G.p, 0, none⟩)] w fun e w' => StepPost G cv w e w' (opC c 0 x y z) := by
  exact (do_nop h hi hpc (by decide) hin rfl).mono fun e w' ⟨h1, h2, h3⟩ => ⟨h1, cv, h2, h3, fun b hb => Or.inl hb⟩
theorem op_1 {w : World} {G : Kp} {cv : Value} {c : Cr} (h : CM w G cv c) (hcl : c.con.length ≤ 256) {i : Nat} (hi : i < G.k) (hpc : c.pc = (i : Nat)) {x y z : Int} (hx : byte x) (hy : byte y) (hz : byte z) (hm : may 1 x y z = true) (hin : inAt c.cs i = .agg #[.int .u8 ((1 : Nat) : Int), .int .u8 x, .int .u8 y, .int .u8 z]) :
    Calls Tryz.prog 40 #[.pointer (some ⟨G.p, 0, none⟩)] w fun e w' => StepPost G cv w e w' (opC c 1 x y z) := by
  obtain ⟨ha, ea⟩ := to_reg (may_a hx.2 hm rfl)
  exact (do_set h hi hpc (by decide) hin rfl (c' := { c with rs := c.rs.set x.toNat (y * 256 + z) }) (fun W hW => by
    have q := set_any hW 1 y z ha hy hz
    rw [← ea] at q
    exact (q).mono fun e w' ⟨h1, h2, h3⟩ => ⟨h1, cv, h2, own_p h3, fun b hb => Or.inl hb⟩)).mono fun e w' hh => hh
theorem op_2 {w : World} {G : Kp} {cv : Value} {c : Cr} (h : CM w G cv c) (hcl : c.con.length ≤ 256) {i : Nat} (hi : i < G.k) (hpc : c.pc = (i : Nat)) {x y z : Int} (hx : byte x) (hy : byte y) (hz : byte z) (hm : may 2 x y z = true) (hin : inAt c.cs i = .agg #[.int .u8 ((2 : Nat) : Int), .int .u8 x, .int .u8 y, .int .u8 z]) :
    Calls Tryz.prog 40 #[.pointer (some ⟨G.p, 0, none⟩)] w fun e w' => StepPost G cv w e w' (opC c 2 x y z) := by
  obtain ⟨ha, ea⟩ := to_reg (may_a hx.2 hm rfl)
  obtain ⟨hb, eb⟩ := to_reg (may_b hx.2 hy.2 hm rfl)
  exact (do_move h hi hpc (by decide) hin rfl (c' := { c with rs := c.rs.set x.toNat (c.rs.getD y.toNat 0) }) (fun W hW => by
    have q := move_any hW 2 z ha hb
    rw [← ea, ← eb] at q
    exact (q).mono fun e w' ⟨h1, h2, h3⟩ => ⟨h1, cv, h2, own_p h3, fun b hb => Or.inl hb⟩)).mono fun e w' hh => hh
theorem op_3 {w : World} {G : Kp} {cv : Value} {c : Cr} (h : CM w G cv c) (hcl : c.con.length ≤ 256) {i : Nat} (hi : i < G.k) (hpc : c.pc = (i : Nat)) {x y z : Int} (hx : byte x) (hy : byte y) (hz : byte z) (hm : may 3 x y z = true) (hin : inAt c.cs i = .agg #[.int .u8 ((3 : Nat) : Int), .int .u8 x, .int .u8 y, .int .u8 z]) :
    Calls Tryz.prog 40 #[.pointer (some ⟨G.p, 0, none⟩)] w fun e w' => StepPost G cv w e w' (opC c 3 x y z) := by
  obtain ⟨ha, ea⟩ := to_reg (may_a hx.2 hm rfl)
  obtain ⟨hb, eb⟩ := to_reg (may_b hx.2 hy.2 hm rfl)
  obtain ⟨hd, ed⟩ := to_reg (may_c hx.2 hy.2 hz.2 hm rfl)
  exact (do_reckon h hi hpc (by decide) hin rfl (c' := { c with rs := c.rs.set x.toNat (Un.dov ((3 : Nat) : Int) (c.rs.getD y.toNat 0) (c.rs.getD z.toNat 0)) }) (fun W hW => by
    have q := reckon_any hW 3 (by omega) ha hb hd
    rw [← ea, ← eb, ← ed] at q
    exact (q).mono fun e w' ⟨h1, h2, h3⟩ => ⟨h1, cv, h2, own_p h3, fun b hb => Or.inl hb⟩)).mono fun e w' hh => hh
theorem op_4 {w : World} {G : Kp} {cv : Value} {c : Cr} (h : CM w G cv c) (hcl : c.con.length ≤ 256) {i : Nat} (hi : i < G.k) (hpc : c.pc = (i : Nat)) {x y z : Int} (hx : byte x) (hy : byte y) (hz : byte z) (hm : may 4 x y z = true) (hin : inAt c.cs i = .agg #[.int .u8 ((4 : Nat) : Int), .int .u8 x, .int .u8 y, .int .u8 z]) :
    Calls Tryz.prog 40 #[.pointer (some ⟨G.p, 0, none⟩)] w fun e w' => StepPost G cv w e w' (opC c 4 x y z) := by
  obtain ⟨ha, ea⟩ := to_reg (may_a hx.2 hm rfl)
  obtain ⟨hb, eb⟩ := to_reg (may_b hx.2 hy.2 hm rfl)
  obtain ⟨hd, ed⟩ := to_reg (may_c hx.2 hy.2 hz.2 hm rfl)
  exact (do_reckon h hi hpc (by decide) hin rfl (c' := { c with rs := c.rs.set x.toNat (Un.dov ((4 : Nat) : Int) (c.rs.getD y.toNat 0) (c.rs.getD z.toNat 0)) }) (fun W hW => by
    have q := reckon_any hW 4 (by omega) ha hb hd
    rw [← ea, ← eb, ← ed] at q
    exact (q).mono fun e w' ⟨h1, h2, h3⟩ => ⟨h1, cv, h2, own_p h3, fun b hb => Or.inl hb⟩)).mono fun e w' hh => hh
theorem op_5 {w : World} {G : Kp} {cv : Value} {c : Cr} (h : CM w G cv c) (hcl : c.con.length ≤ 256) {i : Nat} (hi : i < G.k) (hpc : c.pc = (i : Nat)) {x y z : Int} (hx : byte x) (hy : byte y) (hz : byte z) (hm : may 5 x y z = true) (hin : inAt c.cs i = .agg #[.int .u8 ((5 : Nat) : Int), .int .u8 x, .int .u8 y, .int .u8 z]) :
    Calls Tryz.prog 40 #[.pointer (some ⟨G.p, 0, none⟩)] w fun e w' => StepPost G cv w e w' (opC c 5 x y z) := by
  obtain ⟨ha, ea⟩ := to_reg (may_a hx.2 hm rfl)
  obtain ⟨hb, eb⟩ := to_reg (may_b hx.2 hy.2 hm rfl)
  obtain ⟨hd, ed⟩ := to_reg (may_c hx.2 hy.2 hz.2 hm rfl)
  exact (do_reckon h hi hpc (by decide) hin rfl (c' := { c with rs := c.rs.set x.toNat (Un.dov ((5 : Nat) : Int) (c.rs.getD y.toNat 0) (c.rs.getD z.toNat 0)) }) (fun W hW => by
    have q := reckon_any hW 5 (by omega) ha hb hd
    rw [← ea, ← eb, ← ed] at q
    exact (q).mono fun e w' ⟨h1, h2, h3⟩ => ⟨h1, cv, h2, own_p h3, fun b hb => Or.inl hb⟩)).mono fun e w' hh => hh
theorem op_6 {w : World} {G : Kp} {cv : Value} {c : Cr} (h : CM w G cv c) (hcl : c.con.length ≤ 256) {i : Nat} (hi : i < G.k) (hpc : c.pc = (i : Nat)) {x y z : Int} (hx : byte x) (hy : byte y) (hz : byte z) (hm : may 6 x y z = true) (hin : inAt c.cs i = .agg #[.int .u8 ((6 : Nat) : Int), .int .u8 x, .int .u8 y, .int .u8 z]) :
    Calls Tryz.prog 40 #[.pointer (some ⟨G.p, 0, none⟩)] w fun e w' => StepPost G cv w e w' (opC c 6 x y z) := by
  obtain ⟨ha, ea⟩ := to_reg (may_a hx.2 hm rfl)
  obtain ⟨hb, eb⟩ := to_reg (may_b hx.2 hy.2 hm rfl)
  obtain ⟨hd, ed⟩ := to_reg (may_c hx.2 hy.2 hz.2 hm rfl)
  exact (do_reckon h hi hpc (by decide) hin rfl (c' := { c with rs := c.rs.set x.toNat (Un.dov ((6 : Nat) : Int) (c.rs.getD y.toNat 0) (c.rs.getD z.toNat 0)) }) (fun W hW => by
    have q := reckon_any hW 6 (by omega) ha hb hd
    rw [← ea, ← eb, ← ed] at q
    exact (q).mono fun e w' ⟨h1, h2, h3⟩ => ⟨h1, cv, h2, own_p h3, fun b hb => Or.inl hb⟩)).mono fun e w' hh => hh
theorem op_7 {w : World} {G : Kp} {cv : Value} {c : Cr} (h : CM w G cv c) (hcl : c.con.length ≤ 256) {i : Nat} (hi : i < G.k) (hpc : c.pc = (i : Nat)) {x y z : Int} (hx : byte x) (hy : byte y) (hz : byte z) (hm : may 7 x y z = true) (hin : inAt c.cs i = .agg #[.int .u8 ((7 : Nat) : Int), .int .u8 x, .int .u8 y, .int .u8 z]) :
    Calls Tryz.prog 40 #[.pointer (some ⟨G.p, 0, none⟩)] w fun e w' => StepPost G cv w e w' (opC c 7 x y z) := by
  obtain ⟨ha, ea⟩ := to_reg (may_a hx.2 hm rfl)
  obtain ⟨hb, eb⟩ := to_reg (may_b hx.2 hy.2 hm rfl)
  obtain ⟨hd, ed⟩ := to_reg (may_c hx.2 hy.2 hz.2 hm rfl)
  exact (do_reckon h hi hpc (by decide) hin rfl (c' := { c with rs := c.rs.set x.toNat (Un.dov ((7 : Nat) : Int) (c.rs.getD y.toNat 0) (c.rs.getD z.toNat 0)) }) (fun W hW => by
    have q := reckon_any hW 7 (by omega) ha hb hd
    rw [← ea, ← eb, ← ed] at q
    exact (q).mono fun e w' ⟨h1, h2, h3⟩ => ⟨h1, cv, h2, own_p h3, fun b hb => Or.inl hb⟩)).mono fun e w' hh => hh
theorem op_8 {w : World} {G : Kp} {cv : Value} {c : Cr} (h : CM w G cv c) (hcl : c.con.length ≤ 256) {i : Nat} (hi : i < G.k) (hpc : c.pc = (i : Nat)) {x y z : Int} (hx : byte x) (hy : byte y) (hz : byte z) (hm : may 8 x y z = true) (hin : inAt c.cs i = .agg #[.int .u8 ((8 : Nat) : Int), .int .u8 x, .int .u8 y, .int .u8 z]) :
    Calls Tryz.prog 40 #[.pointer (some ⟨G.p, 0, none⟩)] w fun e w' => StepPost G cv w e w' (opC c 8 x y z) := by
  obtain ⟨ha, ea⟩ := to_reg (may_a hx.2 hm rfl)
  obtain ⟨hb, eb⟩ := to_reg (may_b hx.2 hy.2 hm rfl)
  obtain ⟨hd, ed⟩ := to_reg (may_c hx.2 hy.2 hz.2 hm rfl)
  exact (do_reckon h hi hpc (by decide) hin rfl (c' := { c with rs := c.rs.set x.toNat (Un.dov ((8 : Nat) : Int) (c.rs.getD y.toNat 0) (c.rs.getD z.toNat 0)) }) (fun W hW => by
    have q := reckon_any hW 8 (by omega) ha hb hd
    rw [← ea, ← eb, ← ed] at q
    exact (q).mono fun e w' ⟨h1, h2, h3⟩ => ⟨h1, cv, h2, own_p h3, fun b hb => Or.inl hb⟩)).mono fun e w' hh => hh
theorem op_9 {w : World} {G : Kp} {cv : Value} {c : Cr} (h : CM w G cv c) (hcl : c.con.length ≤ 256) {i : Nat} (hi : i < G.k) (hpc : c.pc = (i : Nat)) {x y z : Int} (hx : byte x) (hy : byte y) (hz : byte z) (hm : may 9 x y z = true) (hin : inAt c.cs i = .agg #[.int .u8 ((9 : Nat) : Int), .int .u8 x, .int .u8 y, .int .u8 z]) :
    Calls Tryz.prog 40 #[.pointer (some ⟨G.p, 0, none⟩)] w fun e w' => StepPost G cv w e w' (opC c 9 x y z) := by
  obtain ⟨ha, ea⟩ := to_reg (may_a hx.2 hm rfl)
  obtain ⟨hb, eb⟩ := to_reg (may_b hx.2 hy.2 hm rfl)
  obtain ⟨hd, ed⟩ := to_reg (may_c hx.2 hy.2 hz.2 hm rfl)
  exact (do_reckon h hi hpc (by decide) hin rfl (c' := { c with rs := c.rs.set x.toNat (Un.dov ((9 : Nat) : Int) (c.rs.getD y.toNat 0) (c.rs.getD z.toNat 0)) }) (fun W hW => by
    have q := reckon_any hW 9 (by omega) ha hb hd
    rw [← ea, ← eb, ← ed] at q
    exact (q).mono fun e w' ⟨h1, h2, h3⟩ => ⟨h1, cv, h2, own_p h3, fun b hb => Or.inl hb⟩)).mono fun e w' hh => hh
theorem op_10 {w : World} {G : Kp} {cv : Value} {c : Cr} (h : CM w G cv c) (hcl : c.con.length ≤ 256) {i : Nat} (hi : i < G.k) (hpc : c.pc = (i : Nat)) {x y z : Int} (hx : byte x) (hy : byte y) (hz : byte z) (hm : may 10 x y z = true) (hin : inAt c.cs i = .agg #[.int .u8 ((10 : Nat) : Int), .int .u8 x, .int .u8 y, .int .u8 z]) :
    Calls Tryz.prog 40 #[.pointer (some ⟨G.p, 0, none⟩)] w fun e w' => StepPost G cv w e w' (opC c 10 x y z) := by
  obtain ⟨ha, ea⟩ := to_reg (may_a hx.2 hm rfl)
  obtain ⟨hb, eb⟩ := to_reg (may_b hx.2 hy.2 hm rfl)
  obtain ⟨hd, ed⟩ := to_reg (may_c hx.2 hy.2 hz.2 hm rfl)
  exact (do_reckon h hi hpc (by decide) hin rfl (c' := { c with rs := c.rs.set x.toNat (Un.dov ((10 : Nat) : Int) (c.rs.getD y.toNat 0) (c.rs.getD z.toNat 0)) }) (fun W hW => by
    have q := reckon_any hW 10 (by omega) ha hb hd
    rw [← ea, ← eb, ← ed] at q
    exact (q).mono fun e w' ⟨h1, h2, h3⟩ => ⟨h1, cv, h2, own_p h3, fun b hb => Or.inl hb⟩)).mono fun e w' hh => hh
theorem op_11 {w : World} {G : Kp} {cv : Value} {c : Cr} (h : CM w G cv c) (hcl : c.con.length ≤ 256) {i : Nat} (hi : i < G.k) (hpc : c.pc = (i : Nat)) {x y z : Int} (hx : byte x) (hy : byte y) (hz : byte z) (hm : may 11 x y z = true) (hin : inAt c.cs i = .agg #[.int .u8 ((11 : Nat) : Int), .int .u8 x, .int .u8 y, .int .u8 z]) :
    Calls Tryz.prog 40 #[.pointer (some ⟨G.p, 0, none⟩)] w fun e w' => StepPost G cv w e w' (opC c 11 x y z) := by
  obtain ⟨ha, ea⟩ := to_reg (may_a hx.2 hm rfl)
  obtain ⟨hb, eb⟩ := to_reg (may_b hx.2 hy.2 hm rfl)
  obtain ⟨ek, hk0⟩ := plc_nat h y.toNat z
  unfold opC
  by_cases hat : plc c y.toNat z + 4 ≤ c.zs.length
  · simp only [if_pos hat]
    exact (do_load h hi hpc (by decide) hin rfl (c' := { c with rs := c.rs.set x.toNat (Rn.wv ((c.zs.drop (plc c y.toNat z).toNat).take 4)) }) (fun W hW => by
    have q := load_yes hW 11 z ha hb hz ek (by omega)
    rw [← ea, ← eb] at q
    exact q.mono fun e w' ⟨h1, h2, h3⟩ => ⟨h1, cv, h2, own_p h3, fun b hb => Or.inl hb⟩)).mono fun e w' hh => hh
  · simp only [if_neg hat]
    exact dof_load h hi hpc (by decide) hin rfl (fun W hW => by
    have q := load_no hW 11 z ha hb hz ek (by omega)
    rw [← ea, ← eb] at q
    exact q)
theorem op_12 {w : World} {G : Kp} {cv : Value} {c : Cr} (h : CM w G cv c) (hcl : c.con.length ≤ 256) {i : Nat} (hi : i < G.k) (hpc : c.pc = (i : Nat)) {x y z : Int} (hx : byte x) (hy : byte y) (hz : byte z) (hm : may 12 x y z = true) (hin : inAt c.cs i = .agg #[.int .u8 ((12 : Nat) : Int), .int .u8 x, .int .u8 y, .int .u8 z]) :
    Calls Tryz.prog 40 #[.pointer (some ⟨G.p, 0, none⟩)] w fun e w' => StepPost G cv w e w' (opC c 12 x y z) := by
  obtain ⟨ha, ea⟩ := to_reg (may_a hx.2 hm rfl)
  obtain ⟨hb, eb⟩ := to_reg (may_b hx.2 hy.2 hm rfl)
  obtain ⟨ek, hk0⟩ := plc_nat h y.toNat z
  unfold opC
  by_cases hat : plc c y.toNat z + 4 ≤ c.zs.length
  · simp only [if_pos hat]
    exact (do_store h hi hpc (by decide) hin rfl (c' := { c with zs := splice c.zs (plc c y.toNat z).toNat (Rn.bs4 (c.rs.getD x.toNat 0)) }) (fun W hW => by
    have q := store_yes hW 12 z ha hb hz ek (by omega)
    rw [← ea, ← eb] at q
    exact q.mono fun e w' ⟨h1, h2, h3⟩ => ⟨h1, cv, h2, own_g h3, fun b hb => Or.inl hb⟩)).mono fun e w' hh => hh
  · simp only [if_neg hat]
    exact dof_store h hi hpc (by decide) hin rfl (fun W hW => by
    have q := store_no hW 12 z ha hb hz ek (by omega)
    rw [← ea, ← eb] at q
    exact q)
theorem op_13 {w : World} {G : Kp} {cv : Value} {c : Cr} (h : CM w G cv c) (hcl : c.con.length ≤ 256) {i : Nat} (hi : i < G.k) (hpc : c.pc = (i : Nat)) {x y z : Int} (hx : byte x) (hy : byte y) (hz : byte z) (hm : may 13 x y z = true) (hin : inAt c.cs i = .agg #[.int .u8 ((13 : Nat) : Int), .int .u8 x, .int .u8 y, .int .u8 z]) :
    Calls Tryz.prog 40 #[.pointer (some ⟨G.p, 0, none⟩)] w fun e w' => StepPost G cv w e w' (opC c 13 x y z) := by
  obtain ⟨ha, ea⟩ := to_reg (may_a hx.2 hm rfl)
  obtain ⟨hb, eb⟩ := to_reg (may_b hx.2 hy.2 hm rfl)
  obtain ⟨ek, hk0⟩ := plc_nat h y.toNat z
  unfold opC
  by_cases hat : plc c y.toNat z < c.zs.length
  · simp only [if_pos hat]
    exact (do_loadB h hi hpc (by decide) hin rfl (c' := { c with rs := c.rs.set x.toNat (c.zs.getD (plc c y.toNat z).toNat 0) }) (fun W hW => by
    have q := loadB_yes hW 13 z ha hb hz ek (by omega)
    rw [← ea, ← eb] at q
    exact q.mono fun e w' ⟨h1, h2, h3⟩ => ⟨h1, cv, h2, own_p h3, fun b hb => Or.inl hb⟩)).mono fun e w' hh => hh
  · simp only [if_neg hat]
    exact dof_loadB h hi hpc (by decide) hin rfl (fun W hW => by
    have q := loadB_no hW 13 z ha hb hz ek (by omega)
    rw [← ea, ← eb] at q
    exact q)
theorem op_14 {w : World} {G : Kp} {cv : Value} {c : Cr} (h : CM w G cv c) (hcl : c.con.length ≤ 256) {i : Nat} (hi : i < G.k) (hpc : c.pc = (i : Nat)) {x y z : Int} (hx : byte x) (hy : byte y) (hz : byte z) (hm : may 14 x y z = true) (hin : inAt c.cs i = .agg #[.int .u8 ((14 : Nat) : Int), .int .u8 x, .int .u8 y, .int .u8 z]) :
    Calls Tryz.prog 40 #[.pointer (some ⟨G.p, 0, none⟩)] w fun e w' => StepPost G cv w e w' (opC c 14 x y z) := by
  obtain ⟨ha, ea⟩ := to_reg (may_a hx.2 hm rfl)
  obtain ⟨hb, eb⟩ := to_reg (may_b hx.2 hy.2 hm rfl)
  obtain ⟨ek, hk0⟩ := plc_nat h y.toNat z
  unfold opC
  by_cases hat : plc c y.toNat z < c.zs.length
  · simp only [if_pos hat]
    exact (do_storeB h hi hpc (by decide) hin rfl (c' := { c with zs := c.zs.set (plc c y.toNat z).toNat (c.rs.getD x.toNat 0 % 256) }) (fun W hW => by
    have q := storeB_yes hW 14 z ha hb hz ek (by omega)
    rw [← ea, ← eb] at q
    exact q.mono fun e w' ⟨h1, h2, h3⟩ => ⟨h1, cv, h2, own_g h3, fun b hb => Or.inl hb⟩)).mono fun e w' hh => hh
  · simp only [if_neg hat]
    exact dof_storeB h hi hpc (by decide) hin rfl (fun W hW => by
    have q := storeB_no hW 14 z ha hb hz ek (by omega)
    rw [← ea, ← eb] at q
    exact q)
theorem op_15 {w : World} {G : Kp} {cv : Value} {c : Cr} (h : CM w G cv c) (hcl : c.con.length ≤ 256) {i : Nat} (hi : i < G.k) (hpc : c.pc = (i : Nat)) {x y z : Int} (hx : byte x) (hy : byte y) (hz : byte z) (hm : may 15 x y z = true) (hin : inAt c.cs i = .agg #[.int .u8 ((15 : Nat) : Int), .int .u8 x, .int .u8 y, .int .u8 z]) :
    Calls Tryz.prog 40 #[.pointer (some ⟨G.p, 0, none⟩)] w fun e w' => StepPost G cv w e w' (opC c 15 x y z) := by
  obtain ⟨ha, ea⟩ := to_reg (may_a hx.2 hm rfl)
  obtain ⟨hb, eb⟩ := to_reg (may_b hx.2 hy.2 hm rfl)
  have hki := h.k
  have hsx := sx_bound z hz
  cases hh : Un.hov 15 (c.rs.getD x.toNat 0) (c.rs.getD y.toNat 0) with
  | true =>
    have := do_further h hi hpc (o := 15) (by decide) hin rfl (np := c.pc + 1 + sx z) (by omega) (fun W hW => by
      have q := further_yes hW 15 z (by omega) ha hb hz hh
      rw [← ea, ← eb] at q
      exact q)
    refine this.mono fun e w' ⟨h1, h2, h3⟩ => ?_
    refine ⟨h1, cv, ?_, h3, fun b hb => Or.inl hb⟩
    rw [show Un.hov ((15 : Nat) : Int) (c.rs.getD x.toNat 0) (c.rs.getD y.toNat 0) = true from hh]
    exact h2
  | false =>
    have := do_further h hi hpc (o := 15) (by decide) hin rfl (np := c.pc + 1) (by omega) (fun W hW => by
      have q := further_no hW 15 z (by omega) ha hb hz hh
      rw [← ea, ← eb] at q
      exact q)
    refine this.mono fun e w' ⟨h1, h2, h3⟩ => ?_
    refine ⟨h1, cv, ?_, h3, fun b hb => Or.inl hb⟩
    rw [show Un.hov ((15 : Nat) : Int) (c.rs.getD x.toNat 0) (c.rs.getD y.toNat 0) = false from hh]
    exact h2
theorem op_16 {w : World} {G : Kp} {cv : Value} {c : Cr} (h : CM w G cv c) (hcl : c.con.length ≤ 256) {i : Nat} (hi : i < G.k) (hpc : c.pc = (i : Nat)) {x y z : Int} (hx : byte x) (hy : byte y) (hz : byte z) (hm : may 16 x y z = true) (hin : inAt c.cs i = .agg #[.int .u8 ((16 : Nat) : Int), .int .u8 x, .int .u8 y, .int .u8 z]) :
    Calls Tryz.prog 40 #[.pointer (some ⟨G.p, 0, none⟩)] w fun e w' => StepPost G cv w e w' (opC c 16 x y z) := by
  obtain ⟨ha, ea⟩ := to_reg (may_a hx.2 hm rfl)
  obtain ⟨hb, eb⟩ := to_reg (may_b hx.2 hy.2 hm rfl)
  have hki := h.k
  have hsx := sx_bound z hz
  cases hh : Un.hov 16 (c.rs.getD x.toNat 0) (c.rs.getD y.toNat 0) with
  | true =>
    have := do_further h hi hpc (o := 16) (by decide) hin rfl (np := c.pc + 1 + sx z) (by omega) (fun W hW => by
      have q := further_yes hW 16 z (by omega) ha hb hz hh
      rw [← ea, ← eb] at q
      exact q)
    refine this.mono fun e w' ⟨h1, h2, h3⟩ => ?_
    refine ⟨h1, cv, ?_, h3, fun b hb => Or.inl hb⟩
    rw [show Un.hov ((16 : Nat) : Int) (c.rs.getD x.toNat 0) (c.rs.getD y.toNat 0) = true from hh]
    exact h2
  | false =>
    have := do_further h hi hpc (o := 16) (by decide) hin rfl (np := c.pc + 1) (by omega) (fun W hW => by
      have q := further_no hW 16 z (by omega) ha hb hz hh
      rw [← ea, ← eb] at q
      exact q)
    refine this.mono fun e w' ⟨h1, h2, h3⟩ => ?_
    refine ⟨h1, cv, ?_, h3, fun b hb => Or.inl hb⟩
    rw [show Un.hov ((16 : Nat) : Int) (c.rs.getD x.toNat 0) (c.rs.getD y.toNat 0) = false from hh]
    exact h2
theorem op_17 {w : World} {G : Kp} {cv : Value} {c : Cr} (h : CM w G cv c) (hcl : c.con.length ≤ 256) {i : Nat} (hi : i < G.k) (hpc : c.pc = (i : Nat)) {x y z : Int} (hx : byte x) (hy : byte y) (hz : byte z) (hm : may 17 x y z = true) (hin : inAt c.cs i = .agg #[.int .u8 ((17 : Nat) : Int), .int .u8 x, .int .u8 y, .int .u8 z]) :
    Calls Tryz.prog 40 #[.pointer (some ⟨G.p, 0, none⟩)] w fun e w' => StepPost G cv w e w' (opC c 17 x y z) := by
  obtain ⟨ha, ea⟩ := to_reg (may_a hx.2 hm rfl)
  obtain ⟨hb, eb⟩ := to_reg (may_b hx.2 hy.2 hm rfl)
  have hki := h.k
  have hsx := sx_bound z hz
  cases hh : Un.hov 17 (c.rs.getD x.toNat 0) (c.rs.getD y.toNat 0) with
  | true =>
    have := do_further h hi hpc (o := 17) (by decide) hin rfl (np := c.pc + 1 + sx z) (by omega) (fun W hW => by
      have q := further_yes hW 17 z (by omega) ha hb hz hh
      rw [← ea, ← eb] at q
      exact q)
    refine this.mono fun e w' ⟨h1, h2, h3⟩ => ?_
    refine ⟨h1, cv, ?_, h3, fun b hb => Or.inl hb⟩
    rw [show Un.hov ((17 : Nat) : Int) (c.rs.getD x.toNat 0) (c.rs.getD y.toNat 0) = true from hh]
    exact h2
  | false =>
    have := do_further h hi hpc (o := 17) (by decide) hin rfl (np := c.pc + 1) (by omega) (fun W hW => by
      have q := further_no hW 17 z (by omega) ha hb hz hh
      rw [← ea, ← eb] at q
      exact q)
    refine this.mono fun e w' ⟨h1, h2, h3⟩ => ?_
    refine ⟨h1, cv, ?_, h3, fun b hb => Or.inl hb⟩
    rw [show Un.hov ((17 : Nat) : Int) (c.rs.getD x.toNat 0) (c.rs.getD y.toNat 0) = false from hh]
    exact h2
theorem op_18 {w : World} {G : Kp} {cv : Value} {c : Cr} (h : CM w G cv c) (hcl : c.con.length ≤ 256) {i : Nat} (hi : i < G.k) (hpc : c.pc = (i : Nat)) {x y z : Int} (hx : byte x) (hy : byte y) (hz : byte z) (hm : may 18 x y z = true) (hin : inAt c.cs i = .agg #[.int .u8 ((18 : Nat) : Int), .int .u8 x, .int .u8 y, .int .u8 z]) :
    Calls Tryz.prog 40 #[.pointer (some ⟨G.p, 0, none⟩)] w fun e w' => StepPost G cv w e w' (opC c 18 x y z) := by
  obtain ⟨ha, ea⟩ := to_reg (may_a hx.2 hm rfl)
  obtain ⟨hb, eb⟩ := to_reg (may_b hx.2 hy.2 hm rfl)
  have hki := h.k
  have hsx := sx_bound z hz
  cases hh : Un.hov 18 (c.rs.getD x.toNat 0) (c.rs.getD y.toNat 0) with
  | true =>
    have := do_further h hi hpc (o := 18) (by decide) hin rfl (np := c.pc + 1 + sx z) (by omega) (fun W hW => by
      have q := further_yes hW 18 z (by omega) ha hb hz hh
      rw [← ea, ← eb] at q
      exact q)
    refine this.mono fun e w' ⟨h1, h2, h3⟩ => ?_
    refine ⟨h1, cv, ?_, h3, fun b hb => Or.inl hb⟩
    rw [show Un.hov ((18 : Nat) : Int) (c.rs.getD x.toNat 0) (c.rs.getD y.toNat 0) = true from hh]
    exact h2
  | false =>
    have := do_further h hi hpc (o := 18) (by decide) hin rfl (np := c.pc + 1) (by omega) (fun W hW => by
      have q := further_no hW 18 z (by omega) ha hb hz hh
      rw [← ea, ← eb] at q
      exact q)
    refine this.mono fun e w' ⟨h1, h2, h3⟩ => ?_
    refine ⟨h1, cv, ?_, h3, fun b hb => Or.inl hb⟩
    rw [show Un.hov ((18 : Nat) : Int) (c.rs.getD x.toNat 0) (c.rs.getD y.toNat 0) = false from hh]
    exact h2
theorem op_19 {w : World} {G : Kp} {cv : Value} {c : Cr} (h : CM w G cv c) (hcl : c.con.length ≤ 256) {i : Nat} (hi : i < G.k) (hpc : c.pc = (i : Nat)) {x y z : Int} (hx : byte x) (hy : byte y) (hz : byte z) (hm : may 19 x y z = true) (hin : inAt c.cs i = .agg #[.int .u8 ((19 : Nat) : Int), .int .u8 x, .int .u8 y, .int .u8 z]) :
    Calls Tryz.prog 40 #[.pointer (some ⟨G.p, 0, none⟩)] w fun e w' => StepPost G cv w e w' (opC c 19 x y z) := by
  exact (do_elsewhere h hi hpc (by decide) hin rfl (np := x * 256 + y) (by unfold byte at hx hy; omega) (fun W hW => elsewhere_any hW 19 x y z hx hy)).mono fun e w' ⟨h1, h2, h3⟩ => ⟨h1, cv, h2, h3, fun b hb => Or.inl hb⟩
theorem op_20 {w : World} {G : Kp} {cv : Value} {c : Cr} (h : CM w G cv c) (hcl : c.con.length ≤ 256) {i : Nat} (hi : i < G.k) (hpc : c.pc = (i : Nat)) {x y z : Int} (hx : byte x) (hy : byte y) (hz : byte z) (hm : may 20 x y z = true) (hin : inAt c.cs i = .agg #[.int .u8 ((20 : Nat) : Int), .int .u8 x, .int .u8 y, .int .u8 z]) :
    Calls Tryz.prog 40 #[.pointer (some ⟨G.p, 0, none⟩)] w fun e w' => StepPost G cv w e w' (opC c 20 x y z) := by
  obtain ⟨ha, ea⟩ := to_reg (may_a hx.2 hm rfl)
  exact (do_tell h hi hpc (by decide) hin rfl (c' := { c with con := (c.con ++ [c.rs.getD x.toNat 0 % 256]).drop ((c.con.length + 1) - 256) }) (fun W hW => by
    have q := tell_any hW 20 y z ha hcl
    rw [← ea] at q
    exact q.mono fun e w' ⟨h1, cv', h2, h3, h4⟩ => ⟨h1, cv', h2, own_v h3, h4⟩)).mono fun e w' hh => hh
theorem op_21 {w : World} {G : Kp} {cv : Value} {c : Cr} (h : CM w G cv c) (hcl : c.con.length ≤ 256) {i : Nat} (hi : i < G.k) (hpc : c.pc = (i : Nat)) {x y z : Int} (hx : byte x) (hy : byte y) (hz : byte z) (hm : may 21 x y z = true) (hin : inAt c.cs i = .agg #[.int .u8 ((21 : Nat) : Int), .int .u8 x, .int .u8 y, .int .u8 z]) :
    Calls Tryz.prog 40 #[.pointer (some ⟨G.p, 0, none⟩)] w fun e w' => StepPost G cv w e w' (opC c 21 x y z) := by
  exact (do_ask h hi hpc (by decide) hin rfl (fun W hW => ask_any hW 21 x y z)).mono fun e w' ⟨h1, h2, h3⟩ => ⟨h1, cv, h2, h3, fun b hb => Or.inl hb⟩
theorem op_22 {w : World} {G : Kp} {cv : Value} {c : Cr} (h : CM w G cv c) (hcl : c.con.length ≤ 256) {i : Nat} (hi : i < G.k) (hpc : c.pc = (i : Nat)) {x y z : Int} (hx : byte x) (hy : byte y) (hz : byte z) (hm : may 22 x y z = true) (hin : inAt c.cs i = .agg #[.int .u8 ((22 : Nat) : Int), .int .u8 x, .int .u8 y, .int .u8 z]) :
    Calls Tryz.prog 40 #[.pointer (some ⟨G.p, 0, none⟩)] w fun e w' => StepPost G cv w e w' (opC c 22 x y z) := by
  exact (do_end h hi hpc (by decide) hin rfl (fun W hW => end_any hW 22 x y z)).mono fun e w' ⟨h1, h2, h3⟩ => ⟨h1, cv, h2, h3, fun b hb => Or.inl hb⟩
theorem do_any {w : World} {G : Kp} {cv : Value} {c : Cr} (h : CM w G cv c) (hcl : c.con.length ≤ 256) :
    Calls Tryz.prog 40 #[.pointer (some ⟨G.p, 0, none⟩)] w fun e w' => StepPost G cv w e w' (stepC G.k c) := by
  unfold stepC
  by_cases hpc : 0 ≤ c.pc ∧ c.pc < G.k
  · rw [if_pos hpc]
    have hi : c.pc.toNat < G.k := by omega
    have hpc' : c.pc = (c.pc.toNat : Nat) := by omega
    have hm := h.cok c.pc.toNat hi
    have hin : inAt c.cs c.pc.toNat = _ := rfl
    unfold inAt at hin
    unfold mayAt at hm
    have y0 := h.cb.at (4 * c.pc.toNat)
    have y1 := h.cb.at (4 * c.pc.toNat + 1)
    have y2 := h.cb.at (4 * c.pc.toNat + 2)
    have y3 := h.cb.at (4 * c.pc.toNat + 3)
    have ho := (may_wrt hm).1
    have e0 : c.cs.getD (4 * c.pc.toNat) 0 = (((c.cs.getD (4 * c.pc.toNat) 0).toNat : Nat) : Int) := by unfold byte at y0; omega
    have hin' : inAt c.cs c.pc.toNat = .agg #[.int .u8 (((c.cs.getD (4 * c.pc.toNat) 0).toNat : Nat) : Int), .int .u8 (c.cs.getD (4 * c.pc.toNat + 1) 0), .int .u8 (c.cs.getD (4 * c.pc.toNat + 2) 0), .int .u8 (c.cs.getD (4 * c.pc.toNat + 3) 0)] := by
      rw [← e0]; rfl
    generalize (c.cs.getD (4 * c.pc.toNat) 0).toNat = o at *
    generalize c.cs.getD (4 * c.pc.toNat + 1) 0 = x at *
    generalize c.cs.getD (4 * c.pc.toNat + 2) 0 = y at *
    generalize c.cs.getD (4 * c.pc.toNat + 3) 0 = z at *
    match o, ho, hm, hin' with
    | 0, _, hm, hin' => exact op_0 h hcl hi hpc' y1 y2 y3 hm hin'
    | 1, _, hm, hin' => exact op_1 h hcl hi hpc' y1 y2 y3 hm hin'
    | 2, _, hm, hin' => exact op_2 h hcl hi hpc' y1 y2 y3 hm hin'
    | 3, _, hm, hin' => exact op_3 h hcl hi hpc' y1 y2 y3 hm hin'
    | 4, _, hm, hin' => exact op_4 h hcl hi hpc' y1 y2 y3 hm hin'
    | 5, _, hm, hin' => exact op_5 h hcl hi hpc' y1 y2 y3 hm hin'
    | 6, _, hm, hin' => exact op_6 h hcl hi hpc' y1 y2 y3 hm hin'
    | 7, _, hm, hin' => exact op_7 h hcl hi hpc' y1 y2 y3 hm hin'
    | 8, _, hm, hin' => exact op_8 h hcl hi hpc' y1 y2 y3 hm hin'
    | 9, _, hm, hin' => exact op_9 h hcl hi hpc' y1 y2 y3 hm hin'
    | 10, _, hm, hin' => exact op_10 h hcl hi hpc' y1 y2 y3 hm hin'
    | 11, _, hm, hin' => exact op_11 h hcl hi hpc' y1 y2 y3 hm hin'
    | 12, _, hm, hin' => exact op_12 h hcl hi hpc' y1 y2 y3 hm hin'
    | 13, _, hm, hin' => exact op_13 h hcl hi hpc' y1 y2 y3 hm hin'
    | 14, _, hm, hin' => exact op_14 h hcl hi hpc' y1 y2 y3 hm hin'
    | 15, _, hm, hin' => exact op_15 h hcl hi hpc' y1 y2 y3 hm hin'
    | 16, _, hm, hin' => exact op_16 h hcl hi hpc' y1 y2 y3 hm hin'
    | 17, _, hm, hin' => exact op_17 h hcl hi hpc' y1 y2 y3 hm hin'
    | 18, _, hm, hin' => exact op_18 h hcl hi hpc' y1 y2 y3 hm hin'
    | 19, _, hm, hin' => exact op_19 h hcl hi hpc' y1 y2 y3 hm hin'
    | 20, _, hm, hin' => exact op_20 h hcl hi hpc' y1 y2 y3 hm hin'
    | 21, _, hm, hin' => exact op_21 h hcl hi hpc' y1 y2 y3 hm hin'
    | 22, _, hm, hin' => exact op_22 h hcl hi hpc' y1 y2 y3 hm hin'
    | n + 23, ho, _, _ => omega
  · rw [if_neg hpc]
    exact do_none h (by omega)
end Go.Proofs.YtomccgodfimaiaaGreatDoor
