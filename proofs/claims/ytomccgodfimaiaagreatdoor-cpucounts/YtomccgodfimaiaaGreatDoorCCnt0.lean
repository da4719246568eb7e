/- Eight instructions that count, tell and add up bytes, by plain numbers. -/
import Derived.Test.YtomccgodfimaiaaGreatDoorCCop0
namespace Go.Proofs.YtomccgodfimaiaaGreatDoor
open Go Go.RowKit
set_option maxRecDepth 100000
set_option linter.all false
def cnL (n : Int) : List Int := [1, 4, 0, n, 1, 5, 0, 1, 13, 1, 2, 0, 3, 3, 3, 1, 20, 1, 0, 0, 3, 2, 2, 5, 16, 2, 4, 251, 22, 0, 0, 0]
/-- the sum of the first bytes -/
def sm (m : List Int) : Nat → Int
  | 0 => 0
  | j + 1 => sm m j + m.getD j 0
/-- the byte that was read last -/
def lst (m : List Int) : Nat → Int
  | 0 => 0
  | j + 1 => m.getD j 0
theorem at_byte {m : List Int} (hm : Bs m) (j : Nat) : byte (m.getD j 0) := by
  rcases Nat.lt_or_ge j m.length with h | h
  · exact hm _ (by simp [h])
  · rw [show m.getD j 0 = 0 by simp [h]]; exact ⟨by decide, by decide⟩
theorem sm_bd {m : List Int} (hm : Bs m) : ∀ j : Nat, 0 ≤ sm m j ∧ sm m j ≤ 255 * j
  | 0 => by simp [sm]
  | j + 1 => by
    have h := sm_bd hm j
    have hb := at_byte hm j
    unfold byte at hb
    rw [sm]
    constructor
    · omega
    · push_cast; omega
/-- the core behind j bytes, and r steps on -/
def cst (m : List Int) (j : Nat) : Nat → Cr
  | 0 => { rs := [0, lst m j, j, sm m j, m.length, 1, 0, 0], pc := if j = m.length then 7 else 2, zs := m, cs := cnL m.length, con := m.take j, asked := false }
  | 1 => { rs := [0, m.getD j 0, j, sm m j, m.length, 1, 0, 0], pc := 3, zs := m, cs := cnL m.length, con := m.take j, asked := false }
  | 2 => { rs := [0, m.getD j 0, j, sm m (j + 1), m.length, 1, 0, 0], pc := 4, zs := m, cs := cnL m.length, con := m.take j, asked := false }
  | 3 => { rs := [0, m.getD j 0, j, sm m (j + 1), m.length, 1, 0, 0], pc := 5, zs := m, cs := cnL m.length, con := m.take (j + 1), asked := false }
  | _ => { rs := [0, m.getD j 0, ((j + 1 : Nat) : Int), sm m (j + 1), m.length, 1, 0, 0], pc := 6, zs := m, cs := cnL m.length, con := m.take (j + 1), asked := false }
def cs0 (m : List Int) : Cr := { rs := [0, 0, 0, 0, 0, 0, 0, 0], pc := 0, zs := m, cs := cnL m.length, con := [], asked := false }
def cs1 (m : List Int) : Cr := { rs := [0, 0, 0, 0, m.length, 0, 0, 0], pc := 1, zs := m, cs := cnL m.length, con := [], asked := false }
def cEnd (m : List Int) : Cr := { cst m m.length 0 with pc := 8, asked := true }
/-- the core behind i steps -/
def stN (m : List Int) : Nat → Cr
  | 0 => cs0 m
  | 1 => cs1 m
  | i + 2 => cst m (i / 5) (i % 5)
theorem st0 (m : List Int) : stepC 8 (cs0 m) = some (cs1 m, none) := by
  show opC _ 1 4 0 _ = _
  unfold opC
  simp only [cs0, nxt, Int.zero_mul, Int.zero_add]
  rfl
theorem st1 (m : List Int) (h0 : 0 < m.length) : stepC 8 (cs1 m) = some (cst m 0 0, none) := by
  show opC _ 1 5 0 1 = _
  unfold opC
  simp only [cs1, nxt, cst, sm, lst, Int.zero_mul, Int.zero_add]
  rw [if_neg (by omega)]
  rfl
theorem st2 {m : List Int} {j : Nat} (hj : j < m.length) (hl : m.length ≤ 250) : stepC 8 (cst m j 0) = some (cst m j 1, none) := by
  have e : cst m j 0 = { rs := [0, lst m j, j, sm m j, m.length, 1, 0, 0], pc := 2, zs := m, cs := cnL m.length, con := m.take j, asked := false } := by
    simp only [cst]; rw [if_neg (by omega)]
  rw [e]
  show opC _ 13 1 2 0 = _
  unfold opC
  have hp : plc { rs := [0, lst m j, j, sm m j, m.length, 1, 0, 0], pc := 2, zs := m, cs := cnL m.length, con := m.take j, asked := false } (2 : Int).toNat 0 = j := by
    unfold plc
    show ((j : Int) + 0) % 4294967296 = j
    omega
  simp only
  rw [hp, if_pos (by omega)]
  simp only [nxt, cst, Int.toNat_natCast]
  rfl
theorem st3 {m : List Int} {j : Nat} (hm : Bs m) (hj : j < m.length) (hl : m.length ≤ 250) : stepC 8 (cst m j 1) = some (cst m j 2, none) := by
  show opC _ 3 3 3 1 = _
  have h1 := sm_bd hm j
  have h2 := at_byte hm j
  have e : Un.dov ((3 : Nat) : Int) (sm m j) (m.getD j 0) = sm m (j + 1) := by
    show (sm m j + m.getD j 0) % 4294967296 = sm m j + m.getD j 0
    unfold byte at h2
    omega
  unfold opC
  simp only [nxt, cst]
  rw [if_pos (by decide)]
  show some (({ rs := [0, m.getD j 0, (j : Int), Un.dov ((3 : Nat) : Int) (sm m j) (m.getD j 0), m.length, 1, 0, 0], pc := 3 + 1, zs := m, cs := cnL m.length, con := m.take j, asked := false } : Cr), (none : Option A5)) = _
  rw [e]
  rfl
theorem st4 {m : List Int} {j : Nat} (hm : Bs m) (hj : j < m.length) (hl : m.length ≤ 250) : stepC 8 (cst m j 2) = some (cst m j 3, none) := by
  show opC _ 20 1 0 0 = _
  have h2 := at_byte hm j
  unfold opC
  simp only [nxt, cst]
  have e : (m.take j ++ [m.getD j 0 % 256]).drop ((m.take j).length + 1 - 256) = m.take (j + 1) := by
    rw [show (m.take j).length + 1 - 256 = 0 by simp; omega, List.drop_zero, show m.getD j 0 % 256 = m.getD j 0 by unfold byte at h2; omega, List.take_succ]
    simp [hj]
  show some (({ rs := [0, m.getD j 0, (j : Int), sm m (j + 1), m.length, 1, 0, 0], pc := 4 + 1, zs := m, cs := cnL m.length, con := (m.take j ++ [m.getD j 0 % 256]).drop ((m.take j).length + 1 - 256), asked := false } : Cr), (none : Option A5)) = _
  rw [e]
  rfl
theorem st5 {m : List Int} {j : Nat} (hj : j < m.length) (hl : m.length ≤ 250) : stepC 8 (cst m j 3) = some (cst m j 4, none) := by
  show opC _ 3 2 2 5 = _
  have e : Un.dov ((3 : Nat) : Int) (j : Int) 1 = ((j + 1 : Nat) : Int) := by
    show ((j : Int) + 1) % 4294967296 = _
    omega
  unfold opC
  simp only [nxt, cst]
  rw [if_pos (by decide)]
  show some (({ rs := [0, m.getD j 0, Un.dov ((3 : Nat) : Int) (j : Int) 1, sm m (j + 1), m.length, 1, 0, 0], pc := 5 + 1, zs := m, cs := cnL m.length, con := m.take (j + 1), asked := false } : Cr), (none : Option A5)) = _
  rw [e]
  rfl
theorem st6 {m : List Int} {j : Nat} (hj : j < m.length) (hl : m.length ≤ 250) : stepC 8 (cst m j 4) = some (cst m (j + 1) 0, none) := by
  show opC _ 16 2 4 251 = _
  unfold opC
  simp only [cst, lst]
  rw [if_neg (by decide)]
  show some (({ rs := [0, m.getD j 0, ((j + 1 : Nat) : Int), sm m (j + 1), m.length, 1, 0, 0], pc := if (!(((j + 1 : Nat) : Int) == (m.length : Int))) = true then 6 + 1 + sx 251 else 6 + 1, zs := m, cs := cnL m.length, con := m.take (j + 1), asked := false } : Cr), (none : Option A5)) = _
  by_cases h : j + 1 = m.length
  · rw [if_pos h, if_neg (by simp; omega)]; rfl
  · rw [if_neg h, if_pos (by simp; omega)]; rfl
theorem st7 (m : List Int) : stepC 8 (cst m m.length 0) = some (cEnd m, some (20, 0, 0, 0, 0)) := by
  have e : cst m m.length 0 = { rs := [0, lst m m.length, m.length, sm m m.length, m.length, 1, 0, 0], pc := 7, zs := m, cs := cnL m.length, con := m.take m.length, asked := false } := by
    simp only [cst]; rw [if_pos trivial]
  unfold cEnd
  rw [e]
  rfl
theorem stN_step {m : List Int} (hm : Bs m) (h0 : 0 < m.length) (hl : m.length ≤ 250) (i : Nat) (hi : i < 2 + 5 * m.length) : stepC 8 (stN m i) = some (stN m (i + 1), none) := by
  match i, hi with
  | 0, _ => exact st0 m
  | 1, _ => exact st1 m h0
  | i + 2, hi =>
    show stepC 8 (cst m (i / 5) (i % 5)) = some (cst m ((i + 1) / 5) ((i + 1) % 5), none)
    have hj : i / 5 < m.length := by omega
    rcases (show i % 5 = 0 ∨ i % 5 = 1 ∨ i % 5 = 2 ∨ i % 5 = 3 ∨ i % 5 = 4 by omega) with h | h | h | h | h
    · rw [h, show (i + 1) / 5 = i / 5 by omega, show (i + 1) % 5 = 1 by omega]; exact st2 hj hl
    · rw [h, show (i + 1) / 5 = i / 5 by omega, show (i + 1) % 5 = 2 by omega]; exact st3 hm hj hl
    · rw [h, show (i + 1) / 5 = i / 5 by omega, show (i + 1) % 5 = 3 by omega]; exact st4 hm hj hl
    · rw [h, show (i + 1) / 5 = i / 5 by omega, show (i + 1) % 5 = 4 by omega]; exact st5 hj hl
    · rw [h, show (i + 1) / 5 = i / 5 + 1 by omega, show (i + 1) % 5 = 0 by omega]; exact st6 hj hl
theorem cst_is (m : List Int) (j r : Nat) : (cst m j r).asked = false ∧ (cst m j r).con.length ≤ m.length := by
  match r with
  | 0 => exact ⟨rfl, by simp [cst]; omega⟩
  | 1 => exact ⟨rfl, by simp [cst]; omega⟩
  | 2 => exact ⟨rfl, by simp [cst]; omega⟩
  | 3 => exact ⟨rfl, by simp [cst]; omega⟩
  | r + 4 => exact ⟨rfl, by simp [cst]; omega⟩
theorem stN_is (m : List Int) (i : Nat) : (stN m i).asked = false ∧ (stN m i).con.length ≤ m.length := by
  match i with
  | 0 => exact ⟨rfl, by simp [stN, cs0]⟩
  | 1 => exact ⟨rfl, by simp [stN, cs1]⟩
  | i + 2 => exact cst_is m _ _
theorem stN_end (m : List Int) : stN m (2 + 5 * m.length) = cst m m.length 0 := by
  rw [show 2 + 5 * m.length = (5 * m.length) + 2 by omega]
  show cst m (5 * m.length / 5) (5 * m.length % 5) = _
  rw [show 5 * m.length / 5 = m.length by omega, show 5 * m.length % 5 = 0 by omega]
theorem okCn {m : List Int} (hl : m.length ≤ 250) : okI ((m.length : Nat) : Int) m (cnL m.length) 8 = true := by
  rw [okI_iff]
  refine ⟨⟨by omega, by omega, by omega, by omega⟩, (mayAll_iff _ _).2 fun i hi => ?_⟩
  match i, hi with
  | 0, _ =>
    have := byte_cases (p := fun n => may 1 4 0 (n : Int)) (by kernel_rfl) (z := (m.length : Int)) ⟨by omega, by omega⟩
    exact this
  | 1, _ => exact (show may 1 5 0 1 = true by kernel_rfl)
  | 2, _ => exact (show may 13 1 2 0 = true by kernel_rfl)
  | 3, _ => exact (show may 3 3 3 1 = true by kernel_rfl)
  | 4, _ => exact (show may 20 1 0 0 = true by kernel_rfl)
  | 5, _ => exact (show may 3 2 2 5 = true by kernel_rfl)
  | 6, _ => exact (show may 16 2 4 251 = true by kernel_rfl)
  | 7, _ => exact (show may 22 0 0 0 = true by kernel_rfl)
  | n + 8, h => omega
end Go.Proofs.YtomccgodfimaiaaGreatDoor
