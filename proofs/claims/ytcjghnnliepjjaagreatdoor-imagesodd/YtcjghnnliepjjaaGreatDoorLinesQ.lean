/- An image's lines, all of them: read as it, in either order. No law of the program itself. -/
import Derived.Test.YtcjghnnliepjjaaGreatDoorLinesP
namespace Go.Proofs.YtcjghnnliepjjaaGreatDoor
open Go Go.RowKit
set_option maxRecDepth 100000
set_option linter.unusedVariables false
/-- the bytes of a line of Data -/
def chk (ds : List Int) (many t : Nat) : List Int := (ds.drop (t * many)).take many
def dls (ds : List Int) (many j : Nat) : List (List UInt8) := (List.range j).map fun t => daL (chk ds many t)
theorem chk_bs {ds : List Int} (h : Bs ds) (many t : Nat) : Bs (chk ds many t) := fun z hz => h z (List.mem_of_mem_drop (List.mem_of_mem_take hz))
theorem chk_ne {ds : List Int} {many t : Nat} (hm : 0 < many) (h : t * many < ds.length) : chk ds many t ≠ [] := by
  intro e
  have := congrArg List.length e
  simp [chk] at this
  omega
theorem dls_succ (ds : List Int) (many j : Nat) : dls ds many (j + 1) = dls ds many j ++ [daL (chk ds many j)] := by
  unfold dls
  rw [List.range_succ, List.map_append]
  rfl
theorem take_chk (ds : List Int) (many j : Nat) : ds.take (j * many) ++ chk ds many j = ds.take ((j + 1) * many) := by
  unfold chk
  rw [Nat.add_mul, Nat.one_mul, List.take_add]
theorem run_dls {ds : List Int} (hb : Bs ds) {many : Nat} (hm : 0 < many) (m : Im) : ∀ j, (∀ t, t < j → t * many < ds.length) → runI m (dls ds many j) = some { m with ds := m.ds ++ ds.take (j * many) }
  | 0, _ => by simp [dls, runI]
  | j + 1, h => by
    rw [dls_succ, runI_append, run_dls hb hm m j (fun t ht => h t (by omega))]
    simp only [Option.bind_some]
    rw [runI, line_data _ _ (chk_bs hb many j) (chk_ne hm (h j (by omega)))]
    simp only [runI]
    rw [List.append_assoc, take_chk]
/-- a line of Code -/
def cdl (cs : List Int) (t : Nat) : List UInt8 := coL (cs.getD (4 * t) 0).toNat (cs.getD (4 * t + 1) 0) (cs.getD (4 * t + 2) 0) (cs.getD (4 * t + 3) 0)
def cls (cs : List Int) (j : Nat) : List (List UInt8) := (List.range j).map fun t => cdl cs t
theorem cls_succ (cs : List Int) (j : Nat) : cls cs (j + 1) = cls cs j ++ [cdl cs j] := by
  unfold cls
  rw [List.range_succ, List.map_append]
  rfl
/-- instructions that may be -/
def MayC (cs : List Int) (k : Nat) : Prop := ∀ t, t < k → may (cs.getD (4 * t) 0).toNat (cs.getD (4 * t + 1) 0) (cs.getD (4 * t + 2) 0) (cs.getD (4 * t + 3) 0) = true
theorem take_quad (cs : List Int) {j : Nat} (h : 4 * j + 3 < cs.length) : cs.take (4 * j) ++ [cs.getD (4 * j) 0, cs.getD (4 * j + 1) 0, cs.getD (4 * j + 2) 0, cs.getD (4 * j + 3) 0] = cs.take (4 * (j + 1)) := by
  have e : ∀ i, i < cs.length → cs.take (i + 1) = cs.take i ++ [cs.getD i 0] := fun i hi => by
    rw [List.take_succ_eq_append_getElem hi]
    simp [hi]
  rw [show 4 * (j + 1) = 4 * j + 3 + 1 by omega, e (4 * j + 3) h, e (4 * j + 2) (by omega), e (4 * j + 1) (by omega), e (4 * j) (by omega)]
  simp
theorem run_cls {cs : List Int} (hb : Bs cs) {k : Nat} (hl : cs.length = 4 * k) (hc : MayC cs k) (m : Im) : ∀ j, j ≤ k → runI m (cls cs j) = some { m with cs := m.cs ++ cs.take (4 * j), k := m.k + j }
  | 0, _ => by simp [cls, runI]
  | j + 1, h => by
    rw [cls_succ, runI_append, run_cls hb hl hc m j (by omega)]
    simp only [Option.bind_some]
    have hbt : ∀ i, byte (cs.getD i 0) := fun i => hb.at i
    have h0 := (hbt (4 * j)).1
    rw [runI]
    unfold cdl
    rw [line_code _ _ _ _ _ (hbt _) (hbt _) (hbt _) (hc j (by omega))]
    simp only [runI]
    rw [List.append_assoc]
    have e : (((cs.getD (4 * j) 0).toNat : Nat) : Int) = cs.getD (4 * j) 0 := by omega
    rw [e, take_quad cs (by omega), Nat.add_assoc]
/-- all lines: the Size, Data, Code -/
def lnP (u : Nat) (ds cs : List Int) (k many c : Nat) : List (List UInt8) := szL u :: (dls ds many c ++ cls cs k)
def lnR (u : Nat) (ds cs : List Int) (k many c : Nat) : List (List UInt8) := (dls ds many c ++ cls cs k) ++ [szL u]
theorem body_run {ds cs : List Int} (hd : Bs ds) (hb : Bs cs) {k many c : Nat} (hm : 0 < many) (hc0 : ∀ t, t < c → t * many < ds.length) (hc1 : ds.length ≤ c * many) (hl : cs.length = 4 * k) (hc : MayC cs k) (m : Im) : runI m (dls ds many c ++ cls cs k) = some { m with ds := m.ds ++ ds, cs := m.cs ++ cs, k := m.k + k } := by
  rw [runI_append, run_dls hd hm m c hc0]
  simp only [Option.bind_some]
  rw [run_cls hb hl hc _ k (Nat.le_refl _), List.take_of_length_le hc1, List.take_of_length_le (by omega)]
theorem run_lnP {u : Nat} (hu : u ≤ 2147483647) {ds cs : List Int} (hd : Bs ds) (hb : Bs cs) {k many c : Nat} (hm : 0 < many) (hc0 : ∀ t, t < c → t * many < ds.length) (hc1 : ds.length ≤ c * many) (hl : cs.length = 4 * k) (hc : MayC cs k) : runI im0 (lnP u ds cs k many c) = some ⟨u, true, ds, cs, k⟩ := by
  unfold lnP
  rw [runI, line_size im0 u hu rfl]
  simp only
  rw [body_run hd hb hm hc0 hc1 hl hc]
  simp [im0]
theorem run_lnR {u : Nat} (hu : u ≤ 2147483647) {ds cs : List Int} (hd : Bs ds) (hb : Bs cs) {k many c : Nat} (hm : 0 < many) (hc0 : ∀ t, t < c → t * many < ds.length) (hc1 : ds.length ≤ c * many) (hl : cs.length = 4 * k) (hc : MayC cs k) : runI im0 (lnR u ds cs k many c) = some ⟨u, true, ds, cs, k⟩ := by
  unfold lnR
  rw [runI_append, body_run hd hb hm hc0 hc1 hl hc]
  simp only [Option.bind_some]
  rw [runI, line_size _ u hu rfl]
  simp [im0, runI]
theorem clean_body {ds cs : List Int} (hd : Bs ds) (hb : Bs cs) {k many c : Nat} (hc : MayC cs k) : ∀ l ∈ dls ds many c ++ cls cs k, Clean l := by
  intro l hl
  rcases List.mem_append.1 hl with h | h
  · obtain ⟨t, _, rfl⟩ := List.mem_map.1 h
    exact clean_data (chk_bs hd many t)
  · obtain ⟨t, ht, rfl⟩ := List.mem_map.1 h
    have ht' : t < k := by simpa using ht
    exact clean_code _ _ _ _ (hb.at _) (hb.at _) (hb.at _) (hc t ht')
theorem clean_lnP {u : Nat} {ds cs : List Int} (hd : Bs ds) (hb : Bs cs) {k many c : Nat} (hc : MayC cs k) : ∀ l ∈ lnP u ds cs k many c, Clean l := by
  intro l hl
  rcases List.mem_cons.1 hl with rfl | h
  · exact clean_size u
  · exact clean_body hd hb hc l h
theorem clean_lnR {u : Nat} {ds cs : List Int} (hd : Bs ds) (hb : Bs cs) {k many c : Nat} (hc : MayC cs k) : ∀ l ∈ lnR u ds cs k many c, Clean l := by
  intro l hl
  rcases List.mem_append.1 hl with h | h
  · exact clean_body hd hb hc l h
  · have : l = szL u := by simpa using h
    rw [this]; exact clean_size u
theorem lnP_len (u : Nat) (ds cs : List Int) (k many c : Nat) : (lnP u ds cs k many c).length = 1 + c + k := by
  simp [lnP, dls, cls]; omega
theorem lnR_of (u : Nat) (ds cs : List Int) (k many c : Nat) : lnR u ds cs k many c = (lnP u ds cs k many c).tail ++ (lnP u ds cs k many c).take 1 := by
  simp [lnR, lnP]
/-- how many lines of Data -/
def many1 (len many : Nat) : Nat := (len + (many - 1)) / many
theorem many1_lo {len many t : Nat} (hm : 0 < many) (h : t < many1 len many) : t * many < len := by
  unfold many1 at h
  have h1 : (t + 1) * many ≤ len + (many - 1) := (Nat.le_div_iff_mul_le hm).1 h
  rw [Nat.add_mul, Nat.one_mul] at h1
  omega
theorem many1_hi {len many : Nat} (hm : 0 < many) : len ≤ many1 len many * many := by
  unfold many1
  have h1 := Nat.div_add_mod (len + (many - 1)) many
  have h2 := Nat.mod_lt (len + (many - 1)) hm
  rw [Nat.mul_comm] at h1
  omega
end Go.Proofs.YtcjghnnliepjjaaGreatDoor
