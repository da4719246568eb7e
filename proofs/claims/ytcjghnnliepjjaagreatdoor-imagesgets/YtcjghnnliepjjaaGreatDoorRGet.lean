/- The document's own Get. -/
import Derived.Test.YtcjghnnliepjjaaGreatDoorGetZ
import Derived.Test.YtcjghnnliepjjaaGreatDoorBoxes
import Derived.Test.YtcjghnnliepjjaaGreatDoorRefC
import Derived.Test.YtcjghnnliepjjaaGreatDoorBkI
import Derived.Test.YtcjghnnliepjjaaGreatDoorRegs
namespace Go.Proofs.YtcjghnnliepjjaaGreatDoor
open Go Go.RowKit
set_option maxRecDepth 100000
set_option linter.unusedVariables false
set_option maxHeartbeats 2000000 in
theorem rGet_short {w : World} {sp : Option Addr} {zs : List Int} (c : Nat) (h9 : zs.length < 9) :
    Calls Tryz.prog 21 #[.slice sp zs.length c] w fun e w' => e = .returned (.tuple #[.agg #[.int .i64 0, .slice none 0 0, .slice none 0 0], .int .i64 14]) ∧ Below w.heap.size w w' := by
  have hlt : ((zs.length : Nat) : Int) < 9 := by omega
  go_enter Tryz.func21, Tryz.ntmps21
  go_wp2
  exact bodyPost_ret (v := .tuple #[.agg #[.int .i64 0, .slice none 0 0, .slice none 0 0], .int .i64 14]) (by simp [results, Tryz.results21, go_sem]) rfl ⟨rfl, (Below.refl _ _).alloc (Nat.le_refl _) _⟩
set_option maxHeartbeats 2000000 in
theorem rGet_other {w : World} {sp : Option Addr} {zs : List Int} (hs : Src w sp zs) (hb : Bs zs) (c : Nat) (hc : zs.length ≤ c) (h9 : 9 ≤ zs.length) (hne : zs.take 3 ≠ [116, 107, 49]) :
    Calls Tryz.prog 21 #[.slice sp zs.length c] w fun e w' => e = .returned (.tuple #[.agg #[.int .i64 0, .slice none 0 0, .slice none 0 0], .int .i64 14]) ∧ Below w.heap.size w w' := by
  obtain ⟨b, off, rfl⟩ := hs.some_of (by omega)
  have hlt : ¬ (((zs.length : Nat) : Int) < 9) := by omega
  have h3 : 3 ≤ c := by omega
  have hl3 : (zs.take 3).length = 3 := by simp; omega
  have hcv := conv_src (c := c) ((hs.take 3).below (alloc_below w (.cells #[.int .i64 0, .slice none 0 0, .slice none 0 0] 25))) (hb.take 3)
  rw [hl3] at hcv
  have hsn : ¬ ((⟨(us (zs.take 3)).toArray⟩ : ByteArray) = ⟨#[116, 107, 49]⟩) := fun e => hne (us_inj (hb.take 3) (Bs.cons ⟨by decide, by decide⟩ (Bs.cons ⟨by decide, by decide⟩ (Bs.cons ⟨by decide, by decide⟩ Bs.nil))) (by
    have e2 : us (zs.take 3) = [116, 107, 49] := by simpa using congrArg Array.toList (congrArg ByteArray.data e)
    exact e2.trans (by decide)))
  generalize (⟨(us (zs.take 3)).toArray⟩ : ByteArray) = t at *
  have hsb : (t.toList == [116, 107, 49]) = false := by
    rw [ByteArray.toList_eq, beq_eq_false_iff_ne]
    intro e
    apply hsn
    cases t
    simp only [ByteArray.mk.injEq]
    exact Array.toList_inj.1 e
  clear hs hb hne hl3 hsn
  go_enter Tryz.func21, Tryz.ntmps21
  go_wp2
  exact bodyPost_ret (v := .tuple #[.agg #[.int .i64 0, .slice none 0 0, .slice none 0 0], .int .i64 14]) (by simp [results, Tryz.results21, go_sem]) rfl ⟨rfl, (Below.refl _ _).alloc (Nat.le_refl _) _⟩
/-- bytes that begin so: is there an image? -/
theorem getI_mark {zs : List Int} {d k : Nat} (hb : Bs zs) (h9 : 9 ≤ zs.length) (heq : zs.take 3 = [116, 107, 49]) (hd : cnt zs 1 = d) (hk : cnt zs 2 = k) :
    getI zs = if zs.length = 9 + d + 4 * k ∧ okI (cnt zs 0) (datOf zs) (codOf zs) k = true then some (cnt zs 0, datOf zs, codOf zs, k) else none := by
  have ht : (cnt zs 2).toNat = k := by rw [hk]; exact Int.toNat_natCast k
  have h0 := (cnt_bd hb 0).1
  have hdl : zs.length = 9 + d + 4 * k → (datOf zs).length = d := fun h => by
    unfold datOf
    rw [hd, Int.toNat_natCast, List.length_take, List.length_drop]
    omega
  unfold getI
  rw [ht]
  by_cases hl : zs.length = 9 + d + 4 * k
  · have hdl := hdl hl
    by_cases hm : mayAll (codOf zs) k = true
    · by_cases hr : cnt zs 0 ≤ 4096 ∧ (d : Int) ≤ cnt zs 0 ∧ (k : Int) ≤ 1024
      · rw [if_pos ⟨(fits_iff zs).2 ⟨⟨h9, heq⟩, ⟨h0, hr.1, by rw [hd]; exact hr.2.1, by rw [hk]; exact hr.2.2⟩, by rw [hd, hk]; omega⟩, hm⟩, if_pos ⟨hl, (okI_iff _ _ _ _).2 ⟨⟨h0, hr.1, by rw [hdl]; exact hr.2.1, hr.2.2⟩, hm⟩⟩]
      · rw [if_neg (fun e => hr (by have := (fits_iff zs).1 e.1; rw [hd, hk] at this; exact ⟨this.2.1.2.1, this.2.1.2.2.1, this.2.1.2.2.2⟩)), if_neg (fun e => hr (by have := ((okI_iff _ _ _ _).1 e.2).1; rw [hdl] at this; exact ⟨this.2.1, this.2.2.1, this.2.2.2⟩))]
    · rw [if_neg (fun e => hm e.2), if_neg (fun e => hm ((okI_iff _ _ _ _).1 e.2).2)]
  · rw [if_neg (fun e => hl (by have := ((fits_iff zs).1 e.1).2.2; rw [hd, hk] at this; omega)), if_neg (fun e => hl e.1)]
theorem new_two {w W : World} {a b c d e f : Value} {t : TypeId} (h : W = ((w.alloc (.cells #[a, b, c] t)).alloc (.cells #[d, e, f] t)).drew) : W.heap[w.heap.size]? = some (.cells #[a, b, c] t (0, 0)) ∧ W.heap[w.heap.size + 1]? = some (.cells #[d, e, f] t (0, 0)) ∧ Below w.heap.size w W := by
  subst h
  have s1 := alloc_size w (.cells #[a, b, c] t)
  have b2 := alloc_below (w.alloc (.cells #[a, b, c] t)) (.cells #[d, e, f] t)
  refine ⟨(b2.block _ (by omega)).trans (alloc_at w _), ?_, (on1 (alloc_below w _) b2).drew⟩
  show ((w.alloc (.cells #[a, b, c] t)).alloc (.cells #[d, e, f] t)).heap[w.heap.size + 1]? = _
  rw [← s1]; exact alloc_at _ _
theorem three_at {w : World} {g : Nat} {a b c : Value} {t : TypeId} (h : w.heap[g]? = some (.cells #[a, b, c] t (0, 0))) : w.cell? ⟨g, 0, none⟩ = some a ∧ w.cell? ⟨g, 1, none⟩ = some b ∧ w.cell? ⟨g, 2, none⟩ = some c ∧ ∀ i, w.frozen? ⟨g, i, none⟩ = false :=
  ⟨by rw [cell_of h]; rfl, by rw [cell_of h]; rfl, by rw [cell_of h]; rfl, fun i => by simp [World.frozen?, h]⟩
set_option maxHeartbeats 4000000 in
theorem rGet_len {w : World} {sp : Option Addr} {zs : List Int} (hs : Src w sp zs) (hb : Bs zs) (c : Nat) (hc : zs.length ≤ c) (h9 : 9 ≤ zs.length) (heq : zs.take 3 = [116, 107, 49]) {d k : Nat} (hd : cnt zs 1 = d) (hk : cnt zs 2 = k) (hl : zs.length ≠ 9 + d + 4 * k) :
    Calls Tryz.prog 21 #[.slice sp zs.length c] w fun e w' => e = .returned (.tuple #[.agg #[.int .i64 0, .slice none 0 0, .slice none 0 0], .int .i64 14]) ∧ Below w.heap.size w w' := by
  obtain ⟨b, off, rfl⟩ := hs.some_of (by omega)
  have hlt : ¬ (((zs.length : Nat) : Int) < 9) := by omega
  have h3 : 3 ≤ c := by omega
  have hl3 : (zs.take 3).length = 3 := by simp; omega
  have hcv := conv_src (c := c) ((hs.take 3).below (alloc_below w (.cells #[.int .i64 0, .slice none 0 0, .slice none 0 0] 25))) (hb.take 3)
  rw [hl3, heq] at hcv
  have hcv2 : (convert 22 9 (.slice (some ⟨b, off, none⟩) 3 c)).run Tryz.prog (w.alloc (.cells #[.int .i64 0, .slice none 0 0, .slice none 0 0] 25)) = .ok (.string ⟨#[116, 107, 49]⟩) (w.alloc (.cells #[.int .i64 0, .slice none 0 0, .slice none 0 0] 25)) := hcv
  clear hcv
  have N := nine_at hs h9
  have HNN : Hid (∀ i, i < 9 → w.cell? ⟨b, off + i, none⟩ = some (.int .u8 (zs.getD i 0))) := N
  have n3 := N 3 (by omega); have n4 := N 4 (by omega); have n5 := N 5 (by omega); have n6 := N 6 (by omega); have n7 := N 7 (by omega); have n8 := N 8 (by omega)
  have e0 : cnt zs 0 = 256 * zs.getD 3 0 + zs.getD 4 0 := by show zs.getD 3 0 * 256 + zs.getD 4 0 = _; omega
  have e1 : 256 * zs.getD 5 0 + zs.getD 6 0 = (d : Int) := by rw [← hd]; show _ = zs.getD 5 0 * 256 + zs.getD 6 0; omega
  have e2 : 256 * zs.getD 7 0 + zs.getD 8 0 = (k : Int) := by rw [← hk]; show _ = zs.getD 7 0 * 256 + zs.getD 8 0; omega
  have b3 := hb.at 3; have b4 := hb.at 4; have b5 := hb.at 5; have b6 := hb.at 6; have b7 := hb.at 7; have b8 := hb.at 8
  unfold byte at b3 b4 b5 b6 b7 b8
  have hbl := cell_lt n3
  have i3 : (3 : Int) < ((zs.length : Nat) : Int) := by omega
  have i4 : (4 : Int) < ((zs.length : Nat) : Int) := by omega
  have i5 : (5 : Int) < ((zs.length : Nat) : Int) := by omega
  have i6 : (6 : Int) < ((zs.length : Nat) : Int) := by omega
  have i7 : (7 : Int) < ((zs.length : Nat) : Int) := by omega
  have i8 : (8 : Int) < ((zs.length : Nat) : Int) := by omega
  clear HNN
  generalize zs.getD 3 0 = z3 at *
  generalize zs.getD 4 0 = z4 at *
  generalize zs.getD 5 0 = z5 at *
  generalize zs.getD 6 0 = z6 at *
  generalize zs.getD 7 0 = z7 at *
  generalize zs.getD 8 0 = z8 at *
  generalize cnt zs 0 = n0 at *
  have wz3 : IntKind.i64.wrap z3 = z3 := by rw [IntKind.wrap_i64]; omega
  have wz4 : IntKind.i64.wrap z4 = z4 := by rw [IntKind.wrap_i64]; omega
  have wz5 : IntKind.i64.wrap z5 = z5 := by rw [IntKind.wrap_i64]; omega
  have wz6 : IntKind.i64.wrap z6 = z6 := by rw [IntKind.wrap_i64]; omega
  have wz7 : IntKind.i64.wrap z7 = z7 := by rw [IntKind.wrap_i64]; omega
  have wz8 : IntKind.i64.wrap z8 = z8 := by rw [IntKind.wrap_i64]; omega
  have wm3 : IntKind.i64.wrap (256 * z3) = 256 * z3 := by rw [IntKind.wrap_i64]; omega
  have wm5 : IntKind.i64.wrap (256 * z5) = 256 * z5 := by rw [IntKind.wrap_i64]; omega
  have wm7 : IntKind.i64.wrap (256 * z7) = 256 * z7 := by rw [IntKind.wrap_i64]; omega
  have s0 : IntKind.i64.wrap (256 * z3 + z4) = n0 := by rw [IntKind.wrap_i64]; omega
  have s1 : IntKind.i64.wrap (256 * z5 + z6) = (d : Int) := by rw [IntKind.wrap_i64]; omega
  have s2 : IntKind.i64.wrap (256 * z7 + z8) = (k : Int) := by rw [IntKind.wrap_i64]; omega
  have hdk : d < 65536 ∧ k < 65536 := by omega
  clear N e0 e1 e2
  have hne : (((zs.length : Nat) : Int) != 9 + (d : Int) + 4 * (k : Int)) = true := bne_iff_ne.2 (by omega)
  have hL : Hid (zs.length ≠ 9 + d + 4 * k) := hl
  clear hs hb heq hd hk hl3 hl
  go_enter Tryz.func21, Tryz.ntmps21
  go_wp2
  go_region_held3 (fun w' => w'.cell? ⟨b, off + 3, none⟩ = some (.int .u8 z3) ∧ w'.cell? ⟨b, off + 4, none⟩ = some (.int .u8 z4)) (go_keep) (fail)
  obtain ⟨W2, hW2⟩ : ∃ W2, W2 = ((w.alloc (.cells #[.int .i64 0, .slice none 0 0, .slice none 0 0] 25)).alloc (.cells #[.int .i64 n0, .slice none 0 0, .slice none 0 0] 25)).drew := ⟨_, rfl⟩
  rw [← hW2]
  obtain ⟨R2, M2, B2⟩ := new_two hW2
  clear hW2 wz3 wz4 wm3 s0 n3 n4
  have C2 := bcell B2
  have q5 := (C2.1 _ (off + 5) hbl).trans n5
  have q6 := (C2.1 _ (off + 6) hbl).trans n6
  go_wp2
  go_quiet (fail)
  obtain ⟨W3, hW3⟩ : ∃ W3, W3 = W2.drewN nq := ⟨_, rfl⟩
  rw [← hW3]
  have L3 : Below W2.heap.size W2 W3 := by rw [hW3]; exact below_drewN W2 nq
  clear hW3 C2 q5 q6
  have B3 : Below w.heap.size w W3 := on1 B2 L3
  have R3 := (L3.block _ (at_lt R2)).trans R2
  have M3 := (L3.block _ (at_lt M2)).trans M2
  have C3 := bcell B3
  have q7 := (C3.1 _ (off + 7) hbl).trans n7
  have q8 := (C3.1 _ (off + 8) hbl).trans n8
  clear R2 M2 B2 L3
  go_wp2
  go_quiet (fail)
  obtain ⟨W4, hW4⟩ : ∃ W4, W4 = W3.drewN nq := ⟨_, rfl⟩
  rw [← hW4]
  have L4 : Below W3.heap.size W3 W4 := by rw [hW4]; exact below_drewN W3 nq
  clear hW4 C3 q7 q8
  have B4 : Below w.heap.size w W4 := on1 B3 L4
  have R4 := (L4.block _ (at_lt R3)).trans R3
  have M4 := (L4.block _ (at_lt M3)).trans M3
  clear R3 M3 B3 L4
  obtain ⟨r0, r1, r2, rf⟩ := three_at R4
  go_wp2
  exact bodyPost_ret (v := .tuple #[.agg #[.int .i64 0, .slice none 0 0, .slice none 0 0], .int .i64 14]) (by simp [results, Tryz.results21, go_sem, r0, r1, r2]) rfl ⟨rfl, ((B4.setCell (by simp) _).setCell (by simp) _).setCell (by simp) _⟩
/-- the document's Get, in its loop -/
structure RSt (w wx : World) (n0 : Int) (ds cs : List Int) (dp cp : Option Addr) (dcp cc i : Nat) : Prop where
  r : wx.heap[w.heap.size]? = some (.cells #[.int .i64 0, .slice none 0 0, .slice none 0 0] 25 (0, 0))
  m : wx.heap[w.heap.size + 1]? = some (.cells #[.int .i64 n0, .slice dp ds.length dcp, .slice cp i cc] 25 (0, 0))
  d : wx.ownsRow (w.heap.size + 2) 5 1 (.slice dp ds.length dcp) ds.length (byt ds)
  c : wx.ownsRow (w.heap.size + 2) 64 4 (.slice cp i cc) i (byt (cs.take (4 * i)))
  b : Below w.heap.size w wx
theorem set_three {w : World} {g : Nat} {a b c x : Value} {t : TypeId} (h : w.heap[g]? = some (.cells #[a, b, c] t (0, 0))) : (w.setCell ⟨g, 1, none⟩ x).heap[g]? = some (.cells #[a, x, c] t (0, 0)) ∧ (w.setCell ⟨g, 2, none⟩ x).heap[g]? = some (.cells #[a, b, x] t (0, 0)) := by
  have hl := at_lt h
  have hv : w.heap[g] = .cells #[a, b, c] t (0, 0) := (Array.getElem?_eq_some_iff.1 h).2
  constructor
  · unfold World.setCell
    rw [Array.getElem?_eq_getElem (by simpa using hl), Array.getElem_modify]
    simp [hv]
  · unfold World.setCell
    rw [Array.getElem?_eq_getElem (by simpa using hl), Array.getElem_modify]
    simp [hv]
theorem set_row {w : World} {B g k s n : Nat} {t : TypeId} {v x : Value} {xs : List Value} (h : w.ownsRow B t s v n xs) (hg : g < B) : (w.setCell ⟨g, k, none⟩ x).ownsRow B t s v n xs :=
  owns_buts (l := [g]) h (Buts.cell _ _ _ _) fun q hq => by
    have := (h.lt q hq).1
    simp; omega
theorem take_next4 {cs : List Int} {i k : Nat} (hl : cs.length = 4 * k) (hi : i < k) : cs.take (4 * i) ++ [cs.getD (4 * i) 0, cs.getD (4 * i + 1) 0, cs.getD (4 * i + 2) 0, cs.getD (4 * i + 3) 0] = cs.take (4 * (i + 1)) := by
  have one : ∀ j, j < cs.length → cs.take (j + 1) = cs.take j ++ [cs.getD j 0] := fun j hj => by
    rw [List.take_succ_eq_append_getElem hj]
    simp [hj]
  rw [show 4 * (i + 1) = 4 * i + 1 + 1 + 1 + 1 by omega, one _ (by omega), one _ (by omega), one _ (by omega), one _ (by omega)]
  simp
theorem dat_src {w : World} {b off : Nat} {zs : List Int} {d : Nat} (hs : Src w (some ⟨b, off, none⟩) zs) (hd : 9 + d ≤ zs.length) : Src w (some ⟨b, off + 9, none⟩) ((zs.drop 9).take d) := by
  intro hp
  obtain ⟨b', off', e, hc⟩ := hs (by simp at hp; omega)
  simp only [Option.some.injEq, Addr.mk.injEq, and_true] at e
  obtain ⟨rfl, rfl⟩ := e
  refine ⟨b, off + 9, rfl, fun i hi => ?_⟩
  have hi' : i < d := by simp at hi; omega
  rw [Nat.add_assoc, hc (9 + i) (by omega)]
  congr 2
  simp [hi']
theorem cod_src {w : World} {b off : Nat} {zs : List Int} {d : Nat} (hs : Src w (some ⟨b, off, none⟩) zs) (hd : 9 + d ≤ zs.length) : Src w (some ⟨b, off + 9 + d, none⟩) ((zs.drop 9).drop d) := by
  intro hp
  obtain ⟨b', off', e, hc⟩ := hs (by simp at hp; omega)
  simp only [Option.some.injEq, Addr.mk.injEq, and_true] at e
  obtain ⟨rfl, rfl⟩ := e
  refine ⟨b, off + 9 + d, rfl, fun i hi => ?_⟩
  have hi' : 9 + d + i < zs.length := by simp at hi; omega
  rw [show off + 9 + d + i = off + (9 + d + i) by omega, hc (9 + d + i) hi']
  congr 2
  simp [Nat.add_assoc]
set_option maxHeartbeats 8000000 in
theorem rGet_yes {w : World} {sp : Option Addr} {zs : List Int} (hs : Src w sp zs) (hb : Bs zs) (c : Nat) (hc : zs.length ≤ c) (h9 : 9 ≤ zs.length) (heq : zs.take 3 = [116, 107, 49]) {d k : Nat} (hd : cnt zs 1 = d) (hk : cnt zs 2 = k) (hl : zs.length = 9 + d + 4 * k) (hc9 : ¬ c = 9) :
    Calls Tryz.prog 21 #[.slice sp zs.length c] w fun e w' => GetRes w w' e (getI zs) := by
  have HG : Hid (getI zs = _) := getI_mark hb h9 heq hd hk
  have hdl : (datOf zs).length = d := by
    unfold datOf
    rw [hd, Int.toNat_natCast, List.length_take, List.length_drop]
    omega
  have hcl : (codOf zs).length = 4 * k := by
    unfold codOf
    rw [hd, Int.toNat_natCast, List.length_drop, List.length_drop]
    omega
  have hdb : Bs (datOf zs) := fun z hz => hb z (List.mem_of_mem_drop (List.mem_of_mem_take hz))
  have hcb : Bs (codOf zs) := fun z hz => hb z (List.mem_of_mem_drop (List.mem_of_mem_drop hz))
  obtain ⟨b, off, rfl⟩ := hs.some_of (by omega)
  have hlt : ¬ (((zs.length : Nat) : Int) < 9) := by omega
  have h3 : 3 ≤ c := by omega
  have hl3 : (zs.take 3).length = 3 := by simp; omega
  have hcv := conv_src (c := c) ((hs.take 3).below (alloc_below w (.cells #[.int .i64 0, .slice none 0 0, .slice none 0 0] 25))) (hb.take 3)
  rw [hl3, heq] at hcv
  have hcv2 : (convert 22 9 (.slice (some ⟨b, off, none⟩) 3 c)).run Tryz.prog (w.alloc (.cells #[.int .i64 0, .slice none 0 0, .slice none 0 0] 25)) = .ok (.string ⟨#[116, 107, 49]⟩) (w.alloc (.cells #[.int .i64 0, .slice none 0 0, .slice none 0 0] 25)) := hcv
  clear hcv
  have N := nine_at hs h9
  have HNN : Hid (∀ i, i < 9 → w.cell? ⟨b, off + i, none⟩ = some (.int .u8 (zs.getD i 0))) := N
  have n3 := N 3 (by omega); have n4 := N 4 (by omega); have n5 := N 5 (by omega); have n6 := N 6 (by omega); have n7 := N 7 (by omega); have n8 := N 8 (by omega)
  have e0 : cnt zs 0 = 256 * zs.getD 3 0 + zs.getD 4 0 := by show zs.getD 3 0 * 256 + zs.getD 4 0 = _; omega
  have e1 : 256 * zs.getD 5 0 + zs.getD 6 0 = (d : Int) := by rw [← hd]; show _ = zs.getD 5 0 * 256 + zs.getD 6 0; omega
  have e2 : 256 * zs.getD 7 0 + zs.getD 8 0 = (k : Int) := by rw [← hk]; show _ = zs.getD 7 0 * 256 + zs.getD 8 0; omega
  have b3 := hb.at 3; have b4 := hb.at 4; have b5 := hb.at 5; have b6 := hb.at 6; have b7 := hb.at 7; have b8 := hb.at 8
  unfold byte at b3 b4 b5 b6 b7 b8
  have hbl := cell_lt n3
  have i3 : (3 : Int) < ((zs.length : Nat) : Int) := by omega
  have i4 : (4 : Int) < ((zs.length : Nat) : Int) := by omega
  have i5 : (5 : Int) < ((zs.length : Nat) : Int) := by omega
  have i6 : (6 : Int) < ((zs.length : Nat) : Int) := by omega
  have i7 : (7 : Int) < ((zs.length : Nat) : Int) := by omega
  have i8 : (8 : Int) < ((zs.length : Nat) : Int) := by omega
  clear HNN
  generalize zs.getD 3 0 = z3 at *
  generalize zs.getD 4 0 = z4 at *
  generalize zs.getD 5 0 = z5 at *
  generalize zs.getD 6 0 = z6 at *
  generalize zs.getD 7 0 = z7 at *
  generalize zs.getD 8 0 = z8 at *
  generalize cnt zs 0 = n0 at *
  have wz3 : IntKind.i64.wrap z3 = z3 := by rw [IntKind.wrap_i64]; omega
  have wz4 : IntKind.i64.wrap z4 = z4 := by rw [IntKind.wrap_i64]; omega
  have wz5 : IntKind.i64.wrap z5 = z5 := by rw [IntKind.wrap_i64]; omega
  have wz6 : IntKind.i64.wrap z6 = z6 := by rw [IntKind.wrap_i64]; omega
  have wz7 : IntKind.i64.wrap z7 = z7 := by rw [IntKind.wrap_i64]; omega
  have wz8 : IntKind.i64.wrap z8 = z8 := by rw [IntKind.wrap_i64]; omega
  have wm3 : IntKind.i64.wrap (256 * z3) = 256 * z3 := by rw [IntKind.wrap_i64]; omega
  have wm5 : IntKind.i64.wrap (256 * z5) = 256 * z5 := by rw [IntKind.wrap_i64]; omega
  have wm7 : IntKind.i64.wrap (256 * z7) = 256 * z7 := by rw [IntKind.wrap_i64]; omega
  have s0 : IntKind.i64.wrap (256 * z3 + z4) = n0 := by rw [IntKind.wrap_i64]; omega
  have s1 : IntKind.i64.wrap (256 * z5 + z6) = (d : Int) := by rw [IntKind.wrap_i64]; omega
  have s2 : IntKind.i64.wrap (256 * z7 + z8) = (k : Int) := by rw [IntKind.wrap_i64]; omega
  have hdk : d < 65536 ∧ k < 65536 := by omega
  clear N e0 e1 e2
  have hne : (((zs.length : Nat) : Int) != 9 + (d : Int) + 4 * (k : Int)) = false := by rw [hl]; simp
  have HL : Hid (zs.length = 9 + d + 4 * k) := hl
  have SD : Hid (Src w (some ⟨b, off + 9, none⟩) (datOf zs)) := by
    have := dat_src (d := d) hs (by omega)
    unfold datOf
    rw [hd, Int.toNat_natCast]
    exact this
  have SC : Hid (Src w (some ⟨b, off + 9 + d, none⟩) (codOf zs)) := by
    have := cod_src (d := d) hs (by omega)
    unfold codOf
    rw [hd, Int.toNat_natCast]
    exact this
  have hcI : ((zs.length : Nat) : Int) ≤ (c : Int) := by omega
  have hlI : ((zs.length : Nat) : Int) = 9 + (d : Int) + 4 * (k : Int) := by omega
  have HLI : Hid (((zs.length : Nat) : Int) = 9 + (d : Int) + 4 * (k : Int)) := hlI
  have i9b : 9 + (d : Int) ≤ (c : Int) := by omega
  have i9a : (9 : Int) ≤ 9 + (d : Int) := by omega
  have w9 : IntKind.i64.wrap (9 + (d : Int)) = 9 + (d : Int) := by rw [IntKind.wrap_i64]; omega
  have hlen9 : 9 + d ≤ c := by omega
  have HCB : Hid (Bs (codOf zs)) := hcb
  have HDB : Hid (Bs (datOf zs)) := hdb
  have HCL : Hid ((codOf zs).length = 4 * k) := hcl
  clear hs hb heq hd hk hl3 hl hlI hcb hdb hcl
  generalize datOf zs = ds at *
  generalize codOf zs = cs at *
  subst hdl
  go_enter Tryz.func21, Tryz.ntmps21
  go_wp2
  go_region_held3 (fun w' => w'.cell? ⟨b, off + 3, none⟩ = some (.int .u8 z3) ∧ w'.cell? ⟨b, off + 4, none⟩ = some (.int .u8 z4)) (go_keep) (fail)
  obtain ⟨W2, hW2⟩ : ∃ W2, W2 = ((w.alloc (.cells #[.int .i64 0, .slice none 0 0, .slice none 0 0] 25)).alloc (.cells #[.int .i64 n0, .slice none 0 0, .slice none 0 0] 25)).drew := ⟨_, rfl⟩
  rw [← hW2]
  obtain ⟨R2, M2, B2⟩ := new_two hW2
  clear hW2 wz3 wz4 wm3 s0 n3 n4
  have C2 := bcell B2
  have q5 := (C2.1 _ (off + 5) hbl).trans n5
  have q6 := (C2.1 _ (off + 6) hbl).trans n6
  go_wp2
  go_quiet (fail)
  obtain ⟨W3, hW3⟩ : ∃ W3, W3 = W2.drewN nq := ⟨_, rfl⟩
  rw [← hW3]
  have L3 : Below W2.heap.size W2 W3 := by rw [hW3]; exact below_drewN W2 nq
  clear hW3 C2 q5 q6
  have B3 : Below w.heap.size w W3 := on1 B2 L3
  have R3 := (L3.block _ (at_lt R2)).trans R2
  have M3 := (L3.block _ (at_lt M2)).trans M2
  have C3 := bcell B3
  have q7 := (C3.1 _ (off + 7) hbl).trans n7
  have q8 := (C3.1 _ (off + 8) hbl).trans n8
  clear R2 M2 B2 L3
  go_wp2
  go_quiet (fail)
  obtain ⟨W4, hW4⟩ : ∃ W4, W4 = W3.drewN nq := ⟨_, rfl⟩
  rw [← hW4]
  have L4 : Below W3.heap.size W3 W4 := by rw [hW4]; exact below_drewN W3 nq
  clear hW4 C3 q7 q8
  have B4 : Below w.heap.size w W4 := on1 B3 L4
  have R4 := (L4.block _ (at_lt R3)).trans R3
  have M4 := (L4.block _ (at_lt M3)).trans M3
  clear R3 M3 B3 L4
  have HM4 : Hid (W4.heap[w.heap.size + 1]? = some (.cells #[.int .i64 n0, .slice none 0 0, .slice none 0 0] 25 (0, 0))) := M4
  obtain ⟨m0, m1, m2, mf⟩ := three_at M4
  have hM4 := at_lt M4
  have hca := @above_cell
  have S4 : Hid (Src W4 (some ⟨b, off + 9, none⟩) ds) := SD.out.below B4
  clear M4
  go_wp2
  refine Lx.wp_calm_then 6 3 (by kernel_rfl) rfl (by kernel_rfl) ?_
  simp only [List.take_succ_cons, List.take_zero, List.drop_succ_cons, List.drop_zero]
  repeat (go_big_quiet_step (fail))
  refine wpQuiet_nil ?_
  intro W5 hb5
  have HM5 : Hid (W5.heap[w.heap.size + 1]? = _) := (hb5.block _ hM4).trans HM4.out
  have R5 := (hb5.block _ (at_lt R4)).trans R4
  have B5 : Hid (Below w.heap.size w W5) := on1 B4 hb5
  have S5 : Hid (Src W5 (some ⟨b, off + 9, none⟩) ds) := S4.out.below hb5
  obtain ⟨p0, p1, p2, pf⟩ := three_at HM5.out
  have hz5 : w.heap.size + 2 ≤ W5.heap.size := at_lt HM5.out
  have N0 : Hid (W5.ownsRow (w.heap.size + 2) 5 1 (.slice none 0 0) 0 (byt [])) := ⟨rfl, Or.inl ⟨rfl, rfl⟩⟩
  clear m0 m1 m2 mf hca HM4 hb5 S4
  rw [show 9 + ds.length - 9 = ds.length by omega]
  go_wp2_with (at_builtin; refine wpList_more rfl (.tmp 60) (.tmp 64) rfl (zs := ds) rfl rfl N0.out S5.out (fun h => by cases h) (by omega) hz5 ?_; intro v6 W6 O6 G6; obtain ⟨dp, dcp, e6, _⟩ := owns_form O6.out; subst e6; have L6 : Below (w.heap.size + 2) W5 W6 := own_grown N0.out G6.out hz5; have M6 := (L6.block _ (by omega)).trans HM5.out; obtain ⟨u0, u1, u2, uf⟩ := three_at M6)
  have hM : w.heap.size + 1 < W6.heap.size := at_lt M6
  have R6 := (L6.block _ (by omega)).trans R5
  have HSt : Hid (RSt w (W6.setCell ⟨w.heap.size + 1, 1, none⟩ (.slice dp ds.length dcp)) n0 ds cs dp none dcp 0 0) := by
    have o6 := O6.out
    simp only [Nat.zero_add, List.nil_append] at o6
    refine ⟨?_, (set_three M6).1, set_row o6 (by omega), ⟨rfl, Or.inl ⟨rfl, rfl⟩⟩, ?_⟩
    · rw [heap_else _ _ _ _ _ (by omega)]; exact R6
    · exact ((B5.out.trans (L6.mono (by omega))).setCell (by simp) _)
  clear u0 u1 u2 uf p0 p1 p2 pf R4 R5 R6 M6 HM5 B4 B5 S5 N0 O6 G6 L6 hM hz5 hM4
  go_loopg [7, 8] k (fun gk s7 s8 wx => ∃ (i : Nat) (cp : Option Addr) (cc : Nat), i + gk = k ∧ s7 = .int .i64 (i : Nat) ∧ Hid (RSt w wx n0 ds cs dp cp dcp cc i))
  case atStart => exact ⟨0, none, 0, by omega, rfl, HSt⟩
  case round =>
    clear HSt
    obtain ⟨i, cp, cc, hik, rfl, HSt⟩ := hrel
    obtain ⟨m0, m1, m2, mf⟩ := three_at HSt.out.m
    have hMl : w.heap.size + 1 < wr.heap.size := at_lt HSt.out.m
    cases gk with
    | zero =>
      have hk' : i = k := by omega
      subst hk'
      have cRow := HSt.out.c
      rw [List.take_of_length_le (by rw [HCL.out]; omega)] at cRow
      have cC := rCheck_img (size := n0) ⟨src_own HSt.out.d, src_own cRow, HCL.out, HDB.out, HCB.out⟩ dcp cc
      have HR : Hid (wr.ownsRow (w.heap.size + 2) 64 4 (.slice cp i cc) i (byt cs)) := cRow
      clear cRow
      cases ho : okI n0 ds cs i
      · have HG2 : Hid (getI zs = none) := by show _ = _; rw [HG.out, if_neg (fun e => by rw [ho] at e; exact absurd e.2 (by decide))]
        rw [ho] at cC
        clear ho
        go_wp2_with (go_at_call 13; refine cC.mono ?_; rintro e w10 ⟨rfl, hb10⟩; obtain ⟨r0, r1, r2, rf⟩ := three_at ((hb10.block _ (at_lt HSt.out.r)).trans HSt.out.r))
        refine bodyPost_ret (v := .tuple #[.agg #[.int .i64 0, .slice none 0 0, .slice none 0 0], .int .i64 14]) (by simp [results, Tryz.results21, go_sem, r0, r1, r2]) rfl ?_
        show GetRes w _ _ (getI zs)
        rw [HG2.out]
        exact ⟨rfl, (((on1 HSt.out.b hb10).setCell (by simp) _).setCell (by simp) _).setCell (by simp) _⟩
      · have HG2 : Hid (getI zs = some (n0, ds, cs, i)) := by show _ = _; rw [HG.out, if_pos ⟨HL.out, ho⟩]
        rw [ho] at cC
        clear ho
        go_wp2_with (go_at_call 13; refine cC.mono ?_; rintro e w10 ⟨rfl, hb10⟩; obtain ⟨r0, r1, r2, rf⟩ := three_at ((hb10.block _ (at_lt HSt.out.r)).trans HSt.out.r); obtain ⟨k0, k1, k2, kf⟩ := three_at ((hb10.block _ hMl).trans HSt.out.m))
        refine bodyPost_ret (v := .tuple #[.agg #[.int .i64 n0, .slice dp ds.length dcp, .slice cp i cc], .int .i64 0]) (by simp [results, Tryz.results21, go_sem, r0, r1, r2]) rfl ?_
        show GetRes w _ _ (getI zs)
        rw [HG2.out]
        refine ⟨_, _, rfl, ?_, ?_, (((on1 HSt.out.b hb10).setCell (by simp) _).setCell (by simp) _).setCell (by simp) _⟩
        · exact owns_base (set_row (set_row (set_row (owns_below HSt.out.d hb10) (by omega)) (by omega)) (by omega)) (by omega)
        · exact owns_base (set_row (set_row (set_row (owns_below HR.out hb10) (by omega)) (by omega)) (by omega)) (by omega)
    | succ g =>
      have hi : i < k := by omega
      obtain ⟨A, hA⟩ : ∃ A : Nat, 9 + (ds.length : Int) + 4 * (i : Int) = (A : Int) := ⟨9 + ds.length + 4 * i, by omega⟩
      have HA : Hid (A = 9 + ds.length + 4 * i) := by show _ = _; omega
      have hlz := HL.out
      have jA : (A : Int) < ((zs.length : Nat) : Int) := by omega
      have jB : (A : Int) + 1 < ((zs.length : Nat) : Int) := by omega
      have jC : (A : Int) + 2 < ((zs.length : Nat) : Int) := by omega
      have jD : (A : Int) + 3 < ((zs.length : Nat) : Int) := by omega
      have tC : ((A : Int) + 2).toNat = A + 2 := by omega
      have tD : ((A : Int) + 3).toNat = A + 3 := by omega
      have jE : (0 : Int) ≤ (A : Int) := by omega
      have jF : (0 : Int) ≤ (A : Int) + 1 := by omega
      have jG : (0 : Int) ≤ (A : Int) + 2 := by omega
      have jH : (0 : Int) ≤ (A : Int) + 3 := by omega
      have vA : IntKind.i64.wrap (A : Int) = (A : Int) := by rw [IntKind.wrap_i64]; omega
      have vB : IntKind.i64.wrap ((A : Int) + 1) = (A : Int) + 1 := by rw [IntKind.wrap_i64]; omega
      have vC : IntKind.i64.wrap ((A : Int) + 2) = (A : Int) + 2 := by rw [IntKind.wrap_i64]; omega
      have vD : IntKind.i64.wrap ((A : Int) + 3) = (A : Int) + 3 := by rw [IntKind.wrap_i64]; omega
      have v4 : IntKind.i64.wrap (4 * (i : Int)) = 4 * (i : Int) := by rw [IntKind.wrap_i64]; omega
      have vS : IntKind.i64.wrap (9 + (ds.length : Int) + 4 * (i : Int)) = (A : Int) := by rw [hA]; exact vA
      have SX := SC.out.below HSt.out.b
      have cl := HCL.out
      obtain ⟨b', off', eq, hcc⟩ := SX (by omega)
      simp only [Option.some.injEq, Addr.mk.injEq, and_true] at eq
      obtain ⟨rfl, rfl⟩ := eq
      have q0 := hcc (4 * i) (by omega); have q1 := hcc (4 * i + 1) (by omega); have q2 := hcc (4 * i + 2) (by omega); have q3 := hcc (4 * i + 3) (by omega)
      rw [show off + 9 + ds.length + (4 * i) = off + A by have := HA.out; omega] at q0
      rw [show off + 9 + ds.length + (4 * i + 1) = off + (A + 1) by have := HA.out; omega] at q1
      rw [show off + 9 + ds.length + (4 * i + 2) = off + (A + 2) by have := HA.out; omega] at q2
      rw [show off + 9 + ds.length + (4 * i + 3) = off + (A + 3) by have := HA.out; omega] at q3
      have HT : Hid _ := take_four cs i (by omega)
      have hbw := cell_lt q0
      generalize cs.getD (4 * i) 0 = y0 at *
      generalize cs.getD (4 * i + 1) 0 = y1 at *
      generalize cs.getD (4 * i + 2) 0 = y2 at *
      generalize cs.getD (4 * i + 3) 0 = y3 at *
      clear hcc SX hlz cl
      have hca := @above_cell
      go_wp2
      refine wp_load_lex (fun w' => w'.cell? ⟨w.heap.size + 1, 2, none⟩ = some (.slice cp i cc)) (.pointer (some ⟨w.heap.size + 1, 2, none⟩)) (.slice cp i cc) 20 3 (by kernel_rfl) rfl rfl (by kernel_rfl) (fun w' hb => ((bcell hb).1 _ _ hMl).trans m2) (fun c a w hh => hh) (Or.inl ⟨rfl, fun w => by go_simp⟩) (fun c a w hh => hh) (Or.inl ⟨rfl, fun w hw => by go_simp⟩) ?_
      simp only [List.take_succ_cons, List.take_zero, Act.put, List.setIfInBounds_toArray, List.set_cons_succ, List.set_cons_zero]
      repeat (go_big_quiet_step (fail))
      refine wpQuiet_nil ?_
      intro W8 hb8 K hK
      have St8 : Hid (RSt w W8 n0 ds cs dp cp dcp cc i) := ⟨(hb8.block _ (at_lt HSt.out.r)).trans HSt.out.r, (hb8.block _ hMl).trans HSt.out.m, owns_below HSt.out.d hb8, owns_below HSt.out.c hb8, on1 HSt.out.b hb8⟩
      have z8 : w.heap.size + 2 ≤ W8.heap.size := at_lt St8.out.m
      have x2 := (three_at St8.out.m).2.2.1
      clear q0 q1 q2 q3 m0 m1 m2 mf hca hb8 HSt
      go_simp
      refine hK _ _ ⟨?_, ?_⟩
      · show (W8.alloc _).cell? _ = _
        rw [(bcell (alloc_below W8 _)).1 _ _ (by omega)]; exact x2
      clear x2 hK K
      go_wp2_with (at_builtin; refine wpList_moreI rfl (.tmp 78) (.tmp 99) rfl (t := i + 1) (zs := [y0, y1, y2, y3]) rfl rfl (owns_below St8.out.c (alloc_below _ _)) (Src.four _ _ _ _ _ _) rfl rfl (by omega) (by rw [alloc_size]; omega) ?_; intro p9 c9 W9 O9 G9; have L9 : Below (w.heap.size + 2) W8 W9 := ((alloc_below W8 _).mono z8).trans (own_grown (owns_below St8.out.c (alloc_below _ _)) G9.out (by rw [alloc_size]; omega)); have M9 := (L9.block _ (by omega)).trans St8.out.m; obtain ⟨u0, u1, u2, uf⟩ := three_at M9)
      go_roundg g
      case measure => omega
      case rel =>
        refine ⟨i + 1, p9, c9, by omega, by go_num, ?_⟩
        have o9 := O9.out
        rw [HT.out] at o9
        refine ⟨?_, (set_three M9).2, set_row (owns_apart (owns_below St8.out.d (alloc_below _ _)) (owns_below St8.out.c (alloc_below _ _)) (by decide) G9.out) (by omega), set_row o9 (by omega), ?_⟩
        · rw [heap_else _ _ _ _ _ (by omega)]; exact (L9.block _ (by omega)).trans St8.out.r
        · exact (St8.out.b.trans (L9.mono (by omega))).setCell (by simp) _
set_option maxHeartbeats 8000000 in
theorem rGet_nine {w : World} {sp : Option Addr} {zs : List Int} (hs : Src w sp zs) (hb : Bs zs) (c : Nat) (hc : zs.length ≤ c) (h9 : 9 ≤ zs.length) (heq : zs.take 3 = [116, 107, 49]) {d k : Nat} (hd : cnt zs 1 = d) (hk : cnt zs 2 = k) (hl : zs.length = 9 + d + 4 * k) (hc9 : c = 9) :
    Calls Tryz.prog 21 #[.slice sp zs.length c] w fun e w' => GetRes w w' e (getI zs) := by
  subst hc9
  have HG : Hid (getI zs = _) := getI_mark hb h9 heq hd hk
  have hdl : (datOf zs).length = d := by
    unfold datOf
    rw [hd, Int.toNat_natCast, List.length_take, List.length_drop]
    omega
  have hcl : (codOf zs).length = 4 * k := by
    unfold codOf
    rw [hd, Int.toNat_natCast, List.length_drop, List.length_drop]
    omega
  have hdb : Bs (datOf zs) := fun z hz => hb z (List.mem_of_mem_drop (List.mem_of_mem_take hz))
  have hcb : Bs (codOf zs) := fun z hz => hb z (List.mem_of_mem_drop (List.mem_of_mem_drop hz))
  obtain ⟨b, off, rfl⟩ := hs.some_of (by omega)
  have hlt : ¬ (((zs.length : Nat) : Int) < 9) := by omega
  have h3 : 3 ≤ 9 := by omega
  have hl3 : (zs.take 3).length = 3 := by simp; omega
  have hcv := conv_src (c := 9) ((hs.take 3).below (alloc_below w (.cells #[.int .i64 0, .slice none 0 0, .slice none 0 0] 25))) (hb.take 3)
  rw [hl3, heq] at hcv
  have hcv2 : (convert 22 9 (.slice (some ⟨b, off, none⟩) 3 9)).run Tryz.prog (w.alloc (.cells #[.int .i64 0, .slice none 0 0, .slice none 0 0] 25)) = .ok (.string ⟨#[116, 107, 49]⟩) (w.alloc (.cells #[.int .i64 0, .slice none 0 0, .slice none 0 0] 25)) := hcv
  clear hcv
  have N := nine_at hs h9
  have HNN : Hid (∀ i, i < 9 → w.cell? ⟨b, off + i, none⟩ = some (.int .u8 (zs.getD i 0))) := N
  have n3 := N 3 (by omega); have n4 := N 4 (by omega); have n5 := N 5 (by omega); have n6 := N 6 (by omega); have n7 := N 7 (by omega); have n8 := N 8 (by omega)
  have e0 : cnt zs 0 = 256 * zs.getD 3 0 + zs.getD 4 0 := by show zs.getD 3 0 * 256 + zs.getD 4 0 = _; omega
  have e1 : 256 * zs.getD 5 0 + zs.getD 6 0 = (d : Int) := by rw [← hd]; show _ = zs.getD 5 0 * 256 + zs.getD 6 0; omega
  have e2 : 256 * zs.getD 7 0 + zs.getD 8 0 = (k : Int) := by rw [← hk]; show _ = zs.getD 7 0 * 256 + zs.getD 8 0; omega
  have b3 := hb.at 3; have b4 := hb.at 4; have b5 := hb.at 5; have b6 := hb.at 6; have b7 := hb.at 7; have b8 := hb.at 8
  unfold byte at b3 b4 b5 b6 b7 b8
  have hbl := cell_lt n3
  have i3 : (3 : Int) < ((zs.length : Nat) : Int) := by omega
  have i4 : (4 : Int) < ((zs.length : Nat) : Int) := by omega
  have i5 : (5 : Int) < ((zs.length : Nat) : Int) := by omega
  have i6 : (6 : Int) < ((zs.length : Nat) : Int) := by omega
  have i7 : (7 : Int) < ((zs.length : Nat) : Int) := by omega
  have i8 : (8 : Int) < ((zs.length : Nat) : Int) := by omega
  clear HNN
  generalize zs.getD 3 0 = z3 at *
  generalize zs.getD 4 0 = z4 at *
  generalize zs.getD 5 0 = z5 at *
  generalize zs.getD 6 0 = z6 at *
  generalize zs.getD 7 0 = z7 at *
  generalize zs.getD 8 0 = z8 at *
  generalize cnt zs 0 = n0 at *
  have wz3 : IntKind.i64.wrap z3 = z3 := by rw [IntKind.wrap_i64]; omega
  have wz4 : IntKind.i64.wrap z4 = z4 := by rw [IntKind.wrap_i64]; omega
  have wz5 : IntKind.i64.wrap z5 = z5 := by rw [IntKind.wrap_i64]; omega
  have wz6 : IntKind.i64.wrap z6 = z6 := by rw [IntKind.wrap_i64]; omega
  have wz7 : IntKind.i64.wrap z7 = z7 := by rw [IntKind.wrap_i64]; omega
  have wz8 : IntKind.i64.wrap z8 = z8 := by rw [IntKind.wrap_i64]; omega
  have wm3 : IntKind.i64.wrap (256 * z3) = 256 * z3 := by rw [IntKind.wrap_i64]; omega
  have wm5 : IntKind.i64.wrap (256 * z5) = 256 * z5 := by rw [IntKind.wrap_i64]; omega
  have wm7 : IntKind.i64.wrap (256 * z7) = 256 * z7 := by rw [IntKind.wrap_i64]; omega
  have s0 : IntKind.i64.wrap (256 * z3 + z4) = n0 := by rw [IntKind.wrap_i64]; omega
  have s1 : IntKind.i64.wrap (256 * z5 + z6) = (d : Int) := by rw [IntKind.wrap_i64]; omega
  have s2 : IntKind.i64.wrap (256 * z7 + z8) = (k : Int) := by rw [IntKind.wrap_i64]; omega
  have hdk : d < 65536 ∧ k < 65536 := by omega
  clear N e0 e1 e2
  have hne : (((zs.length : Nat) : Int) != 9 + (d : Int) + 4 * (k : Int)) = false := by rw [hl]; simp
  have HL : Hid (zs.length = 9 + d + 4 * k) := hl
  have SD : Hid (Src w (some ⟨b, off + 9, none⟩) (datOf zs)) := by
    have := dat_src (d := d) hs (by omega)
    unfold datOf
    rw [hd, Int.toNat_natCast]
    exact this
  have SC : Hid (Src w (some ⟨b, off + 9 + d, none⟩) (codOf zs)) := by
    have := cod_src (d := d) hs (by omega)
    unfold codOf
    rw [hd, Int.toNat_natCast]
    exact this
  have hcI : ((zs.length : Nat) : Int) ≤ (9 : Int) := by omega
  have hlI : ((zs.length : Nat) : Int) = 9 + (d : Int) + 4 * (k : Int) := by omega
  have HLI : Hid (((zs.length : Nat) : Int) = 9 + (d : Int) + 4 * (k : Int)) := hlI
  have i9b : 9 + (d : Int) ≤ (9 : Int) := by omega
  have i9a : (9 : Int) ≤ 9 + (d : Int) := by omega
  have w9 : IntKind.i64.wrap (9 + (d : Int)) = 9 + (d : Int) := by rw [IntKind.wrap_i64]; omega
  have hlen9 : 9 + d ≤ 9 := by omega
  have HCB : Hid (Bs (codOf zs)) := hcb
  have HDB : Hid (Bs (datOf zs)) := hdb
  have HCL : Hid ((codOf zs).length = 4 * k) := hcl
  clear hs hb heq hd hk hl3 hl hlI hcb hdb hcl
  generalize datOf zs = ds at *
  generalize codOf zs = cs at *
  subst hdl
  obtain rfl : ds = [] := List.eq_nil_of_length_eq_zero (by omega)
  go_enter Tryz.func21, Tryz.ntmps21
  go_wp2
  go_region_held3 (fun w' => w'.cell? ⟨b, off + 3, none⟩ = some (.int .u8 z3) ∧ w'.cell? ⟨b, off + 4, none⟩ = some (.int .u8 z4)) (go_keep) (fail)
  obtain ⟨W2, hW2⟩ : ∃ W2, W2 = ((w.alloc (.cells #[.int .i64 0, .slice none 0 0, .slice none 0 0] 25)).alloc (.cells #[.int .i64 n0, .slice none 0 0, .slice none 0 0] 25)).drew := ⟨_, rfl⟩
  rw [← hW2]
  obtain ⟨R2, M2, B2⟩ := new_two hW2
  clear hW2 wz3 wz4 wm3 s0 n3 n4
  have C2 := bcell B2
  have q5 := (C2.1 _ (off + 5) hbl).trans n5
  have q6 := (C2.1 _ (off + 6) hbl).trans n6
  go_wp2
  go_quiet (fail)
  obtain ⟨W3, hW3⟩ : ∃ W3, W3 = W2.drewN nq := ⟨_, rfl⟩
  rw [← hW3]
  have L3 : Below W2.heap.size W2 W3 := by rw [hW3]; exact below_drewN W2 nq
  clear hW3 C2 q5 q6
  have B3 : Below w.heap.size w W3 := on1 B2 L3
  have R3 := (L3.block _ (at_lt R2)).trans R2
  have M3 := (L3.block _ (at_lt M2)).trans M2
  have C3 := bcell B3
  have q7 := (C3.1 _ (off + 7) hbl).trans n7
  have q8 := (C3.1 _ (off + 8) hbl).trans n8
  clear R2 M2 B2 L3
  go_wp2
  go_quiet (fail)
  obtain ⟨W4, hW4⟩ : ∃ W4, W4 = W3.drewN nq := ⟨_, rfl⟩
  rw [← hW4]
  have L4 : Below W3.heap.size W3 W4 := by rw [hW4]; exact below_drewN W3 nq
  clear hW4 C3 q7 q8
  have B4 : Below w.heap.size w W4 := on1 B3 L4
  have R4 := (L4.block _ (at_lt R3)).trans R3
  have M4 := (L4.block _ (at_lt M3)).trans M3
  clear R3 M3 B3 L4
  have HM4 : Hid (W4.heap[w.heap.size + 1]? = some (.cells #[.int .i64 n0, .slice none 0 0, .slice none 0 0] 25 (0, 0))) := M4
  obtain ⟨m0, m1, m2, mf⟩ := three_at M4
  have hM4 := at_lt M4
  have hca := @above_cell
  have S4 : Hid (Src W4 (some ⟨b, off + 9, none⟩) []) := SD.out.below B4
  clear M4
  go_wp2
  refine Lx.wp_calm_then 6 3 (by kernel_rfl) rfl (by kernel_rfl) ?_
  simp only [List.take_succ_cons, List.take_zero, List.drop_succ_cons, List.drop_zero]
  repeat (go_big_quiet_step (fail))
  refine wpQuiet_nil ?_
  intro W5 hb5
  have HM5 : Hid (W5.heap[w.heap.size + 1]? = _) := (hb5.block _ hM4).trans HM4.out
  have R5 := (hb5.block _ (at_lt R4)).trans R4
  have B5 : Hid (Below w.heap.size w W5) := on1 B4 hb5
  have S5 : Hid (Src W5 (some ⟨b, off + 9, none⟩) []) := S4.out.below hb5
  obtain ⟨p0, p1, p2, pf⟩ := three_at HM5.out
  have hz5 : w.heap.size + 2 ≤ W5.heap.size := at_lt HM5.out
  have N0 : Hid (W5.ownsRow (w.heap.size + 2) 5 1 (.slice none 0 0) 0 (byt [])) := ⟨rfl, Or.inl ⟨rfl, rfl⟩⟩
  clear m0 m1 m2 mf hca HM4 hb5 S4
  go_wp2_with (at_builtin; refine wpList_more rfl (.tmp 60) (.tmp 64) rfl (zs := []) rfl rfl N0.out (fun h => absurd h (by omega)) (fun h => by cases h) (by omega) hz5 ?_; intro v6 W6 O6 G6; obtain ⟨dp, dcp, e6, _⟩ := owns_form O6.out; subst e6; have L6 : Below (w.heap.size + 2) W5 W6 := own_grown N0.out G6.out hz5; have M6 := (L6.block _ (by omega)).trans HM5.out; obtain ⟨u0, u1, u2, uf⟩ := three_at M6)
  have hM : w.heap.size + 1 < W6.heap.size := at_lt M6
  have R6 := (L6.block _ (by omega)).trans R5
  have HSt : Hid (RSt w (W6.setCell ⟨w.heap.size + 1, 1, none⟩ (.slice dp ([] : List Int).length dcp)) n0 [] cs dp none dcp 0 0) := by
    have o6 := O6.out
    simp only [Nat.zero_add, List.nil_append] at o6
    refine ⟨?_, (set_three M6).1, set_row o6 (by omega), ⟨rfl, Or.inl ⟨rfl, rfl⟩⟩, ?_⟩
    · rw [heap_else _ _ _ _ _ (by omega)]; exact R6
    · exact ((B5.out.trans (L6.mono (by omega))).setCell (by simp) _)
  clear u0 u1 u2 uf p0 p1 p2 pf R4 R5 R6 M6 HM5 B4 B5 S5 N0 O6 G6 L6 hM hz5 hM4
  go_loopg [7, 8] k (fun gk s7 s8 wx => ∃ (i : Nat) (cp : Option Addr) (cc : Nat), i + gk = k ∧ s7 = .int .i64 (i : Nat) ∧ Hid (RSt w wx n0 [] cs dp cp dcp cc i))
  case atStart => exact ⟨0, none, 0, by omega, rfl, HSt⟩
  case round =>
    clear HSt
    obtain ⟨i, cp, cc, hik, rfl, HSt⟩ := hrel
    obtain ⟨m0, m1, m2, mf⟩ := three_at HSt.out.m
    have hMl : w.heap.size + 1 < wr.heap.size := at_lt HSt.out.m
    cases gk with
    | zero =>
      have hk' : i = k := by omega
      subst hk'
      have cRow := HSt.out.c
      rw [List.take_of_length_le (by rw [HCL.out]; omega)] at cRow
      have cC := rCheck_img (size := n0) ⟨src_own HSt.out.d, src_own cRow, HCL.out, HDB.out, HCB.out⟩ dcp cc
      have HR : Hid (wr.ownsRow (w.heap.size + 2) 64 4 (.slice cp i cc) i (byt cs)) := cRow
      clear cRow
      cases ho : okI n0 [] cs i
      · have HG2 : Hid (getI zs = none) := by show _ = _; rw [HG.out, if_neg (fun e => by rw [ho] at e; exact absurd e.2 (by decide))]
        rw [ho] at cC
        clear ho
        go_wp2_with (go_at_call 13; refine cC.mono ?_; rintro e w10 ⟨rfl, hb10⟩; obtain ⟨r0, r1, r2, rf⟩ := three_at ((hb10.block _ (at_lt HSt.out.r)).trans HSt.out.r))
        refine bodyPost_ret (v := .tuple #[.agg #[.int .i64 0, .slice none 0 0, .slice none 0 0], .int .i64 14]) (by simp [results, Tryz.results21, go_sem, r0, r1, r2]) rfl ?_
        show GetRes w _ _ (getI zs)
        rw [HG2.out]
        exact ⟨rfl, (((on1 HSt.out.b hb10).setCell (by simp) _).setCell (by simp) _).setCell (by simp) _⟩
      · have HG2 : Hid (getI zs = some (n0, [], cs, i)) := by show _ = _; rw [HG.out, if_pos ⟨HL.out, ho⟩]
        rw [ho] at cC
        clear ho
        go_wp2_with (go_at_call 13; refine cC.mono ?_; rintro e w10 ⟨rfl, hb10⟩; obtain ⟨r0, r1, r2, rf⟩ := three_at ((hb10.block _ (at_lt HSt.out.r)).trans HSt.out.r); obtain ⟨k0, k1, k2, kf⟩ := three_at ((hb10.block _ hMl).trans HSt.out.m))
        refine bodyPost_ret (v := .tuple #[.agg #[.int .i64 n0, .slice dp ([] : List Int).length dcp, .slice cp i cc], .int .i64 0]) (by simp [results, Tryz.results21, go_sem, r0, r1, r2]) rfl ?_
        show GetRes w _ _ (getI zs)
        rw [HG2.out]
        refine ⟨_, _, rfl, ?_, ?_, (((on1 HSt.out.b hb10).setCell (by simp) _).setCell (by simp) _).setCell (by simp) _⟩
        · exact owns_base (set_row (set_row (set_row (owns_below HSt.out.d hb10) (by omega)) (by omega)) (by omega)) (by omega)
        · exact owns_base (set_row (set_row (set_row (owns_below HR.out hb10) (by omega)) (by omega)) (by omega)) (by omega)
    | succ g => exact absurd hik (by have := HL.out; simp only [List.length_nil] at this; omega)
theorem rGet_any {w : World} {sp : Option Addr} {zs : List Int} (hs : Src w sp zs) (hb : Bs zs) (c : Nat) (hc : zs.length ≤ c) :
    Calls Tryz.prog 21 #[.slice sp zs.length c] w fun e w' => GetRes w w' e (getI zs) := by
  by_cases h9 : zs.length < 9
  · rw [getI_short h9]
    exact rGet_short c h9
  · by_cases ht : zs.take 3 = [116, 107, 49]
    · obtain ⟨d, hd⟩ : ∃ d : Nat, cnt zs 1 = d := ⟨(cnt zs 1).toNat, by have := (cnt_bd hb 1).1; omega⟩
      obtain ⟨k, hk⟩ : ∃ k : Nat, cnt zs 2 = k := ⟨(cnt zs 2).toNat, by have := (cnt_bd hb 2).1; omega⟩
      by_cases hl : zs.length = 9 + d + 4 * k
      · by_cases hc9 : c = 9
        · exact rGet_nine hs hb c hc (by omega) ht hd hk hl hc9
        · exact rGet_yes hs hb c hc (by omega) ht hd hk hl hc9
      · rw [getI_mark hb (by omega) ht hd hk, if_neg (fun e => hl e.1)]
        exact rGet_len hs hb c hc (by omega) ht hd hk hl
    · have : getI zs = none := by
        unfold getI
        rw [if_neg (fun e => ht ((fits_iff zs).1 e.1).1.2)]
      rw [this]
      exact rGet_other hs hb c hc (by omega) ht
end Go.Proofs.YtcjghnnliepjjaaGreatDoor
