/- 'RegionsApart' walked: two regions of the same bytes have nothing in common; a number that is set twice is the second one. -/
import Derived.Test.YthglgpiaffgnfabOwn
namespace Go.Proofs.Ythglgpiaffgnfab
open Go Go.RowKit Go.ChangeShapes Go.WideShapes
set_option maxRecDepth 100000
set_option linter.unusedVariables false
theorem open_two {H : Type} {enc : TypeId × Value → H} {w : World} {r : Reach} {b0 base : Nat} {sp : Nat → Bool} {held : Bool} {v : Value} {d : DataW H} {ps : List MemPlace} (hval : Value.okWide Try.prog w r b0 24 v) (hd : DataW.Trod enc Try.prog w base sp held 24 v d ps) :
    ∃ x y : Int, v = .agg #[.int .u32 x, .int .u32 y] ∧ (0 ≤ x ∧ x ≤ 4294967295) ∧ (0 ≤ y ∧ y ≤ 4294967295) := by
  obtain ⟨cs, rfl, hn⟩ : ∃ xs : Array Value, v = .agg xs ∧ xs.size = 2 := by
    have h := hval
    simp only [Value.okWide, Try.underlying24] at h
    obtain ⟨cs, h1, h2, _⟩ := h
    exact ⟨cs, h1, by rw [h2]; kernel_rfl⟩
  obtain ⟨fuel, hf⟩ := hd
  obtain ⟨xs, m, _, _, _, hl, hel⟩ := DataW.trod_array Try.underlying24 hf
  rw [show Try.prog.cellsOf 23 = 1 by kernel_rfl] at hel
  obtain ⟨l⟩ := cs
  match l, hn with
  | [c0, c1], _ =>
    match xs, hl with
    | [x0, x1], _ =>
      obtain ⟨n0, q0, _, w0⟩ := DataW.trod_int Try.underlying23 (show DataW.trod enc Try.prog w base sp held m 23 [c0] = some x0 from hel 0 (by decide))
      obtain ⟨n1, q1, _, w1⟩ := DataW.trod_int Try.underlying23 (show DataW.trod enc Try.prog w base sp held m 23 [c1] = some x1 from hel 1 (by decide))
      simp only [List.cons.injEq, and_true] at q0 q1
      subst q0 q1
      exact ⟨n0, n1, rfl, bounds_u32 w0, bounds_u32 w1⟩
set_option maxHeartbeats 4000000 in
theorem apart_any {w : World} {sp : Option Addr} {zs : List Int} (hs : Src w.heap.size w sp zs) (hm : zs.length ≤ maxLen) (c : Nat) (a : Int) (ha : 0 ≤ a ∧ a ≤ 4294967295) (x y : Int) (hx : 0 ≤ x ∧ x ≤ 4294967295) (hy : 0 ≤ y ∧ y ≤ 4294967295) :
    Calls Try.prog 3 #[.slice sp zs.length c, .int .u32 a, .agg #[.int .u32 x, .int .u32 y]] w fun e w' => e = .returned (.bool true) ∧ Below w.heap.size w w' := by
  have hV := alloc_at w (.cells #[.int .u32 x, .int .u32 y] 24)
  have hB := alloc_below w (.cells #[.int .u32 x, .int .u32 y] 24)
  have hlV := alloc_size w (.cells #[.int .u32 x, .int .u32 y] 24)
  have hC : Below (w.heap.size + 1) (w.alloc (.cells #[.int .u32 x, .int .u32 y] 24)) (w.alloc (.cells #[.int .u32 x, .int .u32 y] 24)) := Below.refl _ _
  have c0 : (w.alloc (.cells #[.int .u32 x, .int .u32 y] 24)).cell? ⟨w.heap.size, 0, none⟩ = some (.int .u32 x) := by rw [cell_of hV]; rfl
  have c1 : (w.alloc (.cells #[.int .u32 x, .int .u32 y] 24)).cell? ⟨w.heap.size, 1, none⟩ = some (.int .u32 y) := by rw [cell_of hV]; rfl
  replace hs := hs.below hB
  unfold maxLen at hm
  obtain ⟨n, hn⟩ : ∃ n, zs.length = n := ⟨_, rfl⟩
  rw [hn] at hm ⊢
  have HN : Hid (zs.length = n) := hn
  clear hn hV
  by_cases h4 : n ≤ 4096
  · by_cases h3 : 4 ≤ n
    · have hmod := Int.emod_nonneg a (show ((n : Int) - 3) ≠ 0 by omega)
      have hmod2 := Int.emod_lt_of_pos a (show 0 < ((n : Int) - 3) by omega)
      obtain ⟨k, hk⟩ : ∃ k : Nat, a % ((n : Int) - 3) = k := ⟨(a % ((n : Int) - 3)).toNat, by omega⟩
      have hkn : k + 4 ≤ n := by omega
      have HL : Hid ((splice zs k (bs4 x)).length = n) := by show _ = _; rw [length_splice _ _ _ (by show k + 4 ≤ _; rw [HN.out]; omega)]; exact HN.out
      have HL2 : Hid ((splice (splice zs k (bs4 x)) k (bs4 y)).length = n) := by show _ = _; rw [length_splice _ _ _ (by show k + 4 ≤ _; rw [HL.out]; omega)]; exact HL.out
      have HW : Hid (wv (((splice (splice zs k (bs4 x)) k (bs4 y)).drop k).take 4) = y) := word_back _ k y (by rw [HL.out]; omega) hy
      have hz := hs.wf
      go_enter Try.func3, Try.ntmps3
      go_wp2_with (first
        | (go_at_call 4; refine (alive_any _).mono ?_; rintro e w1 ⟨rfl, hb⟩; have hb' := hb.mono (show w.heap.size + 1 ≤ _ by have := hC.size; omega); replace c0 := (hb'.cell (p := ⟨w.heap.size, 0, none⟩) (Nat.lt_succ_self _)).trans c0; replace c1 := (hb'.cell (p := ⟨w.heap.size, 1, none⟩) (Nat.lt_succ_self _)).trans c1; replace hs := hs.below (hb.mono hB.size); replace hC := hC.trans hb'; replace hB := hB.trans (hb.mono hB.size); clear hb hb')
        | (go_at_call 5; refine (new_all hs hB.size HN.out h4 c).mono ?_; rintro e w3 ⟨p2, g2, rfl, hR2, hb, hg2, hp2⟩; have hb' := hb.mono (show w.heap.size + 1 ≤ _ by have := hC.size; omega); replace c0 := (hb'.cell (p := ⟨w.heap.size, 0, none⟩) (Nat.lt_succ_self _)).trans c0; replace c1 := (hb'.cell (p := ⟨w.heap.size, 1, none⟩) (Nat.lt_succ_self _)).trans c1; have ng := Nat.lt_of_lt_of_le hR.row.lt hg2; replace hR := hR.below hb; replace hs := hs.below (hb.mono hB.size); replace hC := hC.trans hb'; replace hB := hB.trans (hb.mono hB.size); clear hb hb')
        | (go_at_call 5; refine (new_all hs hB.size HN.out h4 c).mono ?_; rintro e w2 ⟨p, g, rfl, hR, hb, hg, hp⟩; have hb' := hb.mono (show w.heap.size + 1 ≤ _ by have := hC.size; omega); replace c0 := (hb'.cell (p := ⟨w.heap.size, 0, none⟩) (Nat.lt_succ_self _)).trans c0; replace c1 := (hb'.cell (p := ⟨w.heap.size, 1, none⟩) (Nat.lt_succ_self _)).trans c1; replace hg : w.heap.size + 1 ≤ g := (by have := hC.size; omega); replace hs := hs.below (hb.mono hB.size); replace hC := hC.trans hb'; replace hB := hB.trans (hb.mono hB.size); clear hb hb')
        | (go_at_call 6; refine (setWord_yes hR3 k (by rw [HL.out]; omega) y hy).mono ?_; rintro e w5 ⟨rfl, hR4, hb⟩; have hb' := hb.below hg (by have := hC.size; omega); replace c1 := (hb'.cell (p := ⟨w.heap.size, 1, none⟩) (Nat.lt_succ_self _)).trans c1; replace hR2 := hR2.but hb (by omega) (by omega); replace hs := hs.below (hb.below (by omega) hB.size); replace hB := hB.trans (hb.below (by omega) hB.size); clear hb hb' hR3)
        | (go_at_call 6; refine (setWord_yes hR k (by rw [HN.out]; omega) x hx).mono ?_; rintro e w4 ⟨rfl, hR3, hb⟩; have hb' := hb.below hg (by have := hC.size; omega); replace c1 := (hb'.cell (p := ⟨w.heap.size, 1, none⟩) (Nat.lt_succ_self _)).trans c1; replace hR2 := hR2.but hb (by omega) (by omega); replace hs := hs.below (hb.below (by omega) hB.size); replace hC := hC.trans hb'; replace hB := hB.trans (hb.below (by omega) hB.size); clear hb hb' hR)
        | (go_at_call 7; refine (word_is hR4 k (by rw [HL2.out]; omega) HW.out).mono ?_; rintro e wx ⟨rfl, rfl⟩)
        | (go_at_call 9; refine (bytes_len hR2 HN.out).mono ?_; rintro e w6 ⟨rfl, hr6, hb⟩; replace hs := hs.below (hb.mono hB.size); replace hB := hB.trans (hb.mono hB.size); clear hb)
        | (go_at_call 8; refine (same_len (Src.row (n := 0) hr6 hz) hs HN.out (by omega) _ _).mono ?_; rintro e w7 ⟨rfl, hb⟩; replace hB := hB.trans (hb.mono hB.size)))
      go_ret
      exact ⟨rfl, hB⟩
    · go_enter Try.func3, Try.ntmps3
      go_wp2_with (first
        | (go_at_call 4; refine (alive_any _).mono ?_; rintro e w1 ⟨rfl, hb⟩; replace hB := hB.trans (hb.mono hB.size); clear hb))
      go_ret
      exact ⟨rfl, hB⟩
  · go_enter Try.func3, Try.ntmps3
    go_wp2_with (first
      | (go_at_call 4; refine (alive_any _).mono ?_; rintro e w1 ⟨rfl, hb⟩; replace hB := hB.trans (hb.mono hB.size); clear hb))
    go_ret
    exact ⟨rfl, hB⟩
end Go.Proofs.Ythglgpiaffgnfab
