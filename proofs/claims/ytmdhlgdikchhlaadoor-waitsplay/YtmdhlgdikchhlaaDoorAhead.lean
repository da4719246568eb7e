/- The link just ahead of somebody, and of those of a lesser rank. -/
import Derived.Test.YtmdhlgdikchhlaaDoorOps
namespace Go.Proofs.YtmdhlgdikchhlaaDoor
open Go Go.RowKit
set_option maxRecDepth 100000
set_option linter.unusedVariables false
set_option maxHeartbeats 1000000 in
theorem aheadW_any {B : Nat} {w : World} {p : Nat} {bs : List Nat} {xs : List (Int × Int)} (h : Que B w p bs xs) {c : Nat} {v : Int} (hc : w.cell? ⟨c, 0, none⟩ = some (.int .i64 v)) :
    Calls Tryd.prog 52 #[.pointer (some ⟨bat bs 0, 0, none⟩), .func (.func 55) #[] #[.pointer (some ⟨c, 0, none⟩)]] w fun e w' => e = .returned (.pointer (some ⟨bat bs (wi xs v), 0, none⟩)) ∧ Below w.heap.size w w' := by
  have HQ : Hid (Que B w p bs xs) := h
  have hclt := cell_lt hc
  have HC : Hid (w.cell? ⟨c, 0, none⟩ = some (.int .i64 v)) := hc
  have HLE : Hid (wi xs v ≤ xs.length) := wi_le xs v
  clear h hc
  obtain ⟨K, hK⟩ : ∃ K, wi xs v = K := ⟨_, rfl⟩
  rw [hK] at HLE ⊢
  have HK : Hid (wi xs v = K) := hK
  clear hK
  go_enter Tryd.func52, Tryd.ntmps52
  go_wp2
  go_loopg [0] K (fun g s0 wx => ∃ i : Nat, i + g = K ∧ s0 = .pointer (some ⟨bat bs i, 0, none⟩) ∧ Hid (Below w.heap.size w wx))
  case atStart => exact ⟨0, by omega, rfl, Below.refl _ _⟩
  case round =>
    obtain ⟨i, hig, rfl, HB⟩ := hrel
    have hq := HQ.out.below HB.out
    have hle := HLE.out
    obtain ⟨_, _, d2⟩ := hq.cells (i := i) (by omega)
    have hcx : wr.cell? ⟨c, 0, none⟩ = some (.int .i64 v) := (HB.out.cell (p := ⟨c, 0, none⟩) hclt).trans HC.out
    have HCX : Hid (wr.cell? ⟨c, 0, none⟩ = some (.int .i64 v)) := hcx
    cases gk with
    | zero =>
      obtain rfl : i = K := by omega
      by_cases hl : i < xs.length
      · have hb : (fun y : Int × Int => y.1 == v) (xs.getD i (0, 0)) = true := by
          have := wi_at (xs := xs) (who := v) (by rw [HK.out]; exact hl)
          rw [HK.out] at this
          simpa using this
        obtain ⟨e0, e1, _⟩ := hq.cells (i := i + 1) (by omega)
        rw [yat_succ] at e0 e1
        rw [nxt_some (by have := hq.blen; omega)] at d2
        have HCC : Hid (Calls Tryd.prog 55 #[.agg #[.int .i64 (xs.getD i (0, 0)).1, .int .i64 (xs.getD i (0, 0)).2], .pointer (some ⟨c, 0, none⟩)] wr fun e w' => e = .returned (.bool true) ∧ Below wr.heap.size wr w') := cWho_any hcx (xs.getD i (0, 0)) true hb
        clear hq hle hb hcx hl hclt
        generalize (xs.getD i (0, 0)).1 = y1 at *
        generalize (xs.getD i (0, 0)).2 = y2 at *
        generalize bat bs (i + 1) = b2 at *
        generalize hb1 : bat bs i = b1 at d2 ⊢
        have HE1 : Hid (bat bs i = b1) := hb1
        clear hb1
        go_wp2_with (first | (go_at_call 55; refine HCC.out.mono ?_; rintro e w2 ⟨rfl, hb2⟩; have HB2 : Hid (Below w.heap.size w w2) := HB.out.trans (hb2.mono HB.out.size); clear hb2))
        go_ret
        exact ⟨by rw [HE1.out]; rfl, HB2.out⟩
      · rw [nxt_none (by have := hq.blen; omega)] at d2
        clear hq hle hcx hclt
        generalize hb1 : bat bs i = b1 at d2 ⊢
        have HE1 : Hid (bat bs i = b1) := hb1
        clear hb1
        go_wp2
        go_ret
        exact ⟨by rw [HE1.out]; rfl, HB.out⟩
    | succ g' =>
      have hl : i < xs.length := by omega
      have hb : (fun y : Int × Int => y.1 == v) (xs.getD i (0, 0)) = false := by
        have := wi_no (xs := xs) (who := v) (i := i) (by rw [HK.out]; omega)
        simpa using this
      obtain ⟨e0, e1, _⟩ := hq.cells (i := i + 1) (by omega)
      rw [yat_succ] at e0 e1
      rw [nxt_some (by have := hq.blen; omega)] at d2
      have HCC : Hid (Calls Tryd.prog 55 #[.agg #[.int .i64 (xs.getD i (0, 0)).1, .int .i64 (xs.getD i (0, 0)).2], .pointer (some ⟨c, 0, none⟩)] wr fun e w' => e = .returned (.bool false) ∧ Below wr.heap.size wr w') := cWho_any hcx (xs.getD i (0, 0)) false hb
      have hlt := (hq.lt (i := i) (by omega)).1
      clear hq hle hb hcx hclt
      generalize (xs.getD i (0, 0)).1 = y1 at *
      generalize (xs.getD i (0, 0)).2 = y2 at *
      obtain ⟨b2, hb2e⟩ : ∃ b2, bat bs (i + 1) = b2 := ⟨_, rfl⟩
      rw [hb2e] at d2 e0 e1
      have HE : Hid (bat bs (i + 1) = b2) := hb2e
      clear hb2e
      generalize bat bs i = b1 at *
      go_wp2_with (first | (go_at_call 55; refine HCC.out.mono ?_; rintro e w2 ⟨rfl, hb2⟩; have k2 : w2.cell? ⟨b1, 2, none⟩ = some (.pointer (some ⟨b2, 0, none⟩)) := (hb2.cell (p := ⟨b1, 2, none⟩) hlt).trans d2; have HB2 : Hid (Below w.heap.size w w2) := HB.out.trans (hb2.mono HB.out.size); clear hb2))
      go_roundg g'
      case measure => omega
      case rel => exact ⟨i + 1, by omega, by rw [HE.out], HB2⟩
set_option maxHeartbeats 1000000 in
theorem aheadR_any {B : Nat} {w : World} {p : Nat} {bs : List Nat} {xs : List (Int × Int)} (h : Que B w p bs xs) {c : Nat} {v : Int} (hc : w.cell? ⟨c, 1, none⟩ = some (.int .i64 v)) :
    Calls Tryd.prog 52 #[.pointer (some ⟨bat bs 0, 0, none⟩), .func (.func 53) #[] #[.pointer (some ⟨c, 0, none⟩)]] w fun e w' => e = .returned (.pointer (some ⟨bat bs (ri xs v), 0, none⟩)) ∧ Below w.heap.size w w' := by
  have HQ : Hid (Que B w p bs xs) := h
  have hclt := cell_lt hc
  have HC : Hid (w.cell? ⟨c, 1, none⟩ = some (.int .i64 v)) := hc
  have HLE : Hid (ri xs v ≤ xs.length) := ri_le xs v
  clear h hc
  obtain ⟨K, hK⟩ : ∃ K, ri xs v = K := ⟨_, rfl⟩
  rw [hK] at HLE ⊢
  have HK : Hid (ri xs v = K) := hK
  clear hK
  go_enter Tryd.func52, Tryd.ntmps52
  go_wp2
  go_loopg [0] K (fun g s0 wx => ∃ i : Nat, i + g = K ∧ s0 = .pointer (some ⟨bat bs i, 0, none⟩) ∧ Hid (Below w.heap.size w wx))
  case atStart => exact ⟨0, by omega, rfl, Below.refl _ _⟩
  case round =>
    obtain ⟨i, hig, rfl, HB⟩ := hrel
    have hq := HQ.out.below HB.out
    have hle := HLE.out
    obtain ⟨_, _, d2⟩ := hq.cells (i := i) (by omega)
    have hcx : wr.cell? ⟨c, 1, none⟩ = some (.int .i64 v) := (HB.out.cell (p := ⟨c, 1, none⟩) hclt).trans HC.out
    have HCX : Hid (wr.cell? ⟨c, 1, none⟩ = some (.int .i64 v)) := hcx
    cases gk with
    | zero =>
      obtain rfl : i = K := by omega
      by_cases hl : i < xs.length
      · have hb : (fun y : Int × Int => decide (y.2 < v)) (xs.getD i (0, 0)) = true := by
          have := ri_at (xs := xs) (r := v) (by rw [HK.out]; exact hl)
          rw [HK.out] at this
          simpa using this
        obtain ⟨e0, e1, _⟩ := hq.cells (i := i + 1) (by omega)
        rw [yat_succ] at e0 e1
        rw [nxt_some (by have := hq.blen; omega)] at d2
        have HCC : Hid (Calls Tryd.prog 53 #[.agg #[.int .i64 (xs.getD i (0, 0)).1, .int .i64 (xs.getD i (0, 0)).2], .pointer (some ⟨c, 0, none⟩)] wr fun e w' => e = .returned (.bool true) ∧ Below wr.heap.size wr w') := cRank_any hcx (xs.getD i (0, 0)) true hb
        clear hq hle hb hcx hl hclt
        generalize (xs.getD i (0, 0)).1 = y1 at *
        generalize (xs.getD i (0, 0)).2 = y2 at *
        generalize bat bs (i + 1) = b2 at *
        generalize hb1 : bat bs i = b1 at d2 ⊢
        have HE1 : Hid (bat bs i = b1) := hb1
        clear hb1
        go_wp2_with (first | (go_at_call 53; refine HCC.out.mono ?_; rintro e w2 ⟨rfl, hb2⟩; have HB2 : Hid (Below w.heap.size w w2) := HB.out.trans (hb2.mono HB.out.size); clear hb2))
        go_ret
        exact ⟨by rw [HE1.out]; rfl, HB2.out⟩
      · rw [nxt_none (by have := hq.blen; omega)] at d2
        clear hq hle hcx hclt
        generalize hb1 : bat bs i = b1 at d2 ⊢
        have HE1 : Hid (bat bs i = b1) := hb1
        clear hb1
        go_wp2
        go_ret
        exact ⟨by rw [HE1.out]; rfl, HB.out⟩
    | succ g' =>
      have hl : i < xs.length := by omega
      have hb : (fun y : Int × Int => decide (y.2 < v)) (xs.getD i (0, 0)) = false := by
        have := ri_no (xs := xs) (r := v) (i := i) (by rw [HK.out]; omega)
        simp only [decide_eq_false_iff_not]; omega
      obtain ⟨e0, e1, _⟩ := hq.cells (i := i + 1) (by omega)
      rw [yat_succ] at e0 e1
      rw [nxt_some (by have := hq.blen; omega)] at d2
      have HCC : Hid (Calls Tryd.prog 53 #[.agg #[.int .i64 (xs.getD i (0, 0)).1, .int .i64 (xs.getD i (0, 0)).2], .pointer (some ⟨c, 0, none⟩)] wr fun e w' => e = .returned (.bool false) ∧ Below wr.heap.size wr w') := cRank_any hcx (xs.getD i (0, 0)) false hb
      have hlt := (hq.lt (i := i) (by omega)).1
      clear hq hle hb hcx hclt
      generalize (xs.getD i (0, 0)).1 = y1 at *
      generalize (xs.getD i (0, 0)).2 = y2 at *
      obtain ⟨b2, hb2e⟩ : ∃ b2, bat bs (i + 1) = b2 := ⟨_, rfl⟩
      rw [hb2e] at d2 e0 e1
      have HE : Hid (bat bs (i + 1) = b2) := hb2e
      clear hb2e
      generalize bat bs i = b1 at *
      go_wp2_with (first | (go_at_call 53; refine HCC.out.mono ?_; rintro e w2 ⟨rfl, hb2⟩; have k2 : w2.cell? ⟨b1, 2, none⟩ = some (.pointer (some ⟨b2, 0, none⟩)) := (hb2.cell (p := ⟨b1, 2, none⟩) hlt).trans d2; have HB2 : Hid (Below w.heap.size w w2) := HB.out.trans (hb2.mono HB.out.size); clear hb2))
      go_roundg g'
      case measure => omega
      case rel => exact ⟨i + 1, by omega, by rw [HE.out], HB2⟩
end Go.Proofs.YtmdhlgdikchhlaaDoor
