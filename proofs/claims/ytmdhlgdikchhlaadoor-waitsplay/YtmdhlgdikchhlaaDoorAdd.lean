/- A link is added behind another one; somebody is added by their rank. -/
import Derived.Test.YtmdhlgdikchhlaaDoorDo
namespace Go.Proofs.YtmdhlgdikchhlaaDoor
open Go Go.RowKit
set_option maxRecDepth 100000
set_option linter.unusedVariables false
set_option linter.unusedSimpArgs false
theorem past2 (w : World) (o1 o2 : Obj) (b i : Nat) (v : Value) (h : b < w.heap.size) : ((w.setCell ⟨b, i, none⟩ v).alloc o1).alloc o2 = ((w.alloc o1).alloc o2).setCell ⟨b, i, none⟩ v := by
  rw [World.setCell_alloc_past (w := w.alloc o1) o2 b i v (by rw [alloc_size]; omega), World.setCell_alloc_past (w := w) o1 b i v h]
theorem Que.drew1 {B : Nat} {w : World} {p : Nat} {bs : List Nat} {xs : List (Int × Int)} (h : Que B w p bs xs) : Que B w.drew p bs xs := h.drew 1
theorem Ln.drew {B : Nat} {w w' : World} (h : Ln B w w') (hB : B ≤ w'.heap.size) : Ln B w w'.drew := h.trans (Ln.of (below_drewN _ 1) hB)
set_option maxHeartbeats 1000000 in
theorem lAdd_any {B : Nat} {w : World} {p : Nat} {bs : List Nat} {xs : List (Int × Int)} (h : Que B w p bs xs) {k : Nat} (hk : k ≤ xs.length) (hl : xs.length < 1000) (z1 z2 : Int) (hB : B ≤ w.heap.size) :
    Calls Tryd.prog 54 #[.pointer (some ⟨bat bs k, 0, none⟩), .agg #[.int .i64 z1, .int .i64 z2]] w fun e w' => e = .returned (.tuple #[]) ∧ (∃ bs', Que B w' p bs' (xs.insertIdx k (z1, z2))) ∧ Ln B w w' := by
  have d2 := (h.cells (i := k) (by omega)).2.2
  have f2 := h.free (i := k) (by omega) 2
  have hlt := (h.lt (i := k) (by omega)).1
  have HE : Hid ((∃ bs', Que B (((w.setCell ⟨bat bs k, 2, none⟩ (.pointer (some ⟨w.heap.size + 1, 0, none⟩))).alloc (.cells #[.int .i64 z1, .int .i64 z2] 52)).alloc (.cells #[.int .i64 z1, .int .i64 z2, .pointer (nxt bs k)] 54)).drew p bs' (xs.insertIdx k (z1, z2))) ∧ Ln B w (((w.setCell ⟨bat bs k, 2, none⟩ (.pointer (some ⟨w.heap.size + 1, 0, none⟩))).alloc (.cells #[.int .i64 z1, .int .i64 z2] 52)).alloc (.cells #[.int .i64 z1, .int .i64 z2, .pointer (nxt bs k)] 54)).drew) := by
    have h1 := alloc_below w (.cells #[.int .i64 z1, .int .i64 z2] 52)
    have h2 := alloc_below (w.alloc (.cells #[.int .i64 z1, .int .i64 z2] 52)) (.cells #[.int .i64 z1, .int .i64 z2, .pointer (nxt bs k)] 54)
    have hs := alloc_size w (.cells #[.int .i64 z1, .int .i64 z2] 52)
    have hA := alloc_at (w.alloc (.cells #[.int .i64 z1, .int .i64 z2] 52)) (.cells #[.int .i64 z1, .int .i64 z2, .pointer (nxt bs k)] 54)
    rw [hs] at hA
    have hq := h.add hk hl (z1, z2) hB (h1.trans (h2.mono h1.size)) (nb := w.heap.size + 1) (by omega) hA
    rw [past2 w _ _ _ _ _ hlt]
    exact ⟨⟨_, hq.1.drew1⟩, hq.2.drew (Nat.le_trans hB hq.2.low.size)⟩
  clear h
  generalize nxt bs k = n at *
  generalize bat bs k = b1 at *
  go_enter Tryd.func54, Tryd.ntmps54
  go_wp2
  go_region
  all_goals
    go_wp2
    go_end0
    exact ⟨rfl, HE.out⟩
set_option maxHeartbeats 1000000 in
/-- somebody is added by their rank -/
theorem qadd_any {B : Nat} {w : World} {p : Nat} {bs : List Nat} {xs : List (Int × Int)} (h : Que B w p bs xs) (hl : xs.length < 1000) (z1 z2 : Int) (hB : B ≤ w.heap.size) :
    Calls Tryd.prog 24 #[.pointer (some ⟨p, 0, none⟩), .agg #[.int .i64 z1, .int .i64 z2]] w fun e w' => e = .returned (.tuple #[]) ∧ (∃ bs', Que B w' p bs' (ins xs (z1, z2))) ∧ Ln B w w' := by
  have hb := alloc_below w (.cells #[.int .i64 z1, .int .i64 z2] 52)
  obtain ⟨w0, hw0⟩ : ∃ w0, w.alloc (.cells #[.int .i64 z1, .int .i64 z2] 52) = w0 := ⟨_, rfl⟩
  have hat := alloc_at w (.cells #[.int .i64 z1, .int .i64 z2] 52)
  rw [hw0] at hb hat
  have HAT : Hid (w0.heap[w.heap.size]? = some (.cells #[.int .i64 z1, .int .i64 z2] 52 (0, 0))) := hat
  have HQ : Hid (Que B w0.drew p bs xs) := (h.below hb).drew1
  have HB : Hid (Below w.heap.size w w0.drew) := hb.trans ((below_drewN w0 1).mono hb.size)
  have x0 : w0.cell? ⟨w.heap.size, 0, none⟩ = some (.int .i64 z1) := by rw [cell_of hat]; rfl
  have x1 : w0.cell? ⟨w.heap.size, 1, none⟩ = some (.int .i64 z2) := by rw [cell_of hat]; rfl
  have c0 : w0.cell? ⟨p, 0, none⟩ = some (.pointer (some ⟨bat bs 0, 0, none⟩)) := (h.below hb).start
  have HCL : Hid (w.heap.size < w0.drew.heap.size) := at_lt hat
  have HPL : Hid (p < w0.drew.heap.size) := at_lt (h.below hb).head
  have HRI : Hid (ri xs z2 ≤ xs.length) := ri_le xs z2
  have HAA : Hid (Calls Tryd.prog 52 #[.pointer (some ⟨bat bs 0, 0, none⟩), .func (.func 53) #[] #[.pointer (some ⟨w.heap.size, 0, none⟩)]] w0.drew fun e w' => e = .returned (.pointer (some ⟨bat bs (ri xs z2), 0, none⟩)) ∧ Below w0.drew.heap.size w0.drew w') := aheadR_any HQ.out (show w0.drew.cell? ⟨w.heap.size, 1, none⟩ = some (.int .i64 z2) from x1)
  have HAD : Hid (∀ w', Que B w' p bs xs → B ≤ w'.heap.size → Calls Tryd.prog 54 #[.pointer (some ⟨bat bs (ri xs z2), 0, none⟩), .agg #[.int .i64 z1, .int .i64 z2]] w' fun e w'' => e = .returned (.tuple #[]) ∧ (∃ bs', Que B w'' p bs' (xs.insertIdx (ri xs z2) (z1, z2))) ∧ Ln B w' w'') := fun w' hq hB' => lAdd_any hq HRI.out hl z1 z2 hB'
  have HKP : Hid (∀ w2, Below w0.drew.heap.size w0.drew w2 → ∀ w3, Ln B w2 w3 → w3.cell? ⟨p, 0, none⟩ = some (.pointer (some ⟨bat bs 0, 0, none⟩)) ∧ w3.cell? ⟨w.heap.size, 0, none⟩ = some (.int .i64 z1) ∧ w3.cell? ⟨w.heap.size, 1, none⟩ = some (.int .i64 z2)) := fun w2 hb2 w3 hl3 => by
    have h1 : w2.heap[p]? = some (.cells #[lp bs[0]?] 56 (0, 0)) := (hb2.block p HPL.out).trans (h.below hb).head
    have h2 : w2.heap[w.heap.size]? = some (.cells #[.int .i64 z1, .int .i64 z2] 52 (0, 0)) := (hb2.block _ HCL.out).trans hat
    have h3 := (hl3.oth _ _ _ _ h1 (by decide)).trans h1
    have h4 := (hl3.oth _ _ _ _ h2 (by decide)).trans h2
    refine ⟨?_, by rw [cell_of h4]; rfl, by rw [cell_of h4]; rfl⟩
    rw [cell_of h3, bat_get (by have := h.blen; omega)]
    rfl
  clear h hat hb
  have HI : Hid (ins xs (z1, z2) = xs.insertIdx (ri xs z2) (z1, z2)) := rfl
  generalize bat bs 0 = b at *
  generalize bat bs (ri xs z2) = b2 at *
  go_enter Tryd.func24, Tryd.ntmps24
  go_wp2
  obtain ⟨c, hc⟩ : ∃ c, w.heap.size = c := ⟨_, rfl⟩
  simp only [hw0, hc]
  have HC : Hid (w.heap.size = c) := hc
  simp only [hc] at x0 x1 HAA HCL HKP
  clear hw0 hc
  go_region_held3 (fun w' => w'.cell? ⟨p, 0, none⟩ = some (.pointer (some ⟨b, 0, none⟩)) ∧ w'.cell? ⟨c, 0, none⟩ = some (.int .i64 z1) ∧ w'.cell? ⟨c, 1, none⟩ = some (.int .i64 z2)) (go_keep) (first
    | (go_at_call 54; refine (HAD.out _ (HQ.out.below HB2.out) (Nat.le_trans hB (Nat.le_trans HB.out.size HB2.out.size))).mono ?_; rintro e w3 ⟨rfl, q3, l3⟩; have y0 := (HLK.out w3 l3).1; have y1 := (HLK.out w3 l3).2.1; have y2 := (HLK.out w3 l3).2.2; have H3 : Hid ((∃ bs', Que B w3 p bs' (xs.insertIdx (ri xs z2) (z1, z2))) ∧ Ln B w w3) := ⟨q3, (Ln.of (HB.out.trans (HB2.out.mono HB.out.size)) hB).trans l3⟩; clear q3 l3)
    | (go_at_call 52; refine HAA.out.mono ?_; rintro e w2 ⟨rfl, hb2⟩; have kp := (hb2.cell (p := ⟨p, 0, none⟩) HPL.out).trans c0; have k0 := (hb2.cell (p := ⟨c, 0, none⟩) HCL.out).trans x0; have k1 := (hb2.cell (p := ⟨c, 1, none⟩) HCL.out).trans x1; have HB2 : Hid (Below w0.drew.heap.size w0.drew w2) := hb2; have HLK : Hid (∀ w3, Ln B w2 w3 → w3.cell? ⟨p, 0, none⟩ = some (.pointer (some ⟨b, 0, none⟩)) ∧ w3.cell? ⟨c, 0, none⟩ = some (.int .i64 z1) ∧ w3.cell? ⟨c, 1, none⟩ = some (.int .i64 z2)) := HKP.out w2 hb2; clear hb2))
  all_goals
    go_wp2
    go_end0
    rw [HI.out]
    exact ⟨rfl, H3.out⟩
end Go.Proofs.YtmdhlgdikchhlaaDoor
