/- What 'Alloc' answers: the least block that is free, which is who's from now on; or why there is none. -/
import Derived.Test.YteicnekoogmmmaaGreatDoorPPools
namespace Go.Proofs.YteicnekoogmmmaaGreatDoor.Pl
open Go Go.RowKit
set_option maxRecDepth 100000
set_option linter.unusedVariables false
theorem below_drewN (w : World) : ∀ n, Below w.heap.size w (w.drewN n)
  | 0 => Below.refl _ _
  | n + 1 => by
    have := below_drewN w n
    exact ⟨this.os, this.tape, this.output, this.size, this.block⟩
theorem alloc_nil {w : World} (who : Int) :
    Calls Tryz.prog 143 #[.pointer none, .int .u32 who] w fun e w' => e = .returned (.tuple #[.int .i64 0, .int .i64 2]) ∧ Below w.heap.size w w' := by
  have hb := alloc_below w (.cells #[.int .u32 who] 23)
  go_enter Tryz.func143, Tryz.ntmps143
  go_wp2_with (go_at_call 88; refine there_nil.mono ?_; rintro e wx ⟨rfl, rfl⟩)
  go_ret2
  exact ⟨rfl, hb⟩
theorem alloc_zero {w : World} {p : Nat} (h0 : w.cell? ⟨p, 0, none⟩ = some (.int .i64 0)) (hp : p < w.heap.size) (who : Int) :
    Calls Tryz.prog 143 #[.pointer (some ⟨p, 0, none⟩), .int .u32 who] w fun e w' => e = .returned (.tuple #[.int .i64 0, .int .i64 2]) ∧ Below w.heap.size w w' := by
  have hb := alloc_below w (.cells #[.int .u32 who] 23)
  have h1 := (hb.cell (p := ⟨p, 0, none⟩) hp).trans h0
  go_enter Tryz.func143, Tryz.ntmps143
  go_wp2_with (go_at_call 88; refine (there_zero h1).mono ?_; rintro e wx ⟨rfl, rfl⟩)
  go_ret2
  exact ⟨rfl, hb⟩
theorem alloc_nobody {w : World} {p n : Nat} {zs : List Int} (h : Pool w p n zs) :
    Calls Tryz.prog 143 #[.pointer (some ⟨p, 0, none⟩), .int .u32 0] w fun e w' => e = .returned (.tuple #[.int .i64 0, .int .i64 1]) ∧ Below w.heap.size w w' := by
  have hb := alloc_below w (.cells #[.int .u32 0] 23)
  have h1 := (h.below hb).many
  have hlo := h.lo
  clear h
  go_enter Tryz.func143, Tryz.ntmps143
  go_wp2_with (go_at_call 88; refine (there_yes h1 hlo).mono ?_; rintro e wx ⟨rfl, rfl⟩)
  go_ret2
  exact ⟨rfl, hb⟩
/-- what 'each' finds: nobody's block is the first one, or there is none -/
theorem each_first {w : World} {p n b1 b2 b3 : Nat} {zs : List Int} {who x y : Int} (hp : Pool w p n zs) (h1 : One w b1 23 (.int .u32 who)) (h2 : One w b2 3 (.int .i64 x)) (h3 : One w b3 29 (.int .i64 y)) (n1 : p ≠ b1) (n2 : p ≠ b2) (n3 : p ≠ b3) (m3 : b2 ≠ b3) (hw : 0 ≤ who ∧ who ≤ 4294967295) (i : Nat) (hi : i < n) (hz : zs.getD i 0 = 0) (hmin : ∀ j, j < i → zs.getD j 0 ≠ 0) :
    Calls Tryz.prog 79 #[.pointer (some ⟨p, 0, none⟩), .func (.func 145) #[] #[.pointer (some ⟨b1, 0, none⟩), .pointer (some ⟨b2, 0, none⟩), .pointer (some ⟨b3, 0, none⟩)]] w fun e w' => e = .returned (.tuple #[]) ∧ Pool w' p n (zs.set i who) ∧ One w' b2 3 (.int .i64 i) ∧ One w' b3 29 (.int .i64 0) ∧ Buts [p, b2, b3] w w' := by
  refine (each_alloc _ _ _ (fun j wx => j ≤ i ∧ wx = w) (fun w' => Pool w' p n (zs.set i who) ∧ One w' b2 3 (.int .i64 i) ∧ One w' b3 29 (.int .i64 0) ∧ Buts [p, b2, b3] w w') (fun j => decide (j < i)) hp.lo hp.hi hp.many ⟨by omega, rfl⟩ ?_ ?_).mono ?_
  · rintro j wx hj hgo ⟨hle, rfl⟩
    have hlt : j < i := by simpa using hgo
    exact (cAlloc_yes (hp.cell j hj) (hmin j hlt)).mono fun e w' ⟨he, hw'⟩ => ⟨he, by omega, hw'⟩
  · rintro j wx hj hgo ⟨hle, rfl⟩
    have hge : ¬ j < i := by simpa using hgo
    obtain rfl : j = i := by omega
    exact cAlloc_no hp hi hz h1 h2 h3 n1 n2 n3 m3 hw
  · rintro e w' ⟨rfl, h⟩
    refine ⟨rfl, ?_⟩
    rcases h with ⟨h, _⟩ | h
    · omega
    · exact h
theorem each_full {w : World} {p n b1 b2 b3 : Nat} {zs : List Int} (hp : Pool w p n zs) (hall : ∀ j, j < n → zs.getD j 0 ≠ 0) :
    Calls Tryz.prog 79 #[.pointer (some ⟨p, 0, none⟩), .func (.func 145) #[] #[.pointer (some ⟨b1, 0, none⟩), .pointer (some ⟨b2, 0, none⟩), .pointer (some ⟨b3, 0, none⟩)]] w fun e w' => e = .returned (.tuple #[]) ∧ w' = w := by
  refine (each_alloc _ _ _ (fun _ wx => wx = w) (fun _ => False) (fun _ => true) hp.lo hp.hi hp.many rfl ?_ ?_).mono ?_
  · rintro j wx hj _ rfl
    exact cAlloc_yes (hp.cell j hj) (hall j hj)
  · intro j wx hj hgo
    exact absurd hgo (by simp)
  · rintro e w' ⟨rfl, h⟩
    exact ⟨rfl, h.resolve_right id⟩
theorem Buts.below_of {l : List Nat} {w w' : World} {p : Nat} (h : Buts l w w') {v : World} (hv : Below v.heap.size v w) (hl : ∀ x ∈ l, x = p ∨ v.heap.size ≤ x) : But p v w' :=
  ⟨h.os.trans hv.os, h.tape.trans hv.tape, h.output.trans hv.output, Nat.le_trans hv.size h.size, fun k hk hp => (h.block k (Nat.lt_of_lt_of_le hk hv.size) (fun hm => by rcases hl k hm with h | h <;> omega)).trans (hv.block k hk)⟩
/-- the three variables of 'Alloc' -/
structure Three (w w3 : World) (who : Int) : Prop where
  v1 : One w3 w.heap.size 23 (.int .u32 who)
  v2 : One w3 (w.heap.size + 1) 3 (.int .i64 0)
  v3 : One w3 (w.heap.size + 1 + 1) 29 (.int .i64 11)
  bel : Below w.heap.size w w3
set_option maxHeartbeats 1000000 in
theorem alloc_any {w : World} {p n : Nat} {zs : List Int} (h : Pool w p n zs) (who : Int) (hw : 0 < who ∧ who ≤ 4294967295) {a b : Int} (Q : World → World → Prop)
    (H : ∀ w3, Three w w3 who → Pool w3 p n zs → Calls Tryz.prog 79 #[.pointer (some ⟨p, 0, none⟩), .func (.func 145) #[] #[.pointer (some ⟨w.heap.size, 0, none⟩), .pointer (some ⟨w.heap.size + 1, 0, none⟩), .pointer (some ⟨w.heap.size + 1 + 1, 0, none⟩)]] w3 fun e w' => e = .returned (.tuple #[]) ∧ One w' (w.heap.size + 1) 3 (.int .i64 a) ∧ One w' (w.heap.size + 1 + 1) 29 (.int .i64 b) ∧ Q w3 w') :
    Calls Tryz.prog 143 #[.pointer (some ⟨p, 0, none⟩), .int .u32 who] w fun e w' => e = .returned (.tuple #[.int .i64 a, .int .i64 b]) ∧ ∃ w3 w4, Three w w3 who ∧ Q w3 w4 ∧ Below w4.heap.size w4 w' := by
  have hb := alloc_below w (.cells #[.int .u32 who] 23)
  have h1 := (h.below hb).many
  have hlo := h.lo
  have hwz : (who == 0) = false := by simp; omega
  have HT : Hid (Three w (((w.alloc (.cells #[.int .u32 who] 23)).alloc (.cells #[.int .i64 0] 3)).alloc (.cells #[.int .i64 11] 29)) who) := by
    have s1 := alloc_size w (.cells #[.int .u32 who] 23)
    have o1 := One.new w 23 (.int .u32 who)
    generalize w.alloc (.cells #[.int .u32 who] 23) = wa at *
    have hb2 := alloc_below wa (.cells #[.int .i64 0] 3)
    have o2 := One.new wa 3 (.int .i64 0)
    have s2 := alloc_size wa (.cells #[.int .i64 0] 3)
    generalize wa.alloc (.cells #[.int .i64 0] 3) = wb at *
    have hb3 := alloc_below wb (.cells #[.int .i64 11] 29)
    have o3 := One.new wb 29 (.int .i64 11)
    rw [s1] at o2
    rw [s2, s1] at o3
    exact ⟨(o1.below hb2).below hb3, o2.below hb3, o3, (hb.trans (hb2.mono hb.size)).trans (hb3.mono (by omega))⟩
  have HP : Hid (Pool (((w.alloc (.cells #[.int .u32 who] 23)).alloc (.cells #[.int .i64 0] 3)).alloc (.cells #[.int .i64 11] 29)) p n zs) := h.below HT.out.bel
  have HC := H _ HT.out HP.out
  clear h H
  go_enter Tryz.func143, Tryz.ntmps143
  go_wp2_with (first
    | (go_at_call 88; refine (there_yes h1 hlo).mono ?_; rintro e wx ⟨rfl, rfl⟩)
    | (go_at_call 79; refine HC.mono ?_; rintro e w4 ⟨rfl, o2, o3, hQ⟩; have d2 := o2.cell; have d3 := o3.cell))
  go_quiet ((fail))
  go_wp2
  go_ret2
  exact ⟨rfl, _, _, HT.out, hQ, below_drewN _ _⟩
/-- a free block is given out -/
theorem alloc_yes {w : World} {p n : Nat} {zs : List Int} (h : Pool w p n zs) (who : Int) (hw : 0 < who ∧ who ≤ 4294967295) (i : Nat) (hi : i < n) (hz : zs.getD i 0 = 0) (hmin : ∀ j, j < i → zs.getD j 0 ≠ 0) :
    Calls Tryz.prog 143 #[.pointer (some ⟨p, 0, none⟩), .int .u32 who] w fun e w' => e = .returned (.tuple #[.int .i64 i, .int .i64 0]) ∧ Pool w' p n (zs.set i who) ∧ But p w w' := by
  have hlt := h.lt
  refine (alloc_any h who hw (a := i) (b := 0) (fun w3 w' => Pool w' p n (zs.set i who) ∧ Buts [p, w.heap.size + 1, w.heap.size + 1 + 1] w3 w') ?_).mono ?_
  · intro w3 h3 hP
    exact (each_first hP h3.v1 h3.v2 h3.v3 (by omega) (by omega) (by omega) (by omega) (by omega) i hi hz hmin).mono fun e w' ⟨he, hp, o2, o3, hb⟩ => ⟨he, o2, o3, hp, hb⟩
  · rintro e w' ⟨rfl, w3, w4, h3, ⟨hp, hb⟩, hd⟩
    refine ⟨rfl, hp.below hd, (hb.below_of h3.bel (fun x hx => ?_)).trans (But.of hd)⟩
    simp only [List.mem_cons, List.not_mem_nil, or_false] at hx
    omega
/-- no block is free -/
theorem alloc_full {w : World} {p n : Nat} {zs : List Int} (h : Pool w p n zs) (who : Int) (hw : 0 < who ∧ who ≤ 4294967295) (hall : ∀ j, j < n → zs.getD j 0 ≠ 0) :
    Calls Tryz.prog 143 #[.pointer (some ⟨p, 0, none⟩), .int .u32 who] w fun e w' => e = .returned (.tuple #[.int .i64 0, .int .i64 11]) ∧ Below w.heap.size w w' := by
  refine (alloc_any h who hw (a := 0) (b := 11) (fun w3 w' => w' = w3) ?_).mono ?_
  · intro w3 h3 hP
    exact (each_full hP hall).mono fun e w' ⟨he, hw'⟩ => by subst hw'; exact ⟨he, h3.v2, h3.v3, rfl⟩
  · rintro e w' ⟨rfl, w3, w4, h3, rfl, hd⟩
    exact ⟨rfl, h3.bel.trans (hd.mono h3.bel.size)⟩
end Go.Proofs.YteicnekoogmmmaaGreatDoor.Pl
