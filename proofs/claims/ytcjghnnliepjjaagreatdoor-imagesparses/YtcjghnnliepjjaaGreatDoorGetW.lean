/- The numbers that bytes begin with, by the program's own functions. -/
import Derived.Test.YtcjghnnliepjjaaGreatDoorPutX
import Derived.Laws.IdiomStrings
namespace Go.Proofs.YtcjghnnliepjjaaGreatDoor
open Go Go.RowKit
set_option maxRecDepth 100000
set_option linter.unusedVariables false
/-- bytes as a text has them -/
def us (zs : List Int) : List UInt8 := zs.map fun z => UInt8.ofNat z.toNat
theorem u8_back {z : Int} (h : byte z) : ((UInt8.ofNat z.toNat).toNat : Int) = z := by
  unfold byte at h
  have : (UInt8.ofNat z.toNat).toNat = z.toNat := by simp; omega
  rw [this]; omega
theorem us_inj {xs ys : List Int} (hx : Bs xs) (hy : Bs ys) (h : us xs = us ys) : xs = ys := by
  induction xs generalizing ys with
  | nil => cases ys with
    | nil => rfl
    | cons y ys => simp [us] at h
  | cons x xs ih => cases ys with
    | nil => simp [us] at h
    | cons y ys =>
      simp only [us, List.map_cons, List.cons.injEq] at h
      have e : x = y := by rw [← u8_back (hx x (List.mem_cons_self ..)), ← u8_back (hy y (List.mem_cons_self ..)), h.1]
      rw [e, ih (fun z hz => hx z (List.mem_cons_of_mem _ hz)) (fun z hz => hy z (List.mem_cons_of_mem _ hz)) h.2]
/-- a text of bytes that lie in a row -/
theorem conv_src {w : World} {b off c : Nat} {zs : List Int} (h : Src w (some ⟨b, off, none⟩) zs) (hb : Bs zs) :
    (convert 22 9 (.slice (some ⟨b, off, none⟩) zs.length c)).run Tryz.prog w = .ok (.string ⟨(us zs).toArray⟩) w := by
  have := run_convert_bytes_back (P := Tryz.prog) w 22 9 5 ⟨b, off, none⟩ c (us zs) Tryz.underlying22 Tryz.underlying5 Tryz.underlying9 (fun j hj => by
    have hj' : j < zs.length := by simpa [us] using hj
    obtain ⟨b', off', e, hc⟩ := h (by omega)
    simp only [Option.some.injEq, Addr.mk.injEq, and_true] at e
    obtain ⟨rfl, rfl⟩ := e
    rw [add_none, hc j hj']
    have := u8_back (hb.at j)
    simp [us]
    simpa [hj'] using this.symm)
  rwa [show (us zs).length = zs.length by simp [us]] at this
theorem or_wrapped {x y : Int} (hx : byte x) (hy : byte y) : bits .or .i64 (wrap64 (wrap64 x * 256)) (wrap64 y) = x * 256 + y := by
  have ho := or_byte x y hx.1 hx.2 hy.1 hy.2
  unfold byte at hx hy
  rw [show wrap64 x = x by unfold wrap64; omega, show wrap64 (x * 256) = x * 256 by unfold wrap64; omega, show wrap64 y = y by unfold wrap64; omega]
  exact ho
theorem readAt_0 {w : World} {p b off n c : Nat} {x y : Int} (h : w.cell? ⟨p, 0, none⟩ = some (.slice (some ⟨b, off, none⟩) n c)) (hn : 9 ≤ n) (h0 : w.cell? ⟨b, off + 3, none⟩ = some (.int .u8 x)) (h1 : w.cell? ⟨b, off + 4, none⟩ = some (.int .u8 y)) (hx : byte x) (hy : byte y) :
    Calls Tryz.prog 97 #[.int .i64 0, .pointer (some ⟨p, 0, none⟩)] w fun e w' => e = .returned (.int .i64 (x * 256 + y)) ∧ ∃ q, w' = w.drewN q := by
  have ho := or_wrapped hx hy
  have hi : (3 : Int) < n := by omega
  have hj : (4 : Int) < n := by omega
  go_enter Tryz.func97, Tryz.ntmps97
  go_wp2
  go_quiet ((fail))
  go_wp2
  go_ret
  exact ⟨rfl, _, rfl⟩
theorem readAt_1 {w : World} {p b off n c : Nat} {x y : Int} (h : w.cell? ⟨p, 0, none⟩ = some (.slice (some ⟨b, off, none⟩) n c)) (hn : 9 ≤ n) (h0 : w.cell? ⟨b, off + 5, none⟩ = some (.int .u8 x)) (h1 : w.cell? ⟨b, off + 6, none⟩ = some (.int .u8 y)) (hx : byte x) (hy : byte y) :
    Calls Tryz.prog 97 #[.int .i64 1, .pointer (some ⟨p, 0, none⟩)] w fun e w' => e = .returned (.int .i64 (x * 256 + y)) ∧ ∃ q, w' = w.drewN q := by
  have ho := or_wrapped hx hy
  have hi : (5 : Int) < n := by omega
  have hj : (6 : Int) < n := by omega
  go_enter Tryz.func97, Tryz.ntmps97
  go_wp2
  go_quiet ((fail))
  go_wp2
  go_ret
  exact ⟨rfl, _, rfl⟩
theorem readAt_2 {w : World} {p b off n c : Nat} {x y : Int} (h : w.cell? ⟨p, 0, none⟩ = some (.slice (some ⟨b, off, none⟩) n c)) (hn : 9 ≤ n) (h0 : w.cell? ⟨b, off + 7, none⟩ = some (.int .u8 x)) (h1 : w.cell? ⟨b, off + 8, none⟩ = some (.int .u8 y)) (hx : byte x) (hy : byte y) :
    Calls Tryz.prog 97 #[.int .i64 2, .pointer (some ⟨p, 0, none⟩)] w fun e w' => e = .returned (.int .i64 (x * 256 + y)) ∧ ∃ q, w' = w.drewN q := by
  have ho := or_wrapped hx hy
  have hi : (7 : Int) < n := by omega
  have hj : (8 : Int) < n := by omega
  go_enter Tryz.func97, Tryz.ntmps97
  go_wp2
  go_quiet ((fail))
  go_wp2
  go_ret
  exact ⟨rfl, _, rfl⟩
theorem nine_at {w : World} {b off : Nat} {zs : List Int} (h : Src w (some ⟨b, off, none⟩) zs) (h9 : 9 ≤ zs.length) : ∀ i, i < 9 → w.cell? ⟨b, off + i, none⟩ = some (.int .u8 (zs.getD i 0)) := fun i hi => by
  obtain ⟨b', off', e, hc⟩ := h (by omega)
  simp only [Option.some.injEq, Addr.mk.injEq, and_true] at e
  obtain ⟨rfl, rfl⟩ := e
  exact hc i (by omega)
theorem Src.some_of {w : World} {sp : Option Addr} {zs : List Int} (h : Src w sp zs) (hz : 0 < zs.length) : ∃ b off, sp = some ⟨b, off, none⟩ := by
  obtain ⟨b, off, e, _⟩ := h hz
  exact ⟨b, off, e⟩
set_option maxHeartbeats 2000000 in
theorem readCounts_short {w : World} {sp : Option Addr} {zs : List Int} (c : Nat) (h9 : zs.length < 9) :
    Calls Tryz.prog 65 #[.slice sp zs.length c] w fun e w' => e = .returned (.tuple #[.agg #[.int .i64 0, .int .i64 0, .int .i64 0], .bool false]) ∧ Below w.heap.size w w' := by
  have hlt : ((zs.length : Nat) : Int) < 9 := by omega
  go_enter Tryz.func65, Tryz.ntmps65
  go_wp2
  exact bodyPost_ret (v := .tuple #[.agg #[.int .i64 0, .int .i64 0, .int .i64 0], .bool false]) (by simp [results, Tryz.results65, go_sem]) rfl ⟨rfl, ((Below.refl _ _).alloc (Nat.le_refl _) _).alloc (by simp) _⟩
set_option maxHeartbeats 2000000 in
theorem readCounts_other {w : World} {sp : Option Addr} {zs : List Int} (hs : Src w sp zs) (hb : Bs zs) (c : Nat) (hc : zs.length ≤ c) (h9 : 9 ≤ zs.length) (hne : zs.take 3 ≠ [116, 107, 49]) :
    Calls Tryz.prog 65 #[.slice sp zs.length c] w fun e w' => e = .returned (.tuple #[.agg #[.int .i64 0, .int .i64 0, .int .i64 0], .bool false]) ∧ Below w.heap.size w w' := by
  obtain ⟨b, off, rfl⟩ := hs.some_of (by omega)
  have hlt : ¬ (((zs.length : Nat) : Int) < 9) := by omega
  have h3 : 3 ≤ c := by omega
  have hl3 : (zs.take 3).length = 3 := by simp; omega
  have hcv : ∀ W, Src W (some ⟨b, off, none⟩) (zs.take 3) → (convert 22 9 (.slice (some ⟨b, off, none⟩) 3 c)).run Tryz.prog W = .ok (.string ⟨(us (zs.take 3)).toArray⟩) W := fun W hW => by
    have := conv_src (c := c) hW (hb.take 3)
    rwa [hl3] at this
  have hsn : ¬ ((⟨(us (zs.take 3)).toArray⟩ : ByteArray) = ⟨#[116, 107, 49]⟩) := fun e => hne (us_inj (hb.take 3) (Bs.cons ⟨by decide, by decide⟩ (Bs.cons ⟨by decide, by decide⟩ (Bs.cons ⟨by decide, by decide⟩ Bs.nil))) (by
    have e2 : us (zs.take 3) = [116, 107, 49] := by simpa using congrArg Array.toList (congrArg ByteArray.data e)
    exact e2.trans (by decide)))
  have hcv2 := hcv ((w.alloc (.cells #[.slice (some ⟨b, off, none⟩) zs.length c] 22)).alloc (.cells #[.int .i64 0, .int .i64 0, .int .i64 0] 59)) ((hs.take 3).below ((alloc_below _ _).trans ((alloc_below _ _).mono (by rw [alloc_size]; omega))))
  clear hcv hs hne
  generalize (⟨(us (zs.take 3)).toArray⟩ : ByteArray) = t at *
  have hsb : (t.toList == [116, 107, 49]) = false := by
    rw [ByteArray.toList_eq, beq_eq_false_iff_ne]
    intro e
    apply hsn
    cases t
    simp only [ByteArray.mk.injEq]
    exact Array.toList_inj.1 e
  go_enter Tryz.func65, Tryz.ntmps65
  go_wp2
  exact bodyPost_ret (v := .tuple #[.agg #[.int .i64 0, .int .i64 0, .int .i64 0], .bool false]) (by simp [results, Tryz.results65, go_sem]) rfl ⟨rfl, ((Below.refl _ _).alloc (Nat.le_refl _) _).alloc (by simp) _⟩
set_option maxHeartbeats 2000000 in
theorem readCounts_yes {w : World} {sp : Option Addr} {zs : List Int} (hs : Src w sp zs) (hb : Bs zs) (c : Nat) (hc : zs.length ≤ c) (h9 : 9 ≤ zs.length) (heq : zs.take 3 = [116, 107, 49]) :
    Calls Tryz.prog 65 #[.slice sp zs.length c] w fun e w' => e = .returned (.tuple #[.agg #[.int .i64 (cnt zs 0), .int .i64 (cnt zs 1), .int .i64 (cnt zs 2)], .bool true]) ∧ Below w.heap.size w w' := by
  obtain ⟨b, off, rfl⟩ := hs.some_of (by omega)
  have hlt : ¬ (((zs.length : Nat) : Int) < 9) := by omega
  have h3 : 3 ≤ c := by omega
  have hl3 : (zs.take 3).length = 3 := by simp; omega
  have hcv2 : (convert 22 9 (.slice (some ⟨b, off, none⟩) 3 c)).run Tryz.prog ((w.alloc (.cells #[.slice (some ⟨b, off, none⟩) zs.length c] 22)).alloc (.cells #[.int .i64 0, .int .i64 0, .int .i64 0] 59)) = .ok (.string ⟨#[116, 107, 49]⟩) ((w.alloc (.cells #[.slice (some ⟨b, off, none⟩) zs.length c] 22)).alloc (.cells #[.int .i64 0, .int .i64 0, .int .i64 0] 59)) := by
    have := conv_src (c := c) ((hs.take 3).below (w' := (w.alloc (.cells #[.slice (some ⟨b, off, none⟩) zs.length c] 22)).alloc (.cells #[.int .i64 0, .int .i64 0, .int .i64 0] 59)) ((alloc_below _ _).trans ((alloc_below _ _).mono (by rw [alloc_size]; omega)))) (hb.take 3)
    rw [hl3, heq] at this
    exact this
  have hE : Below w.heap.size w ((w.alloc (.cells #[.slice (some ⟨b, off, none⟩) zs.length c] 22)).alloc (.cells #[.int .i64 0, .int .i64 0, .int .i64 0] 59)) := (alloc_below _ _).trans ((alloc_below _ _).mono (by rw [alloc_size]; omega))
  have hp : ((w.alloc (.cells #[.slice (some ⟨b, off, none⟩) zs.length c] 22)).alloc (.cells #[.int .i64 0, .int .i64 0, .int .i64 0] 59)).cell? ⟨w.heap.size, 0, none⟩ = some (.slice (some ⟨b, off, none⟩) zs.length c) := by
    rw [(bcell (alloc_below _ _)).1 _ _ (by rw [alloc_size]; omega), cell_of (alloc_at w _)]; rfl
  have g0 := (hs.below hE)
  have a0 : ∀ q, Calls Tryz.prog 97 #[.int .i64 0, .pointer (some ⟨w.heap.size, 0, none⟩)] ((((w.alloc (.cells #[.slice (some ⟨b, off, none⟩) zs.length c] 22)).alloc (.cells #[.int .i64 0, .int .i64 0, .int .i64 0] 59))).drewN q) fun e w' => e = .returned (.int .i64 (cnt zs 0)) ∧ ∃ r, w' = (((w.alloc (.cells #[.slice (some ⟨b, off, none⟩) zs.length c] 22)).alloc (.cells #[.int .i64 0, .int .i64 0, .int .i64 0] 59))).drewN r := fun q => by
    refine (readAt_0 (w := World.drewN _ q) (((bcell (below_drewN _ q)).1 _ _ (cell_lt hp)).trans hp) h9 (nine_at (g0.below (below_drewN _ q)) h9 3 (by omega)) (nine_at (g0.below (below_drewN _ q)) h9 4 (by omega)) (hb.at 3) (hb.at 4)).mono ?_
    rintro e w' ⟨rfl, r, rfl⟩
    exact ⟨rfl, q + r, World.drewN_drewN ..⟩
  have a1 : ∀ q, Calls Tryz.prog 97 #[.int .i64 1, .pointer (some ⟨w.heap.size, 0, none⟩)] ((((w.alloc (.cells #[.slice (some ⟨b, off, none⟩) zs.length c] 22)).alloc (.cells #[.int .i64 0, .int .i64 0, .int .i64 0] 59))).drewN q) fun e w' => e = .returned (.int .i64 (cnt zs 1)) ∧ ∃ r, w' = (((w.alloc (.cells #[.slice (some ⟨b, off, none⟩) zs.length c] 22)).alloc (.cells #[.int .i64 0, .int .i64 0, .int .i64 0] 59))).drewN r := fun q => by
    refine (readAt_1 (w := World.drewN _ q) (((bcell (below_drewN _ q)).1 _ _ (cell_lt hp)).trans hp) h9 (nine_at (g0.below (below_drewN _ q)) h9 5 (by omega)) (nine_at (g0.below (below_drewN _ q)) h9 6 (by omega)) (hb.at 5) (hb.at 6)).mono ?_
    rintro e w' ⟨rfl, r, rfl⟩
    exact ⟨rfl, q + r, World.drewN_drewN ..⟩
  have a2 : ∀ q, Calls Tryz.prog 97 #[.int .i64 2, .pointer (some ⟨w.heap.size, 0, none⟩)] ((((w.alloc (.cells #[.slice (some ⟨b, off, none⟩) zs.length c] 22)).alloc (.cells #[.int .i64 0, .int .i64 0, .int .i64 0] 59))).drewN q) fun e w' => e = .returned (.int .i64 (cnt zs 2)) ∧ ∃ r, w' = (((w.alloc (.cells #[.slice (some ⟨b, off, none⟩) zs.length c] 22)).alloc (.cells #[.int .i64 0, .int .i64 0, .int .i64 0] 59))).drewN r := fun q => by
    refine (readAt_2 (w := World.drewN _ q) (((bcell (below_drewN _ q)).1 _ _ (cell_lt hp)).trans hp) h9 (nine_at (g0.below (below_drewN _ q)) h9 7 (by omega)) (nine_at (g0.below (below_drewN _ q)) h9 8 (by omega)) (hb.at 7) (hb.at 8)).mono ?_
    rintro e w' ⟨rfl, r, rfl⟩
    exact ⟨rfl, q + r, World.drewN_drewN ..⟩
  have y0 : ∀ q i, i < 3 → ((((w.alloc (.cells #[.slice (some ⟨b, off, none⟩) zs.length c] 22)).alloc (.cells #[.int .i64 0, .int .i64 0, .int .i64 0] 59))).drewN q).heap[w.heap.size + 1]? = some (.cells #[.int .i64 0, .int .i64 0, .int .i64 0] 59 (0, 0)) := fun q i hi => by
    rw [(below_drewN _ q).block _ (by simp), show w.heap.size + 1 = (w.alloc (.cells #[.slice (some ⟨b, off, none⟩) zs.length c] 22)).heap.size by rw [alloc_size]]
    exact alloc_at _ _
  generalize cnt zs 0 = n0 at *
  generalize cnt zs 1 = n1 at *
  generalize cnt zs 2 = n2 at *
  have HE : Hid (Below w.heap.size w ((w.alloc (.cells #[.slice (some ⟨b, off, none⟩) zs.length c] 22)).alloc (.cells #[.int .i64 0, .int .i64 0, .int .i64 0] 59))) := hE
  clear hE g0 hs hb hp
  go_enter Tryz.func65, Tryz.ntmps65
  go_wp2_with (first
    | ((with_reducible go_at_call_of 97 (Value.int IntKind.i64 0)); refine (a0 0).mono ?_; rintro e x1 ⟨rfl, r1, rfl⟩)
    | ((with_reducible go_at_call_of 97 (Value.int IntKind.i64 1)); refine (a1 r1).mono ?_; rintro e x2 ⟨rfl, r2, rfl⟩)
    | ((with_reducible go_at_call_of 97 (Value.int IntKind.i64 2)); refine (a2 r2).mono ?_; rintro e x3 ⟨rfl, r3, rfl⟩; have y := y0 r3 0 (by omega)))
  have x0 := cell_of (i := 0) y
  have x1 := cell_of (i := 1) y
  have x2 := cell_of (i := 2) y
  have Z := HE.out.trans ((below_drewN _ r3).mono HE.out.size)
  generalize World.drewN _ r3 = W3 at *
  have t0 : W3.cell? ⟨w.heap.size + 1, 0, none⟩ = some (.int .i64 0) := x0
  have t1 : W3.cell? ⟨w.heap.size + 1, 1, none⟩ = some (.int .i64 0) := x1
  have t2 : W3.cell? ⟨w.heap.size + 1, 2, none⟩ = some (.int .i64 0) := x2
  refine bodyPost_ret (v := .tuple #[.agg #[.int .i64 n0, .int .i64 n1, .int .i64 n2], .bool true]) (by simp [results, Tryz.results65, go_sem, t0, t1, t2]) rfl ⟨rfl, ?_⟩
  exact ((Z.setCell (by simp) _).setCell (by simp) _).setCell (by simp) _
end Go.Proofs.YtcjghnnliepjjaaGreatDoor
