/- Whether an image may be, by the program's own function. -/
import Derived.Test.YtomccgodfimaiaaGreatDoorTop
namespace Go.Proofs.YtomccgodfimaiaaGreatDoor
set_option linter.all false
open Go Go.RowKit
set_option maxRecDepth 100000
set_option linter.unusedVariables false
theorem iCheck_int {w : World} (hE : Env w) {x a b c : Int} (hx : byte x) (ha : byte a) (hb : byte b) (hc : byte c) :
    Calls Tryz.prog 76 #[.agg #[.int .u8 x, .int .u8 a, .int .u8 b, .int .u8 c]] w fun e w' => e = .returned (.bool (may x.toNat a b c)) ∧ Below w.heap.size w w' := by
  obtain ⟨o, rfl⟩ : ∃ o : Nat, x = o := ⟨x.toNat, by unfold byte at hx; omega⟩
  exact Check_any o (by unfold byte at hx; omega) a b c w hE ha hb hc
theorem Src.quad {w : World} {b off k : Nat} {cs : List Int} (h : Src w (some ⟨b, off, none⟩) cs) (hl : cs.length = 4 * k) {i : Nat} (hi : i < k) :
    w.cell? ⟨b, off + i * 4, none⟩ = some (.int .u8 (cs.getD (4 * i) 0)) ∧ w.cell? ⟨b, off + i * 4 + 1, none⟩ = some (.int .u8 (cs.getD (4 * i + 1) 0)) ∧ w.cell? ⟨b, off + i * 4 + 2, none⟩ = some (.int .u8 (cs.getD (4 * i + 2) 0)) ∧ w.cell? ⟨b, off + i * 4 + 3, none⟩ = some (.int .u8 (cs.getD (4 * i + 3) 0)) := by
  obtain ⟨b', off', e, hc⟩ := h (by omega)
  simp only [Option.some.injEq, Addr.mk.injEq, and_true] at e
  obtain ⟨rfl, rfl⟩ := e
  refine ⟨?_, ?_, ?_, ?_⟩
  · rw [show off + i * 4 = off + 4 * i by omega]; exact hc _ (by omega)
  · rw [show off + i * 4 + 1 = off + (4 * i + 1) by omega]; exact hc _ (by omega)
  · rw [show off + i * 4 + 2 = off + (4 * i + 2) by omega]; exact hc _ (by omega)
  · rw [show off + i * 4 + 3 = off + (4 * i + 3) by omega]; exact hc _ (by omega)
theorem Src.spot {w : World} {sp : Option Addr} {zs : List Int} (h : Src w sp zs) (hz : 0 < zs.length) : ∃ b off, sp = some ⟨b, off, none⟩ ∧ b < w.heap.size := by
  obtain ⟨b, off, e, hc⟩ := h hz
  exact ⟨b, off, e, cell_lt (hc 0 hz)⟩
theorem two_allocs {w w1 : World} {x : Obj} (h : Below (w.alloc x).heap.size (w.alloc x) w1) : Below w.heap.size w w1 := (alloc_below w x).trans (h.mono (by rw [alloc_size]; omega))
set_option maxHeartbeats 2000000 in
theorem Check_no {w : World} {size : Int} {sp : Option Addr} {ds : List Int} {cp : Option Addr} {cs : List Int} {k : Nat} (dc kc : Nat) (hok : okC size ds.length k = false) :
    Calls Tryz.prog 32 #[.agg #[.int .i64 size, .slice sp ds.length dc, .slice cp k kc]] w fun e w' => e = .returned (.bool (okI size ds cs k)) ∧ Below w.heap.size w w' := by
  have cM := mayBe_any size ds.length k
  rw [hok] at cM
  go_enter Tryz.func32, Tryz.ntmps32
  go_wp2_with (first
    | (go_at_call 74; refine (countsOf_any _ _ _ _ _ _ _ _).mono ?_; rintro e w1 ⟨rfl, hb1⟩)
    | (go_at_call 75; refine (cM _).mono ?_; rintro e w2 ⟨rfl, hb2⟩))
  go_ret
  exact ⟨congrArg (fun b => Ending.returned (Value.bool b)) (show false = okI size ds cs k by simp [okI, hok]), (two_allocs hb1).trans (hb2.mono (two_allocs hb1).size)⟩
set_option maxHeartbeats 4000000 in
theorem Check_img {w : World} {size : Int} {sp : Option Addr} {ds : List Int} {cp : Option Addr} {cs : List Int} {k : Nat} (hE : Env w) (hI : Img w sp ds cp cs k) (dc kc : Nat) :
    Calls Tryz.prog 32 #[.agg #[.int .i64 size, .slice sp ds.length dc, .slice cp k kc]] w fun e w' => e = .returned (.bool (okI size ds cs k)) ∧ Below w.heap.size w w' := by
  cases hok : okC size ds.length k with
  | false => exact Check_no dc kc hok
  | true =>
    have cM := mayBe_any size ds.length k
    rw [hok] at cM
    have hk : k ≤ 1024 := by have := (okC_iff _ _ _).1 hok; omega
    have HE : Hid (Env w) := hE
    have HI : Hid (Img w sp ds cp cs k) := hI
    have HO : Hid (okC size ds.length k = true) := hok
    clear hE hI hok
    go_enter Tryz.func32, Tryz.ntmps32
    go_wp2_with (first
      | (go_at_call 74; refine (countsOf_any _ _ _ _ _ _ _ _).mono ?_; rintro e w1 ⟨rfl, hb1⟩)
      | (go_at_call 75; refine (cM _).mono ?_; rintro e w2 ⟨rfl, hb2⟩; have c2 : w2.cell? ⟨w.heap.size, 2, none⟩ = some (.slice cp k kc) := (by rw [(bcell hb2).1 _ _ (by have := hb1.size; simp at this; omega), (bcell hb1).1 _ _ (by simp)]; simp [go_sem])))
    have hB : Below w.heap.size w w2 := (two_allocs hb1).trans (hb2.mono (two_allocs hb1).size)
    clear hb1 hb2
    go_loopg [12] k (fun g s12 wx => ∃ i : Nat, i + g = k ∧ s12 = .int .i64 i ∧ Below w.heap.size w wx ∧ Hid (∀ j, j < i → mayAt cs j = true))
    case atStart => exact ⟨0, by omega, rfl, hB, fun j hj => by omega⟩
    case round =>
      clear hB c2
      obtain ⟨i, hig, rfl, hB, HA⟩ := hrel
      cases gk with
      | zero =>
        have hlt : ¬ ((i : Int) < k) := by omega
        have hik : i = k := by omega
        clear hig
        have HK : Hid (i = k) := hik
        clear hik
        go_wp2
        go_ret
        exact ⟨congrArg (fun b => Ending.returned (Value.bool b)) (show true = okI size ds cs k by simp only [okI, HO.out, (mayAll_iff cs k).2 (HK.out ▸ HA.out), Bool.and_true]), hB⟩
      | succ g =>
        have hlt : (i : Int) < k := by omega
        have hl := HI.out.len
        obtain ⟨b, off, rfl, hbw⟩ := HI.out.c.spot (by omega)
        obtain ⟨q0, q1, q2, q3⟩ := (HI.out.c.below ((Below.refl _ _).trans hB)).quad hl (show i < k by omega)
        have y0 := HI.out.cb.at (4 * i)
        have y1 := HI.out.cb.at (4 * i + 1)
        have y2 := HI.out.cb.at (4 * i + 2)
        have y3 := HI.out.cb.at (4 * i + 3)
        obtain ⟨r, hr⟩ : ∃ r, mayAt cs i = r := ⟨_, rfl⟩
        have cC : ∀ W, Env W → Calls Tryz.prog 76 #[.agg #[.int .u8 (cs.getD (4 * i) 0), .int .u8 (cs.getD (4 * i + 1) 0), .int .u8 (cs.getD (4 * i + 2) 0), .int .u8 (cs.getD (4 * i + 3) 0)]] W fun e w' => e = .returned (.bool r) ∧ Below W.heap.size W w' := fun W hW => by
          rw [← hr]; exact iCheck_int hW y0 y1 y2 y3
        have HR : Hid (mayAt cs i = r) := hr
        clear hr hl y0 y1 y2 y3
        generalize cs.getD (4 * i) 0 = z0 at *
        generalize cs.getD (4 * i + 1) 0 = z1 at *
        generalize cs.getD (4 * i + 2) 0 = z2 at *
        generalize cs.getD (4 * i + 3) 0 = z3 at *
        have hEr : Env wr := HE.out.on hB
        cases r with
        | true =>
          go_wp2_with (go_at_call 76; refine (cC _ (hEr.on (alloc_below _ _))).mono ?_; rintro e w3 ⟨rfl, hb3⟩)
          go_roundg g
          case measure => omega
          case rel => exact ⟨i + 1, by omega, by go_num, hB.trans ((two_allocs hb3).mono hB.size), fun j hj => by
            rcases Nat.lt_or_ge j i with h | h
            · exact HA.out j h
            · obtain rfl : j = i := by omega
              exact HR.out⟩
        | false =>
          go_wp2_with (go_at_call 76; refine (cC _ (hEr.on (alloc_below _ _))).mono ?_; rintro e w3 ⟨rfl, hb3⟩)
          go_ret
          exact ⟨congrArg (fun b => Ending.returned (Value.bool b)) (show false = okI size ds cs k by simp only [okI, HO.out, mayAll_no (show i < k by omega) HR.out, Bool.and_false]), hB.trans ((two_allocs hb3).mono hB.size)⟩
end Go.Proofs.YtomccgodfimaiaaGreatDoor
