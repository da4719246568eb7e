/- The document's own answer: whether an image may be. -/
import Derived.Test.YtcjghnnliepjjaaGreatDoorRef
namespace Go.Proofs.YtcjghnnliepjjaaGreatDoor
open Go Go.RowKit
set_option maxRecDepth 100000
set_option linter.unusedVariables false
theorem sCheck_int (w : World) {x a b c : Int} (hx : byte x) (ha : byte a) (hb : byte b) (hc : byte c) :
    Calls Tryz.prog 37 #[.agg #[.int .u8 x, .int .u8 a, .int .u8 b, .int .u8 c]] w fun e w' => e = .returned (.bool (may x.toNat a b c)) ∧ Below w.heap.size w w' := by
  obtain ⟨o, rfl⟩ : ∃ o : Nat, x = o := ⟨x.toNat, by unfold byte at hx; omega⟩
  exact refCheck_any o (by unfold byte at hx; omega) a b c w ha hb hc
set_option maxHeartbeats 4000000 in
theorem rCheck_no {w : World} {size : Int} {sp : Option Addr} {ds : List Int} {cp : Option Addr} {cs : List Int} {k : Nat} (dc kc : Nat) (hok : okC size ds.length k = false) :
    Calls Tryz.prog 13 #[.agg #[.int .i64 size, .slice sp ds.length dc, .slice cp k kc]] w fun e w' => e = .returned (.bool (okI size ds cs k)) ∧ Below w.heap.size w w' := by
  have hr : okI size ds cs k = false := by simp [okI, hok]
  rw [hr]
  by_cases h1 : size < 0
  · go_enter Tryz.func13, Tryz.ntmps13
    go_wp2
    go_ret
    exact ⟨rfl, alloc_below _ _⟩
  · by_cases h2 : 4096 < size
    · go_enter Tryz.func13, Tryz.ntmps13
      go_wp2
      go_ret
      exact ⟨rfl, alloc_below _ _⟩
    · by_cases h3 : size < (ds.length : Int)
      · go_enter Tryz.func13, Tryz.ntmps13
        go_wp2
        go_ret
        exact ⟨rfl, alloc_below _ _⟩
      · have h4 : (1024 : Int) < k := by
          rcases Int.lt_or_le 1024 (k : Int) with h | h
          · exact h
          · have := (okC_iff size ds.length k).2 (by omega)
            rw [hok] at this
            cases this
        go_enter Tryz.func13, Tryz.ntmps13
        go_wp2
        go_ret
        exact ⟨rfl, alloc_below _ _⟩
set_option maxHeartbeats 4000000 in
theorem rCheck_img {w : World} {size : Int} {sp : Option Addr} {ds : List Int} {cp : Option Addr} {cs : List Int} {k : Nat} (hI : Img w sp ds cp cs k) (dc kc : Nat) :
    Calls Tryz.prog 13 #[.agg #[.int .i64 size, .slice sp ds.length dc, .slice cp k kc]] w fun e w' => e = .returned (.bool (okI size ds cs k)) ∧ Below w.heap.size w w' := by
  cases hok : okC size ds.length k with
  | false => exact rCheck_no dc kc hok
  | true =>
    have hb := (okC_iff _ _ _).1 hok
    have h1 : ¬ (size < 0) := by omega
    have h2 : ¬ (4096 < size) := by omega
    have h3 : ¬ (size < (ds.length : Int)) := by omega
    have h4 : ¬ ((1024 : Int) < k) := by omega
    have hk : k ≤ 1024 := by omega
    have HI : Hid (Img w sp ds cp cs k) := hI
    have HO : Hid (okC size ds.length k = true) := hok
    have X : Box (w.alloc (.cells #[.int .i64 size, .slice sp ds.length dc, .slice cp k kc] 25)) w.heap.size (.int .i64 size) (.slice sp ds.length dc) (.slice cp k kc) := Box.new w _ _ _ _
    have hb0 : Below w.heap.size w (w.alloc (.cells #[.int .i64 size, .slice sp ds.length dc, .slice cp k kc] 25)) := alloc_below _ _
    clear hI hok hb
    go_enter Tryz.func13, Tryz.ntmps13
    go_wp2
    clear h1 h2 h3 h4
    generalize (w.alloc (.cells #[.int .i64 size, .slice sp ds.length dc, .slice cp k kc] 25)) = W0 at *
    go_loopg [3] k (fun g s3 wx => ∃ i : Nat, i + g = k ∧ s3 = .int .i64 i ∧ Below W0.heap.size W0 wx ∧ Hid (∀ j, j < i → mayAt cs j = true))
    case atStart => exact ⟨0, by omega, rfl, Below.refl _ _, fun j hj => by omega⟩
    case round =>
      obtain ⟨i, hig, rfl, hB, HA⟩ := hrel
      have X1 := X.on hB
      have Xa := X1.c0; have Xb := X1.c1; have Xc := X1.c2
      have B1 : Hid (Below w.heap.size w wr) := on1 hb0 hB
      cases gk with
      | zero =>
        have hlt : ¬ ((i : Int) < k) := by omega
        have HK : Hid (i = k) := by show i = k; omega
        clear hig
        go_wp2
        go_ret
        exact ⟨congrArg (fun b => Ending.returned (Value.bool b)) (show true = okI size ds cs k by simp only [okI, HO.out, (mayAll_iff cs k).2 (HK.out ▸ HA.out), Bool.and_true]), B1.out⟩
      | succ g =>
        have hlt : (i : Int) < k := by omega
        have hl := HI.out.len
        obtain ⟨b, off, rfl, hbw⟩ := HI.out.c.spot (by omega)
        obtain ⟨q0, q1, q2, q3⟩ := (HI.out.c.below B1.out).quad hl (show i < k by omega)
        have y0 := HI.out.cb.at (4 * i)
        have y1 := HI.out.cb.at (4 * i + 1)
        have y2 := HI.out.cb.at (4 * i + 2)
        have y3 := HI.out.cb.at (4 * i + 3)
        obtain ⟨r, hr⟩ : ∃ r, mayAt cs i = r := ⟨_, rfl⟩
        have cC : ∀ W, Calls Tryz.prog 37 #[.agg #[.int .u8 (cs.getD (4 * i) 0), .int .u8 (cs.getD (4 * i + 1) 0), .int .u8 (cs.getD (4 * i + 2) 0), .int .u8 (cs.getD (4 * i + 3) 0)]] W fun e w' => e = .returned (.bool r) ∧ Below W.heap.size W w' := fun W => by
          rw [← hr]; exact sCheck_int W y0 y1 y2 y3
        have HR : Hid (mayAt cs i = r) := hr
        clear hr hl y0 y1 y2 y3
        generalize cs.getD (4 * i) 0 = z0 at *
        generalize cs.getD (4 * i + 1) 0 = z1 at *
        generalize cs.getD (4 * i + 2) 0 = z2 at *
        generalize cs.getD (4 * i + 3) 0 = z3 at *
        cases r with
        | true =>
          go_wp2_with (go_at_call 37; refine (cC _).mono ?_; rintro e w3 ⟨rfl, hb3⟩)
          go_roundg g
          case measure => omega
          case rel => exact ⟨i + 1, by omega, by go_num, on1 hB hb3, fun j hj => by
            rcases Nat.lt_or_ge j i with h | h
            · exact HA.out j h
            · obtain rfl : j = i := by omega
              exact HR.out⟩
        | false =>
          go_wp2_with (go_at_call 37; refine (cC _).mono ?_; rintro e w3 ⟨rfl, hb3⟩)
          go_ret
          exact ⟨congrArg (fun b => Ending.returned (Value.bool b)) (show false = okI size ds cs k by simp only [okI, HO.out, mayAll_no (show i < k by omega) HR.out, Bool.and_false]), on1 B1.out hb3⟩
end Go.Proofs.YtcjghnnliepjjaaGreatDoor
