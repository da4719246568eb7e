/- Answers by what they come to; the statements' own helper: 'alive' answers true. -/
import Derived.Test.YtgggekimpdmmeaaTop
namespace Go.Proofs.Ytgggekimpdmmeaa
open Go Go.RowKit
set_option maxRecDepth 100000
set_option linter.unusedVariables false
theorem holds_is {f g : Nat} {F G : Int} {all b : Bool} (w : World) (hf : f < 4294967296) (hg : g < 4294967296) (hb : hold f g all = b) (hF : (f : Int) = F := by rfl) (hG : (g : Int) = G := by rfl) :
    Calls Try.prog 9 #[.int .u32 F, .int .u32 G, .bool all] w fun e w' => e = .returned (.bool b) ∧ Below w.heap.size w w' := by subst hF hG hb; exact holds_any f g hf hg all w
theorem met_is {f g x : Nat} {F G X : Int} (w : World) (hf : f < 4294967296) (hg : g < 4294967296) (hx : f &&& g = x) (hF : (f : Int) = F := by rfl) (hG : (g : Int) = G := by rfl) (hX : (x : Int) = X := by rfl) :
    Calls Try.prog 11 #[.int .u32 F, .int .u32 G] w fun e w' => e = .returned (.int .u32 X) ∧ w = w' := by subst hF hG hX hx; exact met_any f g hf hg w
theorem after_is {f g x : Nat} {F G X : Int} {all gone : Bool} (w : World) (hf : f < 4294967296) (hg : g < 4294967296) (hx : aft f g all gone = x) (hF : (f : Int) = F := by rfl) (hG : (g : Int) = G := by rfl) (hX : (x : Int) = X := by rfl) :
    Calls Try.prog 13 #[.int .u32 F, .int .u32 G, .bool all, .bool gone] w fun e w' => e = .returned (.int .u32 X) ∧ Below w.heap.size w w' := by subst hF hG hX hx; exact after_any f g hf hg all gone w
theorem al_h0 (w : World) : Calls Try.prog 9 #[.int .u32 12, .int .u32 4, .bool true] w fun e w' => e = .returned (.bool true) ∧ Below w.heap.size w w' := holds_is (f := 12) (g := 4) w (by decide) (by decide) (by decide)
theorem al_h1 (w : World) : Calls Try.prog 9 #[.int .u32 12, .int .u32 5, .bool true] w fun e w' => e = .returned (.bool false) ∧ Below w.heap.size w w' := holds_is (f := 12) (g := 5) w (by decide) (by decide) (by decide)
theorem al_h2 (w : World) : Calls Try.prog 9 #[.int .u32 12, .int .u32 5, .bool false] w fun e w' => e = .returned (.bool true) ∧ Below w.heap.size w w' := holds_is (f := 12) (g := 5) w (by decide) (by decide) (by decide)
theorem al_h3 (w : World) : Calls Try.prog 9 #[.int .u32 12, .int .u32 3, .bool false] w fun e w' => e = .returned (.bool false) ∧ Below w.heap.size w w' := holds_is (f := 12) (g := 3) w (by decide) (by decide) (by decide)
theorem al_h4 (w : World) : Calls Try.prog 9 #[.int .u32 0, .int .u32 0, .bool true] w fun e w' => e = .returned (.bool true) ∧ Below w.heap.size w w' := holds_is (f := 0) (g := 0) w (by decide) (by decide) (by decide)
theorem al_h5 (w : World) : Calls Try.prog 9 #[.int .u32 7, .int .u32 0, .bool false] w fun e w' => e = .returned (.bool false) ∧ Below w.heap.size w w' := holds_is (f := 7) (g := 0) w (by decide) (by decide) (by decide)
theorem al_a0 (w : World) : Calls Try.prog 13 #[.int .u32 12, .int .u32 5, .bool false, .bool true] w fun e w' => e = .returned (.int .u32 8) ∧ Below w.heap.size w w' := after_is (f := 12) (g := 5) (x := 8) w (by decide) (by decide) (by decide)
theorem al_a1 (w : World) : Calls Try.prog 13 #[.int .u32 12, .int .u32 5, .bool true, .bool true] w fun e w' => e = .returned (.int .u32 12) ∧ Below w.heap.size w w' := after_is (f := 12) (g := 5) (x := 12) w (by decide) (by decide) (by decide)
theorem al_a2 (w : World) : Calls Try.prog 13 #[.int .u32 12, .int .u32 4, .bool true, .bool false] w fun e w' => e = .returned (.int .u32 12) ∧ Below w.heap.size w w' := after_is (f := 12) (g := 4) (x := 12) w (by decide) (by decide) (by decide)
theorem al_m (w : World) : Calls Try.prog 11 #[.int .u32 12, .int .u32 5] w fun e w' => e = .returned (.int .u32 4) ∧ w = w' := met_is (f := 12) (g := 5) (x := 4) w (by decide) (by decide) (by decide)
set_option maxHeartbeats 4000000 in
theorem alive_any (w : World) : Calls Try.prog 15 #[] w fun e w' => e = .returned (.bool true) ∧ Below w.heap.size w w' := by
  have HB : Hid (Below w.heap.size w w) := Below.refl w.heap.size w
  go_enter Try.func15, Try.ntmps15
  go_wp2_with (first
    | (go_at_call 9; (with_reducible refine (al_h0 _).mono ?_); rintro e wx ⟨rfl, hb⟩; replace HB : Hid (Below w.heap.size w wx) := HB.out.trans (hb.mono HB.out.size); clear hb)
    | (go_at_call 9; (with_reducible refine (al_h1 _).mono ?_); rintro e wx ⟨rfl, hb⟩; replace HB : Hid (Below w.heap.size w wx) := HB.out.trans (hb.mono HB.out.size); clear hb)
    | (go_at_call 9; (with_reducible refine (al_h2 _).mono ?_); rintro e wx ⟨rfl, hb⟩; replace HB : Hid (Below w.heap.size w wx) := HB.out.trans (hb.mono HB.out.size); clear hb)
    | (go_at_call 9; (with_reducible refine (al_h3 _).mono ?_); rintro e wx ⟨rfl, hb⟩; replace HB : Hid (Below w.heap.size w wx) := HB.out.trans (hb.mono HB.out.size); clear hb)
    | (go_at_call 9; (with_reducible refine (al_h4 _).mono ?_); rintro e wx ⟨rfl, hb⟩; replace HB : Hid (Below w.heap.size w wx) := HB.out.trans (hb.mono HB.out.size); clear hb)
    | (go_at_call 9; (with_reducible refine (al_h5 _).mono ?_); rintro e wx ⟨rfl, hb⟩; replace HB : Hid (Below w.heap.size w wx) := HB.out.trans (hb.mono HB.out.size); clear hb)
    | (go_at_call 11; refine (al_m _).mono ?_; rintro e wx ⟨rfl, rfl⟩)
    | (go_at_call 13; (with_reducible refine (al_a0 _).mono ?_); rintro e wx ⟨rfl, hb⟩; replace HB : Hid (Below w.heap.size w wx) := HB.out.trans (hb.mono HB.out.size); clear hb)
    | (go_at_call 13; (with_reducible refine (al_a1 _).mono ?_); rintro e wx ⟨rfl, hb⟩; replace HB : Hid (Below w.heap.size w wx) := HB.out.trans (hb.mono HB.out.size); clear hb)
    | (go_at_call 13; (with_reducible refine (al_a2 _).mono ?_); rintro e wx ⟨rfl, hb⟩; replace HB : Hid (Below w.heap.size w wx) := HB.out.trans (hb.mono HB.out.size); clear hb))
  go_ret
  exact ⟨rfl, HB.out⟩
end Go.Proofs.Ytgggekimpdmmeaa
