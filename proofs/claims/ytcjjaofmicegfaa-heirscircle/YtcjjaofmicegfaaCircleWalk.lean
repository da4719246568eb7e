/- HeirsCircle: whether somebody would wait for themselves is the document's answer; nothing is changed. -/
import Derived.Test.YtcjjaofmicegfaaKCirc
import Derived.Test.YtcjjaofmicegfaaArgs
namespace Go.Proofs.Ytcjjaofmicegfaa
open Go Go.RowKit
set_option maxRecDepth 100000
set_option linter.unusedVariables false
set_option linter.unusedSimpArgs false
theorem some_bool (p : Prop) : ∃ b : Bool, b = true ↔ p := by
  by_cases h : p
  · exact ⟨true, by simp [h]⟩
  · exact ⟨false, by simp [h]⟩
set_option maxHeartbeats 8000000 in
theorem circle_law {w : World} {sp : Option Addr} {L : List Int} (hs : Src w sp L) (hl : L.length ≤ maxLen) (cap : Nat) (who whom : Int) :
    Calls Try.prog 3 #[.slice sp L.length cap, .int .i64 who, .int .i64 whom] w fun e w' => e = .returned (.bool true) ∧ Below w.heap.size w w' := by
  unfold maxLen at hl
  obtain ⟨n, hn⟩ : ∃ n, L.length = n := ⟨_, rfl⟩
  rw [hn] at hl ⊢
  have HN : Hid (L.length = n) := hn
  have HS : Hid (Src w sp L) := hs
  clear hn hs
  obtain ⟨B, hB0⟩ : ∃ B, w.heap.size = B := ⟨_, rfl⟩
  have HB0 : Hid (w.heap.size = B) := hB0
  have M : Far B w w := Far.refl hB0
  by_cases hbig : 1000 < n
  · rw [hB0]
    clear hB0
    have hb2 : (1000 : Int) < n := by omega
    go_enter Try.func3, Try.ntmps3
    go_wp2_with (first | (go_at_call 6; refine (lives_any _).mono ?_; rintro e w1 ⟨rfl, m1⟩; replace M := M.low m1; clear m1))
    go_ret
    exact ⟨rfl, M.low'⟩
  · have hT := twin_any HS.out HN.out (by omega) cap
    rw [hB0] at hT ⊢
    clear hB0
    obtain ⟨b, hb⟩ := some_bool (Circ L who whom)
    have HB : Hid (b = true ↔ Circ L who whom) := hb
    clear hb
    have hb2 : ¬ ((1000 : Int) < n) := by omega
    go_enter Try.func3, Try.ntmps3
    go_wp2_with (first
      | (go_at_call 7; refine hT.mono ?_; rintro e w1 ⟨d, rfl, ⟨r1, rfl⟩, m1⟩; have R : Hid (Row w1 B (L ++ [77])) := r1; replace M : Far B w w1 := ⟨m1, by have := m1.size; have := HB0.out; omega⟩; clear r1 m1)
      | (go_at_call 8; refine (circle_at (src_twin R.out) HN.out (by omega) HB.out).mono ?_; rintro e w2 ⟨rfl, m2⟩; have R2 : Hid (Row w2 B (L ++ [77])) := R.out.below m2; replace M := M.low m2; clear m2)
      | (go_at_call 9; refine (kcircle_is (HS.out.below (by have := M.low'; rwa [HB0.out])) HN.out (by omega) _ HB.out).mono ?_; rintro e wx ⟨rfl, rfl⟩)
      | (go_at_call 10; refine (left_any R2.out (HS.out.below (by have := M.low'; rwa [HB0.out])) HN.out (by omega) _).mono ?_; rintro e w3 ⟨rfl, m3⟩; replace M := M.low m3; clear m3)
      | (go_at_call 6; refine (lives_any _).mono ?_; rintro e w4 ⟨rfl, m4⟩; replace M := M.low m4; clear m4))
    go_ret
    exact ⟨rfl, M.low'⟩
end Go.Proofs.Ytcjjaofmicegfaa
