/- 'LinesTwo' walked: two that were made have nothing in common. -/
import Derived.Test.YtedheamenlnfkaaSeen
namespace Go.Proofs.Ytedheamenlnfkaa
open Go Go.RowKit
set_option maxRecDepth 100000
set_option linter.unusedVariables false
set_option maxHeartbeats 2000000 in
theorem two_any (ci mi : Int) (h1 : 0 ≤ ci ∧ ci ≤ 255) (h2 : 0 ≤ mi ∧ mi ≤ 255) (w : World) :
    Calls Try.prog 8 #[.int .u8 ci, .int .u8 mi] w fun e w' => e = .returned (.bool true) ∧ Below w.heap.size w w' := by
  obtain ⟨c, rfl⟩ := Int.eq_ofNat_of_zero_le h1.1
  obtain ⟨m, rfl⟩ := Int.eq_ofNat_of_zero_le h2.1
  have hc : c < 256 := by omega
  have hm : m < 256 := by omega
  have hS := set_any hc hm w
  clear h1 h2
  go_enter Try.func8, Try.ntmps8
  go_wp2_with (first
    | (go_at_call 20; refine hS.mono ?_; rintro e w0 ⟨rfl, hr, hb⟩; have HA0 : Hid (Tab w0 w.heap.size c m) := hr; have HB : Hid (Below w.heap.size w w0) := hb; clear hr hb)
    | (go_at_call 9; refine new_any.mono ?_; rintro e w1 ⟨rfl, hr, hb⟩; have HA1 : Hid (Tab w1 w.heap.size c m) := HA0.out.below hb; have HT1 : Hid (Tab w1 w0.heap.size 0 0) := hr; have HL : Hid (w.heap.size < w0.heap.size) := HA0.out.lt; replace HB : Hid (Below w.heap.size w w1) := HB.out.trans (hb.mono HB.out.size); clear hr hb HA0)
    | (go_at_call 16; refine (ca_is HT1.out).mono ?_; rintro e wx ⟨rfl, hwx⟩; obtain rfl := hwx.symm)
    | (go_at_call 18; refine (ms_is HT1.out).mono ?_; rintro e wx ⟨rfl, hwx⟩; obtain rfl := hwx.symm)
    | (go_at_call 14; refine (nx_is HT1.out (k := 0) (e0 := 11) (c' := 0) (by decide) (by decide) (by decide)).mono ?_; rintro e w2 ⟨rfl, hr, hb⟩; have HA2 : Hid (Tab w2 w.heap.size c m) := HA1.out.buts hb (by have := HL.out; simp; omega); replace HB : Hid (Below w.heap.size w w2) := HB.out.trans (one_below hb (Nat.le_of_lt HL.out) HB.out.size); clear hr hb HA1 HT1)
    | (go_at_call 21; refine (alive_any _).mono ?_; rintro e w3 ⟨rfl, hb⟩; have HA3 : Hid (Tab w3 w.heap.size c m) := HA2.out.below hb; replace HB : Hid (Below w.heap.size w w3) := HB.out.trans (hb.mono HB.out.size); clear hb HA2)
    | (go_at_call 16; refine (calls_any HA3.out).mono ?_; rintro e wx ⟨rfl, hwx⟩; obtain rfl := hwx.symm)
    | (go_at_call 18; refine (masks_any HA3.out).mono ?_; rintro e wx ⟨rfl, hwx⟩; obtain rfl := hwx.symm))
  go_ret
  exact ⟨rfl, HB.out⟩
end Go.Proofs.Ytedheamenlnfkaa
