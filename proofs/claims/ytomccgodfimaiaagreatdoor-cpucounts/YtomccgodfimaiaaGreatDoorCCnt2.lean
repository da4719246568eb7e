/- Bytes are counted, told and added up: every case. -/
import Derived.Test.YtomccgodfimaiaaGreatDoorCCnt
namespace Go.Proofs.YtomccgodfimaiaaGreatDoor
open Go Go.RowKit
set_option maxRecDepth 100000
set_option linter.all false
theorem counts_none {w : World} {sp : Option Addr} {n : Nat} (hE : Env w) (hl : n = 0 ∨ 250 < n) (cap : Nat) :
    Calls Tryz.prog 5 #[.slice sp n cap] w fun e w' => e = .returned (.bool true) ∧ Below w.heap.size w w' := by
  have HE : Hid (Env w) := hE
  clear hE
  rcases hl with rfl | hl
  · go_enter Tryz.func5, Tryz.ntmps5
    go_wp2_with (go_at_call 8; refine (lives_any HE.out).mono ?_; rintro e w8 ⟨rfl, hb⟩; have HB8 : Hid (Below w.heap.size w w8) := hb; clear hb)
    go_ret
    exact ⟨rfl, HB8.out⟩
  · have hz : ¬ ((n : Int) = 0) := by omega
    have hzb : ((n : Int) == 0) = false := by simpa using hz
    have hgt : (250 : Int) < n := by omega
    clear hl
    go_enter Tryz.func5, Tryz.ntmps5
    go_wp2_with (go_at_call 8; refine (lives_any HE.out).mono ?_; rintro e w8 ⟨rfl, hb⟩; have HB8 : Hid (Below w.heap.size w w8) := hb; clear hb)
    go_ret
    exact ⟨rfl, HB8.out⟩
theorem counts_any {w : World} {sp : Option Addr} {m : List Int} (hE : Env w) (hs : Src w sp m) (hm : Bs m) (cap : Nat) :
    Calls Tryz.prog 5 #[.slice sp m.length cap] w fun e w' => e = .returned (.bool true) ∧ Below w.heap.size w w' := by
  rcases (show m.length = 0 ∨ 250 < m.length ∨ (0 < m.length ∧ m.length ≤ 250) by omega) with h | h | h
  · exact counts_none hE (Or.inl h) cap
  · exact counts_none hE (Or.inr h) cap
  · exact counts_few hE hs hm h.1 h.2 cap
end Go.Proofs.YtomccgodfimaiaaGreatDoor
