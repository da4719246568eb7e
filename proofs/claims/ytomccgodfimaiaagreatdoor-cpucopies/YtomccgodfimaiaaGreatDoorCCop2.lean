/- Two instructions that copy: those at fault; every case of them. -/
import Derived.Test.YtomccgodfimaiaaGreatDoorCCopA
import Derived.Test.YtomccgodfimaiaaGreatDoorCCopB
namespace Go.Proofs.YtomccgodfimaiaaGreatDoor
open Go Go.RowKit
set_option maxRecDepth 100000
set_option linter.all false
theorem copies_long {w : World} {sp : Option Addr} {m : List Int} (hE : Env w) (hl : ¬ m.length ≤ 300) (a b : Int) (cap : Nat) :
    Calls Tryz.prog 6 #[.slice sp m.length cap, .int .u8 a, .int .u8 b] w fun e w' => e = .returned (.bool true) ∧ Below w.heap.size w w' := by
  have hgt : (300 : Int) < m.length := by omega
  have HE : Hid (Env w) := hE
  clear hE hl
  go_enter Tryz.func6, Tryz.ntmps6
  go_wp2_with (go_at_call 8; refine (lives_any HE.out).mono ?_; rintro e w8 ⟨rfl, hb⟩; have HB8 : Hid (Below w.heap.size w w8) := hb; clear hb)
  go_ret
  exact ⟨rfl, HB8.out⟩
theorem copies_any {w : World} {sp : Option Addr} {m : List Int} {a b : Int} (hE : Env w) (hs : Src w sp m) (hm : Bs m) (ha : byte a) (hb : byte b) (cap : Nat) :
    Calls Tryz.prog 6 #[.slice sp m.length cap, .int .u8 a, .int .u8 b] w fun e w' => e = .returned (.bool true) ∧ Below w.heap.size w w' := by
  by_cases hl : m.length ≤ 300
  · obtain ⟨A, rfl⟩ : ∃ A : Nat, a = A := ⟨a.toNat, by unfold byte at ha; omega⟩
    obtain ⟨B, rfl⟩ : ∃ B : Nat, b = B := ⟨b.toNat, by unfold byte at hb; omega⟩
    by_cases hA : A + 4 ≤ m.length
    · by_cases hB : B + 4 ≤ m.length
      · exact copies_few hE hs hm hl ha hb hA hB cap
      · exact copies_half hE hs hm hl ha hb hA hB cap
    · exact copies_none hE hs hm hl ha hb hA cap
  · exact copies_long hE hl a b cap
end Go.Proofs.YtomccgodfimaiaaGreatDoor
