/- What a queue, and a pool, that are things answer. -/
import Derived.Test.YteicnekoogmmmaaGreatDoorParts
import Derived.Test.YteicnekoogmmmaaGreatDoorPOwners
import Derived.Test.YteicnekoogmmmaaGreatDoorRowP
import Derived.Deep.RegionWith
namespace Go.Proofs.YteicnekoogmmmaaGreatDoor
open Go Go.RowKit
set_option maxRecDepth 100000
set_option linter.unusedVariables false
set_option maxHeartbeats 8000000 in
theorem pool_free {w : World} {g q n : Nat} {zs : List Int} (h : Blk w g (ptrc q) 94) (hq : Pl.Pool w q n zs) (who ah am aw : Int) (v : Nat) (hv : v < 4294967296) (hw : 0 < who ∧ who ≤ 4294967295) :
    Calls Tryz.prog 142 #[.pointer (some ⟨g, 0, none⟩), .int .u32 who, .agg #[.int .u8 15, .int .u32 ah, .int .u32 (v : Nat), .int .u32 am, .int .i64 aw]] w fun e w' => e = .returned (.tuple #[.int .u32 0, .int .i64 (frE zs who v)]) ∧ Pl.Pool w' q n (frL zs who v) ∧ Buts [q] w w' := by
  have hlt := h.lt
  have c0 : w.cell? ⟨g, 0, none⟩ = some (.pointer (some ⟨q, 0, none⟩)) := by rw [h.cell]; rfl
  have HP : Hid (∀ wx, Below w.heap.size w wx → Calls Tryz.prog 144 #[.pointer (some ⟨q, 0, none⟩), .int .u32 who, .int .i64 (v : Nat)] wx fun e w' => e = .returned (.int .i64 (frE zs who v)) ∧ Pl.Pool w' q n (frL zs who v) ∧ Buts [q] w w') :=
    fun wx hb => (free_any (hq.below hb) who v hw.1).mono fun e w' ⟨he, hr, hb'⟩ => ⟨he, hr, (Buts.of hb).trans hb'⟩
  have hwr : IntKind.i64.wrap ((v : Nat) : Int) = (v : Nat) := by
    simp only [IntKind.wrap]
    go_arith
  clear h hq
  generalize frE zs who v = x at *
  generalize frL zs who v = ys at *
  go_enter Tryz.func142, Tryz.ntmps142
  go_wp2
  go_region_with (first
    | (go_at_call 144; refine (HP.out _ (alloc_below w _).drew).mono ?_; rintro e w1 ⟨rfl, hr, hb⟩; have HR : Hid (Pl.Pool w1 q n ys) := hr; have HBt : Hid (Buts [q] w w1) := hb; clear hr hb))
  all_goals
    go_wp2
    go_ret2
    exact ⟨rfl, HR.out, HBt.out⟩
end Go.Proofs.YteicnekoogmmmaaGreatDoor
