/-
  No cell of these rows narrows 'for every input' (looked for: loops, veiled, ifaces, maps, wideKeys, modest, calm, conditions, laid).
  DERIVED. THE GIVEN ROWS OF THIS SEAT. 6 by the template 'for every input the law returns true; each argument reads behind the call as it read before'; 0 by the template 'total and deterministic' (their statements: YtbbdndfibjdcfaaGreatTotals.lean).
  GIVEN WITH THE SEED: the statements are not yours to turn. If you find one false, say at which input.
  Laid BY PROGRAM, IN A SANDBOX (cutbox-rows.mjs): the forced cells as the released guide's own fill.sh prints them over the translation 1b63927efbae210f… (all of the seat's roots in one cut). By AI agents, Wed Nov 11 2026. No macro, syntax, notation, axiom, sorry.
-/
import Derived.Test.YtbbdndfibjdcfaaGreatChecked
import GoSem.Claim
import GoSem.ClaimJoined
import GoSem.ClaimMapViews
import Derived.JoinedTies
import Derived.KernelRfl
namespace Go.Proofs.YtbbdndfibjdcfaaGreat
/- THE CELL 'sum', in the pinned program and in every row, IS THE sha256 OF THE DUMP (.gsa) THAT YtbbdndfibjdcfaaGreatProg.lean LOADS. Nothing in Lean hashes anything: it is a label: what it is worth is what the hold of that sum in a sandbox is worth. -/
noncomputable def Tryz.pinned : Pinned := { name := "ytbbdndfibjdcfaagreat", sum := "1b63927efbae210f400df101a821cbcb147594f1a7b7423e9b8239ba83978a2c", checked := Tryz.checked }
namespace Rows
def none {H : Type} : Left H := { results := [], args := [] }

/-- 'timekeeperlaw20.KernelFine': WHATEVER THE INPUT: true; the input reads as it did. -/
def kernelFineSpec : ChangeSpec := { name := "kernelFine", fn := fun _ => fun
  | [d1, d2] => { results := [.lit (.bool true)], args := [d1, d2] }
  | _ => none }
def kernelFineRow : OpenClaim := { program := "ytbbdndfibjdcfaagreat", sum := "1b63927efbae210f400df101a821cbcb147594f1a7b7423e9b8239ba83978a2c", func := "timekeeper/timekeeperlaw20.KernelFine", spec := "kernelFine", inPlace := ["slices.overlaps[timekeeper/deltas.link[int]]"], unfollowed := true, recurses := true, apart := false }
def KernelFineSaid : Prop := kernelFineRow.holds Tryz.pinned (OpenSpec.ofChange kernelFineSpec)

/-- ITS FALSE NEIGHBOUR: 'it returns false'. Refute it at one input. -/
def kernelFineWrong : ChangeSpec := { name := "kernelFine", fn := fun _ => fun
  | [d1, d2] => { results := [.lit (.bool false)], args := [d1, d2] }
  | _ => none }
def KernelFineWrongFalsely : Prop := kernelFineRow.holds Tryz.pinned (OpenSpec.ofChange kernelFineWrong)

/-- 'timekeeperlaw20.KernelTimes': WHATEVER THE INPUT: true; the input reads as it did. -/
def kernelTimesSpec : ChangeSpec := { name := "kernelTimes", fn := fun _ => fun
  | [d1, d2] => { results := [.lit (.bool true)], args := [d1, d2] }
  | _ => none }
def kernelTimesRow : OpenClaim := { program := "ytbbdndfibjdcfaagreat", sum := "1b63927efbae210f400df101a821cbcb147594f1a7b7423e9b8239ba83978a2c", func := "timekeeper/timekeeperlaw20.KernelTimes", spec := "kernelTimes", inPlace := ["slices.overlaps[timekeeper/deltas.link[int]]"], unfollowed := true, recurses := true, apart := false }
def KernelTimesSaid : Prop := kernelTimesRow.holds Tryz.pinned (OpenSpec.ofChange kernelTimesSpec)

/-- ITS FALSE NEIGHBOUR: 'it returns false'. Refute it at one input. -/
def kernelTimesWrong : ChangeSpec := { name := "kernelTimes", fn := fun _ => fun
  | [d1, d2] => { results := [.lit (.bool false)], args := [d1, d2] }
  | _ => none }
def KernelTimesWrongFalsely : Prop := kernelTimesRow.holds Tryz.pinned (OpenSpec.ofChange kernelTimesWrong)

/-- 'timekeeperlaw20.KernelDrops': WHATEVER THE INPUT: true; the input reads as it did. -/
def kernelDropsSpec : ChangeSpec := { name := "kernelDrops", fn := fun _ => fun
  | [d1, d2, d3] => { results := [.lit (.bool true)], args := [d1, d2, d3] }
  | _ => none }
def kernelDropsRow : OpenClaim := { program := "ytbbdndfibjdcfaagreat", sum := "1b63927efbae210f400df101a821cbcb147594f1a7b7423e9b8239ba83978a2c", func := "timekeeper/timekeeperlaw20.KernelDrops", spec := "kernelDrops", inPlace := ["slices.overlaps[timekeeper/deltas.link[int]]"], unfollowed := true, recurses := true, apart := false }
def KernelDropsSaid : Prop := kernelDropsRow.holds Tryz.pinned (OpenSpec.ofChange kernelDropsSpec)

/-- ITS FALSE NEIGHBOUR: 'it returns false'. Refute it at one input. -/
def kernelDropsWrong : ChangeSpec := { name := "kernelDrops", fn := fun _ => fun
  | [d1, d2, d3] => { results := [.lit (.bool false)], args := [d1, d2, d3] }
  | _ => none }
def KernelDropsWrongFalsely : Prop := kernelDropsRow.holds Tryz.pinned (OpenSpec.ofChange kernelDropsWrong)

/-- 'timekeeperlaw20.KernelEnds': WHATEVER THE INPUT: true; the input reads as it did. -/
def kernelEndsSpec : ChangeSpec := { name := "kernelEnds", fn := fun _ => fun
  | [d] => { results := [.lit (.bool true)], args := [d] }
  | _ => none }
def kernelEndsRow : OpenClaim := { program := "ytbbdndfibjdcfaagreat", sum := "1b63927efbae210f400df101a821cbcb147594f1a7b7423e9b8239ba83978a2c", func := "timekeeper/timekeeperlaw20.KernelEnds", spec := "kernelEnds", inPlace := ["slices.overlaps[timekeeper/deltas.link[int]]"], unfollowed := true, recurses := true, apart := false }
def KernelEndsSaid : Prop := kernelEndsRow.holds Tryz.pinned (OpenSpec.ofChange kernelEndsSpec)

/-- ITS FALSE NEIGHBOUR: 'it returns false'. Refute it at one input. -/
def kernelEndsWrong : ChangeSpec := { name := "kernelEnds", fn := fun _ => fun
  | [d] => { results := [.lit (.bool false)], args := [d] }
  | _ => none }
def KernelEndsWrongFalsely : Prop := kernelEndsRow.holds Tryz.pinned (OpenSpec.ofChange kernelEndsWrong)

/-- 'timekeeperlaw20.KernelSlices': WHATEVER THE INPUT: true; the input reads as it did. -/
def kernelSlicesSpec : ChangeSpec := { name := "kernelSlices", fn := fun _ => fun
  | [d] => { results := [.lit (.bool true)], args := [d] }
  | _ => none }
def kernelSlicesRow : OpenClaim := { program := "ytbbdndfibjdcfaagreat", sum := "1b63927efbae210f400df101a821cbcb147594f1a7b7423e9b8239ba83978a2c", func := "timekeeper/timekeeperlaw20.KernelSlices", spec := "kernelSlices", inPlace := ["slices.overlaps[timekeeper/deltas.link[int]]"], unfollowed := true, recurses := true, apart := false }
def KernelSlicesSaid : Prop := kernelSlicesRow.holds Tryz.pinned (OpenSpec.ofChange kernelSlicesSpec)

/-- ITS FALSE NEIGHBOUR: 'it returns false'. Refute it at one input. -/
def kernelSlicesWrong : ChangeSpec := { name := "kernelSlices", fn := fun _ => fun
  | [d] => { results := [.lit (.bool false)], args := [d] }
  | _ => none }
def KernelSlicesWrongFalsely : Prop := kernelSlicesRow.holds Tryz.pinned (OpenSpec.ofChange kernelSlicesWrong)

/-- 'timekeeperlaw20.KernelHeld': WHATEVER THE INPUT: true; the input reads as it did. -/
def kernelHeldSpec : ChangeSpec := { name := "kernelHeld", fn := fun _ => fun
  | [d1, d2, d3] => { results := [.lit (.bool true)], args := [d1, d2, d3] }
  | _ => none }
def kernelHeldRow : OpenClaim := { program := "ytbbdndfibjdcfaagreat", sum := "1b63927efbae210f400df101a821cbcb147594f1a7b7423e9b8239ba83978a2c", func := "timekeeper/timekeeperlaw20.KernelHeld", spec := "kernelHeld", inPlace := ["slices.overlaps[timekeeper/deltas.link[int]]"], unfollowed := true, recurses := true, apart := false }
def KernelHeldSaid : Prop := kernelHeldRow.holds Tryz.pinned (OpenSpec.ofChange kernelHeldSpec)

/-- ITS FALSE NEIGHBOUR: 'it returns false'. Refute it at one input. -/
def kernelHeldWrong : ChangeSpec := { name := "kernelHeld", fn := fun _ => fun
  | [d1, d2, d3] => { results := [.lit (.bool false)], args := [d1, d2, d3] }
  | _ => none }
def KernelHeldWrongFalsely : Prop := kernelHeldRow.holds Tryz.pinned (OpenSpec.ofChange kernelHeldWrong)

/- THE SECOND FORM. 'bulk': how many values and letters a reading holds, each counted each time it is reached (what is shared counts as often as it is met; a slice's spare places count too). A statement '..UptoSaid' is the law's where the arguments, and the package variables that the reading takes, are together of bulk at most 1048576: NARROWER than '..Said'. Prove '..Said' where nothing that the law and all that it calls make is longer than what came in: it says more and counts as full. Else prove '..UptoSaid'. A law counts once. -/
mutual
def uptoBulk {H : Type} : DataW H → Nat
  | .lit (.string bytes) => bytes.length + 1
  | .lit _ => 1
  | .nil => 1
  | .ptr d => uptoBulk d + 1
  | .slice elems spare => uptoBulkAll elems + uptoBulkAll spare + 1
  | .agg parts => uptoBulkAll parts + 1
  | .iface _ d => uptoBulk d + 1
  | .map entries => uptoBulkEntries entries + 1
  | .held _ => 1
def uptoBulkAll {H : Type} : List (DataW H) → Nat
  | [] => 0
  | d :: r => uptoBulk d + uptoBulkAll r
def uptoBulkEntries {H : Type} : List (Lit × DataW H) → Nat
  | [] => 0
  | x :: r => uptoBulkEntry x + uptoBulkEntries r
def uptoBulkEntry {H : Type} : Lit × DataW H → Nat
  | (.string bytes, d) => bytes.length + uptoBulk d + 1
  | (_, d) => uptoBulk d + 1
 end
def uptoSmall : (H : Type) → List (DataW H) → Bool := fun _ ds => decide (uptoBulkAll ds ≤ 1048576)
def OpenSpec.upto (s : _root_.Go.ChangeSpec) : _root_.Go.OpenSpec := { _root_.Go.OpenSpec.ofChange s with cond := some uptoSmall }

/-- 'timekeeperlaw20.KernelFine', WHERE WHAT IT READS IS OF BULK AT MOST 1048576: true; the input reads as it did. -/
def kernelFineUptoRow : OpenClaim := { program := "ytbbdndfibjdcfaagreat", sum := "1b63927efbae210f400df101a821cbcb147594f1a7b7423e9b8239ba83978a2c", func := "timekeeper/timekeeperlaw20.KernelFine", spec := "kernelFine", inPlace := ["slices.overlaps[timekeeper/deltas.link[int]]"], unfollowed := true, recurses := true, apart := false, narrowed := true }
def KernelFineUptoSaid : Prop := kernelFineUptoRow.holds Tryz.pinned (OpenSpec.upto kernelFineSpec)

/-- 'timekeeperlaw20.KernelTimes', WHERE WHAT IT READS IS OF BULK AT MOST 1048576: true; the input reads as it did. -/
def kernelTimesUptoRow : OpenClaim := { program := "ytbbdndfibjdcfaagreat", sum := "1b63927efbae210f400df101a821cbcb147594f1a7b7423e9b8239ba83978a2c", func := "timekeeper/timekeeperlaw20.KernelTimes", spec := "kernelTimes", inPlace := ["slices.overlaps[timekeeper/deltas.link[int]]"], unfollowed := true, recurses := true, apart := false, narrowed := true }
def KernelTimesUptoSaid : Prop := kernelTimesUptoRow.holds Tryz.pinned (OpenSpec.upto kernelTimesSpec)

/-- 'timekeeperlaw20.KernelDrops', WHERE WHAT IT READS IS OF BULK AT MOST 1048576: true; the input reads as it did. -/
def kernelDropsUptoRow : OpenClaim := { program := "ytbbdndfibjdcfaagreat", sum := "1b63927efbae210f400df101a821cbcb147594f1a7b7423e9b8239ba83978a2c", func := "timekeeper/timekeeperlaw20.KernelDrops", spec := "kernelDrops", inPlace := ["slices.overlaps[timekeeper/deltas.link[int]]"], unfollowed := true, recurses := true, apart := false, narrowed := true }
def KernelDropsUptoSaid : Prop := kernelDropsUptoRow.holds Tryz.pinned (OpenSpec.upto kernelDropsSpec)

/-- 'timekeeperlaw20.KernelEnds', WHERE WHAT IT READS IS OF BULK AT MOST 1048576: true; the input reads as it did. -/
def kernelEndsUptoRow : OpenClaim := { program := "ytbbdndfibjdcfaagreat", sum := "1b63927efbae210f400df101a821cbcb147594f1a7b7423e9b8239ba83978a2c", func := "timekeeper/timekeeperlaw20.KernelEnds", spec := "kernelEnds", inPlace := ["slices.overlaps[timekeeper/deltas.link[int]]"], unfollowed := true, recurses := true, apart := false, narrowed := true }
def KernelEndsUptoSaid : Prop := kernelEndsUptoRow.holds Tryz.pinned (OpenSpec.upto kernelEndsSpec)

/-- 'timekeeperlaw20.KernelSlices', WHERE WHAT IT READS IS OF BULK AT MOST 1048576: true; the input reads as it did. -/
def kernelSlicesUptoRow : OpenClaim := { program := "ytbbdndfibjdcfaagreat", sum := "1b63927efbae210f400df101a821cbcb147594f1a7b7423e9b8239ba83978a2c", func := "timekeeper/timekeeperlaw20.KernelSlices", spec := "kernelSlices", inPlace := ["slices.overlaps[timekeeper/deltas.link[int]]"], unfollowed := true, recurses := true, apart := false, narrowed := true }
def KernelSlicesUptoSaid : Prop := kernelSlicesUptoRow.holds Tryz.pinned (OpenSpec.upto kernelSlicesSpec)

/-- 'timekeeperlaw20.KernelHeld', WHERE WHAT IT READS IS OF BULK AT MOST 1048576: true; the input reads as it did. -/
def kernelHeldUptoRow : OpenClaim := { program := "ytbbdndfibjdcfaagreat", sum := "1b63927efbae210f400df101a821cbcb147594f1a7b7423e9b8239ba83978a2c", func := "timekeeper/timekeeperlaw20.KernelHeld", spec := "kernelHeld", inPlace := ["slices.overlaps[timekeeper/deltas.link[int]]"], unfollowed := true, recurses := true, apart := false, narrowed := true }
def KernelHeldUptoSaid : Prop := kernelHeldUptoRow.holds Tryz.pinned (OpenSpec.upto kernelHeldSpec)

end Rows
end Go.Proofs.YtbbdndfibjdcfaaGreat
