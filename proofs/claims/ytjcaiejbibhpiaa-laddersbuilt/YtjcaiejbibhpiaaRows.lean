/-
  No cell of these rows narrows 'for every input' (looked for: loops, veiled, ifaces, maps, wideKeys, modest, calm, conditions, laid).
  DERIVED. THE GIVEN ROWS OF THIS SEAT. 5 by the template 'for every input the law returns true; each argument reads behind the call as it read before'; 0 by the template 'total and deterministic' (their statements: YtjcaiejbibhpiaaTotals.lean).
  GIVEN WITH THE SEED: the statements are not yours to turn. If you find one false, say at which input.
  Laid BY PROGRAM, IN A SANDBOX (cutbox-rows.mjs): the forced cells as the released guide's own fill.sh prints them over the translation 87c2880a46950245… (all of the seat's roots in one cut). By AI agents, Wed Nov 11 2026. No macro, syntax, notation, axiom, sorry.
-/
import Derived.Test.YtjcaiejbibhpiaaChecked
import GoSem.Claim
import GoSem.ClaimJoined
import GoSem.ClaimMapViews
import Derived.JoinedTies
import Derived.KernelRfl
namespace Go.Proofs.Ytjcaiejbibhpiaa
/- THE CELL 'sum', in the pinned program and in every row, IS THE sha256 OF THE DUMP (.gsa) THAT YtjcaiejbibhpiaaProg.lean LOADS. Nothing in Lean hashes anything: it is a label: what it is worth is what the hold of that sum in a sandbox is worth. -/
noncomputable def Try.pinned : Pinned := { name := "ytjcaiejbibhpiaa", sum := "87c2880a46950245cacc7b5d503838c234b75dcd4ea3938c3a293e210f91553d", checked := Try.checked }
namespace Rows
def none {H : Type} : Left H := { results := [], args := [] }

/-- 'timekeeperlaw06.LaddersSets': WHATEVER THE INPUT: true; the input reads as it did. -/
def laddersSetsSpec : ChangeSpec := { name := "laddersSets", fn := fun _ => fun
  | [d1, d2] => { results := [.lit (.bool true)], args := [d1, d2] }
  | _ => none }
def laddersSetsRow : OpenClaim := { program := "ytjcaiejbibhpiaa", sum := "87c2880a46950245cacc7b5d503838c234b75dcd4ea3938c3a293e210f91553d", func := "timekeeper/timekeeperlaw06.LaddersSets", spec := "laddersSets", apart := false }
def LaddersSetsSaid : Prop := laddersSetsRow.holds Try.pinned (OpenSpec.ofChange laddersSetsSpec)

/-- ITS FALSE NEIGHBOUR: 'it returns false'. Refute it at one input. -/
def laddersSetsWrong : ChangeSpec := { name := "laddersSets", fn := fun _ => fun
  | [d1, d2] => { results := [.lit (.bool false)], args := [d1, d2] }
  | _ => none }
def LaddersSetsWrongFalsely : Prop := laddersSetsRow.holds Try.pinned (OpenSpec.ofChange laddersSetsWrong)

/-- 'timekeeperlaw06.LaddersOne': WHATEVER THE INPUT: true; the input reads as it did. -/
def laddersOneSpec : ChangeSpec := { name := "laddersOne", fn := fun _ => fun
  | [d1, d2] => { results := [.lit (.bool true)], args := [d1, d2] }
  | _ => none }
def laddersOneRow : OpenClaim := { program := "ytjcaiejbibhpiaa", sum := "87c2880a46950245cacc7b5d503838c234b75dcd4ea3938c3a293e210f91553d", func := "timekeeper/timekeeperlaw06.LaddersOne", spec := "laddersOne", unfollowed := true, recurses := true, apart := false }
def LaddersOneSaid : Prop := laddersOneRow.holds Try.pinned (OpenSpec.ofChange laddersOneSpec)

/-- ITS FALSE NEIGHBOUR: 'it returns false'. Refute it at one input. -/
def laddersOneWrong : ChangeSpec := { name := "laddersOne", fn := fun _ => fun
  | [d1, d2] => { results := [.lit (.bool false)], args := [d1, d2] }
  | _ => none }
def LaddersOneWrongFalsely : Prop := laddersOneRow.holds Try.pinned (OpenSpec.ofChange laddersOneWrong)

/-- 'timekeeperlaw06.LaddersFalls': WHATEVER THE INPUT: true; the input reads as it did. -/
def laddersFallsSpec : ChangeSpec := { name := "laddersFalls", fn := fun _ => fun
  | [d] => { results := [.lit (.bool true)], args := [d] }
  | _ => none }
def laddersFallsRow : OpenClaim := { program := "ytjcaiejbibhpiaa", sum := "87c2880a46950245cacc7b5d503838c234b75dcd4ea3938c3a293e210f91553d", func := "timekeeper/timekeeperlaw06.LaddersFalls", spec := "laddersFalls", unfollowed := true, recurses := true, apart := false }
def LaddersFallsSaid : Prop := laddersFallsRow.holds Try.pinned (OpenSpec.ofChange laddersFallsSpec)

/-- ITS FALSE NEIGHBOUR: 'it returns false'. Refute it at one input. -/
def laddersFallsWrong : ChangeSpec := { name := "laddersFalls", fn := fun _ => fun
  | [d] => { results := [.lit (.bool false)], args := [d] }
  | _ => none }
def LaddersFallsWrongFalsely : Prop := laddersFallsRow.holds Try.pinned (OpenSpec.ofChange laddersFallsWrong)

/-- 'timekeeperlaw06.LaddersBuilt': WHATEVER THE INPUT: true; the input reads as it did. -/
def laddersBuiltSpec : ChangeSpec := { name := "laddersBuilt", fn := fun _ => fun
  | [d] => { results := [.lit (.bool true)], args := [d] }
  | _ => none }
def laddersBuiltRow : OpenClaim := { program := "ytjcaiejbibhpiaa", sum := "87c2880a46950245cacc7b5d503838c234b75dcd4ea3938c3a293e210f91553d", func := "timekeeper/timekeeperlaw06.LaddersBuilt", spec := "laddersBuilt", unfollowed := true, recurses := true, apart := false }
def LaddersBuiltSaid : Prop := laddersBuiltRow.holds Try.pinned (OpenSpec.ofChange laddersBuiltSpec)

/-- ITS FALSE NEIGHBOUR: 'it returns false'. Refute it at one input. -/
def laddersBuiltWrong : ChangeSpec := { name := "laddersBuilt", fn := fun _ => fun
  | [d] => { results := [.lit (.bool false)], args := [d] }
  | _ => none }
def LaddersBuiltWrongFalsely : Prop := laddersBuiltRow.holds Try.pinned (OpenSpec.ofChange laddersBuiltWrong)

/-- 'timekeeperlaw06.LaddersBits': WHATEVER THE INPUT: true; the input reads as it did. -/
def laddersBitsSpec : ChangeSpec := { name := "laddersBits", fn := fun _ => fun
  | [d1, d2] => { results := [.lit (.bool true)], args := [d1, d2] }
  | _ => none }
def laddersBitsRow : OpenClaim := { program := "ytjcaiejbibhpiaa", sum := "87c2880a46950245cacc7b5d503838c234b75dcd4ea3938c3a293e210f91553d", func := "timekeeper/timekeeperlaw06.LaddersBits", spec := "laddersBits", unfollowed := true, recurses := true, apart := false }
def LaddersBitsSaid : Prop := laddersBitsRow.holds Try.pinned (OpenSpec.ofChange laddersBitsSpec)

/-- ITS FALSE NEIGHBOUR: 'it returns false'. Refute it at one input. -/
def laddersBitsWrong : ChangeSpec := { name := "laddersBits", fn := fun _ => fun
  | [d1, d2] => { results := [.lit (.bool false)], args := [d1, d2] }
  | _ => none }
def LaddersBitsWrongFalsely : Prop := laddersBitsRow.holds Try.pinned (OpenSpec.ofChange laddersBitsWrong)

/- THE SECOND FORM. 'bulk': how many values and letters a reading holds, each counted each time it is reached (what is shared counts as often as it is met; a slice's spare places count too). A statement '..UptoSaid' is the law's where the arguments, and the package variables that the reading takes, are together of bulk at most 1048576: NARROWER than '..Said'. Prove '..Said' where nothing that the law and all that it calls make is longer than what came in: it says more and counts as full. Else prove '..UptoSaid'. A law counts once. -/
mutual
def uptoBulk {H : Type} : DataW H → Nat
  | .lit (.string bytes) => bytes.length + 1
  | .lit _ => 1
  | .nil => 1
  | .ptr d => uptoBulk d + 1
  | .slice elems spare => uptoBulkAll elems + uptoBulkAll spare + 1
  | .agg parts => uptoBulkAll parts + 1
  | .iface _ d => uptoBulk d + 1
  | .map entries => uptoBulkEntries entries + 1
  | .held _ => 1
def uptoBulkAll {H : Type} : List (DataW H) → Nat
  | [] => 0
  | d :: r => uptoBulk d + uptoBulkAll r
def uptoBulkEntries {H : Type} : List (Lit × DataW H) → Nat
  | [] => 0
  | x :: r => uptoBulkEntry x + uptoBulkEntries r
def uptoBulkEntry {H : Type} : Lit × DataW H → Nat
  | (.string bytes, d) => bytes.length + uptoBulk d + 1
  | (_, d) => uptoBulk d + 1
 end
def uptoSmall : (H : Type) → List (DataW H) → Bool := fun _ ds => decide (uptoBulkAll ds ≤ 1048576)
def OpenSpec.upto (s : _root_.Go.ChangeSpec) : _root_.Go.OpenSpec := { _root_.Go.OpenSpec.ofChange s with cond := some uptoSmall }

/-- 'timekeeperlaw06.LaddersSets', WHERE WHAT IT READS IS OF BULK AT MOST 1048576: true; the input reads as it did. -/
def laddersSetsUptoRow : OpenClaim := { program := "ytjcaiejbibhpiaa", sum := "87c2880a46950245cacc7b5d503838c234b75dcd4ea3938c3a293e210f91553d", func := "timekeeper/timekeeperlaw06.LaddersSets", spec := "laddersSets", apart := false, narrowed := true }
def LaddersSetsUptoSaid : Prop := laddersSetsUptoRow.holds Try.pinned (OpenSpec.upto laddersSetsSpec)

/-- 'timekeeperlaw06.LaddersOne', WHERE WHAT IT READS IS OF BULK AT MOST 1048576: true; the input reads as it did. -/
def laddersOneUptoRow : OpenClaim := { program := "ytjcaiejbibhpiaa", sum := "87c2880a46950245cacc7b5d503838c234b75dcd4ea3938c3a293e210f91553d", func := "timekeeper/timekeeperlaw06.LaddersOne", spec := "laddersOne", unfollowed := true, recurses := true, apart := false, narrowed := true }
def LaddersOneUptoSaid : Prop := laddersOneUptoRow.holds Try.pinned (OpenSpec.upto laddersOneSpec)

/-- 'timekeeperlaw06.LaddersFalls', WHERE WHAT IT READS IS OF BULK AT MOST 1048576: true; the input reads as it did. -/
def laddersFallsUptoRow : OpenClaim := { program := "ytjcaiejbibhpiaa", sum := "87c2880a46950245cacc7b5d503838c234b75dcd4ea3938c3a293e210f91553d", func := "timekeeper/timekeeperlaw06.LaddersFalls", spec := "laddersFalls", unfollowed := true, recurses := true, apart := false, narrowed := true }
def LaddersFallsUptoSaid : Prop := laddersFallsUptoRow.holds Try.pinned (OpenSpec.upto laddersFallsSpec)

/-- 'timekeeperlaw06.LaddersBuilt', WHERE WHAT IT READS IS OF BULK AT MOST 1048576: true; the input reads as it did. -/
def laddersBuiltUptoRow : OpenClaim := { program := "ytjcaiejbibhpiaa", sum := "87c2880a46950245cacc7b5d503838c234b75dcd4ea3938c3a293e210f91553d", func := "timekeeper/timekeeperlaw06.LaddersBuilt", spec := "laddersBuilt", unfollowed := true, recurses := true, apart := false, narrowed := true }
def LaddersBuiltUptoSaid : Prop := laddersBuiltUptoRow.holds Try.pinned (OpenSpec.upto laddersBuiltSpec)

/-- 'timekeeperlaw06.LaddersBits', WHERE WHAT IT READS IS OF BULK AT MOST 1048576: true; the input reads as it did. -/
def laddersBitsUptoRow : OpenClaim := { program := "ytjcaiejbibhpiaa", sum := "87c2880a46950245cacc7b5d503838c234b75dcd4ea3938c3a293e210f91553d", func := "timekeeper/timekeeperlaw06.LaddersBits", spec := "laddersBits", unfollowed := true, recurses := true, apart := false, narrowed := true }
def LaddersBitsUptoSaid : Prop := laddersBitsUptoRow.holds Try.pinned (OpenSpec.upto laddersBitsSpec)

end Rows
end Go.Proofs.Ytjcaiejbibhpiaa
