/-
  No cell of these rows narrows 'for every input' (looked for: loops, veiled, ifaces, maps, wideKeys, modest, calm, conditions, laid).
  DERIVED. THE GIVEN ROWS OF THIS SEAT. 2 by the template 'for every input the law returns true; each argument reads behind the call as it read before'; 0 by the template 'total and deterministic' (their statements: YtmdhlgdikchhlaaTotals.lean).
  GIVEN WITH THE SEED: the statements are not yours to turn. If you find one false, say at which input.
  Laid BY PROGRAM, IN A SANDBOX (cutbox-rows.mjs): the forced cells as the released guide's own fill.sh prints them over the translation 4816e20fa1ae0a8c… (all of the seat's roots in one cut). By AI agents, Wed Nov 11 2026. No macro, syntax, notation, axiom, sorry.
-/
import Derived.Test.YtmdhlgdikchhlaaChecked
import GoSem.Claim
import GoSem.ClaimJoined
import GoSem.ClaimMapViews
import Derived.JoinedTies
import Derived.KernelRfl
namespace Go.Proofs.Ytmdhlgdikchhlaa
/- THE CELL 'sum', in the pinned program and in every row, IS THE sha256 OF THE DUMP (.gsa) THAT YtmdhlgdikchhlaaProg.lean LOADS. Nothing in Lean hashes anything: it is a label: what it is worth is what the hold of that sum in a sandbox is worth. -/
noncomputable def Try.pinned : Pinned := { name := "ytmdhlgdikchhlaa", sum := "4816e20fa1ae0a8c92794ec22f3aa30967619b29250a07145a42ff0ee5013ed0", checked := Try.checked }
namespace Rows
def none {H : Type} : Left H := { results := [], args := [] }

/-- 'timekeeperlaw16.WaitsFall': WHATEVER THE INPUT: true; the input reads as it did. -/
def waitsFallSpec : ChangeSpec := { name := "waitsFall", fn := fun _ => fun
  | [d] => { results := [.lit (.bool true)], args := [d] }
  | _ => none }
def waitsFallRow : OpenClaim := { program := "ytmdhlgdikchhlaa", sum := "4816e20fa1ae0a8c92794ec22f3aa30967619b29250a07145a42ff0ee5013ed0", func := "timekeeper/timekeeperlaw16.WaitsFall", spec := "waitsFall", unfollowed := true, recurses := true, apart := false }
def WaitsFallSaid : Prop := waitsFallRow.holds Try.pinned (OpenSpec.ofChange waitsFallSpec)

/-- ITS FALSE NEIGHBOUR: 'it returns false'. Refute it at one input. -/
def waitsFallWrong : ChangeSpec := { name := "waitsFall", fn := fun _ => fun
  | [d] => { results := [.lit (.bool false)], args := [d] }
  | _ => none }
def WaitsFallWrongFalsely : Prop := waitsFallRow.holds Try.pinned (OpenSpec.ofChange waitsFallWrong)

/-- 'timekeeperlaw16.WaitsGone': WHATEVER THE INPUT: true; the input reads as it did. -/
def waitsGoneSpec : ChangeSpec := { name := "waitsGone", fn := fun _ => fun
  | [d1, d2] => { results := [.lit (.bool true)], args := [d1, d2] }
  | _ => none }
def waitsGoneRow : OpenClaim := { program := "ytmdhlgdikchhlaa", sum := "4816e20fa1ae0a8c92794ec22f3aa30967619b29250a07145a42ff0ee5013ed0", func := "timekeeper/timekeeperlaw16.WaitsGone", spec := "waitsGone", unfollowed := true, recurses := true, apart := false }
def WaitsGoneSaid : Prop := waitsGoneRow.holds Try.pinned (OpenSpec.ofChange waitsGoneSpec)

/-- ITS FALSE NEIGHBOUR: 'it returns false'. Refute it at one input. -/
def waitsGoneWrong : ChangeSpec := { name := "waitsGone", fn := fun _ => fun
  | [d1, d2] => { results := [.lit (.bool false)], args := [d1, d2] }
  | _ => none }
def WaitsGoneWrongFalsely : Prop := waitsGoneRow.holds Try.pinned (OpenSpec.ofChange waitsGoneWrong)

/- THE SECOND FORM. 'bulk': how many values and letters a reading holds, each counted each time it is reached (what is shared counts as often as it is met; a slice's spare places count too). A statement '..UptoSaid' is the law's where the arguments, and the package variables that the reading takes, are together of bulk at most 1048576: NARROWER than '..Said'. Prove '..Said' where nothing that the law and all that it calls make is longer than what came in: it says more and counts as full. Else prove '..UptoSaid'. A law counts once. -/
mutual
def uptoBulk {H : Type} : DataW H → Nat
  | .lit (.string bytes) => bytes.length + 1
  | .lit _ => 1
  | .nil => 1
  | .ptr d => uptoBulk d + 1
  | .slice elems spare => uptoBulkAll elems + uptoBulkAll spare + 1
  | .agg parts => uptoBulkAll parts + 1
  | .iface _ d => uptoBulk d + 1
  | .map entries => uptoBulkEntries entries + 1
  | .held _ => 1
def uptoBulkAll {H : Type} : List (DataW H) → Nat
  | [] => 0
  | d :: r => uptoBulk d + uptoBulkAll r
def uptoBulkEntries {H : Type} : List (Lit × DataW H) → Nat
  | [] => 0
  | x :: r => uptoBulkEntry x + uptoBulkEntries r
def uptoBulkEntry {H : Type} : Lit × DataW H → Nat
  | (.string bytes, d) => bytes.length + uptoBulk d + 1
  | (_, d) => uptoBulk d + 1
 end
def uptoSmall : (H : Type) → List (DataW H) → Bool := fun _ ds => decide (uptoBulkAll ds ≤ 1048576)
def OpenSpec.upto (s : _root_.Go.ChangeSpec) : _root_.Go.OpenSpec := { _root_.Go.OpenSpec.ofChange s with cond := some uptoSmall }

/-- 'timekeeperlaw16.WaitsFall', WHERE WHAT IT READS IS OF BULK AT MOST 1048576: true; the input reads as it did. -/
def waitsFallUptoRow : OpenClaim := { program := "ytmdhlgdikchhlaa", sum := "4816e20fa1ae0a8c92794ec22f3aa30967619b29250a07145a42ff0ee5013ed0", func := "timekeeper/timekeeperlaw16.WaitsFall", spec := "waitsFall", unfollowed := true, recurses := true, apart := false, narrowed := true }
def WaitsFallUptoSaid : Prop := waitsFallUptoRow.holds Try.pinned (OpenSpec.upto waitsFallSpec)

/-- 'timekeeperlaw16.WaitsGone', WHERE WHAT IT READS IS OF BULK AT MOST 1048576: true; the input reads as it did. -/
def waitsGoneUptoRow : OpenClaim := { program := "ytmdhlgdikchhlaa", sum := "4816e20fa1ae0a8c92794ec22f3aa30967619b29250a07145a42ff0ee5013ed0", func := "timekeeper/timekeeperlaw16.WaitsGone", spec := "waitsGone", unfollowed := true, recurses := true, apart := false, narrowed := true }
def WaitsGoneUptoSaid : Prop := waitsGoneUptoRow.holds Try.pinned (OpenSpec.upto waitsGoneSpec)

end Rows
end Go.Proofs.Ytmdhlgdikchhlaa
