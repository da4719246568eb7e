/-
  No cell of these rows narrows 'for every input' (looked for: loops, veiled, ifaces, maps, wideKeys, modest, calm, conditions, laid).
  DERIVED. THE GIVEN ROWS OF THIS SEAT. 3 by the template 'for every input the law returns true; each argument reads behind the call as it read before'; 0 by the template 'total and deterministic' (their statements: YtdpjkpekafgfeabTotals.lean).
  GIVEN WITH THE SEED: the statements are not yours to turn. If you find one false, say at which input.
  Laid BY PROGRAM, IN A SANDBOX (cutbox-rows.mjs): the forced cells as the released guide's own fill.sh prints them over the translation 3774f9be2571e84c… (all of the seat's roots in one cut). By AI agents, Wed Nov 11 2026. No macro, syntax, notation, axiom, sorry.
-/
import Derived.Test.YtdpjkpekafgfeabChecked
import GoSem.Claim
import GoSem.ClaimJoined
import GoSem.ClaimMapViews
import Derived.JoinedTies
import Derived.KernelRfl
namespace Go.Proofs.Ytdpjkpekafgfeab
/- THE CELL 'sum', in the pinned program and in every row, IS THE sha256 OF THE DUMP (.gsa) THAT YtdpjkpekafgfeabProg.lean LOADS. Nothing in Lean hashes anything: it is a label: what it is worth is what the hold of that sum in a sandbox is worth. -/
noncomputable def Try.pinned : Pinned := { name := "ytdpjkpekafgfeab", sum := "3774f9be2571e84cbc26c5131c1b3de1fe7849b635d271b5b1c63d6244108e2b", checked := Try.checked }
namespace Rows
def none {H : Type} : Left H := { results := [], args := [] }

/-- 'timekeeperlaw03.UnitsOnly': WHATEVER THE INPUT: true; the input reads as it did. -/
def unitsOnlySpec : ChangeSpec := { name := "unitsOnly", fn := fun _ => fun
  | [d1, d2, d3] => { results := [.lit (.bool true)], args := [d1, d2, d3] }
  | _ => none }
def unitsOnlyRow : OpenClaim := { program := "ytdpjkpekafgfeab", sum := "3774f9be2571e84cbc26c5131c1b3de1fe7849b635d271b5b1c63d6244108e2b", func := "timekeeper/timekeeperlaw03.UnitsOnly", spec := "unitsOnly", unfollowed := true, recurses := true, apart := false }
def UnitsOnlySaid : Prop := unitsOnlyRow.holds Try.pinned (OpenSpec.ofChange unitsOnlySpec)

/-- ITS FALSE NEIGHBOUR: 'it returns false'. Refute it at one input. -/
def unitsOnlyWrong : ChangeSpec := { name := "unitsOnly", fn := fun _ => fun
  | [d1, d2, d3] => { results := [.lit (.bool false)], args := [d1, d2, d3] }
  | _ => none }
def UnitsOnlyWrongFalsely : Prop := unitsOnlyRow.holds Try.pinned (OpenSpec.ofChange unitsOnlyWrong)

/-- 'timekeeperlaw03.UnitsOften': WHATEVER THE INPUT: true; the input reads as it did. -/
def unitsOftenSpec : ChangeSpec := { name := "unitsOften", fn := fun _ => fun
  | [d1, d2] => { results := [.lit (.bool true)], args := [d1, d2] }
  | _ => none }
def unitsOftenRow : OpenClaim := { program := "ytdpjkpekafgfeab", sum := "3774f9be2571e84cbc26c5131c1b3de1fe7849b635d271b5b1c63d6244108e2b", func := "timekeeper/timekeeperlaw03.UnitsOften", spec := "unitsOften", unfollowed := true, recurses := true, apart := false }
def UnitsOftenSaid : Prop := unitsOftenRow.holds Try.pinned (OpenSpec.ofChange unitsOftenSpec)

/-- ITS FALSE NEIGHBOUR: 'it returns false'. Refute it at one input. -/
def unitsOftenWrong : ChangeSpec := { name := "unitsOften", fn := fun _ => fun
  | [d1, d2] => { results := [.lit (.bool false)], args := [d1, d2] }
  | _ => none }
def UnitsOftenWrongFalsely : Prop := unitsOftenRow.holds Try.pinned (OpenSpec.ofChange unitsOftenWrong)

/-- 'timekeeperlaw03.UnitsChain': WHATEVER THE INPUT: true; the input reads as it did. -/
def unitsChainSpec : ChangeSpec := { name := "unitsChain", fn := fun _ => fun
  | [d1, d2, d3] => { results := [.lit (.bool true)], args := [d1, d2, d3] }
  | _ => none }
def unitsChainRow : OpenClaim := { program := "ytdpjkpekafgfeab", sum := "3774f9be2571e84cbc26c5131c1b3de1fe7849b635d271b5b1c63d6244108e2b", func := "timekeeper/timekeeperlaw03.UnitsChain", spec := "unitsChain", unfollowed := true, recurses := true, apart := false }
def UnitsChainSaid : Prop := unitsChainRow.holds Try.pinned (OpenSpec.ofChange unitsChainSpec)

/-- ITS FALSE NEIGHBOUR: 'it returns false'. Refute it at one input. -/
def unitsChainWrong : ChangeSpec := { name := "unitsChain", fn := fun _ => fun
  | [d1, d2, d3] => { results := [.lit (.bool false)], args := [d1, d2, d3] }
  | _ => none }
def UnitsChainWrongFalsely : Prop := unitsChainRow.holds Try.pinned (OpenSpec.ofChange unitsChainWrong)

/- THE SECOND FORM. 'bulk': how many values and letters a reading holds, each counted each time it is reached (what is shared counts as often as it is met; a slice's spare places count too). A statement '..UptoSaid' is the law's where the arguments, and the package variables that the reading takes, are together of bulk at most 1048576: NARROWER than '..Said'. Prove '..Said' where nothing that the law and all that it calls make is longer than what came in: it says more and counts as full. Else prove '..UptoSaid'. A law counts once. -/
mutual
def uptoBulk {H : Type} : DataW H → Nat
  | .lit (.string bytes) => bytes.length + 1
  | .lit _ => 1
  | .nil => 1
  | .ptr d => uptoBulk d + 1
  | .slice elems spare => uptoBulkAll elems + uptoBulkAll spare + 1
  | .agg parts => uptoBulkAll parts + 1
  | .iface _ d => uptoBulk d + 1
  | .map entries => uptoBulkEntries entries + 1
  | .held _ => 1
def uptoBulkAll {H : Type} : List (DataW H) → Nat
  | [] => 0
  | d :: r => uptoBulk d + uptoBulkAll r
def uptoBulkEntries {H : Type} : List (Lit × DataW H) → Nat
  | [] => 0
  | x :: r => uptoBulkEntry x + uptoBulkEntries r
def uptoBulkEntry {H : Type} : Lit × DataW H → Nat
  | (.string bytes, d) => bytes.length + uptoBulk d + 1
  | (_, d) => uptoBulk d + 1
 end
def uptoSmall : (H : Type) → List (DataW H) → Bool := fun _ ds => decide (uptoBulkAll ds ≤ 1048576)
def OpenSpec.upto (s : _root_.Go.ChangeSpec) : _root_.Go.OpenSpec := { _root_.Go.OpenSpec.ofChange s with cond := some uptoSmall }

/-- 'timekeeperlaw03.UnitsOnly', WHERE WHAT IT READS IS OF BULK AT MOST 1048576: true; the input reads as it did. -/
def unitsOnlyUptoRow : OpenClaim := { program := "ytdpjkpekafgfeab", sum := "3774f9be2571e84cbc26c5131c1b3de1fe7849b635d271b5b1c63d6244108e2b", func := "timekeeper/timekeeperlaw03.UnitsOnly", spec := "unitsOnly", unfollowed := true, recurses := true, apart := false, narrowed := true }
def UnitsOnlyUptoSaid : Prop := unitsOnlyUptoRow.holds Try.pinned (OpenSpec.upto unitsOnlySpec)

/-- 'timekeeperlaw03.UnitsOften', WHERE WHAT IT READS IS OF BULK AT MOST 1048576: true; the input reads as it did. -/
def unitsOftenUptoRow : OpenClaim := { program := "ytdpjkpekafgfeab", sum := "3774f9be2571e84cbc26c5131c1b3de1fe7849b635d271b5b1c63d6244108e2b", func := "timekeeper/timekeeperlaw03.UnitsOften", spec := "unitsOften", unfollowed := true, recurses := true, apart := false, narrowed := true }
def UnitsOftenUptoSaid : Prop := unitsOftenUptoRow.holds Try.pinned (OpenSpec.upto unitsOftenSpec)

/-- 'timekeeperlaw03.UnitsChain', WHERE WHAT IT READS IS OF BULK AT MOST 1048576: true; the input reads as it did. -/
def unitsChainUptoRow : OpenClaim := { program := "ytdpjkpekafgfeab", sum := "3774f9be2571e84cbc26c5131c1b3de1fe7849b635d271b5b1c63d6244108e2b", func := "timekeeper/timekeeperlaw03.UnitsChain", spec := "unitsChain", unfollowed := true, recurses := true, apart := false, narrowed := true }
def UnitsChainUptoSaid : Prop := unitsChainUptoRow.holds Try.pinned (OpenSpec.upto unitsChainSpec)

end Rows
end Go.Proofs.Ytdpjkpekafgfeab
