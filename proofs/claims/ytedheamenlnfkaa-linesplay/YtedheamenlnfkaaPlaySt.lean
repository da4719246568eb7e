/- What is carried through 'LinesPlay': the lines, and the document's own. -/
import Derived.Test.YtedheamenlnfkaaRef
namespace Go.Proofs.Ytedheamenlnfkaa
open Go Go.RowKit
set_option maxRecDepth 100000
set_option linter.unusedVariables false
structure St (w0 wx : World) (p q c m c' m' : Nat) : Prop where
  tab : Tab wx p c m
  ref : Ref wx q c' m'
  ne : p ≠ q
  bel : Below w0.heap.size w0 wx
  lop : w0.heap.size ≤ p
  loq : w0.heap.size ≤ q
theorem St.below {w0 wx w' : World} {p q c m c' m' : Nat} (H : St w0 wx p q c m c' m') (hb : Below wx.heap.size wx w') : St w0 w' p q c m c' m' :=
  ⟨H.tab.below hb, H.ref.below hb, H.ne, H.bel.trans (hb.mono H.bel.size), H.lop, H.loq⟩
theorem St.setTab {w0 wx w' : World} {p q c m c' m' a b : Nat} (H : St w0 wx p q c m c' m') (hb : Buts [p] wx w') (hr : Tab w' p a b) : St w0 w' p q a b c' m' :=
  ⟨hr, H.ref.buts hb (by have := H.ne; simp; omega), H.ne, H.bel.trans (one_below hb H.lop H.bel.size), H.lop, H.loq⟩
theorem St.setRef {w0 wx w' : World} {p q c m c' m' a b : Nat} (H : St w0 wx p q c m c' m') (hb : Buts [q] wx w') (hr : Ref w' q a b) : St w0 w' p q c m a b :=
  ⟨H.tab.buts hb (by have := H.ne; simp; omega), hr, H.ne, H.bel.trans (one_below hb H.loq H.bel.size), H.lop, H.loq⟩
/-- the document's own lines, as they begin -/
def z16 : Array Value := #[.bool false, .bool false, .bool false, .bool false, .bool false, .bool false, .bool false, .bool false, .bool false, .bool false, .bool false, .bool false, .bool false, .bool false, .bool false, .bool false]
theorem z16_ref (w : World) : Ref (w.alloc (.cells z16 28)) w.heap.size 0 0 := by
  refine ⟨⟨_, alloc_at w _, fun i hi => ?_⟩, by decide, by decide⟩
  rw [zero_bit]
  rcases i with _ | _ | _ | _ | _ | _ | _ | _ | i
  all_goals first | exact ⟨rfl, rfl⟩ | omega
theorem one_mem {p X : Nat} (h : X ≠ p) : X ∉ [p] := by simpa using h
end Go.Proofs.Ytedheamenlnfkaa
