/- What stays while calls go on: an instruction's block, and what all calls find in memory. -/
import Derived.Test.YtdneldjnkkpmoaaDoorAlive
import Derived.Test.YtdneldjnkkpmoaaDoorTheory
namespace Go.Proofs.YtdneldjnkkpmoaaDoor
open Go Go.RowKit
set_option maxRecDepth 100000
/-- an instruction lies at block B -/
structure At (w : World) (B : Nat) (o a b c : Int) : Prop where
  lt : B < w.heap.size
  c0 : w.cell? ⟨B, 0, none⟩ = some (.int .u8 o)
  c1 : w.cell? ⟨B, 1, none⟩ = some (.int .u8 a)
  c2 : w.cell? ⟨B, 2, none⟩ = some (.int .u8 b)
  c3 : w.cell? ⟨B, 3, none⟩ = some (.int .u8 c)
theorem At.on {w w' : World} {B : Nat} {o a b c : Int} (h : At w B o a b c) (hb : Below w.heap.size w w') : At w' B o a b c where
  lt := Nat.lt_of_lt_of_le h.lt hb.size
  c0 := by rw [(bcell hb).1 _ _ h.lt]; exact h.c0
  c1 := by rw [(bcell hb).1 _ _ h.lt]; exact h.c1
  c2 := by rw [(bcell hb).1 _ _ h.lt]; exact h.c2
  c3 := by rw [(bcell hb).1 _ _ h.lt]; exact h.c3
theorem At.one {w : World} {B : Nat} {o a b c : Int} (h : At w B o a b c) (x : Obj) : At (w.alloc x) B o a b c := h.on ((Below.refl _ _).alloc (Nat.le_refl _) _)
theorem At.new (w : World) (o a b c : Int) (t : TypeId) : At (w.alloc (.cells #[.int .u8 o, .int .u8 a, .int .u8 b, .int .u8 c] t)) w.heap.size o a b c where
  lt := by rw [alloc_size]; omega
  c0 := by simp [go_sem]
  c1 := by simp [go_sem]
  c2 := by simp [go_sem]
  c3 := by simp [go_sem]
theorem kept1 {w w1 w2 : World} (h : Below w.heap.size w w1) (hb : Below w1.heap.size w1 w2) : Below w.heap.size w w2 := h.trans (hb.mono h.size)
theorem kept2 {w w1 w2 : World} {x : Obj} (h : Below w.heap.size w w1) (hb : Below (w1.alloc x).heap.size (w1.alloc x) w2) : Below w.heap.size w w2 := (h.alloc h.size _).trans (hb.mono (by rw [alloc_size]; have := h.size; omega))
theorem neq_instr (o a b c o' a' b' c' : Int) (w : World) :
    (binOp .neq 24 (.agg #[.int .u8 o, .int .u8 a, .int .u8 b, .int .u8 c]) (.agg #[.int .u8 o', .int .u8 a', .int .u8 b', .int .u8 c'])).run Tryd.prog w = .ok (.bool (!(o == o' && (a == a' && (b == b' && c == c'))))) w := by
  by_cases h1 : o = o' <;> by_cases h2 : a = a' <;> by_cases h3 : b = b' <;> by_cases h4 : c = c' <;>
    simp [go_sem, h1, h2, h3, h4]
theorem TextOf (o : Nat) (h255 : o ≤ 255) (a b c : Int) (ha : byte a) (hb : byte b) (hc : byte c) (hm : may o a b c = true) (w : World) (hE : Env3 w) :
    Calls Tryd.prog 16 #[.agg #[.int .u8 o, .int .u8 a, .int .u8 b, .int .u8 c]] w fun e w' => e = .returned (.tuple #[.string (text o a b c), .int .i64 0]) ∧ Below w.heap.size w w' := by
  have h1 := parts_plain o a b c ha hb hc hm
  have h2 := text_size o a b c ha hb hc hm
  exact Text_yes o h255 a b c w hE.two.env ha hb hc hm h1.2 (by omega)
theorem ParseOf (o : Nat) (a b c : Int) (ha : byte a) (hb : byte b) (hc : byte c) (hm : may o a b c = true) (w : World) (hE : Env3 w) :
    Calls Tryd.prog 18 #[.string (text o a b c)] w fun e w' => e = .returned (.tuple #[.agg #[.int .u8 o, .int .u8 a, .int .u8 b, .int .u8 c], .int .i64 0]) ∧ Below w.heap.size w w' := by
  have h2 := text_size o a b c ha hb hc hm
  have h := Parse_any (text o a b c) (by omega) w hE
  rw [parse_text o a b c ha hb hc hm] at h
  exact h.mono fun e w' ⟨h1, h2⟩ => ⟨h2, h1⟩
theorem ParseSome (s : ByteArray) (hs : s.size ≤ 1048576) (o : Nat) (a b c : Int) (h : prs (splitP s) = some (o, [a, b, c])) (w : World) (hE : Env3 w) :
    Calls Tryd.prog 18 #[.string s] w fun e w' => e = .returned (.tuple #[.agg #[.int .u8 o, .int .u8 a, .int .u8 b, .int .u8 c], .int .i64 0]) ∧ Below w.heap.size w w' := by
  have h' := Parse_any s (by omega) w hE
  rw [h] at h'
  exact h'.mono fun e w' ⟨h1, h2⟩ => ⟨h2, h1⟩
theorem ParseNone (s : ByteArray) (hs : s.size ≤ 1048576) (h : prs (splitP s) = none) (w : World) (hE : Env3 w) :
    Calls Tryd.prog 18 #[.string s] w fun e w' => e = .returned (.tuple #[.agg #[.int .u8 0, .int .u8 0, .int .u8 0, .int .u8 0], .int .i64 14]) ∧ Below w.heap.size w w' := by
  have h' := Parse_any s (by omega) w hE
  rw [h] at h'
  exact h'.mono fun e w' ⟨h1, h2⟩ => ⟨h2, h1⟩
theorem CheckIs (o : Nat) (h255 : o ≤ 255) (a b c : Int) (ha : byte a) (hb : byte b) (hc : byte c) (x : Bool) (hm : may o a b c = x) (w : World) (hE : Env3 w) :
    Calls Tryd.prog 11 #[.agg #[.int .u8 o, .int .u8 a, .int .u8 b, .int .u8 c]] w fun e w' => e = .returned (.bool x) ∧ Below w.heap.size w w' := by
  rw [← hm]
  exact Check_any o h255 a b c w hE.two.env ha hb hc
end Go.Proofs.YtdneldjnkkpmoaaDoor
