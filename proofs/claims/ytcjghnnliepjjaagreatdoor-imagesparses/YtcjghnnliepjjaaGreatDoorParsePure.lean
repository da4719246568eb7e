/- The lines of a text, read one by one: by plain lists. -/
import Derived.Test.YtcjghnnliepjjaaGreatDoorRdW
namespace Go.Proofs.YtcjghnnliepjjaaGreatDoor
open Go Go.RowKit
set_option maxRecDepth 100000
set_option linter.unusedVariables false
/-- a line that says nothing -/
def idle (t : List UInt8) : Bool := decide (t = []) || Lib.hasPrefix t [35]
def im0 : Im := ⟨0, false, [], [], 0⟩
/-- all lines: the number of the first one that is none, or the image -/
def parseI : Nat → Im → Nat → List UInt8 → Nat ⊕ Im
  | 0, m, _, _ => .inr m
  | f + 1, m, i, l => if l = [] then .inr m else if idle (Lib.cut l [10]).1 = true then parseI f m (i + 1) (Lib.cut l [10]).2.1 else
      match lineI m (Lib.cut l [10]).1 with
      | none => .inl i
      | some m' => parseI f m' (i + 1) (Lib.cut l [10]).2.1
theorem parse_end (f : Nat) (m : Im) (i : Nat) : parseI f m i [] = .inr m := by cases f <;> rfl
theorem cut_less {l sep : List UInt8} (h : l ≠ []) (hs : 0 < sep.length) : (Lib.cut l sep).1.length + (Lib.cut l sep).2.1.length ≤ l.length ∧ (Lib.cut l sep).2.1.length < l.length := by
  have : 0 < l.length := List.length_pos_iff.2 h
  unfold Lib.cut
  split
  · simp; omega
  · simp; omega
theorem rest_len (l : List UInt8) : (restOf l).length ≤ l.length := (cut_len l [32]).2
theorem line_len {m m' : Im} {l : List UInt8} (h : lineI m l = some m') : m'.ds.length ≤ m.ds.length + l.length ∧ m'.k ≤ m.k + 1 := by
  unfold lineI at h
  split at h
  · split at h
    · split at h
      · cases h
      · simp only [Option.some.injEq] at h; subst h; exact ⟨by simp, by simp⟩
    · cases h
  · split at h
    · split at h
      · rename_i ys hy
        simp only [Option.some.injEq] at h; subst h
        have h1 := rest_len l
        unfold hex1 at hy
        split at hy
        · cases hy
        · have := (hexs_len _ _ hy).1
          exact ⟨by simp; omega, by simp⟩
      · cases h
    · split at h
      · simp only [Option.some.injEq] at h; subst h; exact ⟨by simp, by simp⟩
      · cases h
theorem isIdle_any (t : ByteArray) (w : World) : Calls Tryz.prog 70 #[.string t] w fun e w' => e = .returned (.bool (idle t.data.toList)) ∧ w' = w := by
  by_cases h0 : t.data.toList = []
  · obtain rfl : t = ⟨#[]⟩ := by
      obtain ⟨d⟩ := t
      congr 1
      exact Array.toList_inj.1 h0
    go_enter Tryz.func70, Tryz.ntmps70
    go_wp2
    go_ret
    exact ⟨rfl, rfl⟩
  · have hemp : t.toList.isEmpty = false := by
      rw [ByteArray.toList_eq]
      simpa using h0
    have hi : idle t.data.toList = Lib.hasPrefix t.data.toList [35] := by simp [idle, h0]
    rw [hi]
    have cH : Calls Tryz.prog 102 #[.string t, .string ⟨#[35]⟩] w fun e w' => e = .returned (.bool (Lib.hasPrefix t.data.toList [35])) ∧ w' = w := Tryz.strings_HasPrefix t ⟨#[35]⟩ w
    generalize Lib.hasPrefix t.data.toList [35] = r at *
    go_enter Tryz.func70, Tryz.ntmps70
    go_wp2_with (go_at_call 102; refine cH.mono ?_; rintro e w1 ⟨rfl, h1⟩; obtain rfl := h1.symm)
    go_ret
    exact ⟨rfl, rfl⟩
/-- what is answered -/
def PR (w w' : World) (e : Ending) : Nat ⊕ Im → Prop
  | .inl i => e = .returned (.tuple #[.agg #[.int .i64 0, .slice none 0 0, .slice none 0 0], .int .i64 (i : Nat), .int .i64 14]) ∧ Below w.heap.size w w'
  | .inr m => (if okI m.n m.ds m.cs m.k = true then ∃ vd vc, e = .returned (.tuple #[.agg #[.int .i64 m.n, vd, vc], .int .i64 0, .int .i64 0]) ∧ w'.ownsRow w.heap.size 5 1 vd m.ds.length (byt m.ds) ∧ w'.ownsRow w.heap.size 64 4 vc m.k (byt m.cs) ∧ m.cs.length = 4 * m.k ∧ Bs m.ds ∧ Bs m.cs
      else e = .returned (.tuple #[.agg #[.int .i64 0, .slice none 0 0, .slice none 0 0], .int .i64 0, .int .i64 1])) ∧ Below w.heap.size w w'
end Go.Proofs.YtcjghnnliepjjaaGreatDoor
