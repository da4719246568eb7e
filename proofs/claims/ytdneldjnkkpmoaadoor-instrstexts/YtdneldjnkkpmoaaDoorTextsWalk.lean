/- The law 'InstrsTexts': both answers, side by side. -/
import Derived.Test.YtdneldjnkkpmoaaDoorParseWalk
import Derived.Test.YtdneldjnkkpmoaaDoorBackWalk
namespace Go.Proofs.YtdneldjnkkpmoaaDoor
open Go Go.RowKit
set_option maxRecDepth 100000
set_option linter.unusedVariables false
set_option maxHeartbeats 4000000 in
theorem texts_near (o a b c : Int) (s : ByteArray) (hs : s.size ≤ 1048576) (T : ByteArray) (n o' a' b' c' m : Int)
    (cT : ∀ W, Env3 W → Calls Tryd.prog 16 #[.agg #[.int .u8 o, .int .u8 a, .int .u8 b, .int .u8 c]] W fun e w' => e = .returned (.tuple #[.string T, .int .i64 n]) ∧ Below W.heap.size W w')
    (cU : ∀ W : World, Calls Tryd.prog 17 #[.agg #[.int .u8 o, .int .u8 a, .int .u8 b, .int .u8 c]] W fun e w' => e = .returned (.tuple #[.string T, .int .i64 n]) ∧ Below W.heap.size W w')
    (cP : ∀ W, Env3 W → Calls Tryd.prog 18 #[.string s] W fun e w' => e = .returned (.tuple #[.agg #[.int .u8 o', .int .u8 a', .int .u8 b', .int .u8 c'], .int .i64 m]) ∧ Below W.heap.size W w')
    (cQ : ∀ W : World, Calls Tryd.prog 19 #[.string s] W fun e w' => e = .returned (.tuple #[.agg #[.int .u8 o', .int .u8 a', .int .u8 b', .int .u8 c'], .int .i64 m]) ∧ Below W.heap.size W w')
    (w : World) (hE : Env3 w) :
    Calls Tryd.prog 4 #[.agg #[.int .u8 o, .int .u8 a, .int .u8 b, .int .u8 c], .string s] w fun e w' => e = .returned (.bool true) ∧ Below w.heap.size w w' := by
  have he24 := eq_instr
  have hB : Below w.heap.size w w := Below.refl _ _
  go_enter Tryd.func4, Tryd.ntmps4
  go_wp2_with (go_at_call 15; refine (beyond_any _ (s.size : Int) _ (by simp [go_sem]) (by omega)).mono ?_; rintro e wb ⟨rfl, rfl⟩)
  go_wp2_with (go_at_call 16; refine (cT _ (by first | exact hE | exact hE.one _ | exact (hE.one _).one _)).mono ?_; rintro e w1 ⟨rfl, hb1⟩; have hE1 : Env3 w1 := (by first | exact hE.on hb1 | exact (hE.one _).on hb1 | exact ((hE.one _).one _).on hb1); have hB1 : Below w.heap.size w w1 := (by first | exact kept1 hB hb1 | exact kept2 hB hb1 | exact kept2 (kept2 hB (Below.refl _ _)) hb1); have X1 : At w1 w.heap.size o a b c := (by first | exact (At.new _ o a b c _).on hb1 | exact ((At.new _ o a b c _).one _).on hb1); have X1l := X1.lt; have X10 := X1.c0; have X11 := X1.c1; have X12 := X1.c2; have X13 := X1.c3; clear hb1)
  go_wp2_with (go_at_call 17; refine (cU _).mono ?_; rintro e w2 ⟨rfl, hb2⟩; have hE2 : Env3 w2 := (by first | exact hE1.on hb2 | exact (hE1.one _).on hb2); have hB2 : Below w.heap.size w w2 := (by first | exact kept1 hB1 hb2 | exact kept2 hB1 hb2); clear hb2)
  go_wp2_with (go_at_call 18; refine (cP _ (by first | exact hE2 | exact hE2.one _)).mono ?_; rintro e w3 ⟨rfl, hb3⟩; have hB3 : Below w.heap.size w w3 := (by first | exact kept1 hB2 hb3 | exact kept2 hB2 hb3); clear hb3)
  go_wp2_with (go_at_call 19; refine (cQ _).mono ?_; rintro e w4 ⟨rfl, hb4⟩; have hB4 : Below w.heap.size w w4 := (by first | exact kept1 hB3 hb4 | exact kept2 hB3 hb4); have Y4 : At w4 w3.heap.size o' a' b' c' := (by first | exact (At.new _ o' a' b' c' _).on hb4 | exact ((At.new _ o' a' b' c' _).one _).on hb4); have Y4l := Y4.lt; have Y40 := Y4.c0; have Y41 := Y4.c1; have Y42 := Y4.c2; have Y43 := Y4.c3; clear hb4)
  go_ret
  exact ⟨by first | rfl | simp, by first | exact hB4 | exact hB4.alloc hB4.size _⟩
set_option maxHeartbeats 1000000 in
theorem texts_far (o a b c : Int) (s : ByteArray) (hs : 1048576 < s.size) (hs2 : s.size ≤ maxLen) (w : World) :
    Calls Tryd.prog 4 #[.agg #[.int .u8 o, .int .u8 a, .int .u8 b, .int .u8 c], .string s] w fun e w' => e = .returned (.bool true) ∧ Below w.heap.size w w' := by
  have hm : s.size ≤ 9223372036854775807 := Nat.le_trans hs2 (by decide)
  clear hs2
  go_enter Tryd.func4, Tryd.ntmps4
  go_wp2_with (go_at_call 15; refine (beyond_yes _ (s.size : Int) _ (by simp [go_sem]) (by omega)).mono ?_; rintro e wb ⟨rfl, rfl⟩)
  go_ret
  exact ⟨rfl, ((Below.refl _ _).alloc (Nat.le_refl _) _).alloc (by simp) _⟩
theorem texts_any (o : Nat) (h255 : o ≤ 255) (a b c : Int) (ha : byte a) (hb : byte b) (hc : byte c) (s : ByteArray) (hs2 : s.size ≤ maxLen) (w : World) (hE : Env3 w) :
    Calls Tryd.prog 4 #[.agg #[.int .u8 o, .int .u8 a, .int .u8 b, .int .u8 c], .string s] w fun e w' => e = .returned (.bool true) ∧ Below w.heap.size w w' := by
  by_cases hs : s.size ≤ 1048576
  · obtain ⟨T, n, cT, cU⟩ : ∃ (T : ByteArray) (n : Int), (∀ W, Env3 W → Calls Tryd.prog 16 #[.agg #[.int .u8 o, .int .u8 a, .int .u8 b, .int .u8 c]] W fun e w' => e = .returned (.tuple #[.string T, .int .i64 n]) ∧ Below W.heap.size W w') ∧
        (∀ W : World, Calls Tryd.prog 17 #[.agg #[.int .u8 o, .int .u8 a, .int .u8 b, .int .u8 c]] W fun e w' => e = .returned (.tuple #[.string T, .int .i64 n]) ∧ Below W.heap.size W w') := by
      cases hm : may o a b c
      · exact ⟨_, _, fun W hW => Text_no o h255 a b c W hW.two.env ha hb hc hm, fun W => refText_no o h255 a b c W ha hb hc hm⟩
      · exact ⟨_, _, fun W hW => TextOf o h255 a b c ha hb hc hm W hW, fun W => refText_yes o a b c W ha hb hc hm⟩
    have cR := fun W => refParse_any s hs W
    cases hp : prs (splitP s) with
    | none =>
      rw [hp] at cR
      exact texts_near o a b c s hs T n 0 0 0 0 14 cT cU (fun W hW => ParseNone s hs hp W hW) cR w hE
    | some v =>
      obtain ⟨o', l⟩ := v
      obtain ⟨a', b', c', rfl, _⟩ := text_parse s o' l hp
      rw [hp] at cR
      exact texts_near o a b c s hs T n o' a' b' c' 0 cT cU (fun W hW => ParseSome s hs o' a' b' c' hp W hW) cR w hE
  · exact texts_far o a b c s (by omega) hs2 w
end Go.Proofs.YtdneldjnkkpmoaaDoor
