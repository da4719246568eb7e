/- 'InstrsOdd', walked. -/
import Derived.Test.YtdneldjnkkpmoabDoorKeep
import Derived.Test.YtdneldjnkkpmoabDoorOddPure
import Derived.Laws.BytesArg
namespace Go.Proofs.YtdneldjnkkpmoabDoor
open Go Go.RowKit
set_option maxRecDepth 100000
set_option linter.unusedVariables false
/-- a text of one byte -/
def one (n : Int) : ByteArray := strOfNums [n]
theorem one_mk (n : Int) : one n = mk [UInt8.ofNat n.toNat] := rfl
theorem one_size (n : Int) : (one n).size = 1 := rfl
theorem conv_one (n : Int) (W : World) (b : Nat) (h : W.cell? ⟨b, 0, none⟩ = some (.int .u8 n)) : (convert 32 9 (.slice (some ⟨b, 0, none⟩) 1 1)).run Tryd.prog W = .ok (.string (one n)) W :=
  run_convert_bytes_arg W 32 5 Tryd.underlying32 Tryd.underlying5 b 0 1 1 [n] rfl (fun i hi => by
    obtain rfl : i = 0 := by omega
    exact h) 9 Tryd.underlying9

set_option maxHeartbeats 4000000 in
theorem odd_no (o : Nat) (h255 : o ≤ 255) (a b c : Int) (ha : byte a) (hb : byte b) (hc : byte c) (n : Int) (hn : 0 ≤ n ∧ n ≤ 255) (hm : may o a b c = false) (w : World) (hE : Env3 w) :
    Calls Tryd.prog 3 #[.agg #[.int .u8 o, .int .u8 a, .int .u8 b, .int .u8 c], .int .u8 n] w fun e w' => e = .returned (.bool true) ∧ Below w.heap.size w w' := by
  have hB : Below w.heap.size w w := Below.refl _ _
  go_enter Tryd.func3, Tryd.ntmps3
  go_wp2_with (go_at_call 6; refine (alive_any _ (by first | exact hE | exact hE.one _ | exact (hE.one _).one _)).mono ?_; rintro e w1 ⟨rfl, hb1⟩; have hE1 : Env3 w1 := (by first | exact hE.on hb1 | exact (hE.one _).on hb1 | exact ((hE.one _).one _).on hb1); have hB1 : Below w.heap.size w w1 := (by first | exact kept1 hB hb1 | exact kept2 hB hb1 | exact kept2 (kept2 hB (Below.refl _ _)) hb1); have X1 : At w1 w.heap.size (o : Int) a b c := (by first | exact (At.new _ (o : Int) a b c _).on hb1 | exact ((At.new _ (o : Int) a b c _).one _).on hb1); have X1l := X1.lt; have X10 := X1.c0; have X11 := X1.c1; have X12 := X1.c2; have X13 := X1.c3; clear hb1)
  go_wp2_with (go_at_call 7; refine (CheckIs o h255 a b c ha hb hc _ hm _ (by first | exact hE1 | exact hE1.one _ | exact (hE1.one _).one _)).mono ?_; rintro e w2 ⟨rfl, hb2⟩; have hE2 : Env3 w2 := (by first | exact hE1.on hb2 | exact (hE1.one _).on hb2 | exact ((hE1.one _).one _).on hb2); have hB2 : Below w.heap.size w w2 := (by first | exact kept1 hB1 hb2 | exact kept2 hB1 hb2 | exact kept2 (kept2 hB1 (Below.refl _ _)) hb2); have X2 : At w2 w.heap.size (o : Int) a b c := (by first | exact X1.on hb2 | exact (X1.one _).on hb2 | exact ((X1.one _).one _).on hb2); have X2l := X2.lt; have X20 := X2.c0; have X21 := X2.c1; have X22 := X2.c2; have X23 := X2.c3; clear hb2)
  go_wp2_with (go_at_call 6; refine (alive_any _ (by first | exact hE2 | exact hE2.one _ | exact (hE2.one _).one _)).mono ?_; rintro e w3 ⟨rfl, hb3⟩; have hE3 : Env3 w3 := (by first | exact hE2.on hb3 | exact (hE2.one _).on hb3 | exact ((hE2.one _).one _).on hb3); have hB3 : Below w.heap.size w w3 := (by first | exact kept1 hB2 hb3 | exact kept2 hB2 hb3 | exact kept2 (kept2 hB2 (Below.refl _ _)) hb3); have X3 : At w3 w.heap.size (o : Int) a b c := (by first | exact X2.on hb3 | exact (X2.one _).on hb3 | exact ((X2.one _).one _).on hb3); have X3l := X3.lt; have X30 := X3.c0; have X31 := X3.c1; have X32 := X3.c2; have X33 := X3.c3; clear hb3)
  go_ret
  exact ⟨by first | rfl | simp, hB3⟩

set_option maxHeartbeats 4000000 in
theorem odd_0_none (o : Nat) (h255 : o ≤ 255) (a b c : Int) (ha : byte a) (hb : byte b) (hc : byte c) (n : Int) (hn : 0 ≤ n ∧ n ≤ 255) (hm : may o a b c = true) (e7 : ((o : Int) == 7) = false) (p3 : prs (splitP (one n ++ text o a b c)) = none) (p4 : prs (splitP (text o a b c ++ one n)) = none) (w : World) (hE : Env3 w) :
    Calls Tryd.prog 3 #[.agg #[.int .u8 o, .int .u8 a, .int .u8 b, .int .u8 c], .int .u8 n] w fun e w' => e = .returned (.bool true) ∧ Below w.heap.size w w' := by
  have hB : Below w.heap.size w w := Below.refl _ _
  have n1 := blank_pre o a b c ha hb hc hm
  have n2 := more_none o a b c ha hb hc hm [] (by simp)
  have hsz := text_size o a b c ha hb hc hm
  have cT := TextOf o h255 a b c ha hb hc hm
  generalize text o a b c = t at *
  have hcv := conv_one n
  have h1s := one_size n
  have c1 := ParseNone (⟨#[32]⟩ ++ t) (by rw [ByteArray.size_append]; have : (⟨#[32]⟩ : ByteArray).size = 1 := rfl; omega) n1
  have c2 := ParseNone (t ++ ⟨#[32]⟩) (by rw [ByteArray.size_append]; have : (⟨#[32]⟩ : ByteArray).size = 1 := rfl; omega) n2
  have c3 := ParseNone (one n ++ t) (by rw [ByteArray.size_append]; omega) p3
  have c4 := ParseNone (t ++ one n) (by rw [ByteArray.size_append]; omega) p4
  clear n1 n2 p3 p4
  go_enter Tryd.func3, Tryd.ntmps3
  go_wp2_with (go_at_call 6; refine (alive_any _ (by first | exact hE | exact hE.one _ | exact (hE.one _).one _)).mono ?_; rintro e w1 ⟨rfl, hb1⟩; have hE1 : Env3 w1 := (by first | exact hE.on hb1 | exact (hE.one _).on hb1 | exact ((hE.one _).one _).on hb1); have hB1 : Below w.heap.size w w1 := (by first | exact kept1 hB hb1 | exact kept2 hB hb1 | exact kept2 (kept2 hB (Below.refl _ _)) hb1); have X1 : At w1 w.heap.size (o : Int) a b c := (by first | exact (At.new _ (o : Int) a b c _).on hb1 | exact ((At.new _ (o : Int) a b c _).one _).on hb1); have X1l := X1.lt; have X10 := X1.c0; have X11 := X1.c1; have X12 := X1.c2; have X13 := X1.c3; clear hb1)
  go_wp2_with (go_at_call 7; refine (CheckIs o h255 a b c ha hb hc _ hm _ (by first | exact hE1 | exact hE1.one _ | exact (hE1.one _).one _)).mono ?_; rintro e w2 ⟨rfl, hb2⟩; have hE2 : Env3 w2 := (by first | exact hE1.on hb2 | exact (hE1.one _).on hb2 | exact ((hE1.one _).one _).on hb2); have hB2 : Below w.heap.size w w2 := (by first | exact kept1 hB1 hb2 | exact kept2 hB1 hb2 | exact kept2 (kept2 hB1 (Below.refl _ _)) hb2); have X2 : At w2 w.heap.size (o : Int) a b c := (by first | exact X1.on hb2 | exact (X1.one _).on hb2 | exact ((X1.one _).one _).on hb2); have X2l := X2.lt; have X20 := X2.c0; have X21 := X2.c1; have X22 := X2.c2; have X23 := X2.c3; clear hb2)
  go_wp2_with (go_at_call 8; refine (cT _ (by first | exact hE2 | exact hE2.one _ | exact (hE2.one _).one _)).mono ?_; rintro e w3 ⟨rfl, hb3⟩; have hE3 : Env3 w3 := (by first | exact hE2.on hb3 | exact (hE2.one _).on hb3 | exact ((hE2.one _).one _).on hb3); have hB3 : Below w.heap.size w w3 := (by first | exact kept1 hB2 hb3 | exact kept2 hB2 hb3 | exact kept2 (kept2 hB2 (Below.refl _ _)) hb3); have X3 : At w3 w.heap.size (o : Int) a b c := (by first | exact X2.on hb3 | exact (X2.one _).on hb3 | exact ((X2.one _).one _).on hb3); have X3l := X3.lt; have X30 := X3.c0; have X31 := X3.c1; have X32 := X3.c2; have X33 := X3.c3; clear hb3; clear cT)
  go_wp2_with (first
    | (go_at_call 9; refine (c1 _ (by first | exact hE3 | exact hE3.one _ | exact (hE3.one _).one _)).mono ?_; rintro e w4 ⟨rfl, hb4⟩; have hE4 : Env3 w4 := (by first | exact hE3.on hb4 | exact (hE3.one _).on hb4 | exact ((hE3.one _).one _).on hb4); have hB4 : Below w.heap.size w w4 := (by first | exact kept1 hB3 hb4 | exact kept2 hB3 hb4 | exact kept2 (kept2 hB3 (Below.refl _ _)) hb4); have X4 : At w4 w.heap.size (o : Int) a b c := (by first | exact X3.on hb4 | exact (X3.one _).on hb4 | exact ((X3.one _).one _).on hb4); have X4l := X4.lt; have X40 := X4.c0; have X41 := X4.c1; have X42 := X4.c2; have X43 := X4.c3; clear hb4; clear c1)
    | (go_at_call 9; refine (c2 _ (by first | exact hE4 | exact hE4.one _ | exact (hE4.one _).one _)).mono ?_; rintro e w5 ⟨rfl, hb5⟩; have hE5 : Env3 w5 := (by first | exact hE4.on hb5 | exact (hE4.one _).on hb5 | exact ((hE4.one _).one _).on hb5); have hB5 : Below w.heap.size w w5 := (by first | exact kept1 hB4 hb5 | exact kept2 hB4 hb5 | exact kept2 (kept2 hB4 (Below.refl _ _)) hb5); have X5 : At w5 w.heap.size (o : Int) a b c := (by first | exact X4.on hb5 | exact (X4.one _).on hb5 | exact ((X4.one _).one _).on hb5); have X5l := X5.lt; have X50 := X5.c0; have X51 := X5.c1; have X52 := X5.c2; have X53 := X5.c3; clear hb5; clear c2)
    | (go_at_call 9; refine (c3 _ (by first | exact hE5 | exact hE5.one _ | exact (hE5.one _).one _)).mono ?_; rintro e w6 ⟨rfl, hb6⟩; have hE6 : Env3 w6 := (by first | exact hE5.on hb6 | exact (hE5.one _).on hb6 | exact ((hE5.one _).one _).on hb6); have hB6 : Below w.heap.size w w6 := (by first | exact kept1 hB5 hb6 | exact kept2 hB5 hb6 | exact kept2 (kept2 hB5 (Below.refl _ _)) hb6); have X6 : At w6 w.heap.size (o : Int) a b c := (by first | exact X5.on hb6 | exact (X5.one _).on hb6 | exact ((X5.one _).one _).on hb6); have X6l := X6.lt; have X60 := X6.c0; have X61 := X6.c1; have X62 := X6.c2; have X63 := X6.c3; clear hb6; clear c3)
    | (go_at_call 9; refine (c4 _ (by first | exact hE6 | exact hE6.one _ | exact (hE6.one _).one _)).mono ?_; rintro e w7 ⟨rfl, hb7⟩; have hE7 : Env3 w7 := (by first | exact hE6.on hb7 | exact (hE6.one _).on hb7 | exact ((hE6.one _).one _).on hb7); have hB7 : Below w.heap.size w w7 := (by first | exact kept1 hB6 hb7 | exact kept2 hB6 hb7 | exact kept2 (kept2 hB6 (Below.refl _ _)) hb7); have X7 : At w7 w.heap.size (o : Int) a b c := (by first | exact X6.on hb7 | exact (X6.one _).on hb7 | exact ((X6.one _).one _).on hb7); have X7l := X7.lt; have X70 := X7.c0; have X71 := X7.c1; have X72 := X7.c2; have X73 := X7.c3; clear hb7; clear c4))
  go_ret
  exact ⟨by first | rfl | simp, by first | exact hB7 | exact hB7.alloc hB7.size _ | exact (hB7.alloc hB7.size _).alloc (by have := hB7.size; simp; omega) _⟩

set_option maxHeartbeats 4000000 in
theorem odd_0_some (o : Nat) (h255 : o ≤ 255) (a b c : Int) (ha : byte a) (hb : byte b) (hc : byte c) (n : Int) (hn : 0 ≤ n ∧ n ≤ 255) (hm : may o a b c = true) (e7 : ((o : Int) == 7) = false) (p3 : prs (splitP (one n ++ text o a b c)) = none) (a' b' c' : Int) (ha' : byte a') (hb' : byte b') (hc' : byte c') (hm' : may o a' b' c' = true) (ht' : text o a' b' c' = text o a b c ++ one n) (h48 : 48 ≤ n) (h57 : n ≤ 57) (p4 : prs (splitP (text o a b c ++ one n)) = some (o, [a', b', c'])) (w : World) (hE : Env3 w) :
    Calls Tryd.prog 3 #[.agg #[.int .u8 o, .int .u8 a, .int .u8 b, .int .u8 c], .int .u8 n] w fun e w' => e = .returned (.bool true) ∧ Below w.heap.size w w' := by
  have hB : Below w.heap.size w w := Below.refl _ _
  have n1 := blank_pre o a b c ha hb hc hm
  have n2 := more_none o a b c ha hb hc hm [] (by simp)
  have hsz := text_size o a b c ha hb hc hm
  have cT := TextOf o h255 a b c ha hb hc hm
  have cU := TextOf o h255 a' b' c' ha' hb' hc' hm'
  rw [ht'] at cU
  clear ht'
  generalize text o a b c = t at *
  have hcv := conv_one n
  have h1s := one_size n
  have c1 := ParseNone (⟨#[32]⟩ ++ t) (by rw [ByteArray.size_append]; have : (⟨#[32]⟩ : ByteArray).size = 1 := rfl; omega) n1
  have c2 := ParseNone (t ++ ⟨#[32]⟩) (by rw [ByteArray.size_append]; have : (⟨#[32]⟩ : ByteArray).size = 1 := rfl; omega) n2
  have c3 := ParseNone (one n ++ t) (by rw [ByteArray.size_append]; omega) p3
  have c4 := ParseSome (t ++ one n) (by rw [ByteArray.size_append]; omega) o a' b' c' p4
  clear n1 n2 p3 p4
  go_enter Tryd.func3, Tryd.ntmps3
  go_wp2_with (go_at_call 6; refine (alive_any _ (by first | exact hE | exact hE.one _ | exact (hE.one _).one _)).mono ?_; rintro e w1 ⟨rfl, hb1⟩; have hE1 : Env3 w1 := (by first | exact hE.on hb1 | exact (hE.one _).on hb1 | exact ((hE.one _).one _).on hb1); have hB1 : Below w.heap.size w w1 := (by first | exact kept1 hB hb1 | exact kept2 hB hb1 | exact kept2 (kept2 hB (Below.refl _ _)) hb1); have X1 : At w1 w.heap.size (o : Int) a b c := (by first | exact (At.new _ (o : Int) a b c _).on hb1 | exact ((At.new _ (o : Int) a b c _).one _).on hb1); have X1l := X1.lt; have X10 := X1.c0; have X11 := X1.c1; have X12 := X1.c2; have X13 := X1.c3; clear hb1)
  go_wp2_with (go_at_call 7; refine (CheckIs o h255 a b c ha hb hc _ hm _ (by first | exact hE1 | exact hE1.one _ | exact (hE1.one _).one _)).mono ?_; rintro e w2 ⟨rfl, hb2⟩; have hE2 : Env3 w2 := (by first | exact hE1.on hb2 | exact (hE1.one _).on hb2 | exact ((hE1.one _).one _).on hb2); have hB2 : Below w.heap.size w w2 := (by first | exact kept1 hB1 hb2 | exact kept2 hB1 hb2 | exact kept2 (kept2 hB1 (Below.refl _ _)) hb2); have X2 : At w2 w.heap.size (o : Int) a b c := (by first | exact X1.on hb2 | exact (X1.one _).on hb2 | exact ((X1.one _).one _).on hb2); have X2l := X2.lt; have X20 := X2.c0; have X21 := X2.c1; have X22 := X2.c2; have X23 := X2.c3; clear hb2)
  go_wp2_with (go_at_call 8; refine (cT _ (by first | exact hE2 | exact hE2.one _ | exact (hE2.one _).one _)).mono ?_; rintro e w3 ⟨rfl, hb3⟩; have hE3 : Env3 w3 := (by first | exact hE2.on hb3 | exact (hE2.one _).on hb3 | exact ((hE2.one _).one _).on hb3); have hB3 : Below w.heap.size w w3 := (by first | exact kept1 hB2 hb3 | exact kept2 hB2 hb3 | exact kept2 (kept2 hB2 (Below.refl _ _)) hb3); have X3 : At w3 w.heap.size (o : Int) a b c := (by first | exact X2.on hb3 | exact (X2.one _).on hb3 | exact ((X2.one _).one _).on hb3); have X3l := X3.lt; have X30 := X3.c0; have X31 := X3.c1; have X32 := X3.c2; have X33 := X3.c3; clear hb3; clear cT)
  go_wp2_with (first
    | (go_at_call 9; refine (c1 _ (by first | exact hE3 | exact hE3.one _ | exact (hE3.one _).one _)).mono ?_; rintro e w4 ⟨rfl, hb4⟩; have hE4 : Env3 w4 := (by first | exact hE3.on hb4 | exact (hE3.one _).on hb4 | exact ((hE3.one _).one _).on hb4); have hB4 : Below w.heap.size w w4 := (by first | exact kept1 hB3 hb4 | exact kept2 hB3 hb4 | exact kept2 (kept2 hB3 (Below.refl _ _)) hb4); have X4 : At w4 w.heap.size (o : Int) a b c := (by first | exact X3.on hb4 | exact (X3.one _).on hb4 | exact ((X3.one _).one _).on hb4); have X4l := X4.lt; have X40 := X4.c0; have X41 := X4.c1; have X42 := X4.c2; have X43 := X4.c3; clear hb4; clear c1)
    | (go_at_call 9; refine (c2 _ (by first | exact hE4 | exact hE4.one _ | exact (hE4.one _).one _)).mono ?_; rintro e w5 ⟨rfl, hb5⟩; have hE5 : Env3 w5 := (by first | exact hE4.on hb5 | exact (hE4.one _).on hb5 | exact ((hE4.one _).one _).on hb5); have hB5 : Below w.heap.size w w5 := (by first | exact kept1 hB4 hb5 | exact kept2 hB4 hb5 | exact kept2 (kept2 hB4 (Below.refl _ _)) hb5); have X5 : At w5 w.heap.size (o : Int) a b c := (by first | exact X4.on hb5 | exact (X4.one _).on hb5 | exact ((X4.one _).one _).on hb5); have X5l := X5.lt; have X50 := X5.c0; have X51 := X5.c1; have X52 := X5.c2; have X53 := X5.c3; clear hb5; clear c2)
    | (go_at_call 9; refine (c3 _ (by first | exact hE5 | exact hE5.one _ | exact (hE5.one _).one _)).mono ?_; rintro e w6 ⟨rfl, hb6⟩; have hE6 : Env3 w6 := (by first | exact hE5.on hb6 | exact (hE5.one _).on hb6 | exact ((hE5.one _).one _).on hb6); have hB6 : Below w.heap.size w w6 := (by first | exact kept1 hB5 hb6 | exact kept2 hB5 hb6 | exact kept2 (kept2 hB5 (Below.refl _ _)) hb6); have X6 : At w6 w.heap.size (o : Int) a b c := (by first | exact X5.on hb6 | exact (X5.one _).on hb6 | exact ((X5.one _).one _).on hb6); have X6l := X6.lt; have X60 := X6.c0; have X61 := X6.c1; have X62 := X6.c2; have X63 := X6.c3; clear hb6; clear c3)
    | (go_at_call 9; refine (c4 _ (by first | exact hE6 | exact hE6.one _ | exact (hE6.one _).one _)).mono ?_; rintro e w7 ⟨rfl, hb7⟩; have hE7 : Env3 w7 := (by first | exact hE6.on hb7 | exact (hE6.one _).on hb7 | exact ((hE6.one _).one _).on hb7); have hB7 : Below w.heap.size w w7 := (by first | exact kept1 hB6 hb7 | exact kept2 hB6 hb7 | exact kept2 (kept2 hB6 (Below.refl _ _)) hb7); have X7 : At w7 w.heap.size (o : Int) a b c := (by first | exact X6.on hb7 | exact (X6.one _).on hb7 | exact ((X6.one _).one _).on hb7); have X7l := X7.lt; have X70 := X7.c0; have X71 := X7.c1; have X72 := X7.c2; have X73 := X7.c3; clear hb7; clear c4)
    | (go_at_call 8; refine (cU _ (by first | exact hE7 | exact hE7.one _ | exact (hE7.one _).one _)).mono ?_; rintro e w8 ⟨rfl, hb8⟩; have hE8 : Env3 w8 := (by first | exact hE7.on hb8 | exact (hE7.one _).on hb8 | exact ((hE7.one _).one _).on hb8); have hB8 : Below w.heap.size w w8 := (by first | exact kept1 hB7 hb8 | exact kept2 hB7 hb8 | exact kept2 (kept2 hB7 (Below.refl _ _)) hb8); have X8 : At w8 w.heap.size (o : Int) a b c := (by first | exact X7.on hb8 | exact (X7.one _).on hb8 | exact ((X7.one _).one _).on hb8); have X8l := X8.lt; have X80 := X8.c0; have X81 := X8.c1; have X82 := X8.c2; have X83 := X8.c3; have Y8 : At w8 w7.heap.size (o : Int) a' b' c' := (by first | exact (At.new _ (o : Int) a' b' c' _).on hb8 | exact ((At.new _ (o : Int) a' b' c' _).one _).on hb8); have Y8l := Y8.lt; have Y80 := Y8.c0; have Y81 := Y8.c1; have Y82 := Y8.c2; have Y83 := Y8.c3; clear hb8; clear cU))
  go_ret
  exact ⟨by first | rfl | simp, by first | exact hB8 | exact hB8.alloc hB8.size _ | exact (hB8.alloc hB8.size _).alloc (by have := hB8.size; simp; omega) _⟩

set_option maxHeartbeats 4000000 in
theorem odd_1_none (o : Nat) (h255 : o ≤ 255) (a b c : Int) (ha : byte a) (hb : byte b) (hc : byte c) (n : Int) (hn : 0 ≤ n ∧ n ≤ 255) (hm : may o a b c = true) (e7 : ((o : Int) == 7) = true) (e120 : (n == 120) = false) (p3 : prs (splitP (one n ++ text o a b c)) = none) (p4 : prs (splitP (text o a b c ++ one n)) = none) (w : World) (hE : Env3 w) :
    Calls Tryd.prog 3 #[.agg #[.int .u8 o, .int .u8 a, .int .u8 b, .int .u8 c], .int .u8 n] w fun e w' => e = .returned (.bool true) ∧ Below w.heap.size w w' := by
  have hB : Below w.heap.size w w := Below.refl _ _
  have n1 := blank_pre o a b c ha hb hc hm
  have n2 := more_none o a b c ha hb hc hm [] (by simp)
  have hsz := text_size o a b c ha hb hc hm
  have cT := TextOf o h255 a b c ha hb hc hm
  generalize text o a b c = t at *
  have hcv := conv_one n
  have h1s := one_size n
  have c1 := ParseNone (⟨#[32]⟩ ++ t) (by rw [ByteArray.size_append]; have : (⟨#[32]⟩ : ByteArray).size = 1 := rfl; omega) n1
  have c2 := ParseNone (t ++ ⟨#[32]⟩) (by rw [ByteArray.size_append]; have : (⟨#[32]⟩ : ByteArray).size = 1 := rfl; omega) n2
  have c3 := ParseNone (one n ++ t) (by rw [ByteArray.size_append]; omega) p3
  have c4 := ParseNone (t ++ one n) (by rw [ByteArray.size_append]; omega) p4
  clear n1 n2 p3 p4
  go_enter Tryd.func3, Tryd.ntmps3
  go_wp2_with (go_at_call 6; refine (alive_any _ (by first | exact hE | exact hE.one _ | exact (hE.one _).one _)).mono ?_; rintro e w1 ⟨rfl, hb1⟩; have hE1 : Env3 w1 := (by first | exact hE.on hb1 | exact (hE.one _).on hb1 | exact ((hE.one _).one _).on hb1); have hB1 : Below w.heap.size w w1 := (by first | exact kept1 hB hb1 | exact kept2 hB hb1 | exact kept2 (kept2 hB (Below.refl _ _)) hb1); have X1 : At w1 w.heap.size (o : Int) a b c := (by first | exact (At.new _ (o : Int) a b c _).on hb1 | exact ((At.new _ (o : Int) a b c _).one _).on hb1); have X1l := X1.lt; have X10 := X1.c0; have X11 := X1.c1; have X12 := X1.c2; have X13 := X1.c3; clear hb1)
  go_wp2_with (go_at_call 7; refine (CheckIs o h255 a b c ha hb hc _ hm _ (by first | exact hE1 | exact hE1.one _ | exact (hE1.one _).one _)).mono ?_; rintro e w2 ⟨rfl, hb2⟩; have hE2 : Env3 w2 := (by first | exact hE1.on hb2 | exact (hE1.one _).on hb2 | exact ((hE1.one _).one _).on hb2); have hB2 : Below w.heap.size w w2 := (by first | exact kept1 hB1 hb2 | exact kept2 hB1 hb2 | exact kept2 (kept2 hB1 (Below.refl _ _)) hb2); have X2 : At w2 w.heap.size (o : Int) a b c := (by first | exact X1.on hb2 | exact (X1.one _).on hb2 | exact ((X1.one _).one _).on hb2); have X2l := X2.lt; have X20 := X2.c0; have X21 := X2.c1; have X22 := X2.c2; have X23 := X2.c3; clear hb2)
  go_wp2_with (go_at_call 8; refine (cT _ (by first | exact hE2 | exact hE2.one _ | exact (hE2.one _).one _)).mono ?_; rintro e w3 ⟨rfl, hb3⟩; have hE3 : Env3 w3 := (by first | exact hE2.on hb3 | exact (hE2.one _).on hb3 | exact ((hE2.one _).one _).on hb3); have hB3 : Below w.heap.size w w3 := (by first | exact kept1 hB2 hb3 | exact kept2 hB2 hb3 | exact kept2 (kept2 hB2 (Below.refl _ _)) hb3); have X3 : At w3 w.heap.size (o : Int) a b c := (by first | exact X2.on hb3 | exact (X2.one _).on hb3 | exact ((X2.one _).one _).on hb3); have X3l := X3.lt; have X30 := X3.c0; have X31 := X3.c1; have X32 := X3.c2; have X33 := X3.c3; clear hb3; clear cT)
  go_wp2_with (first
    | (go_at_call 9; refine (c1 _ (by first | exact hE3 | exact hE3.one _ | exact (hE3.one _).one _)).mono ?_; rintro e w4 ⟨rfl, hb4⟩; have hE4 : Env3 w4 := (by first | exact hE3.on hb4 | exact (hE3.one _).on hb4 | exact ((hE3.one _).one _).on hb4); have hB4 : Below w.heap.size w w4 := (by first | exact kept1 hB3 hb4 | exact kept2 hB3 hb4 | exact kept2 (kept2 hB3 (Below.refl _ _)) hb4); have X4 : At w4 w.heap.size (o : Int) a b c := (by first | exact X3.on hb4 | exact (X3.one _).on hb4 | exact ((X3.one _).one _).on hb4); have X4l := X4.lt; have X40 := X4.c0; have X41 := X4.c1; have X42 := X4.c2; have X43 := X4.c3; clear hb4; clear c1)
    | (go_at_call 9; refine (c2 _ (by first | exact hE4 | exact hE4.one _ | exact (hE4.one _).one _)).mono ?_; rintro e w5 ⟨rfl, hb5⟩; have hE5 : Env3 w5 := (by first | exact hE4.on hb5 | exact (hE4.one _).on hb5 | exact ((hE4.one _).one _).on hb5); have hB5 : Below w.heap.size w w5 := (by first | exact kept1 hB4 hb5 | exact kept2 hB4 hb5 | exact kept2 (kept2 hB4 (Below.refl _ _)) hb5); have X5 : At w5 w.heap.size (o : Int) a b c := (by first | exact X4.on hb5 | exact (X4.one _).on hb5 | exact ((X4.one _).one _).on hb5); have X5l := X5.lt; have X50 := X5.c0; have X51 := X5.c1; have X52 := X5.c2; have X53 := X5.c3; clear hb5; clear c2)
    | (go_at_call 9; refine (c3 _ (by first | exact hE5 | exact hE5.one _ | exact (hE5.one _).one _)).mono ?_; rintro e w6 ⟨rfl, hb6⟩; have hE6 : Env3 w6 := (by first | exact hE5.on hb6 | exact (hE5.one _).on hb6 | exact ((hE5.one _).one _).on hb6); have hB6 : Below w.heap.size w w6 := (by first | exact kept1 hB5 hb6 | exact kept2 hB5 hb6 | exact kept2 (kept2 hB5 (Below.refl _ _)) hb6); have X6 : At w6 w.heap.size (o : Int) a b c := (by first | exact X5.on hb6 | exact (X5.one _).on hb6 | exact ((X5.one _).one _).on hb6); have X6l := X6.lt; have X60 := X6.c0; have X61 := X6.c1; have X62 := X6.c2; have X63 := X6.c3; clear hb6; clear c3)
    | (go_at_call 9; refine (c4 _ (by first | exact hE6 | exact hE6.one _ | exact (hE6.one _).one _)).mono ?_; rintro e w7 ⟨rfl, hb7⟩; have hE7 : Env3 w7 := (by first | exact hE6.on hb7 | exact (hE6.one _).on hb7 | exact ((hE6.one _).one _).on hb7); have hB7 : Below w.heap.size w w7 := (by first | exact kept1 hB6 hb7 | exact kept2 hB6 hb7 | exact kept2 (kept2 hB6 (Below.refl _ _)) hb7); have X7 : At w7 w.heap.size (o : Int) a b c := (by first | exact X6.on hb7 | exact (X6.one _).on hb7 | exact ((X6.one _).one _).on hb7); have X7l := X7.lt; have X70 := X7.c0; have X71 := X7.c1; have X72 := X7.c2; have X73 := X7.c3; clear hb7; clear c4))
  go_ret
  exact ⟨by first | rfl | simp, by first | exact hB7 | exact hB7.alloc hB7.size _ | exact (hB7.alloc hB7.size _).alloc (by have := hB7.size; simp; omega) _⟩

set_option maxHeartbeats 4000000 in
theorem odd_1_some (o : Nat) (h255 : o ≤ 255) (a b c : Int) (ha : byte a) (hb : byte b) (hc : byte c) (n : Int) (hn : 0 ≤ n ∧ n ≤ 255) (hm : may o a b c = true) (e7 : ((o : Int) == 7) = true) (e120 : (n == 120) = false) (p3 : prs (splitP (one n ++ text o a b c)) = none) (a' b' c' : Int) (ha' : byte a') (hb' : byte b') (hc' : byte c') (hm' : may o a' b' c' = true) (ht' : text o a' b' c' = text o a b c ++ one n) (h48 : 48 ≤ n) (h57 : n ≤ 57) (p4 : prs (splitP (text o a b c ++ one n)) = some (o, [a', b', c'])) (w : World) (hE : Env3 w) :
    Calls Tryd.prog 3 #[.agg #[.int .u8 o, .int .u8 a, .int .u8 b, .int .u8 c], .int .u8 n] w fun e w' => e = .returned (.bool true) ∧ Below w.heap.size w w' := by
  have hB : Below w.heap.size w w := Below.refl _ _
  have n1 := blank_pre o a b c ha hb hc hm
  have n2 := more_none o a b c ha hb hc hm [] (by simp)
  have hsz := text_size o a b c ha hb hc hm
  have cT := TextOf o h255 a b c ha hb hc hm
  have cU := TextOf o h255 a' b' c' ha' hb' hc' hm'
  rw [ht'] at cU
  clear ht'
  generalize text o a b c = t at *
  have hcv := conv_one n
  have h1s := one_size n
  have c1 := ParseNone (⟨#[32]⟩ ++ t) (by rw [ByteArray.size_append]; have : (⟨#[32]⟩ : ByteArray).size = 1 := rfl; omega) n1
  have c2 := ParseNone (t ++ ⟨#[32]⟩) (by rw [ByteArray.size_append]; have : (⟨#[32]⟩ : ByteArray).size = 1 := rfl; omega) n2
  have c3 := ParseNone (one n ++ t) (by rw [ByteArray.size_append]; omega) p3
  have c4 := ParseSome (t ++ one n) (by rw [ByteArray.size_append]; omega) o a' b' c' p4
  clear n1 n2 p3 p4
  go_enter Tryd.func3, Tryd.ntmps3
  go_wp2_with (go_at_call 6; refine (alive_any _ (by first | exact hE | exact hE.one _ | exact (hE.one _).one _)).mono ?_; rintro e w1 ⟨rfl, hb1⟩; have hE1 : Env3 w1 := (by first | exact hE.on hb1 | exact (hE.one _).on hb1 | exact ((hE.one _).one _).on hb1); have hB1 : Below w.heap.size w w1 := (by first | exact kept1 hB hb1 | exact kept2 hB hb1 | exact kept2 (kept2 hB (Below.refl _ _)) hb1); have X1 : At w1 w.heap.size (o : Int) a b c := (by first | exact (At.new _ (o : Int) a b c _).on hb1 | exact ((At.new _ (o : Int) a b c _).one _).on hb1); have X1l := X1.lt; have X10 := X1.c0; have X11 := X1.c1; have X12 := X1.c2; have X13 := X1.c3; clear hb1)
  go_wp2_with (go_at_call 7; refine (CheckIs o h255 a b c ha hb hc _ hm _ (by first | exact hE1 | exact hE1.one _ | exact (hE1.one _).one _)).mono ?_; rintro e w2 ⟨rfl, hb2⟩; have hE2 : Env3 w2 := (by first | exact hE1.on hb2 | exact (hE1.one _).on hb2 | exact ((hE1.one _).one _).on hb2); have hB2 : Below w.heap.size w w2 := (by first | exact kept1 hB1 hb2 | exact kept2 hB1 hb2 | exact kept2 (kept2 hB1 (Below.refl _ _)) hb2); have X2 : At w2 w.heap.size (o : Int) a b c := (by first | exact X1.on hb2 | exact (X1.one _).on hb2 | exact ((X1.one _).one _).on hb2); have X2l := X2.lt; have X20 := X2.c0; have X21 := X2.c1; have X22 := X2.c2; have X23 := X2.c3; clear hb2)
  go_wp2_with (go_at_call 8; refine (cT _ (by first | exact hE2 | exact hE2.one _ | exact (hE2.one _).one _)).mono ?_; rintro e w3 ⟨rfl, hb3⟩; have hE3 : Env3 w3 := (by first | exact hE2.on hb3 | exact (hE2.one _).on hb3 | exact ((hE2.one _).one _).on hb3); have hB3 : Below w.heap.size w w3 := (by first | exact kept1 hB2 hb3 | exact kept2 hB2 hb3 | exact kept2 (kept2 hB2 (Below.refl _ _)) hb3); have X3 : At w3 w.heap.size (o : Int) a b c := (by first | exact X2.on hb3 | exact (X2.one _).on hb3 | exact ((X2.one _).one _).on hb3); have X3l := X3.lt; have X30 := X3.c0; have X31 := X3.c1; have X32 := X3.c2; have X33 := X3.c3; clear hb3; clear cT)
  go_wp2_with (first
    | (go_at_call 9; refine (c1 _ (by first | exact hE3 | exact hE3.one _ | exact (hE3.one _).one _)).mono ?_; rintro e w4 ⟨rfl, hb4⟩; have hE4 : Env3 w4 := (by first | exact hE3.on hb4 | exact (hE3.one _).on hb4 | exact ((hE3.one _).one _).on hb4); have hB4 : Below w.heap.size w w4 := (by first | exact kept1 hB3 hb4 | exact kept2 hB3 hb4 | exact kept2 (kept2 hB3 (Below.refl _ _)) hb4); have X4 : At w4 w.heap.size (o : Int) a b c := (by first | exact X3.on hb4 | exact (X3.one _).on hb4 | exact ((X3.one _).one _).on hb4); have X4l := X4.lt; have X40 := X4.c0; have X41 := X4.c1; have X42 := X4.c2; have X43 := X4.c3; clear hb4; clear c1)
    | (go_at_call 9; refine (c2 _ (by first | exact hE4 | exact hE4.one _ | exact (hE4.one _).one _)).mono ?_; rintro e w5 ⟨rfl, hb5⟩; have hE5 : Env3 w5 := (by first | exact hE4.on hb5 | exact (hE4.one _).on hb5 | exact ((hE4.one _).one _).on hb5); have hB5 : Below w.heap.size w w5 := (by first | exact kept1 hB4 hb5 | exact kept2 hB4 hb5 | exact kept2 (kept2 hB4 (Below.refl _ _)) hb5); have X5 : At w5 w.heap.size (o : Int) a b c := (by first | exact X4.on hb5 | exact (X4.one _).on hb5 | exact ((X4.one _).one _).on hb5); have X5l := X5.lt; have X50 := X5.c0; have X51 := X5.c1; have X52 := X5.c2; have X53 := X5.c3; clear hb5; clear c2)
    | (go_at_call 9; refine (c3 _ (by first | exact hE5 | exact hE5.one _ | exact (hE5.one _).one _)).mono ?_; rintro e w6 ⟨rfl, hb6⟩; have hE6 : Env3 w6 := (by first | exact hE5.on hb6 | exact (hE5.one _).on hb6 | exact ((hE5.one _).one _).on hb6); have hB6 : Below w.heap.size w w6 := (by first | exact kept1 hB5 hb6 | exact kept2 hB5 hb6 | exact kept2 (kept2 hB5 (Below.refl _ _)) hb6); have X6 : At w6 w.heap.size (o : Int) a b c := (by first | exact X5.on hb6 | exact (X5.one _).on hb6 | exact ((X5.one _).one _).on hb6); have X6l := X6.lt; have X60 := X6.c0; have X61 := X6.c1; have X62 := X6.c2; have X63 := X6.c3; clear hb6; clear c3)
    | (go_at_call 9; refine (c4 _ (by first | exact hE6 | exact hE6.one _ | exact (hE6.one _).one _)).mono ?_; rintro e w7 ⟨rfl, hb7⟩; have hE7 : Env3 w7 := (by first | exact hE6.on hb7 | exact (hE6.one _).on hb7 | exact ((hE6.one _).one _).on hb7); have hB7 : Below w.heap.size w w7 := (by first | exact kept1 hB6 hb7 | exact kept2 hB6 hb7 | exact kept2 (kept2 hB6 (Below.refl _ _)) hb7); have X7 : At w7 w.heap.size (o : Int) a b c := (by first | exact X6.on hb7 | exact (X6.one _).on hb7 | exact ((X6.one _).one _).on hb7); have X7l := X7.lt; have X70 := X7.c0; have X71 := X7.c1; have X72 := X7.c2; have X73 := X7.c3; clear hb7; clear c4)
    | (go_at_call 8; refine (cU _ (by first | exact hE7 | exact hE7.one _ | exact (hE7.one _).one _)).mono ?_; rintro e w8 ⟨rfl, hb8⟩; have hE8 : Env3 w8 := (by first | exact hE7.on hb8 | exact (hE7.one _).on hb8 | exact ((hE7.one _).one _).on hb8); have hB8 : Below w.heap.size w w8 := (by first | exact kept1 hB7 hb8 | exact kept2 hB7 hb8 | exact kept2 (kept2 hB7 (Below.refl _ _)) hb8); have X8 : At w8 w.heap.size (o : Int) a b c := (by first | exact X7.on hb8 | exact (X7.one _).on hb8 | exact ((X7.one _).one _).on hb8); have X8l := X8.lt; have X80 := X8.c0; have X81 := X8.c1; have X82 := X8.c2; have X83 := X8.c3; have Y8 : At w8 w7.heap.size (o : Int) a' b' c' := (by first | exact (At.new _ (o : Int) a' b' c' _).on hb8 | exact ((At.new _ (o : Int) a' b' c' _).one _).on hb8); have Y8l := Y8.lt; have Y80 := Y8.c0; have Y81 := Y8.c1; have Y82 := Y8.c2; have Y83 := Y8.c3; clear hb8; clear cU))
  go_ret
  exact ⟨by first | rfl | simp, by first | exact hB8 | exact hB8.alloc hB8.size _ | exact (hB8.alloc hB8.size _).alloc (by have := hB8.size; simp; omega) _⟩

set_option maxHeartbeats 4000000 in
theorem odd_2_none (o : Nat) (h255 : o ≤ 255) (a b c : Int) (ha : byte a) (hb : byte b) (hc : byte c) (n : Int) (hn : 0 ≤ n ∧ n ≤ 255) (hm : may o a b c = true) (e7 : ((o : Int) == 7) = true) (e120 : (n == 120) = true) (p3 : prs (splitP (one n ++ text o a b c)) = some (8, [a, b, c])) (p4 : prs (splitP (text o a b c ++ one n)) = none) (w : World) (hE : Env3 w) :
    Calls Tryd.prog 3 #[.agg #[.int .u8 o, .int .u8 a, .int .u8 b, .int .u8 c], .int .u8 n] w fun e w' => e = .returned (.bool true) ∧ Below w.heap.size w w' := by
  have hB : Below w.heap.size w w := Below.refl _ _
  have n1 := blank_pre o a b c ha hb hc hm
  have n2 := more_none o a b c ha hb hc hm [] (by simp)
  have hsz := text_size o a b c ha hb hc hm
  have cT := TextOf o h255 a b c ha hb hc hm
  generalize text o a b c = t at *
  have hcv := conv_one n
  have h1s := one_size n
  have c1 := ParseNone (⟨#[32]⟩ ++ t) (by rw [ByteArray.size_append]; have : (⟨#[32]⟩ : ByteArray).size = 1 := rfl; omega) n1
  have c2 := ParseNone (t ++ ⟨#[32]⟩) (by rw [ByteArray.size_append]; have : (⟨#[32]⟩ : ByteArray).size = 1 := rfl; omega) n2
  have c3 := ParseSome (one n ++ t) (by rw [ByteArray.size_append]; omega) 8 a b c p3
  have c4 := ParseNone (t ++ one n) (by rw [ByteArray.size_append]; omega) p4
  clear n1 n2 p3 p4
  go_enter Tryd.func3, Tryd.ntmps3
  go_wp2_with (go_at_call 6; refine (alive_any _ (by first | exact hE | exact hE.one _ | exact (hE.one _).one _)).mono ?_; rintro e w1 ⟨rfl, hb1⟩; have hE1 : Env3 w1 := (by first | exact hE.on hb1 | exact (hE.one _).on hb1 | exact ((hE.one _).one _).on hb1); have hB1 : Below w.heap.size w w1 := (by first | exact kept1 hB hb1 | exact kept2 hB hb1 | exact kept2 (kept2 hB (Below.refl _ _)) hb1); have X1 : At w1 w.heap.size (o : Int) a b c := (by first | exact (At.new _ (o : Int) a b c _).on hb1 | exact ((At.new _ (o : Int) a b c _).one _).on hb1); have X1l := X1.lt; have X10 := X1.c0; have X11 := X1.c1; have X12 := X1.c2; have X13 := X1.c3; clear hb1)
  go_wp2_with (go_at_call 7; refine (CheckIs o h255 a b c ha hb hc _ hm _ (by first | exact hE1 | exact hE1.one _ | exact (hE1.one _).one _)).mono ?_; rintro e w2 ⟨rfl, hb2⟩; have hE2 : Env3 w2 := (by first | exact hE1.on hb2 | exact (hE1.one _).on hb2 | exact ((hE1.one _).one _).on hb2); have hB2 : Below w.heap.size w w2 := (by first | exact kept1 hB1 hb2 | exact kept2 hB1 hb2 | exact kept2 (kept2 hB1 (Below.refl _ _)) hb2); have X2 : At w2 w.heap.size (o : Int) a b c := (by first | exact X1.on hb2 | exact (X1.one _).on hb2 | exact ((X1.one _).one _).on hb2); have X2l := X2.lt; have X20 := X2.c0; have X21 := X2.c1; have X22 := X2.c2; have X23 := X2.c3; clear hb2)
  go_wp2_with (go_at_call 8; refine (cT _ (by first | exact hE2 | exact hE2.one _ | exact (hE2.one _).one _)).mono ?_; rintro e w3 ⟨rfl, hb3⟩; have hE3 : Env3 w3 := (by first | exact hE2.on hb3 | exact (hE2.one _).on hb3 | exact ((hE2.one _).one _).on hb3); have hB3 : Below w.heap.size w w3 := (by first | exact kept1 hB2 hb3 | exact kept2 hB2 hb3 | exact kept2 (kept2 hB2 (Below.refl _ _)) hb3); have X3 : At w3 w.heap.size (o : Int) a b c := (by first | exact X2.on hb3 | exact (X2.one _).on hb3 | exact ((X2.one _).one _).on hb3); have X3l := X3.lt; have X30 := X3.c0; have X31 := X3.c1; have X32 := X3.c2; have X33 := X3.c3; clear hb3; clear cT)
  go_wp2_with (first
    | (go_at_call 9; refine (c1 _ (by first | exact hE3 | exact hE3.one _ | exact (hE3.one _).one _)).mono ?_; rintro e w4 ⟨rfl, hb4⟩; have hE4 : Env3 w4 := (by first | exact hE3.on hb4 | exact (hE3.one _).on hb4 | exact ((hE3.one _).one _).on hb4); have hB4 : Below w.heap.size w w4 := (by first | exact kept1 hB3 hb4 | exact kept2 hB3 hb4 | exact kept2 (kept2 hB3 (Below.refl _ _)) hb4); have X4 : At w4 w.heap.size (o : Int) a b c := (by first | exact X3.on hb4 | exact (X3.one _).on hb4 | exact ((X3.one _).one _).on hb4); have X4l := X4.lt; have X40 := X4.c0; have X41 := X4.c1; have X42 := X4.c2; have X43 := X4.c3; clear hb4; clear c1)
    | (go_at_call 9; refine (c2 _ (by first | exact hE4 | exact hE4.one _ | exact (hE4.one _).one _)).mono ?_; rintro e w5 ⟨rfl, hb5⟩; have hE5 : Env3 w5 := (by first | exact hE4.on hb5 | exact (hE4.one _).on hb5 | exact ((hE4.one _).one _).on hb5); have hB5 : Below w.heap.size w w5 := (by first | exact kept1 hB4 hb5 | exact kept2 hB4 hb5 | exact kept2 (kept2 hB4 (Below.refl _ _)) hb5); have X5 : At w5 w.heap.size (o : Int) a b c := (by first | exact X4.on hb5 | exact (X4.one _).on hb5 | exact ((X4.one _).one _).on hb5); have X5l := X5.lt; have X50 := X5.c0; have X51 := X5.c1; have X52 := X5.c2; have X53 := X5.c3; clear hb5; clear c2)
    | (go_at_call 9; refine (c3 _ (by first | exact hE5 | exact hE5.one _ | exact (hE5.one _).one _)).mono ?_; rintro e w6 ⟨rfl, hb6⟩; have hE6 : Env3 w6 := (by first | exact hE5.on hb6 | exact (hE5.one _).on hb6 | exact ((hE5.one _).one _).on hb6); have hB6 : Below w.heap.size w w6 := (by first | exact kept1 hB5 hb6 | exact kept2 hB5 hb6 | exact kept2 (kept2 hB5 (Below.refl _ _)) hb6); have X6 : At w6 w.heap.size (o : Int) a b c := (by first | exact X5.on hb6 | exact (X5.one _).on hb6 | exact ((X5.one _).one _).on hb6); have X6l := X6.lt; have X60 := X6.c0; have X61 := X6.c1; have X62 := X6.c2; have X63 := X6.c3; clear hb6; clear c3)
    | (go_at_call 9; refine (c4 _ (by first | exact hE6 | exact hE6.one _ | exact (hE6.one _).one _)).mono ?_; rintro e w7 ⟨rfl, hb7⟩; have hE7 : Env3 w7 := (by first | exact hE6.on hb7 | exact (hE6.one _).on hb7 | exact ((hE6.one _).one _).on hb7); have hB7 : Below w.heap.size w w7 := (by first | exact kept1 hB6 hb7 | exact kept2 hB6 hb7 | exact kept2 (kept2 hB6 (Below.refl _ _)) hb7); have X7 : At w7 w.heap.size (o : Int) a b c := (by first | exact X6.on hb7 | exact (X6.one _).on hb7 | exact ((X6.one _).one _).on hb7); have X7l := X7.lt; have X70 := X7.c0; have X71 := X7.c1; have X72 := X7.c2; have X73 := X7.c3; clear hb7; clear c4))
  go_ret
  exact ⟨by first | rfl | simp, by first | exact hB7 | exact hB7.alloc hB7.size _ | exact (hB7.alloc hB7.size _).alloc (by have := hB7.size; simp; omega) _⟩

set_option maxHeartbeats 4000000 in
theorem odd_2_some (o : Nat) (h255 : o ≤ 255) (a b c : Int) (ha : byte a) (hb : byte b) (hc : byte c) (n : Int) (hn : 0 ≤ n ∧ n ≤ 255) (hm : may o a b c = true) (e7 : ((o : Int) == 7) = true) (e120 : (n == 120) = true) (p3 : prs (splitP (one n ++ text o a b c)) = some (8, [a, b, c])) (a' b' c' : Int) (ha' : byte a') (hb' : byte b') (hc' : byte c') (hm' : may o a' b' c' = true) (ht' : text o a' b' c' = text o a b c ++ one n) (h48 : 48 ≤ n) (h57 : n ≤ 57) (p4 : prs (splitP (text o a b c ++ one n)) = some (o, [a', b', c'])) (w : World) (hE : Env3 w) :
    Calls Tryd.prog 3 #[.agg #[.int .u8 o, .int .u8 a, .int .u8 b, .int .u8 c], .int .u8 n] w fun e w' => e = .returned (.bool true) ∧ Below w.heap.size w w' := by
  have hB : Below w.heap.size w w := Below.refl _ _
  have n1 := blank_pre o a b c ha hb hc hm
  have n2 := more_none o a b c ha hb hc hm [] (by simp)
  have hsz := text_size o a b c ha hb hc hm
  have cT := TextOf o h255 a b c ha hb hc hm
  have cU := TextOf o h255 a' b' c' ha' hb' hc' hm'
  rw [ht'] at cU
  clear ht'
  generalize text o a b c = t at *
  have hcv := conv_one n
  have h1s := one_size n
  have c1 := ParseNone (⟨#[32]⟩ ++ t) (by rw [ByteArray.size_append]; have : (⟨#[32]⟩ : ByteArray).size = 1 := rfl; omega) n1
  have c2 := ParseNone (t ++ ⟨#[32]⟩) (by rw [ByteArray.size_append]; have : (⟨#[32]⟩ : ByteArray).size = 1 := rfl; omega) n2
  have c3 := ParseSome (one n ++ t) (by rw [ByteArray.size_append]; omega) 8 a b c p3
  have c4 := ParseSome (t ++ one n) (by rw [ByteArray.size_append]; omega) o a' b' c' p4
  clear n1 n2 p3 p4
  go_enter Tryd.func3, Tryd.ntmps3
  go_wp2_with (go_at_call 6; refine (alive_any _ (by first | exact hE | exact hE.one _ | exact (hE.one _).one _)).mono ?_; rintro e w1 ⟨rfl, hb1⟩; have hE1 : Env3 w1 := (by first | exact hE.on hb1 | exact (hE.one _).on hb1 | exact ((hE.one _).one _).on hb1); have hB1 : Below w.heap.size w w1 := (by first | exact kept1 hB hb1 | exact kept2 hB hb1 | exact kept2 (kept2 hB (Below.refl _ _)) hb1); have X1 : At w1 w.heap.size (o : Int) a b c := (by first | exact (At.new _ (o : Int) a b c _).on hb1 | exact ((At.new _ (o : Int) a b c _).one _).on hb1); have X1l := X1.lt; have X10 := X1.c0; have X11 := X1.c1; have X12 := X1.c2; have X13 := X1.c3; clear hb1)
  go_wp2_with (go_at_call 7; refine (CheckIs o h255 a b c ha hb hc _ hm _ (by first | exact hE1 | exact hE1.one _ | exact (hE1.one _).one _)).mono ?_; rintro e w2 ⟨rfl, hb2⟩; have hE2 : Env3 w2 := (by first | exact hE1.on hb2 | exact (hE1.one _).on hb2 | exact ((hE1.one _).one _).on hb2); have hB2 : Below w.heap.size w w2 := (by first | exact kept1 hB1 hb2 | exact kept2 hB1 hb2 | exact kept2 (kept2 hB1 (Below.refl _ _)) hb2); have X2 : At w2 w.heap.size (o : Int) a b c := (by first | exact X1.on hb2 | exact (X1.one _).on hb2 | exact ((X1.one _).one _).on hb2); have X2l := X2.lt; have X20 := X2.c0; have X21 := X2.c1; have X22 := X2.c2; have X23 := X2.c3; clear hb2)
  go_wp2_with (go_at_call 8; refine (cT _ (by first | exact hE2 | exact hE2.one _ | exact (hE2.one _).one _)).mono ?_; rintro e w3 ⟨rfl, hb3⟩; have hE3 : Env3 w3 := (by first | exact hE2.on hb3 | exact (hE2.one _).on hb3 | exact ((hE2.one _).one _).on hb3); have hB3 : Below w.heap.size w w3 := (by first | exact kept1 hB2 hb3 | exact kept2 hB2 hb3 | exact kept2 (kept2 hB2 (Below.refl _ _)) hb3); have X3 : At w3 w.heap.size (o : Int) a b c := (by first | exact X2.on hb3 | exact (X2.one _).on hb3 | exact ((X2.one _).one _).on hb3); have X3l := X3.lt; have X30 := X3.c0; have X31 := X3.c1; have X32 := X3.c2; have X33 := X3.c3; clear hb3; clear cT)
  go_wp2_with (first
    | (go_at_call 9; refine (c1 _ (by first | exact hE3 | exact hE3.one _ | exact (hE3.one _).one _)).mono ?_; rintro e w4 ⟨rfl, hb4⟩; have hE4 : Env3 w4 := (by first | exact hE3.on hb4 | exact (hE3.one _).on hb4 | exact ((hE3.one _).one _).on hb4); have hB4 : Below w.heap.size w w4 := (by first | exact kept1 hB3 hb4 | exact kept2 hB3 hb4 | exact kept2 (kept2 hB3 (Below.refl _ _)) hb4); have X4 : At w4 w.heap.size (o : Int) a b c := (by first | exact X3.on hb4 | exact (X3.one _).on hb4 | exact ((X3.one _).one _).on hb4); have X4l := X4.lt; have X40 := X4.c0; have X41 := X4.c1; have X42 := X4.c2; have X43 := X4.c3; clear hb4; clear c1)
    | (go_at_call 9; refine (c2 _ (by first | exact hE4 | exact hE4.one _ | exact (hE4.one _).one _)).mono ?_; rintro e w5 ⟨rfl, hb5⟩; have hE5 : Env3 w5 := (by first | exact hE4.on hb5 | exact (hE4.one _).on hb5 | exact ((hE4.one _).one _).on hb5); have hB5 : Below w.heap.size w w5 := (by first | exact kept1 hB4 hb5 | exact kept2 hB4 hb5 | exact kept2 (kept2 hB4 (Below.refl _ _)) hb5); have X5 : At w5 w.heap.size (o : Int) a b c := (by first | exact X4.on hb5 | exact (X4.one _).on hb5 | exact ((X4.one _).one _).on hb5); have X5l := X5.lt; have X50 := X5.c0; have X51 := X5.c1; have X52 := X5.c2; have X53 := X5.c3; clear hb5; clear c2)
    | (go_at_call 9; refine (c3 _ (by first | exact hE5 | exact hE5.one _ | exact (hE5.one _).one _)).mono ?_; rintro e w6 ⟨rfl, hb6⟩; have hE6 : Env3 w6 := (by first | exact hE5.on hb6 | exact (hE5.one _).on hb6 | exact ((hE5.one _).one _).on hb6); have hB6 : Below w.heap.size w w6 := (by first | exact kept1 hB5 hb6 | exact kept2 hB5 hb6 | exact kept2 (kept2 hB5 (Below.refl _ _)) hb6); have X6 : At w6 w.heap.size (o : Int) a b c := (by first | exact X5.on hb6 | exact (X5.one _).on hb6 | exact ((X5.one _).one _).on hb6); have X6l := X6.lt; have X60 := X6.c0; have X61 := X6.c1; have X62 := X6.c2; have X63 := X6.c3; clear hb6; clear c3)
    | (go_at_call 9; refine (c4 _ (by first | exact hE6 | exact hE6.one _ | exact (hE6.one _).one _)).mono ?_; rintro e w7 ⟨rfl, hb7⟩; have hE7 : Env3 w7 := (by first | exact hE6.on hb7 | exact (hE6.one _).on hb7 | exact ((hE6.one _).one _).on hb7); have hB7 : Below w.heap.size w w7 := (by first | exact kept1 hB6 hb7 | exact kept2 hB6 hb7 | exact kept2 (kept2 hB6 (Below.refl _ _)) hb7); have X7 : At w7 w.heap.size (o : Int) a b c := (by first | exact X6.on hb7 | exact (X6.one _).on hb7 | exact ((X6.one _).one _).on hb7); have X7l := X7.lt; have X70 := X7.c0; have X71 := X7.c1; have X72 := X7.c2; have X73 := X7.c3; clear hb7; clear c4)
    | (go_at_call 8; refine (cU _ (by first | exact hE7 | exact hE7.one _ | exact (hE7.one _).one _)).mono ?_; rintro e w8 ⟨rfl, hb8⟩; have hE8 : Env3 w8 := (by first | exact hE7.on hb8 | exact (hE7.one _).on hb8 | exact ((hE7.one _).one _).on hb8); have hB8 : Below w.heap.size w w8 := (by first | exact kept1 hB7 hb8 | exact kept2 hB7 hb8 | exact kept2 (kept2 hB7 (Below.refl _ _)) hb8); have X8 : At w8 w.heap.size (o : Int) a b c := (by first | exact X7.on hb8 | exact (X7.one _).on hb8 | exact ((X7.one _).one _).on hb8); have X8l := X8.lt; have X80 := X8.c0; have X81 := X8.c1; have X82 := X8.c2; have X83 := X8.c3; have Y8 : At w8 w7.heap.size (o : Int) a' b' c' := (by first | exact (At.new _ (o : Int) a' b' c' _).on hb8 | exact ((At.new _ (o : Int) a' b' c' _).one _).on hb8); have Y8l := Y8.lt; have Y80 := Y8.c0; have Y81 := Y8.c1; have Y82 := Y8.c2; have Y83 := Y8.c3; clear hb8; clear cU))
  go_ret
  exact ⟨by first | rfl | simp, by first | exact hB8 | exact hB8.alloc hB8.size _ | exact (hB8.alloc hB8.size _).alloc (by have := hB8.size; simp; omega) _⟩

theorem u8_of (n : Int) (hn : 0 ≤ n ∧ n ≤ 255) : (UInt8.ofNat n.toNat).toNat = n.toNat := by
  rw [UInt8.toNat_ofNat']; omega
theorem pre_case (o : Nat) (a b c : Int) (ha : byte a) (hb : byte b) (hc : byte c) (n : Int) (hn : 0 ≤ n ∧ n ≤ 255) (hm : may o a b c = true) : prs (splitP (one n ++ text o a b c)) = if o = 7 ∧ n = 120 then some (8, [a, b, c]) else none := by
  have hu := u8_of n hn
  rw [one_mk]
  by_cases h32 : n = 32
  · rw [if_neg (by omega)]
    subst h32
    exact blank_pre o a b c ha hb hc hm
  · have hx : UInt8.ofNat n.toNat ≠ 32 := by
      intro e
      rw [e] at hu
      have : (32 : UInt8).toNat = 32 := rfl
      omega
    rw [byte_pre o a b c ha hb hc hm _ hx]
    have : (UInt8.ofNat n.toNat = 120) ↔ n = 120 := by
      constructor
      · intro e
        rw [e] at hu
        have : (120 : UInt8).toNat = 120 := rfl
        omega
      · intro e
        rw [e]
        rfl
    by_cases h : o = 7 ∧ n = 120
    · rw [if_pos h, if_pos ⟨h.1, this.2 h.2⟩]
    · rw [if_neg h, if_neg (fun q => h ⟨q.1, this.1 q.2⟩)]
theorem suf_case (o : Nat) (a b c : Int) (ha : byte a) (hb : byte b) (hc : byte c) (n : Int) (hn : 0 ≤ n ∧ n ≤ 255) (hm : may o a b c = true) :
    prs (splitP (text o a b c ++ one n)) = none ∨ ∃ a' b' c', byte a' ∧ byte b' ∧ byte c' ∧ may o a' b' c' = true ∧ text o a' b' c' = text o a b c ++ one n ∧ 48 ≤ n ∧ n ≤ 57 ∧ prs (splitP (text o a b c ++ one n)) = some (o, [a', b', c']) := by
  have hu := u8_of n hn
  by_cases h32 : n = 32
  · left
    subst h32
    exact more_none o a b c ha hb hc hm [] (by simp)
  · have hx : UInt8.ofNat n.toNat ≠ 32 := by
      intro e
      rw [e] at hu
      have : (32 : UInt8).toNat = 32 := rfl
      omega
    cases hp : prs (splitP (text o a b c ++ one n)) with
    | none => exact Or.inl rfl
    | some r =>
      right
      obtain ⟨o', l⟩ := r
      obtain ⟨rfl, h1, h2⟩ := byte_suf o a b c ha hb hc hm _ hx o' l (by rw [← one_mk]; exact hp)
      obtain ⟨a', b', c', rfl, _, q1, q2, q3, q4, q5⟩ := text_parse _ _ _ hp
      exact ⟨a', b', c', q1, q2, q3, q4, q5, by omega, by omega, rfl⟩

theorem odd_any (o : Nat) (h255 : o ≤ 255) (a b c : Int) (ha : byte a) (hb : byte b) (hc : byte c) (n : Int) (hn : 0 ≤ n ∧ n ≤ 255) (w : World) (hE : Env3 w) :
    Calls Tryd.prog 3 #[.agg #[.int .u8 o, .int .u8 a, .int .u8 b, .int .u8 c], .int .u8 n] w fun e w' => e = .returned (.bool true) ∧ Below w.heap.size w w' := by
  cases hm : may o a b c
  · exact odd_no o h255 a b c ha hb hc n hn hm w hE
  · have hp := pre_case o a b c ha hb hc n hn hm
    by_cases h7 : o = 7
    · have e7 : ((o : Int) == 7) = true := by rw [h7]; rfl
      by_cases h120 : n = 120
      · rw [if_pos ⟨h7, h120⟩] at hp
        have e120 : (n == 120) = true := by rw [h120]; rfl
        rcases suf_case o a b c ha hb hc n hn hm with h | ⟨a', b', c', q1, q2, q3, q4, q5, q6, q7, q8⟩
        · exact odd_2_none o h255 a b c ha hb hc n hn hm e7 e120 hp h w hE
        · exact odd_2_some o h255 a b c ha hb hc n hn hm e7 e120 hp a' b' c' q1 q2 q3 q4 q5 q6 q7 q8 w hE
      · rw [if_neg (fun q => h120 q.2)] at hp
        have e120 : (n == 120) = false := by simpa using h120
        rcases suf_case o a b c ha hb hc n hn hm with h | ⟨a', b', c', q1, q2, q3, q4, q5, q6, q7, q8⟩
        · exact odd_1_none o h255 a b c ha hb hc n hn hm e7 e120 hp h w hE
        · exact odd_1_some o h255 a b c ha hb hc n hn hm e7 e120 hp a' b' c' q1 q2 q3 q4 q5 q6 q7 q8 w hE
    · rw [if_neg (fun q => h7 q.1)] at hp
      have e7 : ((o : Int) == 7) = false := by rw [beq_eq_false_iff_ne]; omega
      rcases suf_case o a b c ha hb hc n hn hm with h | ⟨a', b', c', q1, q2, q3, q4, q5, q6, q7, q8⟩
      · exact odd_0_none o h255 a b c ha hb hc n hn hm e7 hp h w hE
      · exact odd_0_some o h255 a b c ha hb hc n hn hm e7 hp a' b' c' q1 q2 q3 q4 q5 q6 q7 q8 w hE

end Go.Proofs.YtdneldjnkkpmoabDoor
