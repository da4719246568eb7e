/- 'InstrsFields', walked. -/
import Derived.Test.YtdneldjnkkpmoabDoorKeep
import Derived.Test.YtdneldjnkkpmoabDoorFieldsPure
namespace Go.Proofs.YtdneldjnkkpmoabDoor
open Go Go.RowKit
set_option maxRecDepth 100000
set_option linter.unusedVariables false

set_option maxHeartbeats 2000000 in
theorem fields_no (o : Nat) (h255 : o ≤ 255) (a b c : Int) (ha : byte a) (hb : byte b) (hc : byte c) (hm : may o a b c = false) (w : World) (hE : Env3 w) :
    Calls Tryd.prog 5 #[.agg #[.int .u8 o, .int .u8 a, .int .u8 b, .int .u8 c]] w fun e w' => e = .returned (.bool true) ∧ Below w.heap.size w w' := by
  have hB : Below w.heap.size w w := Below.refl _ _
  go_enter Tryd.func5, Tryd.ntmps5
  go_wp2_with (go_at_call 6; refine (alive_any _ (by first | exact hE | exact hE.one _ | exact (hE.one _).one _)).mono ?_; rintro e w1 ⟨rfl, hb1⟩; have hE1 : Env3 w1 := (by first | exact hE.on hb1 | exact (hE.one _).on hb1 | exact ((hE.one _).one _).on hb1); have hB1 : Below w.heap.size w w1 := (by first | exact kept1 hB hb1 | exact kept2 hB hb1 | exact kept2 (kept2 hB (Below.refl _ _)) hb1); have X1 : At w1 w.heap.size (o : Int) a b c := (by first | exact (At.new _ (o : Int) a b c _).on hb1 | exact ((At.new _ (o : Int) a b c _).one _).on hb1); have X1l := X1.lt; have X10 := X1.c0; have X11 := X1.c1; have X12 := X1.c2; have X13 := X1.c3; clear hb1)
  go_wp2_with (go_at_call 7; refine (CheckIs o h255 a b c ha hb hc _ hm _ (by first | exact hE1 | exact hE1.one _ | exact (hE1.one _).one _)).mono ?_; rintro e w2 ⟨rfl, hb2⟩; have hE2 : Env3 w2 := (by first | exact hE1.on hb2 | exact (hE1.one _).on hb2 | exact ((hE1.one _).one _).on hb2); have hB2 : Below w.heap.size w w2 := (by first | exact kept1 hB1 hb2 | exact kept2 hB1 hb2 | exact kept2 (kept2 hB1 (Below.refl _ _)) hb2); have X2 : At w2 w.heap.size (o : Int) a b c := (by first | exact X1.on hb2 | exact (X1.one _).on hb2 | exact ((X1.one _).one _).on hb2); have X2l := X2.lt; have X20 := X2.c0; have X21 := X2.c1; have X22 := X2.c2; have X23 := X2.c3; clear hb2)
  go_wp2_with (go_at_call 6; refine (alive_any _ (by first | exact hE2 | exact hE2.one _ | exact (hE2.one _).one _)).mono ?_; rintro e w3 ⟨rfl, hb3⟩; have hE3 : Env3 w3 := (by first | exact hE2.on hb3 | exact (hE2.one _).on hb3 | exact ((hE2.one _).one _).on hb3); have hB3 : Below w.heap.size w w3 := (by first | exact kept1 hB2 hb3 | exact kept2 hB2 hb3 | exact kept2 (kept2 hB2 (Below.refl _ _)) hb3); have X3 : At w3 w.heap.size (o : Int) a b c := (by first | exact X2.on hb3 | exact (X2.one _).on hb3 | exact ((X2.one _).one _).on hb3); have X3l := X3.lt; have X30 := X3.c0; have X31 := X3.c1; have X32 := X3.c2; have X33 := X3.c3; clear hb3)
  go_ret
  exact ⟨by first | rfl | simp, hB3⟩

set_option maxHeartbeats 2000000 in
theorem fields_one (o : Nat) (h255 : o ≤ 255) (a b c : Int) (ha : byte a) (hb : byte b) (hc : byte c) (hm : may o a b c = true) (hnb : (32 : UInt8) ∉ (text o a b c).data.toList) (w : World) (hE : Env3 w) :
    Calls Tryd.prog 5 #[.agg #[.int .u8 o, .int .u8 a, .int .u8 b, .int .u8 c]] w fun e w' => e = .returned (.bool true) ∧ Below w.heap.size w w' := by
  have hB : Below w.heap.size w w := Below.refl _ _
  have n1 := more_none o a b c ha hb hc hm [48] (by decide)
  have n2 := more_none o a b c ha hb hc hm [114, 48] (by decide)
  have hsz := text_size o a b c ha hb hc hm
  have cT := TextOf o h255 a b c ha hb hc hm
  generalize text o a b c = t at *
  have c1 := ParseNone (t ++ ⟨#[32, 48]⟩) (by rw [ByteArray.size_append]; have : (⟨#[32, 48]⟩ : ByteArray).size = 2 := rfl; omega) n1
  have c2 := ParseNone (t ++ ⟨#[32, 114, 48]⟩) (by rw [ByteArray.size_append]; have : (⟨#[32, 114, 48]⟩ : ByteArray).size = 3 := rfl; omega) n2
  have hla : la t.data.toList t.size = -1 := la_none _ hnb _
  have HLA : Hid _ := hla
  clear hla
  go_enter Tryd.func5, Tryd.ntmps5
  go_wp2_with (go_at_call 6; refine (alive_any _ (by first | exact hE | exact hE.one _ | exact (hE.one _).one _)).mono ?_; rintro e w1 ⟨rfl, hb1⟩; have hE1 : Env3 w1 := (by first | exact hE.on hb1 | exact (hE.one _).on hb1 | exact ((hE.one _).one _).on hb1); have hB1 : Below w.heap.size w w1 := (by first | exact kept1 hB hb1 | exact kept2 hB hb1 | exact kept2 (kept2 hB (Below.refl _ _)) hb1); have X1 : At w1 w.heap.size (o : Int) a b c := (by first | exact (At.new _ (o : Int) a b c _).on hb1 | exact ((At.new _ (o : Int) a b c _).one _).on hb1); have X1l := X1.lt; have X10 := X1.c0; have X11 := X1.c1; have X12 := X1.c2; have X13 := X1.c3; clear hb1)
  go_wp2_with (go_at_call 7; refine (CheckIs o h255 a b c ha hb hc _ hm _ (by first | exact hE1 | exact hE1.one _ | exact (hE1.one _).one _)).mono ?_; rintro e w2 ⟨rfl, hb2⟩; have hE2 : Env3 w2 := (by first | exact hE1.on hb2 | exact (hE1.one _).on hb2 | exact ((hE1.one _).one _).on hb2); have hB2 : Below w.heap.size w w2 := (by first | exact kept1 hB1 hb2 | exact kept2 hB1 hb2 | exact kept2 (kept2 hB1 (Below.refl _ _)) hb2); have X2 : At w2 w.heap.size (o : Int) a b c := (by first | exact X1.on hb2 | exact (X1.one _).on hb2 | exact ((X1.one _).one _).on hb2); have X2l := X2.lt; have X20 := X2.c0; have X21 := X2.c1; have X22 := X2.c2; have X23 := X2.c3; clear hb2)
  go_wp2_with (go_at_call 8; refine (cT _ (by first | exact hE2 | exact hE2.one _ | exact (hE2.one _).one _)).mono ?_; rintro e w3 ⟨rfl, hb3⟩; have hE3 : Env3 w3 := (by first | exact hE2.on hb3 | exact (hE2.one _).on hb3 | exact ((hE2.one _).one _).on hb3); have hB3 : Below w.heap.size w w3 := (by first | exact kept1 hB2 hb3 | exact kept2 hB2 hb3 | exact kept2 (kept2 hB2 (Below.refl _ _)) hb3); have X3 : At w3 w.heap.size (o : Int) a b c := (by first | exact X2.on hb3 | exact (X2.one _).on hb3 | exact ((X2.one _).one _).on hb3); have X3l := X3.lt; have X30 := X3.c0; have X31 := X3.c1; have X32 := X3.c2; have X33 := X3.c3; clear hb3)
  go_loop [5, 6] (fun at' i => ∃ k : Nat, k ≤ t.size ∧ i = .int .i64 k ∧ at' = .int .i64 (la t.data.toList k)) (fun _ i => t.size - (intOf i).toNat)
  case atStart => exact ⟨0, Nat.zero_le _, rfl, rfl⟩
  case round =>
    obtain ⟨k, hk, rfl, rfl⟩ := hrel
    have hbd := la_bd t.data.toList k
    by_cases hlt : k < t.size
    · have HS : Hid (la t.data.toList (k + 1) = if t[k] = 32 then (k : Int) else la t.data.toList k) := by
        show _ = _
        rw [la]
        have e : t.data.toList[k]? = some t[k] := by rw [Array.getElem?_toList]; exact Array.getElem?_eq_getElem hlt
        rw [e]
        simp
      by_cases h32 : t[k] = 32
      · have hq : ((t[k].toNat : Int) == 32) = true := by rw [h32]; rfl
        have HS2 : Hid (la t.data.toList (k + 1) = k) := by show _ = _; rw [HS.out, if_pos h32]
        clear h32 HS
        go_wp2
        go_round
        case rel => exact ⟨k + 1, by omega, by go_num, by rw [HS2.out]⟩
        case measure => simp [intOf]; omega
      · have hq : ((t[k].toNat : Int) == 32) = false := by
          rw [beq_eq_false_iff_ne]
          intro e
          exact h32 (UInt8.toNat_inj.1 (by have h : t[k].toNat = 32 := (by omega); rw [h]; rfl))
        have HS2 : Hid (la t.data.toList (k + 1) = la t.data.toList k) := by show _ = _; rw [HS.out, if_neg h32]
        clear h32 HS
        go_wp2
        go_round
        case rel => exact ⟨k + 1, by omega, by go_num, by rw [HS2.out]⟩
        case measure => simp [intOf]; omega
    · obtain rfl : k = t.size := by omega
      rw [HLA.out]
      go_wp2_with (first
        | (go_at_call 9; refine (c1 _ (by first | exact hE3 | exact hE3.one _ | exact (hE3.one _).one _)).mono ?_; rintro e w4 ⟨rfl, hb4⟩; have hE4 : Env3 w4 := (by first | exact hE3.on hb4 | exact (hE3.one _).on hb4 | exact ((hE3.one _).one _).on hb4); have hB4 : Below w.heap.size w w4 := (by first | exact kept1 hB3 hb4 | exact kept2 hB3 hb4 | exact kept2 (kept2 hB3 (Below.refl _ _)) hb4); have X4 : At w4 w.heap.size (o : Int) a b c := (by first | exact X3.on hb4 | exact (X3.one _).on hb4 | exact ((X3.one _).one _).on hb4); have X4l := X4.lt; have X40 := X4.c0; have X41 := X4.c1; have X42 := X4.c2; have X43 := X4.c3; clear hb4; clear c1)
        | (go_at_call 9; refine (c2 _ (by first | exact hE4 | exact hE4.one _ | exact (hE4.one _).one _)).mono ?_; rintro e w5 ⟨rfl, hb5⟩; have hE5 : Env3 w5 := (by first | exact hE4.on hb5 | exact (hE4.one _).on hb5 | exact ((hE4.one _).one _).on hb5); have hB5 : Below w.heap.size w w5 := (by first | exact kept1 hB4 hb5 | exact kept2 hB4 hb5 | exact kept2 (kept2 hB4 (Below.refl _ _)) hb5); have X5 : At w5 w.heap.size (o : Int) a b c := (by first | exact X4.on hb5 | exact (X4.one _).on hb5 | exact ((X4.one _).one _).on hb5); have X5l := X5.lt; have X50 := X5.c0; have X51 := X5.c1; have X52 := X5.c2; have X53 := X5.c3; clear hb5; clear c2))
      go_ret
      exact ⟨by first | rfl | simp, by first | exact hB5 | exact hB5.alloc hB5.size _⟩

set_option maxHeartbeats 2000000 in
theorem fields_cut (o : Nat) (h255 : o ≤ 255) (a b c : Int) (ha : byte a) (hb : byte b) (hc : byte c) (hm : may o a b c = true) (p q : List UInt8) (hpq : (text o a b c).data.toList = p ++ 32 :: q) (hq : (32 : UInt8) ∉ q) (hn1 : prs (splitP (mk p)) = none) (hn2 : prs (splitP (mk (p ++ [32]))) = none) (w : World) (hE : Env3 w) :
    Calls Tryd.prog 5 #[.agg #[.int .u8 o, .int .u8 a, .int .u8 b, .int .u8 c]] w fun e w' => e = .returned (.bool true) ∧ Below w.heap.size w w' := by
  have hB : Below w.heap.size w w := Below.refl _ _
  have n1 := more_none o a b c ha hb hc hm [48] (by decide)
  have n2 := more_none o a b c ha hb hc hm [114, 48] (by decide)
  have hsz := text_size o a b c ha hb hc hm
  have cT := TextOf o h255 a b c ha hb hc hm
  generalize text o a b c = t at *
  have c1 := ParseNone (t ++ ⟨#[32, 48]⟩) (by rw [ByteArray.size_append]; have : (⟨#[32, 48]⟩ : ByteArray).size = 2 := rfl; omega) n1
  have c2 := ParseNone (t ++ ⟨#[32, 114, 48]⟩) (by rw [ByteArray.size_append]; have : (⟨#[32, 114, 48]⟩ : ByteArray).size = 3 := rfl; omega) n2
  have hla : la t.data.toList t.size = p.length := by
    have := la_last p q hq q.length (Nat.le_refl _)
    rw [← hpq] at this
    rw [size_data t, hpq, List.length_append, List.length_cons]
    rw [show p.length + (q.length + 1) = p.length + 1 + q.length by omega, ← hpq]
    exact this
  have e3 : t.extract 0 p.length = mk p := by
    rw [← data_mk (t.extract 0 p.length), ByteArray.data_extract, Array.toList_extract]
    rw [hpq]
    simp
  have c3 := ParseNone (t.extract 0 p.length) (by rw [e3, mk_size]; rw [size_data t, hpq, List.length_append] at hsz; omega) (by rw [e3]; exact hn1)
  have c4 := ParseNone (t.extract 0 p.length ++ ⟨#[32]⟩) (by rw [e3, ByteArray.size_append, mk_size]; have : (⟨#[32]⟩ : ByteArray).size = 1 := rfl; rw [size_data t, hpq, List.length_append] at hsz; omega) (by
    have : mk p ++ ⟨#[32]⟩ = mk (p ++ [32]) := by rw [← data_mk (mk p ++ ⟨#[32]⟩), ba_append, mk_data]
    rw [e3, this]; exact hn2)
  clear e3
  have hpl : p.length < t.size := by rw [size_data t, hpq, List.length_append, List.length_cons]; omega
  have HLA : Hid _ := hla
  clear hla
  go_enter Tryd.func5, Tryd.ntmps5
  go_wp2_with (go_at_call 6; refine (alive_any _ (by first | exact hE | exact hE.one _ | exact (hE.one _).one _)).mono ?_; rintro e w1 ⟨rfl, hb1⟩; have hE1 : Env3 w1 := (by first | exact hE.on hb1 | exact (hE.one _).on hb1 | exact ((hE.one _).one _).on hb1); have hB1 : Below w.heap.size w w1 := (by first | exact kept1 hB hb1 | exact kept2 hB hb1 | exact kept2 (kept2 hB (Below.refl _ _)) hb1); have X1 : At w1 w.heap.size (o : Int) a b c := (by first | exact (At.new _ (o : Int) a b c _).on hb1 | exact ((At.new _ (o : Int) a b c _).one _).on hb1); have X1l := X1.lt; have X10 := X1.c0; have X11 := X1.c1; have X12 := X1.c2; have X13 := X1.c3; clear hb1)
  go_wp2_with (go_at_call 7; refine (CheckIs o h255 a b c ha hb hc _ hm _ (by first | exact hE1 | exact hE1.one _ | exact (hE1.one _).one _)).mono ?_; rintro e w2 ⟨rfl, hb2⟩; have hE2 : Env3 w2 := (by first | exact hE1.on hb2 | exact (hE1.one _).on hb2 | exact ((hE1.one _).one _).on hb2); have hB2 : Below w.heap.size w w2 := (by first | exact kept1 hB1 hb2 | exact kept2 hB1 hb2 | exact kept2 (kept2 hB1 (Below.refl _ _)) hb2); have X2 : At w2 w.heap.size (o : Int) a b c := (by first | exact X1.on hb2 | exact (X1.one _).on hb2 | exact ((X1.one _).one _).on hb2); have X2l := X2.lt; have X20 := X2.c0; have X21 := X2.c1; have X22 := X2.c2; have X23 := X2.c3; clear hb2)
  go_wp2_with (go_at_call 8; refine (cT _ (by first | exact hE2 | exact hE2.one _ | exact (hE2.one _).one _)).mono ?_; rintro e w3 ⟨rfl, hb3⟩; have hE3 : Env3 w3 := (by first | exact hE2.on hb3 | exact (hE2.one _).on hb3 | exact ((hE2.one _).one _).on hb3); have hB3 : Below w.heap.size w w3 := (by first | exact kept1 hB2 hb3 | exact kept2 hB2 hb3 | exact kept2 (kept2 hB2 (Below.refl _ _)) hb3); have X3 : At w3 w.heap.size (o : Int) a b c := (by first | exact X2.on hb3 | exact (X2.one _).on hb3 | exact ((X2.one _).one _).on hb3); have X3l := X3.lt; have X30 := X3.c0; have X31 := X3.c1; have X32 := X3.c2; have X33 := X3.c3; clear hb3)
  go_loop [5, 6] (fun at' i => ∃ k : Nat, k ≤ t.size ∧ i = .int .i64 k ∧ at' = .int .i64 (la t.data.toList k)) (fun _ i => t.size - (intOf i).toNat)
  case atStart => exact ⟨0, Nat.zero_le _, rfl, rfl⟩
  case round =>
    obtain ⟨k, hk, rfl, rfl⟩ := hrel
    have hbd := la_bd t.data.toList k
    by_cases hlt : k < t.size
    · have HS : Hid (la t.data.toList (k + 1) = if t[k] = 32 then (k : Int) else la t.data.toList k) := by
        show _ = _
        rw [la]
        have e : t.data.toList[k]? = some t[k] := by rw [Array.getElem?_toList]; exact Array.getElem?_eq_getElem hlt
        rw [e]
        simp
      by_cases h32 : t[k] = 32
      · have hq : ((t[k].toNat : Int) == 32) = true := by rw [h32]; rfl
        have HS2 : Hid (la t.data.toList (k + 1) = k) := by show _ = _; rw [HS.out, if_pos h32]
        clear h32 HS
        go_wp2
        go_round
        case rel => exact ⟨k + 1, by omega, by go_num, by rw [HS2.out]⟩
        case measure => simp [intOf]; omega
      · have hq : ((t[k].toNat : Int) == 32) = false := by
          rw [beq_eq_false_iff_ne]
          intro e
          exact h32 (UInt8.toNat_inj.1 (by have h : t[k].toNat = 32 := (by omega); rw [h]; rfl))
        have HS2 : Hid (la t.data.toList (k + 1) = la t.data.toList k) := by show _ = _; rw [HS.out, if_neg h32]
        clear h32 HS
        go_wp2
        go_round
        case rel => exact ⟨k + 1, by omega, by go_num, by rw [HS2.out]⟩
        case measure => simp [intOf]; omega
    · obtain rfl : k = t.size := by omega
      rw [HLA.out]
      go_wp2_with (first
        | (go_at_call 9; refine (c1 _ (by first | exact hE3 | exact hE3.one _ | exact (hE3.one _).one _)).mono ?_; rintro e w4 ⟨rfl, hb4⟩; have hE4 : Env3 w4 := (by first | exact hE3.on hb4 | exact (hE3.one _).on hb4 | exact ((hE3.one _).one _).on hb4); have hB4 : Below w.heap.size w w4 := (by first | exact kept1 hB3 hb4 | exact kept2 hB3 hb4 | exact kept2 (kept2 hB3 (Below.refl _ _)) hb4); have X4 : At w4 w.heap.size (o : Int) a b c := (by first | exact X3.on hb4 | exact (X3.one _).on hb4 | exact ((X3.one _).one _).on hb4); have X4l := X4.lt; have X40 := X4.c0; have X41 := X4.c1; have X42 := X4.c2; have X43 := X4.c3; clear hb4; clear c1)
        | (go_at_call 9; refine (c2 _ (by first | exact hE4 | exact hE4.one _ | exact (hE4.one _).one _)).mono ?_; rintro e w5 ⟨rfl, hb5⟩; have hE5 : Env3 w5 := (by first | exact hE4.on hb5 | exact (hE4.one _).on hb5 | exact ((hE4.one _).one _).on hb5); have hB5 : Below w.heap.size w w5 := (by first | exact kept1 hB4 hb5 | exact kept2 hB4 hb5 | exact kept2 (kept2 hB4 (Below.refl _ _)) hb5); have X5 : At w5 w.heap.size (o : Int) a b c := (by first | exact X4.on hb5 | exact (X4.one _).on hb5 | exact ((X4.one _).one _).on hb5); have X5l := X5.lt; have X50 := X5.c0; have X51 := X5.c1; have X52 := X5.c2; have X53 := X5.c3; clear hb5; clear c2)
        | (go_at_call 9; refine (c3 _ (by first | exact hE5 | exact hE5.one _ | exact (hE5.one _).one _)).mono ?_; rintro e w6 ⟨rfl, hb6⟩; have hE6 : Env3 w6 := (by first | exact hE5.on hb6 | exact (hE5.one _).on hb6 | exact ((hE5.one _).one _).on hb6); have hB6 : Below w.heap.size w w6 := (by first | exact kept1 hB5 hb6 | exact kept2 hB5 hb6 | exact kept2 (kept2 hB5 (Below.refl _ _)) hb6); have X6 : At w6 w.heap.size (o : Int) a b c := (by first | exact X5.on hb6 | exact (X5.one _).on hb6 | exact ((X5.one _).one _).on hb6); have X6l := X6.lt; have X60 := X6.c0; have X61 := X6.c1; have X62 := X6.c2; have X63 := X6.c3; clear hb6; clear c3)
        | (go_at_call 9; refine (c4 _ (by first | exact hE6 | exact hE6.one _ | exact (hE6.one _).one _)).mono ?_; rintro e w7 ⟨rfl, hb7⟩; have hE7 : Env3 w7 := (by first | exact hE6.on hb7 | exact (hE6.one _).on hb7 | exact ((hE6.one _).one _).on hb7); have hB7 : Below w.heap.size w w7 := (by first | exact kept1 hB6 hb7 | exact kept2 hB6 hb7 | exact kept2 (kept2 hB6 (Below.refl _ _)) hb7); have X7 : At w7 w.heap.size (o : Int) a b c := (by first | exact X6.on hb7 | exact (X6.one _).on hb7 | exact ((X6.one _).one _).on hb7); have X7l := X7.lt; have X70 := X7.c0; have X71 := X7.c1; have X72 := X7.c2; have X73 := X7.c3; clear hb7; clear c4))
      go_ret
      exact ⟨by first | rfl | simp, by first | exact hB7 | exact hB7.alloc hB7.size _⟩

theorem fields_any (o : Nat) (h255 : o ≤ 255) (a b c : Int) (ha : byte a) (hb : byte b) (hc : byte c) (w : World) (hE : Env3 w) :
    Calls Tryd.prog 5 #[.agg #[.int .u8 o, .int .u8 a, .int .u8 b, .int .u8 c]] w fun e w' => e = .returned (.bool true) ∧ Below w.heap.size w w' := by
  cases hm : may o a b c
  · exact fields_no o h255 a b c ha hb hc hm w hE
  · rcases cut_last o a b c ha hb hc hm with h | ⟨p, q, h1, h2, h3, h4⟩
    · exact fields_one o h255 a b c ha hb hc hm h w hE
    · exact fields_cut o h255 a b c ha hb hc hm p q h1 h2 h3 h4 w hE

end Go.Proofs.YtdneldjnkkpmoabDoor
