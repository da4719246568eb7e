/- Do and Holds of package units, for every Op and every two numbers; the statements' own helpers. -/
import Derived.Test.YtomccgodfimaiaaGreatDoorUnTold
import Derived.Deep.RegionWith
import Derived.Deep.CutRange
namespace Go.Proofs.YtomccgodfimaiaaGreatDoor.Un
set_option linter.all false
open Go Go.RowKit
set_option maxRecDepth 100000
set_option linter.unusedVariables false
theorem toldB_15 (B : Nat) (a b : Int) (ha : num a) (hb : num b) (w : World) (h : MapC w B) :
    Calls Tryz.prog 137 #[.map (some B), .int .u8 15, .int .u32 a, .int .u32 b] w fun e w' => e = .returned (.tuple #[.bool (hov 15 a b), .int .i64 0]) ∧ Below w.heap.size w w' := by
  obtain ⟨n1, n2, c, hm, h1, h2⟩ := h.is
  have hl := look_yes uMapC hm 15 0 (fv 151) rfl
  rw [fv] at hl
  clear hm
  go_enter Tryz.func137, Tryz.ntmps137
  go_wp2_with (go_at_call 151; refine (c1_any _ _ _).mono ?_; rintro e w' ⟨rfl, rfl⟩)
  exact bodyPost_ret (v := .tuple #[.bool (a == b), .int .i64 0]) (by simp [results, Tryz.results137, go_sem]) rfl ⟨rfl, Below.refl _ _⟩
theorem toldB_16 (B : Nat) (a b : Int) (ha : num a) (hb : num b) (w : World) (h : MapC w B) :
    Calls Tryz.prog 137 #[.map (some B), .int .u8 16, .int .u32 a, .int .u32 b] w fun e w' => e = .returned (.tuple #[.bool (hov 16 a b), .int .i64 0]) ∧ Below w.heap.size w w' := by
  obtain ⟨n1, n2, c, hm, h1, h2⟩ := h.is
  have hl := look_yes uMapC hm 16 1 (fv 152) rfl
  rw [fv] at hl
  clear hm
  go_enter Tryz.func137, Tryz.ntmps137
  go_wp2_with (go_at_call 152; refine (c2_any _ _ _).mono ?_; rintro e w' ⟨rfl, rfl⟩)
  exact bodyPost_ret (v := .tuple #[.bool (!(a == b)), .int .i64 0]) (by simp [results, Tryz.results137, go_sem]) rfl ⟨rfl, Below.refl _ _⟩
theorem toldB_17 (B : Nat) (a b : Int) (ha : num a) (hb : num b) (w : World) (h : MapC w B) :
    Calls Tryz.prog 137 #[.map (some B), .int .u8 17, .int .u32 a, .int .u32 b] w fun e w' => e = .returned (.tuple #[.bool (hov 17 a b), .int .i64 0]) ∧ Below w.heap.size w w' := by
  obtain ⟨n1, n2, c, hm, h1, h2⟩ := h.is
  have hl := look_yes uMapC hm 17 2 (fc 166 n1) rfl
  rw [fc] at hl
  clear hm
  go_enter Tryz.func137, Tryz.ntmps137
  go_wp2_with (go_at_call 166; refine (less_any _ _ ha hb _ _ h1).mono ?_; rintro e w' ⟨rfl, hbb⟩)
  exact bodyPost_ret (v := .tuple #[.bool (decide (sgn a < sgn b)), .int .i64 0]) (by simp [results, Tryz.results137, go_sem]) rfl ⟨rfl, hbb⟩
theorem toldB_18 (B : Nat) (a b : Int) (ha : num a) (hb : num b) (w : World) (h : MapC w B) :
    Calls Tryz.prog 137 #[.map (some B), .int .u8 18, .int .u32 a, .int .u32 b] w fun e w' => e = .returned (.tuple #[.bool (hov 18 a b), .int .i64 0]) ∧ Below w.heap.size w w' := by
  obtain ⟨n1, n2, c, hm, h1, h2⟩ := h.is
  have hl := look_yes uMapC hm 18 3 (fc 168 n2) rfl
  rw [fc] at hl
  clear hm
  go_enter Tryz.func137, Tryz.ntmps137
  go_wp2_with (go_at_call 168; refine (below_any _ _ _ _ h2).mono ?_; rintro e w' ⟨rfl, hbb⟩)
  exact bodyPost_ret (v := .tuple #[.bool (decide (a < b)), .int .i64 0]) (by simp [results, Tryz.results137, go_sem]) rfl ⟨rfl, hbb⟩
theorem toldB_no (B : Nat) (o a b : Int) (ho : ¬ (15 ≤ o ∧ o ≤ 18)) (w : World) (h : MapC w B) :
    Calls Tryz.prog 137 #[.map (some B), .int .u8 o, .int .u32 a, .int .u32 b] w fun e w' => e = .returned (.tuple #[.bool false, .int .i64 1]) ∧ Below w.heap.size w w' := by
  obtain ⟨n1, n2, c, hm, h1, h2⟩ := h.is
  have hl := look_no (z := .nilFunc) uMapC rfl hm o (find_no _ _ _ _ _ _ (by omega) (find_no _ _ _ _ _ _ (by omega) (find_no _ _ _ _ _ _ (by omega) (find_no _ _ _ _ _ _ (by omega) rfl))))
  clear hm h1 h2 h ho
  go_enter Tryz.func137, Tryz.ntmps137
  go_wp2
  exact bodyPost_ret (v := .tuple #[.bool false, .int .i64 1]) (by simp [results, Tryz.results137, go_sem]) rfl ⟨rfl, Below.refl _ _⟩
theorem told_any (B : Nat) (o a b : Int) (hb : num b) (w : World) (h : MapM w B) :
    Calls Tryz.prog 134 #[.map (some B), .int .u8 o, .int .u32 a, .int .u32 b] w fun e w' => e = .returned (.tuple #[.int .u32 (dov o a b), .int .i64 (doe o)]) ∧ w' = w := by
  by_cases ho : 3 ≤ o ∧ o ≤ 10
  · rw [show doe o = 0 from if_pos ho]
    obtain rfl | rfl | rfl | rfl | rfl | rfl | rfl | rfl : o = 3 ∨ o = 4 ∨ o = 5 ∨ o = 6 ∨ o = 7 ∨ o = 8 ∨ o = 9 ∨ o = 10 := by omega
    · exact told_3 B a b hb w h
    · exact told_4 B a b hb w h
    · exact told_5 B a b hb w h
    · exact told_6 B a b hb w h
    · exact told_7 B a b hb w h
    · exact told_8 B a b hb w h
    · exact told_9 B a b hb w h
    · exact told_10 B a b hb w h
  · rw [show doe o = 1 from if_neg ho, show dov o a b = 0 by
      unfold dov
      rw [if_neg (by omega), if_neg (by omega), if_neg (by omega), if_neg (by omega), if_neg (by omega), if_neg (by omega), if_neg (by omega), if_neg (by omega)]]
    exact told_no B o a b ho w h
theorem toldB_any (B : Nat) (o a b : Int) (ha : num a) (hb : num b) (w : World) (h : MapC w B) :
    Calls Tryz.prog 137 #[.map (some B), .int .u8 o, .int .u32 a, .int .u32 b] w fun e w' => e = .returned (.tuple #[.bool (hov o a b), .int .i64 (hoe o)]) ∧ Below w.heap.size w w' := by
  by_cases ho : 15 ≤ o ∧ o ≤ 18
  · rw [show hoe o = 0 from if_pos ho]
    obtain rfl | rfl | rfl | rfl : o = 15 ∨ o = 16 ∨ o = 17 ∨ o = 18 := by omega
    · exact toldB_15 B a b ha hb w h
    · exact toldB_16 B a b ha hb w h
    · exact toldB_17 B a b ha hb w h
    · exact toldB_18 B a b ha hb w h
  · rw [show hoe o = 1 from if_neg ho, show hov o a b = false by
      unfold hov
      rw [if_neg (by omega), if_neg (by omega), if_neg (by omega), if_neg (by omega)]]
    exact toldB_no B o a b ho w h
theorem Do_any (o a b : Int) (hb : num b) (w : World) :
    Calls Tryz.prog 116 #[.int .u8 o, .int .u32 a, .int .u32 b] w fun e w' => e = .returned (.tuple #[.int .u32 (dov o a b), .int .i64 (doe o)]) ∧ Below w.heap.size w w' := by
  go_enter Tryz.func116, Tryz.ntmps116
  go_wp2_with (first
    | (go_at_call 135; refine (makings_any _).mono ?_; rintro e w1 ⟨B, rfl, hb1, hm⟩)
    | (go_at_call 134; refine (told_any _ _ _ _ hb _ hm).mono ?_; rintro e w2 ⟨rfl, rfl⟩))
  exact bodyPost_ret (v := .tuple #[.int .u32 (dov o a b), .int .i64 (doe o)]) (by simp [results, Tryz.results116, go_sem]) rfl ⟨rfl, hb1⟩
theorem Holds_any (o a b : Int) (ha : num a) (hb : num b) (w : World) :
    Calls Tryz.prog 125 #[.int .u8 o, .int .u32 a, .int .u32 b] w fun e w' => e = .returned (.tuple #[.bool (hov o a b), .int .i64 (hoe o)]) ∧ Below w.heap.size w w' := by
  go_enter Tryz.func125, Tryz.ntmps125
  go_wp2_with (first
    | (go_at_call 138; refine (comparings_any _).mono ?_; rintro e w1 ⟨B, rfl, hb1, hm⟩)
    | (go_at_call 137; refine (toldB_any _ _ _ _ ha hb _ hm).mono ?_; rintro e w2 ⟨rfl, hb2⟩))
  exact bodyPost_ret (v := .tuple #[.bool (hov o a b), .int .i64 (hoe o)]) (by simp [results, Tryz.results125, go_sem]) rfl ⟨rfl, hb1.trans (hb2.mono hb1.size)⟩
def addv (a b : Int) : Int := (a + b) % 4294967296
def subv (a b : Int) : Int := (a - b) % 4294967296
def mulv (a b : Int) : Int := a * b % 4294967296
def andv (a b : Int) : Int := bits .and .u32 a b
def orv (a b : Int) : Int := bits .or .u32 a b
def xorv (a b : Int) : Int := bits .xor .u32 a b
def leftv (a b : Int) : Int := a * 2 ^ places b % 4294967296
def rightv (a b : Int) : Int := a / 2 ^ places b
def sameh (a b : Int) : Bool := a == b
def otherh (a b : Int) : Bool := !(a == b)
def lessh (a b : Int) : Bool := decide (sgn a < sgn b)
def belowh (a b : Int) : Bool := decide (a < b)
theorem addv_num (a b : Int) : num (addv a b) := by unfold num addv; omega
theorem subv_num (a b : Int) : num (subv a b) := by unfold num subv; omega
theorem mulv_num (a b : Int) : num (mulv a b) := by unfold num mulv; omega
theorem leftv_num (a b : Int) : num (leftv a b) := by unfold num leftv; omega
theorem rightv_num (a b : Int) (h : num a) : num (rightv a b) := by
  unfold num at *
  unfold rightv
  have hp : (0 : Int) < 2 ^ places b := Int.pow_pos (by decide)
  have h1 : 0 ≤ a / 2 ^ places b := Int.ediv_nonneg h.1 (Int.le_of_lt hp)
  have h2 : a / 2 ^ places b ≤ a := Int.ediv_le_self _ h.1
  omega
theorem andv_nat (a b : Int) (ha : num a) (hb : num b) : andv a b = ((a.toNat &&& b.toNat : Nat) : Int) := u32_and a b ha.1 (by have := ha.2; omega) hb.1 (by have := hb.2; omega)
theorem orv_nat (a b : Int) (ha : num a) (hb : num b) : orv a b = ((a.toNat ||| b.toNat : Nat) : Int) := u32_or a b ha.1 (by have := ha.2; omega) hb.1 (by have := hb.2; omega)
theorem xorv_nat (a b : Int) (ha : num a) (hb : num b) : xorv a b = ((a.toNat ^^^ b.toNat : Nat) : Int) := u32_xor a b ha.1 (by have := ha.2; omega) hb.1 (by have := hb.2; omega)
theorem toNat_lt (a : Int) (ha : num a) : a.toNat < 2 ^ 32 := by unfold num at ha; omega
theorem andv_num (a b : Int) (ha : num a) (hb : num b) : num (andv a b) := by
  rw [andv_nat a b ha hb]; have := Nat.and_lt_two_pow a.toNat (toNat_lt b hb); unfold num; omega
theorem orv_num (a b : Int) (ha : num a) (hb : num b) : num (orv a b) := by
  rw [orv_nat a b ha hb]; have := Nat.or_lt_two_pow (toNat_lt a ha) (toNat_lt b hb); unfold num; omega
theorem xorv_num (a b : Int) (ha : num a) (hb : num b) : num (xorv a b) := by
  rw [xorv_nat a b ha hb]; have := Nat.xor_lt_two_pow (toNat_lt a ha) (toNat_lt b hb); unfold num; omega
end Go.Proofs.YtomccgodfimaiaaGreatDoor.Un
