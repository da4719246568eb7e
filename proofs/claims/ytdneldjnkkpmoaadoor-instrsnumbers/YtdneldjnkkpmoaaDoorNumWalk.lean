/- 'InstrsNumbers', walked. -/
import Derived.Test.YtdneldjnkkpmoaaDoorNumPure
namespace Go.Proofs.YtdneldjnkkpmoaaDoor
open Go Go.RowKit
set_option maxRecDepth 100000
set_option linter.unusedVariables false
set_option linter.unusedSimpArgs false
theorem dig_len (n : Nat) (h : n ≤ 4294967295) : (mk (Lib.decDigits n)).size ≤ 21 := by
  have := Lib.itoa_length_le (n : Int) (by omega) (by omega)
  rw [Lib.itoa_nonneg] at this
  rw [mk_size]; exact this
/-- the digits so far: those of what is left, and these, are those of the number -/
def Dig (n m : Nat) (d : List UInt8) (g : Nat) : Prop :=
  (d = [] ∧ m = n ∧ g = n + 1) ∨ (d ≠ [] ∧ g = m ∧ ((m = 0 ∧ d = Lib.decDigits n) ∨ (0 < m ∧ Lib.decDigits m ++ d = Lib.decDigits n)))
theorem Dig.step {n m g : Nat} {d : List UInt8} (h : Dig n m d g) (hc : 0 < m ∨ d = []) : Dig n (m / 10) (UInt8.ofNat (48 + m % 10) :: d) (m / 10) ∧ m / 10 < g := by
  rcases h with ⟨rfl, rfl, rfl⟩ | ⟨hd, rfl, ⟨rfl, _⟩ | ⟨hm, he⟩⟩
  · refine ⟨Or.inr ⟨by simp, rfl, ?_⟩, by omega⟩
    by_cases h10 : m < 10
    · exact Or.inl ⟨by omega, by rw [decDigits_small m h10, Nat.mod_eq_of_lt h10]⟩
    · exact Or.inr ⟨by omega, (decDigits_big m h10).symm⟩
  · rcases hc with hc | hc
    · exact absurd hc (by omega)
    · exact absurd hc hd
  · refine ⟨Or.inr ⟨by simp, rfl, ?_⟩, by omega⟩
    by_cases h10 : g < 10
    · refine Or.inl ⟨by omega, ?_⟩
      rw [decDigits_small g h10] at he
      rw [Nat.mod_eq_of_lt h10]; exact he
    · refine Or.inr ⟨by omega, ?_⟩
      rw [decDigits_big g h10, List.append_assoc] at he
      exact he
theorem Dig.done {n m g : Nat} {d : List UInt8} (h : Dig n m d g) (h0 : ¬ 0 < m) (hd : ¬ d = []) : d = Lib.decDigits n := by
  rcases h with ⟨h, _⟩ | ⟨_, _, ⟨_, h⟩ | ⟨h, _⟩⟩
  · exact absurd h hd
  · exact h
  · exact absurd h h0
theorem Dig.short {n m g : Nat} {d : List UInt8} (h : Dig n m d g) (hn : n ≤ 4294967295) : d.length ≤ 21 ∧ m ≤ n ∨ d.length ≤ 21 ∧ m = 0 ∨ d.length ≤ 21 := by
  have hl := dig_len n hn
  rw [mk_size] at hl
  rcases h with ⟨rfl, rfl, _⟩ | ⟨_, _, ⟨h1, h⟩ | ⟨_, h⟩⟩
  · exact Or.inl ⟨by simp, Nat.le_refl _⟩
  · exact Or.inr (Or.inl ⟨by rw [h]; exact hl, h1⟩)
  · refine Or.inr (Or.inr ?_)
    rw [← h, List.length_append] at hl
    omega
set_option maxHeartbeats 4000000 in
theorem num_z (n : Nat) (hr : n = 0) (w : World) (hE : Env3 w) :
    Calls Tryd.prog 8 #[.int .u32 n] w fun e w' => e = .returned (.bool true) ∧ Below w.heap.size w w' := by
  have hn : n ≤ 4294967295 := by omega
  have he24 := eq_instr
  have hB : Below w.heap.size w w := Below.refl _ _
  have hdl := dig_len n hn
  have pA : prs (splitP ((⟨#[115, 101, 116, 32, 114, 51, 32]⟩ : ByteArray) ++ mk (Lib.decDigits n))) = some (1, [3, ((n : Int) / 256), ((n : Int) % 256)]) := by
    rw [cutA _ (no_blank_dig n), res4 n hn, if_pos (by omega)]; rfl
  have zA : ((⟨#[115, 101, 116, 32, 114, 51, 32]⟩ : ByteArray) ++ mk (Lib.decDigits n)).size ≤ 1048576 := by rw [ByteArray.size_append]; have q : (⟨#[115, 101, 116, 32, 114, 51, 32]⟩ : ByteArray).size ≤ 100 := (by decide); omega
  have cA := ParseSome _ zA _ _ _ _ pA
  have aA := add_str (⟨#[115, 101, 116, 32, 114, 51, 32]⟩ : ByteArray) (mk (Lib.decDigits n)) (by have q : (⟨#[115, 101, 116, 32, 114, 51, 32]⟩ : ByteArray).size ≤ 100 := (by decide); omega)
  clear pA zA
  have pB : prs (splitP ((⟨#[103, 111, 32]⟩ : ByteArray) ++ mk (Lib.decDigits n))) = some (19, [((n : Int) / 256), ((n : Int) % 256), 0]) := by
    rw [cutB _ (no_blank_dig n), res4 n hn, if_pos (by omega)]; rfl
  have zB : ((⟨#[103, 111, 32]⟩ : ByteArray) ++ mk (Lib.decDigits n)).size ≤ 1048576 := by rw [ByteArray.size_append]; have q : (⟨#[103, 111, 32]⟩ : ByteArray).size ≤ 100 := (by decide); omega
  have cB := ParseSome _ zB _ _ _ _ pB
  have aB := add_str (⟨#[103, 111, 32]⟩ : ByteArray) (mk (Lib.decDigits n)) (by have q : (⟨#[103, 111, 32]⟩ : ByteArray).size ≤ 100 := (by decide); omega)
  clear pB zB
  have pC : prs (splitP ((⟨#[112, 117, 116, 32, 114, 49, 32, 114, 50, 32]⟩ : ByteArray) ++ mk (Lib.decDigits n))) = some (14, [1, 2, ((n : Int) % 256)]) := by
    rw [cutC _ (no_blank_dig n), res2 n hn, if_pos (by omega)]; rfl
  have zC : ((⟨#[112, 117, 116, 32, 114, 49, 32, 114, 50, 32]⟩ : ByteArray) ++ mk (Lib.decDigits n)).size ≤ 1048576 := by rw [ByteArray.size_append]; have q : (⟨#[112, 117, 116, 32, 114, 49, 32, 114, 50, 32]⟩ : ByteArray).size ≤ 100 := (by decide); omega
  have cC := ParseSome _ zC _ _ _ _ pC
  have aC := add_str (⟨#[112, 117, 116, 32, 114, 49, 32, 114, 50, 32]⟩ : ByteArray) (mk (Lib.decDigits n)) (by have q : (⟨#[112, 117, 116, 32, 114, 49, 32, 114, 50, 32]⟩ : ByteArray).size ≤ 100 := (by decide); omega)
  clear pC zC
  have pD : prs (splitP ((⟨#[108, 101, 115, 115, 32, 114, 49, 32, 114, 50, 32]⟩ : ByteArray) ++ mk (Lib.decDigits n))) = some (17, [1, 2, ((n : Int) % 256)]) := by
    rw [cutD _ (no_blank_dig n), res3 n hn, if_pos (by omega)]; rfl
  have zD : ((⟨#[108, 101, 115, 115, 32, 114, 49, 32, 114, 50, 32]⟩ : ByteArray) ++ mk (Lib.decDigits n)).size ≤ 1048576 := by rw [ByteArray.size_append]; have q : (⟨#[108, 101, 115, 115, 32, 114, 49, 32, 114, 50, 32]⟩ : ByteArray).size ≤ 100 := (by decide); omega
  have cD := ParseSome _ zD _ _ _ _ pD
  have aD := add_str (⟨#[108, 101, 115, 115, 32, 114, 49, 32, 114, 50, 32]⟩ : ByteArray) (mk (Lib.decDigits n)) (by have q : (⟨#[108, 101, 115, 115, 32, 114, 49, 32, 114, 50, 32]⟩ : ByteArray).size ≤ 100 := (by decide); omega)
  clear pD zD
  have pF : prs (splitP ((⟨#[108, 101, 115, 115, 32, 114, 49, 32, 114, 50, 32, 45]⟩ : ByteArray) ++ mk (Lib.decDigits n))) = none := by
    rw [cutF _ (no_blank_dig n), resm n hn, if_neg (by omega)]; rfl
  have zF : ((⟨#[108, 101, 115, 115, 32, 114, 49, 32, 114, 50, 32, 45]⟩ : ByteArray) ++ mk (Lib.decDigits n)).size ≤ 1048576 := by rw [ByteArray.size_append]; have q : (⟨#[108, 101, 115, 115, 32, 114, 49, 32, 114, 50, 32, 45]⟩ : ByteArray).size ≤ 100 := (by decide); omega
  have cF := ParseNone _ zF pF
  have aF := add_str (⟨#[108, 101, 115, 115, 32, 114, 49, 32, 114, 50, 32, 45]⟩ : ByteArray) (mk (Lib.decDigits n)) (by have q : (⟨#[108, 101, 115, 115, 32, 114, 49, 32, 114, 50, 32, 45]⟩ : ByteArray).size ≤ 100 := (by decide); omega)
  clear pF zF
  generalize (⟨#[115, 101, 116, 32, 114, 51, 32]⟩ : ByteArray) ++ mk (Lib.decDigits n) = sA at *
  generalize (⟨#[103, 111, 32]⟩ : ByteArray) ++ mk (Lib.decDigits n) = sB at *
  generalize (⟨#[112, 117, 116, 32, 114, 49, 32, 114, 50, 32]⟩ : ByteArray) ++ mk (Lib.decDigits n) = sC at *
  generalize (⟨#[108, 101, 115, 115, 32, 114, 49, 32, 114, 50, 32]⟩ : ByteArray) ++ mk (Lib.decDigits n) = sD at *
  generalize (⟨#[108, 101, 115, 115, 32, 114, 49, 32, 114, 50, 32, 45]⟩ : ByteArray) ++ mk (Lib.decDigits n) = sF at *
  obtain ⟨D, hD⟩ : ∃ D, mk (Lib.decDigits n) = D := ⟨_, rfl⟩
  rw [hD] at aA aB aC aD aF
  have HD : Hid (mk (Lib.decDigits n) = D) := hD
  clear hD hdl
  have HR : Hid (n = 0) := hr
  clear hr
  go_enter Tryd.func8, Tryd.ntmps8
  go_wp2
  go_loopg [3, 4] (n + 1) (fun g s3 s4 wx => ∃ (m : Nat) (d : List UInt8), w = wx ∧ s3 = .string (mk d) ∧ s4 = .int .u32 m ∧ m ≤ 4294967295 ∧ d.length ≤ 21 ∧ Hid (Dig n m d g))
  case atStart => exact ⟨n, [], rfl, rfl, rfl, hn, by decide, Or.inl ⟨rfl, rfl, rfl⟩⟩
  case round =>
    obtain ⟨m, d, rfl, rfl, rfl, hm, hdl, HG⟩ := hrel
    by_cases hgo : 0 < m ∨ d = []
    · have hst := HG.out.step hgo
      have hdl2 : (UInt8.ofNat (48 + m % 10) :: d).length ≤ 21 := by
        rcases hst.1.short hn with h | h | h
        · exact h.1
        · exact h.1
        · exact h
      have hcat := add_str (mk [UInt8.ofNat (48 + m % 10)]) (mk d) (by rw [mk_size, mk_size]; simp at *; omega)
      rw [mk_append, List.singleton_append] at hcat
      have hsl := slice_dig (m % 10) (by omega)
      rw [show ((m % 10 : Nat) : Int) = (m : Int) % 10 by omega] at hsl
      have HS : Hid _ := hst
      clear hst HG
      have H2 : Hid _ := hdl2
      clear hdl2
      by_cases hm0 : 0 < m
      · generalize mk [UInt8.ofNat (48 + m % 10)] = dg at *
        generalize UInt8.ofNat (48 + m % 10) = ch at *
        have hgt : 0 < (m : Int) := by omega
        go_wp2
        go_roundg (m / 10)
        case measure => exact HS.out.2
        case rel => exact ⟨m / 10, ch :: d, rfl, rfl, by first | rfl | go_num | (simp; done), by omega, H2.out, HS.out.1⟩
      · obtain rfl : d = [] := by rcases hgo with h | h; exact absurd h hm0; exact h
        obtain rfl : m = 0 := by omega
        clear hcat hsl
        have hemp : ((mk []).toList == ([] : List UInt8)) = true := by rw [Lib.toList_data]; rfl
        have hemp2 : ((mk []).toList == (⟨#[]⟩ : ByteArray).toList) = true := by rw [Lib.toList_data, Lib.toList_data]; rfl
        go_wp2
        go_roundg 0
        case measure => exact HS.out.2
        case rel => exact ⟨0, [48], rfl, by first | rfl | decide, by first | rfl | go_num | (simp; done), by omega, by decide, HS.out.1⟩
    · have hm0 : ¬ 0 < m := fun h => hgo (Or.inl h)
      have hd0 : ¬ d = [] := fun h => hgo (Or.inr h)
      have hde := HG.out.done hm0 hd0
      have hdD : mk d = D := by rw [hde]; exact HD.out
      have hemp : (D.toList == ([] : List UInt8)) = false := by rw [← hdD, Lib.toList_data, mk_data]; simpa using hd0
      have hemp2 : (D.toList == (⟨#[]⟩ : ByteArray).toList) = false := by rw [← hdD, Lib.toList_data, Lib.toList_data, mk_data]; simpa using hd0
      obtain rfl : m = 0 := by omega
      rw [hdD]
      clear hdD hde hd0 hm0 hgo HG hdl hm
      have hr := HR.out
      have f1 : (n : Int) < 65536 := by omega
      have f2 : (n : Int) < 256 := by omega
      have f3 : (n : Int) < 128 := by omega
      have f4 : ¬ 1 ≤ (n : Int) := by omega
      have f5 : (n : Int) ≤ 128 := by omega
      have f6 : 0 ≤ (n : Int) ∧ (n : Int) ≤ 4294967295 := by omega
      have HQ : Hid ((n : Int) / 256 % 256 = (n : Int) / 256 ∨ 65536 ≤ (n : Int)) := by show _ ∨ _; omega
      clear hr hn
      generalize (n : Int) = z at *
      go_wp2_with (go_at_call_of 18 (Value.string sA); refine (cA _ (by first | exact hE | exact hE.one _ | exact (hE.one _).one _)).mono ?_; rintro e w1 ⟨rfl, hb1⟩; have hE1 : Env3 w1 := (by first | exact hE.on hb1 | exact (hE.one _).on hb1 | exact ((hE.one _).one _).on hb1); have hB1 : Below w.heap.size w w1 := (by first | exact kept1 hB hb1 | exact kept2 hB hb1 | exact kept2 (kept2 hB (Below.refl _ _)) hb1); clear hb1)
      go_wp2_with (go_at_call_of 18 (Value.string sB); refine (cB _ (by first | exact hE1 | exact hE1.one _ | exact (hE1.one _).one _)).mono ?_; rintro e w2 ⟨rfl, hb2⟩; have hE2 : Env3 w2 := (by first | exact hE1.on hb2 | exact (hE1.one _).on hb2 | exact ((hE1.one _).one _).on hb2); have hB2 : Below w.heap.size w w2 := (by first | exact kept1 hB1 hb2 | exact kept2 hB1 hb2 | exact kept2 (kept2 hB1 (Below.refl _ _)) hb2); have XA2 : At w2 w1.heap.size 1 3 (z / 256) (z % 256) := (by first | exact (At.new _ 1 3 (z / 256) (z % 256) _).on hb2 | exact ((At.new _ 1 3 (z / 256) (z % 256) _).one _).on hb2); have XA2l := XA2.lt; have XA20 := XA2.c0; have XA21 := XA2.c1; have XA22 := XA2.c2; have XA23 := XA2.c3; clear hb2)
      go_wp2_with (go_at_call_of 18 (Value.string sC); refine (cC _ (by first | exact hE2 | exact hE2.one _ | exact (hE2.one _).one _)).mono ?_; rintro e w3 ⟨rfl, hb3⟩; have hE3 : Env3 w3 := (by first | exact hE2.on hb3 | exact (hE2.one _).on hb3 | exact ((hE2.one _).one _).on hb3); have hB3 : Below w.heap.size w w3 := (by first | exact kept1 hB2 hb3 | exact kept2 hB2 hb3 | exact kept2 (kept2 hB2 (Below.refl _ _)) hb3); have XA3 : At w3 w1.heap.size 1 3 (z / 256) (z % 256) := (by first | exact XA2.on hb3 | exact (XA2.one _).on hb3 | exact ((XA2.one _).one _).on hb3); have XA3l := XA3.lt; have XA30 := XA3.c0; have XA31 := XA3.c1; have XA32 := XA3.c2; have XA33 := XA3.c3; have XB3 : At w3 w2.heap.size 19 (z / 256) (z % 256) 0 := (by first | exact (At.new _ 19 (z / 256) (z % 256) 0 _).on hb3 | exact ((At.new _ 19 (z / 256) (z % 256) 0 _).one _).on hb3); have XB3l := XB3.lt; have XB30 := XB3.c0; have XB31 := XB3.c1; have XB32 := XB3.c2; have XB33 := XB3.c3; clear hb3)
      go_wp2_with (go_at_call_of 18 (Value.string sD); refine (cD _ (by first | exact hE3 | exact hE3.one _ | exact (hE3.one _).one _)).mono ?_; rintro e w4 ⟨rfl, hb4⟩; have hE4 : Env3 w4 := (by first | exact hE3.on hb4 | exact (hE3.one _).on hb4 | exact ((hE3.one _).one _).on hb4); have hB4 : Below w.heap.size w w4 := (by first | exact kept1 hB3 hb4 | exact kept2 hB3 hb4 | exact kept2 (kept2 hB3 (Below.refl _ _)) hb4); have XA4 : At w4 w1.heap.size 1 3 (z / 256) (z % 256) := (by first | exact XA3.on hb4 | exact (XA3.one _).on hb4 | exact ((XA3.one _).one _).on hb4); have XA4l := XA4.lt; have XA40 := XA4.c0; have XA41 := XA4.c1; have XA42 := XA4.c2; have XA43 := XA4.c3; have XB4 : At w4 w2.heap.size 19 (z / 256) (z % 256) 0 := (by first | exact XB3.on hb4 | exact (XB3.one _).on hb4 | exact ((XB3.one _).one _).on hb4); have XB4l := XB4.lt; have XB40 := XB4.c0; have XB41 := XB4.c1; have XB42 := XB4.c2; have XB43 := XB4.c3; have XC4 : At w4 w3.heap.size 14 1 2 (z % 256) := (by first | exact (At.new _ 14 1 2 (z % 256) _).on hb4 | exact ((At.new _ 14 1 2 (z % 256) _).one _).on hb4); have XC4l := XC4.lt; have XC40 := XC4.c0; have XC41 := XC4.c1; have XC42 := XC4.c2; have XC43 := XC4.c3; clear hb4)
      go_wp2_with (go_at_call_of 18 (Value.string sF); refine (cF _ (by first | exact hE4 | exact hE4.one _ | exact (hE4.one _).one _)).mono ?_; rintro e w5 ⟨rfl, hb5⟩; have hE5 : Env3 w5 := (by first | exact hE4.on hb5 | exact (hE4.one _).on hb5 | exact ((hE4.one _).one _).on hb5); have hB5 : Below w.heap.size w w5 := (by first | exact kept1 hB4 hb5 | exact kept2 hB4 hb5 | exact kept2 (kept2 hB4 (Below.refl _ _)) hb5); have XA5 : At w5 w1.heap.size 1 3 (z / 256) (z % 256) := (by first | exact XA4.on hb5 | exact (XA4.one _).on hb5 | exact ((XA4.one _).one _).on hb5); have XA5l := XA5.lt; have XA50 := XA5.c0; have XA51 := XA5.c1; have XA52 := XA5.c2; have XA53 := XA5.c3; have XB5 : At w5 w2.heap.size 19 (z / 256) (z % 256) 0 := (by first | exact XB4.on hb5 | exact (XB4.one _).on hb5 | exact ((XB4.one _).one _).on hb5); have XB5l := XB5.lt; have XB50 := XB5.c0; have XB51 := XB5.c1; have XB52 := XB5.c2; have XB53 := XB5.c3; have XC5 : At w5 w3.heap.size 14 1 2 (z % 256) := (by first | exact XC4.on hb5 | exact (XC4.one _).on hb5 | exact ((XC4.one _).one _).on hb5); have XC5l := XC5.lt; have XC50 := XC5.c0; have XC51 := XC5.c1; have XC52 := XC5.c2; have XC53 := XC5.c3; have XD5 : At w5 w4.heap.size 17 1 2 (z % 256) := (by first | exact (At.new _ 17 1 2 (z % 256) _).on hb5 | exact ((At.new _ 17 1 2 (z % 256) _).one _).on hb5); have XD5l := XD5.lt; have XD50 := XD5.c0; have XD51 := XD5.c1; have XD52 := XD5.c2; have XD53 := XD5.c3; clear hb5)
      go_wp2_with (go_at_call 20; refine (alive_any _ (by first | exact hE5 | exact hE5.one _ | exact (hE5.one _).one _)).mono ?_; rintro e w6 ⟨rfl, hb6⟩; have hE6 : Env3 w6 := (by first | exact hE5.on hb6 | exact (hE5.one _).on hb6 | exact ((hE5.one _).one _).on hb6); have hB6 : Below w.heap.size w w6 := (by first | exact kept1 hB5 hb6 | exact kept2 hB5 hb6 | exact kept2 (kept2 hB5 (Below.refl _ _)) hb6); have XA6 : At w6 w1.heap.size 1 3 (z / 256) (z % 256) := (by first | exact XA5.on hb6 | exact (XA5.one _).on hb6 | exact ((XA5.one _).one _).on hb6); have XA6l := XA6.lt; have XA60 := XA6.c0; have XA61 := XA6.c1; have XA62 := XA6.c2; have XA63 := XA6.c3; have XB6 : At w6 w2.heap.size 19 (z / 256) (z % 256) 0 := (by first | exact XB5.on hb6 | exact (XB5.one _).on hb6 | exact ((XB5.one _).one _).on hb6); have XB6l := XB6.lt; have XB60 := XB6.c0; have XB61 := XB6.c1; have XB62 := XB6.c2; have XB63 := XB6.c3; have XC6 : At w6 w3.heap.size 14 1 2 (z % 256) := (by first | exact XC5.on hb6 | exact (XC5.one _).on hb6 | exact ((XC5.one _).one _).on hb6); have XC6l := XC6.lt; have XC60 := XC6.c0; have XC61 := XC6.c1; have XC62 := XC6.c2; have XC63 := XC6.c3; have XD6 : At w6 w4.heap.size 17 1 2 (z % 256) := (by first | exact XD5.on hb6 | exact (XD5.one _).on hb6 | exact ((XD5.one _).one _).on hb6); have XD6l := XD6.lt; have XD60 := XD6.c0; have XD61 := XD6.c1; have XD62 := XD6.c2; have XD63 := XD6.c3; have XF6 : At w6 w5.heap.size 0 0 0 0 := (by first | exact (At.new _ 0 0 0 0 _).on hb6 | exact ((At.new _ 0 0 0 0 _).one _).on hb6); have XF6l := XF6.lt; have XF60 := XF6.c0; have XF61 := XF6.c1; have XF62 := XF6.c2; have XF63 := XF6.c3; clear hb6)
      go_ret
      exact ⟨by first | rfl | (simp; done) | (simp; omega), hB6⟩
set_option maxHeartbeats 4000000 in
theorem num_a (n : Nat) (hr : 1 ≤ n ∧ n ≤ 127) (w : World) (hE : Env3 w) :
    Calls Tryd.prog 8 #[.int .u32 n] w fun e w' => e = .returned (.bool true) ∧ Below w.heap.size w w' := by
  have hn : n ≤ 4294967295 := by omega
  have he24 := eq_instr
  have hB : Below w.heap.size w w := Below.refl _ _
  have hdl := dig_len n hn
  have pA : prs (splitP ((⟨#[115, 101, 116, 32, 114, 51, 32]⟩ : ByteArray) ++ mk (Lib.decDigits n))) = some (1, [3, ((n : Int) / 256), ((n : Int) % 256)]) := by
    rw [cutA _ (no_blank_dig n), res4 n hn, if_pos (by omega)]; rfl
  have zA : ((⟨#[115, 101, 116, 32, 114, 51, 32]⟩ : ByteArray) ++ mk (Lib.decDigits n)).size ≤ 1048576 := by rw [ByteArray.size_append]; have q : (⟨#[115, 101, 116, 32, 114, 51, 32]⟩ : ByteArray).size ≤ 100 := (by decide); omega
  have cA := ParseSome _ zA _ _ _ _ pA
  have aA := add_str (⟨#[115, 101, 116, 32, 114, 51, 32]⟩ : ByteArray) (mk (Lib.decDigits n)) (by have q : (⟨#[115, 101, 116, 32, 114, 51, 32]⟩ : ByteArray).size ≤ 100 := (by decide); omega)
  clear pA zA
  have pB : prs (splitP ((⟨#[103, 111, 32]⟩ : ByteArray) ++ mk (Lib.decDigits n))) = some (19, [((n : Int) / 256), ((n : Int) % 256), 0]) := by
    rw [cutB _ (no_blank_dig n), res4 n hn, if_pos (by omega)]; rfl
  have zB : ((⟨#[103, 111, 32]⟩ : ByteArray) ++ mk (Lib.decDigits n)).size ≤ 1048576 := by rw [ByteArray.size_append]; have q : (⟨#[103, 111, 32]⟩ : ByteArray).size ≤ 100 := (by decide); omega
  have cB := ParseSome _ zB _ _ _ _ pB
  have aB := add_str (⟨#[103, 111, 32]⟩ : ByteArray) (mk (Lib.decDigits n)) (by have q : (⟨#[103, 111, 32]⟩ : ByteArray).size ≤ 100 := (by decide); omega)
  clear pB zB
  have pC : prs (splitP ((⟨#[112, 117, 116, 32, 114, 49, 32, 114, 50, 32]⟩ : ByteArray) ++ mk (Lib.decDigits n))) = some (14, [1, 2, ((n : Int) % 256)]) := by
    rw [cutC _ (no_blank_dig n), res2 n hn, if_pos (by omega)]; rfl
  have zC : ((⟨#[112, 117, 116, 32, 114, 49, 32, 114, 50, 32]⟩ : ByteArray) ++ mk (Lib.decDigits n)).size ≤ 1048576 := by rw [ByteArray.size_append]; have q : (⟨#[112, 117, 116, 32, 114, 49, 32, 114, 50, 32]⟩ : ByteArray).size ≤ 100 := (by decide); omega
  have cC := ParseSome _ zC _ _ _ _ pC
  have aC := add_str (⟨#[112, 117, 116, 32, 114, 49, 32, 114, 50, 32]⟩ : ByteArray) (mk (Lib.decDigits n)) (by have q : (⟨#[112, 117, 116, 32, 114, 49, 32, 114, 50, 32]⟩ : ByteArray).size ≤ 100 := (by decide); omega)
  clear pC zC
  have pD : prs (splitP ((⟨#[108, 101, 115, 115, 32, 114, 49, 32, 114, 50, 32]⟩ : ByteArray) ++ mk (Lib.decDigits n))) = some (17, [1, 2, ((n : Int) % 256)]) := by
    rw [cutD _ (no_blank_dig n), res3 n hn, if_pos (by omega)]; rfl
  have zD : ((⟨#[108, 101, 115, 115, 32, 114, 49, 32, 114, 50, 32]⟩ : ByteArray) ++ mk (Lib.decDigits n)).size ≤ 1048576 := by rw [ByteArray.size_append]; have q : (⟨#[108, 101, 115, 115, 32, 114, 49, 32, 114, 50, 32]⟩ : ByteArray).size ≤ 100 := (by decide); omega
  have cD := ParseSome _ zD _ _ _ _ pD
  have aD := add_str (⟨#[108, 101, 115, 115, 32, 114, 49, 32, 114, 50, 32]⟩ : ByteArray) (mk (Lib.decDigits n)) (by have q : (⟨#[108, 101, 115, 115, 32, 114, 49, 32, 114, 50, 32]⟩ : ByteArray).size ≤ 100 := (by decide); omega)
  clear pD zD
  have pF : prs (splitP ((⟨#[108, 101, 115, 115, 32, 114, 49, 32, 114, 50, 32, 45]⟩ : ByteArray) ++ mk (Lib.decDigits n))) = some (17, [1, 2, (-(n : Int) % 256)]) := by
    rw [cutF _ (no_blank_dig n), resm n hn, if_pos (by omega)]; rfl
  have zF : ((⟨#[108, 101, 115, 115, 32, 114, 49, 32, 114, 50, 32, 45]⟩ : ByteArray) ++ mk (Lib.decDigits n)).size ≤ 1048576 := by rw [ByteArray.size_append]; have q : (⟨#[108, 101, 115, 115, 32, 114, 49, 32, 114, 50, 32, 45]⟩ : ByteArray).size ≤ 100 := (by decide); omega
  have cF := ParseSome _ zF _ _ _ _ pF
  have aF := add_str (⟨#[108, 101, 115, 115, 32, 114, 49, 32, 114, 50, 32, 45]⟩ : ByteArray) (mk (Lib.decDigits n)) (by have q : (⟨#[108, 101, 115, 115, 32, 114, 49, 32, 114, 50, 32, 45]⟩ : ByteArray).size ≤ 100 := (by decide); omega)
  clear pF zF
  generalize (⟨#[115, 101, 116, 32, 114, 51, 32]⟩ : ByteArray) ++ mk (Lib.decDigits n) = sA at *
  generalize (⟨#[103, 111, 32]⟩ : ByteArray) ++ mk (Lib.decDigits n) = sB at *
  generalize (⟨#[112, 117, 116, 32, 114, 49, 32, 114, 50, 32]⟩ : ByteArray) ++ mk (Lib.decDigits n) = sC at *
  generalize (⟨#[108, 101, 115, 115, 32, 114, 49, 32, 114, 50, 32]⟩ : ByteArray) ++ mk (Lib.decDigits n) = sD at *
  generalize (⟨#[108, 101, 115, 115, 32, 114, 49, 32, 114, 50, 32, 45]⟩ : ByteArray) ++ mk (Lib.decDigits n) = sF at *
  obtain ⟨D, hD⟩ : ∃ D, mk (Lib.decDigits n) = D := ⟨_, rfl⟩
  rw [hD] at aA aB aC aD aF
  have HD : Hid (mk (Lib.decDigits n) = D) := hD
  clear hD hdl
  have HR : Hid (1 ≤ n ∧ n ≤ 127) := hr
  clear hr
  go_enter Tryd.func8, Tryd.ntmps8
  go_wp2
  go_loopg [3, 4] (n + 1) (fun g s3 s4 wx => ∃ (m : Nat) (d : List UInt8), w = wx ∧ s3 = .string (mk d) ∧ s4 = .int .u32 m ∧ m ≤ 4294967295 ∧ d.length ≤ 21 ∧ Hid (Dig n m d g))
  case atStart => exact ⟨n, [], rfl, rfl, rfl, hn, by decide, Or.inl ⟨rfl, rfl, rfl⟩⟩
  case round =>
    obtain ⟨m, d, rfl, rfl, rfl, hm, hdl, HG⟩ := hrel
    by_cases hgo : 0 < m ∨ d = []
    · have hst := HG.out.step hgo
      have hdl2 : (UInt8.ofNat (48 + m % 10) :: d).length ≤ 21 := by
        rcases hst.1.short hn with h | h | h
        · exact h.1
        · exact h.1
        · exact h
      have hcat := add_str (mk [UInt8.ofNat (48 + m % 10)]) (mk d) (by rw [mk_size, mk_size]; simp at *; omega)
      rw [mk_append, List.singleton_append] at hcat
      have hsl := slice_dig (m % 10) (by omega)
      rw [show ((m % 10 : Nat) : Int) = (m : Int) % 10 by omega] at hsl
      have HS : Hid _ := hst
      clear hst HG
      have H2 : Hid _ := hdl2
      clear hdl2
      by_cases hm0 : 0 < m
      · generalize mk [UInt8.ofNat (48 + m % 10)] = dg at *
        generalize UInt8.ofNat (48 + m % 10) = ch at *
        have hgt : 0 < (m : Int) := by omega
        go_wp2
        go_roundg (m / 10)
        case measure => exact HS.out.2
        case rel => exact ⟨m / 10, ch :: d, rfl, rfl, by first | rfl | go_num | (simp; done), by omega, H2.out, HS.out.1⟩
      · obtain rfl : d = [] := by rcases hgo with h | h; exact absurd h hm0; exact h
        obtain rfl : m = 0 := by omega
        clear hcat hsl
        have hemp : ((mk []).toList == ([] : List UInt8)) = true := by rw [Lib.toList_data]; rfl
        have hemp2 : ((mk []).toList == (⟨#[]⟩ : ByteArray).toList) = true := by rw [Lib.toList_data, Lib.toList_data]; rfl
        go_wp2
        go_roundg 0
        case measure => exact HS.out.2
        case rel => exact ⟨0, [48], rfl, by first | rfl | decide, by first | rfl | go_num | (simp; done), by omega, by decide, HS.out.1⟩
    · have hm0 : ¬ 0 < m := fun h => hgo (Or.inl h)
      have hd0 : ¬ d = [] := fun h => hgo (Or.inr h)
      have hde := HG.out.done hm0 hd0
      have hdD : mk d = D := by rw [hde]; exact HD.out
      have hemp : (D.toList == ([] : List UInt8)) = false := by rw [← hdD, Lib.toList_data, mk_data]; simpa using hd0
      have hemp2 : (D.toList == (⟨#[]⟩ : ByteArray).toList) = false := by rw [← hdD, Lib.toList_data, Lib.toList_data, mk_data]; simpa using hd0
      obtain rfl : m = 0 := by omega
      rw [hdD]
      clear hdD hde hd0 hm0 hgo HG hdl hm
      have hr := HR.out
      have f1 : (n : Int) < 65536 := by omega
      have f2 : (n : Int) < 256 := by omega
      have f3 : (n : Int) < 128 := by omega
      have f4 : 1 ≤ (n : Int) := by omega
      have f5 : (n : Int) ≤ 128 := by omega
      have f6 : 0 ≤ (n : Int) ∧ (n : Int) ≤ 4294967295 := by omega
      have HQ : Hid ((n : Int) / 256 % 256 = (n : Int) / 256 ∨ 65536 ≤ (n : Int)) := by show _ ∨ _; omega
      clear hr hn
      generalize (n : Int) = z at *
      go_wp2_with (go_at_call_of 18 (Value.string sA); refine (cA _ (by first | exact hE | exact hE.one _ | exact (hE.one _).one _)).mono ?_; rintro e w1 ⟨rfl, hb1⟩; have hE1 : Env3 w1 := (by first | exact hE.on hb1 | exact (hE.one _).on hb1 | exact ((hE.one _).one _).on hb1); have hB1 : Below w.heap.size w w1 := (by first | exact kept1 hB hb1 | exact kept2 hB hb1 | exact kept2 (kept2 hB (Below.refl _ _)) hb1); clear hb1)
      go_wp2_with (go_at_call_of 18 (Value.string sB); refine (cB _ (by first | exact hE1 | exact hE1.one _ | exact (hE1.one _).one _)).mono ?_; rintro e w2 ⟨rfl, hb2⟩; have hE2 : Env3 w2 := (by first | exact hE1.on hb2 | exact (hE1.one _).on hb2 | exact ((hE1.one _).one _).on hb2); have hB2 : Below w.heap.size w w2 := (by first | exact kept1 hB1 hb2 | exact kept2 hB1 hb2 | exact kept2 (kept2 hB1 (Below.refl _ _)) hb2); have XA2 : At w2 w1.heap.size 1 3 (z / 256) (z % 256) := (by first | exact (At.new _ 1 3 (z / 256) (z % 256) _).on hb2 | exact ((At.new _ 1 3 (z / 256) (z % 256) _).one _).on hb2); have XA2l := XA2.lt; have XA20 := XA2.c0; have XA21 := XA2.c1; have XA22 := XA2.c2; have XA23 := XA2.c3; clear hb2)
      go_wp2_with (go_at_call_of 18 (Value.string sC); refine (cC _ (by first | exact hE2 | exact hE2.one _ | exact (hE2.one _).one _)).mono ?_; rintro e w3 ⟨rfl, hb3⟩; have hE3 : Env3 w3 := (by first | exact hE2.on hb3 | exact (hE2.one _).on hb3 | exact ((hE2.one _).one _).on hb3); have hB3 : Below w.heap.size w w3 := (by first | exact kept1 hB2 hb3 | exact kept2 hB2 hb3 | exact kept2 (kept2 hB2 (Below.refl _ _)) hb3); have XA3 : At w3 w1.heap.size 1 3 (z / 256) (z % 256) := (by first | exact XA2.on hb3 | exact (XA2.one _).on hb3 | exact ((XA2.one _).one _).on hb3); have XA3l := XA3.lt; have XA30 := XA3.c0; have XA31 := XA3.c1; have XA32 := XA3.c2; have XA33 := XA3.c3; have XB3 : At w3 w2.heap.size 19 (z / 256) (z % 256) 0 := (by first | exact (At.new _ 19 (z / 256) (z % 256) 0 _).on hb3 | exact ((At.new _ 19 (z / 256) (z % 256) 0 _).one _).on hb3); have XB3l := XB3.lt; have XB30 := XB3.c0; have XB31 := XB3.c1; have XB32 := XB3.c2; have XB33 := XB3.c3; clear hb3)
      go_wp2_with (go_at_call_of 18 (Value.string sD); refine (cD _ (by first | exact hE3 | exact hE3.one _ | exact (hE3.one _).one _)).mono ?_; rintro e w4 ⟨rfl, hb4⟩; have hE4 : Env3 w4 := (by first | exact hE3.on hb4 | exact (hE3.one _).on hb4 | exact ((hE3.one _).one _).on hb4); have hB4 : Below w.heap.size w w4 := (by first | exact kept1 hB3 hb4 | exact kept2 hB3 hb4 | exact kept2 (kept2 hB3 (Below.refl _ _)) hb4); have XA4 : At w4 w1.heap.size 1 3 (z / 256) (z % 256) := (by first | exact XA3.on hb4 | exact (XA3.one _).on hb4 | exact ((XA3.one _).one _).on hb4); have XA4l := XA4.lt; have XA40 := XA4.c0; have XA41 := XA4.c1; have XA42 := XA4.c2; have XA43 := XA4.c3; have XB4 : At w4 w2.heap.size 19 (z / 256) (z % 256) 0 := (by first | exact XB3.on hb4 | exact (XB3.one _).on hb4 | exact ((XB3.one _).one _).on hb4); have XB4l := XB4.lt; have XB40 := XB4.c0; have XB41 := XB4.c1; have XB42 := XB4.c2; have XB43 := XB4.c3; have XC4 : At w4 w3.heap.size 14 1 2 (z % 256) := (by first | exact (At.new _ 14 1 2 (z % 256) _).on hb4 | exact ((At.new _ 14 1 2 (z % 256) _).one _).on hb4); have XC4l := XC4.lt; have XC40 := XC4.c0; have XC41 := XC4.c1; have XC42 := XC4.c2; have XC43 := XC4.c3; clear hb4)
      go_wp2_with (go_at_call_of 18 (Value.string sF); refine (cF _ (by first | exact hE4 | exact hE4.one _ | exact (hE4.one _).one _)).mono ?_; rintro e w5 ⟨rfl, hb5⟩; have hE5 : Env3 w5 := (by first | exact hE4.on hb5 | exact (hE4.one _).on hb5 | exact ((hE4.one _).one _).on hb5); have hB5 : Below w.heap.size w w5 := (by first | exact kept1 hB4 hb5 | exact kept2 hB4 hb5 | exact kept2 (kept2 hB4 (Below.refl _ _)) hb5); have XA5 : At w5 w1.heap.size 1 3 (z / 256) (z % 256) := (by first | exact XA4.on hb5 | exact (XA4.one _).on hb5 | exact ((XA4.one _).one _).on hb5); have XA5l := XA5.lt; have XA50 := XA5.c0; have XA51 := XA5.c1; have XA52 := XA5.c2; have XA53 := XA5.c3; have XB5 : At w5 w2.heap.size 19 (z / 256) (z % 256) 0 := (by first | exact XB4.on hb5 | exact (XB4.one _).on hb5 | exact ((XB4.one _).one _).on hb5); have XB5l := XB5.lt; have XB50 := XB5.c0; have XB51 := XB5.c1; have XB52 := XB5.c2; have XB53 := XB5.c3; have XC5 : At w5 w3.heap.size 14 1 2 (z % 256) := (by first | exact XC4.on hb5 | exact (XC4.one _).on hb5 | exact ((XC4.one _).one _).on hb5); have XC5l := XC5.lt; have XC50 := XC5.c0; have XC51 := XC5.c1; have XC52 := XC5.c2; have XC53 := XC5.c3; have XD5 : At w5 w4.heap.size 17 1 2 (z % 256) := (by first | exact (At.new _ 17 1 2 (z % 256) _).on hb5 | exact ((At.new _ 17 1 2 (z % 256) _).one _).on hb5); have XD5l := XD5.lt; have XD50 := XD5.c0; have XD51 := XD5.c1; have XD52 := XD5.c2; have XD53 := XD5.c3; clear hb5)
      go_wp2_with (go_at_call 20; refine (alive_any _ (by first | exact hE5 | exact hE5.one _ | exact (hE5.one _).one _)).mono ?_; rintro e w6 ⟨rfl, hb6⟩; have hE6 : Env3 w6 := (by first | exact hE5.on hb6 | exact (hE5.one _).on hb6 | exact ((hE5.one _).one _).on hb6); have hB6 : Below w.heap.size w w6 := (by first | exact kept1 hB5 hb6 | exact kept2 hB5 hb6 | exact kept2 (kept2 hB5 (Below.refl _ _)) hb6); have XA6 : At w6 w1.heap.size 1 3 (z / 256) (z % 256) := (by first | exact XA5.on hb6 | exact (XA5.one _).on hb6 | exact ((XA5.one _).one _).on hb6); have XA6l := XA6.lt; have XA60 := XA6.c0; have XA61 := XA6.c1; have XA62 := XA6.c2; have XA63 := XA6.c3; have XB6 : At w6 w2.heap.size 19 (z / 256) (z % 256) 0 := (by first | exact XB5.on hb6 | exact (XB5.one _).on hb6 | exact ((XB5.one _).one _).on hb6); have XB6l := XB6.lt; have XB60 := XB6.c0; have XB61 := XB6.c1; have XB62 := XB6.c2; have XB63 := XB6.c3; have XC6 : At w6 w3.heap.size 14 1 2 (z % 256) := (by first | exact XC5.on hb6 | exact (XC5.one _).on hb6 | exact ((XC5.one _).one _).on hb6); have XC6l := XC6.lt; have XC60 := XC6.c0; have XC61 := XC6.c1; have XC62 := XC6.c2; have XC63 := XC6.c3; have XD6 : At w6 w4.heap.size 17 1 2 (z % 256) := (by first | exact XD5.on hb6 | exact (XD5.one _).on hb6 | exact ((XD5.one _).one _).on hb6); have XD6l := XD6.lt; have XD60 := XD6.c0; have XD61 := XD6.c1; have XD62 := XD6.c2; have XD63 := XD6.c3; have XF6 : At w6 w5.heap.size 17 1 2 (-z % 256) := (by first | exact (At.new _ 17 1 2 (-z % 256) _).on hb6 | exact ((At.new _ 17 1 2 (-z % 256) _).one _).on hb6); have XF6l := XF6.lt; have XF60 := XF6.c0; have XF61 := XF6.c1; have XF62 := XF6.c2; have XF63 := XF6.c3; clear hb6)
      go_ret
      exact ⟨by first | rfl | (simp; done) | (simp; omega), hB6⟩
set_option maxHeartbeats 4000000 in
theorem num_b (n : Nat) (hr : n = 128) (w : World) (hE : Env3 w) :
    Calls Tryd.prog 8 #[.int .u32 n] w fun e w' => e = .returned (.bool true) ∧ Below w.heap.size w w' := by
  have hn : n ≤ 4294967295 := by omega
  have he24 := eq_instr
  have hB : Below w.heap.size w w := Below.refl _ _
  have hdl := dig_len n hn
  have pA : prs (splitP ((⟨#[115, 101, 116, 32, 114, 51, 32]⟩ : ByteArray) ++ mk (Lib.decDigits n))) = some (1, [3, ((n : Int) / 256), ((n : Int) % 256)]) := by
    rw [cutA _ (no_blank_dig n), res4 n hn, if_pos (by omega)]; rfl
  have zA : ((⟨#[115, 101, 116, 32, 114, 51, 32]⟩ : ByteArray) ++ mk (Lib.decDigits n)).size ≤ 1048576 := by rw [ByteArray.size_append]; have q : (⟨#[115, 101, 116, 32, 114, 51, 32]⟩ : ByteArray).size ≤ 100 := (by decide); omega
  have cA := ParseSome _ zA _ _ _ _ pA
  have aA := add_str (⟨#[115, 101, 116, 32, 114, 51, 32]⟩ : ByteArray) (mk (Lib.decDigits n)) (by have q : (⟨#[115, 101, 116, 32, 114, 51, 32]⟩ : ByteArray).size ≤ 100 := (by decide); omega)
  clear pA zA
  have pB : prs (splitP ((⟨#[103, 111, 32]⟩ : ByteArray) ++ mk (Lib.decDigits n))) = some (19, [((n : Int) / 256), ((n : Int) % 256), 0]) := by
    rw [cutB _ (no_blank_dig n), res4 n hn, if_pos (by omega)]; rfl
  have zB : ((⟨#[103, 111, 32]⟩ : ByteArray) ++ mk (Lib.decDigits n)).size ≤ 1048576 := by rw [ByteArray.size_append]; have q : (⟨#[103, 111, 32]⟩ : ByteArray).size ≤ 100 := (by decide); omega
  have cB := ParseSome _ zB _ _ _ _ pB
  have aB := add_str (⟨#[103, 111, 32]⟩ : ByteArray) (mk (Lib.decDigits n)) (by have q : (⟨#[103, 111, 32]⟩ : ByteArray).size ≤ 100 := (by decide); omega)
  clear pB zB
  have pC : prs (splitP ((⟨#[112, 117, 116, 32, 114, 49, 32, 114, 50, 32]⟩ : ByteArray) ++ mk (Lib.decDigits n))) = some (14, [1, 2, ((n : Int) % 256)]) := by
    rw [cutC _ (no_blank_dig n), res2 n hn, if_pos (by omega)]; rfl
  have zC : ((⟨#[112, 117, 116, 32, 114, 49, 32, 114, 50, 32]⟩ : ByteArray) ++ mk (Lib.decDigits n)).size ≤ 1048576 := by rw [ByteArray.size_append]; have q : (⟨#[112, 117, 116, 32, 114, 49, 32, 114, 50, 32]⟩ : ByteArray).size ≤ 100 := (by decide); omega
  have cC := ParseSome _ zC _ _ _ _ pC
  have aC := add_str (⟨#[112, 117, 116, 32, 114, 49, 32, 114, 50, 32]⟩ : ByteArray) (mk (Lib.decDigits n)) (by have q : (⟨#[112, 117, 116, 32, 114, 49, 32, 114, 50, 32]⟩ : ByteArray).size ≤ 100 := (by decide); omega)
  clear pC zC
  have pD : prs (splitP ((⟨#[108, 101, 115, 115, 32, 114, 49, 32, 114, 50, 32]⟩ : ByteArray) ++ mk (Lib.decDigits n))) = none := by
    rw [cutD _ (no_blank_dig n), res3 n hn, if_neg (by omega)]; rfl
  have zD : ((⟨#[108, 101, 115, 115, 32, 114, 49, 32, 114, 50, 32]⟩ : ByteArray) ++ mk (Lib.decDigits n)).size ≤ 1048576 := by rw [ByteArray.size_append]; have q : (⟨#[108, 101, 115, 115, 32, 114, 49, 32, 114, 50, 32]⟩ : ByteArray).size ≤ 100 := (by decide); omega
  have cD := ParseNone _ zD pD
  have aD := add_str (⟨#[108, 101, 115, 115, 32, 114, 49, 32, 114, 50, 32]⟩ : ByteArray) (mk (Lib.decDigits n)) (by have q : (⟨#[108, 101, 115, 115, 32, 114, 49, 32, 114, 50, 32]⟩ : ByteArray).size ≤ 100 := (by decide); omega)
  clear pD zD
  have pF : prs (splitP ((⟨#[108, 101, 115, 115, 32, 114, 49, 32, 114, 50, 32, 45]⟩ : ByteArray) ++ mk (Lib.decDigits n))) = some (17, [1, 2, (-(n : Int) % 256)]) := by
    rw [cutF _ (no_blank_dig n), resm n hn, if_pos (by omega)]; rfl
  have zF : ((⟨#[108, 101, 115, 115, 32, 114, 49, 32, 114, 50, 32, 45]⟩ : ByteArray) ++ mk (Lib.decDigits n)).size ≤ 1048576 := by rw [ByteArray.size_append]; have q : (⟨#[108, 101, 115, 115, 32, 114, 49, 32, 114, 50, 32, 45]⟩ : ByteArray).size ≤ 100 := (by decide); omega
  have cF := ParseSome _ zF _ _ _ _ pF
  have aF := add_str (⟨#[108, 101, 115, 115, 32, 114, 49, 32, 114, 50, 32, 45]⟩ : ByteArray) (mk (Lib.decDigits n)) (by have q : (⟨#[108, 101, 115, 115, 32, 114, 49, 32, 114, 50, 32, 45]⟩ : ByteArray).size ≤ 100 := (by decide); omega)
  clear pF zF
  generalize (⟨#[115, 101, 116, 32, 114, 51, 32]⟩ : ByteArray) ++ mk (Lib.decDigits n) = sA at *
  generalize (⟨#[103, 111, 32]⟩ : ByteArray) ++ mk (Lib.decDigits n) = sB at *
  generalize (⟨#[112, 117, 116, 32, 114, 49, 32, 114, 50, 32]⟩ : ByteArray) ++ mk (Lib.decDigits n) = sC at *
  generalize (⟨#[108, 101, 115, 115, 32, 114, 49, 32, 114, 50, 32]⟩ : ByteArray) ++ mk (Lib.decDigits n) = sD at *
  generalize (⟨#[108, 101, 115, 115, 32, 114, 49, 32, 114, 50, 32, 45]⟩ : ByteArray) ++ mk (Lib.decDigits n) = sF at *
  obtain ⟨D, hD⟩ : ∃ D, mk (Lib.decDigits n) = D := ⟨_, rfl⟩
  rw [hD] at aA aB aC aD aF
  have HD : Hid (mk (Lib.decDigits n) = D) := hD
  clear hD hdl
  have HR : Hid (n = 128) := hr
  clear hr
  go_enter Tryd.func8, Tryd.ntmps8
  go_wp2
  go_loopg [3, 4] (n + 1) (fun g s3 s4 wx => ∃ (m : Nat) (d : List UInt8), w = wx ∧ s3 = .string (mk d) ∧ s4 = .int .u32 m ∧ m ≤ 4294967295 ∧ d.length ≤ 21 ∧ Hid (Dig n m d g))
  case atStart => exact ⟨n, [], rfl, rfl, rfl, hn, by decide, Or.inl ⟨rfl, rfl, rfl⟩⟩
  case round =>
    obtain ⟨m, d, rfl, rfl, rfl, hm, hdl, HG⟩ := hrel
    by_cases hgo : 0 < m ∨ d = []
    · have hst := HG.out.step hgo
      have hdl2 : (UInt8.ofNat (48 + m % 10) :: d).length ≤ 21 := by
        rcases hst.1.short hn with h | h | h
        · exact h.1
        · exact h.1
        · exact h
      have hcat := add_str (mk [UInt8.ofNat (48 + m % 10)]) (mk d) (by rw [mk_size, mk_size]; simp at *; omega)
      rw [mk_append, List.singleton_append] at hcat
      have hsl := slice_dig (m % 10) (by omega)
      rw [show ((m % 10 : Nat) : Int) = (m : Int) % 10 by omega] at hsl
      have HS : Hid _ := hst
      clear hst HG
      have H2 : Hid _ := hdl2
      clear hdl2
      by_cases hm0 : 0 < m
      · generalize mk [UInt8.ofNat (48 + m % 10)] = dg at *
        generalize UInt8.ofNat (48 + m % 10) = ch at *
        have hgt : 0 < (m : Int) := by omega
        go_wp2
        go_roundg (m / 10)
        case measure => exact HS.out.2
        case rel => exact ⟨m / 10, ch :: d, rfl, rfl, by first | rfl | go_num | (simp; done), by omega, H2.out, HS.out.1⟩
      · obtain rfl : d = [] := by rcases hgo with h | h; exact absurd h hm0; exact h
        obtain rfl : m = 0 := by omega
        clear hcat hsl
        have hemp : ((mk []).toList == ([] : List UInt8)) = true := by rw [Lib.toList_data]; rfl
        have hemp2 : ((mk []).toList == (⟨#[]⟩ : ByteArray).toList) = true := by rw [Lib.toList_data, Lib.toList_data]; rfl
        go_wp2
        go_roundg 0
        case measure => exact HS.out.2
        case rel => exact ⟨0, [48], rfl, by first | rfl | decide, by first | rfl | go_num | (simp; done), by omega, by decide, HS.out.1⟩
    · have hm0 : ¬ 0 < m := fun h => hgo (Or.inl h)
      have hd0 : ¬ d = [] := fun h => hgo (Or.inr h)
      have hde := HG.out.done hm0 hd0
      have hdD : mk d = D := by rw [hde]; exact HD.out
      have hemp : (D.toList == ([] : List UInt8)) = false := by rw [← hdD, Lib.toList_data, mk_data]; simpa using hd0
      have hemp2 : (D.toList == (⟨#[]⟩ : ByteArray).toList) = false := by rw [← hdD, Lib.toList_data, Lib.toList_data, mk_data]; simpa using hd0
      obtain rfl : m = 0 := by omega
      rw [hdD]
      clear hdD hde hd0 hm0 hgo HG hdl hm
      have hr := HR.out
      have f1 : (n : Int) < 65536 := by omega
      have f2 : (n : Int) < 256 := by omega
      have f3 : ¬ (n : Int) < 128 := by omega
      have f4 : 1 ≤ (n : Int) := by omega
      have f5 : (n : Int) ≤ 128 := by omega
      have f6 : 0 ≤ (n : Int) ∧ (n : Int) ≤ 4294967295 := by omega
      have HQ : Hid ((n : Int) / 256 % 256 = (n : Int) / 256 ∨ 65536 ≤ (n : Int)) := by show _ ∨ _; omega
      clear hr hn
      generalize (n : Int) = z at *
      go_wp2_with (go_at_call_of 18 (Value.string sA); refine (cA _ (by first | exact hE | exact hE.one _ | exact (hE.one _).one _)).mono ?_; rintro e w1 ⟨rfl, hb1⟩; have hE1 : Env3 w1 := (by first | exact hE.on hb1 | exact (hE.one _).on hb1 | exact ((hE.one _).one _).on hb1); have hB1 : Below w.heap.size w w1 := (by first | exact kept1 hB hb1 | exact kept2 hB hb1 | exact kept2 (kept2 hB (Below.refl _ _)) hb1); clear hb1)
      go_wp2_with (go_at_call_of 18 (Value.string sB); refine (cB _ (by first | exact hE1 | exact hE1.one _ | exact (hE1.one _).one _)).mono ?_; rintro e w2 ⟨rfl, hb2⟩; have hE2 : Env3 w2 := (by first | exact hE1.on hb2 | exact (hE1.one _).on hb2 | exact ((hE1.one _).one _).on hb2); have hB2 : Below w.heap.size w w2 := (by first | exact kept1 hB1 hb2 | exact kept2 hB1 hb2 | exact kept2 (kept2 hB1 (Below.refl _ _)) hb2); have XA2 : At w2 w1.heap.size 1 3 (z / 256) (z % 256) := (by first | exact (At.new _ 1 3 (z / 256) (z % 256) _).on hb2 | exact ((At.new _ 1 3 (z / 256) (z % 256) _).one _).on hb2); have XA2l := XA2.lt; have XA20 := XA2.c0; have XA21 := XA2.c1; have XA22 := XA2.c2; have XA23 := XA2.c3; clear hb2)
      go_wp2_with (go_at_call_of 18 (Value.string sC); refine (cC _ (by first | exact hE2 | exact hE2.one _ | exact (hE2.one _).one _)).mono ?_; rintro e w3 ⟨rfl, hb3⟩; have hE3 : Env3 w3 := (by first | exact hE2.on hb3 | exact (hE2.one _).on hb3 | exact ((hE2.one _).one _).on hb3); have hB3 : Below w.heap.size w w3 := (by first | exact kept1 hB2 hb3 | exact kept2 hB2 hb3 | exact kept2 (kept2 hB2 (Below.refl _ _)) hb3); have XA3 : At w3 w1.heap.size 1 3 (z / 256) (z % 256) := (by first | exact XA2.on hb3 | exact (XA2.one _).on hb3 | exact ((XA2.one _).one _).on hb3); have XA3l := XA3.lt; have XA30 := XA3.c0; have XA31 := XA3.c1; have XA32 := XA3.c2; have XA33 := XA3.c3; have XB3 : At w3 w2.heap.size 19 (z / 256) (z % 256) 0 := (by first | exact (At.new _ 19 (z / 256) (z % 256) 0 _).on hb3 | exact ((At.new _ 19 (z / 256) (z % 256) 0 _).one _).on hb3); have XB3l := XB3.lt; have XB30 := XB3.c0; have XB31 := XB3.c1; have XB32 := XB3.c2; have XB33 := XB3.c3; clear hb3)
      go_wp2_with (go_at_call_of 18 (Value.string sD); refine (cD _ (by first | exact hE3 | exact hE3.one _ | exact (hE3.one _).one _)).mono ?_; rintro e w4 ⟨rfl, hb4⟩; have hE4 : Env3 w4 := (by first | exact hE3.on hb4 | exact (hE3.one _).on hb4 | exact ((hE3.one _).one _).on hb4); have hB4 : Below w.heap.size w w4 := (by first | exact kept1 hB3 hb4 | exact kept2 hB3 hb4 | exact kept2 (kept2 hB3 (Below.refl _ _)) hb4); have XA4 : At w4 w1.heap.size 1 3 (z / 256) (z % 256) := (by first | exact XA3.on hb4 | exact (XA3.one _).on hb4 | exact ((XA3.one _).one _).on hb4); have XA4l := XA4.lt; have XA40 := XA4.c0; have XA41 := XA4.c1; have XA42 := XA4.c2; have XA43 := XA4.c3; have XB4 : At w4 w2.heap.size 19 (z / 256) (z % 256) 0 := (by first | exact XB3.on hb4 | exact (XB3.one _).on hb4 | exact ((XB3.one _).one _).on hb4); have XB4l := XB4.lt; have XB40 := XB4.c0; have XB41 := XB4.c1; have XB42 := XB4.c2; have XB43 := XB4.c3; have XC4 : At w4 w3.heap.size 14 1 2 (z % 256) := (by first | exact (At.new _ 14 1 2 (z % 256) _).on hb4 | exact ((At.new _ 14 1 2 (z % 256) _).one _).on hb4); have XC4l := XC4.lt; have XC40 := XC4.c0; have XC41 := XC4.c1; have XC42 := XC4.c2; have XC43 := XC4.c3; clear hb4)
      go_wp2_with (go_at_call_of 18 (Value.string sF); refine (cF _ (by first | exact hE4 | exact hE4.one _ | exact (hE4.one _).one _)).mono ?_; rintro e w5 ⟨rfl, hb5⟩; have hE5 : Env3 w5 := (by first | exact hE4.on hb5 | exact (hE4.one _).on hb5 | exact ((hE4.one _).one _).on hb5); have hB5 : Below w.heap.size w w5 := (by first | exact kept1 hB4 hb5 | exact kept2 hB4 hb5 | exact kept2 (kept2 hB4 (Below.refl _ _)) hb5); have XA5 : At w5 w1.heap.size 1 3 (z / 256) (z % 256) := (by first | exact XA4.on hb5 | exact (XA4.one _).on hb5 | exact ((XA4.one _).one _).on hb5); have XA5l := XA5.lt; have XA50 := XA5.c0; have XA51 := XA5.c1; have XA52 := XA5.c2; have XA53 := XA5.c3; have XB5 : At w5 w2.heap.size 19 (z / 256) (z % 256) 0 := (by first | exact XB4.on hb5 | exact (XB4.one _).on hb5 | exact ((XB4.one _).one _).on hb5); have XB5l := XB5.lt; have XB50 := XB5.c0; have XB51 := XB5.c1; have XB52 := XB5.c2; have XB53 := XB5.c3; have XC5 : At w5 w3.heap.size 14 1 2 (z % 256) := (by first | exact XC4.on hb5 | exact (XC4.one _).on hb5 | exact ((XC4.one _).one _).on hb5); have XC5l := XC5.lt; have XC50 := XC5.c0; have XC51 := XC5.c1; have XC52 := XC5.c2; have XC53 := XC5.c3; have XD5 : At w5 w4.heap.size 0 0 0 0 := (by first | exact (At.new _ 0 0 0 0 _).on hb5 | exact ((At.new _ 0 0 0 0 _).one _).on hb5); have XD5l := XD5.lt; have XD50 := XD5.c0; have XD51 := XD5.c1; have XD52 := XD5.c2; have XD53 := XD5.c3; clear hb5)
      go_wp2_with (go_at_call 20; refine (alive_any _ (by first | exact hE5 | exact hE5.one _ | exact (hE5.one _).one _)).mono ?_; rintro e w6 ⟨rfl, hb6⟩; have hE6 : Env3 w6 := (by first | exact hE5.on hb6 | exact (hE5.one _).on hb6 | exact ((hE5.one _).one _).on hb6); have hB6 : Below w.heap.size w w6 := (by first | exact kept1 hB5 hb6 | exact kept2 hB5 hb6 | exact kept2 (kept2 hB5 (Below.refl _ _)) hb6); have XA6 : At w6 w1.heap.size 1 3 (z / 256) (z % 256) := (by first | exact XA5.on hb6 | exact (XA5.one _).on hb6 | exact ((XA5.one _).one _).on hb6); have XA6l := XA6.lt; have XA60 := XA6.c0; have XA61 := XA6.c1; have XA62 := XA6.c2; have XA63 := XA6.c3; have XB6 : At w6 w2.heap.size 19 (z / 256) (z % 256) 0 := (by first | exact XB5.on hb6 | exact (XB5.one _).on hb6 | exact ((XB5.one _).one _).on hb6); have XB6l := XB6.lt; have XB60 := XB6.c0; have XB61 := XB6.c1; have XB62 := XB6.c2; have XB63 := XB6.c3; have XC6 : At w6 w3.heap.size 14 1 2 (z % 256) := (by first | exact XC5.on hb6 | exact (XC5.one _).on hb6 | exact ((XC5.one _).one _).on hb6); have XC6l := XC6.lt; have XC60 := XC6.c0; have XC61 := XC6.c1; have XC62 := XC6.c2; have XC63 := XC6.c3; have XD6 : At w6 w4.heap.size 0 0 0 0 := (by first | exact XD5.on hb6 | exact (XD5.one _).on hb6 | exact ((XD5.one _).one _).on hb6); have XD6l := XD6.lt; have XD60 := XD6.c0; have XD61 := XD6.c1; have XD62 := XD6.c2; have XD63 := XD6.c3; have XF6 : At w6 w5.heap.size 17 1 2 (-z % 256) := (by first | exact (At.new _ 17 1 2 (-z % 256) _).on hb6 | exact ((At.new _ 17 1 2 (-z % 256) _).one _).on hb6); have XF6l := XF6.lt; have XF60 := XF6.c0; have XF61 := XF6.c1; have XF62 := XF6.c2; have XF63 := XF6.c3; clear hb6)
      go_ret
      exact ⟨by first | rfl | (simp; done) | (simp; omega), hB6⟩
set_option maxHeartbeats 4000000 in
theorem num_c (n : Nat) (hr : 129 ≤ n ∧ n ≤ 255) (w : World) (hE : Env3 w) :
    Calls Tryd.prog 8 #[.int .u32 n] w fun e w' => e = .returned (.bool true) ∧ Below w.heap.size w w' := by
  have hn : n ≤ 4294967295 := by omega
  have he24 := eq_instr
  have hB : Below w.heap.size w w := Below.refl _ _
  have hdl := dig_len n hn
  have pA : prs (splitP ((⟨#[115, 101, 116, 32, 114, 51, 32]⟩ : ByteArray) ++ mk (Lib.decDigits n))) = some (1, [3, ((n : Int) / 256), ((n : Int) % 256)]) := by
    rw [cutA _ (no_blank_dig n), res4 n hn, if_pos (by omega)]; rfl
  have zA : ((⟨#[115, 101, 116, 32, 114, 51, 32]⟩ : ByteArray) ++ mk (Lib.decDigits n)).size ≤ 1048576 := by rw [ByteArray.size_append]; have q : (⟨#[115, 101, 116, 32, 114, 51, 32]⟩ : ByteArray).size ≤ 100 := (by decide); omega
  have cA := ParseSome _ zA _ _ _ _ pA
  have aA := add_str (⟨#[115, 101, 116, 32, 114, 51, 32]⟩ : ByteArray) (mk (Lib.decDigits n)) (by have q : (⟨#[115, 101, 116, 32, 114, 51, 32]⟩ : ByteArray).size ≤ 100 := (by decide); omega)
  clear pA zA
  have pB : prs (splitP ((⟨#[103, 111, 32]⟩ : ByteArray) ++ mk (Lib.decDigits n))) = some (19, [((n : Int) / 256), ((n : Int) % 256), 0]) := by
    rw [cutB _ (no_blank_dig n), res4 n hn, if_pos (by omega)]; rfl
  have zB : ((⟨#[103, 111, 32]⟩ : ByteArray) ++ mk (Lib.decDigits n)).size ≤ 1048576 := by rw [ByteArray.size_append]; have q : (⟨#[103, 111, 32]⟩ : ByteArray).size ≤ 100 := (by decide); omega
  have cB := ParseSome _ zB _ _ _ _ pB
  have aB := add_str (⟨#[103, 111, 32]⟩ : ByteArray) (mk (Lib.decDigits n)) (by have q : (⟨#[103, 111, 32]⟩ : ByteArray).size ≤ 100 := (by decide); omega)
  clear pB zB
  have pC : prs (splitP ((⟨#[112, 117, 116, 32, 114, 49, 32, 114, 50, 32]⟩ : ByteArray) ++ mk (Lib.decDigits n))) = some (14, [1, 2, ((n : Int) % 256)]) := by
    rw [cutC _ (no_blank_dig n), res2 n hn, if_pos (by omega)]; rfl
  have zC : ((⟨#[112, 117, 116, 32, 114, 49, 32, 114, 50, 32]⟩ : ByteArray) ++ mk (Lib.decDigits n)).size ≤ 1048576 := by rw [ByteArray.size_append]; have q : (⟨#[112, 117, 116, 32, 114, 49, 32, 114, 50, 32]⟩ : ByteArray).size ≤ 100 := (by decide); omega
  have cC := ParseSome _ zC _ _ _ _ pC
  have aC := add_str (⟨#[112, 117, 116, 32, 114, 49, 32, 114, 50, 32]⟩ : ByteArray) (mk (Lib.decDigits n)) (by have q : (⟨#[112, 117, 116, 32, 114, 49, 32, 114, 50, 32]⟩ : ByteArray).size ≤ 100 := (by decide); omega)
  clear pC zC
  have pD : prs (splitP ((⟨#[108, 101, 115, 115, 32, 114, 49, 32, 114, 50, 32]⟩ : ByteArray) ++ mk (Lib.decDigits n))) = none := by
    rw [cutD _ (no_blank_dig n), res3 n hn, if_neg (by omega)]; rfl
  have zD : ((⟨#[108, 101, 115, 115, 32, 114, 49, 32, 114, 50, 32]⟩ : ByteArray) ++ mk (Lib.decDigits n)).size ≤ 1048576 := by rw [ByteArray.size_append]; have q : (⟨#[108, 101, 115, 115, 32, 114, 49, 32, 114, 50, 32]⟩ : ByteArray).size ≤ 100 := (by decide); omega
  have cD := ParseNone _ zD pD
  have aD := add_str (⟨#[108, 101, 115, 115, 32, 114, 49, 32, 114, 50, 32]⟩ : ByteArray) (mk (Lib.decDigits n)) (by have q : (⟨#[108, 101, 115, 115, 32, 114, 49, 32, 114, 50, 32]⟩ : ByteArray).size ≤ 100 := (by decide); omega)
  clear pD zD
  have pF : prs (splitP ((⟨#[108, 101, 115, 115, 32, 114, 49, 32, 114, 50, 32, 45]⟩ : ByteArray) ++ mk (Lib.decDigits n))) = none := by
    rw [cutF _ (no_blank_dig n), resm n hn, if_neg (by omega)]; rfl
  have zF : ((⟨#[108, 101, 115, 115, 32, 114, 49, 32, 114, 50, 32, 45]⟩ : ByteArray) ++ mk (Lib.decDigits n)).size ≤ 1048576 := by rw [ByteArray.size_append]; have q : (⟨#[108, 101, 115, 115, 32, 114, 49, 32, 114, 50, 32, 45]⟩ : ByteArray).size ≤ 100 := (by decide); omega
  have cF := ParseNone _ zF pF
  have aF := add_str (⟨#[108, 101, 115, 115, 32, 114, 49, 32, 114, 50, 32, 45]⟩ : ByteArray) (mk (Lib.decDigits n)) (by have q : (⟨#[108, 101, 115, 115, 32, 114, 49, 32, 114, 50, 32, 45]⟩ : ByteArray).size ≤ 100 := (by decide); omega)
  clear pF zF
  generalize (⟨#[115, 101, 116, 32, 114, 51, 32]⟩ : ByteArray) ++ mk (Lib.decDigits n) = sA at *
  generalize (⟨#[103, 111, 32]⟩ : ByteArray) ++ mk (Lib.decDigits n) = sB at *
  generalize (⟨#[112, 117, 116, 32, 114, 49, 32, 114, 50, 32]⟩ : ByteArray) ++ mk (Lib.decDigits n) = sC at *
  generalize (⟨#[108, 101, 115, 115, 32, 114, 49, 32, 114, 50, 32]⟩ : ByteArray) ++ mk (Lib.decDigits n) = sD at *
  generalize (⟨#[108, 101, 115, 115, 32, 114, 49, 32, 114, 50, 32, 45]⟩ : ByteArray) ++ mk (Lib.decDigits n) = sF at *
  obtain ⟨D, hD⟩ : ∃ D, mk (Lib.decDigits n) = D := ⟨_, rfl⟩
  rw [hD] at aA aB aC aD aF
  have HD : Hid (mk (Lib.decDigits n) = D) := hD
  clear hD hdl
  have HR : Hid (129 ≤ n ∧ n ≤ 255) := hr
  clear hr
  go_enter Tryd.func8, Tryd.ntmps8
  go_wp2
  go_loopg [3, 4] (n + 1) (fun g s3 s4 wx => ∃ (m : Nat) (d : List UInt8), w = wx ∧ s3 = .string (mk d) ∧ s4 = .int .u32 m ∧ m ≤ 4294967295 ∧ d.length ≤ 21 ∧ Hid (Dig n m d g))
  case atStart => exact ⟨n, [], rfl, rfl, rfl, hn, by decide, Or.inl ⟨rfl, rfl, rfl⟩⟩
  case round =>
    obtain ⟨m, d, rfl, rfl, rfl, hm, hdl, HG⟩ := hrel
    by_cases hgo : 0 < m ∨ d = []
    · have hst := HG.out.step hgo
      have hdl2 : (UInt8.ofNat (48 + m % 10) :: d).length ≤ 21 := by
        rcases hst.1.short hn with h | h | h
        · exact h.1
        · exact h.1
        · exact h
      have hcat := add_str (mk [UInt8.ofNat (48 + m % 10)]) (mk d) (by rw [mk_size, mk_size]; simp at *; omega)
      rw [mk_append, List.singleton_append] at hcat
      have hsl := slice_dig (m % 10) (by omega)
      rw [show ((m % 10 : Nat) : Int) = (m : Int) % 10 by omega] at hsl
      have HS : Hid _ := hst
      clear hst HG
      have H2 : Hid _ := hdl2
      clear hdl2
      by_cases hm0 : 0 < m
      · generalize mk [UInt8.ofNat (48 + m % 10)] = dg at *
        generalize UInt8.ofNat (48 + m % 10) = ch at *
        have hgt : 0 < (m : Int) := by omega
        go_wp2
        go_roundg (m / 10)
        case measure => exact HS.out.2
        case rel => exact ⟨m / 10, ch :: d, rfl, rfl, by first | rfl | go_num | (simp; done), by omega, H2.out, HS.out.1⟩
      · obtain rfl : d = [] := by rcases hgo with h | h; exact absurd h hm0; exact h
        obtain rfl : m = 0 := by omega
        clear hcat hsl
        have hemp : ((mk []).toList == ([] : List UInt8)) = true := by rw [Lib.toList_data]; rfl
        have hemp2 : ((mk []).toList == (⟨#[]⟩ : ByteArray).toList) = true := by rw [Lib.toList_data, Lib.toList_data]; rfl
        go_wp2
        go_roundg 0
        case measure => exact HS.out.2
        case rel => exact ⟨0, [48], rfl, by first | rfl | decide, by first | rfl | go_num | (simp; done), by omega, by decide, HS.out.1⟩
    · have hm0 : ¬ 0 < m := fun h => hgo (Or.inl h)
      have hd0 : ¬ d = [] := fun h => hgo (Or.inr h)
      have hde := HG.out.done hm0 hd0
      have hdD : mk d = D := by rw [hde]; exact HD.out
      have hemp : (D.toList == ([] : List UInt8)) = false := by rw [← hdD, Lib.toList_data, mk_data]; simpa using hd0
      have hemp2 : (D.toList == (⟨#[]⟩ : ByteArray).toList) = false := by rw [← hdD, Lib.toList_data, Lib.toList_data, mk_data]; simpa using hd0
      obtain rfl : m = 0 := by omega
      rw [hdD]
      clear hdD hde hd0 hm0 hgo HG hdl hm
      have hr := HR.out
      have f1 : (n : Int) < 65536 := by omega
      have f2 : (n : Int) < 256 := by omega
      have f3 : ¬ (n : Int) < 128 := by omega
      have f4 : 1 ≤ (n : Int) := by omega
      have f5 : ¬ (n : Int) ≤ 128 := by omega
      have f6 : 0 ≤ (n : Int) ∧ (n : Int) ≤ 4294967295 := by omega
      have HQ : Hid ((n : Int) / 256 % 256 = (n : Int) / 256 ∨ 65536 ≤ (n : Int)) := by show _ ∨ _; omega
      clear hr hn
      generalize (n : Int) = z at *
      go_wp2_with (go_at_call_of 18 (Value.string sA); refine (cA _ (by first | exact hE | exact hE.one _ | exact (hE.one _).one _)).mono ?_; rintro e w1 ⟨rfl, hb1⟩; have hE1 : Env3 w1 := (by first | exact hE.on hb1 | exact (hE.one _).on hb1 | exact ((hE.one _).one _).on hb1); have hB1 : Below w.heap.size w w1 := (by first | exact kept1 hB hb1 | exact kept2 hB hb1 | exact kept2 (kept2 hB (Below.refl _ _)) hb1); clear hb1)
      go_wp2_with (go_at_call_of 18 (Value.string sB); refine (cB _ (by first | exact hE1 | exact hE1.one _ | exact (hE1.one _).one _)).mono ?_; rintro e w2 ⟨rfl, hb2⟩; have hE2 : Env3 w2 := (by first | exact hE1.on hb2 | exact (hE1.one _).on hb2 | exact ((hE1.one _).one _).on hb2); have hB2 : Below w.heap.size w w2 := (by first | exact kept1 hB1 hb2 | exact kept2 hB1 hb2 | exact kept2 (kept2 hB1 (Below.refl _ _)) hb2); have XA2 : At w2 w1.heap.size 1 3 (z / 256) (z % 256) := (by first | exact (At.new _ 1 3 (z / 256) (z % 256) _).on hb2 | exact ((At.new _ 1 3 (z / 256) (z % 256) _).one _).on hb2); have XA2l := XA2.lt; have XA20 := XA2.c0; have XA21 := XA2.c1; have XA22 := XA2.c2; have XA23 := XA2.c3; clear hb2)
      go_wp2_with (go_at_call_of 18 (Value.string sC); refine (cC _ (by first | exact hE2 | exact hE2.one _ | exact (hE2.one _).one _)).mono ?_; rintro e w3 ⟨rfl, hb3⟩; have hE3 : Env3 w3 := (by first | exact hE2.on hb3 | exact (hE2.one _).on hb3 | exact ((hE2.one _).one _).on hb3); have hB3 : Below w.heap.size w w3 := (by first | exact kept1 hB2 hb3 | exact kept2 hB2 hb3 | exact kept2 (kept2 hB2 (Below.refl _ _)) hb3); have XA3 : At w3 w1.heap.size 1 3 (z / 256) (z % 256) := (by first | exact XA2.on hb3 | exact (XA2.one _).on hb3 | exact ((XA2.one _).one _).on hb3); have XA3l := XA3.lt; have XA30 := XA3.c0; have XA31 := XA3.c1; have XA32 := XA3.c2; have XA33 := XA3.c3; have XB3 : At w3 w2.heap.size 19 (z / 256) (z % 256) 0 := (by first | exact (At.new _ 19 (z / 256) (z % 256) 0 _).on hb3 | exact ((At.new _ 19 (z / 256) (z % 256) 0 _).one _).on hb3); have XB3l := XB3.lt; have XB30 := XB3.c0; have XB31 := XB3.c1; have XB32 := XB3.c2; have XB33 := XB3.c3; clear hb3)
      go_wp2_with (go_at_call_of 18 (Value.string sD); refine (cD _ (by first | exact hE3 | exact hE3.one _ | exact (hE3.one _).one _)).mono ?_; rintro e w4 ⟨rfl, hb4⟩; have hE4 : Env3 w4 := (by first | exact hE3.on hb4 | exact (hE3.one _).on hb4 | exact ((hE3.one _).one _).on hb4); have hB4 : Below w.heap.size w w4 := (by first | exact kept1 hB3 hb4 | exact kept2 hB3 hb4 | exact kept2 (kept2 hB3 (Below.refl _ _)) hb4); have XA4 : At w4 w1.heap.size 1 3 (z / 256) (z % 256) := (by first | exact XA3.on hb4 | exact (XA3.one _).on hb4 | exact ((XA3.one _).one _).on hb4); have XA4l := XA4.lt; have XA40 := XA4.c0; have XA41 := XA4.c1; have XA42 := XA4.c2; have XA43 := XA4.c3; have XB4 : At w4 w2.heap.size 19 (z / 256) (z % 256) 0 := (by first | exact XB3.on hb4 | exact (XB3.one _).on hb4 | exact ((XB3.one _).one _).on hb4); have XB4l := XB4.lt; have XB40 := XB4.c0; have XB41 := XB4.c1; have XB42 := XB4.c2; have XB43 := XB4.c3; have XC4 : At w4 w3.heap.size 14 1 2 (z % 256) := (by first | exact (At.new _ 14 1 2 (z % 256) _).on hb4 | exact ((At.new _ 14 1 2 (z % 256) _).one _).on hb4); have XC4l := XC4.lt; have XC40 := XC4.c0; have XC41 := XC4.c1; have XC42 := XC4.c2; have XC43 := XC4.c3; clear hb4)
      go_wp2_with (go_at_call_of 18 (Value.string sF); refine (cF _ (by first | exact hE4 | exact hE4.one _ | exact (hE4.one _).one _)).mono ?_; rintro e w5 ⟨rfl, hb5⟩; have hE5 : Env3 w5 := (by first | exact hE4.on hb5 | exact (hE4.one _).on hb5 | exact ((hE4.one _).one _).on hb5); have hB5 : Below w.heap.size w w5 := (by first | exact kept1 hB4 hb5 | exact kept2 hB4 hb5 | exact kept2 (kept2 hB4 (Below.refl _ _)) hb5); have XA5 : At w5 w1.heap.size 1 3 (z / 256) (z % 256) := (by first | exact XA4.on hb5 | exact (XA4.one _).on hb5 | exact ((XA4.one _).one _).on hb5); have XA5l := XA5.lt; have XA50 := XA5.c0; have XA51 := XA5.c1; have XA52 := XA5.c2; have XA53 := XA5.c3; have XB5 : At w5 w2.heap.size 19 (z / 256) (z % 256) 0 := (by first | exact XB4.on hb5 | exact (XB4.one _).on hb5 | exact ((XB4.one _).one _).on hb5); have XB5l := XB5.lt; have XB50 := XB5.c0; have XB51 := XB5.c1; have XB52 := XB5.c2; have XB53 := XB5.c3; have XC5 : At w5 w3.heap.size 14 1 2 (z % 256) := (by first | exact XC4.on hb5 | exact (XC4.one _).on hb5 | exact ((XC4.one _).one _).on hb5); have XC5l := XC5.lt; have XC50 := XC5.c0; have XC51 := XC5.c1; have XC52 := XC5.c2; have XC53 := XC5.c3; have XD5 : At w5 w4.heap.size 0 0 0 0 := (by first | exact (At.new _ 0 0 0 0 _).on hb5 | exact ((At.new _ 0 0 0 0 _).one _).on hb5); have XD5l := XD5.lt; have XD50 := XD5.c0; have XD51 := XD5.c1; have XD52 := XD5.c2; have XD53 := XD5.c3; clear hb5)
      go_wp2_with (go_at_call 20; refine (alive_any _ (by first | exact hE5 | exact hE5.one _ | exact (hE5.one _).one _)).mono ?_; rintro e w6 ⟨rfl, hb6⟩; have hE6 : Env3 w6 := (by first | exact hE5.on hb6 | exact (hE5.one _).on hb6 | exact ((hE5.one _).one _).on hb6); have hB6 : Below w.heap.size w w6 := (by first | exact kept1 hB5 hb6 | exact kept2 hB5 hb6 | exact kept2 (kept2 hB5 (Below.refl _ _)) hb6); have XA6 : At w6 w1.heap.size 1 3 (z / 256) (z % 256) := (by first | exact XA5.on hb6 | exact (XA5.one _).on hb6 | exact ((XA5.one _).one _).on hb6); have XA6l := XA6.lt; have XA60 := XA6.c0; have XA61 := XA6.c1; have XA62 := XA6.c2; have XA63 := XA6.c3; have XB6 : At w6 w2.heap.size 19 (z / 256) (z % 256) 0 := (by first | exact XB5.on hb6 | exact (XB5.one _).on hb6 | exact ((XB5.one _).one _).on hb6); have XB6l := XB6.lt; have XB60 := XB6.c0; have XB61 := XB6.c1; have XB62 := XB6.c2; have XB63 := XB6.c3; have XC6 : At w6 w3.heap.size 14 1 2 (z % 256) := (by first | exact XC5.on hb6 | exact (XC5.one _).on hb6 | exact ((XC5.one _).one _).on hb6); have XC6l := XC6.lt; have XC60 := XC6.c0; have XC61 := XC6.c1; have XC62 := XC6.c2; have XC63 := XC6.c3; have XD6 : At w6 w4.heap.size 0 0 0 0 := (by first | exact XD5.on hb6 | exact (XD5.one _).on hb6 | exact ((XD5.one _).one _).on hb6); have XD6l := XD6.lt; have XD60 := XD6.c0; have XD61 := XD6.c1; have XD62 := XD6.c2; have XD63 := XD6.c3; have XF6 : At w6 w5.heap.size 0 0 0 0 := (by first | exact (At.new _ 0 0 0 0 _).on hb6 | exact ((At.new _ 0 0 0 0 _).one _).on hb6); have XF6l := XF6.lt; have XF60 := XF6.c0; have XF61 := XF6.c1; have XF62 := XF6.c2; have XF63 := XF6.c3; clear hb6)
      go_ret
      exact ⟨by first | rfl | (simp; done) | (simp; omega), hB6⟩
set_option maxHeartbeats 4000000 in
theorem num_d (n : Nat) (hr : 256 ≤ n ∧ n ≤ 65535) (w : World) (hE : Env3 w) :
    Calls Tryd.prog 8 #[.int .u32 n] w fun e w' => e = .returned (.bool true) ∧ Below w.heap.size w w' := by
  have hn : n ≤ 4294967295 := by omega
  have he24 := eq_instr
  have hB : Below w.heap.size w w := Below.refl _ _
  have hdl := dig_len n hn
  have pA : prs (splitP ((⟨#[115, 101, 116, 32, 114, 51, 32]⟩ : ByteArray) ++ mk (Lib.decDigits n))) = some (1, [3, ((n : Int) / 256), ((n : Int) % 256)]) := by
    rw [cutA _ (no_blank_dig n), res4 n hn, if_pos (by omega)]; rfl
  have zA : ((⟨#[115, 101, 116, 32, 114, 51, 32]⟩ : ByteArray) ++ mk (Lib.decDigits n)).size ≤ 1048576 := by rw [ByteArray.size_append]; have q : (⟨#[115, 101, 116, 32, 114, 51, 32]⟩ : ByteArray).size ≤ 100 := (by decide); omega
  have cA := ParseSome _ zA _ _ _ _ pA
  have aA := add_str (⟨#[115, 101, 116, 32, 114, 51, 32]⟩ : ByteArray) (mk (Lib.decDigits n)) (by have q : (⟨#[115, 101, 116, 32, 114, 51, 32]⟩ : ByteArray).size ≤ 100 := (by decide); omega)
  clear pA zA
  have pB : prs (splitP ((⟨#[103, 111, 32]⟩ : ByteArray) ++ mk (Lib.decDigits n))) = some (19, [((n : Int) / 256), ((n : Int) % 256), 0]) := by
    rw [cutB _ (no_blank_dig n), res4 n hn, if_pos (by omega)]; rfl
  have zB : ((⟨#[103, 111, 32]⟩ : ByteArray) ++ mk (Lib.decDigits n)).size ≤ 1048576 := by rw [ByteArray.size_append]; have q : (⟨#[103, 111, 32]⟩ : ByteArray).size ≤ 100 := (by decide); omega
  have cB := ParseSome _ zB _ _ _ _ pB
  have aB := add_str (⟨#[103, 111, 32]⟩ : ByteArray) (mk (Lib.decDigits n)) (by have q : (⟨#[103, 111, 32]⟩ : ByteArray).size ≤ 100 := (by decide); omega)
  clear pB zB
  have pC : prs (splitP ((⟨#[112, 117, 116, 32, 114, 49, 32, 114, 50, 32]⟩ : ByteArray) ++ mk (Lib.decDigits n))) = none := by
    rw [cutC _ (no_blank_dig n), res2 n hn, if_neg (by omega)]; rfl
  have zC : ((⟨#[112, 117, 116, 32, 114, 49, 32, 114, 50, 32]⟩ : ByteArray) ++ mk (Lib.decDigits n)).size ≤ 1048576 := by rw [ByteArray.size_append]; have q : (⟨#[112, 117, 116, 32, 114, 49, 32, 114, 50, 32]⟩ : ByteArray).size ≤ 100 := (by decide); omega
  have cC := ParseNone _ zC pC
  have aC := add_str (⟨#[112, 117, 116, 32, 114, 49, 32, 114, 50, 32]⟩ : ByteArray) (mk (Lib.decDigits n)) (by have q : (⟨#[112, 117, 116, 32, 114, 49, 32, 114, 50, 32]⟩ : ByteArray).size ≤ 100 := (by decide); omega)
  clear pC zC
  have pD : prs (splitP ((⟨#[108, 101, 115, 115, 32, 114, 49, 32, 114, 50, 32]⟩ : ByteArray) ++ mk (Lib.decDigits n))) = none := by
    rw [cutD _ (no_blank_dig n), res3 n hn, if_neg (by omega)]; rfl
  have zD : ((⟨#[108, 101, 115, 115, 32, 114, 49, 32, 114, 50, 32]⟩ : ByteArray) ++ mk (Lib.decDigits n)).size ≤ 1048576 := by rw [ByteArray.size_append]; have q : (⟨#[108, 101, 115, 115, 32, 114, 49, 32, 114, 50, 32]⟩ : ByteArray).size ≤ 100 := (by decide); omega
  have cD := ParseNone _ zD pD
  have aD := add_str (⟨#[108, 101, 115, 115, 32, 114, 49, 32, 114, 50, 32]⟩ : ByteArray) (mk (Lib.decDigits n)) (by have q : (⟨#[108, 101, 115, 115, 32, 114, 49, 32, 114, 50, 32]⟩ : ByteArray).size ≤ 100 := (by decide); omega)
  clear pD zD
  have pF : prs (splitP ((⟨#[108, 101, 115, 115, 32, 114, 49, 32, 114, 50, 32, 45]⟩ : ByteArray) ++ mk (Lib.decDigits n))) = none := by
    rw [cutF _ (no_blank_dig n), resm n hn, if_neg (by omega)]; rfl
  have zF : ((⟨#[108, 101, 115, 115, 32, 114, 49, 32, 114, 50, 32, 45]⟩ : ByteArray) ++ mk (Lib.decDigits n)).size ≤ 1048576 := by rw [ByteArray.size_append]; have q : (⟨#[108, 101, 115, 115, 32, 114, 49, 32, 114, 50, 32, 45]⟩ : ByteArray).size ≤ 100 := (by decide); omega
  have cF := ParseNone _ zF pF
  have aF := add_str (⟨#[108, 101, 115, 115, 32, 114, 49, 32, 114, 50, 32, 45]⟩ : ByteArray) (mk (Lib.decDigits n)) (by have q : (⟨#[108, 101, 115, 115, 32, 114, 49, 32, 114, 50, 32, 45]⟩ : ByteArray).size ≤ 100 := (by decide); omega)
  clear pF zF
  generalize (⟨#[115, 101, 116, 32, 114, 51, 32]⟩ : ByteArray) ++ mk (Lib.decDigits n) = sA at *
  generalize (⟨#[103, 111, 32]⟩ : ByteArray) ++ mk (Lib.decDigits n) = sB at *
  generalize (⟨#[112, 117, 116, 32, 114, 49, 32, 114, 50, 32]⟩ : ByteArray) ++ mk (Lib.decDigits n) = sC at *
  generalize (⟨#[108, 101, 115, 115, 32, 114, 49, 32, 114, 50, 32]⟩ : ByteArray) ++ mk (Lib.decDigits n) = sD at *
  generalize (⟨#[108, 101, 115, 115, 32, 114, 49, 32, 114, 50, 32, 45]⟩ : ByteArray) ++ mk (Lib.decDigits n) = sF at *
  obtain ⟨D, hD⟩ : ∃ D, mk (Lib.decDigits n) = D := ⟨_, rfl⟩
  rw [hD] at aA aB aC aD aF
  have HD : Hid (mk (Lib.decDigits n) = D) := hD
  clear hD hdl
  have HR : Hid (256 ≤ n ∧ n ≤ 65535) := hr
  clear hr
  go_enter Tryd.func8, Tryd.ntmps8
  go_wp2
  go_loopg [3, 4] (n + 1) (fun g s3 s4 wx => ∃ (m : Nat) (d : List UInt8), w = wx ∧ s3 = .string (mk d) ∧ s4 = .int .u32 m ∧ m ≤ 4294967295 ∧ d.length ≤ 21 ∧ Hid (Dig n m d g))
  case atStart => exact ⟨n, [], rfl, rfl, rfl, hn, by decide, Or.inl ⟨rfl, rfl, rfl⟩⟩
  case round =>
    obtain ⟨m, d, rfl, rfl, rfl, hm, hdl, HG⟩ := hrel
    by_cases hgo : 0 < m ∨ d = []
    · have hst := HG.out.step hgo
      have hdl2 : (UInt8.ofNat (48 + m % 10) :: d).length ≤ 21 := by
        rcases hst.1.short hn with h | h | h
        · exact h.1
        · exact h.1
        · exact h
      have hcat := add_str (mk [UInt8.ofNat (48 + m % 10)]) (mk d) (by rw [mk_size, mk_size]; simp at *; omega)
      rw [mk_append, List.singleton_append] at hcat
      have hsl := slice_dig (m % 10) (by omega)
      rw [show ((m % 10 : Nat) : Int) = (m : Int) % 10 by omega] at hsl
      have HS : Hid _ := hst
      clear hst HG
      have H2 : Hid _ := hdl2
      clear hdl2
      by_cases hm0 : 0 < m
      · generalize mk [UInt8.ofNat (48 + m % 10)] = dg at *
        generalize UInt8.ofNat (48 + m % 10) = ch at *
        have hgt : 0 < (m : Int) := by omega
        go_wp2
        go_roundg (m / 10)
        case measure => exact HS.out.2
        case rel => exact ⟨m / 10, ch :: d, rfl, rfl, by first | rfl | go_num | (simp; done), by omega, H2.out, HS.out.1⟩
      · obtain rfl : d = [] := by rcases hgo with h | h; exact absurd h hm0; exact h
        obtain rfl : m = 0 := by omega
        clear hcat hsl
        have hemp : ((mk []).toList == ([] : List UInt8)) = true := by rw [Lib.toList_data]; rfl
        have hemp2 : ((mk []).toList == (⟨#[]⟩ : ByteArray).toList) = true := by rw [Lib.toList_data, Lib.toList_data]; rfl
        go_wp2
        go_roundg 0
        case measure => exact HS.out.2
        case rel => exact ⟨0, [48], rfl, by first | rfl | decide, by first | rfl | go_num | (simp; done), by omega, by decide, HS.out.1⟩
    · have hm0 : ¬ 0 < m := fun h => hgo (Or.inl h)
      have hd0 : ¬ d = [] := fun h => hgo (Or.inr h)
      have hde := HG.out.done hm0 hd0
      have hdD : mk d = D := by rw [hde]; exact HD.out
      have hemp : (D.toList == ([] : List UInt8)) = false := by rw [← hdD, Lib.toList_data, mk_data]; simpa using hd0
      have hemp2 : (D.toList == (⟨#[]⟩ : ByteArray).toList) = false := by rw [← hdD, Lib.toList_data, Lib.toList_data, mk_data]; simpa using hd0
      obtain rfl : m = 0 := by omega
      rw [hdD]
      clear hdD hde hd0 hm0 hgo HG hdl hm
      have hr := HR.out
      have f1 : (n : Int) < 65536 := by omega
      have f2 : ¬ (n : Int) < 256 := by omega
      have f3 : ¬ (n : Int) < 128 := by omega
      have f4 : 1 ≤ (n : Int) := by omega
      have f5 : ¬ (n : Int) ≤ 128 := by omega
      have f6 : 0 ≤ (n : Int) ∧ (n : Int) ≤ 4294967295 := by omega
      have HQ : Hid ((n : Int) / 256 % 256 = (n : Int) / 256 ∨ 65536 ≤ (n : Int)) := by show _ ∨ _; omega
      clear hr hn
      generalize (n : Int) = z at *
      go_wp2_with (go_at_call_of 18 (Value.string sA); refine (cA _ (by first | exact hE | exact hE.one _ | exact (hE.one _).one _)).mono ?_; rintro e w1 ⟨rfl, hb1⟩; have hE1 : Env3 w1 := (by first | exact hE.on hb1 | exact (hE.one _).on hb1 | exact ((hE.one _).one _).on hb1); have hB1 : Below w.heap.size w w1 := (by first | exact kept1 hB hb1 | exact kept2 hB hb1 | exact kept2 (kept2 hB (Below.refl _ _)) hb1); clear hb1)
      go_wp2_with (go_at_call_of 18 (Value.string sB); refine (cB _ (by first | exact hE1 | exact hE1.one _ | exact (hE1.one _).one _)).mono ?_; rintro e w2 ⟨rfl, hb2⟩; have hE2 : Env3 w2 := (by first | exact hE1.on hb2 | exact (hE1.one _).on hb2 | exact ((hE1.one _).one _).on hb2); have hB2 : Below w.heap.size w w2 := (by first | exact kept1 hB1 hb2 | exact kept2 hB1 hb2 | exact kept2 (kept2 hB1 (Below.refl _ _)) hb2); have XA2 : At w2 w1.heap.size 1 3 (z / 256) (z % 256) := (by first | exact (At.new _ 1 3 (z / 256) (z % 256) _).on hb2 | exact ((At.new _ 1 3 (z / 256) (z % 256) _).one _).on hb2); have XA2l := XA2.lt; have XA20 := XA2.c0; have XA21 := XA2.c1; have XA22 := XA2.c2; have XA23 := XA2.c3; clear hb2)
      go_wp2_with (go_at_call_of 18 (Value.string sC); refine (cC _ (by first | exact hE2 | exact hE2.one _ | exact (hE2.one _).one _)).mono ?_; rintro e w3 ⟨rfl, hb3⟩; have hE3 : Env3 w3 := (by first | exact hE2.on hb3 | exact (hE2.one _).on hb3 | exact ((hE2.one _).one _).on hb3); have hB3 : Below w.heap.size w w3 := (by first | exact kept1 hB2 hb3 | exact kept2 hB2 hb3 | exact kept2 (kept2 hB2 (Below.refl _ _)) hb3); have XA3 : At w3 w1.heap.size 1 3 (z / 256) (z % 256) := (by first | exact XA2.on hb3 | exact (XA2.one _).on hb3 | exact ((XA2.one _).one _).on hb3); have XA3l := XA3.lt; have XA30 := XA3.c0; have XA31 := XA3.c1; have XA32 := XA3.c2; have XA33 := XA3.c3; have XB3 : At w3 w2.heap.size 19 (z / 256) (z % 256) 0 := (by first | exact (At.new _ 19 (z / 256) (z % 256) 0 _).on hb3 | exact ((At.new _ 19 (z / 256) (z % 256) 0 _).one _).on hb3); have XB3l := XB3.lt; have XB30 := XB3.c0; have XB31 := XB3.c1; have XB32 := XB3.c2; have XB33 := XB3.c3; clear hb3)
      go_wp2_with (go_at_call_of 18 (Value.string sD); refine (cD _ (by first | exact hE3 | exact hE3.one _ | exact (hE3.one _).one _)).mono ?_; rintro e w4 ⟨rfl, hb4⟩; have hE4 : Env3 w4 := (by first | exact hE3.on hb4 | exact (hE3.one _).on hb4 | exact ((hE3.one _).one _).on hb4); have hB4 : Below w.heap.size w w4 := (by first | exact kept1 hB3 hb4 | exact kept2 hB3 hb4 | exact kept2 (kept2 hB3 (Below.refl _ _)) hb4); have XA4 : At w4 w1.heap.size 1 3 (z / 256) (z % 256) := (by first | exact XA3.on hb4 | exact (XA3.one _).on hb4 | exact ((XA3.one _).one _).on hb4); have XA4l := XA4.lt; have XA40 := XA4.c0; have XA41 := XA4.c1; have XA42 := XA4.c2; have XA43 := XA4.c3; have XB4 : At w4 w2.heap.size 19 (z / 256) (z % 256) 0 := (by first | exact XB3.on hb4 | exact (XB3.one _).on hb4 | exact ((XB3.one _).one _).on hb4); have XB4l := XB4.lt; have XB40 := XB4.c0; have XB41 := XB4.c1; have XB42 := XB4.c2; have XB43 := XB4.c3; have XC4 : At w4 w3.heap.size 0 0 0 0 := (by first | exact (At.new _ 0 0 0 0 _).on hb4 | exact ((At.new _ 0 0 0 0 _).one _).on hb4); have XC4l := XC4.lt; have XC40 := XC4.c0; have XC41 := XC4.c1; have XC42 := XC4.c2; have XC43 := XC4.c3; clear hb4)
      go_wp2_with (go_at_call_of 18 (Value.string sF); refine (cF _ (by first | exact hE4 | exact hE4.one _ | exact (hE4.one _).one _)).mono ?_; rintro e w5 ⟨rfl, hb5⟩; have hE5 : Env3 w5 := (by first | exact hE4.on hb5 | exact (hE4.one _).on hb5 | exact ((hE4.one _).one _).on hb5); have hB5 : Below w.heap.size w w5 := (by first | exact kept1 hB4 hb5 | exact kept2 hB4 hb5 | exact kept2 (kept2 hB4 (Below.refl _ _)) hb5); have XA5 : At w5 w1.heap.size 1 3 (z / 256) (z % 256) := (by first | exact XA4.on hb5 | exact (XA4.one _).on hb5 | exact ((XA4.one _).one _).on hb5); have XA5l := XA5.lt; have XA50 := XA5.c0; have XA51 := XA5.c1; have XA52 := XA5.c2; have XA53 := XA5.c3; have XB5 : At w5 w2.heap.size 19 (z / 256) (z % 256) 0 := (by first | exact XB4.on hb5 | exact (XB4.one _).on hb5 | exact ((XB4.one _).one _).on hb5); have XB5l := XB5.lt; have XB50 := XB5.c0; have XB51 := XB5.c1; have XB52 := XB5.c2; have XB53 := XB5.c3; have XC5 : At w5 w3.heap.size 0 0 0 0 := (by first | exact XC4.on hb5 | exact (XC4.one _).on hb5 | exact ((XC4.one _).one _).on hb5); have XC5l := XC5.lt; have XC50 := XC5.c0; have XC51 := XC5.c1; have XC52 := XC5.c2; have XC53 := XC5.c3; have XD5 : At w5 w4.heap.size 0 0 0 0 := (by first | exact (At.new _ 0 0 0 0 _).on hb5 | exact ((At.new _ 0 0 0 0 _).one _).on hb5); have XD5l := XD5.lt; have XD50 := XD5.c0; have XD51 := XD5.c1; have XD52 := XD5.c2; have XD53 := XD5.c3; clear hb5)
      go_wp2_with (go_at_call 20; refine (alive_any _ (by first | exact hE5 | exact hE5.one _ | exact (hE5.one _).one _)).mono ?_; rintro e w6 ⟨rfl, hb6⟩; have hE6 : Env3 w6 := (by first | exact hE5.on hb6 | exact (hE5.one _).on hb6 | exact ((hE5.one _).one _).on hb6); have hB6 : Below w.heap.size w w6 := (by first | exact kept1 hB5 hb6 | exact kept2 hB5 hb6 | exact kept2 (kept2 hB5 (Below.refl _ _)) hb6); have XA6 : At w6 w1.heap.size 1 3 (z / 256) (z % 256) := (by first | exact XA5.on hb6 | exact (XA5.one _).on hb6 | exact ((XA5.one _).one _).on hb6); have XA6l := XA6.lt; have XA60 := XA6.c0; have XA61 := XA6.c1; have XA62 := XA6.c2; have XA63 := XA6.c3; have XB6 : At w6 w2.heap.size 19 (z / 256) (z % 256) 0 := (by first | exact XB5.on hb6 | exact (XB5.one _).on hb6 | exact ((XB5.one _).one _).on hb6); have XB6l := XB6.lt; have XB60 := XB6.c0; have XB61 := XB6.c1; have XB62 := XB6.c2; have XB63 := XB6.c3; have XC6 : At w6 w3.heap.size 0 0 0 0 := (by first | exact XC5.on hb6 | exact (XC5.one _).on hb6 | exact ((XC5.one _).one _).on hb6); have XC6l := XC6.lt; have XC60 := XC6.c0; have XC61 := XC6.c1; have XC62 := XC6.c2; have XC63 := XC6.c3; have XD6 : At w6 w4.heap.size 0 0 0 0 := (by first | exact XD5.on hb6 | exact (XD5.one _).on hb6 | exact ((XD5.one _).one _).on hb6); have XD6l := XD6.lt; have XD60 := XD6.c0; have XD61 := XD6.c1; have XD62 := XD6.c2; have XD63 := XD6.c3; have XF6 : At w6 w5.heap.size 0 0 0 0 := (by first | exact (At.new _ 0 0 0 0 _).on hb6 | exact ((At.new _ 0 0 0 0 _).one _).on hb6); have XF6l := XF6.lt; have XF60 := XF6.c0; have XF61 := XF6.c1; have XF62 := XF6.c2; have XF63 := XF6.c3; clear hb6)
      go_ret
      exact ⟨by first | rfl | (simp; done) | (simp; omega), hB6⟩
set_option maxHeartbeats 4000000 in
theorem num_e (n : Nat) (hr : 65536 ≤ n ∧ n ≤ 4294967295) (w : World) (hE : Env3 w) :
    Calls Tryd.prog 8 #[.int .u32 n] w fun e w' => e = .returned (.bool true) ∧ Below w.heap.size w w' := by
  have hn : n ≤ 4294967295 := by omega
  have he24 := eq_instr
  have hB : Below w.heap.size w w := Below.refl _ _
  have hdl := dig_len n hn
  have pA : prs (splitP ((⟨#[115, 101, 116, 32, 114, 51, 32]⟩ : ByteArray) ++ mk (Lib.decDigits n))) = none := by
    rw [cutA _ (no_blank_dig n), res4 n hn, if_neg (by omega)]; rfl
  have zA : ((⟨#[115, 101, 116, 32, 114, 51, 32]⟩ : ByteArray) ++ mk (Lib.decDigits n)).size ≤ 1048576 := by rw [ByteArray.size_append]; have q : (⟨#[115, 101, 116, 32, 114, 51, 32]⟩ : ByteArray).size ≤ 100 := (by decide); omega
  have cA := ParseNone _ zA pA
  have aA := add_str (⟨#[115, 101, 116, 32, 114, 51, 32]⟩ : ByteArray) (mk (Lib.decDigits n)) (by have q : (⟨#[115, 101, 116, 32, 114, 51, 32]⟩ : ByteArray).size ≤ 100 := (by decide); omega)
  clear pA zA
  have pB : prs (splitP ((⟨#[103, 111, 32]⟩ : ByteArray) ++ mk (Lib.decDigits n))) = none := by
    rw [cutB _ (no_blank_dig n), res4 n hn, if_neg (by omega)]; rfl
  have zB : ((⟨#[103, 111, 32]⟩ : ByteArray) ++ mk (Lib.decDigits n)).size ≤ 1048576 := by rw [ByteArray.size_append]; have q : (⟨#[103, 111, 32]⟩ : ByteArray).size ≤ 100 := (by decide); omega
  have cB := ParseNone _ zB pB
  have aB := add_str (⟨#[103, 111, 32]⟩ : ByteArray) (mk (Lib.decDigits n)) (by have q : (⟨#[103, 111, 32]⟩ : ByteArray).size ≤ 100 := (by decide); omega)
  clear pB zB
  have pC : prs (splitP ((⟨#[112, 117, 116, 32, 114, 49, 32, 114, 50, 32]⟩ : ByteArray) ++ mk (Lib.decDigits n))) = none := by
    rw [cutC _ (no_blank_dig n), res2 n hn, if_neg (by omega)]; rfl
  have zC : ((⟨#[112, 117, 116, 32, 114, 49, 32, 114, 50, 32]⟩ : ByteArray) ++ mk (Lib.decDigits n)).size ≤ 1048576 := by rw [ByteArray.size_append]; have q : (⟨#[112, 117, 116, 32, 114, 49, 32, 114, 50, 32]⟩ : ByteArray).size ≤ 100 := (by decide); omega
  have cC := ParseNone _ zC pC
  have aC := add_str (⟨#[112, 117, 116, 32, 114, 49, 32, 114, 50, 32]⟩ : ByteArray) (mk (Lib.decDigits n)) (by have q : (⟨#[112, 117, 116, 32, 114, 49, 32, 114, 50, 32]⟩ : ByteArray).size ≤ 100 := (by decide); omega)
  clear pC zC
  have pD : prs (splitP ((⟨#[108, 101, 115, 115, 32, 114, 49, 32, 114, 50, 32]⟩ : ByteArray) ++ mk (Lib.decDigits n))) = none := by
    rw [cutD _ (no_blank_dig n), res3 n hn, if_neg (by omega)]; rfl
  have zD : ((⟨#[108, 101, 115, 115, 32, 114, 49, 32, 114, 50, 32]⟩ : ByteArray) ++ mk (Lib.decDigits n)).size ≤ 1048576 := by rw [ByteArray.size_append]; have q : (⟨#[108, 101, 115, 115, 32, 114, 49, 32, 114, 50, 32]⟩ : ByteArray).size ≤ 100 := (by decide); omega
  have cD := ParseNone _ zD pD
  have aD := add_str (⟨#[108, 101, 115, 115, 32, 114, 49, 32, 114, 50, 32]⟩ : ByteArray) (mk (Lib.decDigits n)) (by have q : (⟨#[108, 101, 115, 115, 32, 114, 49, 32, 114, 50, 32]⟩ : ByteArray).size ≤ 100 := (by decide); omega)
  clear pD zD
  have pF : prs (splitP ((⟨#[108, 101, 115, 115, 32, 114, 49, 32, 114, 50, 32, 45]⟩ : ByteArray) ++ mk (Lib.decDigits n))) = none := by
    rw [cutF _ (no_blank_dig n), resm n hn, if_neg (by omega)]; rfl
  have zF : ((⟨#[108, 101, 115, 115, 32, 114, 49, 32, 114, 50, 32, 45]⟩ : ByteArray) ++ mk (Lib.decDigits n)).size ≤ 1048576 := by rw [ByteArray.size_append]; have q : (⟨#[108, 101, 115, 115, 32, 114, 49, 32, 114, 50, 32, 45]⟩ : ByteArray).size ≤ 100 := (by decide); omega
  have cF := ParseNone _ zF pF
  have aF := add_str (⟨#[108, 101, 115, 115, 32, 114, 49, 32, 114, 50, 32, 45]⟩ : ByteArray) (mk (Lib.decDigits n)) (by have q : (⟨#[108, 101, 115, 115, 32, 114, 49, 32, 114, 50, 32, 45]⟩ : ByteArray).size ≤ 100 := (by decide); omega)
  clear pF zF
  generalize (⟨#[115, 101, 116, 32, 114, 51, 32]⟩ : ByteArray) ++ mk (Lib.decDigits n) = sA at *
  generalize (⟨#[103, 111, 32]⟩ : ByteArray) ++ mk (Lib.decDigits n) = sB at *
  generalize (⟨#[112, 117, 116, 32, 114, 49, 32, 114, 50, 32]⟩ : ByteArray) ++ mk (Lib.decDigits n) = sC at *
  generalize (⟨#[108, 101, 115, 115, 32, 114, 49, 32, 114, 50, 32]⟩ : ByteArray) ++ mk (Lib.decDigits n) = sD at *
  generalize (⟨#[108, 101, 115, 115, 32, 114, 49, 32, 114, 50, 32, 45]⟩ : ByteArray) ++ mk (Lib.decDigits n) = sF at *
  obtain ⟨D, hD⟩ : ∃ D, mk (Lib.decDigits n) = D := ⟨_, rfl⟩
  rw [hD] at aA aB aC aD aF
  have HD : Hid (mk (Lib.decDigits n) = D) := hD
  clear hD hdl
  have HR : Hid (65536 ≤ n ∧ n ≤ 4294967295) := hr
  clear hr
  go_enter Tryd.func8, Tryd.ntmps8
  go_wp2
  go_loopg [3, 4] (n + 1) (fun g s3 s4 wx => ∃ (m : Nat) (d : List UInt8), w = wx ∧ s3 = .string (mk d) ∧ s4 = .int .u32 m ∧ m ≤ 4294967295 ∧ d.length ≤ 21 ∧ Hid (Dig n m d g))
  case atStart => exact ⟨n, [], rfl, rfl, rfl, hn, by decide, Or.inl ⟨rfl, rfl, rfl⟩⟩
  case round =>
    obtain ⟨m, d, rfl, rfl, rfl, hm, hdl, HG⟩ := hrel
    by_cases hgo : 0 < m ∨ d = []
    · have hst := HG.out.step hgo
      have hdl2 : (UInt8.ofNat (48 + m % 10) :: d).length ≤ 21 := by
        rcases hst.1.short hn with h | h | h
        · exact h.1
        · exact h.1
        · exact h
      have hcat := add_str (mk [UInt8.ofNat (48 + m % 10)]) (mk d) (by rw [mk_size, mk_size]; simp at *; omega)
      rw [mk_append, List.singleton_append] at hcat
      have hsl := slice_dig (m % 10) (by omega)
      rw [show ((m % 10 : Nat) : Int) = (m : Int) % 10 by omega] at hsl
      have HS : Hid _ := hst
      clear hst HG
      have H2 : Hid _ := hdl2
      clear hdl2
      by_cases hm0 : 0 < m
      · generalize mk [UInt8.ofNat (48 + m % 10)] = dg at *
        generalize UInt8.ofNat (48 + m % 10) = ch at *
        have hgt : 0 < (m : Int) := by omega
        go_wp2
        go_roundg (m / 10)
        case measure => exact HS.out.2
        case rel => exact ⟨m / 10, ch :: d, rfl, rfl, by first | rfl | go_num | (simp; done), by omega, H2.out, HS.out.1⟩
      · obtain rfl : d = [] := by rcases hgo with h | h; exact absurd h hm0; exact h
        obtain rfl : m = 0 := by omega
        clear hcat hsl
        have hemp : ((mk []).toList == ([] : List UInt8)) = true := by rw [Lib.toList_data]; rfl
        have hemp2 : ((mk []).toList == (⟨#[]⟩ : ByteArray).toList) = true := by rw [Lib.toList_data, Lib.toList_data]; rfl
        go_wp2
        go_roundg 0
        case measure => exact HS.out.2
        case rel => exact ⟨0, [48], rfl, by first | rfl | decide, by first | rfl | go_num | (simp; done), by omega, by decide, HS.out.1⟩
    · have hm0 : ¬ 0 < m := fun h => hgo (Or.inl h)
      have hd0 : ¬ d = [] := fun h => hgo (Or.inr h)
      have hde := HG.out.done hm0 hd0
      have hdD : mk d = D := by rw [hde]; exact HD.out
      have hemp : (D.toList == ([] : List UInt8)) = false := by rw [← hdD, Lib.toList_data, mk_data]; simpa using hd0
      have hemp2 : (D.toList == (⟨#[]⟩ : ByteArray).toList) = false := by rw [← hdD, Lib.toList_data, Lib.toList_data, mk_data]; simpa using hd0
      obtain rfl : m = 0 := by omega
      rw [hdD]
      clear hdD hde hd0 hm0 hgo HG hdl hm
      have hr := HR.out
      have f1 : ¬ (n : Int) < 65536 := by omega
      have f2 : ¬ (n : Int) < 256 := by omega
      have f3 : ¬ (n : Int) < 128 := by omega
      have f4 : 1 ≤ (n : Int) := by omega
      have f5 : ¬ (n : Int) ≤ 128 := by omega
      have f6 : 0 ≤ (n : Int) ∧ (n : Int) ≤ 4294967295 := by omega
      have HQ : Hid ((n : Int) / 256 % 256 = (n : Int) / 256 ∨ 65536 ≤ (n : Int)) := by show _ ∨ _; omega
      clear hr hn
      generalize (n : Int) = z at *
      go_wp2_with (go_at_call_of 18 (Value.string sA); refine (cA _ (by first | exact hE | exact hE.one _ | exact (hE.one _).one _)).mono ?_; rintro e w1 ⟨rfl, hb1⟩; have hE1 : Env3 w1 := (by first | exact hE.on hb1 | exact (hE.one _).on hb1 | exact ((hE.one _).one _).on hb1); have hB1 : Below w.heap.size w w1 := (by first | exact kept1 hB hb1 | exact kept2 hB hb1 | exact kept2 (kept2 hB (Below.refl _ _)) hb1); clear hb1)
      go_wp2_with (go_at_call_of 18 (Value.string sB); refine (cB _ (by first | exact hE1 | exact hE1.one _ | exact (hE1.one _).one _)).mono ?_; rintro e w2 ⟨rfl, hb2⟩; have hE2 : Env3 w2 := (by first | exact hE1.on hb2 | exact (hE1.one _).on hb2 | exact ((hE1.one _).one _).on hb2); have hB2 : Below w.heap.size w w2 := (by first | exact kept1 hB1 hb2 | exact kept2 hB1 hb2 | exact kept2 (kept2 hB1 (Below.refl _ _)) hb2); have XA2 : At w2 w1.heap.size 0 0 0 0 := (by first | exact (At.new _ 0 0 0 0 _).on hb2 | exact ((At.new _ 0 0 0 0 _).one _).on hb2); have XA2l := XA2.lt; have XA20 := XA2.c0; have XA21 := XA2.c1; have XA22 := XA2.c2; have XA23 := XA2.c3; clear hb2)
      go_wp2_with (go_at_call_of 18 (Value.string sC); refine (cC _ (by first | exact hE2 | exact hE2.one _ | exact (hE2.one _).one _)).mono ?_; rintro e w3 ⟨rfl, hb3⟩; have hE3 : Env3 w3 := (by first | exact hE2.on hb3 | exact (hE2.one _).on hb3 | exact ((hE2.one _).one _).on hb3); have hB3 : Below w.heap.size w w3 := (by first | exact kept1 hB2 hb3 | exact kept2 hB2 hb3 | exact kept2 (kept2 hB2 (Below.refl _ _)) hb3); have XA3 : At w3 w1.heap.size 0 0 0 0 := (by first | exact XA2.on hb3 | exact (XA2.one _).on hb3 | exact ((XA2.one _).one _).on hb3); have XA3l := XA3.lt; have XA30 := XA3.c0; have XA31 := XA3.c1; have XA32 := XA3.c2; have XA33 := XA3.c3; have XB3 : At w3 w2.heap.size 0 0 0 0 := (by first | exact (At.new _ 0 0 0 0 _).on hb3 | exact ((At.new _ 0 0 0 0 _).one _).on hb3); have XB3l := XB3.lt; have XB30 := XB3.c0; have XB31 := XB3.c1; have XB32 := XB3.c2; have XB33 := XB3.c3; clear hb3)
      go_wp2_with (go_at_call_of 18 (Value.string sD); refine (cD _ (by first | exact hE3 | exact hE3.one _ | exact (hE3.one _).one _)).mono ?_; rintro e w4 ⟨rfl, hb4⟩; have hE4 : Env3 w4 := (by first | exact hE3.on hb4 | exact (hE3.one _).on hb4 | exact ((hE3.one _).one _).on hb4); have hB4 : Below w.heap.size w w4 := (by first | exact kept1 hB3 hb4 | exact kept2 hB3 hb4 | exact kept2 (kept2 hB3 (Below.refl _ _)) hb4); have XA4 : At w4 w1.heap.size 0 0 0 0 := (by first | exact XA3.on hb4 | exact (XA3.one _).on hb4 | exact ((XA3.one _).one _).on hb4); have XA4l := XA4.lt; have XA40 := XA4.c0; have XA41 := XA4.c1; have XA42 := XA4.c2; have XA43 := XA4.c3; have XB4 : At w4 w2.heap.size 0 0 0 0 := (by first | exact XB3.on hb4 | exact (XB3.one _).on hb4 | exact ((XB3.one _).one _).on hb4); have XB4l := XB4.lt; have XB40 := XB4.c0; have XB41 := XB4.c1; have XB42 := XB4.c2; have XB43 := XB4.c3; have XC4 : At w4 w3.heap.size 0 0 0 0 := (by first | exact (At.new _ 0 0 0 0 _).on hb4 | exact ((At.new _ 0 0 0 0 _).one _).on hb4); have XC4l := XC4.lt; have XC40 := XC4.c0; have XC41 := XC4.c1; have XC42 := XC4.c2; have XC43 := XC4.c3; clear hb4)
      go_wp2_with (go_at_call_of 18 (Value.string sF); refine (cF _ (by first | exact hE4 | exact hE4.one _ | exact (hE4.one _).one _)).mono ?_; rintro e w5 ⟨rfl, hb5⟩; have hE5 : Env3 w5 := (by first | exact hE4.on hb5 | exact (hE4.one _).on hb5 | exact ((hE4.one _).one _).on hb5); have hB5 : Below w.heap.size w w5 := (by first | exact kept1 hB4 hb5 | exact kept2 hB4 hb5 | exact kept2 (kept2 hB4 (Below.refl _ _)) hb5); have XA5 : At w5 w1.heap.size 0 0 0 0 := (by first | exact XA4.on hb5 | exact (XA4.one _).on hb5 | exact ((XA4.one _).one _).on hb5); have XA5l := XA5.lt; have XA50 := XA5.c0; have XA51 := XA5.c1; have XA52 := XA5.c2; have XA53 := XA5.c3; have XB5 : At w5 w2.heap.size 0 0 0 0 := (by first | exact XB4.on hb5 | exact (XB4.one _).on hb5 | exact ((XB4.one _).one _).on hb5); have XB5l := XB5.lt; have XB50 := XB5.c0; have XB51 := XB5.c1; have XB52 := XB5.c2; have XB53 := XB5.c3; have XC5 : At w5 w3.heap.size 0 0 0 0 := (by first | exact XC4.on hb5 | exact (XC4.one _).on hb5 | exact ((XC4.one _).one _).on hb5); have XC5l := XC5.lt; have XC50 := XC5.c0; have XC51 := XC5.c1; have XC52 := XC5.c2; have XC53 := XC5.c3; have XD5 : At w5 w4.heap.size 0 0 0 0 := (by first | exact (At.new _ 0 0 0 0 _).on hb5 | exact ((At.new _ 0 0 0 0 _).one _).on hb5); have XD5l := XD5.lt; have XD50 := XD5.c0; have XD51 := XD5.c1; have XD52 := XD5.c2; have XD53 := XD5.c3; clear hb5)
      go_wp2_with (go_at_call 20; refine (alive_any _ (by first | exact hE5 | exact hE5.one _ | exact (hE5.one _).one _)).mono ?_; rintro e w6 ⟨rfl, hb6⟩; have hE6 : Env3 w6 := (by first | exact hE5.on hb6 | exact (hE5.one _).on hb6 | exact ((hE5.one _).one _).on hb6); have hB6 : Below w.heap.size w w6 := (by first | exact kept1 hB5 hb6 | exact kept2 hB5 hb6 | exact kept2 (kept2 hB5 (Below.refl _ _)) hb6); have XA6 : At w6 w1.heap.size 0 0 0 0 := (by first | exact XA5.on hb6 | exact (XA5.one _).on hb6 | exact ((XA5.one _).one _).on hb6); have XA6l := XA6.lt; have XA60 := XA6.c0; have XA61 := XA6.c1; have XA62 := XA6.c2; have XA63 := XA6.c3; have XB6 : At w6 w2.heap.size 0 0 0 0 := (by first | exact XB5.on hb6 | exact (XB5.one _).on hb6 | exact ((XB5.one _).one _).on hb6); have XB6l := XB6.lt; have XB60 := XB6.c0; have XB61 := XB6.c1; have XB62 := XB6.c2; have XB63 := XB6.c3; have XC6 : At w6 w3.heap.size 0 0 0 0 := (by first | exact XC5.on hb6 | exact (XC5.one _).on hb6 | exact ((XC5.one _).one _).on hb6); have XC6l := XC6.lt; have XC60 := XC6.c0; have XC61 := XC6.c1; have XC62 := XC6.c2; have XC63 := XC6.c3; have XD6 : At w6 w4.heap.size 0 0 0 0 := (by first | exact XD5.on hb6 | exact (XD5.one _).on hb6 | exact ((XD5.one _).one _).on hb6); have XD6l := XD6.lt; have XD60 := XD6.c0; have XD61 := XD6.c1; have XD62 := XD6.c2; have XD63 := XD6.c3; have XF6 : At w6 w5.heap.size 0 0 0 0 := (by first | exact (At.new _ 0 0 0 0 _).on hb6 | exact ((At.new _ 0 0 0 0 _).one _).on hb6); have XF6l := XF6.lt; have XF60 := XF6.c0; have XF61 := XF6.c1; have XF62 := XF6.c2; have XF63 := XF6.c3; clear hb6)
      go_ret
      exact ⟨by first | rfl | (simp; done) | (simp; omega), hB6⟩
theorem num_any (n : Nat) (hn : n ≤ 4294967295) (w : World) (hE : Env3 w) :
    Calls Tryd.prog 8 #[.int .u32 n] w fun e w' => e = .returned (.bool true) ∧ Below w.heap.size w w' := by
  rcases (show n = 0 ∨ (1 ≤ n ∧ n ≤ 127) ∨ n = 128 ∨ (129 ≤ n ∧ n ≤ 255) ∨ (256 ≤ n ∧ n ≤ 65535) ∨ 65536 ≤ n by omega) with h | h | h | h | h | h
  · exact num_z n h w hE
  · exact num_a n h w hE
  · exact num_b n h w hE
  · exact num_c n h w hE
  · exact num_d n h w hE
  · exact num_e n ⟨h, hn⟩ w hE
theorem num_int (n : Int) (h : 0 ≤ n ∧ n ≤ 4294967295) (w : World) (hE : Env3 w) :
    Calls Tryd.prog 8 #[.int .u32 n] w fun e w' => e = .returned (.bool true) ∧ Below w.heap.size w w' := by
  obtain ⟨k, rfl⟩ := Int.eq_ofNat_of_zero_le h.1
  exact num_any k (by omega) w hE
end Go.Proofs.YtdneldjnkkpmoaaDoor

