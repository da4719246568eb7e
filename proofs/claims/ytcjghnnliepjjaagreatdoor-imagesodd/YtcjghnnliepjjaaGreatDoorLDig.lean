/- A number's digits, as the statement's own function writes them. -/
import Derived.Test.YtcjghnnliepjjaaGreatDoorLinesQ
import Derived.Laws.Strings2
import Derived.WalkKit
import Derived.ProofKit
namespace Go.Proofs.YtcjghnnliepjjaaGreatDoor
open Go Go.RowKit
set_option maxRecDepth 100000
set_option linter.unusedVariables false
set_option linter.unusedSimpArgs false
theorem dec_len : ∀ (k u : Nat), u < 10 ^ (k + 1) → (Lib.decDigits u).length ≤ k + 1
  | 0, u, h => by rw [decDigits_small u (by simpa using h)]; simp
  | k + 1, u, h => by
    by_cases h1 : u < 10
    · rw [decDigits_small u h1]; simp
    · rw [Nat.pow_succ] at h
      rw [decDigits_big u h1, List.length_append, List.length_singleton]
      have := dec_len k (u / 10) (by omega)
      omega
theorem ba_mk (a b : List UInt8) : mk a ++ mk b = mk (a ++ b) := by rw [← data_mk (mk a ++ mk b), ba_append, mk_data, mk_data]
def tens : ByteArray := ⟨#[48, 49, 50, 51, 52, 53, 54, 55, 56, 57]⟩
theorem ten_at (k : Nat) (h : k < 10) : tens.extract k (k + 1) = mk [UInt8.ofNat (48 + k)] := by
  have : ∀ k : Fin 10, (tens.extract k.val (k.val + 1)).data.toList = [UInt8.ofNat (48 + k.val)] := by decide +kernel
  rw [← data_mk (tens.extract k (k + 1)), this ⟨k, h⟩]
theorem sl_ten (n : Nat) (h : n < 10) (W : World) : (Instr.slice 9 (.string ⟨#[48, 49, 50, 51, 52, 53, 54, 55, 56, 57]⟩) (some (.int .i64 n)) (some (.int .i64 ((n : Int) + 1))) none).run Tryz.prog W = .ok (.string (mk [UInt8.ofNat (48 + n)])) W := by
  have := run_slice_string (P := Tryz.prog) (w := W) 9 tens .i64 .i64 n ((n : Int) + 1) Tryz.underlying9 (by omega) (by omega) (by have : tens.size = 10 := rfl; omega)
  rw [Int.toNat_natCast, show ((n : Int) + 1).toNat = n + 1 by omega, ten_at n h] at this
  exact this
theorem ret_s2 {a b : ByteArray} (h : a = b) : Ending.returned (Value.string a) = .returned (.string b) := by rw [h]
theorem dec_lt20 (u : Nat) (h : u ≤ 9223372036854775808) : (Lib.decDigits u).length ≤ 19 := dec_len 18 u (by omega)
set_option maxHeartbeats 2000000 in
theorem dig_any (u : Nat) (hu : u ≤ 9223372036854775807) (w : World) : Calls Tryz.prog 75 #[.int .i64 (u : Nat)] w fun e w' => e = .returned (.string (mk (Lib.decDigits u))) ∧ w' = w := by
  have HL : Hid ((Lib.decDigits u).length ≤ 19) := dec_lt20 u (by omega)
  go_enter Tryz.func75, Tryz.ntmps75
  go_wp2
  go_loopg [0, 3] u (fun g s0 s3 wx => ∃ sfx, s0 = .int .i64 (g : Nat) ∧ s3 = .string (mk sfx) ∧ wx = w ∧ Hid (Lib.decDigits u = Lib.decDigits g ++ sfx) ∧ g ≤ 9223372036854775807)
  case atStart => exact ⟨[], rfl, rfl, rfl, (List.append_nil _).symm, hu⟩
  case round =>
    obtain ⟨sfx, rfl, rfl, rfl, HD, hg⟩ := hrel
    have hz : (mk sfx).size ≤ 100 := by
      have h1 := HL.out
      rw [HD.out, List.length_append] at h1
      rw [mk_size]; omega
    by_cases h9 : 9 < gk
    · have hsl := sl_ten (gk % 10) (by omega)
      have hd : (gk : Int) / 10 = ((gk / 10 : Nat) : Int) := by omega
      have hm : (gk : Int) % 10 = ((gk % 10 : Nat) : Int) := by omega
      have HX : Hid (Lib.decDigits u = Lib.decDigits (gk / 10) ++ ([UInt8.ofNat (48 + gk % 10)] ++ sfx)) := by show _ = _; rw [HD.out, decDigits_big gk (by omega), List.append_assoc]
      have hz1 : (mk [UInt8.ofNat (48 + gk % 10)]).size = 1 := rfl
      have HM : Hid (mk [UInt8.ofNat (48 + gk % 10)] ++ mk sfx = mk ([UInt8.ofNat (48 + gk % 10)] ++ sfx)) := ba_mk _ _
      have hlt : gk / 10 < gk := by omega
      have hle : gk / 10 ≤ 9223372036854775807 := by omega
      have hr10 : gk % 10 < 10 := Nat.mod_lt _ (by decide)
      generalize mk [UInt8.ofNat (48 + gk % 10)] = es at *
      obtain ⟨sf2, HS2⟩ : ∃ sf2, [UInt8.ofNat (48 + gk % 10)] ++ sfx = sf2 := ⟨_, rfl⟩
      rw [HS2] at HX HM
      clear HS2 HD
      obtain ⟨q, hq⟩ : ∃ q, gk / 10 = q := ⟨_, rfl⟩
      obtain ⟨r, hr⟩ : ∃ r, gk % 10 = r := ⟨_, rfl⟩
      rw [hq] at hd HX hlt hle
      rw [hr] at hsl hm hr10
      clear hq hr
      generalize hsx : mk sfx = ss at *
      clear hsx
      go_wp2
      go_roundg q
      case measure => exact hlt
      case rel => exact ⟨sf2, rfl, by rw [HM.out], rfl, HX, hle⟩
    · have hsl := sl_ten gk (by omega)
      have HX : Hid (mk [UInt8.ofNat (48 + gk)] ++ mk sfx = mk (Lib.decDigits u)) := by show _ = _; rw [HD.out, decDigits_small gk (by omega), ba_mk]
      have hz1 : (mk [UInt8.ofNat (48 + gk)]).size = 1 := rfl
      clear HD
      generalize mk [UInt8.ofNat (48 + gk)] = es at *
      generalize mk sfx = ss at *
      go_wp2
      go_ret
      exact ⟨ret_s2 HX.out, rfl⟩
end Go.Proofs.YtcjghnnliepjjaaGreatDoor
