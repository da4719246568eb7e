/- The document's own Do (layer 3), for every Op and every two numbers. -/
import Derived.Test.YtdpjkpekafgfeaaDo
namespace Go.Proofs.Ytdpjkpekafgfeaa
open Go Go.RowKit
set_option maxRecDepth 100000
set_option linter.unusedVariables false
theorem tmod_bd (n : Int) : -4294967296 < n.tmod 4294967296 ∧ n.tmod 4294967296 < 4294967296 ∧ n.tmod 4294967296 % 4294967296 = n % 4294967296 := by
  rcases Int.lt_or_le n 0 with h | h
  · have e : n.tmod 4294967296 = -((-n) % 4294967296) := by
      have := Int.neg_tmod (a := -n) (b := 4294967296)
      rw [Int.neg_neg] at this
      rw [this, Int.tmod_eq_emod_of_nonneg (by omega)]
    omega
  · have e : n.tmod 4294967296 = n % 4294967296 := Int.tmod_eq_emod_of_nonneg h
    omega
theorem refOf_any (n : Int) (w : World) :
    Calls Try.prog 19 #[.int .i64 n] w fun e w' => e = .returned (.int .u32 (n % 4294967296)) ∧ w' = w := by
  obtain ⟨h1, h2, h3⟩ := tmod_bd n
  have H3 : Hid (n.tmod 4294967296 % 4294967296 = n % 4294967296) := h3
  clear h3
  go_enter Try.func19, Try.ntmps19
  go_wp2
  all_goals go_ret
  all_goals exact ⟨ret_int (by have := H3.out; omega), rfl⟩
/-- a bit of a number -/
def bt (A i : Nat) : Nat := A / 2 ^ i % 2
theorem refbit_any (A i : Nat) (hA : A < 4294967296) (hi : i < 32) (w : World) :
    Calls Try.prog 34 #[.int .u32 A, .int .i64 i] w fun e w' => e = .returned (.int .i64 (bt A i)) ∧ w' = w := by
  have hd : (A : Int) / 2 ^ i = ((A / 2 ^ i : Nat) : Int) := by simp
  have hle : A / 2 ^ i ≤ A := Nat.div_le_self _ _
  have H : Hid (((A / 2 ^ i : Nat) : Int) % 2 = bt A i) := by show _ = _; unfold bt; omega
  generalize A / 2 ^ i = q at *
  go_enter Try.func34, Try.ntmps34
  go_wp2
  go_ret
  refine ⟨ret_int ?_, rfl⟩
  rw [← H.out]
set_option maxHeartbeats 1000000 in
theorem refbits_any (A B : Nat) (hA : A < 4294967296) (hB : B < 4294967296) (R : Nat) (t : Nat → Nat) (G : Nat → Nat) (w : World)
    (h0 : w.cell? ⟨R, 0, none⟩ = some (.int .i64 (t 0))) (h1 : w.cell? ⟨R, 1, none⟩ = some (.int .i64 (t 1))) (h2 : w.cell? ⟨R, 2, none⟩ = some (.int .i64 (t 2)))
    (ht : ∀ i, t i ≤ 1) (hG : G 32 = 0) (hGb : ∀ i, G i < 4294967296) (hGs : ∀ i, i < 32 → G i = 2 * G (i + 1) + t (bt A i + bt B i)) :
    Calls Try.prog 20 #[.int .u32 A, .int .u32 B, .slice (some ⟨R, 0, none⟩) 3 3] w fun e w' => e = .returned (.int .u32 (G 0)) ∧ w' = w := by
  have HS : Hid (∀ i, i < 32 → G i = 2 * G (i + 1) + t (bt A i + bt B i)) := hGs
  have HG : Hid (∀ i, G i < 4294967296) := hGb
  have HT : Hid (∀ i, t i ≤ 1) := ht
  have HZ : Hid (G 32 = 0) := hG
  clear hGs hGb ht hG
  go_enter Try.func20, Try.ntmps20
  go_wp2
  go_loopg [7, 8] 32 (fun g s7 s8 wx => wx = w ∧ g ≤ 32 ∧ s7 = .int .i64 (G g) ∧ s8 = .int .i64 ((g : Int) - 1))
  case atStart => exact ⟨rfl, Nat.le_refl _, by rw [HZ.out]; rfl, rfl⟩
  case round =>
    obtain ⟨rfl, hg, rfl, rfl⟩ := hrel
    cases gk with
    | zero =>
      have hb := HG.out 0
      have hm : (G 0 : Int) % 4294967296 = G 0 := by omega
      go_wp2_with (go_at_call 19; refine (refOf_any _ _).mono ?_; rintro e w' ⟨rfl, rfl⟩)
      go_ret
      exact ⟨by first | rfl | rw [hm], rfl⟩
    | succ k =>
      rw [show (((k + 1 : Nat) : Int) - 1) = (k : Int) by omega]
      have hs := HS.out k (by omega)
      have hb := HG.out (k + 1)
      have t0 := HT.out 0
      have t1 := HT.out 1
      have t2 := HT.out 2
      have cA := refbit_any A k hA (by omega)
      have cB := refbit_any B k hB (by omega)
      have hx : bt A k = 0 ∨ bt A k = 1 := by unfold bt; omega
      have hy : bt B k = 0 ∨ bt B k = 1 := by unfold bt; omega
      have hkk : 0 ≤ (k : Int) := by omega
      rcases hx with hx | hx <;> rcases hy with hy | hy <;>
        (rw [hx, hy] at hs
         rw [hx] at cA
         rw [hy] at cB
         have HH : Hid _ := hs
         clear hs hx hy
         go_wp2_with (first
           | (go_at_call_of 34 (Value.int IntKind.u32 (A : Int)); refine (cA _).mono ?_; rintro e w' ⟨rfl, rfl⟩)
           | (go_at_call_of 34 (Value.int IntKind.u32 (B : Int)); refine (cB _).mono ?_; rintro e w' ⟨rfl, rfl⟩))
         go_roundg k
         case measure => omega
         case rel => exact ⟨rfl, by omega, by rw [HH.out]; first | rfl | go_num | (simp; done), by first | rfl | go_num⟩)
theorem refDo_3 (a b : Int) (ha : num a) (hb : num b) (w : World) :
    Calls Try.prog 10 #[.int .u8 3, .int .u32 a, .int .u32 b] w fun e w' => e = .returned (.tuple #[.int .u32 (dov 3 a b), .int .i64 0]) ∧ Below w.heap.size w w' := by
  unfold num at ha hb
  go_enter Try.func10, Try.ntmps10
  go_wp2_with (go_at_call 19; refine (refOf_any _ _).mono ?_; rintro e w' ⟨rfl, rfl⟩)
  exact bodyPost_ret (v := .tuple #[.int .u32 ((a + b) % 4294967296), .int .i64 0]) (by simp [results, Try.results10, go_sem]) rfl ⟨rfl, Below.refl _ _⟩
theorem refDo_4 (a b : Int) (ha : num a) (hb : num b) (w : World) :
    Calls Try.prog 10 #[.int .u8 4, .int .u32 a, .int .u32 b] w fun e w' => e = .returned (.tuple #[.int .u32 (dov 4 a b), .int .i64 0]) ∧ Below w.heap.size w w' := by
  unfold num at ha hb
  go_enter Try.func10, Try.ntmps10
  go_wp2_with (go_at_call 19; refine (refOf_any _ _).mono ?_; rintro e w' ⟨rfl, rfl⟩)
  exact bodyPost_ret (v := .tuple #[.int .u32 ((a - b) % 4294967296), .int .i64 0]) (by simp [results, Try.results10, go_sem]) rfl ⟨rfl, Below.refl _ _⟩
/-- a product, by its second number's upper and lower half -/
theorem halves (a L H : Int) : (a * L % 4294967296 + 65536 * (a * H % 4294967296 % 65536)) % 4294967296 = a * (65536 * H + L) % 4294967296 := by
  have e : a * (65536 * H + L) = 65536 * (a * H) + a * L := by rw [Int.mul_add, Int.mul_left_comm]
  rw [e]
  generalize a * H = x
  generalize a * L = y
  omega
theorem prod_bd (a L : Int) (ha : num a) (hL : 0 ≤ L ∧ L < 65536) : 0 ≤ a * L ∧ a * L ≤ 281474976710656 := by
  unfold num at ha
  have h1 := Int.mul_nonneg ha.1 hL.1
  have h2 : a * L ≤ 4294967295 * L := Int.mul_le_mul_of_nonneg_right ha.2 hL.1
  omega
theorem refDo_5 (a b : Int) (ha : num a) (hb : num b) (w : World) :
    Calls Try.prog 10 #[.int .u8 5, .int .u32 a, .int .u32 b] w fun e w' => e = .returned (.tuple #[.int .u32 (dov 5 a b), .int .i64 0]) ∧ Below w.heap.size w w' := by
  obtain ⟨ha1, ha2⟩ : 0 ≤ a ∧ a ≤ 4294967295 := ha
  obtain ⟨hb1, hb2⟩ : 0 ≤ b ∧ b ≤ 4294967295 := hb
  have ha : num a := ⟨ha1, ha2⟩
  have hb : num b := ⟨hb1, hb2⟩
  obtain ⟨L, hL⟩ : ∃ L, b % 65536 = L := ⟨_, rfl⟩
  obtain ⟨H, hH⟩ : ∃ H, b / 65536 = H := ⟨_, rfl⟩
  have hL' : b.tmod 65536 = L := by rw [Int.tmod_eq_emod_of_nonneg hb.1]; exact hL
  have hH' : b.tdiv 65536 = H := by rw [Int.tdiv_eq_ediv_of_nonneg hb.1]; exact hH
  have bL : 0 ≤ L ∧ L < 65536 := by omega
  have bH : 0 ≤ H ∧ H < 65536 := by unfold num at hb; omega
  have p1 := prod_bd a L ha bL
  have p2 := prod_bd a H ha bH
  have hE : Hid (a * b % 4294967296 = (a * L % 4294967296 + 65536 * (a * H % 4294967296 % 65536)) % 4294967296) := by
    show _ = _
    rw [halves, show 65536 * H + L = b by omega]
  have hm : (a * H % 4294967296).tmod 65536 = a * H % 4294967296 % 65536 := Int.tmod_eq_emod_of_nonneg (by omega)
  go_enter Try.func10, Try.ntmps10
  go_wp2_with (go_at_call 19; refine (refOf_any _ _).mono ?_; rintro e w' ⟨rfl, rfl⟩)
  refine bodyPost_ret (v := .tuple #[.int .u32 (a * b % 4294967296), .int .i64 0]) ?_ rfl ⟨rfl, Below.refl _ _⟩
  rw [hE.out]
  simp [results, Try.results10, go_sem]
def andT (i : Nat) : Nat := if i = 2 then 1 else 0
theorem and_steps (A B : Nat) (i : Nat) : (A &&& B) / 2 ^ i = 2 * ((A &&& B) / 2 ^ (i + 1)) + andT (bt A i + bt B i) := by
  have e1 : (A &&& B) / 2 ^ i = A / 2 ^ i &&& B / 2 ^ i := Nat.and_div_two_pow
  have e2 : (A &&& B) / 2 ^ (i + 1) = (A &&& B) / 2 ^ i / 2 := by rw [Nat.pow_succ, Nat.div_div_eq_div_mul]
  rw [e2]
  have e3 := and_two (A / 2 ^ i) (B / 2 ^ i)
  rw [← e1] at e3
  unfold bt
  generalize (A &&& B) / 2 ^ i = q at *
  rcases Nat.mod_two_eq_zero_or_one (A / 2 ^ i) with h | h <;> rcases Nat.mod_two_eq_zero_or_one (B / 2 ^ i) with h' | h' <;>
    (rw [h, h'] at e3
     rw [h, h']
     simp [andT] at e3 ⊢
     omega)
theorem refDo_6 (a b : Int) (ha : num a) (hb : num b) (w : World) :
    Calls Try.prog 10 #[.int .u8 6, .int .u32 a, .int .u32 b] w fun e w' => e = .returned (.tuple #[.int .u32 (dov 6 a b), .int .i64 0]) ∧ Below w.heap.size w w' := by
  obtain ⟨A, rfl⟩ := Int.eq_ofNat_of_zero_le ha.1
  obtain ⟨B, rfl⟩ := Int.eq_ofNat_of_zero_le hb.1
  have hA : A < 4294967296 := by unfold num at ha; omega
  have hB : B < 4294967296 := by unfold num at hb; omega
  have hlt : A &&& B < 2 ^ 32 := Nat.and_lt_two_pow A (show B < 2 ^ 32 from hB)
  have hc : ∀ W : World, W.cell? ⟨w.heap.size, 0, none⟩ = some (.int .i64 0) → W.cell? ⟨w.heap.size, 1, none⟩ = some (.int .i64 0) → W.cell? ⟨w.heap.size, 2, none⟩ = some (.int .i64 1) →
      Calls Try.prog 20 #[.int .u32 A, .int .u32 B, .slice (some ⟨w.heap.size, 0, none⟩) 3 3] W fun e w' => e = .returned (.int .u32 (bits .and .u32 A B)) ∧ w' = W := fun W h0 h1 h2 => by
    have h := refbits_any A B hA hB w.heap.size andT (fun i => (A &&& B) / 2 ^ i) W h0 h1 h2 (fun i => by unfold andT; split <;> decide) (Nat.div_eq_of_lt hlt) (fun i => Nat.lt_of_le_of_lt (Nat.div_le_self _ _) hlt) (fun i _ => and_steps A B i)
    rw [u32_and_nat A B hA hB]
    simpa using h
  go_enter Try.func10, Try.ntmps10
  go_wp2_with (go_at_call 20; refine (hc _ (by simp [go_sem]) (by simp [go_sem]) (by simp [go_sem])).mono ?_; rintro e w' ⟨rfl, rfl⟩)
  exact bodyPost_ret (v := .tuple #[.int .u32 (bits .and .u32 A B), .int .i64 0]) (by simp [results, Try.results10, go_sem]) rfl ⟨rfl, (Below.refl _ _).alloc (Nat.le_refl _) _⟩
def orT (i : Nat) : Nat := if i = 0 then 0 else 1
theorem or_steps (A B : Nat) (i : Nat) : (A ||| B) / 2 ^ i = 2 * ((A ||| B) / 2 ^ (i + 1)) + orT (bt A i + bt B i) := by
  have e1 : (A ||| B) / 2 ^ i = A / 2 ^ i ||| B / 2 ^ i := Nat.or_div_two_pow
  have e2 : (A ||| B) / 2 ^ (i + 1) = (A ||| B) / 2 ^ i / 2 := by rw [Nat.pow_succ, Nat.div_div_eq_div_mul]
  rw [e2]
  have e3 := or_two (A / 2 ^ i) (B / 2 ^ i)
  rw [← e1] at e3
  unfold bt
  generalize (A ||| B) / 2 ^ i = q at *
  rcases Nat.mod_two_eq_zero_or_one (A / 2 ^ i) with h | h <;> rcases Nat.mod_two_eq_zero_or_one (B / 2 ^ i) with h' | h' <;>
    (rw [h, h'] at e3
     rw [h, h']
     simp [orT] at e3 ⊢
     omega)
theorem refDo_7 (a b : Int) (ha : num a) (hb : num b) (w : World) :
    Calls Try.prog 10 #[.int .u8 7, .int .u32 a, .int .u32 b] w fun e w' => e = .returned (.tuple #[.int .u32 (dov 7 a b), .int .i64 0]) ∧ Below w.heap.size w w' := by
  obtain ⟨A, rfl⟩ := Int.eq_ofNat_of_zero_le ha.1
  obtain ⟨B, rfl⟩ := Int.eq_ofNat_of_zero_le hb.1
  have hA : A < 4294967296 := by unfold num at ha; omega
  have hB : B < 4294967296 := by unfold num at hb; omega
  have hlt : A ||| B < 2 ^ 32 := Nat.or_lt_two_pow (show A < 2 ^ 32 from hA) (show B < 2 ^ 32 from hB)
  have hc : ∀ W : World, W.cell? ⟨w.heap.size, 0, none⟩ = some (.int .i64 0) → W.cell? ⟨w.heap.size, 1, none⟩ = some (.int .i64 1) → W.cell? ⟨w.heap.size, 2, none⟩ = some (.int .i64 1) →
      Calls Try.prog 20 #[.int .u32 A, .int .u32 B, .slice (some ⟨w.heap.size, 0, none⟩) 3 3] W fun e w' => e = .returned (.int .u32 (bits .or .u32 A B)) ∧ w' = W := fun W h0 h1 h2 => by
    have h := refbits_any A B hA hB w.heap.size orT (fun i => (A ||| B) / 2 ^ i) W h0 h1 h2 (fun i => by unfold orT; split <;> decide) (Nat.div_eq_of_lt hlt) (fun i => Nat.lt_of_le_of_lt (Nat.div_le_self _ _) hlt) (fun i _ => or_steps A B i)
    rw [u32_or_nat A B hA hB]
    simpa using h
  go_enter Try.func10, Try.ntmps10
  go_wp2_with (go_at_call 20; refine (hc _ (by simp [go_sem]) (by simp [go_sem]) (by simp [go_sem])).mono ?_; rintro e w' ⟨rfl, rfl⟩)
  exact bodyPost_ret (v := .tuple #[.int .u32 (bits .or .u32 A B), .int .i64 0]) (by simp [results, Try.results10, go_sem]) rfl ⟨rfl, (Below.refl _ _).alloc (Nat.le_refl _) _⟩
def xorT (i : Nat) : Nat := if i = 1 then 1 else 0
theorem xor_steps (A B : Nat) (i : Nat) : (A ^^^ B) / 2 ^ i = 2 * ((A ^^^ B) / 2 ^ (i + 1)) + xorT (bt A i + bt B i) := by
  have e1 : (A ^^^ B) / 2 ^ i = A / 2 ^ i ^^^ B / 2 ^ i := Nat.xor_div_two_pow
  have e2 : (A ^^^ B) / 2 ^ (i + 1) = (A ^^^ B) / 2 ^ i / 2 := by rw [Nat.pow_succ, Nat.div_div_eq_div_mul]
  rw [e2]
  have e3 := xor_two (A / 2 ^ i) (B / 2 ^ i)
  rw [← e1] at e3
  unfold bt
  generalize (A ^^^ B) / 2 ^ i = q at *
  rcases Nat.mod_two_eq_zero_or_one (A / 2 ^ i) with h | h <;> rcases Nat.mod_two_eq_zero_or_one (B / 2 ^ i) with h' | h' <;>
    (rw [Nat.add_mod, h, h'] at e3
     rw [h, h']
     simp [xorT] at e3 ⊢
     omega)
theorem refDo_8 (a b : Int) (ha : num a) (hb : num b) (w : World) :
    Calls Try.prog 10 #[.int .u8 8, .int .u32 a, .int .u32 b] w fun e w' => e = .returned (.tuple #[.int .u32 (dov 8 a b), .int .i64 0]) ∧ Below w.heap.size w w' := by
  obtain ⟨A, rfl⟩ := Int.eq_ofNat_of_zero_le ha.1
  obtain ⟨B, rfl⟩ := Int.eq_ofNat_of_zero_le hb.1
  have hA : A < 4294967296 := by unfold num at ha; omega
  have hB : B < 4294967296 := by unfold num at hb; omega
  have hlt : A ^^^ B < 2 ^ 32 := Nat.xor_lt_two_pow (show A < 2 ^ 32 from hA) (show B < 2 ^ 32 from hB)
  have hc : ∀ W : World, W.cell? ⟨w.heap.size, 0, none⟩ = some (.int .i64 0) → W.cell? ⟨w.heap.size, 1, none⟩ = some (.int .i64 1) → W.cell? ⟨w.heap.size, 2, none⟩ = some (.int .i64 0) →
      Calls Try.prog 20 #[.int .u32 A, .int .u32 B, .slice (some ⟨w.heap.size, 0, none⟩) 3 3] W fun e w' => e = .returned (.int .u32 (bits .xor .u32 A B)) ∧ w' = W := fun W h0 h1 h2 => by
    have h := refbits_any A B hA hB w.heap.size xorT (fun i => (A ^^^ B) / 2 ^ i) W h0 h1 h2 (fun i => by unfold xorT; split <;> decide) (Nat.div_eq_of_lt hlt) (fun i => Nat.lt_of_le_of_lt (Nat.div_le_self _ _) hlt) (fun i _ => xor_steps A B i)
    rw [u32_xor_nat A B hA hB]
    simpa using h
  go_enter Try.func10, Try.ntmps10
  go_wp2_with (go_at_call 20; refine (hc _ (by simp [go_sem]) (by simp [go_sem]) (by simp [go_sem])).mono ?_; rintro e w' ⟨rfl, rfl⟩)
  exact bodyPost_ret (v := .tuple #[.int .u32 (bits .xor .u32 A B), .int .i64 0]) (by simp [results, Try.results10, go_sem]) rfl ⟨rfl, (Below.refl _ _).alloc (Nat.le_refl _) _⟩
/-- so many places up, or down, one after the other -/
def lf (a : Int) (i : Nat) : Int := a * 2 ^ i % 4294967296
def rf (a : Int) (i : Nat) : Int := a / 2 ^ i
theorem lf_step (a : Int) (i : Nat) : 2 * lf a i % 4294967296 = lf a (i + 1) := by
  unfold lf
  rw [Int.pow_succ, ← Int.mul_assoc]
  omega
theorem rf_step (a : Int) (i : Nat) : rf a i / 2 = rf a (i + 1) := by
  unfold rf
  rw [Int.pow_succ, Int.ediv_ediv, if_neg (fun h => absurd h.1 (Int.not_lt.mpr (Int.le_of_lt (Int.pow_pos (by decide))))), Int.sub_zero]
theorem rf_bd (a : Int) (i : Nat) (ha : num a) : 0 ≤ rf a i ∧ rf a i ≤ 4294967295 := by
  unfold num at ha
  unfold rf
  have hp : (0 : Int) < 2 ^ i := Int.pow_pos (by decide)
  have h1 : 0 ≤ a / 2 ^ i := Int.ediv_nonneg ha.1 (Int.le_of_lt hp)
  have h2 : a / 2 ^ i ≤ a := Int.ediv_le_self _ ha.1
  omega
set_option maxHeartbeats 1000000 in
theorem refDo_9 (a b : Int) (ha : num a) (hb : num b) (w : World) :
    Calls Try.prog 10 #[.int .u8 9, .int .u32 a, .int .u32 b] w fun e w' => e = .returned (.tuple #[.int .u32 (dov 9 a b), .int .i64 0]) ∧ Below w.heap.size w w' := by
  obtain ⟨ha1, ha2⟩ : 0 ≤ a ∧ a ≤ 4294967295 := ha
  obtain ⟨hb1, hb2⟩ : 0 ≤ b ∧ b ≤ 4294967295 := hb
  have ha : num a := ⟨ha1, ha2⟩
  have hb : num b := ⟨hb1, hb2⟩
  obtain ⟨z, hz⟩ : ∃ z, b % 32 = z := ⟨_, rfl⟩
  have hz' : b.tmod 32 = z := by rw [Int.tmod_eq_emod_of_nonneg hb.1]; exact hz
  have hzb : 0 ≤ z ∧ z < 32 := by omega
  have HP : Hid (places b = z.toNat) := by show _ = _; unfold places; rw [hz]
  have HA : Hid (lf a 0 = a) := by show _ = _; unfold lf; simp; unfold num at ha; omega
  go_enter Try.func10, Try.ntmps10
  go_wp2
  go_loopg [8, 12] z.toNat (fun g s8 s9 wx => ∃ i : Nat, wx = w ∧ i + g = z.toNat ∧ s8 = .int .i64 (lf a i) ∧ s9 = .int .i64 i)
  case atStart => exact ⟨0, rfl, by omega, by rw [HA.out], rfl⟩
  case round =>
    obtain ⟨i, rfl, hig, rfl, rfl⟩ := hrel
    cases gk with
    | zero =>
      have hlt : ¬ ((i : Int) < z) := by omega
      have hm : lf a i % 4294967296 = lf a i := by unfold lf; omega
      go_wp2_with (go_at_call 19; refine (refOf_any _ _).mono ?_; rintro e w' ⟨rfl, rfl⟩)
      try rw [Exit.noGoto_ret]
      exact bodyPost_ret (v := .tuple #[.int .u32 (lf a i), .int .i64 0]) (by simp [results, Try.results10, go_sem]) rfl ⟨by show _ = Ending.returned (.tuple #[.int .u32 (a * 2 ^ places b % 4294967296), .int .i64 0]); rw [HP.out, show z.toNat = i by omega]; rfl, Below.refl _ _⟩
    | succ g =>
      have hlt : (i : Int) < z := by omega
      have hb2 : 0 ≤ lf a i ∧ lf a i ≤ 4294967295 := by unfold lf; omega
      have hs := lf_step a i
      have hs' : (2 * lf a i).tmod 4294967296 = lf a (i + 1) := by rw [Int.tmod_eq_emod_of_nonneg (by omega)]; exact hs
      go_wp2
      go_roundg g
      case measure => omega
      case rel => exact ⟨i + 1, rfl, by omega, rfl, by go_num⟩
set_option maxHeartbeats 1000000 in
theorem refDo_10 (a b : Int) (ha : num a) (hb : num b) (w : World) :
    Calls Try.prog 10 #[.int .u8 10, .int .u32 a, .int .u32 b] w fun e w' => e = .returned (.tuple #[.int .u32 (dov 10 a b), .int .i64 0]) ∧ Below w.heap.size w w' := by
  obtain ⟨ha1, ha2⟩ : 0 ≤ a ∧ a ≤ 4294967295 := ha
  obtain ⟨hb1, hb2⟩ : 0 ≤ b ∧ b ≤ 4294967295 := hb
  have ha : num a := ⟨ha1, ha2⟩
  have hb : num b := ⟨hb1, hb2⟩
  obtain ⟨z, hz⟩ : ∃ z, b % 32 = z := ⟨_, rfl⟩
  have hz' : b.tmod 32 = z := by rw [Int.tmod_eq_emod_of_nonneg hb.1]; exact hz
  have hzb : 0 ≤ z ∧ z < 32 := by omega
  have HP : Hid (places b = z.toNat) := by show _ = _; unfold places; rw [hz]
  have HA : Hid (rf a 0 = a) := by show _ = _; unfold rf; simp
  go_enter Try.func10, Try.ntmps10
  go_wp2
  go_loopg [8, 13] z.toNat (fun g s8 s9 wx => ∃ i : Nat, wx = w ∧ i + g = z.toNat ∧ s8 = .int .i64 (rf a i) ∧ s9 = .int .i64 i)
  case atStart => exact ⟨0, rfl, by omega, by rw [HA.out], rfl⟩
  case round =>
    obtain ⟨i, rfl, hig, rfl, rfl⟩ := hrel
    cases gk with
    | zero =>
      have hlt : ¬ ((i : Int) < z) := by omega
      have hm : rf a i % 4294967296 = rf a i := by have := rf_bd a i ha; omega
      go_wp2_with (go_at_call 19; refine (refOf_any _ _).mono ?_; rintro e w' ⟨rfl, rfl⟩)
      try rw [Exit.noGoto_ret]
      exact bodyPost_ret (v := .tuple #[.int .u32 (rf a i), .int .i64 0]) (by simp [results, Try.results10, go_sem]) rfl ⟨by show _ = Ending.returned (.tuple #[.int .u32 (a / 2 ^ places b), .int .i64 0]); rw [HP.out, show z.toNat = i by omega]; rfl, Below.refl _ _⟩
    | succ g =>
      have hlt : (i : Int) < z := by omega
      have hb2 := rf_bd a i ha
      have hs := rf_step a i
      have hs' : (rf a i).tdiv 2 = rf a (i + 1) := by rw [Int.tdiv_eq_ediv_of_nonneg hb2.1]; exact hs
      go_wp2
      go_roundg g
      case measure => omega
      case rel => exact ⟨i + 1, rfl, by omega, rfl, by go_num⟩
theorem refDo_no (o a b : Int) (ho : ¬ (3 ≤ o ∧ o ≤ 10)) (ha : num a) (hb : num b) (w : World) :
    Calls Try.prog 10 #[.int .u8 o, .int .u32 a, .int .u32 b] w fun e w' => e = .returned (.tuple #[.int .u32 0, .int .i64 1]) ∧ Below w.heap.size w w' := by
  have e3 : (o == 3) = false := by rw [beq_eq_false_iff_ne]; omega
  have e4 : (o == 4) = false := by rw [beq_eq_false_iff_ne]; omega
  have e5 : (o == 5) = false := by rw [beq_eq_false_iff_ne]; omega
  have e6 : (o == 6) = false := by rw [beq_eq_false_iff_ne]; omega
  have e7 : (o == 7) = false := by rw [beq_eq_false_iff_ne]; omega
  have e8 : (o == 8) = false := by rw [beq_eq_false_iff_ne]; omega
  have e9 : (o == 9) = false := by rw [beq_eq_false_iff_ne]; omega
  have e10 : (o == 10) = false := by rw [beq_eq_false_iff_ne]; omega
  clear ho
  unfold num at ha hb
  go_enter Try.func10, Try.ntmps10
  go_wp2
  exact bodyPost_ret (v := .tuple #[.int .u32 0, .int .i64 1]) (by simp [results, Try.results10, go_sem]) rfl ⟨rfl, Below.refl _ _⟩
theorem refDo_any (o a b : Int) (ha : num a) (hb : num b) (w : World) :
    Calls Try.prog 10 #[.int .u8 o, .int .u32 a, .int .u32 b] w fun e w' => e = .returned (.tuple #[.int .u32 (dov o a b), .int .i64 (doe o)]) ∧ Below w.heap.size w w' := by
  by_cases ho : 3 ≤ o ∧ o ≤ 10
  · rw [show doe o = 0 from if_pos ho]
    obtain rfl | rfl | rfl | rfl | rfl | rfl | rfl | rfl : o = 3 ∨ o = 4 ∨ o = 5 ∨ o = 6 ∨ o = 7 ∨ o = 8 ∨ o = 9 ∨ o = 10 := by omega
    · exact refDo_3 a b ha hb w
    · exact refDo_4 a b ha hb w
    · exact refDo_5 a b ha hb w
    · exact refDo_6 a b ha hb w
    · exact refDo_7 a b ha hb w
    · exact refDo_8 a b ha hb w
    · exact refDo_9 a b ha hb w
    · exact refDo_10 a b ha hb w
  · rw [show doe o = 1 from if_neg ho, show dov o a b = 0 by
      unfold dov
      rw [if_neg (by omega), if_neg (by omega), if_neg (by omega), if_neg (by omega), if_neg (by omega), if_neg (by omega), if_neg (by omega), if_neg (by omega)]]
    exact refDo_no o a b ho ha hb w
end Go.Proofs.Ytdpjkpekafgfeaa
