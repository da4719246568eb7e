/- Texts in parts, and numbers in digits: what the laws of texts want of plain lists. No law of the program itself. -/
import Derived.Lib.Split
import Derived.Lib.SplitLaws
import Derived.Lib.Join
import Derived.Lib.AtoiAll
import Derived.Lib.ItoaNum
import Derived.Lib.IndexBytes
import Derived.Lib.ItoaMem
namespace Go.Proofs.YtcjghnnliepjjaaGreatDoor
open Go

theorem ixb_none (c : UInt8) : ∀ l : List UInt8, c ∉ l → Lib.indexByte l c = -1
  | [], _ => rfl
  | b :: l, h => by
    have h1 : ¬ b = c := fun e => h (by rw [e]; exact List.mem_cons_self ..)
    have h2 := ixb_none c l (fun e => h (List.mem_cons_of_mem _ e))
    rw [Lib.indexByte, h2]
    simp [h1]
theorem ixb_at (c : UInt8) (r : List UInt8) : ∀ a : List UInt8, c ∉ a → Lib.indexByte (a ++ c :: r) c = a.length
  | [], _ => by simp [Lib.indexByte]
  | b :: a, h => by
    have h1 : ¬ b = c := fun e => h (by rw [e]; exact List.mem_cons_self ..)
    have h2 := ixb_at c r a (fun e => h (List.mem_cons_of_mem _ e))
    rw [List.cons_append, Lib.indexByte, h2]
    have h3 : ¬ ((a.length : Int) = -1) := by omega
    simp [h1, h3]
theorem ixb_spec (c : UInt8) : ∀ l : List UInt8, Lib.indexByte l c = -1 ∨ ∃ a r, l = a ++ c :: r ∧ Lib.indexByte l c = a.length
  | [] => Or.inl rfl
  | b :: l => by
    by_cases hb : b = c
    · exact Or.inr ⟨[], l, by rw [hb]; rfl, by simp [Lib.indexByte, hb]⟩
    · rcases ixb_spec c l with h | ⟨a, r, h1, h2⟩
      · exact Or.inl (by rw [Lib.indexByte, h]; simp [hb])
      · refine Or.inr ⟨b :: a, r, by rw [h1]; rfl, ?_⟩
        have h3 : ¬ ((a.length : Int) = -1) := by omega
        rw [Lib.indexByte, h2]
        simp [hb, h3]
/-- words with a blank between each two -/
def jn (ws : List (List UInt8)) : List UInt8 := Lib.join ws [32]
theorem jn_one (w : List UInt8) : jn [w] = w := by simp [jn, Lib.join, List.intercalate]
theorem jn_two (w x : List UInt8) (ws : List (List UInt8)) : jn (w :: x :: ws) = w ++ 32 :: jn (x :: ws) := by
  simp [jn, Lib.join, List.intercalate, List.intersperse]
theorem jn_cons (w : List UInt8) (ws : List (List UInt8)) (h : ws ≠ []) : jn (w :: ws) = w ++ 32 :: jn ws := by
  cases ws with
  | nil => exact absurd rfl h
  | cons x xs => exact jn_two w x xs
/-- a text, cut at its first k blanks -/
def ct (k : Nat) (l : List UInt8) : List (List UInt8) := Lib.splitK [32] 0 k l
theorem ct_ne : ∀ k l, ct k l ≠ []
  | 0, l => by simp [ct, Lib.splitK]
  | k + 1, l => by unfold ct Lib.splitK; split <;> simp
theorem ct_none (k : Nat) (w : List UInt8) (h : (32 : UInt8) ∉ w) : ct k w = [w] := by
  cases k with
  | zero => rfl
  | succ k => unfold ct Lib.splitK; rw [Lib.index_one, ixb_none 32 w h]; rfl
theorem ct_at (k : Nat) (w r : List UInt8) (h : (32 : UInt8) ∉ w) : ct (k + 1) (w ++ 32 :: r) = w :: ct k r := by
  unfold ct
  rw [Lib.splitK, Lib.index_one, ixb_at 32 r w h]
  have h3 : ¬ ((w.length : Int) == -1) = true := by
    intro e
    have := beq_iff_eq.1 e
    omega
  rw [if_neg h3]
  simp
/-- words are cut apart again -/
theorem ct_jn : ∀ (ws : List (List UInt8)) (k : Nat), ws ≠ [] → (∀ w ∈ ws, (32 : UInt8) ∉ w) → ws.length ≤ k + 1 → ct k (jn ws) = ws
  | [], _, h, _, _ => absurd rfl h
  | [w], k, _, h, _ => by rw [jn_one]; exact ct_none k w (h w (List.mem_cons_self ..))
  | w :: x :: ws, 0, _, _, hl => by simp at hl
  | w :: x :: ws, k + 1, _, h, hl => by
    rw [jn_two, ct_at k w _ (h w (List.mem_cons_self ..)), ct_jn (x :: ws) k (by simp) (fun y hy => h y (List.mem_cons_of_mem _ hy)) (by simp at hl ⊢; omega)]
/-- what was cut is the text again -/
theorem jn_ct : ∀ (k : Nat) (l : List UInt8), jn (ct k l) = l
  | 0, l => jn_one l
  | k + 1, l => by
    rcases ixb_spec 32 l with h | ⟨a, r, h1, h2⟩
    · have e : ct (k + 1) l = [l] := by unfold ct Lib.splitK; rw [Lib.index_one, h]; rfl
      rw [e]; exact jn_one l
    · have e : ct (k + 1) l = a :: ct k r := by
        unfold ct
        rw [Lib.splitK, Lib.index_one, h2]
        have h3 : ¬ ((a.length : Int) == -1) = true := by
          intro e
          have := beq_iff_eq.1 e
          omega
        rw [if_neg h3, h1]
        simp
      rw [e, jn_cons _ _ (ct_ne k r), jn_ct k r, h1]
theorem jn_length : ∀ ws : List (List UInt8), ws.length ≤ (jn ws).length + 1
  | [] => by simp
  | [w] => by simp
  | w :: x :: ws => by
    have := jn_length (x :: ws)
    rw [jn_two]
    simp at this ⊢
    omega
/-- digits -/
theorem dig_toNat (d : Nat) (h : d < 10) : (UInt8.ofNat (48 + d)).toNat = 48 + d := by
  rw [UInt8.toNat_ofNat']; omega
theorem decDigits_small (u : Nat) (h : u < 10) : Lib.decDigits u = [UInt8.ofNat (48 + u)] := by rw [Lib.decDigits, dif_pos h]
theorem decDigits_big (u : Nat) (h : ¬ u < 10) : Lib.decDigits u = Lib.decDigits (u / 10) ++ [UInt8.ofNat (48 + u % 10)] := by rw [Lib.decDigits, dif_neg h]
theorem decDigits_mem (u : Nat) : ∀ c ∈ Lib.decDigits u, 48 ≤ c.toNat ∧ c.toNat ≤ 57 := by
  induction u using Nat.strongRecOn with
  | _ u ih =>
    intro c hc
    by_cases h : u < 10
    · rw [decDigits_small u h] at hc
      obtain rfl := List.mem_singleton.1 hc
      rw [dig_toNat u h]; omega
    · rw [decDigits_big u h, List.mem_append] at hc
      rcases hc with hc | hc
      · exact ih (u / 10) (by omega) c hc
      · obtain rfl := List.mem_singleton.1 hc
        rw [dig_toNat _ (by omega)]; omega
theorem decDigits_ne (u : Nat) : Lib.decDigits u ≠ [] := by
  by_cases h : u < 10
  · rw [decDigits_small u h]; simp
  · rw [decDigits_big u h]; simp
theorem pu_step (acc d : Nat) (r : List UInt8) (hd : d < 10) (ha : acc ≤ 1000000000000000000) :
    Lib.parseUint10 acc (UInt8.ofNat (48 + d) :: r) = Lib.parseUint10 (acc * 10 + d) r := by
  rw [Lib.parseUint10, dig_toNat d hd, if_pos (by omega), if_neg (by omega), if_neg (by omega)]
  congr 1
  omega
theorem pu_dig (u : Nat) (h : u ≤ 1000000000000000000) (r : List UInt8) : Lib.parseUint10 0 (Lib.decDigits u ++ r) = Lib.parseUint10 u r := by
  induction u using Nat.strongRecOn generalizing r with
  | _ u ih =>
    by_cases h10 : u < 10
    · rw [decDigits_small u h10, List.singleton_append, pu_step 0 u r h10 (by omega)]
      congr 1
      omega
    · rw [decDigits_big u h10, List.append_assoc, ih (u / 10) (by omega) (by omega), List.singleton_append, pu_step _ _ r (by omega) (by omega)]
      congr 1
      omega
theorem mag_dig (u : Nat) (h : u ≤ 1000000000000000000) : Lib.parseMag (Lib.decDigits u) = .ok u := by
  unfold Lib.parseMag
  rw [if_neg (decDigits_ne u)]
  have := pu_dig u h []
  rw [List.append_nil] at this
  rw [this]; rfl
theorem atoi_pos (u : Nat) (h : u ≤ 1000000000000000000) : Lib.atoiAll (Lib.decDigits u) = .ok u := by
  obtain ⟨c, r, hcr⟩ : ∃ c r, Lib.decDigits u = c :: r := List.exists_cons_of_ne_nil (decDigits_ne u)
  have hm := decDigits_mem u c (by rw [hcr]; exact List.mem_cons_self ..)
  have hg := mag_dig u h
  rw [hcr] at hg ⊢
  have e1 : ¬ (c.toNat = 43 ∨ c.toNat = 45) := by omega
  have e2 : ¬ c.toNat = 45 := by omega
  simp only [Lib.atoiAll]
  rw [if_neg e1, hg]
  simp [e2]
  omega
theorem atoi_neg (u : Nat) (h : u ≤ 1000000000000000000) : Lib.atoiAll (45 :: Lib.decDigits u) = .ok (-(u : Int)) := by
  have hg := mag_dig u h
  unfold Lib.atoiAll
  have e1 : (45 : UInt8).toNat = 45 := rfl
  simp only [e1, or_true, if_true, hg]
  simp
  omega
theorem atoi_itoa (n : Int) (h0 : -1000000000000000000 ≤ n) (h1 : n ≤ 1000000000000000000) : Lib.atoiAll (Lib.itoa n) = .ok n := by
  unfold Lib.itoa
  split
  · rw [atoi_neg _ (by omega)]; congr 1; omega
  · rw [atoi_pos _ (by omega)]; congr 1; omega
theorem itoa_mem (n : Int) : ∀ c ∈ Lib.itoa n, (48 ≤ c.toNat ∧ c.toNat ≤ 57) ∨ c.toNat = 45 := by
  intro c hc
  unfold Lib.itoa at hc
  split at hc
  · rcases List.mem_cons.1 hc with rfl | hc
    · exact Or.inr rfl
    · exact Or.inl (decDigits_mem _ c hc)
  · exact Or.inl (decDigits_mem _ c hc)
theorem itoa_ne (n : Int) : Lib.itoa n ≠ [] := by unfold Lib.itoa; split <;> simp [decDigits_ne]
theorem itoa_tail (n : Int) (x : UInt8) (l : List UInt8) (h : Lib.itoa n = x :: l) : ∀ c ∈ l, 48 ≤ c.toNat ∧ c.toNat ≤ 57 := by
  intro c hc
  unfold Lib.itoa at h
  split at h
  · injection h with _ h
    rw [← h] at hc
    exact decDigits_mem _ c hc
  · exact decDigits_mem _ c (by rw [h]; exact List.mem_cons_of_mem _ hc)
theorem no_blank_itoa (n : Int) : (32 : UInt8) ∉ Lib.itoa n := fun h => by
  rcases itoa_mem n 32 h with h | h
  · exact absurd h.1 (by decide)
  · exact absurd h (by decide)
theorem decDigits_len (u : Nat) (h : u < 100000) : (Lib.decDigits u).length ≤ 5 := by
  by_cases h1 : u < 10
  · rw [decDigits_small u h1]; simp
  rw [decDigits_big u h1, List.length_append, List.length_singleton]
  by_cases h2 : u / 10 < 10
  · rw [decDigits_small _ h2]; simp
  rw [decDigits_big _ h2, List.length_append, List.length_singleton]
  by_cases h3 : u / 10 / 10 < 10
  · rw [decDigits_small _ h3]; simp
  rw [decDigits_big _ h3, List.length_append, List.length_singleton]
  by_cases h4 : u / 10 / 10 / 10 < 10
  · rw [decDigits_small _ h4]; simp
  rw [decDigits_big _ h4, decDigits_small _ (by omega)]
  simp
theorem itoa_len (n : Int) (h0 : -100000 < n) (h1 : n < 100000) : (Lib.itoa n).length ≤ 6 := by
  unfold Lib.itoa
  split
  · have := decDigits_len n.natAbs (by omega)
    simp; omega
  · have := decDigits_len n.toNat (by omega)
    omega
end Go.Proofs.YtcjghnnliepjjaaGreatDoor
