/- An image's lines, as they are written and read: by plain lists. No law of the program itself. -/
import Derived.Test.YtcjghnnliepjjaaGreatDoorParsePure
import Derived.Test.YtcjghnnliepjjaaGreatDoorTheory
namespace Go.Proofs.YtcjghnnliepjjaaGreatDoor
open Go Go.RowKit
set_option maxRecDepth 100000
set_option linter.unusedVariables false
theorem cut_at (c : UInt8) (a r : List UInt8) (h : c ∉ a) : Lib.cut (a ++ c :: r) [c] = (a, r, true) := by
  unfold Lib.cut
  rw [Lib.index_one, ixb_at c r a h, if_pos (by omega)]
  simp
theorem cut_no (c : UInt8) (a : List UInt8) (h : c ∉ a) : Lib.cut a [c] = (a, [], false) := by
  unfold Lib.cut
  rw [Lib.index_one, ixb_none c a h, if_neg (by omega)]
/-- digits of a number are read as it -/
theorem n31_snoc : ∀ (l : List UInt8) (acc : Nat) (c : UInt8), n31 acc (l ++ [c]) = (n31 acc l).bind fun u => if 48 ≤ c.toNat ∧ c.toNat ≤ 57 ∧ u * 10 + (c.toNat - 48) ≤ 2147483647 then some (u * 10 + (c.toNat - 48)) else none
  | [], acc, c => by simp [n31]
  | d :: l, acc, c => by
    rw [List.cons_append, n31, n31]
    split
    · exact n31_snoc l _ c
    · rfl
theorem digit_nat {k : Nat} (h : k < 10) : (UInt8.ofNat (48 + k)).toNat = 48 + k := by
  rw [UInt8.toNat_ofNat']; omega
theorem n31_dec : ∀ (u : Nat), u ≤ 2147483647 → n31 0 (Lib.decDigits u) = some u := by
  intro u
  induction u using Nat.strongRecOn with
  | _ u ih =>
    intro hu
    rw [Lib.decDigits]
    split
    · rename_i h
      rw [n31, digit_nat h, if_pos (by omega), n31]
      simp
    · rename_i h
      rw [n31_snoc, ih (u / 10) (by omega) (by omega)]
      simp only [Option.bind_some]
      rw [digit_nat (Nat.mod_lt _ (by decide)), if_pos (by omega)]
      congr 1
      omega
theorem dec_ne (u : Nat) : Lib.decDigits u ≠ [] := by
  rw [Lib.decDigits]; split <;> simp
theorem dec31_dec (u : Nat) (h : u ≤ 2147483647) : dec31 (Lib.decDigits u) = some u := by
  unfold dec31 d31
  rw [if_neg (dec_ne u), n31_dec u h]
  simp
theorem dec_mem : ∀ (u : Nat) (c : UInt8), c ∈ Lib.decDigits u → 48 ≤ c.toNat ∧ c.toNat ≤ 57 := by
  intro u
  induction u using Nat.strongRecOn with
  | _ u ih =>
    intro c hc
    rw [Lib.decDigits] at hc
    split at hc
    · rename_i h
      have : c = UInt8.ofNat (48 + u) := by simpa using hc
      rw [this, digit_nat h]; omega
    · rename_i h
      rcases List.mem_append.1 hc with hc | hc
      · exact ih (u / 10) (by omega) c hc
      · have : c = UInt8.ofNat (48 + u % 10) := by simpa using hc
        rw [this, digit_nat (Nat.mod_lt _ (by decide))]
        have := Nat.mod_lt u (show 10 > 0 by decide)
        omega
theorem itoa_mem2 (n : Int) (c : UInt8) (h : c ∈ Lib.itoa n) : c.toNat = 45 ∨ (48 ≤ c.toNat ∧ c.toNat ≤ 57) := by
  unfold Lib.itoa at h
  split at h
  · rcases List.mem_cons.1 h with rfl | h
    · exact Or.inl rfl
    · exact Or.inr (dec_mem _ c h)
  · exact Or.inr (dec_mem _ c h)
/-- two digits of a byte -/
def hx2 (b : Int) : List UInt8 := [hexL.getD (b / 16).toNat 0, hexL.getD (b % 16).toNat 0]
def hxs (bs : List Int) : List UInt8 := bs.flatMap hx2
theorem hexv_at (k : Nat) (h : k < 16) : hexv (hexL.getD k 0) = (k : Int) := by
  have : ∀ k : Fin 16, hexv (hexL.getD k.val 0) = (k.val : Int) := by decide
  exact this ⟨k, h⟩
theorem hexs_hxs : ∀ (bs : List Int), Bs bs → hexs (hxs bs) = some bs
  | [], _ => rfl
  | b :: bs, h => by
    have hb : byte b := h b (by simp)
    have ih := hexs_hxs bs (fun z hz => h z (by simp [hz]))
    obtain ⟨h0, h1⟩ := hb
    have e1 := hexv_at (b / 16).toNat (by omega)
    have e2 := hexv_at (b % 16).toNat (by omega)
    show hexs (hexL.getD (b / 16).toNat 0 :: hexL.getD (b % 16).toNat 0 :: hxs bs) = _
    rw [hexs, e1, e2, if_neg (by omega), ih]
    simp only [Option.map_some, Option.some.injEq, List.cons.injEq, and_true]
    omega
theorem hxs_mem {bs : List Int} (h : Bs bs) {c : UInt8} (hc : c ∈ hxs bs) : c ∈ hexL := by
  unfold hxs at hc
  obtain ⟨b, hb, hc⟩ := List.mem_flatMap.1 hc
  obtain ⟨h0, h1⟩ := h b hb
  have hl : hexL.length = 16 := rfl
  have g : ∀ k, k < 16 → hexL.getD k 0 ∈ hexL := fun k hk => by
    rw [List.getD_eq_getElem?_getD, List.getElem?_eq_getElem (by omega)]
    exact List.getElem_mem _
  unfold hx2 at hc
  rcases List.mem_cons.1 hc with rfl | hc
  · exact g _ (by omega)
  · have : c = hexL.getD (b % 16).toNat 0 := by simpa using hc
    rw [this]; exact g _ (by omega)
/-- the three kinds of lines -/
def szL (u : Nat) : List UInt8 := [115, 105, 122, 101] ++ 32 :: Lib.decDigits u
def daL (bs : List Int) : List UInt8 := [100, 97, 116, 97] ++ 32 :: hxs bs
def coL (o : Nat) (a b c : Int) : List UInt8 := (text o a b c).data.toList
theorem line_size (m : Im) (u : Nat) (h : u ≤ 2147483647) (hz : m.z = false) : lineI m (szL u) = some { m with n := u, z := true } := by
  have hc := cut_at 32 [115, 105, 122, 101] (Lib.decDigits u) (by decide)
  unfold lineI wordOf restOf szL
  rw [hc]
  simp only
  rw [if_pos trivial, dec31_dec u h]
  simp [hz]
theorem line_data (m : Im) (bs : List Int) (h : Bs bs) (h0 : bs ≠ []) : lineI m (daL bs) = some { m with ds := m.ds ++ bs } := by
  have hc := cut_at 32 [100, 97, 116, 97] (hxs bs) (by decide)
  unfold lineI wordOf restOf daL
  rw [hc]
  simp only
  rw [if_neg (by decide), if_pos trivial]
  unfold hex1
  rw [if_neg ?_, hexs_hxs bs h]
  cases bs with
  | nil => exact absurd rfl h0
  | cons b bs => simp [hxs, hx2]
/-- the first word of a text is its Op's -/
theorem word_no (o : Nat) (h : o < 23) : (fWord o).data.toList ≠ [115, 105, 122, 101] ∧ (fWord o).data.toList ≠ [100, 97, 116, 97] ∧ (fWord o).data.toList ≠ [] ∧ (10 : UInt8) ∉ (fWord o).data.toList ∧ (35 : UInt8) ∉ (fWord o).data.toList := by
  have : ∀ o : Fin 23, (fWord o.val).data.toList ≠ [115, 105, 122, 101] ∧ (fWord o.val).data.toList ≠ [100, 97, 116, 97] ∧ (fWord o.val).data.toList ≠ [] ∧ (10 : UInt8) ∉ (fWord o.val).data.toList ∧ (35 : UInt8) ∉ (fWord o.val).data.toList := by decide +kernel
  exact this ⟨o, h⟩
theorem line_code (m : Im) (o : Nat) (a b c : Int) (ha : byte a) (hb : byte b) (hc : byte c) (hm : may o a b c = true) : lineI m (coL o a b c) = some { m with cs := m.cs ++ [(o : Int), a, b, c], k := m.k + 1 } := by
  obtain ⟨ts, ho, e1, e2, _, e4⟩ := parts_of o a b c ha hb hc hm
  have hp := parse_text o a b c ha hb hc hm
  have hw := word_no o ho
  have h32 := (word_plain o ho).1
  have hword : wordOf (coL o a b c) = (fWord o).data.toList := by
    unfold wordOf coL
    rw [text_jn, e1, List.map_cons]
    show (Lib.cut (jn _) [32]).1 = _
    cases ts with
    | nil => rw [List.map_nil, jn_one, cut_no 32 _ h32]
    | cons t ts => rw [jn_cons _ _ (by simp), cut_at 32 _ _ h32]
  unfold lineI
  rw [hword, if_neg hw.1, if_neg hw.2.1]
  have e : (⟨(coL o a b c).toArray⟩ : ByteArray) = text o a b c := by unfold coL; cases text o a b c; simp
  rw [e, hp]
/-- a line that says something -/
def Clean (l : List UInt8) : Prop := (10 : UInt8) ∉ l ∧ idle l = false
theorem idle_cons (c : UInt8) (l : List UInt8) (h : c ≠ 35) : idle (c :: l) = false := by
  simp [idle, Lib.hasPrefix, List.isPrefixOf]
  exact fun e => h e.symm
theorem clean_size (u : Nat) : Clean (szL u) := by
  refine ⟨?_, idle_cons 115 _ (by decide)⟩
  unfold szL
  intro h
  rcases List.mem_append.1 h with h | h
  · revert h; decide
  · rcases List.mem_cons.1 h with h | h
    · revert h; decide
    · have := dec_mem u 10 h
      revert this; decide
theorem clean_data {bs : List Int} (hb : Bs bs) : Clean (daL bs) := by
  refine ⟨?_, idle_cons 100 _ (by decide)⟩
  unfold daL
  intro h
  rcases List.mem_append.1 h with h | h
  · revert h; decide
  · rcases List.mem_cons.1 h with h | h
    · revert h; decide
    · have := hxs_mem hb h
      revert this; decide
theorem wrt_all (P : ByteArray → Prop) (hk : ∀ k a b, P (kText k a b)) : ∀ (ks : List Nat) (bs : List Int) (acc : List ByteArray), (∀ w ∈ acc, P w) → ∀ w ∈ (wrt ks bs acc).2, P w
  | [], bs, acc, h => h
  | k :: ks, bs, acc, h => by
    rw [wrt]
    split
    · exact wrt_all P hk ks _ _ fun w hw => by
        rcases List.mem_append.1 hw with hw | hw
        · exact h w hw
        · have : w = kText k (bs.getD 0 0) (bs.getD 1 0) := by simpa using hw
          rw [this]; exact hk _ _ _
    · exact h
theorem ktext_ten (k : Nat) (a b : Int) : (10 : UInt8) ∉ (kText k a b).data.toList := by
  unfold kText
  intro h
  have e : (kMark k ++ ⟨(Lib.itoa (kNum k a b)).toArray⟩).data.toList = (kMark k).data.toList ++ Lib.itoa (kNum k a b) := by simp [ByteArray.data_append]
  rw [e] at h
  rcases List.mem_append.1 h with h | h
  · unfold kMark at h
    split at h
    · revert h; decide
    · revert h; decide
  · have := itoa_mem2 _ 10 h
    revert this; decide
theorem jn_mem {c : UInt8} (hc : c ≠ 32) : ∀ (ws : List (List UInt8)), (∀ w ∈ ws, c ∉ w) → c ∉ jn ws
  | [], _ => by simp [jn, Lib.join, List.intercalate]
  | [w], h => by rw [jn_one]; exact h w (by simp)
  | w :: x :: ws, h => by
    rw [jn_two]
    intro hm
    rcases List.mem_append.1 hm with hm | hm
    · exact h w (by simp) hm
    · rcases List.mem_cons.1 hm with hm | hm
      · exact hc hm
      · exact jn_mem hc (x :: ws) (fun y hy => h y (List.mem_cons_of_mem _ hy)) hm
theorem clean_code (o : Nat) (a b c : Int) (ha : byte a) (hb : byte b) (hc : byte c) (hm : may o a b c = true) : Clean (coL o a b c) := by
  obtain ⟨ts, ho, e1, e2, _, e4⟩ := parts_of o a b c ha hb hc hm
  have hw := word_no o ho
  have hall : ∀ w ∈ parts o a b c, (10 : UInt8) ∉ w.data.toList := by
    unfold parts
    refine wrt_all (fun w => (10 : UInt8) ∉ w.data.toList) ktext_ten _ _ _ fun w hw' => ?_
    have : w = fWord o := by simpa using hw'
    rw [this]; exact hw.2.2.2.1
  refine ⟨?_, ?_⟩
  · unfold coL
    rw [text_jn]
    show (10 : UInt8) ∉ jn _
    refine jn_mem (by decide) _ fun w hw' => ?_
    obtain ⟨t, ht, rfl⟩ := List.mem_map.1 hw'
    exact hall t ht
  · unfold coL
    rw [text_jn, e1, List.map_cons]
    show idle (jn _) = false
    obtain ⟨d, r, hd⟩ : ∃ d r, (fWord o).data.toList = d :: r := by
      cases h : (fWord o).data.toList with
      | nil => exact absurd h hw.2.2.1
      | cons d r => exact ⟨d, r, rfl⟩
    have hd35 : d ≠ 35 := by
      rintro rfl
      exact hw.2.2.2.2 (by rw [hd]; simp)
    cases ts with
    | nil => rw [List.map_nil, jn_one, hd]; exact idle_cons d r hd35
    | cons t ts => rw [jn_cons _ _ (by simp), hd]; exact idle_cons d _ hd35
/-- lines, one behind the other -/
def runI : Im → List (List UInt8) → Option Im
  | m, [] => some m
  | m, l :: ls => match lineI m l with | some m' => runI m' ls | none => none
theorem runI_append : ∀ (a b : List (List UInt8)) (m : Im), runI m (a ++ b) = (runI m a).bind fun m' => runI m' b
  | [], b, m => rfl
  | l :: a, b, m => by
    rw [List.cons_append, runI, runI]
    cases lineI m l with
    | none => rfl
    | some m' => exact runI_append a b m'
def aT (ls : List (List UInt8)) : List UInt8 := ls.flatMap fun l => l ++ [10]
theorem aT_cons (l : List UInt8) (ls : List (List UInt8)) : aT (l :: ls) = l ++ 10 :: aT ls := by simp [aT]
/-- a line that says something, at the head of a text -/
theorem parse_one {l : List UInt8} (h : Clean l) (r : List UInt8) (f : Nat) (m : Im) (i : Nat) : parseI (f + 1) m i (l ++ 10 :: r) = match lineI m l with | none => .inl i | some m' => parseI f m' (i + 1) r := by
  rw [parseI, if_neg (by simp), cut_at 10 l r h.1]
  simp only
  rw [if_neg (by rw [h.2]; decide)]
  cases lineI m l <;> rfl
theorem parse_end1 {l : List UInt8} (h : Clean l) (f : Nat) (m : Im) (i : Nat) : parseI (f + 1) m i l = match lineI m l with | none => .inl i | some m' => .inr m' := by
  have hne : l ≠ [] := by
    rintro rfl
    have := h.2
    revert this; decide
  rw [parseI, if_neg hne, cut_no 10 l h.1]
  simp only
  rw [if_neg (by rw [h.2]; decide)]
  cases lineI m l with
  | none => rfl
  | some m' => exact parse_end f m' (i + 1)
theorem parse_idle {l : List UInt8} (h : (10 : UInt8) ∉ l) (hi : idle l = true) (r : List UInt8) (f : Nat) (m : Im) (i : Nat) : parseI (f + 1) m i (l ++ 10 :: r) = parseI f m (i + 1) r := by
  rw [parseI, if_neg (by simp), cut_at 10 l r h]
  simp only
  rw [if_pos hi]
theorem parse_aT : ∀ (ls : List (List UInt8)) (m m' : Im) (i f : Nat), (∀ l ∈ ls, Clean l) → runI m ls = some m' → ls.length ≤ f → parseI f m i (aT ls) = .inr m'
  | [], m, m', i, f, _, h, _ => by
    simp only [runI, Option.some.injEq] at h
    subst h
    exact parse_end f m i
  | l :: ls, m, m', i, f, hc, h, hf => by
    obtain ⟨g, rfl⟩ : ∃ g, f = g + 1 := ⟨f - 1, by simp at hf; omega⟩
    rw [aT_cons, parse_one (hc l (by simp))]
    rw [runI] at h
    cases hl : lineI m l with
    | none => rw [hl] at h; cases h
    | some m1 =>
      rw [hl] at h
      exact parse_aT ls m1 m' (i + 1) g (fun x hx => hc x (by simp [hx])) h (by simp at hf; omega)
/-- the first line that is none is told -/
theorem parse_bad : ∀ (ls : List (List UInt8)) (m m' : Im) (i f : Nat) (l r : List UInt8), (∀ x ∈ ls, Clean x) → runI m ls = some m' → Clean l → lineI m' l = none → ls.length + 1 ≤ f → parseI f m i (aT ls ++ (l ++ 10 :: r)) = .inl (i + ls.length)
  | [], m, m', i, f, l, r, _, h, hl, hn, hf => by
    simp only [runI, Option.some.injEq] at h
    subst h
    obtain ⟨g, rfl⟩ : ∃ g, f = g + 1 := ⟨f - 1, by omega⟩
    show parseI (g + 1) m i (l ++ 10 :: r) = _
    rw [parse_one hl, hn]
    rfl
  | x :: ls, m, m', i, f, l, r, hc, h, hl, hn, hf => by
    obtain ⟨g, rfl⟩ : ∃ g, f = g + 1 := ⟨f - 1, by omega⟩
    rw [aT_cons, List.append_assoc, List.cons_append, parse_one (hc x (by simp))]
    rw [runI] at h
    cases hx : lineI m x with
    | none => rw [hx] at h; cases h
    | some m1 =>
      rw [hx] at h
      have := parse_bad ls m1 m' (i + 1) g l r (fun y hy => hc y (by simp [hy])) h hl hn (by simp at hf; omega)
      simp only
      rw [this, List.length_cons]
      congr 1
      omega
/-- each line behind a comment and an empty one; none behind the last one -/
def cm (l : List UInt8) : List UInt8 := 35 :: 32 :: l ++ 10 :: 10 :: l
def bT : List (List UInt8) → List UInt8
  | [] => []
  | [l] => cm l
  | l :: x :: ls => cm l ++ 10 :: bT (x :: ls)
theorem parse_cm {l : List UInt8} (h : Clean l) (r : List UInt8) (f : Nat) (m : Im) (i : Nat) : parseI (f + 2) m i (cm l ++ r) = parseI f m (i + 1 + 1) (l ++ r) := by
  have e : cm l ++ r = (35 :: 32 :: l) ++ 10 :: ([] ++ 10 :: (l ++ r)) := by simp [cm]
  rw [e, parse_idle (by simp; exact h.1) (by simp [idle, Lib.hasPrefix, List.isPrefixOf]), parse_idle (by simp) (by decide)]
theorem parse_bT : ∀ (ls : List (List UInt8)) (m m' : Im) (i f : Nat), (∀ l ∈ ls, Clean l) → runI m ls = some m' → 3 * ls.length ≤ f → parseI f m i (bT ls) = .inr m'
  | [], m, m', i, f, _, h, _ => by
    simp only [runI, Option.some.injEq] at h
    subst h
    exact parse_end f m i
  | [l], m, m', i, f, hc, h, hf => by
    obtain ⟨g, rfl⟩ : ∃ g, f = g + 1 + 2 := ⟨f - 3, by simp at hf; omega⟩
    have := parse_cm (hc l (by simp)) [] (g + 1) m i
    rw [List.append_nil, List.append_nil] at this
    show parseI (g + 1 + 2) m i (cm l) = _
    rw [this, parse_end1 (hc l (by simp))]
    rw [runI] at h
    cases hl : lineI m l with
    | none => rw [hl] at h; cases h
    | some m1 =>
      rw [hl] at h
      simp only [runI, Option.some.injEq] at h
      rw [h]
  | l :: x :: ls, m, m', i, f, hc, h, hf => by
    obtain ⟨g, rfl⟩ : ∃ g, f = g + 1 + 2 := ⟨f - 3, by simp at hf; omega⟩
    show parseI (g + 1 + 2) m i (cm l ++ 10 :: bT (x :: ls)) = _
    rw [parse_cm (hc l (by simp)), parse_one (hc l (by simp))]
    rw [runI] at h
    cases hl : lineI m l with
    | none => rw [hl] at h; cases h
    | some m1 =>
      rw [hl] at h
      exact parse_bT (x :: ls) m1 m' _ g (fun y hy => hc y (by simp [List.mem_cons.1 hy])) h (by simp at hf ⊢; omega)
end Go.Proofs.YtcjghnnliepjjaaGreatDoor
