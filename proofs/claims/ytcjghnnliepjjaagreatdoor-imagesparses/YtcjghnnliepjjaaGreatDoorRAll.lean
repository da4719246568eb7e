/- The document's own reader of lines. -/
import Derived.Test.YtcjghnnliepjjaaGreatDoorParsePure
import Derived.Test.YtcjghnnliepjjaaGreatDoorTheory
import Derived.Test.YtcjghnnliepjjaaGreatDoorRef
import Derived.Laws.Strings2
import Derived.Deep.QuietTactic
import Derived.BigQuiet
import Derived.Deep.CutRange
import Derived.Deep.RegionWith
import Derived.Deep.DeepCutAuto
import Derived.Maps.AppendAt
import Derived.OwnWalk
import Derived.Laws.Strings3
import Derived.Test.YtcjghnnliepjjaaGreatDoorHexW
import Derived.Test.YtcjghnnliepjjaaGreatDoorRegs
import Derived.Test.YtcjghnnliepjjaaGreatDoorRdW
import Derived.Test.YtcjghnnliepjjaaGreatDoorRefC
namespace Go.Proofs.YtcjghnnliepjjaaGreatDoor
open Go Go.RowKit
set_option maxRecDepth 100000
set_option linter.unusedVariables false
theorem cut_at (c : UInt8) (a r : List UInt8) (h : c ∉ a) : Lib.cut (a ++ c :: r) [c] = (a, r, true) := by
  unfold Lib.cut
  rw [Lib.index_one, ixb_at c r a h, if_pos (by omega)]
  simp
theorem cut_no (c : UInt8) (a : List UInt8) (h : c ∉ a) : Lib.cut a [c] = (a, [], false) := by
  unfold Lib.cut
  rw [Lib.index_one, ixb_none c a h, if_neg (by omega)]
/-- digits of a number are read as it -/
theorem n31_snoc : ∀ (l : List UInt8) (acc : Nat) (c : UInt8), n31 acc (l ++ [c]) = (n31 acc l).bind fun u => if 48 ≤ c.toNat ∧ c.toNat ≤ 57 ∧ u * 10 + (c.toNat - 48) ≤ 2147483647 then some (u * 10 + (c.toNat - 48)) else none
  | [], acc, c => by simp [n31]
  | d :: l, acc, c => by
    rw [List.cons_append, n31, n31]
    split
    · exact n31_snoc l _ c
    · rfl
theorem digit_nat {k : Nat} (h : k < 10) : (UInt8.ofNat (48 + k)).toNat = 48 + k := by
  rw [UInt8.toNat_ofNat']; omega
theorem n31_dec : ∀ (u : Nat), u ≤ 2147483647 → n31 0 (Lib.decDigits u) = some u := by
  intro u
  induction u using Nat.strongRecOn with
  | _ u ih =>
    intro hu
    rw [Lib.decDigits]
    split
    · rename_i h
      rw [n31, digit_nat h, if_pos (by omega), n31]
      simp
    · rename_i h
      rw [n31_snoc, ih (u / 10) (by omega) (by omega)]
      simp only [Option.bind_some]
      rw [digit_nat (Nat.mod_lt _ (by decide)), if_pos (by omega)]
      congr 1
      omega
theorem dec_ne (u : Nat) : Lib.decDigits u ≠ [] := by
  rw [Lib.decDigits]; split <;> simp
theorem dec31_dec (u : Nat) (h : u ≤ 2147483647) : dec31 (Lib.decDigits u) = some u := by
  unfold dec31 d31
  rw [if_neg (dec_ne u), n31_dec u h]
  simp
theorem dec_mem : ∀ (u : Nat) (c : UInt8), c ∈ Lib.decDigits u → 48 ≤ c.toNat ∧ c.toNat ≤ 57 := by
  intro u
  induction u using Nat.strongRecOn with
  | _ u ih =>
    intro c hc
    rw [Lib.decDigits] at hc
    split at hc
    · rename_i h
      have : c = UInt8.ofNat (48 + u) := by simpa using hc
      rw [this, digit_nat h]; omega
    · rename_i h
      rcases List.mem_append.1 hc with hc | hc
      · exact ih (u / 10) (by omega) c hc
      · have : c = UInt8.ofNat (48 + u % 10) := by simpa using hc
        rw [this, digit_nat (Nat.mod_lt _ (by decide))]
        have := Nat.mod_lt u (show 10 > 0 by decide)
        omega
theorem itoa_mem2 (n : Int) (c : UInt8) (h : c ∈ Lib.itoa n) : c.toNat = 45 ∨ (48 ≤ c.toNat ∧ c.toNat ≤ 57) := by
  unfold Lib.itoa at h
  split at h
  · rcases List.mem_cons.1 h with rfl | h
    · exact Or.inl rfl
    · exact Or.inr (dec_mem _ c h)
  · exact Or.inr (dec_mem _ c h)
/-- two digits of a byte -/
def hx2 (b : Int) : List UInt8 := [hexL.getD (b / 16).toNat 0, hexL.getD (b % 16).toNat 0]
def hxs (bs : List Int) : List UInt8 := bs.flatMap hx2
theorem hexv_at (k : Nat) (h : k < 16) : hexv (hexL.getD k 0) = (k : Int) := by
  have : ∀ k : Fin 16, hexv (hexL.getD k.val 0) = (k.val : Int) := by decide
  exact this ⟨k, h⟩
theorem hexs_hxs : ∀ (bs : List Int), Bs bs → hexs (hxs bs) = some bs
  | [], _ => rfl
  | b :: bs, h => by
    have hb : byte b := h b (by simp)
    have ih := hexs_hxs bs (fun z hz => h z (by simp [hz]))
    obtain ⟨h0, h1⟩ := hb
    have e1 := hexv_at (b / 16).toNat (by omega)
    have e2 := hexv_at (b % 16).toNat (by omega)
    show hexs (hexL.getD (b / 16).toNat 0 :: hexL.getD (b % 16).toNat 0 :: hxs bs) = _
    rw [hexs, e1, e2, if_neg (by omega), ih]
    simp only [Option.map_some, Option.some.injEq, List.cons.injEq, and_true]
    omega
theorem hxs_mem {bs : List Int} (h : Bs bs) {c : UInt8} (hc : c ∈ hxs bs) : c ∈ hexL := by
  unfold hxs at hc
  obtain ⟨b, hb, hc⟩ := List.mem_flatMap.1 hc
  obtain ⟨h0, h1⟩ := h b hb
  have hl : hexL.length = 16 := rfl
  have g : ∀ k, k < 16 → hexL.getD k 0 ∈ hexL := fun k hk => by
    rw [List.getD_eq_getElem?_getD, List.getElem?_eq_getElem (by omega)]
    exact List.getElem_mem _
  unfold hx2 at hc
  rcases List.mem_cons.1 hc with rfl | hc
  · exact g _ (by omega)
  · have : c = hexL.getD (b % 16).toNat 0 := by simpa using hc
    rw [this]; exact g _ (by omega)
/-- the three kinds of lines -/
def szL (u : Nat) : List UInt8 := [115, 105, 122, 101] ++ 32 :: Lib.decDigits u
def daL (bs : List Int) : List UInt8 := [100, 97, 116, 97] ++ 32 :: hxs bs
def coL (o : Nat) (a b c : Int) : List UInt8 := (text o a b c).data.toList
theorem line_size (m : Im) (u : Nat) (h : u ≤ 2147483647) (hz : m.z = false) : lineI m (szL u) = some { m with n := u, z := true } := by
  have hc := cut_at 32 [115, 105, 122, 101] (Lib.decDigits u) (by decide)
  unfold lineI wordOf restOf szL
  rw [hc]
  simp only
  rw [if_pos trivial, dec31_dec u h]
  simp [hz]
theorem line_data (m : Im) (bs : List Int) (h : Bs bs) (h0 : bs ≠ []) : lineI m (daL bs) = some { m with ds := m.ds ++ bs } := by
  have hc := cut_at 32 [100, 97, 116, 97] (hxs bs) (by decide)
  unfold lineI wordOf restOf daL
  rw [hc]
  simp only
  rw [if_neg (by decide), if_pos trivial]
  unfold hex1
  rw [if_neg ?_, hexs_hxs bs h]
  cases bs with
  | nil => exact absurd rfl h0
  | cons b bs => simp [hxs, hx2]
/-- the first word of a text is its Op's -/
theorem word_no (o : Nat) (h : o < 23) : (fWord o).data.toList ≠ [115, 105, 122, 101] ∧ (fWord o).data.toList ≠ [100, 97, 116, 97] ∧ (fWord o).data.toList ≠ [] ∧ (10 : UInt8) ∉ (fWord o).data.toList ∧ (35 : UInt8) ∉ (fWord o).data.toList := by
  have : ∀ o : Fin 23, (fWord o.val).data.toList ≠ [115, 105, 122, 101] ∧ (fWord o.val).data.toList ≠ [100, 97, 116, 97] ∧ (fWord o.val).data.toList ≠ [] ∧ (10 : UInt8) ∉ (fWord o.val).data.toList ∧ (35 : UInt8) ∉ (fWord o.val).data.toList := by decide +kernel
  exact this ⟨o, h⟩
theorem line_code (m : Im) (o : Nat) (a b c : Int) (ha : byte a) (hb : byte b) (hc : byte c) (hm : may o a b c = true) : lineI m (coL o a b c) = some { m with cs := m.cs ++ [(o : Int), a, b, c], k := m.k + 1 } := by
  obtain ⟨ts, ho, e1, e2, _, e4⟩ := parts_of o a b c ha hb hc hm
  have hp := parse_text o a b c ha hb hc hm
  have hw := word_no o ho
  have h32 := (word_plain o ho).1
  have hword : wordOf (coL o a b c) = (fWord o).data.toList := by
    unfold wordOf coL
    rw [text_jn, e1, List.map_cons]
    show (Lib.cut (jn _) [32]).1 = _
    cases ts with
    | nil => rw [List.map_nil, jn_one, cut_no 32 _ h32]
    | cons t ts => rw [jn_cons _ _ (by simp), cut_at 32 _ _ h32]
  unfold lineI
  rw [hword, if_neg hw.1, if_neg hw.2.1]
  have e : (⟨(coL o a b c).toArray⟩ : ByteArray) = text o a b c := by unfold coL; cases text o a b c; simp
  rw [e, hp]
/-- a line that says something -/
def Clean (l : List UInt8) : Prop := (10 : UInt8) ∉ l ∧ idle l = false
theorem idle_cons (c : UInt8) (l : List UInt8) (h : c ≠ 35) : idle (c :: l) = false := by
  simp [idle, Lib.hasPrefix, List.isPrefixOf]
  exact fun e => h e.symm
theorem clean_size (u : Nat) : Clean (szL u) := by
  refine ⟨?_, idle_cons 115 _ (by decide)⟩
  unfold szL
  intro h
  rcases List.mem_append.1 h with h | h
  · revert h; decide
  · rcases List.mem_cons.1 h with h | h
    · revert h; decide
    · have := dec_mem u 10 h
      revert this; decide
theorem clean_data {bs : List Int} (hb : Bs bs) : Clean (daL bs) := by
  refine ⟨?_, idle_cons 100 _ (by decide)⟩
  unfold daL
  intro h
  rcases List.mem_append.1 h with h | h
  · revert h; decide
  · rcases List.mem_cons.1 h with h | h
    · revert h; decide
    · have := hxs_mem hb h
      revert this; decide
theorem wrt_all (P : ByteArray → Prop) (hk : ∀ k a b, P (kText k a b)) : ∀ (ks : List Nat) (bs : List Int) (acc : List ByteArray), (∀ w ∈ acc, P w) → ∀ w ∈ (wrt ks bs acc).2, P w
  | [], bs, acc, h => h
  | k :: ks, bs, acc, h => by
    rw [wrt]
    split
    · exact wrt_all P hk ks _ _ fun w hw => by
        rcases List.mem_append.1 hw with hw | hw
        · exact h w hw
        · have : w = kText k (bs.getD 0 0) (bs.getD 1 0) := by simpa using hw
          rw [this]; exact hk _ _ _
    · exact h
theorem ktext_ten (k : Nat) (a b : Int) : (10 : UInt8) ∉ (kText k a b).data.toList := by
  unfold kText
  intro h
  have e : (kMark k ++ ⟨(Lib.itoa (kNum k a b)).toArray⟩).data.toList = (kMark k).data.toList ++ Lib.itoa (kNum k a b) := by simp [ByteArray.data_append]
  rw [e] at h
  rcases List.mem_append.1 h with h | h
  · unfold kMark at h
    split at h
    · revert h; decide
    · revert h; decide
  · have := itoa_mem2 _ 10 h
    revert this; decide
theorem jn_mem {c : UInt8} (hc : c ≠ 32) : ∀ (ws : List (List UInt8)), (∀ w ∈ ws, c ∉ w) → c ∉ jn ws
  | [], _ => by simp [jn, Lib.join, List.intercalate]
  | [w], h => by rw [jn_one]; exact h w (by simp)
  | w :: x :: ws, h => by
    rw [jn_two]
    intro hm
    rcases List.mem_append.1 hm with hm | hm
    · exact h w (by simp) hm
    · rcases List.mem_cons.1 hm with hm | hm
      · exact hc hm
      · exact jn_mem hc (x :: ws) (fun y hy => h y (List.mem_cons_of_mem _ hy)) hm
theorem clean_code (o : Nat) (a b c : Int) (ha : byte a) (hb : byte b) (hc : byte c) (hm : may o a b c = true) : Clean (coL o a b c) := by
  obtain ⟨ts, ho, e1, e2, _, e4⟩ := parts_of o a b c ha hb hc hm
  have hw := word_no o ho
  have hall : ∀ w ∈ parts o a b c, (10 : UInt8) ∉ w.data.toList := by
    unfold parts
    refine wrt_all (fun w => (10 : UInt8) ∉ w.data.toList) ktext_ten _ _ _ fun w hw' => ?_
    have : w = fWord o := by simpa using hw'
    rw [this]; exact hw.2.2.2.1
  refine ⟨?_, ?_⟩
  · unfold coL
    rw [text_jn]
    show (10 : UInt8) ∉ jn _
    refine jn_mem (by decide) _ fun w hw' => ?_
    obtain ⟨t, ht, rfl⟩ := List.mem_map.1 hw'
    exact hall t ht
  · unfold coL
    rw [text_jn, e1, List.map_cons]
    show idle (jn _) = false
    obtain ⟨d, r, hd⟩ : ∃ d r, (fWord o).data.toList = d :: r := by
      cases h : (fWord o).data.toList with
      | nil => exact absurd h hw.2.2.1
      | cons d r => exact ⟨d, r, rfl⟩
    have hd35 : d ≠ 35 := by
      rintro rfl
      exact hw.2.2.2.2 (by rw [hd]; simp)
    cases ts with
    | nil => rw [List.map_nil, jn_one, hd]; exact idle_cons d r hd35
    | cons t ts => rw [jn_cons _ _ (by simp), hd]; exact idle_cons d _ hd35
/-- lines, one behind the other -/
def runI : Im → List (List UInt8) → Option Im
  | m, [] => some m
  | m, l :: ls => match lineI m l with | some m' => runI m' ls | none => none
theorem runI_append : ∀ (a b : List (List UInt8)) (m : Im), runI m (a ++ b) = (runI m a).bind fun m' => runI m' b
  | [], b, m => rfl
  | l :: a, b, m => by
    rw [List.cons_append, runI, runI]
    cases lineI m l with
    | none => rfl
    | some m' => exact runI_append a b m'
def aT (ls : List (List UInt8)) : List UInt8 := ls.flatMap fun l => l ++ [10]
theorem aT_cons (l : List UInt8) (ls : List (List UInt8)) : aT (l :: ls) = l ++ 10 :: aT ls := by simp [aT]
/-- a line that says something, at the head of a text -/
theorem parse_one {l : List UInt8} (h : Clean l) (r : List UInt8) (f : Nat) (m : Im) (i : Nat) : parseI (f + 1) m i (l ++ 10 :: r) = match lineI m l with | none => .inl i | some m' => parseI f m' (i + 1) r := by
  rw [parseI, if_neg (by simp), cut_at 10 l r h.1]
  simp only
  rw [if_neg (by rw [h.2]; decide)]
  cases lineI m l <;> rfl
theorem parse_end1 {l : List UInt8} (h : Clean l) (f : Nat) (m : Im) (i : Nat) : parseI (f + 1) m i l = match lineI m l with | none => .inl i | some m' => .inr m' := by
  have hne : l ≠ [] := by
    rintro rfl
    have := h.2
    revert this; decide
  rw [parseI, if_neg hne, cut_no 10 l h.1]
  simp only
  rw [if_neg (by rw [h.2]; decide)]
  cases lineI m l with
  | none => rfl
  | some m' => exact parse_end f m' (i + 1)
theorem parse_idle {l : List UInt8} (h : (10 : UInt8) ∉ l) (hi : idle l = true) (r : List UInt8) (f : Nat) (m : Im) (i : Nat) : parseI (f + 1) m i (l ++ 10 :: r) = parseI f m (i + 1) r := by
  rw [parseI, if_neg (by simp), cut_at 10 l r h]
  simp only
  rw [if_pos hi]
theorem parse_aT : ∀ (ls : List (List UInt8)) (m m' : Im) (i f : Nat), (∀ l ∈ ls, Clean l) → runI m ls = some m' → ls.length ≤ f → parseI f m i (aT ls) = .inr m'
  | [], m, m', i, f, _, h, _ => by
    simp only [runI, Option.some.injEq] at h
    subst h
    exact parse_end f m i
  | l :: ls, m, m', i, f, hc, h, hf => by
    obtain ⟨g, rfl⟩ : ∃ g, f = g + 1 := ⟨f - 1, by simp at hf; omega⟩
    rw [aT_cons, parse_one (hc l (by simp))]
    rw [runI] at h
    cases hl : lineI m l with
    | none => rw [hl] at h; cases h
    | some m1 =>
      rw [hl] at h
      exact parse_aT ls m1 m' (i + 1) g (fun x hx => hc x (by simp [hx])) h (by simp at hf; omega)
/-- the first line that is none is told -/
theorem parse_bad : ∀ (ls : List (List UInt8)) (m m' : Im) (i f : Nat) (l r : List UInt8), (∀ x ∈ ls, Clean x) → runI m ls = some m' → Clean l → lineI m' l = none → ls.length + 1 ≤ f → parseI f m i (aT ls ++ (l ++ 10 :: r)) = .inl (i + ls.length)
  | [], m, m', i, f, l, r, _, h, hl, hn, hf => by
    simp only [runI, Option.some.injEq] at h
    subst h
    obtain ⟨g, rfl⟩ : ∃ g, f = g + 1 := ⟨f - 1, by omega⟩
    show parseI (g + 1) m i (l ++ 10 :: r) = _
    rw [parse_one hl, hn]
    rfl
  | x :: ls, m, m', i, f, l, r, hc, h, hl, hn, hf => by
    obtain ⟨g, rfl⟩ : ∃ g, f = g + 1 := ⟨f - 1, by omega⟩
    rw [aT_cons, List.append_assoc, List.cons_append, parse_one (hc x (by simp))]
    rw [runI] at h
    cases hx : lineI m x with
    | none => rw [hx] at h; cases h
    | some m1 =>
      rw [hx] at h
      have := parse_bad ls m1 m' (i + 1) g l r (fun y hy => hc y (by simp [hy])) h hl hn (by simp at hf; omega)
      simp only
      rw [this, List.length_cons]
      congr 1
      omega
/-- each line behind a comment and an empty one; none behind the last one -/
def cm (l : List UInt8) : List UInt8 := 35 :: 32 :: l ++ 10 :: 10 :: l
def bT : List (List UInt8) → List UInt8
  | [] => []
  | [l] => cm l
  | l :: x :: ls => cm l ++ 10 :: bT (x :: ls)
theorem parse_cm {l : List UInt8} (h : Clean l) (r : List UInt8) (f : Nat) (m : Im) (i : Nat) : parseI (f + 2) m i (cm l ++ r) = parseI f m (i + 1 + 1) (l ++ r) := by
  have e : cm l ++ r = (35 :: 32 :: l) ++ 10 :: ([] ++ 10 :: (l ++ r)) := by simp [cm]
  rw [e, parse_idle (by simp; exact h.1) (by simp [idle, Lib.hasPrefix, List.isPrefixOf]), parse_idle (by simp) (by decide)]
theorem parse_bT : ∀ (ls : List (List UInt8)) (m m' : Im) (i f : Nat), (∀ l ∈ ls, Clean l) → runI m ls = some m' → 3 * ls.length ≤ f → parseI f m i (bT ls) = .inr m'
  | [], m, m', i, f, _, h, _ => by
    simp only [runI, Option.some.injEq] at h
    subst h
    exact parse_end f m i
  | [l], m, m', i, f, hc, h, hf => by
    obtain ⟨g, rfl⟩ : ∃ g, f = g + 1 + 2 := ⟨f - 3, by simp at hf; omega⟩
    have := parse_cm (hc l (by simp)) [] (g + 1) m i
    rw [List.append_nil, List.append_nil] at this
    show parseI (g + 1 + 2) m i (cm l) = _
    rw [this, parse_end1 (hc l (by simp))]
    rw [runI] at h
    cases hl : lineI m l with
    | none => rw [hl] at h; cases h
    | some m1 =>
      rw [hl] at h
      simp only [runI, Option.some.injEq] at h
      rw [h]
  | l :: x :: ls, m, m', i, f, hc, h, hf => by
    obtain ⟨g, rfl⟩ : ∃ g, f = g + 1 + 2 := ⟨f - 3, by simp at hf; omega⟩
    show parseI (g + 1 + 2) m i (cm l ++ 10 :: bT (x :: ls)) = _
    rw [parse_cm (hc l (by simp)), parse_one (hc l (by simp))]
    rw [runI] at h
    cases hl : lineI m l with
    | none => rw [hl] at h; cases h
    | some m1 =>
      rw [hl] at h
      exact parse_bT (x :: ls) m1 m' _ g (fun y hy => hc y (by simp [List.mem_cons.1 hy])) h (by simp at hf ⊢; omega)
end Go.Proofs.YtcjghnnliepjjaaGreatDoor
namespace Go.Proofs.YtcjghnnliepjjaaGreatDoor
open Go Go.RowKit
set_option maxRecDepth 100000
set_option linter.unusedSimpArgs false
set_option linter.unusedVariables false
/-- where the last blank is, of the first so many -/
def la (l : List UInt8) : Nat → Int
  | 0 => -1
  | i + 1 => if l[i]? = some 32 then i else la l i
theorem la_bd (l : List UInt8) : ∀ i, -1 ≤ la l i ∧ la l i < i
  | 0 => by simp [la]
  | i + 1 => by
    have := la_bd l i
    rw [la]; split <;> omega
theorem la_none (l : List UInt8) (h : (32 : UInt8) ∉ l) : ∀ i, la l i = -1
  | 0 => rfl
  | i + 1 => by
    rw [la, if_neg (fun e => h (List.mem_of_getElem? e))]
    exact la_none l h i
theorem la_last (a b : List UInt8) (h : (32 : UInt8) ∉ b) : ∀ k, k ≤ b.length → la (a ++ 32 :: b) (a.length + 1 + k) = a.length
  | 0, _ => by
    rw [show a.length + 1 + 0 = a.length + 1 by omega, la, if_pos (by simp)]
  | k + 1, hk => by
    rw [show a.length + 1 + (k + 1) = (a.length + 1 + k) + 1 by omega, la, if_neg]
    · exact la_last a b h k (by omega)
    · intro e
      rw [List.getElem?_append_right (by omega), show a.length + 1 + k - a.length = k + 1 by omega, List.getElem?_cons_succ] at e
      exact h (List.mem_of_getElem? e)
theorem jn_snoc : ∀ (ws : List (List UInt8)) (x : List UInt8), ws ≠ [] → jn (ws ++ [x]) = jn ws ++ 32 :: x
  | [], _, h => absurd rfl h
  | [w], x, _ => by rw [List.singleton_append, jn_two, jn_one, jn_one]
  | w :: y :: ws, x, _ => by
    have := jn_snoc (y :: ws) x (by simp)
    rw [List.cons_append, List.cons_append, jn_two, jn_two]
    rw [List.cons_append] at this
    rw [this]
    simp
theorem prs_len (w : ByteArray) (ts : List ByteArray) (o : Nat) (ho : opOf w.data.toList = some o) (h : ts.length ≠ (ksOf o).length) : prs (w :: ts) = none := by
  rw [prs, ho]
  simp only
  rw [if_neg (Ne.symm h)]
theorem rd_nil (k : Nat) : rd k [] = none := by
  cases h : rd k [] with
  | none => rfl
  | some n =>
    have := (rd_some h).1
    have hne := itoa_ne n
    simp at this
    exact absurd this.2 hne
theorem rdAll_last : ∀ (ks : List Nat) (ts : List ByteArray) (t : ByteArray) (acc : List Int), ts.length + 1 = ks.length → t.data.toList = [] → rdAll ks (ts ++ [t]) acc = none
  | [], ts, t, acc, h, _ => by simp at h
  | [k], [], t, acc, _, ht => by
    rw [List.nil_append, rdAll, ht, rd_nil]
  | [k], x :: ts, t, acc, h, _ => by simp at h
  | k :: j :: ks, [], t, acc, h, _ => by simp at h
  | k :: j :: ks, x :: ts, t, acc, h, ht => by
    rw [List.cons_append, rdAll]
    cases rd k x.data.toList with
    | none => rfl
    | some n => exact rdAll_last (j :: ks) ts t _ (by simpa using h) ht
/-- the parts as lists of bytes, and what is read of them -/
theorem more_none (o : Nat) (a b c : Int) (ha : byte a) (hb : byte b) (hc : byte c) (hm : may o a b c = true) (x : List UInt8) (hx : (32 : UInt8) ∉ x) : prs (splitP (text o a b c ++ mk (32 :: x))) = none := by
  obtain ⟨h1, h2, h3⟩ := parts_plain o a b c ha hb hc hm
  obtain ⟨ts, ho, e1, e2, _, e4⟩ := parts_of o a b c ha hb hc hm
  have e : text o a b c ++ mk (32 :: x) = mk (jn ((parts o a b c).map (·.data.toList) ++ [x])) := by
    rw [jn_snoc _ _ (by rw [e1]; simp), text_jn]
    rw [← data_mk (mk _ ++ mk _), ba_append, mk_data, mk_data]
  rw [e, splitP_jn _ (by simp) _ (by rw [List.length_append, List.length_map]; simp; omega), List.map_append, map_data_mk, e1]
  · exact prs_len _ _ o (opOf_word o ho) (by simp; omega)
  · intro w hw
    rcases List.mem_append.1 hw with hw | hw
    · exact (h1 w hw).1
    · rw [List.mem_singleton.1 hw]; exact hx
/-- what stands ahead of the last blank, if there is one -/
theorem cut_last (o : Nat) (a b c : Int) (ha : byte a) (hb : byte b) (hc : byte c) (hm : may o a b c = true) :
    ((32 : UInt8) ∉ (text o a b c).data.toList) ∨ ∃ p q, (text o a b c).data.toList = p ++ 32 :: q ∧ (32 : UInt8) ∉ q ∧ prs (splitP (mk p)) = none ∧ prs (splitP (mk (p ++ [32]))) = none := by
  obtain ⟨h1, h2, h3⟩ := parts_plain o a b c ha hb hc hm
  obtain ⟨ts, ho, e1, e2, _, e4⟩ := parts_of o a b c ha hb hc hm
  rw [text_jn, mk_data]
  rcases List.eq_nil_or_concat ts with rfl | ⟨us, t, rfl⟩
  · left
    rw [e1, List.map_singleton, jn_one]
    exact (word_plain o ho).1
  · right
    rw [List.concat_eq_append] at e1 e2 e4
    have hpl : ∀ w ∈ (fWord o :: us).map (·.data.toList), (32 : UInt8) ∉ w := by
      intro w hw
      rw [List.map_cons] at hw
      rcases List.mem_cons.1 hw with rfl | hw
      · exact (word_plain o ho).1
      · obtain ⟨y, hy, rfl⟩ := List.mem_map.1 hw
        exact (e4 y (List.mem_append_left _ hy)).1
    have hk := ks_short o ho
    rw [List.length_append, List.length_singleton] at e2
    refine ⟨jn ((fWord o :: us).map (·.data.toList)), t.data.toList, ?_, (e4 t (by simp)).1, ?_, ?_⟩
    · rw [e1, ← List.cons_append, List.map_append, List.map_singleton, jn_snoc _ _ (by simp)]
    · rw [splitP_jn _ (by simp) hpl (by simp; omega), map_data_mk]
      exact prs_len _ _ o (opOf_word o ho) (by omega)
    · have : jn ((fWord o :: us).map (·.data.toList)) ++ [32] = jn ((fWord o :: us).map (·.data.toList) ++ [[]]) := by rw [jn_snoc _ _ (by simp)]
      rw [this, splitP_jn _ (by simp) _ (by simp; omega), List.map_append, map_data_mk, List.cons_append, prs, opOf_word o ho]
      · simp only
        rw [if_pos (by simp; omega)]
        have := rdAll_last (ksOf o) us (mk []) [] (by omega) rfl
        rw [show List.map mk [[]] = [mk []] from rfl, this]
        rfl
      · intro w hw
        rcases List.mem_append.1 hw with hw | hw
        · exact hpl w hw
        · rw [List.mem_singleton.1 hw]; simp
end Go.Proofs.YtcjghnnliepjjaaGreatDoor
namespace Go.Proofs.YtcjghnnliepjjaaGreatDoor
open Go Go.RowKit
set_option maxRecDepth 100000
set_option linter.unusedSimpArgs false
set_option linter.unusedVariables false
theorem rev_ind {α : Type} {P : List α → Prop} (h0 : P []) (h1 : ∀ p c, P p → P (p ++ [c])) (l : List α) : P l := by
  have : ∀ l : List α, P l.reverse := by
    intro l
    induction l with
    | nil => exact h0
    | cons x l ih => rw [List.reverse_cons]; exact h1 _ _ ih
  rw [← List.reverse_reverse l]
  exact this _
/-- a row of digits as a number -/
def nb (l : List UInt8) : Nat := l.foldl (fun n c => 10 * n + (c.toNat - 48)) 0
theorem nb_snoc (l : List UInt8) (c : UInt8) : nb (l ++ [c]) = 10 * nb l + (c.toNat - 48) := by simp [nb]
/-- digits alone -/
def digs (l : List UInt8) : Prop := ∀ c ∈ l, 48 ≤ c.toNat ∧ c.toNat ≤ 57
instance (l : List UInt8) : Decidable (digs l) := by unfold digs; infer_instance
theorem digs_dec (n : Nat) : digs (Lib.decDigits n) := decDigits_mem n
theorem nb_dec (n : Nat) : nb (Lib.decDigits n) = n := by
  induction n using Nat.strongRecOn with
  | _ n ih =>
    by_cases h : n < 10
    · rw [decDigits_small n h]
      simp only [nb, List.foldl_cons, List.foldl_nil, dig_toNat n h]
      omega
    · rw [decDigits_big n h, nb_snoc, ih (n / 10) (by omega), dig_toNat _ (by omega)]
      omega
theorem nb_pos : ∀ (l : List UInt8) (c : UInt8), digs (c :: l) → c ≠ 48 → 1 ≤ nb (c :: l) := by
  refine rev_ind ?_ ?_
  · intro c hd h
    have := hd c (by simp)
    have h48 : c.toNat ≠ 48 := fun e => h (UInt8.toNat_inj.1 (by rw [e]; rfl))
    simp only [nb, List.foldl_cons, List.foldl_nil]
    omega
  · intro l x ih c hd h
    rw [← List.cons_append, nb_snoc]
    have := ih c (fun y hy => hd y (by rw [← List.cons_append]; exact List.mem_append_left _ hy)) h
    omega
theorem dec_nb : ∀ (l : List UInt8), l ≠ [] → digs l → (1 < l.length → l.head? ≠ some 48) → Lib.decDigits (nb l) = l := by
  refine rev_ind ?_ ?_
  · intro h; exact absurd rfl h
  · intro p c ih _ hd hh
    have hc := hd c (by simp)
    cases p with
    | nil =>
      rw [nb_snoc]
      have e : 10 * nb [] + (c.toNat - 48) = c.toNat - 48 := by simp [nb]
      rw [e, decDigits_small _ (by omega), show 48 + (c.toNat - 48) = c.toNat by omega]
      simp
    | cons x p =>
      have hx : x ≠ 48 := by
        intro e
        exact hh (by simp) (by rw [e]; rfl)
      have hdp : digs (x :: p) := fun y hy => hd y (List.mem_append_left _ hy)
      have h1 := nb_pos p x hdp hx
      have hi := ih (by simp) hdp (fun _ => by simp [hx])
      rw [nb_snoc, decDigits_big _ (by omega), show (10 * nb (x :: p) + (c.toNat - 48)) / 10 = nb (x :: p) by omega, show (10 * nb (x :: p) + (c.toNat - 48)) % 10 = c.toNat - 48 by omega, hi, show 48 + (c.toNat - 48) = c.toNat by omega]
      simp
theorem dec_head (n : Nat) (h : 10 ≤ n) : (Lib.decDigits n).head? ≠ some 48 := by
  induction n using Nat.strongRecOn with
  | _ n ih =>
    rw [decDigits_big n (by omega)]
    by_cases h2 : n / 10 < 10
    · rw [decDigits_small _ h2]
      simp only [List.singleton_append, List.head?_cons]
      intro e
      have := congrArg UInt8.toNat (Option.some.inj e)
      rw [dig_toNat _ h2] at this
      have h48 : (48 : UInt8).toNat = 48 := rfl
      omega
    · have := ih (n / 10) (by omega) (by omega)
      have hne := decDigits_ne (n / 10)
      obtain ⟨x, r, hx⟩ := List.exists_cons_of_ne_nil hne
      rw [hx] at this ⊢
      simpa using this
/-- the document's number of a text: -1 if it is none -/
def numb (l : List UInt8) (most : Int) : Int :=
  if l = [] ∨ 10 < l.length ∨ (1 < l.length ∧ l.head? = some 48) ∨ ¬ digs l ∨ most < nb l then -1 else nb l
theorem numb_dec (n : Nat) (most : Int) (h : (n : Int) ≤ most) (h5 : n < 100000) : numb (Lib.decDigits n) most = n := by
  have h1 := decDigits_len n h5
  have h2 := decDigits_ne n
  unfold numb
  rw [if_neg, nb_dec]
  rw [nb_dec]
  intro hh
  rcases hh with hh | hh | hh | hh | hh
  · exact h2 hh
  · omega
  · by_cases h10 : 10 ≤ n
    · exact dec_head n h10 hh.2
    · rw [decDigits_small n (by omega)] at hh
      simp at hh
  · exact hh (digs_dec n)
  · omega
theorem numb_some (l : List UInt8) (most : Int) (n : Int) (h0 : 0 ≤ n) (h : numb l most = n) : l = Lib.decDigits n.toNat ∧ n ≤ most := by
  unfold numb at h
  split at h
  · omega
  · rename_i hh
    have h1 : l ≠ [] := fun e => hh (Or.inl e)
    have h2 : ¬ (1 < l.length ∧ l.head? = some 48) := fun e => hh (Or.inr (Or.inr (Or.inl e)))
    have h3 : digs l := Classical.byContradiction fun e => hh (Or.inr (Or.inr (Or.inr (Or.inl e))))
    have h4 : ¬ most < nb l := fun e => hh (Or.inr (Or.inr (Or.inr (Or.inr e))))
    have := dec_nb l h1 h3 (fun a b => h2 ⟨a, b⟩)
    rw [← h]
    exact ⟨by rw [Int.toNat_natCast]; exact this.symm, by omega⟩
theorem numb_bd (l : List UInt8) (most : Int) (hm : 0 ≤ most) : -1 ≤ numb l most ∧ numb l most ≤ most := by
  unfold numb
  split
  · omega
  · rename_i hh
    have h4 : ¬ most < nb l := fun e => hh (Or.inr (Or.inr (Or.inr (Or.inr e))))
    omega
theorem itoa_pos (n : Int) (h : 0 ≤ n) : Lib.itoa n = Lib.decDigits n.toNat := by unfold Lib.itoa; rw [if_neg (by omega)]
theorem itoa_neg (n : Int) (h : n < 0) : Lib.itoa n = 45 :: Lib.decDigits (-n).toNat := by
  unfold Lib.itoa
  rw [if_pos h]
  congr 2
  omega
theorem nb_bound : ∀ (l : List UInt8), digs l → nb l < 10 ^ l.length := by
  refine rev_ind ?_ ?_
  · intro _; simp [nb]
  · intro p c ih h
    have h1 := ih (fun y hy => h y (List.mem_append_left _ hy))
    have h2 := h c (by simp)
    rw [nb_snoc, List.length_append, List.length_singleton, Nat.pow_succ]
    omega
end Go.Proofs.YtcjghnnliepjjaaGreatDoor
namespace Go.Proofs.YtcjghnnliepjjaaGreatDoor
open Go Go.RowKit
set_option maxRecDepth 100000
set_option linter.unusedSimpArgs false
set_option linter.unusedVariables false
def opt (n : Int) : Option Int := if n < 0 then none else some n
/-- the number of a field's text -/
def frd (k : Nat) (l : List UInt8) : Option Int :=
  if k = 1 then (if l.head? = some 114 then opt (numb l.tail 7) else none)
  else if k = 4 then opt (numb l 65535)
  else if k = 3 then (if l.head? = some 45 then (if numb l.tail 128 ≤ 0 then none else some (- numb l.tail 128)) else opt (numb l 127))
  else opt (numb l 255)
theorem opt_numb (l : List UInt8) (m n : Int) (hm : m < 100000) : opt (numb l m) = some n ↔ 0 ≤ n ∧ n ≤ m ∧ l = Lib.decDigits n.toNat := by
  unfold opt
  constructor
  · intro h
    split at h
    · cases h
    · rename_i hn
      obtain rfl := Option.some.inj h
      have := numb_some l m _ (by omega) rfl
      exact ⟨by omega, this.2, this.1⟩
  · rintro ⟨h0, h1, rfl⟩
    have := numb_dec n.toNat m (by omega) (by omega)
    rw [this, if_neg (by omega), Int.toNat_of_nonneg h0]
theorem rd_iff (k : Nat) (l : List UInt8) (n : Int) : rd k l = some n ↔ l = (kMark k).data.toList ++ Lib.itoa n ∧ kLeast k ≤ n ∧ n ≤ kMost k :=
  ⟨rd_some, fun ⟨e, a, b⟩ => e ▸ rd_itoa k n a b⟩
theorem head_cons {l : List UInt8} {c : UInt8} (h : l.head? = some c) : l = c :: l.tail := by
  cases l with
  | nil => cases h
  | cons x r => simp at h; rw [h]; rfl
theorem frd_rd (k : Nat) (h1 : 1 ≤ k) (h4 : k ≤ 4) (l : List UInt8) : frd k l = rd k l := by
  apply Option.ext
  intro n
  rw [rd_iff, mark_one]
  obtain rfl | rfl | rfl | rfl : k = 1 ∨ k = 2 ∨ k = 3 ∨ k = 4 := by omega
  · show (if l.head? = some 114 then opt (numb l.tail 7) else none) = some n ↔ l = [114] ++ Lib.itoa n ∧ (0 : Int) ≤ n ∧ n ≤ 7
    constructor
    · intro h
      split at h
      · rename_i hh
        obtain ⟨a, b, c⟩ := (opt_numb _ _ _ (by omega)).1 h
        refine ⟨?_, a, b⟩
        rw [itoa_pos n a, ← c]
        exact head_cons hh
      · cases h
    · rintro ⟨rfl, a, b⟩
      rw [if_pos (show ([114] ++ Lib.itoa n : List UInt8).head? = some 114 from rfl)]
      exact (opt_numb _ _ _ (by omega)).2 ⟨a, b, by rw [itoa_pos n a]; rfl⟩
  · show opt (numb l 255) = some n ↔ l = [] ++ Lib.itoa n ∧ (0 : Int) ≤ n ∧ n ≤ 255
    rw [opt_numb _ _ _ (by omega)]
    constructor
    · rintro ⟨a, b, c⟩; exact ⟨by rw [itoa_pos n a]; exact c, a, b⟩
    · rintro ⟨c, a, b⟩; exact ⟨a, b, by rw [itoa_pos n a] at c; exact c⟩
  · show (if l.head? = some 45 then (if numb l.tail 128 ≤ 0 then none else some (- numb l.tail 128)) else opt (numb l 127)) = some n ↔ l = [] ++ Lib.itoa n ∧ (-128 : Int) ≤ n ∧ n ≤ 127
    constructor
    · intro h
      split at h
      · rename_i hh
        split at h
        · cases h
        · rename_i hz
          have e := Option.some.inj h
          obtain ⟨a, b⟩ := numb_some l.tail 128 (numb l.tail 128) (by omega) rfl
          refine ⟨?_, by omega, by omega⟩
          rw [itoa_neg n (by omega), show (-n) = numb l.tail 128 by omega, ← a]
          exact head_cons hh
      · obtain ⟨a, b, c⟩ := (opt_numb _ _ _ (by omega)).1 h
        exact ⟨by rw [itoa_pos n a]; exact c, by omega, b⟩
    · rintro ⟨e, a, b⟩
      rw [List.nil_append] at e
      by_cases hn : n < 0
      · rw [itoa_neg n hn] at e
        have hd := numb_dec (-n).toNat 128 (by omega) (by omega)
        rw [e, List.head?_cons, if_pos rfl, List.tail_cons, hd, if_neg (by omega)]
        congr 1
        omega
      · rw [itoa_pos n (by omega)] at e
        rw [if_neg, opt_numb _ _ _ (by omega)]
        · exact ⟨by omega, b, e⟩
        · intro hh
          have := digs_dec n.toNat 45 (by rw [← e, head_cons hh]; exact List.mem_cons_self ..)
          exact absurd this (by decide)
  · show opt (numb l 65535) = some n ↔ l = [] ++ Lib.itoa n ∧ (0 : Int) ≤ n ∧ n ≤ 65535
    rw [opt_numb _ _ _ (by omega)]
    constructor
    · rintro ⟨a, b, c⟩; exact ⟨by rw [itoa_pos n a]; exact c, a, b⟩
    · rintro ⟨c, a, b⟩; exact ⟨a, b, by rw [itoa_pos n a] at c; exact c⟩
theorem frd_five (l : List UInt8) (n : Int) : frd 5 l = some n ↔ 0 ≤ n ∧ n ≤ 255 ∧ l = Lib.decDigits n.toNat := opt_numb l 255 n (by omega)
/-- a number that was read is one of its kind's -/
theorem frd_bd (k : Nat) (h1 : 1 ≤ k) (h5 : k ≤ 5) (l : List UInt8) (n : Int) (h : frd k l = some n) : -128 ≤ n ∧ n ≤ 65535 ∧ (k = 4 → 0 ≤ n) := by
  by_cases h4 : k ≤ 4
  · rw [frd_rd k h1 h4, rd_iff] at h
    have := bd_k k
    refine ⟨by omega, by omega, ?_⟩
    rintro rfl
    exact h.2.1
  · obtain rfl : k = 5 := by omega
    rw [frd_five] at h
    exact ⟨by omega, by omega, fun e => by omega⟩
def rdAllR : List Nat → List ByteArray → List Int → Option (List Int)
  | k :: ks, t :: ts, acc => match frd k t.data.toList with
    | some n => rdAllR ks ts (acc ++ kBytes k n)
    | none => none
  | [], [], acc => some acc
  | _, _, _ => none
def prsR : List ByteArray → Option (Nat × List Int)
  | [] => none
  | w :: ts => match opOf w.data.toList with
    | none => none
    | some o => if (ksOf o).length = ts.length then match rdAllR (ksOf o) ts [] with
        | some d => if chk (ksOf o) (pad d) = true then some (o, pad d) else none
        | none => none
      else none
theorem rdAllR_eq : ∀ (ks : List Nat) (ts : List ByteArray) (acc : List Int), (∀ k ∈ ks, 1 ≤ k ∧ k ≤ 4) → rdAllR ks ts acc = rdAll ks ts acc
  | [], [], _, _ => rfl
  | [], _ :: _, _, _ => rfl
  | _ :: _, [], _, _ => rfl
  | k :: ks, t :: ts, acc, h => by
    have hk := h k (List.mem_cons_self ..)
    rw [rdAllR, rdAll, frd_rd k hk.1 hk.2]
    cases rd k t.data.toList with
    | none => rfl
    | some n => exact rdAllR_eq ks ts _ (fun x hx => h x (List.mem_cons_of_mem _ hx))
theorem ks_four (o : Nat) (h : o < 23) (h21 : o ≠ 21) : ∀ k ∈ ksOf o, 1 ≤ k ∧ k ≤ 4 := by
  have : ∀ o : Fin 23, o.val ≠ 21 → ∀ k ∈ ksOf o.val, 1 ≤ k ∧ k ≤ 4 := by decide +kernel
  exact this ⟨o, h⟩ h21
theorem chk_read (o : Nat) (h : o < 23) (ts : List ByteArray) (d : List Int) (hr : rdAll (ksOf o) ts [] = some d) : chk (ksOf o) (pad d) = true := by
  obtain ⟨d', e1, e2, e3, e4⟩ := bw (ksOf o) 3 ts [] d (fit_all o h) hr
  rw [List.nil_append] at e1
  subst e1
  have := e4 (3 - d.length) []
  unfold pad
  rw [← wrt_chk (ksOf o) _ [], this]
theorem ks_21 : ksOf 21 = [5] := by decide +kernel
theorem prsR_prs (l : List ByteArray) : prsR l = prs l := by
  cases l with
  | nil => rfl
  | cons w ts =>
    rw [prsR, prs]
    cases ho : opOf w.data.toList with
    | none => rfl
    | some o =>
      simp only
      have h23 := (opOf_some ho).1
      split
      · rename_i hlen
        by_cases h21 : o = 21
        · subst h21
          rw [ks_21] at hlen ⊢
          obtain ⟨t, rfl⟩ : ∃ t, ts = [t] := by
            match ts, hlen with
            | [t], _ => exact ⟨t, rfl⟩
          have e5 : rdAllR [5] [t] [] = (frd 5 t.data.toList).map fun n => kBytes 5 n := by
            rw [rdAllR]; cases frd 5 t.data.toList <;> rfl
          have e6 : rdAll [5] [t] [] = (rd 5 t.data.toList).map fun n => kBytes 5 n := by
            rw [rdAll]; cases rd 5 t.data.toList <;> rfl
          rw [e5, e6]
          cases hf : frd 5 t.data.toList with
          | none =>
            cases hr : rd 5 t.data.toList with
            | none => rfl
            | some n =>
              rw [rd_iff, mark_one] at hr
              have a : (1 : Int) ≤ n := hr.2.1
              have b : n ≤ 20 := hr.2.2
              have : frd 5 t.data.toList = some n := (frd_five _ _).2 ⟨by omega, by omega, by rw [hr.1, itoa_pos n (by omega)]; rfl⟩
              rw [hf] at this; cases this
          | some n =>
            obtain ⟨a, b, c⟩ := (frd_five _ _).1 hf
            have hp : pad (kBytes 5 n) = [n, 0, 0] := by
              have : n % 256 = n := by omega
              show [n % 256, 0, 0] = _
              rw [this]
            have hck : chk [5] [n, 0, 0] = (decide (1 ≤ n) && decide (n ≤ 20)) := by
              show (kOk 5 n 0 && true) = _
              rw [Bool.and_true, kOk5 n 0 a b]
            simp only [Option.map_some]
            rw [hp, hck]
            by_cases hn : 1 ≤ n ∧ n ≤ 20
            · have hr : rd 5 t.data.toList = some n := (rd_iff _ _ _).2 ⟨by rw [mark_one, c, itoa_pos n a]; rfl, hn.1, hn.2⟩
              rw [hr, if_pos (by simp [hn])]
              simp only [Option.map_some, hp]
            · have hr : rd 5 t.data.toList = none := by
                cases hr : rd 5 t.data.toList with
                | none => rfl
                | some m =>
                  rw [rd_iff, mark_one] at hr
                  have x : (1 : Int) ≤ m := hr.2.1
                  have y : m ≤ 20 := hr.2.2
                  have : frd 5 t.data.toList = some m := (frd_five _ _).2 ⟨by omega, by omega, by rw [hr.1, itoa_pos m (by omega)]; rfl⟩
                  rw [hf] at this
                  obtain rfl := Option.some.inj this
                  exact absurd ⟨x, y⟩ hn
              rw [hr, if_neg (by simp; omega)]
              rfl
        · rw [rdAllR_eq _ _ _ (ks_four o h23 h21)]
          cases hr : rdAll (ksOf o) ts [] with
          | none => rfl
          | some d =>
            simp only [Option.map_some]
            rw [if_pos (chk_read o h23 ts d hr)]
      · rfl
/-- the parts between all blanks: what is read of them is what is read of the first five -/
theorem parts_prs (s : ByteArray) (ps : List (List UInt8)) (h0 : ps ≠ []) (hb : ∀ w ∈ ps, (32 : UInt8) ∉ w) (hj : jn ps = s.data.toList) : prsR (ps.map mk) = prs (splitP s) := by
  have hs : s = mk (jn ps) := by rw [hj, data_mk]
  by_cases h5 : ps.length ≤ 5
  · rw [hs, splitP_jn ps h0 hb h5, prsR_prs]
  · have e1 : prs (ps.map mk) = none := by
      obtain ⟨x, r, rfl⟩ := List.exists_cons_of_ne_nil h0
      cases ho : opOf (mk x).data.toList with
      | none => rw [List.map_cons, prs, ho]
      | some o =>
        rw [List.map_cons]
        refine prs_len _ _ o ho ?_
        have := ks_short o (opOf_some ho).1
        simp at h5 ⊢
        omega
    rw [prsR_prs, e1]
    cases hp : prs (splitP s) with
    | none => rfl
    | some v =>
      exfalso
      obtain ⟨o, l⟩ := v
      obtain ⟨a, b, c, rfl, ho, ha, hb', hc, hm, ht⟩ := text_parse s o l hp
      obtain ⟨h1, h2, h3⟩ := parts_plain o a b c ha hb' hc hm
      have e2 : jn ((parts o a b c).map (·.data.toList)) = jn ps := by
        rw [text_jn] at ht
        have := congrArg (fun x : ByteArray => x.data.toList) ht
        rw [hj]
        exact this
      have e3 := ct_jn ps ps.length h0 hb (by omega)
      have e4 := ct_jn ((parts o a b c).map (·.data.toList)) ps.length (by intro e; have := congrArg List.length e; simp at this; rw [this] at h2; simp at h2) (fun w hw => (h1 w hw).1) (by rw [List.length_map]; omega)
      rw [e2, e3] at e4
      have := congrArg List.length e4
      rw [List.length_map] at this
      omega
end Go.Proofs.YtcjghnnliepjjaaGreatDoor

/- The document's own digits and numbers. -/
namespace Go.Proofs.YtcjghnnliepjjaaGreatDoor
open Go Go.RowKit
set_option maxRecDepth 100000
set_option linter.unusedVariables false
def tens : ByteArray := ⟨#[48, 49, 50, 51, 52, 53, 54, 55, 56, 57]⟩
theorem ten_at (k : Nat) (h : k < 10) : tens.extract k (k + 1) = mk [UInt8.ofNat (48 + k)] := by
  have : ∀ k : Fin 10, (tens.extract k.val (k.val + 1)).data.toList = [UInt8.ofNat (48 + k.val)] := by decide +kernel
  rw [← data_mk (tens.extract k (k + 1)), this ⟨k, h⟩]
theorem ba_mk (a b : List UInt8) : mk a ++ mk b = mk (a ++ b) := by rw [← data_mk (mk a ++ mk b), ba_append, mk_data, mk_data]
theorem sl_ten (n : Nat) (h : n < 10) (W : World) : (Instr.slice 9 (.string ⟨#[48, 49, 50, 51, 52, 53, 54, 55, 56, 57]⟩) (some (.int .i64 n)) (some (.int .i64 ((n : Int) + 1))) none).run Tryz.prog W = .ok (.string (mk [UInt8.ofNat (48 + n)])) W := by
  have := run_slice_string (P := Tryz.prog) (w := W) 9 tens .i64 .i64 n ((n : Int) + 1) Tryz.underlying9 (by omega) (by omega) (by have : tens.size = 10 := rfl; omega)
  rw [Int.toNat_natCast, show ((n : Int) + 1).toNat = n + 1 by omega, ten_at n h] at this
  exact this
theorem byte_at (s : ByteArray) (k : Nat) (h : k < s.size) : s.data.toList[k]? = some s[k] := by
  rw [Array.getElem?_toList]; exact Array.getElem?_eq_getElem h
theorem take_next (s : ByteArray) (k : Nat) (h : k < s.size) : s.data.toList.take (k + 1) = s.data.toList.take k ++ [s[k]] := by
  rw [List.take_add_one, byte_at s k h]; rfl
theorem ret_i {a b : Int} (h : a = b) : Ending.returned (.int .i64 a) = .returned (.int .i64 b) := by rw [h]
set_option maxHeartbeats 2000000 in
theorem number_any (s : ByteArray) (hs : s.size ≤ 1048576) (most : Int) (hm : 0 ≤ most ∧ most ≤ 2147483647) (w : World) :
    Calls Tryz.prog 72 #[.string s, .int .i64 most] w fun e w' => e = .returned (.int .i64 (numb s.data.toList most)) ∧ w' = w := by
  have hsd := size_data s
  by_cases h0 : s.size = 0
  · have e : s.data.toList = [] := List.eq_nil_of_length_eq_zero (by omega)
    have hn : Hid (numb s.data.toList most = -1) := by show _ = _; unfold numb; rw [if_pos (Or.inl e)]
    rw [hn.out]
    have he : s = ⟨#[]⟩ := by rw [← data_mk s, e]; rfl
    subst he
    clear e hsd hn
    go_enter Tryz.func72, Tryz.ntmps72
    go_wp2
    go_ret
    exact ⟨rfl, rfl⟩
  · have hq : (s.toList == ([] : List UInt8)) = false := by
      rw [beq_eq_false_iff_ne, Lib.toList_data]
      intro e
      rw [e] at hsd
      exact h0 hsd
    by_cases h10 : 10 < s.size
    · have hn : Hid (numb s.data.toList most = -1) := by show _ = _; unfold numb; rw [if_pos (Or.inr (Or.inl (by omega)))]
      rw [hn.out]
      clear hsd hn
      go_enter Tryz.func72, Tryz.ntmps72
      go_wp2
      go_ret
      exact ⟨rfl, rfl⟩
    · have hpos : 0 < s.size := by omega
      obtain ⟨z, hz⟩ : ∃ z, s[0]'hpos = z := ⟨_, rfl⟩
      have hhd : s.data.toList.head? = some z := by rw [List.head?_eq_getElem?, byte_at s 0 hpos, hz]
      by_cases h48 : 1 < s.size ∧ z = 48
      · have hn : Hid (numb s.data.toList most = -1) := by show _ = _; unfold numb; rw [if_pos (Or.inr (Or.inr (Or.inl ⟨by omega, by rw [hhd, h48.2]⟩)))]
        rw [hn.out]
        have hz48 : ((s[0]'hpos).toNat : Int) = 48 := by rw [hz, h48.2]; rfl
        have h1s := h48.1
        clear hsd hn hhd hz h48
        go_enter Tryz.func72, Tryz.ntmps72
        go_wp2
        go_ret
        exact ⟨rfl, rfl⟩
      · have hloop : ∀ w : World, Calls Tryz.prog 72 #[.string s, .int .i64 most] w fun e w' => e = .returned (.int .i64 (numb s.data.toList most)) ∧ w' = w := by
          intro w
          have HB : ∀ k, Hid (digs (s.data.toList.take k) → k ≤ s.size → nb (s.data.toList.take k) < 10000000000) := by
            intro k hd hk
            have h1 := nb_bound _ hd
            have h2 : (s.data.toList.take k).length ≤ 10 := by rw [List.length_take]; omega
            have h3 := Nat.pow_le_pow_right (show 0 < 10 by omega) h2
            omega
          have HD : Hid (¬ digs s.data.toList → numb s.data.toList most = -1) := fun h => by unfold numb; rw [if_pos (Or.inr (Or.inr (Or.inr (Or.inl h))))]
          have HE : Hid (digs s.data.toList → numb s.data.toList most = if most < nb s.data.toList then -1 else (nb s.data.toList : Int)) := fun h => by
            unfold numb
            by_cases hmo : most < nb s.data.toList
            · rw [if_pos hmo, if_pos (Or.inr (Or.inr (Or.inr (Or.inr hmo))))]
            · rw [if_neg hmo, if_neg]
              intro hh
              rcases hh with hh | hh | hh | hh | hh
              · rw [hh] at hsd; exact h0 hsd
              · omega
              · rw [hhd] at hh
                exact h48 ⟨by omega, Option.some.inj hh.2⟩
              · exact hh h
              · exact hmo hh
          have hcase : (s.size = 1) ∨ (1 < s.size ∧ (((s[0]'hpos).toNat : Int) == 48) = false) := by
            by_cases h1 : 1 < s.size
            · right
              refine ⟨h1, ?_⟩
              rw [beq_eq_false_iff_ne, hz]
              intro e
              exact h48 ⟨h1, UInt8.toNat_inj.1 (by have h : z.toNat = 48 := (by omega); rw [h]; rfl)⟩
            · left; omega
          clear hsd hhd h48 hz
          rcases hcase with h1 | ⟨h1, hz2⟩
          all_goals
            go_enter Tryz.func72, Tryz.ntmps72
            go_wp2
            go_loop [5, 6] (fun n i => ∃ k : Nat, k ≤ s.size ∧ i = .int .i64 k ∧ n = .int .i64 (nb (s.data.toList.take k) : Nat) ∧ Hid (digs (s.data.toList.take k))) (fun _ i => s.size - (intOf i).toNat)
            case atStart => exact ⟨0, Nat.zero_le _, rfl, rfl, by intro c hc; simp at hc⟩
            case round =>
              obtain ⟨k, hk, rfl, rfl, HG⟩ := hrel
              have hb := (HB k).out HG.out hk
              by_cases hlt : k < s.size
              · have HT : Hid (nb (s.data.toList.take (k + 1)) = 10 * nb (s.data.toList.take k) + (s[k].toNat - 48)) := by show _ = _; rw [take_next s k hlt, nb_snoc]
                have HG2 : Hid (48 ≤ s[k].toNat ∧ s[k].toNat ≤ 57 → digs (s.data.toList.take (k + 1))) := by
                  intro hc
                  rw [take_next s k hlt]
                  intro c hm
                  rcases List.mem_append.1 hm with hm | hm
                  · exact HG.out c hm
                  · rw [List.mem_singleton.1 hm]; exact hc
                have HX : Hid (¬ (48 ≤ s[k].toNat ∧ s[k].toNat ≤ 57) → numb s.data.toList most = -1) := by
                  intro hc
                  exact HD.out (fun h => hc (h _ (List.mem_of_getElem? (byte_at s k hlt))))
                have hbyte : s[k].toNat ≤ 255 := by have := UInt8.toNat_lt s[k]; omega
                generalize nb (s.data.toList.take k) = m at *
                by_cases hd : 48 ≤ s[k].toNat
                · by_cases hd2 : s[k].toNat ≤ 57
                  · have hi1 : (48 : Int) ≤ s[k].toNat := by omega
                    have hi2 : (s[k].toNat : Int) ≤ 57 := by omega
                    go_wp2
                    go_round
                    case rel => exact ⟨k + 1, by omega, by go_num, by rw [HT.out]; go_num, HG2.out ⟨hd, hd2⟩⟩
                    case measure => simp [intOf]; omega
                  · have HN : Hid (numb s.data.toList most = -1) := HX.out (fun h => hd2 h.2)
                    have hi1 : (48 : Int) ≤ s[k].toNat := by omega
                    have hi2 : ¬ (s[k].toNat : Int) ≤ 57 := by omega
                    go_wp2
                    try rw [Exit.noGoto_ret]
                    go_ret
                    exact ⟨ret_i (by rw [HN.out]), rfl⟩
                · have HN : Hid (numb s.data.toList most = -1) := HX.out (fun h => hd h.1)
                  have hi1 : ¬ (48 : Int) ≤ s[k].toNat := by omega
                  go_wp2
                  try rw [Exit.noGoto_ret]
                  go_ret
                  exact ⟨ret_i (by rw [HN.out]), rfl⟩
              · obtain rfl : k = s.size := by omega
                have HA : Hid (s.data.toList.take s.size = s.data.toList) := by show _ = _; rw [size_data s, List.take_length]
                rw [HA.out] at hb HG
                have HN := HE.out HG.out
                by_cases hmo : most < nb s.data.toList
                · rw [if_pos hmo] at HN
                  have HN' : Hid _ := HN
                  clear HN
                  rw [HA.out]
                  go_wp2
                  go_ret
                  exact ⟨ret_i (by rw [HN'.out]), rfl⟩
                · rw [if_neg hmo] at HN
                  have HN' : Hid _ := HN
                  clear HN
                  rw [HA.out]
                  go_wp2
                  go_ret
                  exact ⟨ret_i (by rw [HN'.out]), rfl⟩
        exact hloop w
end Go.Proofs.YtcjghnnliepjjaaGreatDoor
namespace Go.Proofs.YtcjghnnliepjjaaGreatDoor
open Go Go.RowKit
set_option maxRecDepth 100000
set_option linter.unusedVariables false
theorem own_ge {w : World} {base gp n size : Nat} {e : TypeId} {v : Value} {xs : List Value} (h : w.ownsRow base e size v n xs) (hg : v.ownBlock = some gp) : base ≤ gp ∧ gp < w.heap.size := by
  refine ⟨?_, own_lt h hg⟩
  rcases h.2 with ⟨h2, _⟩ | ⟨g, cap, cur, hv, a1, a2, a3⟩
  · subst h2; cases hg
  · subst hv
    simp only [Value.ownBlock, Option.some.injEq] at hg
    omega
theorem jn_grow (ps : List (List UInt8)) (x : List UInt8) (c : UInt8) : jn (ps ++ [x ++ [c]]) = jn (ps ++ [x]) ++ [c] := by
  cases ps with
  | nil => rw [List.nil_append, List.nil_append, jn_one, jn_one]
  | cons y r => rw [jn_snoc _ _ (by simp), jn_snoc _ _ (by simp)]; simp
def pcs (ps : List (List UInt8)) : List Value := ps.map fun x => .string (mk x)
theorem cut_mk (s : ByteArray) (p k : Nat) : s.extract p k = mk ((s.data.toList.take k).drop p) := by
  rw [← data_mk (s.extract p k)]
  congr 1
  rw [ByteArray.data_extract, Array.toList_extract, List.extract_eq_take_drop, List.drop_take]
theorem sl_any (s : ByteArray) (p k : Nat) (h : p ≤ k) (hk : k ≤ s.size) (W : World) : (Instr.slice 9 (.string s) (some (.int .i64 p)) (some (.int .i64 k)) none).run Tryz.prog W = .ok (.string (mk ((s.data.toList.take k).drop p))) W := by
  have := run_slice_string (P := Tryz.prog) (w := W) 9 s .i64 .i64 p k Tryz.underlying9 (by omega) (by omega) (by omega)
  rw [Int.toNat_natCast, Int.toNat_natCast, cut_mk] at this
  exact this
set_option maxHeartbeats 2000000 in
theorem parts_any (s : ByteArray) (hs : s.size ≤ 1048576) (w : World) :
    Calls Tryz.prog 104 #[.string s] w fun e w' => ∃ v, e = .returned v ∧ Below w.heap.size w w' ∧ ∃ ps, w'.ownsRow w.heap.size 9 1 v ps.length (pcs ps) ∧ ps.length ≤ s.size + 1 ∧ ps ≠ [] ∧ (∀ x ∈ ps, (32 : UInt8) ∉ x) ∧ jn ps = s.data.toList := by
  obtain ⟨i0, hi, hz0, hz1, hz2⟩ := info_parts info9
  go_enter Tryz.func104, Tryz.ntmps104
  go_wp2
  go_loopg [3, 4, 5] (s.size + 1) (fun g l fr i wx => ∃ (ps : List (List UInt8)) (p k : Nat), k + g = s.size + 1 ∧ i = .int .i64 k ∧ fr = .int .i64 p ∧ wx.ownsRow w.heap.size 9 1 l ps.length (pcs ps) ∧ Below w.heap.size w wx ∧ ps.length ≤ k ∧
    Hid (∀ x ∈ ps, (32 : UInt8) ∉ x) ∧ Hid (k ≤ s.size → p ≤ k ∧ jn (ps ++ [(s.data.toList.take k).drop p]) = s.data.toList.take k ∧ (32 : UInt8) ∉ (s.data.toList.take k).drop p) ∧ Hid (k = s.size + 1 → ps ≠ [] ∧ jn ps = s.data.toList))
  case atStart =>
    refine ⟨[], 0, 0, by omega, rfl, rfl, ⟨rfl, Or.inl ⟨rfl, rfl⟩⟩, Below.refl _ _, Nat.zero_le _, ?_, ?_, ?_⟩
    · intro x hx; cases hx
    · intro _; exact ⟨Nat.le_refl _, by simp [jn_one], by simp⟩
    · intro e; omega
  case round =>
    obtain ⟨ps, p, k, hkg, rfl, rfl, hown, hB, hpk, HP, HA, HZ⟩ := hrel
    by_cases hlast : k ≤ s.size
    · obtain ⟨hpk', hjn0, hpl0⟩ := HA.out hlast
      have HJ : Hid (jn (ps ++ [(s.data.toList.take k).drop p]) = s.data.toList.take k ∧ (32 : UInt8) ∉ (s.data.toList.take k).drop p) := ⟨hjn0, hpl0⟩
      clear hjn0 hpl0
      have hsl := sl_any s p k hpk' hlast
      obtain ⟨g, rfl⟩ : ∃ g, gk = g + 1 := ⟨gk - 1, by omega⟩
      have hlz : (k : Int) ≤ (s.size : Int) := by omega
      have hwz : w.heap.size ≤ wr.heap.size := hB.size
      by_cases hno : k < s.size ∧ s.data.toList[k]? ≠ some 32
      · obtain ⟨hlt, hn⟩ := hno
        have HN : Hid (s.data.toList[k]? ≠ some 32) := hn
        have h32 : ((s[k].toNat : Int) == 32) = false := by
          rw [beq_eq_false_iff_ne]
          intro e
          refine hn ?_
          rw [byte_at s k hlt]
          exact congrArg some (UInt8.toNat_inj.1 (by have h : s[k].toNat = 32 := (by omega); rw [h]; rfl))
        have hne : ¬ ((k : Int) = (s.size : Int)) := by omega
        clear hn
        go_wp2
        go_roundg g
        case measure => omega
        case rel =>
          refine ⟨ps, p, k + 1, by omega, by go_num, rfl, hown, hB, by omega, HP, ?_, ?_⟩
          · intro _
            have e : (s.data.toList.take (k + 1)).drop p = (s.data.toList.take k).drop p ++ [s[k]] := by
              rw [take_next s k hlt, List.drop_append_of_le_length (by rw [List.length_take, ← size_data]; omega)]
            refine ⟨by omega, ?_, ?_⟩
            · rw [e, jn_grow, HJ.out.1, take_next s k hlt]
            · rw [e]
              intro h
              rcases List.mem_append.1 h with h | h
              · exact HJ.out.2 h
              · exact HN.out (by rw [byte_at s k hlt, ← List.mem_singleton.1 h])
          · intro e; omega
      · have hcase : k = s.size ∨ (k < s.size ∧ s.data.toList[k]? = some 32) := by
          by_cases h1 : k < s.size
          · exact Or.inr ⟨h1, Classical.byContradiction fun e => hno ⟨h1, e⟩⟩
          · exact Or.inl (by omega)
        clear hno
        generalize hx : (s.data.toList.take k).drop p = x at HJ hsl
        clear hx
        have HK : Hid (jn (ps ++ [x]) = s.data.toList.take k ∧ ∀ y ∈ ps ++ [x], (32 : UInt8) ∉ y) := by
          refine ⟨HJ.out.1, ?_⟩
          intro y hy
          rcases List.mem_append.1 hy with hy | hy
          · exact HP.out y hy
          · rw [List.mem_singleton.1 hy]; exact HJ.out.2
        clear HA HZ HJ HP
        have HW : Hid (∀ (o : Obj) (v' : Value) (w3 : World), w3.ownsRow w.heap.size 9 1 v' (ps.length + 1) (pcs ps ++ [.string (mk x)]) → (wr.alloc o).grownBy w3 u3.ownBlock →
            Below w.heap.size w w3 ∧ w3.ownsRow w.heap.size 9 1 v' (ps ++ [x]).length (pcs (ps ++ [x]))) := by
          intro o v' w3 h1 h2
          refine ⟨(hB.alloc hwz o).grown h2 (by rw [alloc_size]; omega) (fun q e => (own_ge hown e).1), ?_⟩
          have e1 : pcs (ps ++ [x]) = pcs ps ++ [.string (mk x)] := by simp [pcs]
          have e2 : (ps ++ [x]).length = ps.length + 1 := by simp
          rw [e1, e2]
          exact h1
        rcases hcase with rfl | ⟨hlt, hc⟩
        · have hle : ps.length ≤ 1048576 := by omega
          go_wp2_with (at_builtin; refine wpList_append_own_at _ rfl _ _ 53 rfl w.heap.size 9 i0 (.string ⟨#[]⟩) 1 16 Tryz.underlying53 hi hz0 hz1 hz2 rfl (by decide) u3 _ _ rfl (hown.alloc _) ⟨wr.heap.size, 0, none⟩ 1 1 [.string (mk x)] rfl rfl (cell_one_new _ _ _) (fun x hx => by simp at hx; subst hx; rfl) (by unfold maxLen; omega) (by omega) (by simp; omega) ?_; intro v' w3 hown' hgrow hnil hloc; clear hnil hloc)
          all_goals
            go_roundg g
            case measure => omega
            case rel =>
              obtain ⟨b1, b2⟩ := HW.out _ _ _ hown' hgrow
              refine ⟨ps ++ [x], s.size + 1, s.size + 1, by omega, by go_num, by go_num, b2, b1, by simp; omega, HK.out.2, ?_, ?_⟩
              · intro e; omega
              · intro _
                refine ⟨by simp, ?_⟩
                rw [HK.out.1, size_data s, List.take_length]
        · have hle : ps.length ≤ 1048576 := by omega
          have HC : Hid (s.data.toList[k]? = some 32) := hc
          have h32 : (s[k].toNat : Int) = 32 := by
            rw [byte_at s k hlt] at hc
            rw [Option.some.inj hc]; rfl
          have hne : ¬ ((k : Int) = (s.size : Int)) := by omega
          clear hc
          go_wp2_with (at_builtin; refine wpList_append_own_at _ rfl _ _ 53 rfl w.heap.size 9 i0 (.string ⟨#[]⟩) 1 16 Tryz.underlying53 hi hz0 hz1 hz2 rfl (by decide) u3 _ _ rfl (hown.alloc _) ⟨wr.heap.size, 0, none⟩ 1 1 [.string (mk x)] rfl rfl (cell_one_new _ _ _) (fun x hx => by simp at hx; subst hx; rfl) (by unfold maxLen; omega) (by omega) (by simp; omega) ?_; intro v' w3 hown' hgrow hnil hloc; clear hnil hloc)
          all_goals
            go_roundg g
            case measure => omega
            case rel =>
              obtain ⟨b1, b2⟩ := HW.out _ _ _ hown' hgrow
              have ez : (s.data.toList.take (k + 1)).drop (k + 1) = [] := by rw [List.drop_take]; simp
              have e3 : s.data.toList.take (k + 1) = s.data.toList.take k ++ [32] := by rw [List.take_add_one, HC.out]; rfl
              refine ⟨ps ++ [x], k + 1, k + 1, by omega, by go_num, by go_num, b2, b1, by simp; omega, HK.out.2, ?_, ?_⟩
              · intro _
                refine ⟨Nat.le_refl _, ?_, by rw [ez]; simp⟩
                rw [ez, jn_snoc _ _ (by simp), HK.out.1, e3]
              · intro e; omega
    · obtain rfl : k = s.size + 1 := by omega
      have hlz : ¬ (((s.size + 1 : Nat) : Int) ≤ (s.size : Int)) := by omega
      obtain ⟨z1, z2⟩ := HZ.out rfl
      clear HZ HA
      go_wp2
      go_ret
      exact ⟨_, rfl, hB, ps, hown, hpk, z1, HP.out, z2⟩
end Go.Proofs.YtcjghnnliepjjaaGreatDoor
namespace Go.Proofs.YtcjghnnliepjjaaGreatDoor
open Go Go.RowKit
set_option maxRecDepth 100000
set_option linter.unusedVariables false
theorem sl_tail (s : ByteArray) (h : 1 ≤ s.size) (W : World) : (Instr.slice 9 (.string s) (some (.int .i64 1)) none none).run Tryz.prog W = .ok (.string (mk s.data.toList.tail)) W := by
  have h1 := run_slice_string_from_if (P := Tryz.prog) W 9 s .i64 1 Tryz.underlying9
  rw [if_pos (by omega), show ((1 : Int).toNat) = 1 from rfl, cut_mk, size_data, List.take_length, List.drop_one] at h1
  exact h1
def FieldPost (k : Nat) (s : ByteArray) (w : World) (e : Ending) (w' : World) : Prop :=
  ∃ v, e = .returned (.tuple #[v, .bool (frd k s.data.toList).isSome]) ∧ Below w.heap.size w w' ∧ ∀ n, frd k s.data.toList = some n → v = .slice (some ⟨w.heap.size, 0, none⟩) (kSz k) (kSz k) ∧ w' = w.alloc (.cells (ints (kBytes k n)).toArray 5)
theorem post_none {k : Nat} {s : ByteArray} {w : World} {e : Ending} {w' : World} (v : Value) (hf : frd k s.data.toList = none) (he : e = .returned (.tuple #[v, .bool false])) (hb : Below w.heap.size w w') : FieldPost k s w e w' := by
  refine ⟨v, by rw [he, hf]; rfl, hb, ?_⟩
  intro n h; rw [hf] at h; cases h
theorem post_some {k : Nat} {s : ByteArray} {w : World} {e : Ending} {w' : World} (n : Int) (hf : frd k s.data.toList = some n) (he : e = .returned (.tuple #[.slice (some ⟨w.heap.size, 0, none⟩) (kSz k) (kSz k), .bool true])) (hw : w' = w.alloc (.cells (ints (kBytes k n)).toArray 5)) : FieldPost k s w e w' := by
  refine ⟨_, by rw [he, hf]; rfl, by rw [hw]; exact (Below.refl _ _).alloc (Nat.le_refl _) _, ?_⟩
  intro m h
  rw [hf] at h
  obtain rfl := Option.some.inj h
  exact ⟨rfl, hw⟩
theorem one_cell (k : Nat) (hk : k ≠ 4) (n m : Int) (h : n % 256 = m) : (ints (kBytes k n)).toArray = #[.int .u8 m] := by
  unfold kBytes ints; rw [if_neg hk, h]; rfl
theorem two_cell (n x y : Int) (h : n / 256 = x) (h2 : n % 256 = y) : (ints (kBytes 4 n)).toArray = #[.int .u8 x, .int .u8 y] := by
  unfold kBytes ints; rw [if_pos rfl, h, h2]; rfl
theorem nonempty (s : ByteArray) (h0 : s.size ≠ 0) : (s.toList == ([] : List UInt8)) = false := by
  rw [beq_eq_false_iff_ne, Lib.toList_data]
  intro e
  have hsd := size_data s
  rw [e] at hsd
  exact h0 hsd
theorem empty_is (s : ByteArray) (h0 : s.size = 0) : s = ⟨#[]⟩ := by
  have hsd := size_data s
  have e : s.data.toList = [] := List.eq_nil_of_length_eq_zero (by omega)
  rw [← data_mk s, e]; rfl
theorem head_at (s : ByteArray) (h : 0 < s.size) : s.data.toList.head? = some (s[0]'h) := by rw [List.head?_eq_getElem?, byte_at s 0 h]
theorem head_no (s : ByteArray) (h : 0 < s.size) (c : UInt8) (hn : s.data.toList.head? ≠ some c) : (((s[0]'h).toNat : Int) == (c.toNat : Int)) = false := by
  rw [beq_eq_false_iff_ne]
  intro e
  exact hn (by rw [head_at s h]; exact congrArg some (UInt8.toNat_inj.1 (by omega)))
theorem head_yes (s : ByteArray) (h : 0 < s.size) (c : UInt8) (hn : s.data.toList.head? = some c) : ((s[0]'h).toNat : Int) = (c.toNat : Int) := by
  rw [head_at s h] at hn
  rw [Option.some.inj hn]
theorem tail_size (s : ByteArray) (hs : s.size ≤ 1048576) : (mk s.data.toList.tail).size ≤ 1048576 := by
  rw [mk_size, List.length_tail, ← size_data]; omega
set_option maxHeartbeats 2000000 in
theorem field_b (k : Nat) (c : UInt8) (hk : (k = 2 ∧ c = 98) ∨ (k = 5 ∧ c = 119)) (s : ByteArray) (hs : s.size ≤ 1048576) (w : World) :
    Calls Tryz.prog 105 #[.int .u8 c.toNat, .string s] w (FieldPost k s w) := by
  obtain ⟨n, hn⟩ : ∃ n, numb s.data.toList 255 = n := ⟨_, rfl⟩
  have cN := number_any s hs 255 (by omega)
  have hbd := numb_bd s.data.toList 255 (by omega)
  rw [hn] at cN hbd
  have HF : Hid (frd k s.data.toList = opt n) := by
    show _ = _
    rw [← hn]
    rcases hk with ⟨rfl, _⟩ | ⟨rfl, _⟩ <;> rfl
  clear hn
  by_cases h0 : 0 ≤ n
  · have HS : Hid (frd k s.data.toList = some n) := by show _ = _; rw [HF.out, opt, if_neg (by omega)]
    rcases hk with ⟨rfl, rfl⟩ | ⟨rfl, rfl⟩
    all_goals
      go_enter Tryz.func105, Tryz.ntmps105
      go_wp2_with (go_at_call 72; refine (cN _).mono ?_; rintro e w1 ⟨rfl, rfl⟩)
      go_ret2
      exact post_some n HS.out (by simp [kSz]) (by rw [one_cell _ (by decide) n n (by omega)])
  · have HS : Hid (frd k s.data.toList = none) := by show _ = _; rw [HF.out, opt, if_pos (by omega)]
    rcases hk with ⟨rfl, rfl⟩ | ⟨rfl, rfl⟩
    all_goals
      go_enter Tryz.func105, Tryz.ntmps105
      go_wp2_with (go_at_call 72; refine (cN _).mono ?_; rintro e w1 ⟨rfl, rfl⟩)
      go_ret2
      exact post_none _ HS.out (by simp [h0]; rfl) ((Below.refl _ _).alloc (Nat.le_refl _) _)
set_option maxHeartbeats 2000000 in
theorem field_n (s : ByteArray) (hs : s.size ≤ 1048576) (w : World) : Calls Tryz.prog 105 #[.int .u8 110, .string s] w (FieldPost 4 s w) := by
  obtain ⟨n, hn⟩ : ∃ n, numb s.data.toList 65535 = n := ⟨_, rfl⟩
  have cN := number_any s hs 65535 (by omega)
  have hbd := numb_bd s.data.toList 65535 (by omega)
  rw [hn] at cN hbd
  have HF : Hid (frd 4 s.data.toList = opt n) := by show _ = _; rw [← hn]; rfl
  clear hn
  by_cases h0 : 0 ≤ n
  · have HS : Hid (frd 4 s.data.toList = some n) := by show _ = _; rw [HF.out, opt, if_neg (by omega)]
    go_enter Tryz.func105, Tryz.ntmps105
    go_wp2_with (go_at_call 72; refine (cN _).mono ?_; rintro e w1 ⟨rfl, rfl⟩)
    go_ret2
    exact post_some n HS.out (by simp [kSz]) (by rw [two_cell n (n / 256) (n % 256) rfl rfl])
  · have HS : Hid (frd 4 s.data.toList = none) := by show _ = _; rw [HF.out, opt, if_pos (by omega)]
    go_enter Tryz.func105, Tryz.ntmps105
    go_wp2_with (go_at_call 72; refine (cN _).mono ?_; rintro e w1 ⟨rfl, rfl⟩)
    go_ret2
    exact post_none _ HS.out (by simp [h0]; rfl) ((Below.refl _ _).alloc (Nat.le_refl _) _)
set_option maxHeartbeats 2000000 in
theorem field_r (s : ByteArray) (hs : s.size ≤ 1048576) (w : World) : Calls Tryz.prog 105 #[.int .u8 114, .string s] w (FieldPost 1 s w) := by
  by_cases hh : s.data.toList.head? = some 114
  · have hpos : 0 < s.size := by
      rcases Nat.eq_zero_or_pos s.size with h | h
      · rw [empty_is s h] at hh; cases hh
      · exact h
    have hq := nonempty s (by omega)
    have hy : ((s[0]'hpos).toNat : Int) = 114 := head_yes s hpos 114 hh
    have hsl := sl_tail s hpos
    obtain ⟨n, hn⟩ : ∃ n, numb (mk s.data.toList.tail).data.toList 7 = n := ⟨_, rfl⟩
    have cN := number_any (mk s.data.toList.tail) (tail_size s hs) 7 (by omega)
    have hbd := numb_bd (mk s.data.toList.tail).data.toList 7 (by omega)
    rw [hn] at cN hbd
    have HF : Hid (frd 1 s.data.toList = opt n) := by
      show (if s.data.toList.head? = some 114 then opt (numb s.data.toList.tail 7) else none) = _
      rw [if_pos hh, ← hn, mk_data]
    clear hn hh
    generalize mk s.data.toList.tail = D at *
    by_cases h0 : 0 ≤ n
    · have HS : Hid (frd 1 s.data.toList = some n) := by show _ = _; rw [HF.out, opt, if_neg (by omega)]
      go_enter Tryz.func105, Tryz.ntmps105
      go_wp2_with (go_at_call 72; refine (cN _).mono ?_; rintro e w1 ⟨rfl, rfl⟩)
      go_ret2
      exact post_some n HS.out (by simp [kSz]) (by rw [one_cell _ (by decide) n n (by omega)])
    · have HS : Hid (frd 1 s.data.toList = none) := by show _ = _; rw [HF.out, opt, if_pos (by omega)]
      go_enter Tryz.func105, Tryz.ntmps105
      go_wp2_with (go_at_call 72; refine (cN _).mono ?_; rintro e w1 ⟨rfl, rfl⟩)
      go_ret2
      exact post_none _ HS.out (by simp [h0]; rfl) ((Below.refl _ _).alloc (Nat.le_refl _) _)
  · have HS : Hid (frd 1 s.data.toList = none) := by
      show (if s.data.toList.head? = some 114 then opt (numb s.data.toList.tail 7) else none) = _
      rw [if_neg hh]
    by_cases hz : s.size = 0
    · obtain rfl := empty_is s hz
      clear hh
      go_enter Tryz.func105, Tryz.ntmps105
      go_wp2
      go_ret2
      exact post_none _ HS.out (by rfl) (Below.refl _ _)
    · have hpos : 0 < s.size := by omega
      have hq := nonempty s (by omega)
      have hy : (((s[0]'hpos).toNat : Int) == 114) = false := head_no s hpos 114 hh
      clear hh
      go_enter Tryz.func105, Tryz.ntmps105
      go_wp2
      go_ret2
      exact post_none _ HS.out (by rfl) (Below.refl _ _)
set_option maxHeartbeats 2000000 in
theorem field_s (s : ByteArray) (hs : s.size ≤ 1048576) (w : World) : Calls Tryz.prog 105 #[.int .u8 115, .string s] w (FieldPost 3 s w) := by
  have HU : Hid (frd 3 s.data.toList = if s.data.toList.head? = some 45 then (if numb s.data.toList.tail 128 ≤ 0 then none else some (- numb s.data.toList.tail 128)) else opt (numb s.data.toList 127)) := rfl
  by_cases hh : s.data.toList.head? = some 45
  · have hpos : 0 < s.size := by
      rcases Nat.eq_zero_or_pos s.size with h | h
      · rw [empty_is s h] at hh; cases hh
      · exact h
    have hq := nonempty s (by omega)
    have hy : ((s[0]'hpos).toNat : Int) = 45 := head_yes s hpos 45 hh
    have hsl := sl_tail s hpos
    obtain ⟨n, hn⟩ : ∃ n, numb (mk s.data.toList.tail).data.toList 128 = n := ⟨_, rfl⟩
    have cN := number_any (mk s.data.toList.tail) (tail_size s hs) 128 (by omega)
    have hbd := numb_bd (mk s.data.toList.tail).data.toList 128 (by omega)
    rw [hn] at cN hbd
    have HF : Hid (frd 3 s.data.toList = if n ≤ 0 then none else some (- n)) := by
      show _ = _
      rw [HU.out, if_pos hh, ← hn, mk_data]
    clear hn hh HU
    generalize mk s.data.toList.tail = D at *
    by_cases h0 : n ≤ 0
    · have HS : Hid (frd 3 s.data.toList = none) := by show _ = _; rw [HF.out, if_pos h0]
      go_enter Tryz.func105, Tryz.ntmps105
      go_wp2_with (go_at_call 72; refine (cN _).mono ?_; rintro e w1 ⟨rfl, rfl⟩)
      go_ret2
      exact post_none _ HS.out (by rfl) (Below.refl _ _)
    · have HS : Hid (frd 3 s.data.toList = some (-n)) := by show _ = _; rw [HF.out, if_neg h0]
      go_enter Tryz.func105, Tryz.ntmps105
      go_wp2_with (go_at_call 72; refine (cN _).mono ?_; rintro e w1 ⟨rfl, rfl⟩)
      go_ret2
      exact post_some (-n) HS.out (by simp [kSz]; try omega) (by rw [one_cell _ (by decide) (-n) (256 - n) (by omega)])
  · obtain ⟨n, hn⟩ : ∃ n, numb s.data.toList 127 = n := ⟨_, rfl⟩
    have cN := number_any s hs 127 (by omega)
    have hbd := numb_bd s.data.toList 127 (by omega)
    rw [hn] at cN hbd
    have HF : Hid (frd 3 s.data.toList = opt n) := by show _ = _; rw [HU.out, if_neg hh, ← hn]
    clear hn HU
    by_cases hz : s.size = 0
    · obtain rfl := empty_is s hz
      clear hh
      by_cases h0 : 0 ≤ n
      · have HS : Hid (frd 3 (⟨#[]⟩ : ByteArray).data.toList = some n) := by show _ = _; rw [HF.out, opt, if_neg (by omega)]
        go_enter Tryz.func105, Tryz.ntmps105
        go_wp2_with (go_at_call 72; refine (cN _).mono ?_; rintro e w1 ⟨rfl, rfl⟩)
        go_ret2
        exact post_some n HS.out (by simp [kSz]) (by rw [one_cell _ (by decide) n n (by omega)])
      · have HS : Hid (frd 3 (⟨#[]⟩ : ByteArray).data.toList = none) := by show _ = _; rw [HF.out, opt, if_pos (by omega)]
        go_enter Tryz.func105, Tryz.ntmps105
        go_wp2_with (go_at_call 72; refine (cN _).mono ?_; rintro e w1 ⟨rfl, rfl⟩)
        go_ret2
        exact post_none _ HS.out (by simp [h0]; rfl) ((Below.refl _ _).alloc (Nat.le_refl _) _)
    · have hpos : 0 < s.size := by omega
      have hq := nonempty s (by omega)
      have hy : (((s[0]'hpos).toNat : Int) == 45) = false := head_no s hpos 45 hh
      clear hh
      by_cases h0 : 0 ≤ n
      · have HS : Hid (frd 3 s.data.toList = some n) := by show _ = _; rw [HF.out, opt, if_neg (by omega)]
        go_enter Tryz.func105, Tryz.ntmps105
        go_wp2_with (go_at_call 72; refine (cN _).mono ?_; rintro e w1 ⟨rfl, rfl⟩)
        go_ret2
        exact post_some n HS.out (by simp [kSz]) (by rw [one_cell _ (by decide) n n (by omega)])
      · have HS : Hid (frd 3 s.data.toList = none) := by show _ = _; rw [HF.out, opt, if_pos (by omega)]
        go_enter Tryz.func105, Tryz.ntmps105
        go_wp2_with (go_at_call 72; refine (cN _).mono ?_; rintro e w1 ⟨rfl, rfl⟩)
        go_ret2
        exact post_none _ HS.out (by simp [h0]; rfl) ((Below.refl _ _).alloc (Nat.le_refl _) _)
theorem field_any (k : Nat) (h1 : 1 ≤ k) (h5 : k ≤ 5) (s : ByteArray) (hs : s.size ≤ 1048576) (w : World) : Calls Tryz.prog 105 #[.int .u8 ((kChar k).toNat : Nat), .string s] w (FieldPost k s w) := by
  obtain rfl | rfl | rfl | rfl | rfl : k = 1 ∨ k = 2 ∨ k = 3 ∨ k = 4 ∨ k = 5 := by omega
  · exact field_r s hs w
  · exact field_b 2 98 (Or.inl ⟨rfl, rfl⟩) s hs w
  · exact field_s s hs w
  · exact field_n s hs w
  · exact field_b 5 119 (Or.inr ⟨rfl, rfl⟩) s hs w
end Go.Proofs.YtcjghnnliepjjaaGreatDoor
namespace Go.Proofs.YtcjghnnliepjjaaGreatDoor
open Go Go.RowKit
set_option maxRecDepth 100000
set_option linter.unusedVariables false
set_option linter.unusedSimpArgs false
structure At (w : World) (B : Nat) (o a b c : Int) : Prop where
  lt : B < w.heap.size
  c0 : w.cell? ⟨B, 0, none⟩ = some (.int .u8 o)
  c1 : w.cell? ⟨B, 1, none⟩ = some (.int .u8 a)
  c2 : w.cell? ⟨B, 2, none⟩ = some (.int .u8 b)
  c3 : w.cell? ⟨B, 3, none⟩ = some (.int .u8 c)
theorem At.on {w w' : World} {B : Nat} {o a b c : Int} (h : At w B o a b c) (hb : Below w.heap.size w w') : At w' B o a b c where
  lt := Nat.lt_of_lt_of_le h.lt hb.size
  c0 := by rw [(bcell hb).1 _ _ h.lt]; exact h.c0
  c1 := by rw [(bcell hb).1 _ _ h.lt]; exact h.c1
  c2 := by rw [(bcell hb).1 _ _ h.lt]; exact h.c2
  c3 := by rw [(bcell hb).1 _ _ h.lt]; exact h.c3
theorem At.one {w : World} {B : Nat} {o a b c : Int} (h : At w B o a b c) (x : Obj) : At (w.alloc x) B o a b c := h.on ((Below.refl _ _).alloc (Nat.le_refl _) _)
theorem At.new (w : World) (o a b c : Int) (t : TypeId) : At (w.alloc (.cells #[.int .u8 o, .int .u8 a, .int .u8 b, .int .u8 c] t)) w.heap.size o a b c where
  lt := by rw [alloc_size]; omega
  c0 := by simp [go_sem]
  c1 := by simp [go_sem]
  c2 := by simp [go_sem]
  c3 := by simp [go_sem]
theorem below_draws {n : Nat} {w w' : World} (h : Below n w w') : ∀ k, Below n w (w'.drewN k)
  | 0 => h
  | k + 1 => by rw [← World.drew_drewN]; exact (below_draws h k).drew
theorem field_none (q : Nat) (h1 : 1 ≤ q) (h5 : q ≤ 5) (t : ByteArray) (ht : t.size ≤ 1048576) (hf : frd q t.data.toList = none) (W : World) :
    Calls Tryz.prog 105 #[.int .u8 ((kChar q).toNat : Nat), .string t] W fun e w' => ∃ v, e = .returned (.tuple #[v, .bool false]) ∧ Below W.heap.size W w' := by
  refine (field_any q h1 h5 t ht W).mono ?_
  rintro e w' ⟨v, he, hb, _⟩
  rw [hf] at he
  exact ⟨v, he, hb⟩
theorem field_some (q : Nat) (h1 : 1 ≤ q) (h5 : q ≤ 5) (t : ByteArray) (ht : t.size ≤ 1048576) (m : Int) (hf : frd q t.data.toList = some m) (W : World) :
    Calls Tryz.prog 105 #[.int .u8 ((kChar q).toNat : Nat), .string t] W fun e w' => e = .returned (.tuple #[.slice (some ⟨W.heap.size, 0, none⟩) (kSz q) (kSz q), .bool true]) ∧ w' = W.alloc (.cells (ints (kBytes q m)).toArray 5) := by
  refine (field_any q h1 h5 t ht W).mono ?_
  rintro e w' ⟨v, he, hb, hs⟩
  obtain ⟨rfl, hw⟩ := hs m hf
  rw [hf] at he
  exact ⟨he, hw⟩
theorem own_on {w w' : World} {base n size : Nat} {e : TypeId} {v : Value} {xs : List Value} (h : w.ownsRow base e size v n xs) (hb : Below w.heap.size w w') : w'.ownsRow base e size v n xs := by
  cases hg : v.ownBlock with
  | some gp => exact own_kept h hg (hb.block _ (own_ge h hg).2)
  | none =>
    refine ⟨h.1, ?_⟩
    rcases h.2 with h2 | ⟨g, cap, cur, hv, _⟩
    · exact Or.inl h2
    · subst hv; cases hg
theorem own_form5 {w : World} {base n size : Nat} {e : TypeId} {v : Value} {xs : List Value} (h : w.ownsRow base e size v n xs) : ∃ sp cap, v = .slice sp n cap := by
  rcases h.2 with ⟨h2, h3⟩ | ⟨g, cap, cur, hv, _⟩
  · exact ⟨none, 0, by rw [h2, h3]⟩
  · exact ⟨_, cap, hv⟩
theorem own_some5 {w : World} {base n size : Nat} {e : TypeId} {v : Value} {xs : List Value} (h : w.ownsRow base e size v n xs) (hn : 1 ≤ n) : ∃ g cap, v = .slice (some ⟨g, 0, none⟩) n cap ∧ n ≤ cap ∧ base ≤ g ∧ g < w.heap.size := by
  rcases h.2 with ⟨_, h0⟩ | ⟨g, cap, cur, hv, hb, hg, hnc, _⟩
  · omega
  · refine ⟨g, cap, hv, hnc, hb, ?_⟩
    rcases Nat.lt_or_ge g w.heap.size with h | h
    · exact h
    · rw [Array.getElem?_eq_none h] at hg; cases hg
theorem idx_next (gl cap i n : Nat) (h : i < n) (W : World) : (Instr.indexAt 53 (.slice (some ⟨gl, 0, none⟩) (n + 1) cap) (.int .i64 (1 + (i : Int)))).run Tryz.prog W = .ok (.pointer (some ⟨gl, i + 1, none⟩)) W := by
  rw [run_indexAt_slice W 53 _ _ _ _ _ (by kernel_rfl), if_pos (by omega)]
  have hs : (sizeOf (Tryz.prog.elem 53)).run Tryz.prog W = .ok 1 W := by kernel_rfl
  rw [hs, Result.andThen_ok, show ((1 : Int) + (i : Int)).toNat * 1 = i + 1 by omega]
  simp [Addr.add]
theorem frd_bytes (k : Nat) (h1 : 1 ≤ k) (h5 : k ≤ 5) (l : List UInt8) (n : Int) (h : frd k l = some n) : ∀ x ∈ kBytes k n, byte x := by
  obtain ⟨a, b, c⟩ := frd_bd k h1 h5 l n h
  intro x hx
  unfold kBytes at hx
  split at hx
  · rename_i h4
    have := c h4
    simp at hx
    unfold byte
    rcases hx with rfl | rfl <;> omega
  · simp at hx
    unfold byte
    subst hx
    omega
theorem ints_app (a b : List Int) : ints a ++ ints b = ints (a ++ b) := by unfold ints; rw [List.map_append]
theorem strings_ne (p q : ByteArray) (h : p ≠ q) : (p.toList == q.toList) = false := by
  rw [beq_eq_false_iff_ne, Lib.toList_data, Lib.toList_data]
  intro e
  exact h (by rw [← data_mk p, ← data_mk q, e])
theorem prsR_at (p0 : ByteArray) (ts : List ByteArray) (o : Nat) (ho : o < 23) (h : p0 = fWord o) : prsR (p0 :: ts) = if (ksOf o).length = ts.length then match rdAllR (ksOf o) ts [] with
        | some d => if chk (ksOf o) (pad d) = true then some (o, pad d) else none
        | none => none
      else none := by
  rw [prsR, h, opOf_word o ho]
theorem prsR_end (p0 : ByteArray) (ts : List ByteArray) (h : (∃ i, i < 23 ∧ p0 = fWord i) → prsR (p0 :: ts) = none) : prsR (p0 :: ts) = none := by
  cases ho : opOf p0.data.toList with
  | none => rw [prsR, ho]
  | some o =>
    obtain ⟨h1, h2⟩ := opOf_some ho
    exact h ⟨o, h1, by rw [← data_mk p0, ← h2, data_mk]⟩
theorem pad_step (d : List Int) (h : d.length < 3) : pad (d ++ [0]) = pad d := by
  unfold pad
  rw [List.length_append, List.length_singleton, List.append_assoc, show 3 - d.length = (3 - (d.length + 1)) + 1 by omega]
  rfl
theorem mem_jn_len : ∀ (ps : List (List UInt8)) (x : List UInt8), x ∈ ps → x.length ≤ (jn ps).length
  | [], _, h => by cases h
  | [p], x, h => by rw [jn_one, List.mem_singleton.1 h]; exact Nat.le_refl _
  | p :: q :: ps, x, h => by
    rw [jn_two, List.length_append, List.length_cons]
    rcases List.mem_cons.1 h with rfl | h
    · omega
    · have := mem_jn_len (q :: ps) x h
      omega
set_option maxHeartbeats 4000000 in
theorem refParse_any (s : ByteArray) (hs : s.size ≤ 1048576) (w : World) :
    Calls Tryz.prog 74 #[.string s] w fun e w' => e = .returned (pv (prs (splitP s))) ∧ Below w.heap.size w w' := by
  obtain ⟨i0, hi, hz0, hz1, hz2⟩ := info_parts info5
  obtain ⟨R, hR⟩ : ∃ R, prs (splitP s) = R := ⟨_, rfl⟩
  rw [hR]
  have HRR : Hid (∀ ps : List (List UInt8), ps ≠ [] → (∀ w ∈ ps, (32 : UInt8) ∉ w) → jn ps = s.data.toList → prsR (ps.map mk) = R) := fun ps a b c => by rw [parts_prs s ps a b c, hR]
  clear hR
  go_enter Tryz.func74, Tryz.ntmps74
  go_wp2_with (first
    | (go_at_call 104; refine (parts_any s hs _).mono ?_; rintro e w1 ⟨v, rfl, hb1, ps, hown, hpl, hne, hplain, hj⟩; obtain ⟨gl, cap, rfl, hcap, hgl⟩ := own_slice hown (List.length_pos_iff.2 hne))
    | (go_at_call 78; refine (words_any _).mono ?_; rintro e w2 ⟨rfl, rfl⟩))
  have zB : w.heap.size < w1.heap.size := by have := hb1.size; simp at this; omega
  have hB1 : Below w.heap.size w w1 := ((Below.refl _ _).alloc (Nat.le_refl _) _).trans (hb1.mono (by simp))
  have bq : Below w1.heap.size w1 (w1.alloc (.cells wordCells 9)) := (Below.refl _ _).alloc (Nat.le_refl _) _
  have HBQ : Hid (Below w.heap.size w (w1.alloc (.cells wordCells 9))) := hB1.trans (bq.mono (by omega))
  have HY : Hid (∀ i, i < 4 → (w1.alloc (.cells wordCells 9)).cell? ⟨w.heap.size, i, none⟩ = some (.int .u8 0)) := by
    intro i hi
    rw [(bcell bq).1 _ _ zB, (bcell hb1).1 _ _ (by simp)]
    match i, hi with
    | 0, _ => simp [go_sem]
    | 1, _ => simp [go_sem]
    | 2, _ => simp [go_sem]
    | 3, _ => simp [go_sem]
    | i + 4, h => omega
  have HZ : Hid (∀ i, (w1.alloc (.cells wordCells 9)).frozen? ⟨w.heap.size, i, none⟩ = false) := by
    intro i
    rw [(bcell bq).2 _ _ zB, (bcell hb1).2 _ _ (by simp)]
    simp [go_sem]
  have HWd : Hid (∀ j, j < 23 → (w1.alloc (.cells wordCells 9)).cell? ⟨w1.heap.size, j, none⟩ = some (.string (fWord j))) := fun j hj => alloc_cell (word_at j hj)
  have HL0 : Hid (∀ (j : Nat) (x : ByteArray), (ps.map mk)[j]? = some x → (w1.alloc (.cells wordCells 9)).cell? ⟨gl, j, none⟩ = some (.string x) ∧ x.size ≤ 1048576) := by
    intro j x hx
    rw [List.getElem?_map] at hx
    cases hp : ps[j]? with
    | none => rw [hp] at hx; cases hx
    | some l =>
      rw [hp] at hx
      obtain rfl := Option.some.inj hx
      refine ⟨?_, ?_⟩
      · rw [(bcell bq).1 _ _ hgl]
        rw [hown.cellAt j (by rw [Nat.mul_one]; exact (List.getElem?_eq_some_iff.1 hp).1)]
        unfold pcs
        rw [List.getElem?_map, hp]
        rfl
      · rw [mk_size]
        have := mem_jn_len ps l (List.mem_of_getElem? hp)
        rw [hj, ← size_data] at this
        omega
  have HRp := HRR.out ps hne hplain hj
  have hlen0 : (ps.map mk).length = ps.length := List.length_map ..
  obtain ⟨p0, ts, hpt⟩ : ∃ p0 ts, ps.map mk = p0 :: ts := List.exists_cons_of_ne_nil (by simpa using hne)
  rw [hpt] at HRp hlen0 HL0
  rw [List.length_cons] at hlen0
  have HRP : Hid (prsR (p0 :: ts) = R) := HRp
  have hlen : ps.length = ts.length + 1 := hlen0.symm
  have htl : ts.length ≤ 1048576 := by omega
  rw [hlen]
  rw [hlen] at hcap
  have hglq : gl < (w1.alloc (.cells wordCells 9)).heap.size := by rw [alloc_size]; omega
  have hgwq : w1.heap.size < (w1.alloc (.cells wordCells 9)).heap.size := by rw [alloc_size]; omega
  have hzq : w.heap.size < (w1.alloc (.cells wordCells 9)).heap.size := by rw [alloc_size]; omega
  generalize w1.alloc (.cells wordCells 9) = wq at *
  generalize w1.heap.size = gw at *
  clear HRR HRp hlen0 hpt hplain hj hne hpl hlen hown hb1 hB1 bq zB hgl
  go_loopg [6] 23 (fun g s6 wx => ∃ k : Nat, k + g = 23 ∧ s6 = .int .i64 k ∧ Below wq.heap.size wq wx ∧ Hid ((∃ i, i < k ∧ p0 = fWord i) → R = none))
  case atStart => exact ⟨0, rfl, rfl, Below.refl _ _, fun ⟨i, h, _⟩ => by omega⟩
  case round =>
    obtain ⟨k, hkg, rfl, hBx, HI⟩ := hrel
    have hqr : wq.heap.size ≤ wr.heap.size := hBx.size
    have hglr : gl < wr.heap.size := by omega
    have hgwr : gw < wr.heap.size := by omega
    have hzr : w.heap.size < wr.heap.size := by omega
    have HBr : Hid (Below w.heap.size w wr) := HBQ.out.trans (hBx.mono (by omega))
    have HYr : Hid (∀ i, i < 4 → wr.cell? ⟨w.heap.size, i, none⟩ = some (.int .u8 0)) := fun i hi => by rw [(bcell hBx).1 _ _ hzq]; exact HY.out i hi
    have HZr : Hid (∀ i, wr.frozen? ⟨w.heap.size, i, none⟩ = false) := fun i => by rw [(bcell hBx).2 _ _ hzq]; exact HZ.out i
    have c0 : wr.cell? ⟨gl, 0, none⟩ = some (.string p0) := by rw [(bcell hBx).1 _ _ hglq]; exact (HL0.out 0 p0 rfl).1
    cases gk with
    | zero =>
      obtain rfl : k = 23 := by omega
      have HN : Hid (R = none) := by show _ = _; rw [← HRP.out]; exact prsR_end p0 ts (fun h => by rw [HRP.out]; exact HI.out h)
      have y0 := HYr.out 0 (by decide)
      have y1 := HYr.out 1 (by decide)
      have y2 := HYr.out 2 (by decide)
      have y3 := HYr.out 3 (by decide)
      have fz := HZr.out
      clear c0
      go_wp2
      refine bodyPost_ret (v := .tuple #[.agg #[.int .u8 0, .int .u8 0, .int .u8 0, .int .u8 0], .int .i64 14]) (by simp [results, Tryz.results74, go_sem, y0, y1, y2, y3, hzr]) rfl ⟨by rw [HN.out]; rfl, ?_⟩
      exact (((HBr.out.setCell (Nat.le_refl _) _).setCell (Nat.le_refl _) _).setCell (Nat.le_refl _) _).setCell (Nat.le_refl _) _
    | succ g =>
      have hk : k < 23 := by omega
      have hk' : (k : Int) < 23 := by omega
      have hfa := field_at k hk
      have cw : wr.cell? ⟨gw, k, none⟩ = some (.string (fWord k)) := by rw [(bcell hBx).1 _ _ hgwq]; exact HWd.out k hk
      have HFS : Hid ((fField k).size = (ksOf k).length) := by show _ = _; rw [size_data, field_kinds k hk, List.length_map]
      have HFK : Hid ((fField k).data.toList = (ksOf k).map kChar) := field_kinds k hk
      have hfs := HFS.out
      have hks3 := ks_short k hk
      by_cases heq : p0 = fWord k
      · subst heq
        generalize fField k = f at *
        by_cases hlk : ts.length = (ksOf k).length
        · have HRV : Hid (R = match rdAllR (ksOf k) ts [] with
              | some d => if chk (ksOf k) (pad d) = true then some (k, pad d) else none
              | none => none) := by show _ = _; rw [← HRP.out, prsR_at _ ts k hk rfl, if_pos hlk.symm]
          have hd2 : (ts.length : Int) + 1 = 1 + (f.size : Int) := by omega
          have HFS0 : Hid (f.size = (ksOf k).length ∧ ts.length = (ksOf k).length) := ⟨hfs, hlk⟩
          clear HI HRP hfs hlk
          go_wp2_with (go_at_call 79; refine (fields_any _).mono ?_; rintro e w2 ⟨rfl, rfl⟩)
          go_quiet (fail)
          have hBi : Below wq.heap.size wq ((wr.alloc (.cells fieldCells 9)).drewN nq) := below_draws (hBx.alloc hqr _) _
          clear c0 cw HYr HZr HBr hBx hglr hgwr hzr hqr
          generalize (wr.alloc (.cells fieldCells 9)).drewN nq = wi at *
          have hqi : wq.heap.size ≤ wi.heap.size := hBi.size
          have hgli : gl < wi.heap.size := by omega
          have hzi : w.heap.size < wi.heap.size := by omega
          have HBi : Hid (Below w.heap.size w wi) := HBQ.out.trans (hBi.mono (by omega))
          have HYi : Hid (∀ i, i < 4 → wi.cell? ⟨w.heap.size, i, none⟩ = some (.int .u8 0)) := fun i hi => by rw [(bcell hBi).1 _ _ hzq]; exact HY.out i hi
          have HZi : Hid (∀ i, wi.frozen? ⟨w.heap.size, i, none⟩ = false) := fun i => by rw [(bcell hBi).2 _ _ hzq]; exact HZ.out i
          have HLi : Hid (∀ (j : Nat) (x : ByteArray), ts[j]? = some x → wi.cell? ⟨gl, j + 1, none⟩ = some (.string x) ∧ x.size ≤ 1048576) := fun j x hx => by rw [(bcell hBi).1 _ _ hglq]; exact HL0.out (j + 1) x (by simpa using hx)
          have HFIT : Hid (fit (ksOf k) 3) := fit_all k hk
          have hks3' : f.size ≤ 3 := by have := HFS0.out; omega
          have HNN : Hid ((ksOf k).length = f.size) := HFS0.out.1.symm
          have HLK : Hid (ts.length = f.size) := by show _ = _; rw [HFS0.out.1, HFS0.out.2]
          clear hfa HFS hd2 HFS0 hks3
          go_wp2
          go_loopg [8, 9] f.size (fun g' s8 s9 wx => ∃ (i : Nat) (ks : List Nat) (tl : List ByteArray) (d : List Int), ks.length = g' ∧ tl.length = g' ∧ i + g' = f.size ∧ s9 = .int .i64 i ∧ wx.ownsRow wi.heap.size 5 1 s8 d.length (ints d) ∧ Below wi.heap.size wi wx ∧ d.length ≤ 3 ∧ fit ks (3 - d.length) ∧
            Hid (rdAllR ks tl d = rdAllR (ksOf k) ts []) ∧ Hid (∀ (j q : Nat), ks[j]? = some q → f.data.toList[i + j]? = some (kChar q)) ∧ Hid (∀ (j : Nat) (x : ByteArray), tl[j]? = some x → ts[i + j]? = some x) ∧ Hid (∀ x ∈ d, byte x))
          case atStart =>
            exact ⟨0, ksOf k, ts, [], HNN.out, HLK.out, by omega, rfl, ⟨rfl, Or.inl ⟨rfl, rfl⟩⟩, Below.refl _ _, by simp, HFIT.out, rfl, fun j q h => by rw [HFK.out, List.getElem?_map, Nat.zero_add, h]; rfl, fun j x h => by rw [Nat.zero_add]; exact h, fun x h => by cases h⟩
          case round =>
            obtain ⟨i, ks, tl, d, hkl, htl2, hig, rfl, hown, hBw, hd3, hft, HR, HK, HT, HBy⟩ := hrel
            have hiw : wi.heap.size ≤ wr.heap.size := hBw.size
            cases gk with
            | zero =>
              have hks : ks = [] := List.eq_nil_of_length_eq_zero hkl
              have htl0 : tl = [] := List.eq_nil_of_length_eq_zero htl2
              subst hks htl0
              have hlt : ¬ ((i : Int) < (f.size : Int)) := by omega
              have HRZ : Hid (R = if chk (ksOf k) (pad d) = true then some (k, pad d) else none) := by
                show _ = _
                rw [HRV.out, ← HR.out]; rfl
              have HOW0 : Hid (wr.ownsRow wi.heap.size 5 1 u8 d.length (ints d)) := hown
              have hwk : IntKind.u8.wrap (k : Int) = (k : Int) := by rw [IntKind.wrap_u8]; omega
              clear HR HK HT HRV
              go_wp2
              go_loopg [8] (3 - d.length) (fun g3 s8 wx => ∃ d' : List Int, d'.length + g3 = 3 ∧ wx.ownsRow wi.heap.size 5 1 s8 d'.length (ints d') ∧ Below wi.heap.size wi wx ∧ Hid (pad d' = pad d ∧ ∀ x ∈ d', byte x))
              case atStart => exact ⟨d, by omega, HOW0.out, hBw, rfl, HBy.out⟩
              case round =>
                clear hown hBw HOW0 hiw
                obtain ⟨d', hdl, hown, hBw, HP⟩ := hrel
                have hiw : wi.heap.size ≤ wr.heap.size := hBw.size
                cases gk with
                | zero =>
                  obtain ⟨b0, b1, b2, rfl⟩ : ∃ b0 b1 b2, d' = [b0, b1, b2] := by
                    match d', hdl with
                    | [b0, b1, b2], _ => exact ⟨b0, b1, b2, rfl⟩
                  have HPD : Hid (pad d = [b0, b1, b2]) := HP.out.1.symm
                  have hy0 : byte b0 := HP.out.2 b0 (by simp)
                  have hy1 : byte b1 := HP.out.2 b1 (by simp)
                  have hy2 : byte b2 := HP.out.2 b2 (by simp)
                  have hown3 : wr.ownsRow wi.heap.size 5 1 u8 3 (ints [b0, b1, b2]) := hown
                  obtain ⟨gb, cb, rfl, hcb, hgb0, hgb⟩ := own_some5 hown3 (by decide)
                  have e0 : wr.cell? ⟨gb, 0, none⟩ = some (.int .u8 b0) := by have := hown3.cellAt 0 (by decide); simpa [ints] using this
                  have e1 : wr.cell? ⟨gb, 1, none⟩ = some (.int .u8 b1) := by have := hown3.cellAt 1 (by decide); simpa [ints] using this
                  have e2 : wr.cell? ⟨gb, 2, none⟩ = some (.int .u8 b2) := by have := hown3.cellAt 2 (by decide); simpa [ints] using this
                  have HRM : Hid (R = if may k b0 b1 b2 = true then some (k, [b0, b1, b2]) else none) := by
                    show _ = _
                    rw [HRZ.out, HPD.out]
                    have : may k b0 b1 b2 = chk (ksOf k) [b0, b1, b2] := by unfold may; rw [wrt_chk]; simp [hk]
                    rw [this]
                  have cC := fun W => refCheck_any k (by omega) b0 b1 b2 W hy0 hy1 hy2
                  clear hown hown3 HP hdl
                  go_wp2
                  go_cut [12] (fun s12 wx => ∃ B, s12 = .pointer (some ⟨B, 0, none⟩) ∧ wr.heap.size ≤ B ∧ At wx B k b0 b1 b2 ∧ Below wr.heap.size wr wx)
                  case first =>
                    go_region
                    all_goals (go_wp2_with fail; go_meet)
                    all_goals exact ⟨wr.heap.size, rfl, Nat.le_refl _, ⟨by simp [go_sem], by simp [go_sem], by simp [go_sem], by simp [go_sem], by simp [go_sem]⟩, ((Below.refl _ _).alloc (Nat.le_refl _) _).drew⟩
                  case rest =>
                    obtain ⟨B, rfl, hB0, hAt, hb7⟩ := hcut
                    have hBc : Below wi.heap.size wi wc := hBw.trans (hb7.mono hiw)
                    have hwc : wi.heap.size ≤ wc.heap.size := hBc.size
                    have A0 := hAt.c0
                    have A1 := hAt.c1
                    have A2 := hAt.c2
                    have A3 := hAt.c3
                    have hAl := hAt.lt
                    have HAt : Hid (At wc B k b0 b1 b2) := hAt
                    have HBC : Hid (Below wi.heap.size wi wc) := hBc
                    clear hAt hBc hb7 e0 e1 e2 hwk
                    cases hmy : may k b0 b1 b2 with
                    | false =>
                      have HN : Hid (R = none) := by show _ = _; rw [HRM.out, hmy]; rfl
                      simp only [hmy] at cC
                      clear hmy HRM HRZ HPD
                      go_wp2_with (go_at_call 37; refine (cC _).mono ?_; rintro e w8 ⟨rfl, hb8⟩)
                      go_roundg g
                      case measure => omega
                      case rel => exact ⟨k + 1, by omega, by go_num, hBi.trans ((HBC.out.trans (hb8.mono hwc)).mono hqi), fun _ => HN.out⟩
                    | true =>
                      have HN : Hid (R = some (k, [b0, b1, b2])) := by show _ = _; rw [HRM.out, hmy]; rfl
                      simp only [hmy] at cC
                      clear hmy HRM HRZ HPD
                      go_wp2_with (go_at_call 37; refine (cC _).mono ?_; rintro e w8 ⟨rfl, hb8⟩; have hB8 : Below wi.heap.size wi w8 := HBC.out.trans (hb8.mono hwc); have A8 := HAt.out.on hb8; have A8l := A8.lt; have A80 := A8.c0; have A81 := A8.c1; have A82 := A8.c2; have A83 := A8.c3; have y0 : w8.cell? ⟨w.heap.size, 0, none⟩ = some (.int .u8 0) := (by rw [(bcell hB8).1 _ _ hzi]; exact HYi.out 0 (by decide)); have y1 : w8.cell? ⟨w.heap.size, 1, none⟩ = some (.int .u8 0) := (by rw [(bcell hB8).1 _ _ hzi]; exact HYi.out 1 (by decide)); have y2 : w8.cell? ⟨w.heap.size, 2, none⟩ = some (.int .u8 0) := (by rw [(bcell hB8).1 _ _ hzi]; exact HYi.out 2 (by decide)); have y3 : w8.cell? ⟨w.heap.size, 3, none⟩ = some (.int .u8 0) := (by rw [(bcell hB8).1 _ _ hzi]; exact HYi.out 3 (by decide)); have fz : ∀ i, w8.frozen? ⟨w.heap.size, i, none⟩ = false := (fun i => by rw [(bcell hB8).2 _ _ hzi]; exact HZi.out i); have hz8 : w.heap.size < w8.heap.size := (by have := hB8.size; omega); have HB8 : Hid (Below w.heap.size w w8) := HBi.out.trans (hB8.mono (by omega)); clear hB8 hb8)
                      (try simp only [Exit.inBlock, Exit.then])
                      repeat rw [Exit.noGoto_ret]
                      (try simp only [Exit.inBlock, Exit.then])
                      refine bodyPost_ret (v := .tuple #[.agg #[.int .u8 k, .int .u8 b0, .int .u8 b1, .int .u8 b2], .int .i64 0]) (by simp [results, Tryz.results74, go_sem, y0, y1, y2, y3, hz8]) rfl ⟨by rw [HN.out]; rfl, ?_⟩
                      exact (((HB8.out.setCell (Nat.le_refl _) _).setCell (Nat.le_refl _) _).setCell (Nat.le_refl _) _).setCell (Nat.le_refl _) _
                | succ g3 =>
                  obtain ⟨sp, cp, rfl⟩ := own_form5 hown
                  have hl3 : (d'.length : Int) < 3 := by omega
                  have HOW : Hid (wr.ownsRow wi.heap.size 5 1 (.slice sp d'.length cp) d'.length (ints d')) := hown
                  have HA4 : Hid (d'.length + 1 ≤ maxLen) := by show _ ≤ _; unfold maxLen; omega
                  have HP2 : Hid (pad (d' ++ [0]) = pad d ∧ ∀ x ∈ d' ++ [0], byte x) := by
                    refine ⟨by rw [pad_step d' (by omega)]; exact HP.out.1, ?_⟩
                    intro x hx
                    rcases List.mem_append.1 hx with hx | hx
                    · exact HP.out.2 x hx
                    · rw [List.mem_singleton.1 hx]; exact ⟨by decide, by decide⟩
                  clear hown HP
                  go_wp2_with (at_builtin; refine wpList_append_own_at _ rfl _ _ 22 rfl wi.heap.size 5 i0 (.int .u8 0) 1 1 Tryz.underlying22 hi hz0 hz1 hz2 rfl (by decide) (.slice sp d'.length cp) _ _ rfl (HOW.out.alloc _) ⟨wr.heap.size, 0, none⟩ 1 1 [.int .u8 0] rfl rfl (cell_one_new _ _ _) (fun x hx => by simp at hx; subst hx; rfl) HA4.out (by omega) (by rw [alloc_size]; omega) ?_; intro v' w6 hown' hgrow hnil hloc; clear hnil hloc)
                  all_goals
                    go_roundg g3
                    case measure => omega
                    case rel =>
                      have e1 : (d' ++ [(0 : Int)]).length = d'.length + 1 := by simp
                      have e2 : ints d' ++ [Value.int .u8 0] = ints (d' ++ [0]) := ints_app d' [0]
                      rw [e2, ← e1] at hown'
                      exact ⟨d' ++ [0], by rw [e1]; omega, hown', (hBw.alloc hiw _).grown hgrow (by rw [alloc_size]; omega) (fun p e => (own_ge HOW.out e).1), HP2.out⟩
            | succ g2 =>
              obtain ⟨q, ks', rfl⟩ : ∃ q ks', ks = q :: ks' := by
                cases ks with
                | nil => simp at hkl
                | cons q ks' => exact ⟨q, ks', rfl⟩
              obtain ⟨t, tl', rfl⟩ : ∃ t tl', tl = t :: tl' := by
                cases tl with
                | nil => simp at htl2
                | cons t tl' => exact ⟨t, tl', rfl⟩
              obtain ⟨hq1, hq5, hqn, hft'⟩ := hft
              have hqb := kSz_bd q
              have hlt : (i : Int) < (f.size : Int) := by omega
              have hti := HT.out 0 t rfl
              rw [Nat.add_zero] at hti
              obtain ⟨hct0, htsz⟩ := HLi.out i t hti
              have hct2 : wr.cell? ⟨gl, i + 1, none⟩ = some (.string t) := by rw [(bcell hBw).1 _ _ hgli]; exact hct0
              have hgt := HK.out 0 q rfl
              rw [Nat.add_zero] at hgt
              have hget : ∀ (h : i < f.size), f[i] = kChar q := fun h => get_of hgt h
              have hglw : gl < wr.heap.size := by omega
              have hidx := idx_next gl cap i ts.length (by have := HLK.out; omega)
              have hid2 : (1 : Int) + (i : Int) < (ts.length : Int) + 1 := by have := HLK.out; omega
              have hid0 : (0 : Int) ≤ 1 + (i : Int) := by omega
              have hid3 : ((1 : Int) + (i : Int)).toNat = i + 1 := by omega
              have hwi : IntKind.i64.wrap (1 + (i : Int)) = 1 + (i : Int) := by rw [IntKind.wrap_i64]; omega
              clear hct0 hti hgt
              cases hfr : frd q t.data.toList with
              | none =>
                have cF := field_none q hq1 hq5 t htsz hfr
                have HN : Hid (R = none) := by
                  show _ = _
                  rw [HRV.out, ← HR.out, rdAllR, hfr]
                clear hfr
                go_wp2
                go_cut [10, 11] (fun s10 s11 wx => s11 = .bool false ∧ Below wr.heap.size wr wx)
                case first =>
                  go_region_with (go_at_call 105; refine (cF _).mono ?_; rintro e w5 ⟨v5, rfl, hb5⟩)
                  all_goals (go_wp2_with fail; go_meet)
                  all_goals (first | exact ⟨rfl, hb5⟩ | exact ⟨rfl, (below_draws (Below.refl _ _) _).trans hb5⟩)
                case rest =>
                  obtain ⟨rfl, hb5⟩ := hcut
                  have hBc : Below wi.heap.size wi wc := hBw.trans (hb5.mono hiw)
                  have hwc : wi.heap.size ≤ wc.heap.size := hBc.size
                  have hzc : w.heap.size < wc.heap.size := by omega
                  have y0 : wc.cell? ⟨w.heap.size, 0, none⟩ = some (.int .u8 0) := by rw [(bcell hBc).1 _ _ hzi]; exact HYi.out 0 (by decide)
                  have y1 : wc.cell? ⟨w.heap.size, 1, none⟩ = some (.int .u8 0) := by rw [(bcell hBc).1 _ _ hzi]; exact HYi.out 1 (by decide)
                  have y2 : wc.cell? ⟨w.heap.size, 2, none⟩ = some (.int .u8 0) := by rw [(bcell hBc).1 _ _ hzi]; exact HYi.out 2 (by decide)
                  have y3 : wc.cell? ⟨w.heap.size, 3, none⟩ = some (.int .u8 0) := by rw [(bcell hBc).1 _ _ hzi]; exact HYi.out 3 (by decide)
                  have fz : ∀ i, wc.frozen? ⟨w.heap.size, i, none⟩ = false := fun i => by rw [(bcell hBc).2 _ _ hzi]; exact HZi.out i
                  have HBc : Hid (Below w.heap.size w wc) := HBi.out.trans (hBc.mono (by omega))
                  clear hct2 hidx hid2 hid0 hid3 hwi hget hBc
                  go_wp2
                  (try simp only [Exit.inBlock, Exit.then])
                  repeat rw [Exit.noGoto_ret]
                  (try simp only [Exit.inBlock, Exit.then])
                  refine bodyPost_ret (v := .tuple #[.agg #[.int .u8 0, .int .u8 0, .int .u8 0, .int .u8 0], .int .i64 14]) (by simp [results, Tryz.results74, go_sem, y0, y1, y2, y3, hzc]) rfl ⟨by rw [HN.out]; rfl, ?_⟩
                  exact (((HBc.out.setCell (Nat.le_refl _) _).setCell (Nat.le_refl _) _).setCell (Nat.le_refl _) _).setCell (Nat.le_refl _) _
              | some m =>
                have cF := field_some q hq1 hq5 t htsz m hfr
                have HRn : Hid (rdAllR ks' tl' (d ++ kBytes q m) = rdAllR (ksOf k) ts []) := by
                  show _ = _
                  rw [← HR.out, rdAllR, hfr]
                have HBn : Hid (∀ x ∈ d ++ kBytes q m, byte x) := by
                  intro x hx
                  rcases List.mem_append.1 hx with hx | hx
                  · exact HBy.out x hx
                  · exact frd_bytes q hq1 hq5 _ m hfr x hx
                clear hfr
                go_wp2
                go_cut [10, 11] (fun s10 s11 wx => s10 = .slice (some ⟨wr.heap.size, 0, none⟩) (kSz q) (kSz q) ∧ s11 = .bool true ∧ Below wr.heap.size wr wx ∧ wr.heap.size < wx.heap.size ∧ Hid (∀ j u, (ints (kBytes q m))[j]? = some u → wx.cell? ⟨wr.heap.size, j, none⟩ = some u))
                case first =>
                  go_region_with (go_at_call 105; refine (cF _).mono ?_; rintro e w5 ⟨rfl, rfl⟩)
                  all_goals (go_wp2_with fail; go_meet)
                  all_goals exact ⟨rfl, rfl, (below_draws (Below.refl _ _) _).alloc (Nat.le_refl _) _, by simp [go_sem], fun j u h => alloc_cell (by rw [List.getElem?_toArray]; exact h)⟩
                case rest =>
                  obtain ⟨rfl, rfl, hb5, hl5, HC5⟩ := hcut
                  have hown5 := own_on hown hb5
                  have hBc : Below wi.heap.size wi wc := hBw.trans (hb5.mono hiw)
                  have hwc : wi.heap.size ≤ wc.heap.size := hBc.size
                  clear hct2 hidx hid2 hid0 hid3 hwi hget
                  have HA1 : Hid ((ints (kBytes q m)).length = kSz q * 1) := by show _ = _; rw [ints, List.length_map, kBytes_length, Nat.mul_one]
                  have HA2 : Hid (∀ j u, (ints (kBytes q m))[j]? = some u → wc.cell? ((⟨wr.heap.size, 0, none⟩ : Addr).add j) = some u) := fun j u h => by rw [Addr.add_lit, Nat.zero_add]; exact HC5.out j u h
                  have HA3 : Hid (∀ x ∈ ints (kBytes q m), x.oneCell' = true) := fun x hx => by obtain ⟨y, _, rfl⟩ := List.mem_map.1 hx; rfl
                  have HA4 : Hid (d.length + kSz q ≤ maxLen) := by show _ ≤ _; unfold maxLen; omega
                  have HA5 : Hid ((d.length + kSz q) * 1 ≤ 140737488355328) := by show _ ≤ _; omega
                  have HOW : Hid (wc.ownsRow wi.heap.size 5 1 u8 d.length (ints d)) := hown5
                  clear hown5
                  go_wp2_with (at_builtin; refine wpList_append_own_at _ rfl _ _ 22 rfl wi.heap.size 5 i0 (.int .u8 0) 1 1 Tryz.underlying22 hi hz0 hz1 hz2 rfl (by decide) u8 _ _ rfl HOW.out ⟨wr.heap.size, 0, none⟩ (kSz q) (kSz q) (ints (kBytes q m)) rfl HA1.out HA2.out HA3.out HA4.out HA5.out hwc ?_; intro v' w6 hown' hgrow hnil hloc; clear hnil hloc)
                  all_goals
                    go_roundg g2
                    case measure => omega
                    case rel =>
                      have e1 : (d ++ kBytes q m).length = d.length + kSz q := by rw [List.length_append, kBytes_length]
                      rw [ints_app, ← e1] at hown'
                      refine ⟨i + 1, ks', tl', d ++ kBytes q m, by simpa using hkl, by simpa using htl2, by omega, by go_num, hown', hBc.grown hgrow hwc (fun p e => (own_ge HOW.out e).1), by omega, ?_, HRn.out, ?_, ?_, HBn.out⟩
                      · rw [e1, show 3 - (d.length + kSz q) = 3 - d.length - kSz q by omega]; exact hft'
                      · intro j q' h; rw [show i + 1 + j = i + (j + 1) by omega]; exact HK.out (j + 1) q' (by simpa using h)
                      · intro j x h; rw [show i + 1 + j = i + (j + 1) by omega]; exact HT.out (j + 1) x (by simpa using h)
        · have HN : Hid (R = none) := by show _ = _; rw [← HRP.out, prsR_at _ ts k hk rfl, if_neg (Ne.symm hlk)]
          have hd : ((((ts.length + 1 : Nat) : Int)) == 1 + (f.size : Int)) = false := by rw [beq_eq_false_iff_ne]; omega
          have hd2 : (((ts.length : Int) + 1) == 1 + (f.size : Int)) = false := by rw [beq_eq_false_iff_ne]; omega
          clear HI
          go_wp2_with (go_at_call 79; refine (fields_any _).mono ?_; rintro e w2 ⟨rfl, rfl⟩)
          go_quiet (fail)
          go_wp2
          go_roundg g
          case measure => omega
          case rel => exact ⟨k + 1, by omega, by go_num, below_draws (hBx.alloc hqr _) _, fun _ => HN.out⟩
      · have hne := strings_ne p0 (fWord k) heq
        have HI2 : Hid ((∃ i, i < k + 1 ∧ p0 = fWord i) → R = none) := by
          rintro ⟨i, h1, h2⟩
          by_cases hik : i = k
          · subst hik; exact absurd h2 heq
          · exact HI.out ⟨i, by omega, h2⟩
        clear HI heq
        go_wp2_with (go_at_call 79; refine (fields_any _).mono ?_; rintro e w2 ⟨rfl, rfl⟩)
        go_quiet (fail)
        go_wp2
        go_roundg g
        case measure => omega
        case rel => exact ⟨k + 1, by omega, by go_num, below_draws (hBx.alloc hqr _) _, HI2⟩
end Go.Proofs.YtcjghnnliepjjaaGreatDoor
namespace Go.Proofs.YtcjghnnliepjjaaGreatDoor
open Go Go.RowKit
set_option maxRecDepth 100000
set_option linter.unusedVariables false
set_option linter.unusedSimpArgs false
def hxN (n : Nat) : Int := if 48 ≤ n ∧ n ≤ 57 then (n : Int) - 48 else if 97 ≤ n ∧ n ≤ 102 then (n : Int) - 97 + 10 else -1
theorem hexv_all : (List.range 256).all (fun n => hexv (UInt8.ofNat n) == hxN n) = true := by decide +kernel
theorem hexv_is (c : UInt8) : hexv c = hxN c.toNat := by
  have h := List.all_eq_true.1 hexv_all c.toNat (List.mem_range.2 c.toNat_lt)
  rw [show UInt8.ofNat c.toNat = c by simp] at h
  simpa using h
theorem rdigit_any (c : UInt8) (w : World) : Calls Tryz.prog 103 #[.int .u8 (c.toNat : Int)] w fun e w' => e = .returned (.int .i64 (hexv c)) ∧ w' = w := by
  have hc : c.toNat < 256 := c.toNat_lt
  have hv := hexv_is c
  unfold hxN at hv
  generalize hexv c = v at *
  obtain ⟨n, hn⟩ : ∃ n, c.toNat = n := ⟨_, rfl⟩
  rw [hn] at hc hv ⊢
  clear hn
  by_cases h1 : 48 ≤ n ∧ n ≤ 57
  · rw [if_pos h1] at hv
    subst hv
    have a1 : (48 : Int) ≤ n := by omega
    have a2 : (n : Int) ≤ 57 := by omega
    have a3 : IntKind.u8.wrap ((n : Int) - 48) = (n : Int) - 48 := by rw [IntKind.wrap_u8]; omega
    have a4 : IntKind.i64.wrap ((n : Int) - 48) = (n : Int) - 48 := by rw [IntKind.wrap_i64]; omega
    go_enter Tryz.func103, Tryz.ntmps103
    go_wp2
    go_ret
    exact ⟨rfl, rfl⟩
  · rw [if_neg h1] at hv
    have e1 : (decide ((48 : Int) ≤ n) && decide ((n : Int) ≤ 57)) = false := by
      rw [Bool.and_eq_false_iff]
      by_cases h : (48 : Int) ≤ n
      · exact Or.inr (decide_eq_false (by omega))
      · exact Or.inl (decide_eq_false h)
    by_cases h2 : 97 ≤ n ∧ n ≤ 102
    · rw [if_pos h2] at hv
      subst hv
      have a1 : (48 : Int) ≤ n := by omega
      have a2 : ¬ (n : Int) ≤ 57 := by omega
      have a5 : (97 : Int) ≤ n := by omega
      have a6 : (n : Int) ≤ 102 := by omega
      have a3 : IntKind.u8.wrap ((n : Int) - 97) = (n : Int) - 97 := by rw [IntKind.wrap_u8]; omega
      have a4 : IntKind.i64.wrap ((n : Int) - 97) = (n : Int) - 97 := by rw [IntKind.wrap_i64]; omega
      have a7 : IntKind.i64.wrap ((n : Int) - 97 + 10) = (n : Int) - 97 + 10 := by rw [IntKind.wrap_i64]; omega
      clear e1
      go_enter Tryz.func103, Tryz.ntmps103
      go_wp2
      go_ret
      exact ⟨rfl, rfl⟩
    · rw [if_neg h2] at hv
      subst hv
      clear e1
      by_cases b1 : 48 ≤ n
      · have a1 : (48 : Int) ≤ n := by omega
        have a2 : ¬ (n : Int) ≤ 57 := by omega
        by_cases b2 : 97 ≤ n
        · have a5 : (97 : Int) ≤ n := by omega
          have a6 : ¬ (n : Int) ≤ 102 := by omega
          go_enter Tryz.func103, Tryz.ntmps103
          go_wp2
          go_ret
          exact ⟨rfl, rfl⟩
        · have a5 : ¬ (97 : Int) ≤ n := by omega
          go_enter Tryz.func103, Tryz.ntmps103
          go_wp2
          go_ret
          exact ⟨rfl, rfl⟩
      · have a1 : ¬ (48 : Int) ≤ n := by omega
        have a5 : ¬ (97 : Int) ≤ n := by omega
        go_enter Tryz.func103, Tryz.ntmps103
        go_wp2
        go_ret
        exact ⟨rfl, rfl⟩
/-- a byte put behind a row of one's own, as one step of a region that draws its order -/
theorem step_byte {w : World} {ops : Array Oper} {o : Oper} {a : Act} {K : Act → World → Prop} {Q : Exit → Act → World → Prop} {E : Prop} (hgd : o.guard = none) (s x : Operand)
    (ho : o.op = .call { callee := .builtin .append, args := #[s, x], argTypes := #[22, 22] }) (B n : Nat) (v : Value) (xs : List Int) (z : Int) (b off c t : Nat) (hse : a.eval s = v) (hx : a.eval x = .slice (some ⟨b, off, none⟩) 1 c)
    (hown : w.ownsRow B 5 1 v n (byt xs)) (hsrc : Src w (some ⟨b, off, none⟩) [z]) (ht : n + 1 = t) (hlen : t ≤ 1000000000) (hB : B ≤ w.heap.size)
    (h : ∀ sp' c' w', w'.ownsRow B 5 1 (.slice sp' t c') t (byt (xs ++ [z])) → w.grownBy w' v.ownBlock → K (a.put o.dst (.slice sp' t c')) w') :
    if Region.wanted o (yielded ops a.tmps) = true then Oper.wp Tryz.prog o a w K Q else E := by
  subst ht
  have hw : Region.wanted o (yielded ops a.tmps) = true := by simp [Region.wanted, hgd]
  rw [if_pos hw]
  obtain ⟨i, hi, hz, hs, hby⟩ := info_parts infoB
  obtain ⟨v', w', hr, h2, h3, h4⟩ := run_append_own (P := Tryz.prog) w B 22 o.type 5 i _ 1 1 Tryz.underlying22 hi hz hs hby rfl (by decide) v n (byt xs) hown ⟨b, off, none⟩ 1 c (byt [z]) rfl (src_news hsrc) (byt_one [z]) (by simp only [maxLen]; omega) (by omega) hB
  obtain ⟨sp', c', rfl, _⟩ := owns_form h2
  unfold Oper.wp execOp
  simp only [ho, resolve, invoke, builtin, Sem.run_bind, Sem.run_pure, Result.andThen_ok, List.map_toArray, List.map_cons, List.map_nil, hse, hx, hr]
  exact h sp' c' w' (by rw [byt_app]; exact h2) h3
set_option maxHeartbeats 8000000 in
theorem rbytes_any (t : ByteArray) (hl : t.size ≤ 1000000) (w : World) :
    Calls Tryz.prog 73 #[.string t] w fun e w' => ∃ v, e = .returned (.tuple #[v, .bool (hex1 t.data.toList).isSome]) ∧ (∀ ys, hex1 t.data.toList = some ys → w'.ownsRow w.heap.size 5 1 v ys.length (byt ys)) ∧ Below w.heap.size w w' := by
  have hid := idx_str t
  have hsz := size_data t
  generalize hL : t.data.toList = l at *
  obtain ⟨m, hm⟩ : ∃ m, l.length / 2 = m := ⟨_, rfl⟩
  have HM : Hid (l.length / 2 = m) := hm
  obtain ⟨n, hn⟩ : ∃ n, t.size = n := ⟨_, rfl⟩
  have HN : Hid (l.length = n) := by show _ = _; omega
  rw [hn] at hl hid
  have HH : Hid (hex1 l = if n = 0 then none else hexs l) := by
    show _ = _
    unfold hex1
    have h1 := HN.out
    by_cases h0 : l = []
    · rw [if_pos h0, if_pos (by rw [h0] at h1; simpa using h1.symm)]
    · rw [if_neg h0, if_neg (fun e => h0 (List.eq_nil_of_length_eq_zero (by omega)))]
  have hmn : 2 * m ≤ n ∧ n ≤ 2 * m + 1 := by have := HN.out; omega
  have htm : (n : Int).tmod 2 = ((n % 2 : Nat) : Int) := (Int.ofNat_tmod n 2).symm
  obtain ⟨r, hr⟩ : ∃ r, n % 2 = r := ⟨_, rfl⟩
  rw [hr] at htm
  have HR0 : Hid (n % 2 = r) := hr
  clear hm hL hsz hr
  go_enter Tryz.func73, Tryz.ntmps73
  go_wp2
  go_loopg [4, 5] m (fun g s4 s5 wx => ∃ (j : Nat) (ys : List Int), j + g = m ∧ s5 = .int .i64 (2 * (j : Int)) ∧ Hid (ys.length = j ∧ wx.ownsRow w.heap.size 5 1 s4 j (byt ys) ∧ Below w.heap.size w wx ∧ hexs l = (hexs (l.drop (2 * j))).map (ys ++ ·)))
  case atStart => exact ⟨0, [], by omega, rfl, rfl, World.ownsRow_nil _ _ _ _, Below.refl _ _, by simp⟩
  case round =>
    obtain ⟨j, ys, hjg, rfl, HI⟩ := hrel
    have hw1 : IntKind.i64.wrap (2 * (j : Int) + 1) = 2 * (j : Int) + 1 := by rw [IntKind.wrap_i64]; omega
    cases gk with
    | zero =>
      have hlt : ¬ (2 * (j : Int) + 1 < (n : Int)) := by omega
      obtain rfl : j = m := by omega
      have HV : Hid (((hex1 l).isSome = (decide (0 < n) && decide (r = 0))) ∧ (r = 0 → 0 < n → hex1 l = some ys)) := by
        obtain ⟨q1, q2, q3, q4⟩ := HI.out
        have h1 := HN.out
        have h2 := HR0.out
        rw [HH.out]
        by_cases h0 : n = 0
        · subst h0; exact ⟨by simp, fun _ h => absurd h (by omega)⟩
        · rw [if_neg h0, q4]
          by_cases hr : r = 0
          · rw [List.drop_eq_nil_of_le (by omega)]
            refine ⟨?_, fun _ _ => by simp [hexs]⟩
            simp [hexs, hr]; omega
          · obtain ⟨x, hx⟩ : ∃ x, l.drop (2 * j) = [x] := by
              have hl1 : (l.drop (2 * j)).length = 1 := by rw [List.length_drop]; omega
              exact List.length_eq_one_iff.1 hl1
            rw [hx]
            exact ⟨by simp [hexs, hr], fun h => absurd h hr⟩
      have HO : Hid (ys.length = j ∧ wr.ownsRow w.heap.size 5 1 u4 j (byt ys) ∧ Below w.heap.size w wr) := ⟨HI.out.1, HI.out.2.1, HI.out.2.2.1⟩
      clear HI HH
      by_cases h0 : n = 0
      · have d0 : ¬ (0 : Int) < (n : Int) := by omega
        go_wp2
        go_ret2
        refine ⟨u4, ?_, fun zs hz => ?_, HO.out.2.2⟩
        · rw [HV.out.1, h0]; rfl
        · have := HV.out.1; rw [hz, h0] at this; simp at this
      · have d0 : (0 : Int) < (n : Int) := by omega
        by_cases hr : r = 0
        · have d1 : ((r : Int) == 0) = true := by simp [hr]
          have d2 : (r == 0) = true := by simp [hr]
          go_wp2
          go_ret2
          refine ⟨u4, ?_, fun zs hz => ?_, HO.out.2.2⟩
          · rw [HV.out.1, decide_eq_true (show 0 < n by omega), decide_eq_true hr]; rfl
          · rw [HV.out.2 hr (by omega)] at hz
            obtain rfl : ys = zs := Option.some.inj hz
            rw [HO.out.1]
            exact HO.out.2.1
        · have d1 : ((r : Int) == 0) = false := by simpa using hr
          have d2 : (r == 0) = false := by simpa using hr
          go_wp2
          go_ret2
          refine ⟨u4, ?_, fun zs hz => ?_, HO.out.2.2⟩
          · rw [HV.out.1, decide_eq_true (show 0 < n by omega), decide_eq_false hr]; rfl
          · have := HV.out.1; rw [hz, decide_eq_false hr] at this; simp at this
    | succ g =>
      have hlt : 2 * (j : Int) + 1 < (n : Int) := by omega
      have i0 := hid (2 * j) (by omega)
      have i1 := hid (2 * j + 1) (by omega)
      have HA := hexAt l j (by have := HN.out; omega)
      have c0 := rdigit_any (l.getD (2 * j) 0)
      have c1 := rdigit_any (l.getD (2 * j + 1) 0)
      have b0 := hexv_bd (l.getD (2 * j) 0)
      have b1 := hexv_bd (l.getD (2 * j + 1) 0)
      rw [show ((2 * j : Nat) : Int) = 2 * (j : Int) by omega] at i0
      rw [show ((2 * j + 1 : Nat) : Int) = 2 * (j : Int) + 1 by omega] at i1
      generalize l.getD (2 * j) 0 = e0 at *
      generalize l.getD (2 * j + 1) 0 = e1 at *
      generalize hexv e0 = x0 at *
      generalize hexv e1 = x1 at *
      generalize ((e0.toNat : Nat) : Int) = y0 at *
      generalize ((e1.toNat : Nat) : Int) = y1 at *
      have HHA : Hid (_) := HA
      have C0 : Hid (∀ w : World, Calls Tryz.prog 103 #[.int .u8 y0] w fun e w' => e = .returned (.int .i64 x0) ∧ w = w') := fun w => (c0 w).mono fun e w' ⟨h1, h2⟩ => ⟨h1, h2.symm⟩
      have C1 : Hid (∀ w : World, Calls Tryz.prog 103 #[.int .u8 y1] w fun e w' => e = .returned (.int .i64 x1) ∧ w = w') := fun w => (c1 w).mono fun e w' ⟨h1, h2⟩ => ⟨h1, h2.symm⟩
      clear HA hid
      by_cases hneg : x0 < 0 ∨ x1 < 0
      · have HR : Hid (hexs l = none) := by
          show _ = _
          rw [HI.out.2.2.2, HHA.out, if_pos hneg]; rfl
        have HR2 : Hid (hex1 l = none) := by show _ = _; rw [HH.out, HR.out]; simp
        by_cases h0 : x0 < 0
        · have d0 : decide (x0 < 0) = true := by simpa using h0
          clear hneg
          go_wp2_with (first | (go_at_call 103; refine (C0.out _).mono ?_; rintro e wx ⟨rfl, rfl⟩))
          go_ret2
          refine ⟨.slice none 0 0, by rw [HR2.out]; rfl, fun zs hz => (by rw [HR2.out] at hz; cases hz), HI.out.2.2.1⟩
        · have h1 : x1 < 0 := hneg.resolve_left h0
          have d0 : decide (x0 < 0) = false := by simpa using h0
          have d1 : decide (x1 < 0) = true := by simpa using h1
          clear hneg
          have M0 := True.intro
          go_wp2_with (first | (clear M0; go_at_call 103; refine (C0.out _).mono ?_; rintro e wx ⟨rfl, rfl⟩) | (go_at_call 103; refine (C1.out _).mono ?_; rintro e wx ⟨rfl, rfl⟩))
          go_ret2
          refine ⟨.slice none 0 0, by rw [HR2.out]; rfl, fun zs hz => (by rw [HR2.out] at hz; cases hz), HI.out.2.2.1⟩
      · have h0 : ¬ x0 < 0 := fun h => hneg (Or.inl h)
        have h1 : ¬ x1 < 0 := fun h => hneg (Or.inr h)
        have d0 : decide (x0 < 0) = false := by simpa using h0
        have d1 : decide (x1 < 0) = false := by simpa using h1
        have hwm : IntKind.i64.wrap (16 * x0) = 16 * x0 := by rw [IntKind.wrap_i64]; omega
        have hwa : IntKind.i64.wrap (16 * x0 + x1) = 16 * x0 + x1 := by rw [IntKind.wrap_i64]; omega
        have hwb : IntKind.u8.wrap (16 * x0 + x1) = 16 * x0 + x1 := by rw [IntKind.wrap_u8]; omega
        have HR : Hid (hexs l = (hexs (l.drop (2 * (j + 1)))).map ((ys ++ [16 * x0 + x1]) ++ ·)) := by
          show _ = _
          rw [HI.out.2.2.2, HHA.out, if_neg hneg, Option.map_map]
          congr 1
          funext q
          simp
          omega
        have HJ : Hid (ys.length = j ∧ wr.ownsRow w.heap.size 5 1 u4 j (byt ys) ∧ Below w.heap.size w wr) := ⟨HI.out.1, HI.out.2.1, HI.out.2.2.1⟩
        clear hneg HHA HI HH
        have M0 := True.intro
        have HB1 : Hid (Below wr.heap.size wr (wr.alloc (.cells #[.int .u8 (16 * x0 + x1)] 5)).drew) := (alloc_below _ _).drew
        go_wp2_with (first | (clear M0; go_at_call 103; refine (C0.out _).mono ?_; rintro e wx ⟨rfl, rfl⟩) | (go_at_call 103; refine (C1.out _).mono ?_; rintro e wx ⟨rfl, rfl⟩))
        refine Lx.wp_calm_then1 (v := u4) 12 3 (by kernel_rfl) rfl (by kernel_rfl) (by kernel_rfl) ?_ ?_ ?_
        · exact fun c a w hh => hh
        · exact Or.inl ⟨by rfl, fun w => by go_simp; try with_reducible rfl⟩
        simp only [List.take_succ_cons, List.take_zero, List.drop_succ_cons, List.drop_zero]
        simp only [Act.put, List.setIfInBounds_toArray, List.set_cons_succ, List.set_cons_zero]
        repeat (go_big_quiet_step (first
          | (go_at_call 103; (with_reducible exact calm_same (c0 _)))
          | (go_at_call 103; exact calm_same (c1 _))))
        refine wpQuiet_nil ?_
        intro w3 hb3
        have HB3 : Hid (Below wr.heap.size wr w3) := hb3
        have O3 := owns_below HJ.out.2.1 hb3
        have z3 : w.heap.size ≤ w3.heap.size := Nat.le_trans HJ.out.2.2.size hb3.size
        clear hb3
        go_wp2_with (at_builtin; refine wpList_byte rfl (.tmp 26) (.tmp 39) rfl (t := j + 1) rfl rfl (owns_below O3 (alloc_below _ _)) (Src.one _ _ _) rfl (by omega) (by rw [alloc_size]; omega) ?_; intro sp2 c2 w2 O2 G2)
        go_roundg g
        case measure => omega
        case rel => exact ⟨j + 1, ys ++ [16 * x0 + x1], by omega, by first | rfl | (congr 1; done) | (congr 1; omega), by simp [HJ.out.1], O2.out, (HJ.out.2.2.trans (HB3.out.mono HJ.out.2.2.size)).trans (((alloc_below _ _).mono z3).trans (own_grown (owns_below O3 (alloc_below _ _)) G2.out (by rw [alloc_size]; omega))), HR.out⟩
end Go.Proofs.YtcjghnnliepjjaaGreatDoor
namespace Go.Proofs.YtcjghnnliepjjaaGreatDoor
open Go Go.RowKit
set_option maxRecDepth 100000
set_option linter.unusedVariables false
set_option linter.unusedSimpArgs false
/-- what stands behind the last line's end, if it is anything -/
def tl (r : List UInt8) : List (List UInt8) := if r = [] then [] else [r]
/-- all lines: the number of the first one that is none, or the image -/
def foldL : Im → Nat → List (List UInt8) → Nat ⊕ Im
  | m, _, [] => .inr m
  | m, i, l :: r => if idle l = true then foldL m (i + 1) r else match lineI m l with
    | none => .inl i
    | some m' => foldL m' (i + 1) r
theorem parse_fold : ∀ (ls : List (List UInt8)) (rest : List UInt8) (m : Im) (i f : Nat), (∀ x ∈ ls, (10 : UInt8) ∉ x) → (10 : UInt8) ∉ rest → (aT ls ++ rest).length ≤ f → parseI f m i (aT ls ++ rest) = foldL m i (ls ++ tl rest)
  | [], rest, m, i, f, _, hr, hf => by
    show parseI f m i rest = foldL m i (tl rest)
    by_cases h0 : rest = []
    · subst h0; exact parse_end f m i
    · obtain ⟨f', rfl⟩ : ∃ f', f = f' + 1 := ⟨f - 1, by
        have : 0 < rest.length := List.length_pos_iff.2 h0
        have h1 : (aT [] ++ rest).length = rest.length := rfl
        omega⟩
      unfold tl
      rw [if_neg h0]
      show (if rest = [] then _ else _) = _
      rw [if_neg h0, cut_no 10 rest hr]
      simp only [foldL]
      split
      · exact parse_end _ _ _
      · cases lineI m rest with
        | none => rfl
        | some m' => exact parse_end _ _ _
  | l :: ls, rest, m, i, f, hl, hr, hf => by
    have hl0 := hl l (List.mem_cons_self ..)
    have e : aT (l :: ls) ++ rest = l ++ 10 :: (aT ls ++ rest) := by rw [aT_cons]; simp
    rw [e] at hf ⊢
    have hlen : (l ++ 10 :: (aT ls ++ rest)).length = l.length + 1 + (aT ls ++ rest).length := by simp; omega
    obtain ⟨f', rfl⟩ : ∃ f', f = f' + 1 := ⟨f - 1, by omega⟩
    have ih := fun m' => parse_fold ls rest m' (i + 1) f' (fun x hx => hl x (List.mem_cons_of_mem _ hx)) hr (by omega)
    show (if l ++ 10 :: (aT ls ++ rest) = [] then _ else _) = _
    rw [if_neg (by simp), cut_at 10 l _ hl0]
    show _ = foldL m i (l :: (ls ++ tl rest))
    simp only [foldL]
    split
    · exact ih m
    · cases lineI m l with
      | none => rfl
      | some m' => exact ih m'
theorem sl_from (s : ByteArray) (p : Nat) (h : p ≤ s.size) (W : World) : (Instr.slice 9 (.string s) (some (.int .i64 p)) none none).run Tryz.prog W = .ok (.string (mk (s.data.toList.drop p))) W := by
  have e : s.extract p s.size = mk (s.data.toList.drop p) := by rw [cut_mk, size_data s, List.take_length]
  rw [← e]
  simp [go_sem, h]
set_option maxHeartbeats 4000000 in
theorem rlines_any (s : ByteArray) (hs : s.size ≤ 1000000) (w : World) :
    Calls Tryz.prog 71 #[.string s] w fun e w' => ∃ v, e = .returned v ∧ Below w.heap.size w w' ∧ ∃ ls rest, w'.ownsRow w.heap.size 9 1 v (ls ++ tl rest).length (pcs (ls ++ tl rest)) ∧ (∀ x ∈ ls, (10 : UInt8) ∉ x) ∧ (10 : UInt8) ∉ rest ∧ aT ls ++ rest = s.data.toList ∧ (ls ++ tl rest).length ≤ s.size + 1 := by
  obtain ⟨i0, hi, hz0, hz1, hz2⟩ := info_parts info9
  go_enter Tryz.func71, Tryz.ntmps71
  go_wp2
  go_loopg [3, 4, 5] s.size (fun g l fr i wx => ∃ (ps : List (List UInt8)) (p k : Nat), k + g = s.size ∧ i = .int .i64 k ∧ fr = .int .i64 p ∧ Hid (wx.ownsRow w.heap.size 9 1 l ps.length (pcs ps)) ∧ Hid (Below w.heap.size w wx) ∧ ps.length ≤ k ∧ p ≤ k ∧
    Hid ((∀ x ∈ ps, (10 : UInt8) ∉ x) ∧ aT ps = s.data.toList.take p ∧ (10 : UInt8) ∉ (s.data.toList.take k).drop p))
  case atStart => exact ⟨[], 0, 0, by omega, rfl, rfl, ⟨rfl, Or.inl ⟨rfl, rfl⟩⟩, Below.refl _ _, Nat.zero_le _, Nat.le_refl _, fun x hx => (by cases hx), by simp [aT], by simp⟩
  case round =>
    obtain ⟨ps, p, k, hkg, rfl, rfl, HO, HB, hpk, hple, HP⟩ := hrel
    have hwz : w.heap.size ≤ wr.heap.size := HB.out.size
    cases gk with
    | succ g =>
      have hlt : k < s.size := by omega
      have hltI : (k : Int) < (s.size : Int) := by omega
      by_cases hc : s.data.toList[k]? = some 10
      · have h10 : (s[k].toNat : Int) = 10 := by
          rw [byte_at s k hlt] at hc
          rw [Option.some.inj hc]; rfl
        have hsl := sl_any s p k hple (by omega)
        have HC : Hid (s.data.toList[k]? = some 10) := hc
        obtain ⟨x, hx⟩ : ∃ x, (s.data.toList.take k).drop p = x := ⟨_, rfl⟩
        have HX : Hid ((s.data.toList.take k).drop p = x) := hx
        rw [hx] at hsl
        have hle : ps.length ≤ 1000000 := by omega
        clear hc hx
        go_wp2_with (at_builtin; refine wpList_append_own_at _ rfl _ _ 53 rfl w.heap.size 9 i0 (.string ⟨#[]⟩) 1 16 Tryz.underlying53 hi hz0 hz1 hz2 rfl (by decide) u3 _ _ rfl (HO.out.alloc _) ⟨wr.heap.size, 0, none⟩ 1 1 [.string (mk x)] rfl rfl (cell_one_new _ _ _) (fun x hx => by simp at hx; subst hx; rfl) (by unfold maxLen; omega) (by omega) (by simp; omega) ?_; intro v' w3 hown' hgrow hnil hloc; clear hnil hloc)
        all_goals
          go_roundg g
          case measure => omega
          case rel =>
            have e1 : pcs (ps ++ [x]) = pcs ps ++ [.string (mk x)] := by simp [pcs]
            have e2 : (ps ++ [x]).length = ps.length + 1 := by simp
            have e3 : s.data.toList.take (k + 1) = s.data.toList.take k ++ [10] := by rw [List.take_add_one, HC.out]; rfl
            obtain ⟨q1, q2, q3⟩ := HP.out
            refine ⟨ps ++ [x], k + 1, k + 1, by omega, by go_num, by go_num, ?_, ?_, by simp; omega, Nat.le_refl _, ?_, ?_, ?_⟩
            · show w3.ownsRow _ _ _ _ _ _
              rw [e1, e2]; exact hown'
            · exact (HB.out.alloc hwz _).grown hgrow (by rw [alloc_size]; omega) (fun q e => (own_ge HO.out e).1)
            · intro y hy
              rcases List.mem_append.1 hy with hy | hy
              · exact q1 y hy
              · rw [List.mem_singleton.1 hy, ← HX.out]; exact q3
            · rw [e3, show aT (ps ++ [x]) = aT ps ++ (x ++ [10]) by simp [aT], q2, ← HX.out, ← List.append_assoc]
              congr 1
              have := List.take_append_drop p (s.data.toList.take k)
              rw [List.take_take, Nat.min_eq_left hple] at this
              exact this
            · rw [List.drop_take]; simp
      · have h10 : ((s[k].toNat : Int) == 10) = false := by
          rw [beq_eq_false_iff_ne]
          intro e
          refine hc ?_
          rw [byte_at s k hlt]
          exact congrArg some (UInt8.toNat_inj.1 (by have h : s[k].toNat = 10 := (by omega); rw [h]; rfl))
        have HC : Hid (¬ s.data.toList[k]? = some 10) := hc
        clear hc
        go_wp2
        go_roundg g
        case measure => omega
        case rel =>
          obtain ⟨q1, q2, q3⟩ := HP.out
          have e : (s.data.toList.take (k + 1)).drop p = (s.data.toList.take k).drop p ++ [s[k]] := by
            rw [take_next s k hlt, List.drop_append_of_le_length (by rw [List.length_take, ← size_data]; omega)]
          refine ⟨ps, p, k + 1, by omega, by go_num, rfl, HO, HB, by omega, by omega, q1, q2, ?_⟩
          rw [e]
          intro h
          rcases List.mem_append.1 h with h | h
          · exact q3 h
          · exact HC.out (by rw [byte_at s k hlt, ← List.mem_singleton.1 h])
    | zero =>
      obtain rfl : k = s.size := by omega
      have hltI : ¬ ((s.size : Int) < (s.size : Int)) := by omega
      have hall : s.data.toList.take s.size = s.data.toList := by rw [size_data s, List.take_length]
      obtain ⟨q1, q2, q3⟩ := HP.out
      rw [hall] at q3
      have HQ : Hid (aT ps ++ s.data.toList.drop p = s.data.toList ∧ (10 : UInt8) ∉ s.data.toList.drop p ∧ ∀ x ∈ ps, (10 : UInt8) ∉ x) := ⟨by rw [q2, List.take_append_drop], q3, q1⟩
      clear q1 q2 q3 hall HP
      by_cases hp : p < s.size
      · have hpI : (p : Int) < (s.size : Int) := by omega
        have hsl := sl_from s p hple
        obtain ⟨x, hx⟩ : ∃ x, s.data.toList.drop p = x := ⟨_, rfl⟩
        rw [hx] at hsl
        have hx0 : x ≠ [] := by
          rw [← hx]
          intro h
          have := congrArg List.length h
          rw [List.length_drop, ← size_data] at this
          simp at this
          omega
        have HX : Hid (s.data.toList.drop p = x ∧ x ≠ []) := ⟨hx, hx0⟩
        have hle : ps.length ≤ 1000000 := by omega
        clear hx hx0
        go_wp2_with (at_builtin; refine wpList_append_own_at _ rfl _ _ 53 rfl w.heap.size 9 i0 (.string ⟨#[]⟩) 1 16 Tryz.underlying53 hi hz0 hz1 hz2 rfl (by decide) u3 _ _ rfl (HO.out.alloc _) ⟨wr.heap.size, 0, none⟩ 1 1 [.string (mk x)] rfl rfl (cell_one_new _ _ _) (fun x hx => by simp at hx; subst hx; rfl) (by unfold maxLen; omega) (by omega) (by simp; omega) ?_; intro v' w3 hown' hgrow hnil hloc; clear hnil hloc)
        all_goals
          go_ret
          have e1 : pcs (ps ++ [x]) = pcs ps ++ [.string (mk x)] := by simp [pcs]
          have e2 : (ps ++ [x]).length = ps.length + 1 := by simp
          refine ⟨_, rfl, (HB.out.alloc hwz _).grown hgrow (by rw [alloc_size]; omega) (fun q e => (own_ge HO.out e).1), ps, x, ?_, HQ.out.2.2, ?_, ?_, ?_⟩
          · unfold tl
            rw [if_neg HX.out.2, e1]; exact hown'
          · rw [← HX.out.1]; exact HQ.out.2.1
          · rw [← HX.out.1]; exact HQ.out.1
          · unfold tl
            rw [if_neg HX.out.2]; simp; omega
      · have hpI : ¬ (p : Int) < (s.size : Int) := by omega
        go_wp2
        go_ret
        refine ⟨_, rfl, HB.out, ps, [], ?_, HQ.out.2.2, by simp, ?_, ?_⟩
        · simpa [tl] using HO.out
        · have h1 := HQ.out.1
          rw [List.drop_eq_nil_of_le (by rw [← size_data]; omega)] at h1
          exact h1
        · simp [tl]; omega
end Go.Proofs.YtcjghnnliepjjaaGreatDoor
namespace Go.Proofs.YtcjghnnliepjjaaGreatDoor
open Go Go.RowKit
set_option maxRecDepth 100000
set_option linter.unusedVariables false
set_option linter.unusedSimpArgs false
theorem dec_len10 : ∀ (k u : Nat), u < 10 ^ (k + 1) → (Lib.decDigits u).length ≤ k + 1
  | k, u, h => by
    induction k generalizing u with
    | zero => rw [decDigits_small u (by omega)]; simp
    | succ k ih =>
      by_cases h10 : u < 10
      · rw [decDigits_small u h10]; simp
      · have := ih (u / 10) (by rw [Nat.pow_succ] at h; omega)
        rw [decDigits_big u h10, List.length_append, List.length_singleton]
        omega
theorem numb_dec' (n : Nat) (h : n ≤ 2147483647) : numb (Lib.decDigits n) 2147483647 = n := by
  have h1 := dec_len10 9 n (by omega)
  have h2 := decDigits_ne n
  unfold numb
  rw [if_neg, nb_dec]
  rw [nb_dec]
  intro hh
  rcases hh with hh | hh | hh | hh | hh
  · exact h2 hh
  · omega
  · by_cases h10 : 10 ≤ n
    · exact dec_head n h10 hh.2
    · rw [decDigits_small n (by omega)] at hh
      simp at hh
  · exact hh (digs_dec n)
  · omega
theorem dec_numb (r : List UInt8) : dec31 r = if numb r 2147483647 < 0 then none else some (numb r 2147483647).toNat := by
  by_cases h : numb r 2147483647 < 0
  · rw [if_pos h]
    cases hd : dec31 r with
    | none => rfl
    | some u =>
      unfold dec31 at hd
      split at hd
      · rename_i u' he
        split at hd
        · rename_i hl
          have hu : u' ≤ 2147483647 := by
            unfold d31 at he
            split at he
            · cases he
            · exact n31_le r 0 u' (by decide) he
          have := numb_dec' u' hu
          rw [hl] at this
          omega
        · cases hd
      · cases hd
  · rw [if_neg h]
    obtain ⟨h1, h2⟩ := numb_some r 2147483647 _ (by omega) rfl
    have h3 := dec31_dec (numb r 2147483647).toNat (by omega)
    rw [← h1] at h3
    exact h3
theorem cutw_at (w r : List UInt8) (h : (32 : UInt8) ∉ w) : wordOf (w ++ 32 :: r) = w ∧ restOf (w ++ 32 :: r) = r := by
  unfold wordOf restOf
  rw [cut_at 32 w r h]
  exact ⟨rfl, rfl⟩
theorem word_cases (l : List UInt8) : (∃ r, l = wordOf l ++ 32 :: r) ∨ l = wordOf l := by
  by_cases h : (32 : UInt8) ∈ l
  · obtain ⟨a, b, e, ha⟩ := List.eq_append_cons_of_mem h
    refine Or.inl ⟨b, ?_⟩
    have := (cutw_at a b ha).1
    rw [← e] at this
    rw [this]; exact e
  · refine Or.inr ?_
    unfold wordOf
    rw [cut_no 32 l h]
/-- a line of Size -/
def isSz (l : List UInt8) : Bool := decide (5 < l.length) && decide (l.take 5 = [115, 105, 122, 101, 32])
def isDa (l : List UInt8) : Bool := decide (5 < l.length) && decide (l.take 5 = [100, 97, 116, 97, 32])
theorem line_sz {l : List UInt8} (h : isSz l = true) (m : Im) : lineI m l = if numb (l.drop 5) 2147483647 < 0 then none else if m.z = true then none else some { m with n := (numb (l.drop 5) 2147483647).toNat, z := true } := by
  unfold isSz at h
  rw [Bool.and_eq_true, decide_eq_true_iff, decide_eq_true_iff] at h
  have e : l = [115, 105, 122, 101] ++ 32 :: l.drop 5 := by
    have := List.take_append_drop 5 l
    rw [h.2] at this
    exact this.symm
  obtain ⟨h1, h2⟩ := cutw_at [115, 105, 122, 101] (l.drop 5) (by decide)
  rw [← e] at h1 h2
  unfold lineI
  rw [if_pos h1, h2, dec_numb]
  split
  · rename_i u hu
    split at hu
    · cases hu
    · rename_i hn
      rw [if_neg hn]
      cases hu
      rfl
  · rename_i hu
    split at hu
    · rename_i hn; rw [if_pos hn]
    · cases hu
theorem line_da {l : List UInt8} (h : isDa l = true) (m : Im) : lineI m l = match hex1 (l.drop 5) with
    | some ys => some { m with ds := m.ds ++ ys }
    | none => none := by
  unfold isDa at h
  rw [Bool.and_eq_true, decide_eq_true_iff, decide_eq_true_iff] at h
  have e : l = [100, 97, 116, 97] ++ 32 :: l.drop 5 := by
    have := List.take_append_drop 5 l
    rw [h.2] at this
    exact this.symm
  obtain ⟨h1, h2⟩ := cutw_at [100, 97, 116, 97] (l.drop 5) (by decide)
  rw [← e] at h1 h2
  unfold lineI
  rw [if_neg (by rw [h1]; decide), if_pos h1, h2]
  rfl
theorem few_none : (([[115, 105, 122, 101], [115, 105, 122, 101, 32], [100, 97, 116, 97], [100, 97, 116, 97, 32]] : List (List UInt8)).all fun l => (prs (splitP ⟨l.toArray⟩)).isNone) = true := by decide +kernel
theorem rest_of {l w : List UInt8} (hw : wordOf l = w) (h32 : (32 : UInt8) ∉ w) (h4 : w.length = 4) (hno : ¬ (5 < l.length ∧ l.take 5 = w ++ [32])) : (l = w ∨ l = w ++ [32]) ∧ restOf l = [] := by
  rcases word_cases l with ⟨r, e⟩ | e
  · rw [hw] at e
    have hr := (cutw_at w r h32).2
    rw [← e] at hr
    by_cases h0 : r = []
    · subst h0; exact ⟨Or.inr e, hr⟩
    · refine absurd ⟨?_, ?_⟩ hno
      · rw [e]
        have := List.length_pos_iff.2 h0
        simp; omega
      · rw [e]
        have : w ++ 32 :: r = (w ++ [32]) ++ r := by simp
        rw [this, List.take_left' (by simp [h4])]
  · rw [hw] at e
    refine ⟨Or.inl e, ?_⟩
    unfold restOf
    rw [e, cut_no 32 w h32]
theorem line_co {l : List UInt8} (hs : isSz l = false) (hd : isDa l = false) (m : Im) : lineI m l = match prs (splitP ⟨l.toArray⟩) with
    | some (o, [a, b, c]) => some { m with cs := m.cs ++ [(o : Int), a, b, c], k := m.k + 1 }
    | _ => none := by
  have hs' : ¬ (5 < l.length ∧ l.take 5 = [115, 105, 122, 101] ++ [32]) := fun h => by
    unfold isSz at hs
    rw [decide_eq_true h.1, decide_eq_true (show l.take 5 = [115, 105, 122, 101, 32] from h.2)] at hs
    cases hs
  have hd' : ¬ (5 < l.length ∧ l.take 5 = [100, 97, 116, 97] ++ [32]) := fun h => by
    unfold isDa at hd
    rw [decide_eq_true h.1, decide_eq_true (show l.take 5 = [100, 97, 116, 97, 32] from h.2)] at hd
    cases hd
  unfold lineI
  by_cases h1 : wordOf l = [115, 105, 122, 101]
  · obtain ⟨hl, hr⟩ := rest_of h1 (by decide) rfl hs'
    rw [if_pos h1, hr, show dec31 [] = none from rfl]
    have hp : prs (splitP ⟨l.toArray⟩) = none := by
      have := few_none
      rw [List.all_eq_true] at this
      rcases hl with rfl | rfl
      · exact Option.isNone_iff_eq_none.1 (this _ (by simp))
      · exact Option.isNone_iff_eq_none.1 (this _ (by simp))
    rw [hp]
  · rw [if_neg h1]
    by_cases h2 : wordOf l = [100, 97, 116, 97]
    · obtain ⟨hl, hr⟩ := rest_of h2 (by decide) rfl hd'
      rw [if_pos h2, hr, show hex1 [] = none from rfl]
      have hp : prs (splitP ⟨l.toArray⟩) = none := by
        have := few_none
        rw [List.all_eq_true] at this
        rcases hl with rfl | rfl
        · exact Option.isNone_iff_eq_none.1 (this _ (by simp))
        · exact Option.isNone_iff_eq_none.1 (this _ (by simp))
      rw [hp]
    · rw [if_neg h2]
      rfl
end Go.Proofs.YtcjghnnliepjjaaGreatDoor
namespace Go.Proofs.YtcjghnnliepjjaaGreatDoor
open Go Go.RowKit
set_option maxRecDepth 100000
set_option linter.unusedVariables false
set_option linter.unusedSimpArgs false
def tot (ls : List (List UInt8)) : Nat := (ls.map List.length).sum
theorem tot_aT : ∀ (ls : List (List UInt8)) (rest : List UInt8), tot (ls ++ tl rest) ≤ (aT ls ++ rest).length
  | [], rest => by unfold tl; split <;> simp [tot, aT]
  | l :: ls, rest => by
    have := tot_aT ls rest
    rw [aT_cons]
    simp only [tot, List.cons_append, List.map_cons, List.sum_cons, List.length_append, List.length_cons] at this ⊢
    omega
theorem sl_to5 (s : ByteArray) (h : 5 ≤ s.size) (W : World) : (Instr.slice 9 (.string s) none (some (.int .i64 5)) none).run Tryz.prog W = .ok (.string (mk (s.data.toList.take 5))) W := by
  have e : s.extract 0 5 = mk (s.data.toList.take 5) := by rw [cut_mk]; rfl
  rw [← e]
  have h' : ((5 : Int) ≤ (s.size : Int)) := by omega
  simp [go_sem, h, h']
theorem sl_from5 (s : ByteArray) (h : 5 ≤ s.size) (W : World) : (Instr.slice 9 (.string s) (some (.int .i64 5)) none none).run Tryz.prog W = .ok (.string (mk (s.data.toList.drop 5))) W := sl_from s 5 h W
theorem set_m0 {w : World} {g : Nat} {a b c x : Value} {t : TypeId} (h : w.heap[g]? = some (.cells #[a, b, c] t (0, 0))) : (w.setCell ⟨g, 0, none⟩ x).heap[g]? = some (.cells #[x, b, c] t (0, 0)) ∧ (w.setCell ⟨g, 1, none⟩ x).heap[g]? = some (.cells #[a, x, c] t (0, 0)) ∧ (w.setCell ⟨g, 2, none⟩ x).heap[g]? = some (.cells #[a, b, x] t (0, 0)) := by
  have hl := at_lt h
  have hv : w.heap[g] = .cells #[a, b, c] t (0, 0) := (Array.getElem?_eq_some_iff.1 h).2
  refine ⟨?_, ?_, ?_⟩ <;> (unfold World.setCell; rw [Array.getElem?_eq_getElem (by simpa using hl), Array.getElem_modify]; simp [hv])
theorem m_at {w : World} {g : Nat} {a b c : Value} {t : TypeId} (h : w.heap[g]? = some (.cells #[a, b, c] t (0, 0))) : w.cell? ⟨g, 0, none⟩ = some a ∧ w.cell? ⟨g, 1, none⟩ = some b ∧ w.cell? ⟨g, 2, none⟩ = some c ∧ ∀ i, w.frozen? ⟨g, i, none⟩ = false :=
  ⟨by rw [cell_of h]; rfl, by rw [cell_of h]; rfl, by rw [cell_of h]; rfl, fun i => by simp [World.frozen?, h]⟩
theorem own_none_cap {w : World} {B n c m s : Nat} {t : TypeId} {xs : List Value} (h : w.ownsRow B t s (.slice none n c) m xs) : c = 0 := by
  rcases h.2 with ⟨e, _⟩ | ⟨g, c', cur, e, _⟩
  · cases e; rfl
  · cases e
theorem str_ne (p : ByteArray) (q : List UInt8) (h : p.data.toList ≠ q) : (p.toList == q) = false := by
  rw [beq_eq_false_iff_ne, Lib.toList_data]; exact h
theorem quad_src (w : World) (o a b c : Int) (t : TypeId) : Src (w.alloc (.cells #[.int .u8 o, .int .u8 a, .int .u8 b, .int .u8 c] t)) (some ⟨w.heap.size, 0, none⟩) [o, a, b, c] := fun _ => ⟨_, 0, rfl, fun i hi => by
  rw [Nat.zero_add, cell_of (alloc_at w _)]
  rcases i with _ | _ | _ | _ | i
  · rfl
  · rfl
  · rfl
  · rfl
  · simp at hi; omega⟩
/-- what is carried through the lines -/
structure PSt (w wx : World) (S g n : Nat) (ls : List (List UInt8)) (m : Im) (dp cp : Option Addr) (dcp cc : Nat) : Prop where
  r : wx.heap[w.heap.size]? = some (.cells #[.int .i64 0, .slice none 0 0, .slice none 0 0] 25 (0, 0))
  mm : wx.heap[w.heap.size + 1]? = some (.cells #[.int .i64 m.n, .slice dp m.ds.length dcp, .slice cp m.k cc] 25 (0, 0))
  d : wx.ownsRow S 5 1 (.slice dp m.ds.length dcp) m.ds.length (byt m.ds)
  c : wx.ownsRow S 64 4 (.slice cp m.k cc) m.k (byt m.cs)
  b : Below w.heap.size w wx
  lo : w.heap.size + 2 ≤ S
  hi : S ≤ wx.heap.size
  gs : 0 < n → w.heap.size + 2 ≤ g ∧ g < S
  row : ∀ i, i < n → wx.cell? ⟨g, i, none⟩ = some (.string (mk (ls.getD i [])))
  len : m.cs.length = 4 * m.k
  db : Bs m.ds
  cb : Bs m.cs
theorem PSt.on {w wx w' : World} {S g n : Nat} {ls : List (List UInt8)} {m : Im} {dp cp : Option Addr} {dcp cc : Nat} (h : PSt w wx S g n ls m dp cp dcp cc) (hb : Below wx.heap.size wx w') : PSt w w' S g n ls m dp cp dcp cc := by
  have h1 := h.lo
  have h2 := h.hi
  exact ⟨(hb.block _ (by omega)).trans h.r, (hb.block _ (by omega)).trans h.mm, owns_below h.d hb, owns_below h.c hb, on1 h.b hb, h.lo, Nat.le_trans h.hi hb.size, h.gs, fun i hi => by have := (h.gs (by omega)).2; rw [(bcell hb).1 _ _ (by omega)]; exact h.row i hi, h.len, h.db, h.cb⟩
/-- Size is set -/
theorem PSt.size {w wx : World} {S g n : Nat} {ls : List (List UInt8)} {m : Im} {dp cp : Option Addr} {dcp cc : Nat} (h : PSt w wx S g n ls m dp cp dcp cc) (x : Int) : PSt w (wx.setCell ⟨w.heap.size + 1, 0, none⟩ (.int .i64 x)) S g n ls { m with n := x, z := true } dp cp dcp cc := by
  have h1 := h.lo
  have h2 := h.hi
  refine ⟨by rw [heap_else _ _ _ _ _ (by omega)]; exact h.r, (set_m0 h.mm).1, owns_set h.d (by omega), owns_set h.c (by omega), h.b.setCell (by simp) _, h.lo, by simp [World.setCell]; omega, h.gs, fun i hi => ?_, h.len, h.db, h.cb⟩
  have h3 := (h.gs (by omega)).1
  rw [← h.row i hi]
  simp only [World.cell?]
  rw [heap_else _ _ _ _ _ (by omega)]
/-- Data, and more -/
theorem PSt.data {w wx w2 : World} {S g n : Nat} {ls : List (List UInt8)} {m : Im} {dp cp : Option Addr} {dcp cc : Nat} (h : PSt w wx S g n ls m dp cp dcp cc) {ys : List Int} (hy : Bs ys) {sp : Option Addr} {c N : Nat} (hN : m.ds.length + ys.length = N) (ho : w2.ownsRow S 5 1 (.slice sp N c) N (byt (m.ds ++ ys))) (hg : wx.grownBy w2 (Value.slice dp m.ds.length dcp).ownBlock) :
    w2.heap[w.heap.size + 1]? = some (.cells #[.int .i64 m.n, .slice dp m.ds.length dcp, .slice cp m.k cc] 25 (0, 0)) ∧ PSt w (w2.setCell ⟨w.heap.size + 1, 1, none⟩ (.slice sp N c)) S g n ls { m with ds := m.ds ++ ys } sp cp c cc := by
  have h1 := h.lo
  have h2 := h.hi
  have hB := own_grown h.d hg h.hi
  have hM := (hB.block _ (by omega)).trans h.mm
  have hc : w2.ownsRow S 64 4 (.slice cp m.k cc) m.k (byt m.cs) := owns_buts h.c (Buts.grown hg) fun q hq hm => by
    have e : (Value.slice dp m.ds.length dcp).ownBlock = some q := by simpa using hm
    exact own_ne h.c hq h.d e (by decide) rfl
  refine ⟨hM, by rw [heap_else _ _ _ _ _ (by omega)]; exact (hB.block _ (by omega)).trans h.r, ?_, ?_, owns_set hc (by omega), (h.b.trans (hB.mono (by omega))).setCell (by simp) _, h.lo, by simp [World.setCell]; have := hB.size; omega, h.gs, fun i hi => ?_, h.len, ?_, h.cb⟩
  · rw [(set_m0 hM).2.1]
    simp only [List.length_append, hN]
  · have := owns_set (p := w.heap.size + 1) (k := 1) (x := .slice sp N c) ho (by omega)
    simp only [List.length_append, hN]
    exact this
  · have h3 := h.gs (by omega)
    rw [← h.row i hi]
    simp only [World.cell?]
    rw [heap_else _ _ _ _ _ (by omega), hB.block g (by omega)]
  · intro z hz
    rcases List.mem_append.1 hz with hz | hz
    · exact h.db z hz
    · exact hy z hz
/-- Code, and one more -/
theorem PSt.code {w wx w2 : World} {S g n : Nat} {ls : List (List UInt8)} {m : Im} {dp cp : Option Addr} {dcp cc : Nat} (h : PSt w wx S g n ls m dp cp dcp cc) {zs : List Int} (hy : Bs zs) (h4 : zs.length = 4) {sp : Option Addr} {c N : Nat} (hN : m.k + 1 = N) (ho : w2.ownsRow S 64 4 (.slice sp N c) N (byt (m.cs ++ zs))) (hg : wx.grownBy w2 (Value.slice cp m.k cc).ownBlock) :
    w2.heap[w.heap.size + 1]? = some (.cells #[.int .i64 m.n, .slice dp m.ds.length dcp, .slice cp m.k cc] 25 (0, 0)) ∧ PSt w (w2.setCell ⟨w.heap.size + 1, 2, none⟩ (.slice sp N c)) S g n ls { m with cs := m.cs ++ zs, k := m.k + 1 } dp sp dcp c := by
  have h1 := h.lo
  have h2 := h.hi
  have hB := own_grown h.c hg h.hi
  have hM := (hB.block _ (by omega)).trans h.mm
  have hd : w2.ownsRow S 5 1 (.slice dp m.ds.length dcp) m.ds.length (byt m.ds) := owns_buts h.d (Buts.grown hg) fun q hq hm => by
    have e : (Value.slice cp m.k cc).ownBlock = some q := by simpa using hm
    exact own_ne h.d hq h.c e (by decide) rfl
  refine ⟨hM, by rw [heap_else _ _ _ _ _ (by omega)]; exact (hB.block _ (by omega)).trans h.r, ?_, owns_set hd (by omega), ?_, (h.b.trans (hB.mono (by omega))).setCell (by simp) _, h.lo, by simp [World.setCell]; have := hB.size; omega, h.gs, fun i hi => ?_, ?_, h.db, ?_⟩
  · rw [(set_m0 hM).2.2]
    simp only [hN]
  · have := owns_set (p := w.heap.size + 1) (k := 2) (x := .slice sp N c) ho (by omega)
    simp only [hN]
    exact this
  · have h3 := h.gs (by omega)
    rw [← h.row i hi]
    simp only [World.cell?]
    rw [heap_else _ _ _ _ _ (by omega), hB.block g (by omega)]
  · simp only [List.length_append, h.len, h4]; omega
  · intro z hz
    rcases List.mem_append.1 hz with hz | hz
    · exact h.cb z hz
    · exact hy z hz
set_option maxHeartbeats 16000000 in
theorem rparse_any (s : ByteArray) (hs : s.size ≤ 100000) (w : World) :
    Calls Tryz.prog 25 #[.string s] w fun e w' => PR w w' e (parseI s.size im0 0 s.data.toList) := by
  have hb0 : Below w.heap.size w ((w.alloc (.cells #[.int .i64 0, .slice none 0 0, .slice none 0 0] 25)).alloc (.cells #[.int .i64 0, .slice none 0 0, .slice none 0 0] 25)) := on1 (alloc_below _ _) (alloc_below _ _)
  have hz1 := alloc_size w (.cells #[.int .i64 0, .slice none 0 0, .slice none 0 0] 25)
  have hz2 := alloc_size (w.alloc (.cells #[.int .i64 0, .slice none 0 0, .slice none 0 0] 25)) (.cells #[.int .i64 0, .slice none 0 0, .slice none 0 0] 25)
  have ha1 := alloc_at w (.cells #[.int .i64 0, .slice none 0 0, .slice none 0 0] 25)
  have ha2 := alloc_at (w.alloc (.cells #[.int .i64 0, .slice none 0 0, .slice none 0 0] 25)) (.cells #[.int .i64 0, .slice none 0 0, .slice none 0 0] 25)
  rw [hz1] at ha2 hz2
  have ha3 := ((alloc_below (w.alloc (.cells #[.int .i64 0, .slice none 0 0, .slice none 0 0] 25)) (.cells #[.int .i64 0, .slice none 0 0, .slice none 0 0] 25)).block _ (by rw [hz1]; omega)).trans ha1
  obtain ⟨w0, hw0⟩ : ∃ w0, w0 = (w.alloc (.cells #[.int .i64 0, .slice none 0 0, .slice none 0 0] 25)).alloc (.cells #[.int .i64 0, .slice none 0 0, .slice none 0 0] 25) := ⟨_, rfl⟩
  rw [← hw0] at hb0 ha2 ha3 hz2
  have HI0 : Hid (Below w.heap.size w w0 ∧ w0.heap.size = w.heap.size + 2 ∧ w0.heap[w.heap.size]? = some (.cells #[.int .i64 0, .slice none 0 0, .slice none 0 0] 25 (0, 0)) ∧ w0.heap[w.heap.size + 1]? = some (.cells #[.int .i64 0, .slice none 0 0, .slice none 0 0] 25 (0, 0))) := ⟨hb0, by omega, ha3, ha2⟩
  have cL := rlines_any s (by omega) w0
  have HZ : Hid (s.size ≤ 100000) := hs
  have HSZ : Hid (s.size = s.data.toList.length) := size_data s
  have HW0 : Hid (w0 = (w.alloc (.cells #[.int .i64 0, .slice none 0 0, .slice none 0 0] 25)).alloc (.cells #[.int .i64 0, .slice none 0 0, .slice none 0 0] 25)) := hw0
  rw [hw0] at cL
  clear hb0 hz1 hz2 ha1 ha2 ha3 hw0 hs
  go_enter Tryz.func25, Tryz.ntmps25
  go_wp2_with (go_at_call 71; refine cL.mono ?_; rintro e w1 ⟨v1, rfl, hb1, l1, rest, o1, q1, q2, q3, q4⟩; rw [← HW0.out] at hb1 o1; obtain ⟨ls, hls⟩ : ∃ ls, l1 ++ tl rest = ls := ⟨_, rfl⟩; have PRL : Hid (parseI s.size im0 0 s.data.toList = foldL im0 0 ls) := (by show _ = _; rw [← hls, ← q3]; exact parse_fold l1 rest im0 0 _ q1 q2 (by rw [q3, ← HSZ.out]; exact Nat.le_refl _)); have HT : Hid (tot ls ≤ 100000 ∧ ls.length ≤ 100001) := (by have t1 := tot_aT l1 rest; rw [q3, ← HSZ.out, hls] at t1; rw [hls] at q4; have := HZ.out; exact ⟨by omega, by omega⟩); rw [hls] at o1; obtain ⟨n, hn⟩ : ∃ n, ls.length = n := ⟨_, rfl⟩; rw [hn] at o1 HT; have HNL : Hid (ls.length = n) := hn; have HO1 : Hid (w1.ownsRow w0.heap.size 9 1 v1 n (pcs ls)) := o1; have HB1 : Hid (Below w0.heap.size w0 w1) := hb1; obtain ⟨sp, cap, rfl, hsp⟩ := owns_form o1; clear o1 q1 q2 q3 q4 hls hn hb1)
  obtain ⟨g, hg⟩ : ∃ g, 0 < n → sp = some ⟨g, 0, none⟩ := by
    by_cases h0 : 0 < n
    · obtain ⟨g, e⟩ := hsp h0; exact ⟨g, fun _ => e⟩
    · exact ⟨0, fun h => absurd h h0⟩
  have HG : Hid (0 < n → sp = some ⟨g, 0, none⟩) := hg
  have HST : Hid (PSt w w1 w1.heap.size g n ls im0 none none 0 0) := by
    obtain ⟨j1, j2, j3, j4⟩ := HI0.out
    have hb := HB1.out
    refine ⟨(hb.block _ (by omega)).trans j3, (hb.block _ (by omega)).trans j4, World.ownsRow_nil _ _ _ _, World.ownsRow_nil _ _ _ _, on1 j1 hb, by have := hb.size; omega, Nat.le_refl _, fun h => ?_, fun i hi => ?_, rfl, fun z hz => (by cases hz), fun z hz => (by cases hz)⟩
    · have ho := HO1.out
      rw [hg h] at ho
      have := ho.lt g rfl
      omega
    · have ho := HO1.out
      rw [hg (by omega)] at ho
      rw [ho.cellAt i (by omega)]
      have := HNL.out
      simp [pcs, show i < ls.length by omega]
  have hnl : n ≤ 100001 := HT.out.2
  obtain ⟨S, hS⟩ : ∃ S, w1.heap.size = S := ⟨_, rfl⟩
  rw [hS] at HST
  clear hsp hg hS cL HW0 HI0 HO1 HB1
  go_loopg [6, 8] n (fun gk s6 s8 wx => ∃ (i : Nat) (m : Im) (dp cp : Option Addr) (dcp cc : Nat), i + gk = n ∧ s8 = .int .i64 (i : Int) ∧ s6 = .bool m.z ∧ Hid (PSt w wx S g n ls m dp cp dcp cc) ∧ Hid (foldL im0 0 ls = foldL m i (ls.drop i)) ∧ Hid (m.ds.length + tot (ls.drop i) ≤ 100000 ∧ m.k ≤ i))
  case atStart => exact ⟨0, im0, none, none, 0, 0, by omega, rfl, rfl, HST, rfl, by show ([] : List Int).length + tot ls ≤ 100000; have := HT.out.1; simp only [List.length_nil]; omega, Nat.le_refl _⟩
  case round =>
    clear HST
    obtain ⟨i, m, dp, cp, dcp, cc, hig, rfl, rfl, HS, HF, HL⟩ := hrel
    obtain ⟨r0, r1, r2, rf⟩ := m_at HS.out.r
    have rf0 := rf 0
    have rf1 := rf 1
    have rf2 := rf 2
    cases gk with
    | zero =>
      obtain rfl : i = n := by omega
      have hlt : ¬ ((i : Int) < (i : Int)) := by omega
      have FE : Hid (foldL im0 0 ls = .inr m) := by show _ = _; rw [HF.out, List.drop_eq_nil_of_le (by have := HNL.out; omega)]; rfl
      have cC := rCheck_img (size := m.n) ⟨src_own HS.out.d, src_own HS.out.c, HS.out.len, HS.out.db, HS.out.cb⟩ dcp cc
      obtain ⟨k0, k1, k2, kf⟩ := m_at HS.out.mm
      have hlo := HS.out.lo
      have hhi := HS.out.hi
      cases ho : okI m.n m.ds m.cs m.k
      · have HOK : Hid (okI m.n m.ds m.cs m.k = false) := ho
        rw [ho] at cC
        clear ho
        go_wp2_with (first | (go_at_call 13; refine cC.mono ?_; rintro e w2 ⟨rfl, hb2⟩; obtain ⟨s0, s1, s2, sf⟩ := m_at (HS.out.on hb2).r; have sf0 := sf 0; have sf1 := sf 1; have sf2 := sf 2))
        refine bodyPost_ret (v := .tuple #[.agg #[.int .i64 0, .slice none 0 0, .slice none 0 0], .int .i64 0, .int .i64 1]) (by simp [results, Tryz.results25, go_sem, s0, s1, s2]) rfl ?_
        rw [PRL.out, FE.out]
        refine ⟨?_, (((on1 HS.out.b hb2).setCell (by simp) _).setCell (by simp) _).setCell (by simp) _⟩
        rw [if_neg (by rw [HOK.out]; decide)]
      · have HOK : Hid (okI m.n m.ds m.cs m.k = true) := ho
        rw [ho] at cC
        clear ho
        go_wp2_with (first | (go_at_call 13; refine cC.mono ?_; rintro e w2 ⟨rfl, hb2⟩; have ST2 : Hid (PSt w w2 S g i ls m dp cp dcp cc) := HS.out.on hb2; obtain ⟨s0, s1, s2, sf⟩ := m_at ST2.out.r; have sf0 := sf 0; have sf1 := sf 1; have sf2 := sf 2; obtain ⟨p0, p1, p2, pf⟩ := m_at ST2.out.mm))
        refine bodyPost_ret (v := .tuple #[.agg #[.int .i64 m.n, .slice dp m.ds.length dcp, .slice cp m.k cc], .int .i64 0, .int .i64 0]) (by simp [results, Tryz.results25, go_sem, s0, s1, s2]) rfl ?_
        rw [PRL.out, FE.out]
        refine ⟨?_, ((ST2.out.b.setCell (by simp) _).setCell (by simp) _).setCell (by simp) _⟩
        rw [if_pos HOK.out]
        refine ⟨_, _, rfl, ?_, ?_, ST2.out.len, ST2.out.db, ST2.out.cb⟩
        · exact owns_base (owns_set (owns_set (owns_set ST2.out.d (by omega)) (by omega)) (by omega)) (by omega)
        · exact owns_base (owns_set (owns_set (owns_set ST2.out.c (by omega)) (by omega)) (by omega)) (by omega)
    | succ g' =>
      have hlt : (i : Int) < (n : Int) := by omega
      have hin : i < n := by omega
      have hspg := HG.out (by omega)
      subst hspg
      have cl := HS.out.row i hin
      obtain ⟨l, hl⟩ : ∃ l, ls.getD i [] = l := ⟨_, rfl⟩
      rw [hl] at cl
      have HDR : Hid (ls.drop i = l :: ls.drop (i + 1)) := by
        show _ = _
        have hi' : i < ls.length := by rw [HNL.out]; exact hin
        rw [List.drop_eq_getElem_cons hi', ← hl]
        simp [hi']
      have FS : Hid (foldL im0 0 ls = if idle l = true then foldL m (i + 1) (ls.drop (i + 1)) else match lineI m l with
          | none => .inl i
          | some m' => foldL m' (i + 1) (ls.drop (i + 1))) := by show _ = _; rw [HF.out, HDR.out]; rfl
      have HL2 : Hid (m.ds.length + (l.length + tot (ls.drop (i + 1))) ≤ 100000 ∧ m.k ≤ i) := by
        have h1 := HL.out
        rw [HDR.out] at h1
        exact h1
      have hl100 : l.length ≤ 100000 := by have := HL2.out.1; omega
      obtain ⟨x, hx⟩ : ∃ x, mk l = x := ⟨_, rfl⟩
      have HX : Hid (mk l = x) := hx
      have hxd : x.data.toList = l := by rw [← hx, mk_data]
      have hxs : x.size = l.length := by rw [← hx, mk_size]
      rw [hx] at cl
      have HLL : Hid (∀ m', lineI m l = some m' → m'.ds.length + tot (ls.drop (i + 1)) ≤ 100000 ∧ m'.k ≤ i + 1) := fun m' h => by
        have h1 := line_len h
        have h2 := HL2.out
        exact ⟨by omega, by omega⟩
      clear hl hx HF HL HDR
      by_cases hid0 : l = []
      · subst hid0
        have hxe : (⟨#[]⟩ : ByteArray) = x := HX.out
        subst hxe
        have FC : Hid (foldL im0 0 ls = foldL m (i + 1) (ls.drop (i + 1))) := by show _ = _; rw [FS.out]; rfl
        go_wp2
        go_roundg g'
        case measure => omega
        case rel => exact ⟨i + 1, m, dp, cp, dcp, cc, by omega, by go_num, rfl, HS, FC, by have := HL2.out.1; omega, by have := HL2.out.2; omega⟩
      · have hpos : 0 < l.length := List.length_pos_iff.2 hid0
        have hxne : (x.toList == ([] : List UInt8)) = false := nonempty x (by omega)
        have hix := idx_str x 0 (by omega)
        rw [hxd] at hix
        obtain ⟨c0, hc0⟩ : ∃ c0, l.getD 0 0 = c0 := ⟨_, rfl⟩
        rw [hc0, show ((0 : Nat) : Int) = 0 from rfl] at hix
        have hidl : idle l = decide (c0 = 35) := by
          cases l with
          | nil => exact absurd rfl hid0
          | cons a r =>
            have ea : a = c0 := hc0
            subst ea
            by_cases h35 : a = 35
            · subst h35; rfl
            · rw [idle_cons a r h35, decide_eq_false h35]
        rw [hidl] at FS
        have hxI : ((x.size : Nat) : Int) = (l.length : Int) := by omega
        clear hid0
        by_cases h35 : c0 = 35
        · subst h35
          have FC : Hid (foldL im0 0 ls = foldL m (i + 1) (ls.drop (i + 1))) := by show _ = _; rw [FS.out]; rfl
          rw [show (((35 : UInt8).toNat : Nat) : Int) = 35 from rfl] at hix
          clear FS hidl
          go_wp2
          go_roundg g'
          case measure => omega
          case rel => exact ⟨i + 1, m, dp, cp, dcp, cc, by omega, by go_num, rfl, HS, FC, by have := HL2.out.1; omega, by have := HL2.out.2; omega⟩
        · have h35b : (((c0.toNat : Nat) : Int) == 35) = false := by
            rw [beq_eq_false_iff_ne]
            intro e
            exact h35 (UInt8.toNat_inj.1 (by have h : c0.toNat = 35 := (by omega); rw [h]; rfl))
          have FT : Hid (foldL im0 0 ls = match lineI m l with
              | none => .inl i
              | some m' => foldL m' (i + 1) (ls.drop (i + 1))) := by show _ = _; rw [FS.out, decide_eq_false h35]; rfl
          clear FS h35 hidl
          generalize ((c0.toNat : Nat) : Int) = y0 at *
          by_cases h5 : 5 < l.length
          · have h5I : (5 : Int) < (l.length : Int) := by omega
            have hto := sl_to5 x (by omega)
            have hfr := sl_from5 x (by omega)
            rw [hxd] at hto hfr
            obtain ⟨x5, hx5⟩ : ∃ x5, mk (l.take 5) = x5 := ⟨_, rfl⟩
            obtain ⟨xr, hxr⟩ : ∃ xr, mk (l.drop 5) = xr := ⟨_, rfl⟩
            rw [hx5] at hto
            rw [hxr] at hfr
            have hxrd : xr.data.toList = l.drop 5 := by rw [← hxr, mk_data]
            have hxrs : xr.size ≤ 100000 := by rw [← hxr, mk_size, List.length_drop]; omega
            by_cases hsz : l.take 5 = [115, 105, 122, 101, 32]
            · have hS : isSz l = true := by unfold isSz; rw [decide_eq_true h5, decide_eq_true hsz]; rfl
              have hx5e : (⟨#[115, 105, 122, 101, 32]⟩ : ByteArray) = x5 := by rw [← hx5, hsz]; rfl
              subst hx5e
              have cN := number_any xr (by omega) 2147483647 (by decide)
              rw [hxrd] at cN
              have hli := line_sz hS m
              generalize hnu : numb (l.drop 5) 2147483647 = nu at cN hli
              have HLI : Hid (lineI m l = if nu < 0 then none else if m.z = true then none else some { m with n := (nu.toNat : Nat), z := true }) := hli
              clear hli hS hsz hx5 hxr hxrd
              by_cases hneg : nu < 0
              · have FB : Hid (foldL im0 0 ls = .inl i) := by show _ = _; rw [FT.out, HLI.out, if_pos hneg]
                have d0 : decide (nu < 0) = true := by simpa using hneg
                go_wp2_with (first | (go_at_call 72; refine (cN _).mono ?_; rintro e wx ⟨rfl, hwx⟩; obtain rfl := hwx.symm))
                refine bodyPost_ret (v := .tuple #[.agg #[.int .i64 0, .slice none 0 0, .slice none 0 0], .int .i64 (i : Nat), .int .i64 14]) (by simp [results, Tryz.results25, go_sem, r0, r1, r2]) rfl ?_
                rw [PRL.out, FB.out]
                exact ⟨rfl, (((HS.out.b).setCell (by simp) _).setCell (by simp) _).setCell (by simp) _⟩
              · by_cases hmz : m.z = true
                · have FB : Hid (foldL im0 0 ls = .inl i) := by show _ = _; rw [FT.out, HLI.out, if_neg hneg, if_pos hmz]
                  have d0 : decide (nu < 0) = false := by simpa using hneg
                  rw [hmz]
                  go_wp2_with (first | (go_at_call 72; refine (cN _).mono ?_; rintro e wx ⟨rfl, hwx⟩; obtain rfl := hwx.symm))
                  refine bodyPost_ret (v := .tuple #[.agg #[.int .i64 0, .slice none 0 0, .slice none 0 0], .int .i64 (i : Nat), .int .i64 14]) (by simp [results, Tryz.results25, go_sem, r0, r1, r2]) rfl ?_
                  rw [PRL.out, FB.out]
                  exact ⟨rfl, (((HS.out.b).setCell (by simp) _).setCell (by simp) _).setCell (by simp) _⟩
                · have hmz' : m.z = false := by simpa using hmz
                  have hnn : ((nu.toNat : Nat) : Int) = nu := by omega
                  have hli2 : lineI m l = some { m with n := nu, z := true } := by rw [HLI.out, if_neg hneg, if_neg hmz, hnn]
                  have FC : Hid (foldL im0 0 ls = foldL { m with n := nu, z := true } (i + 1) (ls.drop (i + 1))) := by show _ = _; rw [FT.out, hli2]
                  have HBD : Hid _ := HLL.out _ hli2
                  have d0 : decide (nu < 0) = false := by simpa using hneg
                  obtain ⟨k0, k1, k2, kf⟩ := m_at HS.out.mm
                  have kf0 := kf 0
                  rw [hmz']
                  clear hli2 hmz hmz' hnn
                  go_wp2_with (first | (go_at_call 72; refine (cN _).mono ?_; rintro e wx ⟨rfl, hwx⟩; obtain rfl := hwx.symm))
                  go_roundg g'
                  case measure => omega
                  case rel => exact ⟨i + 1, _, dp, cp, dcp, cc, by omega, by go_num, rfl, HS.out.size nu, FC, HBD⟩
            · have hx5n : (x5.toList == ([115, 105, 122, 101, 32] : List UInt8)) = false := str_ne _ _ (by rw [← hx5, mk_data]; exact hsz)
              have hS : isSz l = false := by unfold isSz; rw [decide_eq_false hsz]; simp
              by_cases hda : l.take 5 = [100, 97, 116, 97, 32]
              · have hD : isDa l = true := by unfold isDa; rw [decide_eq_true h5, decide_eq_true hda]; rfl
                have hx5e : (⟨#[100, 97, 116, 97, 32]⟩ : ByteArray) = x5 := by rw [← hx5, hda]; rfl
                subst hx5e
                have hli := line_da hD m
                have cB := fun W => rbytes_any xr (by omega) W
                rw [hxrd] at cB
                have HBS : Hid (∀ ys, hex1 (l.drop 5) = some ys → Bs ys) := fun ys h => hex1_bs h
                cases hh : hex1 (l.drop 5) with
                | none =>
                  rw [hh] at hli cB
                  have FB : Hid (foldL im0 0 ls = .inl i) := by show _ = _; rw [FT.out, hli]
                  have CB : Hid _ := cB
                  clear hli hh cB hD hda hsz hS hx5n
                  go_wp2_with (first | (go_at_call 73; refine (CB.out _).mono ?_; rintro e w2 ⟨v2, rfl, _, hb2⟩; obtain ⟨s0, s1, s2, sf⟩ := m_at (HS.out.on hb2).r; have sf0 := sf 0; have sf1 := sf 1; have sf2 := sf 2))
                  refine bodyPost_ret (v := .tuple #[.agg #[.int .i64 0, .slice none 0 0, .slice none 0 0], .int .i64 (i : Nat), .int .i64 14]) (by simp [results, Tryz.results25, go_sem, s0, s1, s2]) rfl ?_
                  rw [PRL.out, FB.out]
                  exact ⟨rfl, ((((on1 HS.out.b hb2)).setCell (by simp) _).setCell (by simp) _).setCell (by simp) _⟩
                | some ys =>
                  rw [hh] at hli cB
                  have FC : Hid (foldL im0 0 ls = foldL { m with ds := m.ds ++ ys } (i + 1) (ls.drop (i + 1))) := by show _ = _; rw [FT.out, hli]
                  have HBD : Hid _ := HLL.out _ hli
                  have HYB : Hid (Bs ys) := HBS.out ys hh
                  have CB : Hid _ := cB
                  have hyl : m.ds.length + ys.length ≤ 100000 := by have := HBD.out.1; simp only [List.length_append] at this; omega
                  clear hli hh cB hD hda hsz hS
                  go_wp2_with (first
                    | (at_builtin; refine wpList_more rfl (.tmp 92) (.tmp 93) rfl (zs := ys) rfl rfl ST2.out.d SY.out HCN.out (by omega) ST2.out.hi ?_; intro v3 w3 O3 G3; obtain ⟨sp3, c3, e3, _⟩ := owns_form O3.out; subst e3; obtain ⟨hM3, hP3⟩ := ST2.out.data HYB.out rfl O3.out G3.out; obtain ⟨t0, t1, t2, tf⟩ := m_at hM3; have tf1 := tf 1; have HP3 : Hid _ := hP3; clear hM3 hP3)
                    | (go_at_call 73; refine (CB.out _).mono ?_; rintro e w2 ⟨v2, rfl, ho2, hb2⟩; have o2 := ho2 ys rfl; obtain ⟨p2, c2, e2, _⟩ := owns_form o2; subst e2; have SY : Hid (Src w2 p2 ys) := src_own o2; have HCN : Hid (p2 = none → c2 = 0) := (fun hp => by subst hp; exact own_none_cap o2); have ST2 : Hid (PSt w w2 S g n ls m dp cp dcp cc) := HS.out.on hb2; obtain ⟨k0, k1, k2, kf⟩ := m_at ST2.out.mm; clear o2 ho2 hb2))
                  go_roundg g'
                  case measure => omega
                  case rel => exact ⟨i + 1, { m with ds := m.ds ++ ys }, _, cp, _, cc, by omega, by go_num, rfl, HP3, FC, HBD⟩
              · have hx5d : (x5.toList == ([100, 97, 116, 97, 32] : List UInt8)) = false := str_ne _ _ (by rw [← hx5, mk_data]; exact hda)
                have hD : isDa l = false := by unfold isDa; rw [decide_eq_false hda]; simp
                have hli := line_co hS hD m
                have cP := refParse_any x (by omega)
                have ex : (⟨l.toArray⟩ : ByteArray) = x := HX.out
                rw [ex] at hli
                have HTP : Hid (∀ o l, prs (splitP x) = some (o, l) → ∃ a b c, l = [a, b, c] ∧ o < 23 ∧ byte a ∧ byte b ∧ byte c) := fun o l h => by
                  obtain ⟨a, b, c, h1, h2, h3, h4, h5, _⟩ := text_parse x o l h
                  exact ⟨a, b, c, h1, h2, h3, h4, h5⟩
                clear hS hD hda hsz hx5 hxr hxrd hxrs hfr
                cases hh : prs (splitP x) with
                | none =>
                  rw [hh] at hli cP
                  simp only [pv] at cP
                  have FB : Hid (foldL im0 0 ls = .inl i) := by show _ = _; rw [FT.out, hli]
                  have CP : Hid _ := cP
                  clear hli hh cP
                  go_wp2_with (first | (go_at_call 74; refine (CP.out _).mono ?_; rintro e w2 ⟨rfl, hb2⟩; obtain ⟨s0, s1, s2, sf⟩ := m_at (HS.out.on hb2).r; have sf0 := sf 0; have sf1 := sf 1; have sf2 := sf 2; have hlt2 : w.heap.size < w2.heap.size := at_lt (HS.out.on hb2).r))
                  refine bodyPost_ret (v := .tuple #[.agg #[.int .i64 0, .slice none 0 0, .slice none 0 0], .int .i64 (i : Nat), .int .i64 14]) (by simp [results, Tryz.results25, go_sem, s0, s1, s2, hlt2]) rfl ?_
                  rw [PRL.out, FB.out]
                  refine ⟨rfl, ?_⟩
                  first
                    | exact ((((on1 HS.out.b hb2).setCell (by simp) _).setCell (by simp) _).setCell (by simp) _).alloc (by simp [World.setCell]; omega) _
                    | exact (((on1 (on1 HS.out.b hb2) (alloc_below _ _)).setCell (by simp) _).setCell (by simp) _).setCell (by simp) _
                | some ol =>
                  obtain ⟨o, lo⟩ := ol
                  obtain ⟨a, b, c, rfl, ho23, ha, hb, hc⟩ := HTP.out o lo hh
                  rw [hh] at hli cP
                  simp only [pv, List.getD_cons_zero, List.getD_cons_succ] at cP
                  have FC : Hid (foldL im0 0 ls = foldL { m with cs := m.cs ++ [(o : Int), a, b, c], k := m.k + 1 } (i + 1) (ls.drop (i + 1))) := by show _ = _; rw [FT.out, hli]
                  have HBD : Hid _ := HLL.out _ hli
                  have HQB : Hid (Bs [(o : Int), a, b, c]) := by
                    intro z hz
                    simp only [List.mem_cons, List.not_mem_nil, or_false] at hz
                    rcases hz with rfl | rfl | rfl | rfl
                    · constructor <;> omega
                    · exact ha
                    · exact hb
                    · exact hc
                  have CP : Hid _ := cP
                  have hmk : m.k + 1 ≤ 1000000 := by have := HBD.out.2; simp only at this; omega
                  clear hli hh cP HTP ha hb hc
                  go_wp2_with (first
                    | (at_builtin; refine wpList_moreI rfl (.tmp 109) (.tmp 111) rfl (zs := [(o : Int), a, b, c]) (m := 1) (t := m.k + 1) rfl rfl ST3.out.c SQ.out rfl rfl hmk ST3.out.hi ?_; intro sp3 c3 w3 O3 G3; obtain ⟨hM3, hP3⟩ := ST3.out.code HQB.out rfl rfl O3.out G3.out; obtain ⟨t0, t1, t2, tf⟩ := m_at hM3; have tf2 := tf 2; have HP3 : Hid _ := hP3; clear hM3 hP3)
                    | (go_at_call 74; refine (CP.out _).mono ?_; rintro e w2 ⟨rfl, hb2⟩; have ST2 : Hid (PSt w w2 S g n ls m dp cp dcp cc) := HS.out.on hb2; obtain ⟨k0, k1, k2, kf⟩ := m_at ST2.out.mm; have hlt2 : w.heap.size + 1 < w2.heap.size := at_lt ST2.out.mm; have ST3 : Hid (PSt w ((w2.alloc (.cells #[.int .u8 (o : Int), .int .u8 a, .int .u8 b, .int .u8 c] 64)).alloc (.cells #[.int .u8 (o : Int), .int .u8 a, .int .u8 b, .int .u8 c] 64)) S g n ls m dp cp dcp cc) := (ST2.out.on (alloc_below _ _)).on (alloc_below _ _); have SQ : Hid (Src ((w2.alloc (.cells #[.int .u8 (o : Int), .int .u8 a, .int .u8 b, .int .u8 c] 64)).alloc (.cells #[.int .u8 (o : Int), .int .u8 a, .int .u8 b, .int .u8 c] 64)) (some ⟨w2.heap.size + 1, 0, none⟩) [(o : Int), a, b, c]) := (by have h := quad_src (w2.alloc (.cells #[.int .u8 (o : Int), .int .u8 a, .int .u8 b, .int .u8 c] 64)) o a b c 64; rw [alloc_size] at h; exact h); clear hb2))
                  go_roundg g'
                  case measure => omega
                  case rel => exact ⟨i + 1, { m with cs := m.cs ++ [(o : Int), a, b, c], k := m.k + 1 }, dp, _, dcp, _, by omega, by go_num, rfl, HP3, FC, HBD⟩
          · have h5I : ¬ (5 : Int) < (l.length : Int) := by omega
            have hS : isSz l = false := by unfold isSz; rw [decide_eq_false h5]; rfl
            have hD : isDa l = false := by unfold isDa; rw [decide_eq_false h5]; rfl
            have hli := line_co hS hD m
            have cP := refParse_any x (by omega)
            have ex : (⟨l.toArray⟩ : ByteArray) = x := HX.out
            rw [ex] at hli
            have HTP : Hid (∀ o l, prs (splitP x) = some (o, l) → ∃ a b c, l = [a, b, c] ∧ o < 23 ∧ byte a ∧ byte b ∧ byte c) := fun o l h => by
              obtain ⟨a, b, c, h1, h2, h3, h4, h5, _⟩ := text_parse x o l h
              exact ⟨a, b, c, h1, h2, h3, h4, h5⟩
            clear hS hD
            cases hh : prs (splitP x) with
            | none =>
              rw [hh] at hli cP
              simp only [pv] at cP
              have FB : Hid (foldL im0 0 ls = .inl i) := by show _ = _; rw [FT.out, hli]
              have CP : Hid _ := cP
              clear hli hh cP
              go_wp2_with (first | (go_at_call 74; refine (CP.out _).mono ?_; rintro e w2 ⟨rfl, hb2⟩; obtain ⟨s0, s1, s2, sf⟩ := m_at (HS.out.on hb2).r; have sf0 := sf 0; have sf1 := sf 1; have sf2 := sf 2; have hlt2 : w.heap.size < w2.heap.size := at_lt (HS.out.on hb2).r))
              refine bodyPost_ret (v := .tuple #[.agg #[.int .i64 0, .slice none 0 0, .slice none 0 0], .int .i64 (i : Nat), .int .i64 14]) (by simp [results, Tryz.results25, go_sem, s0, s1, s2, hlt2]) rfl ?_
              rw [PRL.out, FB.out]
              refine ⟨rfl, ?_⟩
              first
                | exact ((((on1 HS.out.b hb2).setCell (by simp) _).setCell (by simp) _).setCell (by simp) _).alloc (by simp [World.setCell]; omega) _
                | exact (((on1 (on1 HS.out.b hb2) (alloc_below _ _)).setCell (by simp) _).setCell (by simp) _).setCell (by simp) _
            | some ol =>
              obtain ⟨o, lo⟩ := ol
              obtain ⟨a, b, c, rfl, ho23, ha, hb, hc⟩ := HTP.out o lo hh
              rw [hh] at hli cP
              simp only [pv, List.getD_cons_zero, List.getD_cons_succ] at cP
              have FC : Hid (foldL im0 0 ls = foldL { m with cs := m.cs ++ [(o : Int), a, b, c], k := m.k + 1 } (i + 1) (ls.drop (i + 1))) := by show _ = _; rw [FT.out, hli]
              have HBD : Hid _ := HLL.out _ hli
              have HQB : Hid (Bs [(o : Int), a, b, c]) := by
                intro z hz
                simp only [List.mem_cons, List.not_mem_nil, or_false] at hz
                rcases hz with rfl | rfl | rfl | rfl
                · constructor <;> omega
                · exact ha
                · exact hb
                · exact hc
              have CP : Hid _ := cP
              have hmk : m.k + 1 ≤ 1000000 := by have := HBD.out.2; simp only at this; omega
              clear hli hh cP HTP ha hb hc
              go_wp2_with (first
                | (at_builtin; refine wpList_moreI rfl (.tmp 109) (.tmp 111) rfl (zs := [(o : Int), a, b, c]) (m := 1) (t := m.k + 1) rfl rfl ST3.out.c SQ.out rfl rfl hmk ST3.out.hi ?_; intro sp3 c3 w3 O3 G3; obtain ⟨hM3, hP3⟩ := ST3.out.code HQB.out rfl rfl O3.out G3.out; obtain ⟨t0, t1, t2, tf⟩ := m_at hM3; have tf2 := tf 2; have HP3 : Hid _ := hP3; clear hM3 hP3)
                | (go_at_call 74; refine (CP.out _).mono ?_; rintro e w2 ⟨rfl, hb2⟩; have ST2 : Hid (PSt w w2 S g n ls m dp cp dcp cc) := HS.out.on hb2; obtain ⟨k0, k1, k2, kf⟩ := m_at ST2.out.mm; have hlt2 : w.heap.size + 1 < w2.heap.size := at_lt ST2.out.mm; have ST3 : Hid (PSt w ((w2.alloc (.cells #[.int .u8 (o : Int), .int .u8 a, .int .u8 b, .int .u8 c] 64)).alloc (.cells #[.int .u8 (o : Int), .int .u8 a, .int .u8 b, .int .u8 c] 64)) S g n ls m dp cp dcp cc) := (ST2.out.on (alloc_below _ _)).on (alloc_below _ _); have SQ : Hid (Src ((w2.alloc (.cells #[.int .u8 (o : Int), .int .u8 a, .int .u8 b, .int .u8 c] 64)).alloc (.cells #[.int .u8 (o : Int), .int .u8 a, .int .u8 b, .int .u8 c] 64)) (some ⟨w2.heap.size + 1, 0, none⟩) [(o : Int), a, b, c]) := (by have h := quad_src (w2.alloc (.cells #[.int .u8 (o : Int), .int .u8 a, .int .u8 b, .int .u8 c] 64)) o a b c 64; rw [alloc_size] at h; exact h); clear hb2))
              go_roundg g'
              case measure => omega
              case rel => exact ⟨i + 1, { m with cs := m.cs ++ [(o : Int), a, b, c], k := m.k + 1 }, dp, _, dcp, _, by omega, by go_num, rfl, HP3, FC, HBD⟩
end Go.Proofs.YtcjghnnliepjjaaGreatDoor
