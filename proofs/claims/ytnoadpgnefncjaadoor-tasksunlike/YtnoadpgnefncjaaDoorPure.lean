/- Tasks as plain numbers, and their lines as lists of bytes. No law of the program itself. -/
import Derived.Lib.Split
import Derived.Lib.SplitLaws
import Derived.Lib.Join
import Derived.Lib.ItoaNum
import Derived.Lib.IndexBytes
namespace Go.Proofs.YtnoadpgnefncjaaDoor
open Go
set_option linter.unusedVariables false
/-! digits -/
theorem dig_toNat (d : Nat) (h : d < 10) : (UInt8.ofNat (48 + d)).toNat = 48 + d := by
  rw [UInt8.toNat_ofNat']; omega
theorem decDigits_small (u : Nat) (h : u < 10) : Lib.decDigits u = [UInt8.ofNat (48 + u)] := by rw [Lib.decDigits, dif_pos h]
theorem decDigits_big (u : Nat) (h : ¬ u < 10) : Lib.decDigits u = Lib.decDigits (u / 10) ++ [UInt8.ofNat (48 + u % 10)] := by rw [Lib.decDigits, dif_neg h]
theorem decDigits_mem (u : Nat) : ∀ c ∈ Lib.decDigits u, 48 ≤ c.toNat ∧ c.toNat ≤ 57 := by
  induction u using Nat.strongRecOn with
  | _ u ih =>
    intro c hc
    by_cases h : u < 10
    · rw [decDigits_small u h] at hc
      obtain rfl := List.mem_singleton.1 hc
      rw [dig_toNat u h]; omega
    · rw [decDigits_big u h, List.mem_append] at hc
      rcases hc with hc | hc
      · exact ih (u / 10) (by omega) c hc
      · obtain rfl := List.mem_singleton.1 hc
        rw [dig_toNat _ (by omega)]; omega
theorem decDigits_ne (u : Nat) : Lib.decDigits u ≠ [] := by
  by_cases h : u < 10
  · rw [decDigits_small u h]; simp
  · rw [decDigits_big u h]; simp
/-- the number that digits tell -/
def dval (l : List UInt8) : Nat := l.foldl (fun a c => a * 10 + (c.toNat - 48)) 0
theorem dval_dec (u : Nat) : dval (Lib.decDigits u) = u := by
  induction u using Nat.strongRecOn with
  | _ u ih =>
    by_cases h : u < 10
    · rw [decDigits_small u h]
      unfold dval
      rw [List.foldl_cons, List.foldl_nil, dig_toNat u h]; omega
    · have := ih (u / 10) (by omega)
      rw [decDigits_big u h]
      unfold dval at this ⊢
      rw [List.foldl_append, this, List.foldl_cons, List.foldl_nil, dig_toNat _ (by omega)]; omega
theorem dec_inj {u v : Nat} (h : Lib.decDigits u = Lib.decDigits v) : u = v := by rw [← dval_dec u, h, dval_dec]
theorem itoa_inj {n m : Int} (h : Lib.itoa n = Lib.itoa m) : n = m := by
  unfold Lib.itoa at h
  split at h <;> split at h
  · injection h with _ h
    have := dec_inj h
    omega
  · have := decDigits_mem m.toNat 45 (by rw [← h]; exact List.mem_cons_self ..)
    exact absurd this.1 (by decide)
  · have := decDigits_mem n.toNat 45 (by rw [h]; exact List.mem_cons_self ..)
    exact absurd this.1 (by decide)
  · have := dec_inj h
    omega
theorem itoa_mem (n : Int) : ∀ c ∈ Lib.itoa n, (48 ≤ c.toNat ∧ c.toNat ≤ 57) ∨ c.toNat = 45 := by
  intro c hc
  unfold Lib.itoa at hc
  split at hc
  · rcases List.mem_cons.1 hc with rfl | hc
    · exact Or.inr rfl
    · exact Or.inl (decDigits_mem _ c hc)
  · exact Or.inl (decDigits_mem _ c hc)
theorem no_blank_itoa (n : Int) : (32 : UInt8) ∉ Lib.itoa n := fun h => by
  rcases itoa_mem n 32 h with h | h
  · exact absurd h.1 (by decide)
  · exact absurd h (by decide)
theorem dec_len : ∀ (k u : Nat), u < 10 ^ (k + 1) → (Lib.decDigits u).length ≤ k + 1
  | 0, u, h => by rw [decDigits_small u (by simpa using h)]; simp
  | k + 1, u, h => by
    by_cases h1 : u < 10
    · rw [decDigits_small u h1]; simp
    · rw [Nat.pow_succ] at h
      rw [decDigits_big u h1, List.length_append, List.length_singleton]
      have := dec_len k (u / 10) (by omega)
      omega
theorem itoa_len (n : Int) (h0 : -9223372036854775808 ≤ n) (h1 : n ≤ 9223372036854775807) : (Lib.itoa n).length ≤ 20 := by
  unfold Lib.itoa
  split
  · have := dec_len 18 n.natAbs (by omega)
    rw [List.length_cons]; omega
  · have := dec_len 18 n.toNat (by omega)
    omega
/-! words -/
theorem ixb_none (c : UInt8) : ∀ l : List UInt8, c ∉ l → Lib.indexByte l c = -1
  | [], _ => rfl
  | b :: l, h => by
    have h1 : ¬ b = c := fun e => h (by rw [e]; exact List.mem_cons_self ..)
    have h2 := ixb_none c l (fun e => h (List.mem_cons_of_mem _ e))
    rw [Lib.indexByte, h2]
    simp [h1]
theorem ixb_at (c : UInt8) (r : List UInt8) : ∀ a : List UInt8, c ∉ a → Lib.indexByte (a ++ c :: r) c = a.length
  | [], _ => by simp [Lib.indexByte]
  | b :: a, h => by
    have h1 : ¬ b = c := fun e => h (by rw [e]; exact List.mem_cons_self ..)
    have h2 := ixb_at c r a (fun e => h (List.mem_cons_of_mem _ e))
    rw [List.cons_append, Lib.indexByte, h2]
    have h3 : ¬ ((a.length : Int) = -1) := by omega
    simp [h1, h3]
/-- words with a blank between each two -/
def jn (ws : List (List UInt8)) : List UInt8 := Lib.join ws [32]
theorem jn_one (w : List UInt8) : jn [w] = w := by simp [jn, Lib.join, List.intercalate]
theorem jn_two (w x : List UInt8) (ws : List (List UInt8)) : jn (w :: x :: ws) = w ++ 32 :: jn (x :: ws) := by
  simp [jn, Lib.join, List.intercalate, List.intersperse]
def ct (k : Nat) (l : List UInt8) : List (List UInt8) := Lib.splitK [32] 0 k l
theorem ct_none (k : Nat) (w : List UInt8) (h : (32 : UInt8) ∉ w) : ct k w = [w] := by
  cases k with
  | zero => rfl
  | succ k => unfold ct Lib.splitK; rw [Lib.index_one, ixb_none 32 w h]; rfl
theorem ct_at (k : Nat) (w r : List UInt8) (h : (32 : UInt8) ∉ w) : ct (k + 1) (w ++ 32 :: r) = w :: ct k r := by
  unfold ct
  rw [Lib.splitK, Lib.index_one, ixb_at 32 r w h]
  have h3 : ¬ ((w.length : Int) == -1) = true := by
    intro e
    have := beq_iff_eq.1 e
    omega
  rw [if_neg h3]
  simp
/-- words are cut apart again -/
theorem ct_jn : ∀ (ws : List (List UInt8)) (k : Nat), ws ≠ [] → (∀ w ∈ ws, (32 : UInt8) ∉ w) → ws.length ≤ k + 1 → ct k (jn ws) = ws
  | [], _, h, _, _ => absurd rfl h
  | [w], k, _, h, _ => by rw [jn_one]; exact ct_none k w (h w (List.mem_cons_self ..))
  | w :: x :: ws, 0, _, _, hl => by simp at hl
  | w :: x :: ws, k + 1, _, h, hl => by
    rw [jn_two, ct_at k w _ (h w (List.mem_cons_self ..)), ct_jn (x :: ws) k (by simp) (fun y hy => h y (List.mem_cons_of_mem _ hy)) (by simp at hl ⊢; omega)]
theorem jn_len : ∀ ws : List (List UInt8), (∀ w ∈ ws, w.length ≤ 20) → (jn ws).length ≤ 21 * ws.length
  | [], _ => by simp [jn, Lib.join, List.intercalate]
  | [w], h => by rw [jn_one]; have := h w (List.mem_cons_self ..); simp; omega
  | w :: x :: ws, h => by
    have h1 := h w (List.mem_cons_self ..)
    have h2 := jn_len (x :: ws) (fun y hy => h y (List.mem_cons_of_mem _ hy))
    rw [jn_two, List.length_append, List.length_cons]
    simp only [List.length_cons] at h2 ⊢
    omega
/-! tasks -/
/-- what may wait -/
def MayW (w : Int) : Prop := w = 2 ∨ w = 3 ∨ w = 5 ∨ w = 7 ∨ w = 8 ∨ w = 9 ∨ w = 11 ∨ w = 14
instance (w : Int) : Decidable (MayW w) := by unfold MayW; infer_instance
def mayB (w : Int) : Bool := decide (MayW w)
def Blk (w t : Int) : Prop := MayW w ∧ t ≠ 0
instance (w t : Int) : Decidable (Blk w t) := by unfold Blk; infer_instance
def blkB (w t : Int) : Bool := decide (Blk w t)
/-- of which kind of thing it is asked -/
def kd (w : Int) : Int := if w = 3 ∨ w = 4 then 1 else if w = 5 ∨ w = 6 then 2 else if 7 ≤ w ∧ w ≤ 10 then 3 else if 11 ≤ w ∧ w ≤ 13 then 4 else if w = 14 ∨ w = 15 then 5 else if w = 16 ∨ w = 17 then 6 else 0
def fitB (w k : Int) : Bool := decide (kd w ≠ 0 ∧ kd w = k)
def LeftOk (l t : Int) : Prop := (t < 0 ∧ l < 0) ∨ (0 ≤ t ∧ 1 ≤ l ∧ l ≤ t)
instance (l t : Int) : Decidable (LeftOk l t) := by unfold LeftOk; infer_instance
def leftB (l t : Int) : Bool := decide (LeftOk l t)
def StOk (s wh ah av am aw lf : Int) : Prop := (s = 2 ∧ MayW wh ∧ aw ≠ 0 ∧ aw ≤ 1073741824 ∧ LeftOk lf aw) ∨ ((s = 1 ∨ s = 3) ∧ wh = 0 ∧ ah = 0 ∧ av = 0 ∧ am = 0 ∧ aw = 0 ∧ lf = 0)
instance (s wh ah av am aw lf : Int) : Decidable (StOk s wh ah av am aw lf) := by unfold StOk; infer_instance
def stB (s wh ah av am aw lf : Int) : Bool := decide (StOk s wh ah av am aw lf)
def Ok (h s b r wh ah av am aw lf an la : Int) : Prop := h ≠ 0 ∧ 0 ≤ b ∧ b ≤ 31 ∧ b ≤ r ∧ r ≤ 31 ∧ 0 ≤ an ∧ 0 ≤ la ∧ la ≤ 15 ∧ StOk s wh ah av am aw lf
instance (h s b r wh ah av am aw lf an la : Int) : Decidable (Ok h s b r wh ah av am aw lf an la) := by unfold Ok; infer_instance
def okB (h s b r wh ah av am aw lf an la : Int) : Bool := decide (Ok h s b r wh ah av am aw lf an la)
def stw (s : Int) : List UInt8 := if s = 1 then [114, 101, 97, 100, 121] else if s = 2 then [119, 97, 105, 116, 115] else [102, 97, 117, 108, 116]
def hdw (d : Bool) : List UInt8 := if d then [104, 101, 108, 100] else [45]
def wtw (s wh ah av am lf : Int) : List (List UInt8) := if s = 2 then [Lib.itoa wh, Lib.itoa ah, Lib.itoa av, Lib.itoa am, Lib.itoa lf] else [[45]]
def wds (h s : Int) (d : Bool) (b r wh ah av am lf an la vl : Int) : List (List UInt8) :=
  [Lib.itoa h, stw s, hdw d, Lib.itoa b, Lib.itoa r] ++ wtw s wh ah av am lf ++ [Lib.itoa an, Lib.itoa la, Lib.itoa vl]
def txt (h s : Int) (d : Bool) (b r wh ah av am aw lf an la vl : Int) : List UInt8 :=
  if Ok h s b r wh ah av am aw lf an la then jn (wds h s d b r wh ah av am lf an la vl) else []
theorem stw_plain (s : Int) : (32 : UInt8) ∉ stw s ∧ (stw s).length ≤ 20 := by
  unfold stw
  split
  · decide
  · split <;> decide
theorem hdw_plain (d : Bool) : (32 : UInt8) ∉ hdw d ∧ (hdw d).length ≤ 20 := by cases d <;> decide
theorem wds_blank (h s : Int) (d : Bool) (b r wh ah av am lf an la vl : Int) : ∀ w ∈ wds h s d b r wh ah av am lf an la vl, (32 : UInt8) ∉ w := by
  intro w hw
  unfold wds wtw at hw
  have h1 := (stw_plain s).1
  have h2 := (hdw_plain d).1
  have h3 : (32 : UInt8) ∉ ([45] : List UInt8) := by decide
  split at hw <;> simp only [List.mem_append, List.mem_cons, List.not_mem_nil, or_false] at hw
  · rcases hw with ((hw | hw | hw | hw | hw) | (hw | hw | hw | hw | hw)) | hw | hw | hw <;> (subst hw; first | exact no_blank_itoa _ | exact h1 | exact h2)
  · rcases hw with ((hw | hw | hw | hw | hw) | hw) | hw | hw | hw <;> (subst hw; first | exact no_blank_itoa _ | exact h1 | exact h2 | exact h3)
theorem wds_len (h s : Int) (d : Bool) (b r wh ah av am lf an la vl : Int) : (wds h s d b r wh ah av am lf an la vl).length = (if s = 2 then 13 else 9) := by
  unfold wds wtw; split <;> rfl
theorem wds_ne (h s : Int) (d : Bool) (b r wh ah av am lf an la vl : Int) : wds h s d b r wh ah av am lf an la vl ≠ [] := by unfold wds; simp
theorem stw_inj {s s' : Int} (h : s = 1 ∨ s = 2 ∨ s = 3) (h' : s' = 1 ∨ s' = 2 ∨ s' = 3) (e : stw s = stw s') : s = s' := by
  rcases h with rfl | rfl | rfl <;> rcases h' with rfl | rfl | rfl <;> first | rfl | exact absurd e (by decide)
theorem hdw_inj {d d' : Bool} (e : hdw d = hdw d') : d = d' := by
  cases d <;> cases d' <;> first | rfl | exact absurd e (by decide)
theorem ok_state {h s b r wh ah av am aw lf an la : Int} (k : Ok h s b r wh ah av am aw lf an la) : s = 1 ∨ s = 2 ∨ s = 3 := by
  unfold Ok StOk at k; omega
/-- all but for how long it waits -/
def Like (h s : Int) (d : Bool) (b r wh ah av am lf an la vl h' s' : Int) (d' : Bool) (b' r' wh' ah' av' am' lf' an' la' vl' : Int) : Prop :=
  h = h' ∧ s = s' ∧ d = d' ∧ b = b' ∧ r = r' ∧ wh = wh' ∧ ah = ah' ∧ av = av' ∧ am = am' ∧ lf = lf' ∧ an = an' ∧ la = la' ∧ vl = vl'
theorem txt_iff {h s : Int} {d : Bool} {b r wh ah av am aw lf an la vl h' s' : Int} {d' : Bool} {b' r' wh' ah' av' am' aw' lf' an' la' vl' : Int} (k : Ok h s b r wh ah av am aw lf an la) (k' : Ok h' s' b' r' wh' ah' av' am' aw' lf' an' la') :
    txt h s d b r wh ah av am aw lf an la vl = txt h' s' d' b' r' wh' ah' av' am' aw' lf' an' la' vl' ↔ Like h s d b r wh ah av am lf an la vl h' s' d' b' r' wh' ah' av' am' lf' an' la' vl' := by
  unfold txt
  rw [if_pos k, if_pos k']
  constructor
  · intro e
    have e1 := congrArg (ct 12) e
    rw [ct_jn _ 12 (wds_ne _ _ _ _ _ _ _ _ _ _ _ _ _) (wds_blank _ _ _ _ _ _ _ _ _ _ _ _ _) (by rw [wds_len]; split <;> omega), ct_jn _ 12 (wds_ne _ _ _ _ _ _ _ _ _ _ _ _ _) (wds_blank _ _ _ _ _ _ _ _ _ _ _ _ _) (by rw [wds_len]; split <;> omega)] at e1
    have q := stw_inj (ok_state k) (ok_state k')
    unfold wds at e1
    simp only [List.cons_append, List.nil_append, List.cons.injEq] at e1
    obtain ⟨a1, a2, a3, a4, a5, a6⟩ := e1
    have a2 := q a2
    subst a2
    have a1 := itoa_inj a1
    have a3 := hdw_inj a3
    have a4 := itoa_inj a4
    have a5 := itoa_inj a5
    subst a1 a3 a4 a5
    unfold wtw at a6
    by_cases hs : s = 2
    · rw [if_pos hs, if_pos hs] at a6
      simp only [List.cons_append, List.nil_append, List.cons.injEq, and_true] at a6
      obtain ⟨c1, c2, c3, c4, c5, c6, c7, c8⟩ := a6
      exact ⟨rfl, rfl, rfl, rfl, rfl, itoa_inj c1, itoa_inj c2, itoa_inj c3, itoa_inj c4, itoa_inj c5, itoa_inj c6, itoa_inj c7, itoa_inj c8⟩
    · rw [if_neg hs, if_neg hs] at a6
      simp only [List.cons_append, List.nil_append, List.cons.injEq, and_true, true_and] at a6
      obtain ⟨c6, c7, c8⟩ := a6
      have z : wh = wh' ∧ ah = ah' ∧ av = av' ∧ am = am' ∧ lf = lf' := by unfold Ok StOk at k k'; omega
      exact ⟨rfl, rfl, rfl, rfl, rfl, z.1, z.2.1, z.2.2.1, z.2.2.2.1, z.2.2.2.2, itoa_inj c6, itoa_inj c7, itoa_inj c8⟩
  · rintro ⟨rfl, rfl, rfl, rfl, rfl, rfl, rfl, rfl, rfl, rfl, rfl, rfl, rfl⟩
    rfl
end Go.Proofs.YtnoadpgnefncjaaDoor
