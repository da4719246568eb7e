/- What the document's own way of reading answers, by plain lists: it is what the program's answers. -/
import Derived.Test.YtdneldjnkkpmoaaDoorTextsPure
import Derived.Test.YtdneldjnkkpmoaaDoorRef
namespace Go.Proofs.YtdneldjnkkpmoaaDoor
open Go Go.RowKit
set_option maxRecDepth 100000
set_option linter.unusedSimpArgs false
set_option linter.unusedVariables false
def opt (n : Int) : Option Int := if n < 0 then none else some n
/-- the number of a field's text -/
def frd (k : Nat) (l : List UInt8) : Option Int :=
  if k = 1 then (if l.head? = some 114 then opt (numb l.tail 7) else none)
  else if k = 4 then opt (numb l 65535)
  else if k = 3 then (if l.head? = some 45 then (if numb l.tail 128 ≤ 0 then none else some (- numb l.tail 128)) else opt (numb l 127))
  else opt (numb l 255)
theorem opt_numb (l : List UInt8) (m n : Int) (hm : m < 100000) : opt (numb l m) = some n ↔ 0 ≤ n ∧ n ≤ m ∧ l = Lib.decDigits n.toNat := by
  unfold opt
  constructor
  · intro h
    split at h
    · cases h
    · rename_i hn
      obtain rfl := Option.some.inj h
      have := numb_some l m _ (by omega) rfl
      exact ⟨by omega, this.2, this.1⟩
  · rintro ⟨h0, h1, rfl⟩
    have := numb_dec n.toNat m (by omega) (by omega)
    rw [this, if_neg (by omega), Int.toNat_of_nonneg h0]
theorem rd_iff (k : Nat) (l : List UInt8) (n : Int) : rd k l = some n ↔ l = (kMark k).data.toList ++ Lib.itoa n ∧ kLeast k ≤ n ∧ n ≤ kMost k :=
  ⟨rd_some, fun ⟨e, a, b⟩ => e ▸ rd_itoa k n a b⟩
theorem head_cons {l : List UInt8} {c : UInt8} (h : l.head? = some c) : l = c :: l.tail := by
  cases l with
  | nil => cases h
  | cons x r => simp at h; rw [h]; rfl
theorem frd_rd (k : Nat) (h1 : 1 ≤ k) (h4 : k ≤ 4) (l : List UInt8) : frd k l = rd k l := by
  apply Option.ext
  intro n
  rw [rd_iff, mark_one]
  obtain rfl | rfl | rfl | rfl : k = 1 ∨ k = 2 ∨ k = 3 ∨ k = 4 := by omega
  · show (if l.head? = some 114 then opt (numb l.tail 7) else none) = some n ↔ l = [114] ++ Lib.itoa n ∧ (0 : Int) ≤ n ∧ n ≤ 7
    constructor
    · intro h
      split at h
      · rename_i hh
        obtain ⟨a, b, c⟩ := (opt_numb _ _ _ (by omega)).1 h
        refine ⟨?_, a, b⟩
        rw [itoa_pos n a, ← c]
        exact head_cons hh
      · cases h
    · rintro ⟨rfl, a, b⟩
      rw [if_pos (show ([114] ++ Lib.itoa n : List UInt8).head? = some 114 from rfl)]
      exact (opt_numb _ _ _ (by omega)).2 ⟨a, b, by rw [itoa_pos n a]; rfl⟩
  · show opt (numb l 255) = some n ↔ l = [] ++ Lib.itoa n ∧ (0 : Int) ≤ n ∧ n ≤ 255
    rw [opt_numb _ _ _ (by omega)]
    constructor
    · rintro ⟨a, b, c⟩; exact ⟨by rw [itoa_pos n a]; exact c, a, b⟩
    · rintro ⟨c, a, b⟩; exact ⟨a, b, by rw [itoa_pos n a] at c; exact c⟩
  · show (if l.head? = some 45 then (if numb l.tail 128 ≤ 0 then none else some (- numb l.tail 128)) else opt (numb l 127)) = some n ↔ l = [] ++ Lib.itoa n ∧ (-128 : Int) ≤ n ∧ n ≤ 127
    constructor
    · intro h
      split at h
      · rename_i hh
        split at h
        · cases h
        · rename_i hz
          have e := Option.some.inj h
          obtain ⟨a, b⟩ := numb_some l.tail 128 (numb l.tail 128) (by omega) rfl
          refine ⟨?_, by omega, by omega⟩
          rw [itoa_neg n (by omega), show (-n) = numb l.tail 128 by omega, ← a]
          exact head_cons hh
      · obtain ⟨a, b, c⟩ := (opt_numb _ _ _ (by omega)).1 h
        exact ⟨by rw [itoa_pos n a]; exact c, by omega, b⟩
    · rintro ⟨e, a, b⟩
      rw [List.nil_append] at e
      by_cases hn : n < 0
      · rw [itoa_neg n hn] at e
        have hd := numb_dec (-n).toNat 128 (by omega) (by omega)
        rw [e, List.head?_cons, if_pos rfl, List.tail_cons, hd, if_neg (by omega)]
        congr 1
        omega
      · rw [itoa_pos n (by omega)] at e
        rw [if_neg, opt_numb _ _ _ (by omega)]
        · exact ⟨by omega, b, e⟩
        · intro hh
          have := digs_dec n.toNat 45 (by rw [← e, head_cons hh]; exact List.mem_cons_self ..)
          exact absurd this (by decide)
  · show opt (numb l 65535) = some n ↔ l = [] ++ Lib.itoa n ∧ (0 : Int) ≤ n ∧ n ≤ 65535
    rw [opt_numb _ _ _ (by omega)]
    constructor
    · rintro ⟨a, b, c⟩; exact ⟨by rw [itoa_pos n a]; exact c, a, b⟩
    · rintro ⟨c, a, b⟩; exact ⟨a, b, by rw [itoa_pos n a] at c; exact c⟩
theorem frd_five (l : List UInt8) (n : Int) : frd 5 l = some n ↔ 0 ≤ n ∧ n ≤ 255 ∧ l = Lib.decDigits n.toNat := opt_numb l 255 n (by omega)
/-- a number that was read is one of its kind's -/
theorem frd_bd (k : Nat) (h1 : 1 ≤ k) (h5 : k ≤ 5) (l : List UInt8) (n : Int) (h : frd k l = some n) : -128 ≤ n ∧ n ≤ 65535 ∧ (k = 4 → 0 ≤ n) := by
  by_cases h4 : k ≤ 4
  · rw [frd_rd k h1 h4, rd_iff] at h
    have := bd_k k
    refine ⟨by omega, by omega, ?_⟩
    rintro rfl
    exact h.2.1
  · obtain rfl : k = 5 := by omega
    rw [frd_five] at h
    exact ⟨by omega, by omega, fun e => by omega⟩
def rdAllR : List Nat → List ByteArray → List Int → Option (List Int)
  | k :: ks, t :: ts, acc => match frd k t.data.toList with
    | some n => rdAllR ks ts (acc ++ kBytes k n)
    | none => none
  | [], [], acc => some acc
  | _, _, _ => none
def prsR : List ByteArray → Option (Nat × List Int)
  | [] => none
  | w :: ts => match opOf w.data.toList with
    | none => none
    | some o => if (ksOf o).length = ts.length then match rdAllR (ksOf o) ts [] with
        | some d => if chk (ksOf o) (pad d) = true then some (o, pad d) else none
        | none => none
      else none
theorem rdAllR_eq : ∀ (ks : List Nat) (ts : List ByteArray) (acc : List Int), (∀ k ∈ ks, 1 ≤ k ∧ k ≤ 4) → rdAllR ks ts acc = rdAll ks ts acc
  | [], [], _, _ => rfl
  | [], _ :: _, _, _ => rfl
  | _ :: _, [], _, _ => rfl
  | k :: ks, t :: ts, acc, h => by
    have hk := h k (List.mem_cons_self ..)
    rw [rdAllR, rdAll, frd_rd k hk.1 hk.2]
    cases rd k t.data.toList with
    | none => rfl
    | some n => exact rdAllR_eq ks ts _ (fun x hx => h x (List.mem_cons_of_mem _ hx))
theorem ks_four (o : Nat) (h : o < 23) (h21 : o ≠ 21) : ∀ k ∈ ksOf o, 1 ≤ k ∧ k ≤ 4 := by
  have : ∀ o : Fin 23, o.val ≠ 21 → ∀ k ∈ ksOf o.val, 1 ≤ k ∧ k ≤ 4 := by decide +kernel
  exact this ⟨o, h⟩ h21
theorem chk_read (o : Nat) (h : o < 23) (ts : List ByteArray) (d : List Int) (hr : rdAll (ksOf o) ts [] = some d) : chk (ksOf o) (pad d) = true := by
  obtain ⟨d', e1, e2, e3, e4⟩ := bw (ksOf o) 3 ts [] d (fit_all o h) hr
  rw [List.nil_append] at e1
  subst e1
  have := e4 (3 - d.length) []
  unfold pad
  rw [← wrt_chk (ksOf o) _ [], this]
theorem ks_21 : ksOf 21 = [5] := by decide +kernel
theorem prsR_prs (l : List ByteArray) : prsR l = prs l := by
  cases l with
  | nil => rfl
  | cons w ts =>
    rw [prsR, prs]
    cases ho : opOf w.data.toList with
    | none => rfl
    | some o =>
      simp only
      have h23 := (opOf_some ho).1
      split
      · rename_i hlen
        by_cases h21 : o = 21
        · subst h21
          rw [ks_21] at hlen ⊢
          obtain ⟨t, rfl⟩ : ∃ t, ts = [t] := by
            match ts, hlen with
            | [t], _ => exact ⟨t, rfl⟩
          have e5 : rdAllR [5] [t] [] = (frd 5 t.data.toList).map fun n => kBytes 5 n := by
            rw [rdAllR]; cases frd 5 t.data.toList <;> rfl
          have e6 : rdAll [5] [t] [] = (rd 5 t.data.toList).map fun n => kBytes 5 n := by
            rw [rdAll]; cases rd 5 t.data.toList <;> rfl
          rw [e5, e6]
          cases hf : frd 5 t.data.toList with
          | none =>
            cases hr : rd 5 t.data.toList with
            | none => rfl
            | some n =>
              rw [rd_iff, mark_one] at hr
              have a : (1 : Int) ≤ n := hr.2.1
              have b : n ≤ 20 := hr.2.2
              have : frd 5 t.data.toList = some n := (frd_five _ _).2 ⟨by omega, by omega, by rw [hr.1, itoa_pos n (by omega)]; rfl⟩
              rw [hf] at this; cases this
          | some n =>
            obtain ⟨a, b, c⟩ := (frd_five _ _).1 hf
            have hp : pad (kBytes 5 n) = [n, 0, 0] := by
              have : n % 256 = n := by omega
              show [n % 256, 0, 0] = _
              rw [this]
            have hck : chk [5] [n, 0, 0] = (decide (1 ≤ n) && decide (n ≤ 20)) := by
              show (kOk 5 n 0 && true) = _
              rw [Bool.and_true, kOk5 n 0 a b]
            simp only [Option.map_some]
            rw [hp, hck]
            by_cases hn : 1 ≤ n ∧ n ≤ 20
            · have hr : rd 5 t.data.toList = some n := (rd_iff _ _ _).2 ⟨by rw [mark_one, c, itoa_pos n a]; rfl, hn.1, hn.2⟩
              rw [hr, if_pos (by simp [hn])]
              simp only [Option.map_some, hp]
            · have hr : rd 5 t.data.toList = none := by
                cases hr : rd 5 t.data.toList with
                | none => rfl
                | some m =>
                  rw [rd_iff, mark_one] at hr
                  have x : (1 : Int) ≤ m := hr.2.1
                  have y : m ≤ 20 := hr.2.2
                  have : frd 5 t.data.toList = some m := (frd_five _ _).2 ⟨by omega, by omega, by rw [hr.1, itoa_pos m (by omega)]; rfl⟩
                  rw [hf] at this
                  obtain rfl := Option.some.inj this
                  exact absurd ⟨x, y⟩ hn
              rw [hr, if_neg (by simp; omega)]
              rfl
        · rw [rdAllR_eq _ _ _ (ks_four o h23 h21)]
          cases hr : rdAll (ksOf o) ts [] with
          | none => rfl
          | some d =>
            simp only [Option.map_some]
            rw [if_pos (chk_read o h23 ts d hr)]
      · rfl
/-- the parts between all blanks: what is read of them is what is read of the first five -/
theorem parts_prs (s : ByteArray) (ps : List (List UInt8)) (h0 : ps ≠ []) (hb : ∀ w ∈ ps, (32 : UInt8) ∉ w) (hj : jn ps = s.data.toList) : prsR (ps.map mk) = prs (splitP s) := by
  have hs : s = mk (jn ps) := by rw [hj, data_mk]
  by_cases h5 : ps.length ≤ 5
  · rw [hs, splitP_jn ps h0 hb h5, prsR_prs]
  · have e1 : prs (ps.map mk) = none := by
      obtain ⟨x, r, rfl⟩ := List.exists_cons_of_ne_nil h0
      cases ho : opOf (mk x).data.toList with
      | none => rw [List.map_cons, prs, ho]
      | some o =>
        rw [List.map_cons]
        refine prs_len _ _ o ho ?_
        have := ks_short o (opOf_some ho).1
        simp at h5 ⊢
        omega
    rw [prsR_prs, e1]
    cases hp : prs (splitP s) with
    | none => rfl
    | some v =>
      exfalso
      obtain ⟨o, l⟩ := v
      obtain ⟨a, b, c, rfl, ho, ha, hb', hc, hm, ht⟩ := text_parse s o l hp
      obtain ⟨h1, h2, h3⟩ := parts_plain o a b c ha hb' hc hm
      have e2 : jn ((parts o a b c).map (·.data.toList)) = jn ps := by
        rw [text_jn] at ht
        have := congrArg (fun x : ByteArray => x.data.toList) ht
        rw [hj]
        exact this
      have e3 := ct_jn ps ps.length h0 hb (by omega)
      have e4 := ct_jn ((parts o a b c).map (·.data.toList)) ps.length (by intro e; have := congrArg List.length e; simp at this; rw [this] at h2; simp at h2) (fun w hw => (h1 w hw).1) (by rw [List.length_map]; omega)
      rw [e2, e3] at e4
      have := congrArg List.length e4
      rw [List.length_map] at this
      omega
end Go.Proofs.YtdneldjnkkpmoaaDoor
