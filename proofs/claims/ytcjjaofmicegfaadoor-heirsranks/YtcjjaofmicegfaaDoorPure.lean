/- Who lends their rank, as plain lists: chains, ranks that are as little as may be. No law of the program itself. -/
import Derived.Test.YtcjjaofmicegfaaDoorRows
import Derived.WalkKit
import Derived.ProofKit
import Derived.OpenShut
namespace Go.Proofs.YtcjjaofmicegfaaDoor
open Go Go.RowKit
set_option maxRecDepth 100000
set_option linter.unusedVariables false
/-- each one is -1, or a place -/
def Plc (ws : List Int) : Prop := ∀ i, i < ws.length → -1 ≤ ws.getD i 0 ∧ ws.getD i 0 < ws.length
/-- for whom one waits -/
def nx (ws : List Int) (a : Int) : Int := if a < 0 then -1 else ws.getD a.toNat 0
/-- the one behind so many steps -/
def ch (ws : List Int) (a : Int) : Nat → Int
  | 0 => a
  | k + 1 => nx ws (ch ws a k)
theorem nx_at (ws : List Int) (i : Nat) : nx ws (i : Int) = ws.getD i 0 := by unfold nx; rw [if_neg (by omega)]; rfl
theorem nx_neg (ws : List Int) {a : Int} (h : a < 0) : nx ws a = -1 := by unfold nx; rw [if_pos h]
theorem nx_pl {ws : List Int} (hp : Plc ws) {a : Int} (h : a < ws.length) : -1 ≤ nx ws a ∧ nx ws a < ws.length := by
  unfold nx
  split
  · omega
  · exact hp _ (by omega)
theorem ch_pl {ws : List Int} (hp : Plc ws) {a : Int} (h0 : -1 ≤ a) (h : a < ws.length) : ∀ k, -1 ≤ ch ws a k ∧ ch ws a k < ws.length
  | 0 => ⟨h0, h⟩
  | k + 1 => nx_pl hp (ch_pl hp h0 h k).2
theorem ch_add (ws : List Int) (a : Int) (i : Nat) : ∀ j, ch ws a (i + j) = ch ws (ch ws a i) j
  | 0 => rfl
  | j + 1 => by show nx ws (ch ws a (i + j)) = nx ws _; rw [ch_add ws a i j]
theorem ch_neg (ws : List Int) {a : Int} (h : a < 0) : ∀ j, ch ws a j < 0
  | 0 => h
  | j + 1 => by show nx ws _ < 0; rw [nx_neg ws (ch_neg ws h j)]; omega
theorem ch_pos {ws : List Int} {a : Int} {i k : Nat} (h : i ≤ k) (hk : 0 ≤ ch ws a k) : 0 ≤ ch ws a i := by
  rcases Int.lt_or_le (ch ws a i) 0 with h1 | h1
  · have := ch_neg ws h1 (k - i)
    rw [← ch_add, show i + (k - i) = k by omega] at this
    omega
  · exact h1
theorem few : ∀ (n : Nat) (xs : List Int), xs.Nodup → (∀ x ∈ xs, 0 ≤ x ∧ x < n) → xs.length ≤ n
  | 0, xs, _, h => by
    rcases xs with _ | ⟨x, xs⟩
    · simp
    · have := h x (by simp); omega
  | n + 1, xs, hd, h => by
    have := few n (xs.erase (n : Int)) (hd.erase _) fun x hx => by
      have h1 := h x (List.mem_of_mem_erase hx)
      have h2 : x ≠ (n : Int) := by
        rintro rfl
        exact (hd.not_mem_erase) hx
      omega
    rw [List.length_erase] at this
    split at this <;> omega
theorem twice {n : Nat} {f : Nat → Int} (h : ∀ i, i ≤ n → 0 ≤ f i ∧ f i < n) : ∃ i j, i < j ∧ j ≤ n ∧ f i = f j := by
  refine Classical.byContradiction fun hno => ?_
  have hd : ((List.range (n + 1)).map f).Nodup := by
    rw [List.Nodup, List.pairwise_map]
    refine List.Pairwise.imp_of_mem ?_ (List.pairwise_lt_range (n := n + 1))
    intro a b _ hb hab e
    exact hno ⟨a, b, hab, by have := List.mem_range.1 hb; omega, e⟩
  have := few n _ hd fun x hx => by
    obtain ⟨i, hi, rfl⟩ := List.mem_map.1 hx
    exact h i (by have := List.mem_range.1 hi; omega)
  simp at this
  omega
/-- whom one comes to, one comes to in fewer steps than there are places -/
theorem short {ws : List Int} (hp : Plc ws) {a b : Int} (h0 : 0 ≤ a) (h : a < ws.length) (hb : 0 ≤ b) : ∀ k, ch ws a k = b → ∃ k, k < ws.length ∧ ch ws a k = b := by
  intro k
  induction k using Nat.strongRecOn with
  | ind k ih =>
    intro e
    rcases Nat.lt_or_ge k ws.length with hk | hk
    · exact ⟨k, hk, e⟩
    · obtain ⟨i, j, hij, hj, hf⟩ := twice (n := ws.length) (f := ch ws a) fun i hi => ⟨ch_pos (k := k) (by omega) (by omega), (ch_pl hp (by omega) h i).2⟩
      refine ih (i + (k - j)) (by omega) ?_
      rw [ch_add, hf, ← ch_add, show j + (k - j) = k by omega]
      exact e
/-- the answer of Circle -/
def Circ (ws : List Int) (who whom : Int) : Prop := (0 ≤ who ∧ who < ws.length) ∧ (0 ≤ whom ∧ whom < ws.length) ∧ Plc ws ∧ ∃ k, k < ws.length ∧ ch ws whom k = who
/-- ranks that may be -/
structure Val (bs ws : List Int) : Prop where
  len : bs.length = ws.length
  few : bs.length ≤ 256
  rank : ∀ i, i < bs.length → 0 ≤ bs.getD i 0 ∧ bs.getD i 0 ≤ 31
  plc : Plc ws
  oth : ∀ i, i < ws.length → ws.getD i 0 ≠ (i : Int)
/-- ranks on their way -/
structure Mid (bs ws l : List Int) : Prop where
  len : l.length = bs.length
  low : ∀ i, i < bs.length → bs.getD i 0 ≤ l.getD i 0
  src : ∀ i : Nat, i < bs.length → ∃ k m : Nat, k < bs.length ∧ ch ws (k : Int) m = (i : Int) ∧ l.getD i 0 = bs.getD k 0
/-- nobody need be raised -/
def Shut (ws l : List Int) : Prop := ∀ i : Nat, i < ws.length → 0 ≤ ws.getD i 0 → l.getD i 0 ≤ l.getD (ws.getD i 0).toNat 0
theorem Mid.start (bs ws : List Int) : Mid bs ws bs := ⟨rfl, fun i _ => Int.le_refl _, fun i hi => ⟨i, 0, hi, rfl, rfl⟩⟩
theorem Mid.raise {bs ws l : List Int} (h : Mid bs ws l) {i j : Nat} (hi : i < bs.length) (hw : ws.getD i 0 = (j : Int)) (hl : l.getD j 0 < l.getD i 0) : Mid bs ws (l.set j (l.getD i 0)) := by
  refine ⟨by rw [List.length_set]; exact h.len, fun k hk => ?_, fun k hk => ?_⟩
  · by_cases e : k = j
    · subst e
      have := h.low k hk
      rw [List.getD_eq_getElem?_getD (l := l.set _ _), List.getElem?_set_self (by rw [h.len]; exact hk)]
      simp only [Option.getD_some]
      omega
    · rw [List.getD_eq_getElem?_getD (l := l.set _ _), List.getElem?_set_ne (Ne.symm e), ← List.getD_eq_getElem?_getD]
      exact h.low k hk
  · by_cases e : k = j
    · subst e
      obtain ⟨q, m, hq, hm, e⟩ := h.src i hi
      refine ⟨q, m + 1, hq, ?_, ?_⟩
      · show nx ws (ch ws q m) = _
        rw [hm, nx_at, hw]
      · rw [List.getD_eq_getElem?_getD (l := l.set _ _), List.getElem?_set_self (by rw [h.len]; exact hk)]
        exact e
    · rw [List.getD_eq_getElem?_getD (l := l.set _ _), List.getElem?_set_ne (Ne.symm e), ← List.getD_eq_getElem?_getD]
      exact h.src k hk
theorem Mid.in {bs ws l : List Int} (h : Mid bs ws l) (hv : Val bs ws) {i : Nat} (hi : i < bs.length) : 0 ≤ l.getD i 0 ∧ l.getD i 0 ≤ 31 := by
  obtain ⟨k, m, hk, _, e⟩ := h.src i hi
  rw [e]
  exact hv.rank k hk
/-- how far ranks may be raised yet -/
def slack : List Int → Nat
  | [] => 0
  | x :: r => (31 - x).toNat + slack r
theorem slack_set : ∀ (l : List Int) (j : Nat) (v : Int), j < l.length → l.getD j 0 < v → v ≤ 31 → slack (l.set j v) < slack l
  | [], j, v, h, _, _ => by simp at h
  | x :: r, 0, v, h, h1, h2 => by
    simp only [List.getD_cons_zero] at h1
    simp only [List.set_cons_zero, slack]
    omega
  | x :: r, j + 1, v, h, h1, h2 => by
    simp only [List.getD_cons_succ] at h1
    have := slack_set r j v (by simpa using h) h1 h2
    simp only [List.set_cons_succ, slack]
    omega
theorem Shut.ch {ws l : List Int} (h : Shut ws l) (hp : Plc ws) {k : Nat} (hk : k < ws.length) : ∀ (m : Nat) (i : Nat), Go.Proofs.YtcjjaofmicegfaaDoor.ch ws (k : Int) m = (i : Int) → l.getD k 0 ≤ l.getD i 0
  | 0, i, e => by
    have : k = i := by
      have : (k : Int) = i := e
      omega
    rw [this]
    exact Int.le_refl _
  | m + 1, i, e => by
    have e' : nx ws (Go.Proofs.YtcjjaofmicegfaaDoor.ch ws (k : Int) m) = (i : Int) := e
    have h1 := ch_pl hp (a := (k : Int)) (by omega) (by omega) m
    rcases Int.lt_or_le (Go.Proofs.YtcjjaofmicegfaaDoor.ch ws (k : Int) m) 0 with h2 | h2
    · rw [nx_neg ws h2] at e'
      omega
    · obtain ⟨c, hc⟩ : ∃ c : Nat, Go.Proofs.YtcjjaofmicegfaaDoor.ch ws (k : Int) m = (c : Int) := ⟨(Go.Proofs.YtcjjaofmicegfaaDoor.ch ws (k : Int) m).toNat, by omega⟩
      rw [hc] at e' h1
      rw [nx_at] at e'
      have h3 := Shut.ch h hp hk m c hc
      have h4 := h c (by omega) (by omega)
      rw [e'] at h4
      have : ((i : Int)).toNat = i := rfl
      rw [this] at h4
      omega
/-- the ranks -/
structure Lst (bs ws l : List Int) : Prop where
  mid : Mid bs ws l
  shut : Shut ws l
theorem ext_getD {l l' : List Int} (h : l.length = l'.length) (he : ∀ i, i < l.length → l.getD i 0 = l'.getD i 0) : l = l' := by
  refine List.ext_getElem h fun i h1 h2 => ?_
  have := he i h1
  simpa [h1, h2] using this
theorem Lst.le {bs ws l l' : List Int} (hv : Val bs ws) (h : Lst bs ws l) (h' : Mid bs ws l') {i : Nat} (hi : i < bs.length) : l'.getD i 0 ≤ l.getD i 0 := by
  obtain ⟨k, m, hk, hm, e⟩ := h'.src i hi
  have h1 := h.mid.low k hk
  have h2 := h.shut.ch hv.plc (by have := hv.len; omega) m i hm
  omega
/-- there are no two -/
theorem Lst.same {bs ws l l' : List Int} (hv : Val bs ws) (h : Lst bs ws l) (h' : Lst bs ws l') : l = l' :=
  ext_getD (h.mid.len.trans h'.mid.len.symm) fun i hi => by
    have hi : i < bs.length := by have := h.mid.len; omega
    have h1 := h.le hv h'.mid hi
    have h2 := h'.le hv h.mid hi
    omega
/-- a rank is one's own, or of one that waits -/
theorem Lst.own {bs ws l : List Int} (hv : Val bs ws) (h : Lst bs ws l) {i : Nat} (hi : i < bs.length) : ∃ k : Nat, k < bs.length ∧ l.getD i 0 = bs.getD k 0 ∧ Circ ws (i : Int) (k : Int) := by
  have hl := hv.len
  obtain ⟨k, m, hk, hm, e⟩ := h.mid.src i hi
  obtain ⟨m', hm', e'⟩ := short hv.plc (by omega) (by omega) (by omega) m hm
  exact ⟨k, hk, e, ⟨by omega, by omega⟩, ⟨by omega, by omega⟩, hv.plc, m', hm', e'⟩
/-- one more who waits -/
theorem getD_set_ne {l : List Int} {i j : Nat} (h : j ≠ i) (v : Int) : (l.set i v).getD j 0 = l.getD j 0 := by
  rw [List.getD_eq_getElem?_getD, List.getElem?_set_ne (Ne.symm h), ← List.getD_eq_getElem?_getD]
theorem getD_set_eq {l : List Int} {i : Nat} (h : i < l.length) (v : Int) : (l.set i v).getD i 0 = v := by
  rw [List.getD_eq_getElem?_getD, List.getElem?_set_self h]; rfl
theorem Val.more {bs ws : List Int} (hv : Val bs ws) {i k : Nat} (hi : i < ws.length) (hk : k < ws.length) (hne : i ≠ k) : Val bs (ws.set i (k : Int)) := by
  refine ⟨by rw [List.length_set]; exact hv.len, hv.few, hv.rank, fun j hj => ?_, fun j hj => ?_⟩
  · rw [List.length_set] at hj ⊢
    by_cases e : j = i
    · subst e; rw [getD_set_eq hi]; omega
    · rw [getD_set_ne e]; exact hv.plc j hj
  · rw [List.length_set] at hj
    by_cases e : j = i
    · subst e; rw [getD_set_eq hi]; omega
    · rw [getD_set_ne e]; exact hv.oth j hj
theorem more_le {bs ws a b : List Int} (hv : Val bs ws) {i k : Nat} (hi : i < ws.length) (hk : k < ws.length) (hne : i ≠ k) (hw : ws.getD i 0 < 0) (ha : Lst bs ws a) (hb : Lst bs (ws.set i (k : Int)) b) {n : Nat} (hn : n < bs.length) : a.getD n 0 ≤ b.getD n 0 := by
  have hs : Shut ws b := fun j hj h0 => by
    have e : j ≠ i := by rintro rfl; omega
    have := hb.shut j (by rw [List.length_set]; exact hj)
    rw [getD_set_ne e] at this
    exact this h0
  obtain ⟨q, m, hq, hm, e⟩ := ha.mid.src n hn
  have h1 := hb.mid.low q hq
  have h2 := hs.ch hv.plc (by have := hv.len; omega) m n hm
  omega
theorem ch_same {ws : List Int} {i k q : Nat} : ∀ m, (∀ j, j < m → ch (ws.set i (k : Int)) q j ≠ (i : Int)) → ch (ws.set i (k : Int)) q m = ch ws q m
  | 0, _ => rfl
  | m + 1, h => by
    have e := ch_same m fun j hj => h j (by omega)
    have hne := h m (by omega)
    show nx _ _ = nx _ _
    rw [e] at hne ⊢
    unfold nx
    split
    · rfl
    · exact getD_set_ne (by omega) _
theorem more_who {bs ws a b : List Int} (hv : Val bs ws) {i k : Nat} (hi : i < ws.length) (hk : k < ws.length) (hne : i ≠ k) (ha : Lst bs ws a) (hb : Lst bs (ws.set i (k : Int)) b) {n : Nat} (hn : n < bs.length) (hlt : a.getD n 0 < b.getD n 0) : Circ (ws.set i (k : Int)) (n : Int) (i : Int) := by
  have hv' := hv.more hi hk hne
  have hl := hv.len
  obtain ⟨q, m, hq, hm, e⟩ := hb.mid.src n hn
  have hex : ∃ m', ch (ws.set i (k : Int)) i m' = (n : Int) := by
    refine Classical.byContradiction fun hno => ?_
    have hsame : ∀ j, j < m → ch (ws.set i (k : Int)) q j ≠ (i : Int) := fun j hj e => hno ⟨m - j, by rw [← e, ← ch_add, show j + (m - j) = m by omega]; exact hm⟩
    rw [ch_same m hsame] at hm
    have h1 := ha.mid.low q hq
    have h2 := ha.shut.ch hv.plc (by omega) m n hm
    omega
  obtain ⟨m', hm'⟩ := hex
  obtain ⟨m2, h2, e2⟩ := short hv'.plc (a := (i : Int)) (by omega) (by rw [List.length_set]; omega) (by omega) m' hm'
  exact ⟨⟨by omega, by rw [List.length_set]; omega⟩, ⟨by omega, by rw [List.length_set]; omega⟩, hv'.plc, m2, h2, e2⟩
end Go.Proofs.YtcjjaofmicegfaaDoor
