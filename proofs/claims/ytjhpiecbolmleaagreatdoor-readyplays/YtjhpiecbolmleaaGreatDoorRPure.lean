/- Those that stand by ranks: who stands where, and what is put, pushed, removed and turned, as plain lists. No law of the program itself. -/
import Derived.Test.YtjhpiecbolmleaaGreatDoorTop
import Derived.Test.YtjhpiecbolmleaaGreatDoorLPure
namespace Go.Proofs.YtjhpiecbolmleaaGreatDoor
open Go Go.RowKit
set_option maxRecDepth 100000
set_option linter.unusedVariables false
/-- each one stands in one rank, once -/
structure Good (X : Nat → List Int) : Prop where
  nd : ∀ r, r < 32 → (X r).Nodup
  lo : ∀ r, r < 32 → ∀ x ∈ X r, 0 ≤ x ∧ x ≤ 255
  one : ∀ r s x, r < 32 → s < 32 → x ∈ X r → x ∈ X s → r = s
/-- the rank of somebody -/
def rk (X : Nat → List Int) (z : Int) : Option Nat := (List.range 32).find? fun r => decide (z ∈ X r)
def rkv (X : Nat → List Int) (z : Int) : Int := ((rk X z).getD 0 : Nat)
def rkb (X : Nat → List Int) (z : Int) : Bool := (rk X z).isSome
theorem rk_at {X : Nat → List Int} {z : Int} {r : Nat} (h : rk X z = some r) : r < 32 ∧ z ∈ X r := by
  have h1 := List.find?_some h
  have h2 := List.mem_of_find?_eq_some h
  exact ⟨by simpa using h2, by simpa using h1⟩
theorem rk_none {X : Nat → List Int} {z : Int} : rk X z = none ↔ ∀ r, r < 32 → z ∉ X r := by
  unfold rk
  rw [List.find?_eq_none]
  constructor
  · intro h r hr hz
    exact h r (by simpa using hr) (by simpa using hz)
  · intro h r hr
    have := h r (by simpa using hr)
    simpa using this
theorem rk_some {X : Nat → List Int} {z : Int} {r : Nat} (hX : Good X) (hr : r < 32) (hz : z ∈ X r) : rk X z = some r := by
  cases h : rk X z with
  | none => exact absurd hz (rk_none.1 h r hr)
  | some s =>
    obtain ⟨h1, h2⟩ := rk_at h
    rw [hX.one r s z hr h1 hz h2]
/-- a rank's list in another's place -/
def up (X : Nat → List Int) (r : Nat) (l : List Int) : Nat → List Int := fun s => if s = r then l else X s
theorem up_at (X : Nat → List Int) (r : Nat) (l : List Int) : up X r l r = l := by simp [up]
theorem up_ne (X : Nat → List Int) {r s : Nat} (l : List Int) (h : s ≠ r) : up X r l s = X s := by simp [up, h]
theorem up_self (X : Nat → List Int) (r : Nat) : up X r (X r) = X := by
  funext s; unfold up; split
  · subst_vars; rfl
  · rfl
theorem up_up (X : Nat → List Int) (r : Nat) (a b : List Int) : up (up X r a) r b = up X r b := by
  funext s; unfold up; split <;> rfl
/-- whether somebody may be put -/
def adE (X : Nat → List Int) (z r : Int) : Int := if z < 0 ∨ 255 < z ∨ r < 0 ∨ 31 < r then 1 else if rkb X z then 7 else 0
def putX (X : Nat → List Int) (z r : Int) : Nat → List Int := if adE X z r = 0 then up X r.toNat (X r.toNat ++ [z]) else X
def pushX (X : Nat → List Int) (z r : Int) : Nat → List Int := if adE X z r = 0 then up X r.toNat (z :: X r.toNat) else X
def rmE (X : Nat → List Int) (z : Int) : Int := if rkb X z then 0 else 1
def rmX (X : Nat → List Int) (z : Int) : Nat → List Int := match rk X z with | some r => up X r ((X r).erase z) | none => X
def tuE (X : Nat → List Int) (r : Int) : Int := if r < 0 ∨ 31 < r then 1 else if X r.toNat = [] then 11 else 0
def tuX (X : Nat → List Int) (r : Int) : Nat → List Int := if tuE X r = 0 then up X r.toNat (turnL (X r.toNat)) else X
/-- the greatest rank that has somebody -/
def tp (X : Nat → List Int) : Option Nat := (List.range 32).reverse.find? fun r => decide (X r ≠ [])
def fsv (X : Nat → List Int) : Int := match tp X with | some r => (X r).headD 0 | none => 0
def fsb (X : Nat → List Int) : Bool := (tp X).isSome
def lsX (X : Nat → List Int) (r : Int) : List Int := if 0 ≤ r ∧ r ≤ 31 then X r.toNat else []
/-- one of them at a time keeps them apart -/
theorem Good.nil : Good fun _ => [] := ⟨fun _ _ => List.nodup_nil, fun _ _ _ h => by simp at h, fun _ _ _ _ _ h => by simp at h⟩
theorem Good.up {X : Nat → List Int} (h : Good X) {r : Nat} (hr : r < 32) {l : List Int} (hn : l.Nodup) (hm : ∀ x ∈ l, 0 ≤ x ∧ x ≤ 255 ∧ ∀ s, s < 32 → s ≠ r → x ∉ X s) : Good (up X r l) := by
  refine ⟨fun s hs => ?_, fun s hs x hx => ?_, fun s t x hs ht hx hy => ?_⟩
  · unfold Go.Proofs.YtjhpiecbolmleaaGreatDoor.up; split
    · exact hn
    · exact h.nd s hs
  · unfold Go.Proofs.YtjhpiecbolmleaaGreatDoor.up at hx; split at hx
    · exact ⟨(hm x hx).1, (hm x hx).2.1⟩
    · exact h.lo s hs x hx
  · unfold Go.Proofs.YtjhpiecbolmleaaGreatDoor.up at hx hy
    split at hx <;> split at hy
    · omega
    · exact absurd hy ((hm x hx).2.2 t ht (by assumption))
    · exact absurd hx ((hm x hy).2.2 s hs (by assumption))
    · exact h.one s t x hs ht hx hy
theorem Good.sub {X : Nat → List Int} (h : Good X) {r : Nat} (hr : r < 32) {l : List Int} (hn : l.Nodup) (hm : ∀ x ∈ l, x ∈ X r) : Good (Go.Proofs.YtjhpiecbolmleaaGreatDoor.up X r l) :=
  h.up hr hn fun x hx => ⟨(h.lo r hr x (hm x hx)).1, (h.lo r hr x (hm x hx)).2, fun s hs hne hxs => hne (h.one s r x hs hr hxs (hm x hx))⟩
theorem adE_zero {X : Nat → List Int} {z r : Int} (h : adE X z r = 0) : 0 ≤ z ∧ z ≤ 255 ∧ 0 ≤ r ∧ r ≤ 31 ∧ ∀ s, s < 32 → z ∉ X s := by
  unfold adE at h
  split at h
  · omega
  · split at h
    · omega
    · rename_i h1 h2
      refine ⟨by omega, by omega, by omega, by omega, ?_⟩
      unfold rkb at h2
      exact rk_none.1 (by simpa using h2)
theorem Good.put {X : Nat → List Int} (h : Good X) (z r : Int) : Good (putX X z r) := by
  unfold putX
  split
  · rename_i e
    obtain ⟨h1, h2, h3, h4, h5⟩ := adE_zero e
    have hr : r.toNat < 32 := by omega
    refine h.up hr ?_ fun x hx => ?_
    · rw [List.nodup_append]
      refine ⟨h.nd _ hr, by simp, fun a ha b hb => ?_⟩
      have : b = z := by simpa using hb
      subst this
      rintro rfl
      exact h5 _ hr ha
    · rcases List.mem_append.1 hx with hx | hx
      · exact ⟨(h.lo _ hr x hx).1, (h.lo _ hr x hx).2, fun s hs hne hxs => hne (h.one s _ x hs hr hxs hx)⟩
      · have : x = z := by simpa using hx
        subst this
        exact ⟨h1, h2, fun s hs _ => h5 s hs⟩
  · exact h
theorem Good.push {X : Nat → List Int} (h : Good X) (z r : Int) : Good (pushX X z r) := by
  unfold pushX
  split
  · rename_i e
    obtain ⟨h1, h2, h3, h4, h5⟩ := adE_zero e
    have hr : r.toNat < 32 := by omega
    refine h.up hr ?_ fun x hx => ?_
    · exact List.nodup_cons.2 ⟨h5 _ hr, h.nd _ hr⟩
    · rcases List.mem_cons.1 hx with rfl | hx
      · exact ⟨h1, h2, fun s hs _ => h5 s hs⟩
      · exact ⟨(h.lo _ hr x hx).1, (h.lo _ hr x hx).2, fun s hs hne hxs => hne (h.one s _ x hs hr hxs hx)⟩
  · exact h
theorem Good.rem {X : Nat → List Int} (h : Good X) (z : Int) : Good (rmX X z) := by
  unfold rmX
  split
  · rename_i r e
    have hr := (rk_at e).1
    exact h.sub hr ((h.nd r hr).erase z) fun x hx => List.mem_of_mem_erase hx
  · exact h
theorem turnL_mem {xs : List Int} {x : Int} (h : x ∈ turnL xs) : x ∈ xs := by
  unfold turnL at h
  rcases List.mem_append.1 h with h | h
  · exact List.mem_of_mem_tail h
  · exact List.mem_of_mem_take h
theorem turnL_nodup {xs : List Int} (h : xs.Nodup) : (turnL xs).Nodup := by
  rcases xs with _ | ⟨x, xs⟩
  · exact h
  · have := List.nodup_cons.1 h
    show (xs ++ [x]).Nodup
    rw [List.nodup_append]
    refine ⟨this.2, by simp, fun a ha b hb => ?_⟩
    have e : b = x := by simpa using hb
    subst e
    rintro rfl
    exact this.1 ha
theorem Good.turn {X : Nat → List Int} (h : Good X) (r : Int) : Good (tuX X r) := by
  unfold tuX
  split
  · rename_i e
    unfold tuE at e
    have hr : r.toNat < 32 := by
      split at e
      · omega
      · omega
    exact h.sub hr (turnL_nodup (h.nd _ hr)) fun x hx => turnL_mem hx
  · exact h
/-- there is room for everyone -/
theorem few : ∀ (n : Nat) (xs : List Int), xs.Nodup → (∀ x ∈ xs, 0 ≤ x ∧ x < n) → xs.length ≤ n
  | 0, xs, _, h => by
    rcases xs with _ | ⟨x, xs⟩
    · simp
    · have := h x (by simp); omega
  | n + 1, xs, hd, h => by
    have := few n (xs.erase (n : Int)) (hd.erase _) fun x hx => by
      have h1 := h x (List.mem_of_mem_erase hx)
      have h2 : x ≠ (n : Int) := by
        rintro rfl
        exact (hd.not_mem_erase) hx
      omega
    rw [List.length_erase] at this
    split at this <;> omega
theorem Good.room {X : Nat → List Int} (h : Good X) {r : Nat} (hr : r < 32) {z : Int} (h0 : 0 ≤ z) (h1 : z ≤ 255) (hz : z ∉ X r) : (X r).length < 256 := by
  have := few 256 (z :: X r) (List.nodup_cons.2 ⟨hz, h.nd r hr⟩) fun x hx => by
    rcases List.mem_cons.1 hx with rfl | hx
    · omega
    · have := h.lo r hr x hx; omega
  simp only [List.length_cons] at this
  omega
theorem Good.addE {X : Nat → List Int} (h : Good X) {z r : Int} (e : adE X z r = 0) : addE (X r.toNat) 256 z = 0 := by
  obtain ⟨h1, h2, h3, h4, h5⟩ := adE_zero e
  have hr : r.toNat < 32 := by omega
  exact addE_ok (by omega) (h5 _ hr) (by have := h.room hr h1 h2 (h5 _ hr); omega)
/-- the ladder: which ranks have somebody -/
structure Lad (X : Nat → List Int) (l : Nat) : Prop where
  lt : l < 4294967296
  bit : ∀ k, k < 32 → l.testBit k = decide (X k ≠ [])
theorem Lad.nil : Lad (fun _ => []) 0 := ⟨by decide, fun k _ => by simp⟩
theorem Lad.set {X : Nat → List Int} {l : Nat} (h : Lad X l) {r : Nat} (hr : r < 32) {xs : List Int} (hx : xs ≠ []) : Lad (up X r xs) (Ld.setL l (r : Int)) := by
  refine ⟨Ld.setL_lt h.lt _, fun k hk => ?_⟩
  rw [Ld.setL_bit, h.bit k hk]
  unfold up
  by_cases e : k = r
  · subst e; simp [hx, hk]
  · have : ¬ ((k : Int) = (r : Int)) := by omega
    simp [e, this]
theorem Lad.clear {X : Nat → List Int} {l : Nat} (h : Lad X l) {r : Nat} (hr : r < 32) : Lad (up X r []) (Ld.clrL l (r : Int)) := by
  refine ⟨Ld.clrL_lt h.lt _, fun k hk => ?_⟩
  rw [Ld.clrL_bit h.lt, h.bit k hk]
  unfold up
  by_cases e : k = r
  · subst e; simp
  · have : ¬ ((k : Int) = (r : Int)) := by omega
    simp [e, this]
theorem Lad.same {X : Nat → List Int} {l : Nat} (h : Lad X l) {r : Nat} {xs : List Int} (hx : xs = [] ↔ X r = []) : Lad (up X r xs) l := by
  refine ⟨h.lt, fun k hk => ?_⟩
  rw [h.bit k hk]
  unfold up
  by_cases e : k = r
  · subst e; simp [hx]
  · simp [e]
theorem Lad.told {X : Nat → List Int} {l : Nat} (h : Lad X l) (r : Int) : r ∈ Ld.told l ↔ 0 ≤ r ∧ r ≤ 31 ∧ X r.toNat ≠ [] := by
  rw [Ld.told_mem h.lt]
  constructor
  · rintro ⟨h0, h1⟩
    have hk := Ld.bit_low h.lt h1
    rw [h.bit _ hk] at h1
    exact ⟨h0, by omega, by simpa using h1⟩
  · rintro ⟨h0, h1, h2⟩
    refine ⟨h0, ?_⟩
    rw [h.bit _ (by omega)]
    simpa using h2
theorem Lad.zero {X : Nat → List Int} {l : Nat} (h : Lad X l) (h0 : l = 0) (r : Nat) (hr : r < 32) : X r = [] := by
  have := h.bit r hr
  rw [h0] at this
  simpa using this
theorem tp_none {X : Nat → List Int} : tp X = none ↔ ∀ r, r < 32 → X r = [] := by
  unfold tp
  rw [List.find?_eq_none]
  constructor
  · intro h r hr
    have := h r (by simpa using hr)
    simpa using this
  · intro h r hr
    have := h r (by simpa using hr)
    simpa using this
theorem tp_some {X : Nat → List Int} {r : Nat} (hr : r < 32) (h : X r ≠ []) (hh : ∀ s, r < s → s < 32 → X s = []) : tp X = some r := by
  unfold tp
  rw [List.find?_eq_some_iff_append]
  refine ⟨by simpa using h, (List.range' (r + 1) (31 - r)).reverse, (List.range r).reverse, ?_, fun a ha => ?_⟩
  · have e : List.range 32 = List.range r ++ r :: List.range' (r + 1) (31 - r) := by
      rw [List.range_eq_range', List.range_eq_range']
      have h1 : List.range' 0 32 = List.range' 0 r ++ List.range' r (32 - r) := by
        have := List.range'_append_1 (s := 0) (m := r) (n := 32 - r)
        rw [Nat.zero_add, show r + (32 - r) = 32 by omega] at this
        exact this.symm
      rw [h1, show 32 - r = (31 - r) + 1 by omega, List.range'_succ]
    rw [e]
    simp
  · have := List.mem_range'_1.1 (List.mem_reverse.1 ha)
    simpa using hh a (by omega) (by omega)
theorem Lad.top {X : Nat → List Int} {l : Nat} (h : Lad X l) (h0 : l ≠ 0) : tp X = some l.log2 ∧ X l.log2 ≠ [] ∧ l.log2 < 32 := by
  have hl := Ld.log_lt h.lt
  have hb := Ld.log_bit h0
  rw [h.bit _ hl] at hb
  have hx : X l.log2 ≠ [] := by simpa using hb
  refine ⟨tp_some hl hx fun s h1 h2 => ?_, hx, hl⟩
  have := Ld.log_high (l := l) h1
  rw [h.bit s h2] at this
  simpa using this
end Go.Proofs.YtjhpiecbolmleaaGreatDoor
