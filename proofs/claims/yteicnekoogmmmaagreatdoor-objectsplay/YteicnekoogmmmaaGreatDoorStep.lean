/- Any thing, plainly: what it answers to what is asked, and what is left of it. -/
import Derived.Test.YteicnekoogmmmaaGreatDoorOArgs
namespace Go.Proofs.YteicnekoogmmmaaGreatDoor
open Go Go.RowKit
set_option maxRecDepth 100000
set_option linter.unusedVariables false
/-- a thing: of what it is made; how many, or which flags; whose; messages; owners -/
structure Sx where
  k : Int
  a : Int
  b : Int
  n : Nat
  o : Int
  xs : List Int
  zs : List Int
/-- a thing of the program's, by its kind -/
inductive KT (w : World) (p f g : Nat) : Sx → Prop
  | sem {a b : Int} {n : Nat} : Sm w p f a b (n : Nat) → KT w p f g ⟨1, a, b, n, 0, [], []⟩
  | mtx {o : Int} : Mx w p f o → KT w p f g ⟨2, 0, 0, 0, o, [], []⟩
  | row {m : Nat} {xs : List Int} : Rq w p f g m xs → KT w p f g ⟨3, (m : Nat), 0, 0, 0, xs, []⟩
  | flg {a : Int} {n : Nat} : Fg w p f a n → KT w p f g ⟨4, a, 0, n, 0, [], []⟩
  | pool {m : Nat} {b : Int} {zs : List Int} : Po w p f g m b zs → KT w p f g ⟨5, (m : Nat), b, 0, 0, [], zs⟩
  | ala {a b : Int} : Al w p f a b → KT w p f g ⟨6, a, b, 0, 0, [], []⟩
theorem Al.buts {w w' : World} {p f : Nat} {a b : Int} {l : List Nat} (h : Al w p f a b) (hb : Buts l w w') (h1 : p ∉ l) : Al w' p f a b := ⟨h.hh.buts hb h1⟩
theorem KT.buts {w w' : World} {p f g : Nat} {T : Sx} {l : List Nat} (h : KT w p f g T) (hb : Buts l w w') (h1 : p ∉ l) (h2 : f ∉ l) (h3 : g ∉ l) : KT w' p f g T := by
  cases h with
  | sem h => exact .sem (h.buts hb h1 h2)
  | mtx h => exact .mtx (h.buts hb h1 h2)
  | row h => exact .row (h.buts hb h1 h2 h3)
  | flg h => exact .flg (h.buts hb h1 h2)
  | pool h => exact .pool (h.buts hb h1 h2 h3)
  | ala h => exact .ala (h.buts hb h1)
theorem KT.below {w w' : World} {p f g : Nat} {T : Sx} (h : KT w p f g T) (hb : Below w.heap.size w w') : KT w' p f g T := h.buts (Buts.of (l := []) hb) (by simp) (by simp) (by simp)
/-- the types of a thing's blocks; none is a row of words -/
def tys : List TypeId := [64, 76, 79, 85, 88, 94, 157, 159]
/-- what one asks, that fits -/
def tX (T : Sx) (who wh : Int) (av am : Nat) : Int × Int × Sx :=
  if wh = 3 then (0, if T.n = 0 then 7 else 0, { T with n := T.n - 1 })
  else if wh = 4 then (0, if (T.n : Int) = T.b then 10 else 0, { T with n := if (T.n : Int) = T.b then T.n else T.n + 1 })
  else if wh = 5 then (0, if T.o = who then 13 else if T.o ≠ 0 then 7 else 0, { T with o := if T.o = who then T.o else if T.o ≠ 0 then T.o else who })
  else if wh = 6 then (0, if T.o = who then 0 else 13, { T with o := if T.o = who then 0 else T.o })
  else if wh = 7 then (0, ny (addE T.xs T.a.toNat), { T with xs := putL T.xs T.a.toNat av })
  else if wh = 8 then (0, ny (addE T.xs T.a.toNat), { T with xs := pushL T.xs T.a.toNat av })
  else if wh = 9 then (T.xs.headD 0, ny (takeE T.xs), { T with xs := T.xs.tail })
  else if wh = 10 then (T.xs.headD 0, takeE T.xs, T)
  else if wh = 11 then (((awV T.n av (decide (am % 2 = 1)) : Nat) : Int), awE T.n av (decide (am % 2 = 1)), { T with n := awF T.n av (decide (am % 2 = 1)) (decide (2 ≤ am)) })
  else if wh = 12 then (((T.n ||| av : Nat) : Int), 0, { T with n := T.n ||| av })
  else if wh = 13 then (((Mk.bt T.n av : Nat) : Int), 0, { T with n := Mk.bt T.n av })
  else if wh = 14 then (alV T.zs, alE T.zs, { T with zs := alL T.zs who })
  else (0, frE T.zs who av, { T with zs := frL T.zs who av })
def Bad (T : Sx) (who wh : Int) (am : Nat) : Prop := who = 0 ∨ T.k = 6 ∨ Tk.fitB wh T.k = false ∨ (wh = 11 ∧ 3 < am)
open Classical in
noncomputable def tA (T : Sx) (who wh : Int) (av am : Nat) : Int × Int × Sx := if Bad T who wh am then (0, 1, T) else tX T who wh av am
theorem tA_bad {T : Sx} {who wh : Int} {av am : Nat} (h : Bad T who wh am) : tA T who wh av am = (0, 1, T) := if_pos h
theorem tA_ok {T : Sx} {who wh : Int} {av am : Nat} (h : ¬ Bad T who wh am) : tA T who wh av am = tX T who wh av am := if_neg h
/-- who leaves -/
def lB (T : Sx) (who : Int) : Bool := decide (who ≠ 0 ∧ (T.o = who ∨ 0 < Pl.cnt who T.zs))
def lT (T : Sx) (who : Int) : Sx := if who = 0 then T else { T with o := if T.o = who then 0 else T.o, zs := Pl.clr who T.zs }
/-- how many are seen -/
def cX (T : Sx) : Int := (if T.k = 1 ∨ T.k = 4 then (T.n : Int) else 0) + (Pl.cnt 0 T.zs : Nat)
theorem KT.hd {w : World} {p f g : Nat} {T : Sx} (h : KT w p f g T) : ∃ t, Blk w p (hdc T.k T.a T.b t f) 64 := by
  cases h with
  | sem h => exact ⟨_, h.hh⟩
  | mtx h => exact ⟨_, h.hh⟩
  | row h => exact ⟨_, h.hh⟩
  | flg h => exact ⟨_, h.hh⟩
  | pool h => exact ⟨_, h.hh⟩
  | ala h => exact ⟨_, h.hh⟩
theorem KT.kind {w : World} {p f g : Nat} {T : Sx} (h : KT w p f g T) : 1 ≤ T.k ∧ T.k ≤ 6 := by cases h <;> simp
/-- what an answer leaves -/
def Ans (w : World) (p f g : Nat) (R : Int × Int × Sx) (e : Ending) (w' : World) : Prop := e = .returned (.tuple #[.int .u32 R.1, .int .i64 R.2.1]) ∧ KT w' p f g R.2.2 ∧ Buts [f, g] w w'
theorem fit_of {wh k : Int} (h : Tk.fitB wh k = true) : (k = 1 ∧ (wh = 3 ∨ wh = 4)) ∨ (k = 2 ∧ (wh = 5 ∨ wh = 6)) ∨ (k = 3 ∧ (wh = 7 ∨ wh = 8 ∨ wh = 9 ∨ wh = 10)) ∨ (k = 4 ∧ (wh = 11 ∨ wh = 12 ∨ wh = 13)) ∨ (k = 5 ∧ (wh = 14 ∨ wh = 15)) ∨ (k = 6 ∧ (wh = 16 ∨ wh = 17)) := by
  rw [Tk.fitB_iff] at h
  unfold Tk.kd at h
  split at h <;> first | omega | (split at h <;> first | omega | (split at h <;> first | omega | (split at h <;> first | omega | (split at h <;> first | omega | (split at h <;> omega)))))
theorem buts1 {w w' : World} {f g : Nat} (h : Buts [f] w w') : Buts [f, g] w w' := h.mono (by simp)
theorem buts2 {w w' : World} {f g : Nat} (h : Buts [g] w w') : Buts [f, g] w w' := h.mono (by simp)
theorem notBad {T : Sx} {who wh : Int} {am : Nat} (hf : Tk.fitB wh T.k = true) (hw : 0 < who) (hk : T.k ≠ 6) (ha : ¬ (wh = 11 ∧ 3 < am)) : ¬ Bad T who wh am := by
  unfold Bad
  rw [hf]
  simp only [Bool.true_eq_false, false_or]
  omega
theorem try_x {w : World} {p f g : Nat} {T : Sx} (h : KT w p f g T) (who wh ah : Int) (av am : Nat) (aw : Int) (hw : 0 ≤ who ∧ who ≤ 4294967295) (hv : av < 4294967296) :
    Calls Tryz.prog 7 #[.pointer (some ⟨p, 0, none⟩), .int .u32 who, .agg #[.int .u8 wh, .int .u32 ah, .int .u32 (av : Nat), .int .u32 (am : Nat), .int .i64 aw]] w (Ans w p f g (tA T who wh av am)) := by
  obtain ⟨t, hh⟩ := h.hd
  have hk := h.kind
  by_cases hno : who = 0 ∨ Tk.fitB wh T.k = false
  · rw [tA_bad (by unfold Bad; rcases hno with h | h <;> simp [h])]
    exact (try_no hh (by omega) who wh ah av am aw hno).mono fun e w' ⟨he, hb⟩ => ⟨he, h.below hb, Buts.of hb⟩
  have hw0 : 0 < who ∧ who ≤ 4294967295 := by omega
  have hf : Tk.fitB wh T.k = true := by
    cases e : Tk.fitB wh T.k
    · exact absurd (Or.inr e) hno
    · rfl
  have hq := fit_of hf
  cases h with
  | @sem a b n h =>
    have hlo : Tk.fitB wh 1 = true := hf
    simp only at hq
    rw [tA_ok (notBad hf hw0.1 (by simp) (by omega))]
    obtain rfl | rfl : wh = 3 ∨ wh = 4 := by omega
    · refine (sm_take h who ah av am aw hw0).mono fun e w' ⟨he, h1, h2⟩ => ⟨?_, ?_, buts1 h2⟩
      · simpa [tX] using he
      · have : KT w' p f g ⟨1, _, _, n - 1, 0, [], []⟩ := .sem (by
          have e2 : ((n - 1 : Nat) : Int) = if (n : Int) = 0 then (n : Int) else (n : Int) - 1 := by split <;> omega
          rw [e2]; exact h1)
        simpa [tX] using this
    · refine (sm_give h who ah av am aw hw0).mono fun e w' ⟨he, h1, h2⟩ => ⟨?_, ?_, buts1 h2⟩
      · simpa [tX] using he
      · have : KT w' p f g ⟨1, _, b, if (n : Int) = b then n else n + 1, 0, [], []⟩ := .sem (by
          have e2 : ((if (n : Int) = b then n else n + 1 : Nat) : Int) = if (n : Int) = b then (n : Int) else (n : Int) + 1 := by split <;> simp
          rw [e2]; exact h1)
        simpa [tX] using this
  | mtx h =>
    have hlo : Tk.fitB wh 2 = true := hf
    simp only at hq
    rw [tA_ok (notBad hf hw0.1 (by simp) (by omega))]
    obtain rfl | rfl : wh = 5 ∨ wh = 6 := by omega
    · refine (mx_lock h who ah av am aw hw0).mono fun e w' ⟨he, h1, h2⟩ => ⟨by simpa [tX] using he, ?_, buts1 h2⟩
      have := KT.mtx (g := g) h1
      simpa [tX] using this
    · refine (mx_unlock h who ah av am aw hw0).mono fun e w' ⟨he, h1, h2⟩ => ⟨by simpa [tX] using he, ?_, buts1 h2⟩
      have := KT.mtx (g := g) h1
      simpa [tX] using this
  | row h =>
    have hlo : Tk.fitB wh 3 = true := hf
    simp only at hq
    rw [tA_ok (notBad hf hw0.1 (by simp) (by omega))]
    obtain rfl | rfl | rfl | rfl : wh = 7 ∨ wh = 8 ∨ wh = 9 ∨ wh = 10 := by omega
    · exact (rq_put h who ah av am aw hw0).mono fun e w' ⟨he, h1, h2⟩ => ⟨by simpa [tX] using he, by simpa [tX] using KT.row h1, buts2 h2⟩
    · exact (rq_push h who ah av am aw hw0).mono fun e w' ⟨he, h1, h2⟩ => ⟨by simpa [tX] using he, by simpa [tX] using KT.row h1, buts2 h2⟩
    · exact (rq_get h who ah av am aw hw0).mono fun e w' ⟨he, h1, h2⟩ => ⟨by simpa [tX] using he, by simpa [tX] using KT.row h1, buts2 h2⟩
    · exact (rq_peek h who ah av am aw hw0).mono fun e w' ⟨he, h2⟩ => ⟨by simpa [tX] using he, by simpa [tX] using KT.row (h.below h2), Buts.of h2⟩
  | flg h =>
    have hlo : Tk.fitB wh 4 = true := hf
    simp only at hq
    by_cases hfar : wh = 11 ∧ 3 < am
    · rw [tA_bad (Or.inr (Or.inr (Or.inr hfar)))]
      obtain ⟨rfl, ham⟩ := hfar
      exact (try_flg h.hh (by decide) who 11 ah av am aw (by omega) (by decide) (R := fun w' => Below w.heap.size w w') fun wx hb => (flg_awfar av am (by omega) who ah aw).mono fun e w' ⟨he, h2⟩ => ⟨he, hb.trans (h2.mono hb.size)⟩).mono fun e w' ⟨he, hb⟩ => ⟨he, .flg (h.below hb), Buts.of hb⟩
    · rw [tA_ok (notBad hf hw0.1 (by simp) hfar)]
      obtain rfl | rfl | rfl : wh = 11 ∨ wh = 12 ∨ wh = 13 := by omega
      · exact (try_flg h.hh (by decide) who 11 ah av am aw (by omega) (by decide) (R := fun w' => Fg w' p f _ (awF _ av (decide (am % 2 = 1)) (decide (2 ≤ am))) ∧ Buts [f] w w') fun wx hb => (flg_await (h.hp.below hb) h.hi hv am (by omega) who ah aw).mono fun e w' ⟨he, h2, h3⟩ =>
          ⟨he, ⟨(h.hh.below hb).buts h3 (by simpa using h.ne), h2, awF_lt h.hi _ _⟩, (Buts.of hb).trans h3⟩).mono fun e w' ⟨he, h1, h2⟩ => ⟨by simpa [tX] using he, by simpa [tX] using KT.flg h1, buts1 h2⟩
      · exact (try_flg h.hh (by decide) who 12 ah av am aw (by omega) (by decide) (R := fun w' => Fg w' p f _ (_ ||| av) ∧ Buts [f] w w') fun wx hb => (flg_raise (h.hp.below hb) h.hi hv who ah am aw).mono fun e w' ⟨he, h2, h3⟩ =>
          ⟨he, ⟨(h.hh.below hb).buts h3 (by simpa using h.ne), h2, Nat.or_lt_two_pow (n := 32) h.hi hv⟩, (Buts.of hb).trans h3⟩).mono fun e w' ⟨he, h1, h2⟩ => ⟨by simpa [tX] using he, by simpa [tX] using KT.flg h1, buts1 h2⟩
      · exact (try_flg h.hh (by decide) who 13 ah av am aw (by omega) (by decide) (R := fun w' => Fg w' p f _ (Mk.bt _ av) ∧ Buts [f] w w') fun wx hb => (flg_lower (h.hp.below hb) h.hi hv who ah am aw).mono fun e w' ⟨he, h2, h3⟩ =>
          ⟨he, ⟨(h.hh.below hb).buts h3 (by simpa using h.ne), h2, Mk.bt_lt h.hi⟩, (Buts.of hb).trans h3⟩).mono fun e w' ⟨he, h1, h2⟩ => ⟨by simpa [tX] using he, by simpa [tX] using KT.flg h1, buts1 h2⟩
  | pool h =>
    have hlo : Tk.fitB wh 5 = true := hf
    simp only at hq
    rw [tA_ok (notBad hf hw0.1 (by simp) (by omega))]
    obtain rfl | rfl : wh = 14 ∨ wh = 15 := by omega
    · exact (po_alloc h who ah av am aw hw0).mono fun e w' ⟨he, h1, h2⟩ => ⟨by simpa [tX] using he, by simpa [tX] using KT.pool h1, buts2 h2⟩
    · exact (po_free h av hv who ah am aw hw0).mono fun e w' ⟨he, h1, h2⟩ => ⟨by simpa [tX] using he, by simpa [tX] using KT.pool h1, buts2 h2⟩
  | ala h =>
    have hlo : Tk.fitB wh 6 = true := hf
    rw [tA_bad (Or.inr (Or.inl rfl))]
    exact (try_ala h.hh (by decide) who wh ah av am aw (by omega) hlo (R := fun w' => Below w.heap.size w w') fun wx hb => (ala_any who wh ah av am aw).mono fun e w' ⟨he, h2⟩ => ⟨he, hb.trans (h2.mono hb.size)⟩).mono fun e w' ⟨he, hb⟩ => ⟨he, .ala ⟨h.hh.below hb⟩, Buts.of hb⟩
theorem clr_nil (who : Int) : Pl.clr who [] = [] := rfl
theorem leave_x {w : World} {p f g : Nat} {T : Sx} (h : KT w p f g T) (who : Int) (hw : 0 ≤ who) :
    Calls Tryz.prog 8 #[.pointer (some ⟨p, 0, none⟩), .int .u32 who] w fun e w' => e = .returned (.bool (lB T who)) ∧ KT w' p f g (lT T who) ∧ Buts [f, g] w w' := by
  obtain ⟨t, hh⟩ := h.hd
  by_cases h0 : who = 0
  · subst h0
    refine (leave_zero hh).mono fun e w' ⟨he, hb⟩ => ?_
    subst hb
    exact ⟨by simpa [lB] using he, by simpa [lT] using h, Buts.refl _ _⟩
  have hp : 0 < who := by omega
  have e0 : (0 : Int) ≠ who := fun e => h0 e.symm
  cases h with
  | sem h => exact (leave_of h.hh who h0 (R := fun w' => w = w') (back_other who (Or.inl rfl))).mono fun e w' ⟨he, hb⟩ => by subst hb; exact ⟨by simpa [lB, e0, Pl.cnt] using he, by simpa [lT, h0, e0, Pl.clr] using KT.sem h, Buts.refl _ _⟩
  | mtx h =>
    refine (mx_leave h who hp).mono fun e w' ⟨he, h1, h2⟩ => ⟨by simpa [lB, h0, Pl.cnt] using he, ?_, buts1 h2⟩
    have := KT.mtx (g := g) h1
    simpa [lT, h0, Pl.clr] using this
  | row h => exact (leave_of h.hh who h0 (R := fun w' => w = w') (back_other who (Or.inr (Or.inl rfl)))).mono fun e w' ⟨he, hb⟩ => by subst hb; exact ⟨by simpa [lB, e0, Pl.cnt] using he, by simpa [lT, h0, e0, Pl.clr] using KT.row h, Buts.refl _ _⟩
  | flg h => exact (leave_of h.hh who h0 (R := fun w' => w = w') (back_other who (Or.inr (Or.inr (Or.inl rfl))))).mono fun e w' ⟨he, hb⟩ => by subst hb; exact ⟨by simpa [lB, e0, Pl.cnt] using he, by simpa [lT, h0, e0, Pl.clr] using KT.flg h, Buts.refl _ _⟩
  | pool h => exact (po_leave h who hp).mono fun e w' ⟨he, h1, h2⟩ => ⟨by simpa [lB, h0, e0] using he, by simpa [lT, h0, e0] using KT.pool h1, buts2 h2⟩
  | ala h => exact (leave_of h.hh who h0 (R := fun w' => w = w') (back_other who (Or.inr (Or.inr (Or.inr rfl))))).mono fun e w' ⟨he, hb⟩ => by subst hb; exact ⟨by simpa [lB, e0, Pl.cnt] using he, by simpa [lT, h0, e0, Pl.clr] using KT.ala h, Buts.refl _ _⟩
end Go.Proofs.YteicnekoogmmmaaGreatDoor
