/- What an image is, by plain lists: its bytes, and back. Code is one list of numbers, four an instruction. No law of the program itself. -/
import Derived.Test.YtomccgodfimaiaaGreatDoorMay
namespace Go.Proofs.YtomccgodfimaiaaGreatDoor
set_option linter.all false
open Go
set_option linter.unusedVariables false
/-- may the instruction at place i be? -/
def mayAt (cs : List Int) (i : Nat) : Bool := may (cs.getD (4 * i) 0).toNat (cs.getD (4 * i + 1) 0) (cs.getD (4 * i + 2) 0) (cs.getD (4 * i + 3) 0)
/-- may the first k of them be? -/
def mayAll (cs : List Int) (k : Nat) : Bool := (List.range k).all (mayAt cs)
theorem mayAll_iff (cs : List Int) (k : Nat) : mayAll cs k = true ↔ ∀ i, i < k → mayAt cs i = true := by
  simp [mayAll]
theorem mayAll_no {cs : List Int} {k i : Nat} (hi : i < k) (h : mayAt cs i = false) : mayAll cs k = false := by
  rw [← Bool.not_eq_true, mayAll_iff]
  intro hh
  rw [hh i hi] at h
  cases h
/-- bytes, all of them -/
def Bs (zs : List Int) : Prop := ∀ z ∈ zs, byte z
theorem Bs.at {zs : List Int} (h : Bs zs) (i : Nat) : byte (zs.getD i 0) := by
  by_cases hi : i < zs.length
  · rw [show zs.getD i 0 = zs[i] by simp [hi]]; exact h _ (List.getElem_mem hi)
  · rw [show zs.getD i 0 = 0 by simp [Nat.le_of_not_lt hi]]; exact ⟨by decide, by decide⟩
theorem Bs.take {zs : List Int} (h : Bs zs) (k : Nat) : Bs (zs.take k) := fun z hz => h z (List.mem_of_mem_take hz)
theorem Bs.drop {zs : List Int} (h : Bs zs) (k : Nat) : Bs (zs.drop k) := fun z hz => h z (List.mem_of_mem_drop hz)
theorem Bs.app {xs ys : List Int} (h : Bs xs) (k : Bs ys) : Bs (xs ++ ys) := fun z hz => (List.mem_append.1 hz).elim (h z) (k z)
theorem Bs.nil : Bs [] := fun z hz => by cases hz
theorem Bs.cons {x : Int} {xs : List Int} (h : byte x) (k : Bs xs) : Bs (x :: xs) := fun z hz => by
  rcases List.mem_cons.1 hz with rfl | hz
  · exact h
  · exact k z hz
/-- may an image be? -/
def okC (size d k : Int) : Bool := decide (0 ≤ size) && (decide (size ≤ 4096) && (decide (d ≤ size) && decide (k ≤ 1024)))
def okI (size : Int) (ds cs : List Int) (k : Nat) : Bool := okC size ds.length k && mayAll cs k
theorem okC_iff (size d k : Int) : okC size d k = true ↔ 0 ≤ size ∧ size ≤ 4096 ∧ d ≤ size ∧ k ≤ 1024 := by
  simp [okC]
theorem okI_iff (size : Int) (ds cs : List Int) (k : Nat) : okI size ds cs k = true ↔ (0 ≤ size ∧ size ≤ 4096 ∧ (ds.length : Int) ≤ size ∧ (k : Int) ≤ 1024) ∧ mayAll cs k = true := by
  simp [okI, okC_iff]
/-- a number of two bytes -/
def two (n : Int) : List Int := [n / 256, n % 256]
theorem two_len (n : Int) : (two n).length = 2 := rfl
theorem two_bs (n : Int) (h0 : 0 ≤ n) (h1 : n < 65536) : Bs (two n) := Bs.cons ⟨by omega, by omega⟩ (Bs.cons ⟨by omega, by omega⟩ Bs.nil)
/-- what bytes begin with -/
def headB (size d k : Int) : List Int := [116, 107, 49] ++ (two size ++ (two d ++ two k))
theorem headB_len (size d k : Int) : (headB size d k).length = 9 := rfl
/-- an image's bytes -/
def putB (size : Int) (ds cs : List Int) (k : Nat) : List Int := headB size ds.length k ++ (ds ++ cs)
theorem putB_len (size : Int) (ds cs : List Int) (k : Nat) : (putB size ds cs k).length = 9 + (ds.length + cs.length) := by
  simp [putB, headB_len]
theorem putB_bs {size : Int} {ds cs : List Int} {k : Nat} (hd : Bs ds) (hc : Bs cs) (h : okI size ds cs k = true) : Bs (putB size ds cs k) := by
  rw [okI_iff] at h
  obtain ⟨⟨h0, h1, h2, h3⟩, _⟩ := h
  refine Bs.app (Bs.app ?_ (Bs.app (two_bs _ h0 (by omega)) (Bs.app (two_bs _ (by omega) (by omega)) (two_bs _ (by omega) (by omega))))) (Bs.app hd hc)
  exact Bs.cons ⟨by decide, by decide⟩ (Bs.cons ⟨by decide, by decide⟩ (Bs.cons ⟨by decide, by decide⟩ Bs.nil))
/-- the numbers that bytes begin with -/
def cnt (zs : List Int) (i : Nat) : Int := zs.getD (3 + 2 * i) 0 * 256 + zs.getD (3 + 2 * i + 1) 0
theorem cnt_bd {zs : List Int} (h : Bs zs) (i : Nat) : 0 ≤ cnt zs i ∧ cnt zs i < 65536 := by
  have h1 := h.at (3 + 2 * i)
  have h2 := h.at (3 + 2 * i + 1)
  unfold byte at h1 h2
  unfold cnt
  omega
/-- do they begin so? -/
def marked (zs : List Int) : Bool := decide (9 ≤ zs.length) && decide (zs.take 3 = [116, 107, 49])
/-- may they be an image's, but for its instructions? -/
def fits (zs : List Int) : Bool := marked zs && (okC (cnt zs 0) (cnt zs 1) (cnt zs 2) && decide ((zs.length : Int) = 9 + cnt zs 1 + cnt zs 2 * 4))
def datOf (zs : List Int) : List Int := (zs.drop 9).take (cnt zs 1).toNat
def codOf (zs : List Int) : List Int := (zs.drop 9).drop (cnt zs 1).toNat
/-- the image of bytes: its size, its data, its code, how many instructions -/
def getI (zs : List Int) : Option (Int × List Int × List Int × Nat) :=
  if fits zs = true ∧ mayAll (codOf zs) (cnt zs 2).toNat = true then some (cnt zs 0, datOf zs, codOf zs, (cnt zs 2).toNat) else none
theorem fits_iff (zs : List Int) : fits zs = true ↔ (9 ≤ zs.length ∧ zs.take 3 = [116, 107, 49]) ∧ (0 ≤ cnt zs 0 ∧ cnt zs 0 ≤ 4096 ∧ cnt zs 1 ≤ cnt zs 0 ∧ cnt zs 2 ≤ 1024) ∧ (zs.length : Int) = 9 + cnt zs 1 + cnt zs 2 * 4 := by
  simp [fits, marked, okC_iff]
theorem two_back (n : Int) : n / 256 * 256 + n % 256 = n := by omega
theorem putB_cnt (size : Int) (ds cs : List Int) (k : Nat) : cnt (putB size ds cs k) 0 = size ∧ cnt (putB size ds cs k) 1 = ds.length ∧ cnt (putB size ds cs k) 2 = k := by
  refine ⟨?_, ?_, ?_⟩
  · show size / 256 * 256 + size % 256 = _; omega
  · show (ds.length : Int) / 256 * 256 + (ds.length : Int) % 256 = _; omega
  · show (k : Int) / 256 * 256 + (k : Int) % 256 = _; omega
theorem putB_drop (size : Int) (ds cs : List Int) (k : Nat) : (putB size ds cs k).drop 9 = ds ++ cs := rfl
/-- what is put is got -/
theorem get_put {size : Int} {ds cs : List Int} {k : Nat} (hk : cs.length = 4 * k) (h : okI size ds cs k = true) : getI (putB size ds cs k) = some (size, ds, cs, k) := by
  obtain ⟨c0, c1, c2⟩ := putB_cnt size ds cs k
  have hh := (okI_iff _ _ _ _).1 h
  unfold getI
  have hd : datOf (putB size ds cs k) = ds := by unfold datOf; rw [c1, putB_drop]; simp
  have hc : codOf (putB size ds cs k) = cs := by unfold codOf; rw [c1, putB_drop]; simp
  rw [hd, hc, c0, c2, if_pos]
  · simp
  · refine ⟨(fits_iff _).2 ⟨⟨by rw [putB_len]; omega, rfl⟩, ?_, ?_⟩, by simpa using hh.2⟩
    · rw [c0, c1, c2]; exact hh.1
    · rw [c1, c2, putB_len]; omega
/-- what is got may be, and is put as it was -/
theorem put_get {zs : List Int} {size : Int} {ds cs : List Int} {k : Nat} (hz : Bs zs) (h : getI zs = some (size, ds, cs, k)) :
    okI size ds cs k = true ∧ putB size ds cs k = zs ∧ cs.length = 4 * k ∧ Bs ds ∧ Bs cs := by
  unfold getI at h
  split at h
  · rename_i hf
    simp only [Option.some.injEq, Prod.mk.injEq] at h
    obtain ⟨rfl, rfl, rfl, rfl⟩ := h
    obtain ⟨⟨⟨h9, ht⟩, ⟨b0, b1, b2, b3⟩, hl⟩, hm⟩ := And.intro ((fits_iff zs).1 hf.1) hf.2
    have d1 := cnt_bd hz 1
    have d2 := cnt_bd hz 2
    have hdl : (datOf zs).length = (cnt zs 1).toNat := by simp [datOf]; omega
    have hcl : (codOf zs).length = 4 * (cnt zs 2).toNat := by simp [codOf]; omega
    refine ⟨(okI_iff _ _ _ _).2 ⟨⟨b0, b1, by rw [hdl]; omega, by omega⟩, hm⟩, ?_, hcl, (hz.drop 9).take _, (hz.drop 9).drop _⟩
    have e : putB (cnt zs 0) (datOf zs) (codOf zs) (cnt zs 2).toNat = (zs.take 3 ++ (two (cnt zs 0) ++ (two (cnt zs 1) ++ two (cnt zs 2)))) ++ zs.drop 9 := by
      unfold putB headB
      rw [hdl, ht, show (((cnt zs 1).toNat : Nat) : Int) = cnt zs 1 by omega, show (((cnt zs 2).toNat : Nat) : Int) = cnt zs 2 by omega, show datOf zs ++ codOf zs = zs.drop 9 from List.take_append_drop _ _]
    rw [e]
    obtain ⟨a0, a1, a2, a3, a4, a5, a6, a7, a8, r, rfl⟩ : ∃ a0 a1 a2 a3 a4 a5 a6 a7 a8 r, zs = a0 :: a1 :: a2 :: a3 :: a4 :: a5 :: a6 :: a7 :: a8 :: r := by
      match zs, h9 with
      | a0 :: a1 :: a2 :: a3 :: a4 :: a5 :: a6 :: a7 :: a8 :: r, _ => exact ⟨a0, a1, a2, a3, a4, a5, a6, a7, a8, r, rfl⟩
    have q : ∀ i, byte ((a0 :: a1 :: a2 :: a3 :: a4 :: a5 :: a6 :: a7 :: a8 :: r).getD i 0) := fun i => hz.at i
    have q3 : byte a3 := q 3
    have q4 : byte a4 := q 4
    have q5 : byte a5 := q 5
    have q6 : byte a6 := q 6
    have q7 : byte a7 := q 7
    have q8 : byte a8 := q 8
    unfold byte at q3 q4 q5 q6 q7 q8
    have t : ∀ x y : Int, 0 ≤ y → y ≤ 255 → two (x * 256 + y) = [x, y] := fun x y h1 h2 => by unfold two; rw [show (x * 256 + y) / 256 = x by omega, show (x * 256 + y) % 256 = y by omega]
    show ([a0, a1, a2] ++ (two (a3 * 256 + a4) ++ (two (a5 * 256 + a6) ++ two (a7 * 256 + a8)))) ++ r = _
    rw [t _ _ q4.1 q4.2, t _ _ q6.1 q6.2, t _ _ q8.1 q8.2]
    rfl
  · cases h
/-- two images with the same bytes are the same -/
theorem put_inj {s s' : Int} {ds ds' cs cs' : List Int} {k k' : Nat} (hk : cs.length = 4 * k) (hk' : cs'.length = 4 * k') (h : okI s ds cs k = true) (h' : okI s' ds' cs' k' = true) :
    putB s ds cs k = putB s' ds' cs' k' ↔ s = s' ∧ ds = ds' ∧ cs = cs' := by
  constructor
  · intro e
    have a := get_put hk h
    rw [e, get_put hk' h'] at a
    simp only [Option.some.injEq, Prod.mk.injEq] at a
    exact ⟨a.1.symm, a.2.1.symm, a.2.2.1.symm⟩
  · rintro ⟨rfl, rfl, rfl⟩
    obtain rfl : k = k' := by omega
    rfl
end Go.Proofs.YtomccgodfimaiaaGreatDoor
