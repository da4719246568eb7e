
/- Whether an instruction may be, by the program's own functions: as one table of the document tells it. -/
import Derived.Test.YtomccgodfimaiaaGreatDoorWritten
namespace Go.Proofs.YtomccgodfimaiaaGreatDoor
set_option linter.all false
open Go Go.RowKit
set_option maxRecDepth 100000
def fWords : List ByteArray := [⟨#[110, 111, 112]⟩, ⟨#[115, 101, 116]⟩, ⟨#[109, 111, 118, 101]⟩, ⟨#[97, 100, 100]⟩, ⟨#[115, 117, 98]⟩, ⟨#[109, 117, 108]⟩, ⟨#[97, 110, 100]⟩, ⟨#[111, 114]⟩, ⟨#[120, 111, 114]⟩, ⟨#[108, 101, 102, 116]⟩, ⟨#[114, 105, 103, 104, 116]⟩, ⟨#[108, 111, 97, 100]⟩, ⟨#[115, 116, 111, 114, 101]⟩, ⟨#[98, 121, 116, 101]⟩, ⟨#[112, 117, 116]⟩, ⟨#[115, 97, 109, 101]⟩, ⟨#[111, 116, 104, 101, 114]⟩, ⟨#[108, 101, 115, 115]⟩, ⟨#[98, 101, 108, 111, 119]⟩, ⟨#[103, 111]⟩, ⟨#[116, 101, 108, 108]⟩, ⟨#[97, 115, 107]⟩, ⟨#[101, 110, 100]⟩]
def fFields : List ByteArray := [⟨#[]⟩, ⟨#[114, 110]⟩, ⟨#[114, 114]⟩, ⟨#[114, 114, 114]⟩, ⟨#[114, 114, 114]⟩, ⟨#[114, 114, 114]⟩, ⟨#[114, 114, 114]⟩, ⟨#[114, 114, 114]⟩, ⟨#[114, 114, 114]⟩, ⟨#[114, 114, 114]⟩, ⟨#[114, 114, 114]⟩, ⟨#[114, 114, 98]⟩, ⟨#[114, 114, 98]⟩, ⟨#[114, 114, 98]⟩, ⟨#[114, 114, 98]⟩, ⟨#[114, 114, 115]⟩, ⟨#[114, 114, 115]⟩, ⟨#[114, 114, 115]⟩, ⟨#[114, 114, 115]⟩, ⟨#[110]⟩, ⟨#[114]⟩, ⟨#[119]⟩, ⟨#[]⟩]
def fKinds : List (Nat × Nat × Nat) := [(0, 0, 0), (1, 4, 0), (1, 1, 0), (1, 1, 1), (1, 1, 1), (1, 1, 1), (1, 1, 1), (1, 1, 1), (1, 1, 1), (1, 1, 1), (1, 1, 1), (1, 1, 2), (1, 1, 2), (1, 1, 2), (1, 1, 2), (1, 1, 3), (1, 1, 3), (1, 1, 3), (1, 1, 3), (4, 0, 0), (1, 0, 0), (5, 0, 0), (0, 0, 0)]
def fWord (o : Nat) : ByteArray := fWords.getD o ⟨#[]⟩
def fField (o : Nat) : ByteArray := fFields.getD o ⟨#[]⟩
def fK (o : Nat) : Nat × Nat × Nat := fKinds.getD o (0, 0, 0)
/-- the kinds of an Op's fields -/
def ksOf (o : Nat) : List Nat := kList (fK o).1 (fK o).2.1 (fK o).2.2
/-- what a call finds in memory: the forms, and the library's table -/
structure Env (w : World) : Prop where
  forms : ∀ o, o < 23 → Form w 0 (o * 4) (fWord o) (fK o).1 (fK o).2.1 (fK o).2.2
  pow : Pow w
  lt : 0 < w.heap.size
theorem Form.on {w w' : World} {f off : Nat} {word : ByteArray} {k1 k2 k3 B : Nat} (h : Form w f off word k1 k2 k3) (hb : Below B w w') (hf : f < B) : Form w' f off word k1 k2 k3 where
  c0 := by rw [(bcell hb).1 _ _ hf]; exact h.c0
  c1 := by rw [(bcell hb).1 _ _ hf]; exact h.c1
  c2 := by rw [(bcell hb).1 _ _ hf]; exact h.c2
  c3 := by rw [(bcell hb).1 _ _ hf]; exact h.c3
theorem Env.on {w w' : World} (h : Env w) (hb : Below w.heap.size w w') : Env w' where
  forms := fun o ho => (h.forms o ho).on hb h.lt
  pow := h.pow.on hb
  lt := by have := hb.size; have := h.lt; omega
def fitB : List Nat → Nat → Bool
  | [], _ => true
  | k :: ks, n => decide (1 ≤ k) && decide (k ≤ 5) && decide (kSz k ≤ n) && fitB ks (n - kSz k)
theorem fit_of : ∀ (ks : List Nat) (n : Nat), fitB ks n = true → fit ks n
  | [], _, _ => trivial
  | k :: ks, n, h => by
    simp only [fitB, Bool.and_eq_true, decide_eq_true_eq] at h
    exact ⟨h.1.1.1, h.1.1.2, h.1.2, fit_of ks _ h.2⟩
theorem fitB_all : ∀ o : Fin 23, fitB (ksOf o.val) 3 = true := by decide
theorem fit_all (o : Nat) (ho : o < 23) : fit (ksOf o) 3 := fit_of _ _ (fitB_all ⟨o, ho⟩)
/-- may it be? -/
def may (o : Nat) (a b c : Int) : Bool := decide (o < 23) && (wrt (ksOf o) [a, b, c] [fWord o]).1
def parts (o : Nat) (a b c : Int) : List ByteArray := (wrt (ksOf o) [a, b, c] [fWord o]).2
def byte (a : Int) : Prop := 0 ≤ a ∧ a ≤ 255
set_option maxHeartbeats 4000000 in
theorem written_none (o : Nat) (ho : 23 ≤ o) (h255 : o ≤ 255) (a b c : Int) (w : World) :
    Calls Tryz.prog 113 #[.agg #[.int .u8 o, .int .u8 a, .int .u8 b, .int .u8 c]] w fun e w' => e = .returned (.tuple #[.slice none 0 0, .bool false]) ∧ Below w.heap.size w w' := by
  have ho' : (23 : Int) ≤ o := by omega
  have ho2 : (o : Int) ≤ 255 := by omega
  go_enter Tryz.func113, Tryz.ntmps113
  go_wp2
  go_ret2
  exact ⟨rfl, (Below.refl _ _).alloc (Nat.le_refl _) _⟩
theorem written_any (o : Nat) (h255 : o ≤ 255) (a b c : Int) (w : World) (he : Env w) (ha : byte a) (hb : byte b) (hc : byte c) :
    Calls Tryz.prog 113 #[.agg #[.int .u8 o, .int .u8 a, .int .u8 b, .int .u8 c]] w fun e w' => ∃ v, e = .returned (.tuple #[v, .bool (may o a b c)]) ∧ Below w.heap.size w w' ∧
      (may o a b c = true → w'.ownsRow w.heap.size 9 1 v (parts o a b c).length (strs (parts o a b c))) := by
  by_cases ho : o < 23
  · have h := written_some o ho a b c w (fWord o) (fK o).1 (fK o).2.1 (fK o).2.2 (he.forms o ho) he.lt he.pow ha hb hc (fit_all o ho)
    refine h.mono ?_
    rintro e w' ⟨v, rfl, hb, hv⟩
    refine ⟨v, ?_, hb, ?_⟩
    · simp [may, ho, ksOf]
    · intro hm
      exact hv (by simpa [may, ho, ksOf] using hm)
  · refine (written_none o (by omega) h255 a b c w).mono ?_
    rintro e w' ⟨rfl, hb⟩
    exact ⟨.slice none 0 0, by simp [may, ho], hb, fun h => by simp [may, ho] at h⟩
set_option maxHeartbeats 4000000 in
theorem Check_any (o : Nat) (h255 : o ≤ 255) (a b c : Int) (w : World) (he : Env w) (ha : byte a) (hb : byte b) (hc : byte c) :
    Calls Tryz.prog 76 #[.agg #[.int .u8 o, .int .u8 a, .int .u8 b, .int .u8 c]] w fun e w' => e = .returned (.bool (may o a b c)) ∧ Below w.heap.size w w' := by
  have HE : Hid (Env w) := he
  clear he
  go_enter Tryz.func76, Tryz.ntmps76
  go_wp2_with (go_at_call 113; refine (written_any _ h255 _ _ _ _ (HE.out.on ((Below.refl _ _).alloc (Nat.le_refl _) _)) ha hb hc).mono ?_; rintro e w' ⟨v, rfl, hb2, _⟩)
  go_ret
  exact ⟨rfl, ((Below.refl _ _).alloc (Nat.le_refl _) _).trans (hb2.mono (by simp))⟩
def instr (o a b c : Int) : Value := .agg #[.int .u8 o, .int .u8 a, .int .u8 b, .int .u8 c]
end Go.Proofs.YtomccgodfimaiaaGreatDoor
