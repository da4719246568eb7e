/- Bytes as lines tell them: two digits each. -/
import Derived.Test.YtcjghnnliepjjaaGreatDoorPu
import Derived.Test.YtcjghnnliepjjaaGreatDoorShelfI
import Derived.Test.YtcjghnnliepjjaaGreatDoorGetZ
namespace Go.Proofs.YtcjghnnliepjjaaGreatDoor
open Go Go.RowKit
set_option maxRecDepth 100000
set_option linter.unusedVariables false
def hexL : List UInt8 := [48, 49, 50, 51, 52, 53, 54, 55, 56, 57, 97, 98, 99, 100, 101, 102]
/-- a digit's number; below 0: it is none -/
def hexv (c : UInt8) : Int := Lib.indexByte hexL c
/-- the bytes of digits -/
def hexs : List UInt8 → Option (List Int)
  | [] => some []
  | [_] => none
  | a :: b :: r => if hexv a < 0 ∨ hexv b < 0 then none else (hexs r).map fun l => (hexv a * 16 + hexv b) :: l
/-- one at least -/
def hex1 (l : List UInt8) : Option (List Int) := if l = [] then none else hexs l
theorem ixb_bd (c : UInt8) : ∀ l : List UInt8, -1 ≤ Lib.indexByte l c ∧ Lib.indexByte l c < l.length := fun l => by
  rcases ixb_spec c l with h | ⟨a, r, h1, h2⟩
  · rw [h]; omega
  · rw [h2, h1]; simp; omega
theorem hexv_bd (c : UInt8) : -1 ≤ hexv c ∧ hexv c ≤ 15 := by
  have := ixb_bd c hexL
  have h : (hexL.length : Int) = 16 := rfl
  unfold hexv
  omega
theorem hexs_odd : ∀ l : List UInt8, l.length % 2 = 1 → hexs l = none
  | [], h => by simp at h
  | [_], _ => rfl
  | a :: b :: r, h => by
    simp only [hexs]
    split
    · rfl
    · rw [hexs_odd r (by simp at h; omega)]; rfl
theorem hexs_len : ∀ (l : List UInt8) (ys : List Int), hexs l = some ys → l.length = 2 * ys.length ∧ Bs ys
  | [], ys, h => by simp only [hexs, Option.some.injEq] at h; subst h; exact ⟨rfl, Bs.nil⟩
  | [_], ys, h => by simp [hexs] at h
  | a :: b :: r, ys, h => by
    simp only [hexs] at h
    split at h
    · cases h
    · rename_i hn
      cases hr : hexs r with
      | none => rw [hr] at h; simp at h
      | some l =>
        rw [hr] at h
        simp only [Option.map_some, Option.some.injEq] at h
        subst h
        have := hexs_len r l hr
        have h1 := hexv_bd a
        have h2 := hexv_bd b
        exact ⟨by simp; omega, Bs.cons ⟨by omega, by omega⟩ this.2⟩
/-- blocks of other types are as they were -/
def Tb (t : TypeId) (w w' : World) : Prop := ∀ (g : Nat) (cs : Array Value) (t' : TypeId) (f : Nat × Nat), w.heap[g]? = some (.cells cs t' f) → t' ≠ t → w'.heap[g]? = w.heap[g]?
theorem Tb.refl (t : TypeId) (w : World) : Tb t w w := fun _ _ _ _ _ _ => rfl
theorem Tb.trans {t : TypeId} {a b c : World} (h : Tb t a b) (k : Tb t b c) : Tb t a c := fun g cs t' f hg ht => by
  have h1 := h g cs t' f hg ht
  rw [← h1]
  exact k g cs t' f (h1.trans hg) ht
theorem Tb.of {t : TypeId} {w w' : World} (h : Below w.heap.size w w') : Tb t w w' := fun g cs t' f hg _ => h.block g (at_lt hg)
theorem Tb.grown {w w' : World} {B n s : Nat} {t : TypeId} {v : Value} {xs : List Value} (h : w.ownsRow B t s v n xs) (hg : w.grownBy w' v.ownBlock) : Tb t w w' := fun g cs t' f hh ht =>
  hg.block g (at_lt hh) fun e => block_ne h e.symm hh (fun q => ht q.symm) rfl
theorem owns_tb {w w' : World} {B n s : Nat} {t t' : TypeId} {v : Value} {xs : List Value} (h : w.ownsRow B t s v n xs) (hT : Tb t' w w') (ht : t ≠ t') : w'.ownsRow B t s v n xs := by
  obtain ⟨h1, h2⟩ := h
  refine ⟨h1, ?_⟩
  rcases h2 with h2 | ⟨g, cap, cur, rfl, hg, hh, r⟩
  · exact Or.inl h2
  · exact Or.inr ⟨g, cap, cur, rfl, hg, by rw [hT g _ _ _ hh ht]; exact hh, r⟩
/-- one byte put behind a row of one's own -/
theorem Src.one (w : World) (x : Int) (t : TypeId) : Src (w.alloc (.cells #[.int .u8 x] t)) (some ⟨w.heap.size, 0, none⟩) [x] := fun _ => ⟨_, 0, rfl, fun i hi => by
  rw [cell_of (alloc_at w _), Nat.zero_add]
  have hi' : i < 1 := hi
  obtain rfl : i = 0 := by omega
  rfl⟩
theorem hexAt (l : List UInt8) (j : Nat) (h : 2 * j + 1 < l.length) : hexs (l.drop (2 * j)) = if hexv (l.getD (2 * j) 0) < 0 ∨ hexv (l.getD (2 * j + 1) 0) < 0 then none else (hexs (l.drop (2 * (j + 1)))).map fun q => (hexv (l.getD (2 * j) 0) * 16 + hexv (l.getD (2 * j + 1) 0)) :: q := by
  rw [List.drop_eq_getElem_cons (by omega : 2 * j < l.length), List.drop_eq_getElem_cons (by omega : 2 * j + 1 < l.length)]
  simp only [hexs]
  rw [show l.getD (2 * j) 0 = l[2 * j] by simp [show 2 * j < l.length by omega], show l.getD (2 * j + 1) 0 = l[2 * j + 1] by simp [h], show 2 * (j + 1) = 2 * j + 1 + 1 by omega]
def hexB : ByteArray := ⟨#[48, 49, 50, 51, 52, 53, 54, 55, 56, 57, 97, 98, 99, 100, 101, 102]⟩
theorem ix_any (c : UInt8) (w : World) : Calls Tryz.prog 128 #[.string ⟨#[48, 49, 50, 51, 52, 53, 54, 55, 56, 57, 97, 98, 99, 100, 101, 102]⟩, .int .u8 (c.toNat : Int)] w fun e w' => e = .returned (.int .i64 (hexv c)) ∧ w' = w := by
  have := Tryz.strings_IndexByte hexB (c.toNat : Int) w
  rw [show ((c.toNat : Int)).toNat.toUInt8 = c by simp] at this
  exact this
set_option maxHeartbeats 4000000 in
theorem appendHex_no (v : Value) (t : ByteArray) (w : World) (h : t.data.toList = [] ∨ t.data.toList.length % 2 = 1) (hl : t.size ≤ 1000000) :
    Calls Tryz.prog 115 #[v, .string t] w fun e w' => e = .returned (.tuple #[.slice none 0 0, .bool false]) ∧ w = w' := by
  by_cases h0 : t.data.toList = []
  · obtain rfl : t = ⟨#[]⟩ := by
      obtain ⟨d⟩ := t
      congr 1
      exact Array.toList_inj.1 h0
    go_enter Tryz.func115, Tryz.ntmps115
    go_wp2
    go_ret2
    exact ⟨rfl, rfl⟩
  · have hodd := h.resolve_left h0
    have hemp : t.toList.isEmpty = false := by
      rw [ByteArray.toList_eq]
      simpa using h0
    rw [← size_data] at hodd
    have hmod : ((t.size : Nat) : Int).tmod 2 = 1 := by
      rw [Int.tmod_eq_emod_of_nonneg (by omega)]; omega
    go_enter Tryz.func115, Tryz.ntmps115
    go_wp2
    go_ret2
    exact ⟨rfl, rfl⟩
end Go.Proofs.YtcjghnnliepjjaaGreatDoor
