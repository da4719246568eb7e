/- 'Book.Thing': a thing's lists are put into the book. -/
import Derived.Test.YteicnekoogmmmaaGreatDoorPlaySt
namespace Go.Proofs.YteicnekoogmmmaaGreatDoor
open Go Go.RowKit
set_option maxRecDepth 100000
set_option linter.unusedVariables false
theorem far_snoc {E : List Ent} {x : Ent} {y : Value} (h : ∀ (j : Nat) (e : Ent), E[j]? = some e → ∀ b, y.ownBlock = some b → e.v.ownBlock ≠ some b) (hx : ∀ b, y.ownBlock = some b → x.v.ownBlock ≠ some b) : ∀ (j : Nat) (e : Ent), (E ++ [x])[j]? = some e → ∀ b, y.ownBlock = some b → e.v.ownBlock ≠ some b := by
  intro j e he b hb
  rcases snoc_cases he with ⟨_, he'⟩ | ⟨_, rfl⟩
  · exact h j e he' b hb
  · exact hx b hb
set_option maxHeartbeats 4000000 in
theorem thing_put {w0 wx : World} {s p f g q z K nb : Nat} {v u vo : Value} {E : List Ent} {T R : Sx} (H : St w0 wx s p f g q z K nb v u vo E T R) (hn : nb + 3 ≤ 1000) {k a b c o : Int} {s1 s2 : Option Addr} {n1 c1 n2 c2 : Nat} {xs zs : List Int}
    (h1 : Lst wx s (.slice s1 n1 c1) xs) (h2 : Lst wx s (.slice s2 n2 c2) zs) (l1 : n1 ≤ 64) (l2 : n2 ≤ 64)
    (f1 : ∀ (j : Nat) (e : Ent), E[j]? = some e → ∀ b, (Value.slice s1 n1 c1).ownBlock = some b → e.v.ownBlock ≠ some b) (f2 : ∀ (j : Nat) (e : Ent), E[j]? = some e → ∀ b, (Value.slice s2 n2 c2).ownBlock = some b → e.v.ownBlock ≠ some b) (hno : s1 = none ∨ s2 = none) :
    Calls Tryz.prog 14 #[.pointer (some ⟨K, 0, none⟩), .agg #[.int .u32 0, .int .u8 k, .int .u32 a, .int .u32 b, .int .u32 c, .int .u32 o, .slice s1 n1 c1, .slice s2 n2 c2, .int .i64 0, .slice none 0 0]] wx fun e w' => e = .returned (.tuple #[]) ∧ ∃ v' E', St w0 w' s p f g q z K (nb + 3) v' u vo E' T R := by
  have hL1 : Hid (xs.length = n1) := (Lst.src h1).1.symm
  have hL2 : Hid (zs.length = n2) := (Lst.src h2).1.symm
  have hb0 := alloc_below wx (.cells #[.int .u32 0, .int .u8 k, .int .u32 a, .int .u32 b, .int .u32 c, .int .u32 o, .slice s1 n1 c1, .slice s2 n2 c2, .int .i64 0, .slice none 0 0] 55)
  have X1 : Hid (Blk (wx.alloc (.cells #[.int .u32 0, .int .u8 k, .int .u32 a, .int .u32 b, .int .u32 c, .int .u32 o, .slice s1 n1 c1, .slice s2 n2 c2, .int .i64 0, .slice none 0 0] 55)) wx.heap.size #[.int .u32 0, .int .u8 k, .int .u32 a, .int .u32 b, .int .u32 c, .int .u32 o, .slice s1 n1 c1, .slice s2 n2 c2, .int .i64 0, .slice none 0 0] 55) := alloc_at wx _
  have H1 : Hid (St w0 (wx.alloc (.cells #[.int .u32 0, .int .u8 k, .int .u32 a, .int .u32 b, .int .u32 c, .int .u32 o, .slice s1 n1 c1, .slice s2 n2 c2, .int .i64 0, .slice none 0 0] 55)) s p f g q z K nb v u vo E T R) := H.below hb0
  have Y1 : Hid (Lst (wx.alloc (.cells #[.int .u32 0, .int .u8 k, .int .u32 a, .int .u32 b, .int .u32 c, .int .u32 o, .slice s1 n1 c1, .slice s2 n2 c2, .int .i64 0, .slice none 0 0] 55)) s (.slice s1 n1 c1) xs) := h1.below hb0
  have Z1 : Hid (Lst (wx.alloc (.cells #[.int .u32 0, .int .u8 k, .int .u32 a, .int .u32 b, .int .u32 c, .int .u32 o, .slice s1 n1 c1, .slice s2 n2 c2, .int .i64 0, .slice none 0 0] 55)) s (.slice s2 n2 c2) zs) := h2.below hb0
  have F1 : Hid (∀ (j : Nat) (e : Ent), E[j]? = some e → ∀ b, (Value.slice s1 n1 c1).ownBlock = some b → e.v.ownBlock ≠ some b) := f1
  have F2 : Hid (∀ (j : Nat) (e : Ent), (E ++ [⟨.slice s1 n1 c1, n1, .slice none 0 0, (nb : Int) + 1⟩])[j]? = some e → ∀ b, (Value.slice s2 n2 c2).ownBlock = some b → e.v.ownBlock ≠ some b) := far_snoc f2 (fun b hb => by
    rcases hno with rfl | rfl
    · cases n1 <;> simp [Value.ownBlock]
    · simp [Value.ownBlock] at hb)
  clear h1 h2 f1 f2 hno hb0 H
  go_enter Tryz.func14, Tryz.ntmps14
  go_wp2_with (first
    | (go_at_call 25; refine (book_put H3.out.book (by rw [H3.out.many]; omega) (by omega) _ _ _).mono ?_; rintro e w4 ⟨rfl, v4, hk, hu⟩; have H4 : Hid (∃ v' E', St w0 w4 s p f g q z K (nb + 3) v' u vo E' T R) := ⟨_, _, H3.out.put (sp := none) (m := 0) (c := 0) (ys := []) (by omega) rfl (by omega) (Lst.nil _ _) (fun _ _ _ b hb => by simp [Value.ownBlock] at hb) hk hu⟩; clear hk hu)
    | (go_at_call 25; refine (book_put H2.out.book (by rw [H2.out.many]; omega) (by omega) _ _ _).mono ?_; rintro e w3 ⟨rfl, v3, hk, hu⟩; have H3 : Hid (St w0 w3 s p f g q z K (nb + 2) v3 u vo _ T R) := H2.out.put (by omega) hL2.out l2 Z2.out F2.out hk hu; have X3 : Hid (Blk w3 wx.heap.size #[.int .u32 0, .int .u8 k, .int .u32 a, .int .u32 b, .int .u32 c, .int .u32 o, .slice s1 n1 c1, .slice s2 n2 c2, .int .i64 0, .slice none 0 0] 55) := X2.out.buts hu (H2.out.book.farB X2.out (by decide) (by decide)); have y9 : w3.cell? ⟨wx.heap.size, 9, none⟩ = some (.slice none 0 0) := (by rw [X3.out.cell]; rfl); clear hk hu)
    | (go_at_call 25; refine (book_put H1.out.book (by rw [H1.out.many]; omega) (by omega) _ _ _).mono ?_; rintro e w2 ⟨rfl, v2, hk, hu⟩; have H2 : Hid (St w0 w2 s p f g q z K (nb + 1) v2 u vo _ T R) := H1.out.put (by omega) hL1.out l1 Y1.out F1.out hk hu; have X2 : Hid (Blk w2 wx.heap.size #[.int .u32 0, .int .u8 k, .int .u32 a, .int .u32 b, .int .u32 c, .int .u32 o, .slice s1 n1 c1, .slice s2 n2 c2, .int .i64 0, .slice none 0 0] 55) := X1.out.buts hu (H1.out.book.farB X1.out (by decide) (by decide)); have Z2 : Hid (Lst w2 s (.slice s2 n2 c2) zs) := Lst.put H1.out.book Z1.out hu; have y7 : w2.cell? ⟨wx.heap.size, 7, none⟩ = some (.slice s2 n2 c2) := (by rw [X2.out.cell]; rfl); clear hk hu))
  go_end0
  exact ⟨rfl, H4.out⟩
end Go.Proofs.YteicnekoogmmmaaGreatDoor
