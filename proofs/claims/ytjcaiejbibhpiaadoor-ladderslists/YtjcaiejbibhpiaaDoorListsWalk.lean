/- LaddersLists: the lists and the first are the documented ones; what was told is memory of its own. -/
import Derived.Test.YtjcaiejbibhpiaaDoorRefD
import Derived.Test.YtjcaiejbibhpiaaDoorApart
namespace Go.Proofs.YtjcaiejbibhpiaaDoor
open Go Go.RowKit
set_option maxRecDepth 100000
set_option linter.unusedVariables false
theorem Bk.start {w : World} {B : Nat} (hB : B ≤ w.heap.size) : Bk B (w.alloc (.cells (bk 0 (.slice none 0 0)) 37)) w.heap.size 0 (.slice none 0 0) [] :=
  ⟨alloc_at w _, World.ownsRow_nil _ _ _ _, fun H h => by simp [Value.ownBlock] at h, hB, by simp, by omega, fun j e he => by simp at he⟩
theorem first_any (l : Nat) (hl : l < 4294967296) (x : Nat) (b : Bool) (hx : l.log2 = x) (hb : decide (l ≠ 0) = b) (w : World) :
    Calls Tryd.prog 5 #[.int .u32 (l : Int)] w fun e w' => e = .returned (.tuple #[.int .i64 (x : Int), .bool b]) ∧ w' = w := by
  subst hx hb
  by_cases h : l = 0
  · subst h
    exact first_no w
  · rw [show decide (l ≠ 0) = true from decide_eq_true h]
    exact first_yes l hl h w
theorem rfirst_any (l : Nat) (hl : l < 4294967296) (x : Nat) (b : Bool) (hx : l.log2 = x) (hb : decide (l ≠ 0) = b) (w : World) :
    Calls Tryd.prog 6 #[.int .u32 (l : Int)] w fun e w' => e = .returned (.tuple #[.int .i64 (x : Int), .bool b]) ∧ Below w.heap.size w w' := by
  subst hx hb
  by_cases h : l = 0
  · subst h
    exact rfirst_no w
  · rw [show decide (l ≠ 0) = true from decide_eq_true h]
    exact rfirst_yes l hl h w
/-- the list, written out -/
theorem list_own (L : Nat) (hL : L < 4294967296) (n : Nat) (hn : (told L).length = n) (w : World) :
    Calls Tryd.prog 4 #[.int .u32 (L : Int)] w fun e w' => ∃ sp cap, e = .returned (.slice sp n cap) ∧ w'.ownsRow w.heap.size 3 1 (.slice sp n cap) n ((told L).map (Value.int .i64)) ∧ Src w' sp (told L) ∧ Below w.heap.size w w' := by
  subst hn
  refine (list_any L hL w).mono fun e w' ⟨v, he, ho, _, hb⟩ => ?_
  obtain ⟨sp, cap, rfl, hs⟩ := Src.own ho
  exact ⟨sp, cap, he, ho, hs, hb⟩
theorem rlist_own (L : Nat) (hL : L < 4294967296) (n : Nat) (hn : (told L).length = n) (w : World) :
    Calls Tryd.prog 8 #[.int .u32 (L : Int)] w fun e w' => ∃ sp cap, e = .returned (.slice sp n cap) ∧ Src w' sp (told L) ∧ Below w.heap.size w w' := by
  subst hn
  exact rlist_src L hL w
theorem same_len {w : World} {sp tp : Option Addr} {zs : List Int} {n : Nat} (hs : Src w sp zs) (ht : Src w tp zs) (hn : zs.length = n) (hl : n ≤ 1000000) (c d : Nat) :
    Calls Tryd.prog 7 #[.slice sp n c, .slice tp n d] w fun e w' => e = .returned (.bool true) ∧ Below w.heap.size w w' := by
  subst hn
  exact same_yes hs ht hl c d
theorem two_apart {w w7 w8 w9 : World} {K n c1 c2 : Nat} {v0 v1 v2 : Value} {sp1 sp2 : Option Addr} {xs ys : List Value} (b0 : Bk w.heap.size w7 K 0 v0 [])
    (b1 : Bk w.heap.size w8 K 1 v1 [⟨.slice sp1 n c1, n, .slice none 0 0, 1⟩]) (b2 : Bk w.heap.size w9 K 2 v2 [⟨.slice sp1 n c1, n, .slice none 0 0, 1⟩, ⟨.slice sp2 n c2, n, .slice none 0 0, 2⟩])
    (o1 : w7.ownsRow w.heap.size 3 1 (.slice sp1 n c1) n xs) (o2 : w7.ownsRow w.heap.size 3 1 (.slice sp2 n c2) n ys)
    (hs : ∀ g, (Value.slice sp1 n c1).ownBlock = some g → (Value.slice sp2 n c2).ownBlock ≠ some g) (hn : n ≤ 1000000)
    (h7 : Below w.heap.size w w7) (u8 : Buts [K] w7 w8) (u9 : Buts (K :: v1.ownBlock.toList) w8 w9) :
    Calls Tryd.prog 10 #[.pointer (some ⟨K, 0, none⟩)] w9 fun e w' => e = .returned (.bool true) ∧ Below w.heap.size w w' := by
  have keep1 : ∀ {v : Value} {zs : List Value}, w7.ownsRow w.heap.size 3 1 v n zs → w8.ownsRow w.heap.size 3 1 v n zs := fun {v zs} o =>
    owns_buts o u8 fun g hg => by simpa using block_ne o hg b0.head (by decide)
  have keep2 : ∀ {v : Value} {zs : List Value}, w8.ownsRow w.heap.size 3 1 v n zs → w9.ownsRow w.heap.size 3 1 v n zs := fun {v zs} o =>
    owns_buts o u9 fun g hg hm => by
      rcases List.mem_cons.1 hm with rfl | hm
      · exact block_ne o hg b1.head (by decide) rfl
      · exact own_ne o hg b1.row (by simpa using hm) (by decide) rfl
  have q1 := keep2 (keep1 o1)
  have q2 := keep2 (keep1 o2)
  have hL : Lists w.heap.size w9 [⟨.slice sp1 n c1, n, .slice none 0 0, 1⟩, ⟨.slice sp2 n c2, n, .slice none 0 0, 2⟩] 0 := by
    refine ⟨fun j e he => ?_, fun j k e f hjk he hf g hg => ?_, fun j e he => ?_, fun j e he => ?_⟩
    · rcases j with _ | _ | j
      · simp only [List.getElem?_cons_zero, Option.some.injEq] at he; subst he; exact ⟨_, q1, fun h => by omega⟩
      · simp only [List.getElem?_cons_succ, List.getElem?_cons_zero, Option.some.injEq] at he; subst he; exact ⟨_, q2, fun h => by omega⟩
      · simp at he
    · rcases j with _ | _ | j
      · rcases k with _ | _ | k
        · omega
        · simp only [List.getElem?_cons_succ, List.getElem?_cons_zero, Option.some.injEq] at he hf; subst he hf; exact hs g hg
        · simp at hf
      · rcases k with _ | _ | k
        · simp only [List.getElem?_cons_succ, List.getElem?_cons_zero, Option.some.injEq] at he hf; subst he hf; exact fun h => hs g h hg
        · omega
        · simp at hf
      · simp at he
    · rcases j with _ | _ | j
      · simp only [List.getElem?_cons_zero, Option.some.injEq] at he; subst he; exact ⟨by simp, by simp⟩
      · simp only [List.getElem?_cons_succ, List.getElem?_cons_zero, Option.some.injEq] at he; subst he; exact ⟨by simp, by simp⟩
      · simp at he
    · rcases j with _ | _ | j
      · simp only [List.getElem?_cons_zero, Option.some.injEq] at he; subst he; exact hn
      · simp only [List.getElem?_cons_succ, List.getElem?_cons_zero, Option.some.injEq] at he; subst he; exact hn
      · simp at he
  have h8 : Below w.heap.size w w8 := h7.trans (u8.below (fun x hx => by rw [List.mem_singleton] at hx; subst hx; exact b0.base) h7.size)
  have h9 : Below w.heap.size w w9 := h8.trans (u9.below (fun x hx => by
    rcases List.mem_cons.1 hx with rfl | hx
    · exact b0.base
    · exact (b1.row.lt x (by simpa using hx)).1) h8.size)
  exact (apart_yes b2 hL).mono fun e w' ⟨he, hb⟩ => ⟨he, h9.trans hb⟩
set_option maxHeartbeats 4000000 in
theorem lists_any (L : Nat) (hL : L < 4294967296) (w : World) :
    Calls Tryd.prog 3 #[.int .u32 (L : Int)] w fun e w' => e = .returned (.bool true) ∧ Below w.heap.size w w' := by
  obtain ⟨x, hx⟩ : ∃ x, L.log2 = x := ⟨_, rfl⟩
  obtain ⟨b, hb⟩ : ∃ b, decide (L ≠ 0) = b := ⟨_, rfl⟩
  obtain ⟨n, hn⟩ : ∃ n, (told L).length = n := ⟨_, rfl⟩
  have HX : Hid (L.log2 = x) := hx
  have HB : Hid (decide (L ≠ 0) = b) := hb
  have HN : Hid ((told L).length = n) := hn
  have m1 := told_le L
  rw [hn] at m1
  clear hx hb hn
  have M1 := True.intro
  have M2 := True.intro
  go_enter Tryd.func3, Tryd.ntmps3
  go_wp2_with (first
    | (go_at_call 4; clear M1; refine (list_own L hL n HN.out _).mono ?_; rintro e w1 ⟨sp1, cap1, rfl, o1, s1, hB⟩; have hB1 := hB)
    | (go_at_call 4; refine (list_own L hL n HN.out _).mono ?_; rintro e w2 ⟨sp2, cap2, rfl, o2, s2, hb⟩; replace hB := hB.trans (hb.mono hB.size); replace s1 := s1.below hb; have h12 := o1.lt; replace o1 := owns_below o1 hb; clear hb)
    | (go_at_call 5; refine (first_any L hL x b HX.out HB.out _).mono ?_; rintro e wx ⟨rfl, hwx⟩; obtain rfl := hwx.symm)
    | (go_at_call 6; refine (rfirst_any L hL x b HX.out HB.out _).mono ?_; rintro e w3 ⟨rfl, hb⟩; replace hB := hB.trans (hb.mono hB.size); replace s1 := s1.below hb; replace s2 := s2.below hb; replace o1 := owns_below o1 hb; replace o2 := owns_below o2 hb; clear hb)
    | (go_at_call 8; refine (rlist_own L hL n HN.out _).mono ?_; rintro e w4 ⟨sp4, cap4, rfl, s4, hb⟩; replace hB := hB.trans (hb.mono hB.size); replace s1 := s1.below hb; replace s2 := s2.below hb; replace o1 := owns_below o1 hb; replace o2 := owns_below o2 hb; clear hb)
    | (go_at_call_of 7 (Value.slice sp1 n cap1); refine (same_len s1 s4 HN.out (by omega) _ _).mono ?_; rintro e w5 ⟨rfl, hb⟩; replace hB := hB.trans (hb.mono hB.size); replace s1 := s1.below hb; replace s2 := s2.below hb; replace o1 := owns_below o1 hb; replace o2 := owns_below o2 hb; clear hb s4)
    | (go_at_call_of 7 (Value.slice sp2 n cap2); refine (same_len s2 s1 HN.out (by omega) _ _).mono ?_; rintro e w6 ⟨rfl, hb⟩; replace hB := hB.trans (hb.mono hB.size); replace o1 := owns_below o1 hb; replace o2 := owns_below o2 hb; clear hb s1 s2))
  have h1B : w.heap.size ≤ w1.heap.size := Nat.le_trans hB1.size (Nat.le_refl _)
  have HK0 : Hid (Bk w.heap.size (w6.alloc (.cells (bk 0 (.slice none 0 0)) 37)) w6.heap.size 0 (.slice none 0 0) []) := Bk.start hB.size
  have p1 := owns_below o1 (alloc_below w6 (.cells (bk 0 (.slice none 0 0)) 37))
  have p2 := owns_below (owns_base o2 h1B) (alloc_below w6 (.cells (bk 0 (.slice none 0 0)) 37))
  have hS : Hid (∀ g, (Value.slice sp1 n cap1).ownBlock = some g → (Value.slice sp2 n cap2).ownBlock ≠ some g) := fun g hg hg2 => by
    have := (h12 g hg).2
    have := (o2.lt g hg2).1
    omega
  have P1 : Hid ((w6.alloc (.cells (bk 0 (.slice none 0 0)) 37)).ownsRow w.heap.size 3 1 (.slice sp1 n cap1) n ((told L).map (Value.int .i64))) := p1
  have P2 : Hid ((w6.alloc (.cells (bk 0 (.slice none 0 0)) 37)).ownsRow w.heap.size 3 1 (.slice sp2 n cap2) n ((told L).map (Value.int .i64))) := p2
  have H7 : Hid (Below w.heap.size w (w6.alloc (.cells (bk 0 (.slice none 0 0)) 37))) := hB.trans ((alloc_below w6 _).mono hB.size)
  rw [show (#[Value.int IntKind.i64 0, Value.slice none 0 0, Value.slice none 0 0, Value.slice none 0 0, Value.slice none 0 0, Value.slice none 0 0, Value.slice none 0 0, Value.slice none 0 0, Value.slice none 0 0] : Array Value) = bk 0 (.slice none 0 0) from rfl]
  clear p1 p2 o1 o2 h12 h1B hB hB1
  generalize w6.alloc (.cells (bk 0 (.slice none 0 0)) 37) = w7 at *
  generalize w6.heap.size = K at *
  go_wp2_with (first
    | (go_at_call_of 9 (Value.pointer (some ⟨K, 0, none⟩)); clear M2; refine (put_any HK0.out (by simp) (by omega) sp1 n cap1).mono ?_; rintro e w8 ⟨rfl, v1, hb8, hu8⟩; have HK1 : Hid (Bk w.heap.size w8 K 1 v1 [⟨.slice sp1 n cap1, n, .slice none 0 0, 1⟩]) := hb8; have HU8 : Hid (Buts [K] w7 w8) := hu8; clear hb8 hu8)
    | (go_at_call 9; refine (put_any HK1.out (by simp) (by omega) sp2 n cap2).mono ?_; rintro e w9 ⟨rfl, v2, hb9, hu9⟩; have HK2 : Hid (Bk w.heap.size w9 K 2 v2 [⟨.slice sp1 n cap1, n, .slice none 0 0, 1⟩, ⟨.slice sp2 n cap2, n, .slice none 0 0, 2⟩]) := hb9; have HU9 : Hid (Buts (K :: v1.ownBlock.toList) w8 w9) := hu9; clear hb9 hu9)
    | (go_at_call 10; refine (two_apart HK0.out HK1.out HK2.out P1.out P2.out hS.out (by omega) H7.out HU8.out HU9.out).mono ?_; rintro e w10 ⟨rfl, hB⟩))
  go_ret
  exact ⟨rfl, hB⟩
theorem lists_row (a : Int) (b : 0 ≤ a ∧ a ≤ 4294967295) (w : World) :
    Calls Tryd.prog 3 #[.int .u32 a] w fun e w' => e = .returned (.bool true) ∧ Below w.heap.size w w' := by
  obtain ⟨l, rfl⟩ := Int.eq_ofNat_of_zero_le b.1
  exact lists_any l (by omega) w
end Go.Proofs.YtjcaiejbibhpiaaDoor
