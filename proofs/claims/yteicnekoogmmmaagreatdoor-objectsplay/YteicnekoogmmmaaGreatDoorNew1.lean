/- Things as they lie in memory, told by what they are plainly; and how they are made. -/
import Derived.Test.YteicnekoogmmmaaGreatDoorRowP
import Derived.Test.YteicnekoogmmmaaGreatDoorAwt
import Derived.Stop.Asserts
namespace Go.Proofs.YteicnekoogmmmaaGreatDoor
open Go Go.RowKit
set_option maxRecDepth 100000
set_option linter.unusedVariables false
/-- a thing, plainly: of what it is made; how many, or which flags; whose; the messages; the blocks' owners -/
structure Th where
  k : Int
  a : Int
  b : Int
  n : Nat
  o : Int
  row : List Int
  own : List Int
def hdc (k a b : Int) (t : TypeId) (f : Nat) : Array Value := #[.int .u8 k, .int .u32 a, .int .u32 b, .iface t (.pointer (some ⟨f, 0, none⟩))]
/-- a thing lies at p, its part at f, what turns at g -/
inductive Thg (w : World) (p f g : Nat) (T : Th) : Prop
  | sem (hk : T.k = 1) (hh : Blk w p (hdc T.k T.a T.b 74 f) 64) (hg : g = f) (hp : Blk w f (semc T.n T.b) 76) (hn : (T.n : Int) ≤ T.b) (hb : T.b ≤ 1073741824) : Thg w p f g T
  | mtx (hk : T.k = 2) (hh : Blk w p (hdc T.k T.a T.b 77 f) 64) (hg : g = f) (hp : Blk w f (onec T.o) 79) : Thg w p f g T
  | row (hk : T.k = 3) (hh : Blk w p (hdc T.k T.a T.b 83 f) 64) (hp : Blk w f (ptrc g) 85) (m : Nat) (hm : T.a = m) (hq : Que w g m T.row) : Thg w p f g T
  | flg (hk : T.k = 4) (hh : Blk w p (hdc T.k T.a T.b 86 f) 64) (hg : g = f) (hp : Blk w f (onec T.n) 88) (hn : T.n < 4294967296) : Thg w p f g T
  | pool (hk : T.k = 5) (hh : Blk w p (hdc T.k T.a T.b 92 f) 64) (hp : Blk w f (ptrc g) 94) (m : Nat) (hm : T.a = m) (hq : Pl.Pool w g m T.own) : Thg w p f g T
  | ala (hk : T.k = 6) (hh : Blk w p (hdc T.k T.a T.b 95 f) 64) (hg : g = f) (hp : Blk w f #[] 97) : Thg w p f g T
theorem Que.same {w w' : World} {p n : Nat} {xs : List Int} (h : Que w p n xs) (hb : w'.heap[p]? = w.heap[p]?) : Que w' p n xs := by
  obtain ⟨⟨f, ys, h1, h2, h3⟩, a, b, c⟩ := h
  exact ⟨⟨f, ys, h1, ⟨hb.trans h2.head, h2.len⟩, h3⟩, a, b, c⟩
theorem Thg.keep {w w' : World} {p f g : Nat} {T : Th} (h : Thg w p f g T) (hb : ∀ x, (x = p ∨ x = f ∨ x = g) → w'.heap[x]? = w.heap[x]?) : Thg w' p f g T := by
  cases h with
  | sem hk hh hg hp hn hb' => exact .sem hk ((hb p (Or.inl rfl)).trans hh) hg ((hb f (Or.inr (Or.inl rfl))).trans hp) hn hb'
  | mtx hk hh hg hp => exact .mtx hk ((hb p (Or.inl rfl)).trans hh) hg ((hb f (Or.inr (Or.inl rfl))).trans hp)
  | row hk hh hp m hm hq => exact .row hk ((hb p (Or.inl rfl)).trans hh) ((hb f (Or.inr (Or.inl rfl))).trans hp) m hm (hq.same (hb g (Or.inr (Or.inr rfl))))
  | flg hk hh hg hp hn => exact .flg hk ((hb p (Or.inl rfl)).trans hh) hg ((hb f (Or.inr (Or.inl rfl))).trans hp) hn
  | pool hk hh hp m hm hq => exact .pool hk ((hb p (Or.inl rfl)).trans hh) ((hb f (Or.inr (Or.inl rfl))).trans hp) m hm (hq.same (hb g (Or.inr (Or.inr rfl))))
  | ala hk hh hg hp => exact .ala hk ((hb p (Or.inl rfl)).trans hh) hg ((hb f (Or.inr (Or.inl rfl))).trans hp)
theorem Thg.lt {w : World} {p f g : Nat} {T : Th} (h : Thg w p f g T) : p < w.heap.size ∧ f < w.heap.size ∧ g < w.heap.size := by
  cases h with
  | sem hk hh hg hp hn hb => subst hg; exact ⟨hh.lt, hp.lt, hp.lt⟩
  | mtx hk hh hg hp => subst hg; exact ⟨hh.lt, hp.lt, hp.lt⟩
  | row hk hh hp m hm hq => exact ⟨hh.lt, hp.lt, hq.lt⟩
  | flg hk hh hg hp hn => subst hg; exact ⟨hh.lt, hp.lt, hp.lt⟩
  | pool hk hh hp m hm hq => exact ⟨hh.lt, hp.lt, hq.lt⟩
  | ala hk hh hg hp => subst hg; exact ⟨hh.lt, hp.lt, hp.lt⟩
theorem Thg.below {w w' : World} {p f g : Nat} {T : Th} (h : Thg w p f g T) (hb : Below w.heap.size w w') : Thg w' p f g T := by
  obtain ⟨h1, h2, h3⟩ := h.lt
  exact h.keep fun x hx => hb.block x (by rcases hx with rfl | rfl | rfl <;> assumption)
theorem Thg.buts {w w' : World} {p f g : Nat} {T : Th} {l : List Nat} (h : Thg w p f g T) (hb : Buts l w w') (n1 : p ∉ l) (n2 : f ∉ l) (n3 : g ∉ l) : Thg w' p f g T := by
  obtain ⟨h1, h2, h3⟩ := h.lt
  exact h.keep fun x hx => by rcases hx with rfl | rfl | rfl <;> exact hb.block _ (by assumption) (by assumption)
theorem two_blk (w : World) (o : Obj) (cs : Array Value) (t : TypeId) : Blk ((w.alloc o).alloc (.cells cs t)) (w.heap.size + 1) cs t ∧ Below w.heap.size w ((w.alloc o).alloc (.cells cs t)) := by
  have s1 := alloc_size w o
  have b1 := alloc_below w o
  have b2 := alloc_below (w.alloc o) (.cells cs t)
  refine ⟨?_, b1.trans (b2.mono (by omega))⟩
  rw [← s1]; exact alloc_at _ _
set_option maxHeartbeats 1000000 in
theorem part_sem {w : World} {a b : Int} (h : 0 ≤ a ∧ a ≤ b ∧ 1 ≤ b ∧ b ≤ 1073741824) :
    Calls Tryz.prog 16 #[.agg #[.int .u8 1, .int .u32 a, .int .u32 b]] w fun e w' => ∃ f, e = .returned (.iface 74 (.pointer (some ⟨f, 0, none⟩))) ∧ w.heap.size ≤ f ∧ Blk w' f (semc a b) 76 ∧ Below w.heap.size w w' := by
  have a1 : a ≤ b := h.2.1
  have a2 : 1 ≤ b := h.2.2.1
  have a3 : b ≤ 1073741824 := h.2.2.2
  go_enter Tryz.func16, Tryz.ntmps16
  go_wp2
  go_ret
  obtain ⟨h1, h2⟩ := two_blk w (.cells #[.int .u8 1, .int .u32 a, .int .u32 b] 25) (semc a b) 76
  exact ⟨_, rfl, Nat.le_succ _, h1, h2⟩
set_option maxHeartbeats 1000000 in
theorem part_mut {w : World} {a b : Int} (h : a = 0 ∧ b = 0) :
    Calls Tryz.prog 16 #[.agg #[.int .u8 2, .int .u32 a, .int .u32 b]] w fun e w' => ∃ f, e = .returned (.iface 77 (.pointer (some ⟨f, 0, none⟩))) ∧ w.heap.size ≤ f ∧ Blk w' f (onec 0) 79 ∧ Below w.heap.size w w' := by
  obtain ⟨rfl, rfl⟩ := h
  go_enter Tryz.func16, Tryz.ntmps16
  go_wp2
  go_ret
  obtain ⟨h1, h2⟩ := two_blk w (.cells #[.int .u8 2, .int .u32 0, .int .u32 0] 25) (onec 0) 79
  exact ⟨_, rfl, Nat.le_succ _, h1, h2⟩
set_option maxHeartbeats 1000000 in
theorem part_flg {w : World} {a b : Int} (h : b = 0) :
    Calls Tryz.prog 16 #[.agg #[.int .u8 4, .int .u32 a, .int .u32 b]] w fun e w' => ∃ f, e = .returned (.iface 86 (.pointer (some ⟨f, 0, none⟩))) ∧ w.heap.size ≤ f ∧ Blk w' f (onec a) 88 ∧ Below w.heap.size w w' := by
  subst h
  go_enter Tryz.func16, Tryz.ntmps16
  go_wp2
  go_ret
  obtain ⟨h1, h2⟩ := two_blk w (.cells #[.int .u8 4, .int .u32 a, .int .u32 0] 25) (onec a) 88
  exact ⟨_, rfl, Nat.le_succ _, h1, h2⟩
set_option maxHeartbeats 1000000 in
theorem part_ala {w : World} {a b : Int} (h : a ≠ 0) :
    Calls Tryz.prog 16 #[.agg #[.int .u8 6, .int .u32 a, .int .u32 b]] w fun e w' => ∃ f, e = .returned (.iface 95 (.pointer (some ⟨f, 0, none⟩))) ∧ w.heap.size ≤ f ∧ Blk w' f (#[]) 97 ∧ Below w.heap.size w w' := by
  have hz : (a != 0) = true := by simpa using h
  go_enter Tryz.func16, Tryz.ntmps16
  go_wp2
  go_ret
  obtain ⟨h1, h2⟩ := two_blk w (.cells #[.int .u8 6, .int .u32 a, .int .u32 b] 25) (#[]) 97
  exact ⟨_, rfl, Nat.le_succ _, h1, h2⟩
set_option maxHeartbeats 1000000 in
theorem part_row {w : World} {b : Int} (n : Nat) (h1 : 1 ≤ n) (h2 : n ≤ 64) (h : b = 0) :
    Calls Tryz.prog 16 #[.agg #[.int .u8 3, .int .u32 (n : Nat), .int .u32 b]] w fun e w' => ∃ f g, e = .returned (.iface 83 (.pointer (some ⟨f, 0, none⟩))) ∧ w.heap.size ≤ f ∧ w.heap.size ≤ g ∧ Blk w' f (ptrc g) 85 ∧ Que w' g n [] ∧ Below w.heap.size w w' := by
  subst h
  go_enter Tryz.func16, Tryz.ntmps16
  go_wp2_with (first
    | (go_at_call 50; refine (new_yes n h1 h2).mono ?_; rintro e w1 ⟨rfl, hq, hb⟩; have k2 : w1.cell? ⟨w.heap.size, 2, none⟩ = some (.int .u32 0) := (by rw [cell_of ((hb.block w.heap.size (by simp)).trans (alloc_at w _))]; rfl); have hq1 : Que w1 (w.heap.size + 1) n [] := (by simpa using hq); have HQ : Hid (Que w1 (w.heap.size + 1) n []) := hq1; clear hq1; have HB : Hid (Below w.heap.size w w1) := (alloc_below w _).trans (hb.mono (by simp)); clear hq hb))
  go_ret
  have b2 := alloc_below w1 (.cells (ptrc (w.heap.size + 1)) 85)
  exact ⟨_, _, rfl, HB.out.size, Nat.le_succ _, alloc_at w1 _, HQ.out.below b2, HB.out.trans (b2.mono HB.out.size)⟩
set_option maxHeartbeats 1000000 in
theorem part_pool {w : World} {b : Int} (n : Nat) (h1 : 1 ≤ n) (h2 : n ≤ 64) (h : 1 ≤ b ∧ b ≤ 256) :
    Calls Tryz.prog 16 #[.agg #[.int .u8 5, .int .u32 (n : Nat), .int .u32 b]] w fun e w' => ∃ f g, e = .returned (.iface 92 (.pointer (some ⟨f, 0, none⟩))) ∧ w.heap.size ≤ f ∧ w.heap.size ≤ g ∧ Blk w' f (ptrc g) 94 ∧ Pl.Pool w' g n (List.replicate n 0) ∧ Below w.heap.size w w' := by
  have HH : Hid (1 ≤ b ∧ b ≤ 256) := h
  go_enter Tryz.func16, Tryz.ntmps16
  go_wp2_with (first
    | (go_at_call 51; refine (Pl.new_yes n b h1 h2 HH.out).mono ?_; rintro e w1 ⟨rfl, hq, hb⟩; have k2 : w1.cell? ⟨w.heap.size, 2, none⟩ = some (.int .u32 b) := (by rw [cell_of ((hb.block w.heap.size (by simp)).trans (alloc_at w _))]; rfl); have hq1 : Pl.Pool w1 (w.heap.size + 1) n (List.replicate n 0) := (by simpa using hq); have HQ : Hid (Pl.Pool w1 (w.heap.size + 1) n (List.replicate n 0)) := hq1; clear hq1; have HB : Hid (Below w.heap.size w w1) := (alloc_below w _).trans (hb.mono (by simp)); clear hq hb))
  go_ret
  have b2 := alloc_below w1 (.cells (ptrc (w.heap.size + 1)) 94)
  exact ⟨_, _, rfl, HB.out.size, Nat.le_succ _, alloc_at w1 _, HQ.out.below b2, HB.out.trans (b2.mono HB.out.size)⟩
/-- what 'New' makes of a part -/
theorem new_of {w : World} {k a b : Int} {t : TypeId} (X : Nat → World → Prop) (HP : ∀ wx, Below w.heap.size w wx → Calls Tryz.prog 16 #[.agg #[.int .u8 k, .int .u32 a, .int .u32 b]] wx fun e w' => ∃ f, e = .returned (.iface t (.pointer (some ⟨f, 0, none⟩))) ∧ X f w' ∧ Below wx.heap.size wx w') :
    Calls Tryz.prog 5 #[.agg #[.int .u8 k, .int .u32 a, .int .u32 b]] w fun e w' => ∃ f w1, e = .returned (.tuple #[.pointer (some ⟨w1.heap.size, 0, none⟩), .int .i64 0]) ∧ X f w1 ∧ Below w.heap.size w w1 ∧ w' = w1.alloc (.cells (hdc k a b t f) 64) := by
  have HC : Hid (∀ wx, Below w.heap.size w wx → Calls Tryz.prog 16 #[.agg #[.int .u8 k, .int .u32 a, .int .u32 b]] wx fun e w' => ∃ f, e = .returned (.iface t (.pointer (some ⟨f, 0, none⟩))) ∧ X f w' ∧ Below wx.heap.size wx w') := HP
  have hbo := alloc_below w (.cells #[.int .u8 k, .int .u32 a, .int .u32 b] 25)
  have H0 : Hid ((w.alloc (.cells #[.int .u8 k, .int .u32 a, .int .u32 b] 25)).heap[w.heap.size]? = some (.cells #[.int .u8 k, .int .u32 a, .int .u32 b] 25 (0, 0))) := alloc_at w _
  have hs := alloc_size w (.cells #[.int .u8 k, .int .u32 a, .int .u32 b] 25)
  have HB0 : Hid (Below w.heap.size w (w.alloc (.cells #[.int .u8 k, .int .u32 a, .int .u32 b] 25))) := hbo
  clear HP hbo
  go_enter Tryz.func5, Tryz.ntmps5
  go_wp2_with (first
    | (go_at_call 16; refine (HC.out _ HB0.out).mono ?_; rintro e w1 ⟨f, rfl, hX, hb⟩; have HX : Hid (X f w1) := hX; have HB : Hid (Below w.heap.size w w1) := HB0.out.trans (hb.mono HB0.out.size); have K0 := (hb.block w.heap.size (by omega)).trans H0.out; have k0 : w1.cell? ⟨w.heap.size, 0, none⟩ = some (.int .u8 k) := (by rw [cell_of K0]; rfl); have k1 : w1.cell? ⟨w.heap.size, 1, none⟩ = some (.int .u32 a) := (by rw [cell_of K0]; rfl); have k2 : w1.cell? ⟨w.heap.size, 2, none⟩ = some (.int .u32 b) := (by rw [cell_of K0]; rfl); clear hX hb K0))
  go_ret2
  exact ⟨f, w1, rfl, HX.out, HB.out, rfl⟩
end Go.Proofs.YteicnekoogmmmaaGreatDoor
