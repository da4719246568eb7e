/- Things by their kinds, as they lie in memory, and what each answers. -/
import Derived.Test.YteicnekoogmmmaaGreatDoorTop
import Derived.Test.YteicnekoogmmmaaGreatDoorRowF
namespace Go.Proofs.YteicnekoogmmmaaGreatDoor
open Go Go.RowKit
set_option maxRecDepth 100000
set_option linter.unusedVariables false
structure Sm (w : World) (p f : Nat) (a b n : Int) : Prop where
  hh : Blk w p (hdc 1 a b 74 f) 64
  hp : Blk w f (semc n b) 76
  lo : 0 ≤ n
  hi : n ≤ b
  top : b ≤ 1073741824
structure Mx (w : World) (p f : Nat) (o : Int) : Prop where
  hh : Blk w p (hdc 2 0 0 77 f) 64
  hp : Blk w f (onec o) 79
structure Rq (w : World) (p f g m : Nat) (xs : List Int) : Prop where
  hh : Blk w p (hdc 3 (m : Nat) 0 83 f) 64
  hp : Blk w f (ptrc g) 85
  hq : Que w g m xs
structure Fg (w : World) (p f : Nat) (a : Int) (n : Nat) : Prop where
  hh : Blk w p (hdc 4 a 0 86 f) 64
  hp : Blk w f (onec (n : Nat)) 88
  hi : n < 4294967296
structure Po (w : World) (p f g m : Nat) (b : Int) (zs : List Int) : Prop where
  hh : Blk w p (hdc 5 (m : Nat) b 92 f) 64
  hp : Blk w f (ptrc g) 94
  hq : Pl.Pool w g m zs
structure Al (w : World) (p f : Nat) (a b : Int) : Prop where
  hh : Blk w p (hdc 6 a b 95 f) 64
theorem Que.blk {w : World} {g m : Nat} {xs : List Int} (h : Que w g m xs) : ∃ cs, Blk w g cs 157 := by
  obtain ⟨f, ys, hf, hr, hh⟩ := h.raw
  exact ⟨_, hr.head⟩
theorem Pl.Pool.blk {w : World} {g m : Nat} {zs : List Int} (h : Pl.Pool w g m zs) : ∃ cs, Blk w g cs 159 := ⟨_, h.head⟩
theorem pl_buts {w w' : World} {p n : Nat} {zs : List Int} {l : List Nat} (h : Pl.Pool w p n zs) (hb : Buts l w w') (hp : p ∉ l) : Pl.Pool w' p n zs := h.same (hb.block p h.lt hp)
theorem Rq.ne {w : World} {p f g m : Nat} {xs : List Int} (h : Rq w p f g m xs) : p ≠ f ∧ p ≠ g ∧ f ≠ g := by
  obtain ⟨cs, hq⟩ := h.hq.blk
  exact ⟨h.hh.ne h.hp (by decide), h.hh.ne hq (by decide), h.hp.ne hq (by decide)⟩
theorem Po.ne {w : World} {p f g m : Nat} {b : Int} {zs : List Int} (h : Po w p f g m b zs) : p ≠ f ∧ p ≠ g ∧ f ≠ g := by
  obtain ⟨cs, hq⟩ := h.hq.blk
  exact ⟨h.hh.ne h.hp (by decide), h.hh.ne hq (by decide), h.hp.ne hq (by decide)⟩
theorem Sm.ne {w : World} {p f : Nat} {a b n : Int} (h : Sm w p f a b n) : p ≠ f := h.hh.ne h.hp (by decide)
theorem Mx.ne {w : World} {p f : Nat} {o : Int} (h : Mx w p f o) : p ≠ f := h.hh.ne h.hp (by decide)
theorem Fg.ne {w : World} {p f : Nat} {a : Int} {n : Nat} (h : Fg w p f a n) : p ≠ f := h.hh.ne h.hp (by decide)
theorem Sm.buts {w w' : World} {p f : Nat} {a b n : Int} {l : List Nat} (h : Sm w p f a b n) (hb : Buts l w w') (h1 : p ∉ l) (h2 : f ∉ l) : Sm w' p f a b n := ⟨h.hh.buts hb h1, h.hp.buts hb h2, h.lo, h.hi, h.top⟩
theorem Mx.buts {w w' : World} {p f : Nat} {o : Int} {l : List Nat} (h : Mx w p f o) (hb : Buts l w w') (h1 : p ∉ l) (h2 : f ∉ l) : Mx w' p f o := ⟨h.hh.buts hb h1, h.hp.buts hb h2⟩
theorem Rq.buts {w w' : World} {p f g m : Nat} {xs : List Int} {l : List Nat} (h : Rq w p f g m xs) (hb : Buts l w w') (h1 : p ∉ l) (h2 : f ∉ l) (h3 : g ∉ l) : Rq w' p f g m xs := ⟨h.hh.buts hb h1, h.hp.buts hb h2, h.hq.buts hb h3⟩
theorem Fg.buts {w w' : World} {p f : Nat} {a : Int} {n : Nat} {l : List Nat} (h : Fg w p f a n) (hb : Buts l w w') (h1 : p ∉ l) (h2 : f ∉ l) : Fg w' p f a n := ⟨h.hh.buts hb h1, h.hp.buts hb h2, h.hi⟩
theorem Po.buts {w w' : World} {p f g m : Nat} {b : Int} {zs : List Int} {l : List Nat} (h : Po w p f g m b zs) (hb : Buts l w w') (h1 : p ∉ l) (h2 : f ∉ l) (h3 : g ∉ l) : Po w' p f g m b zs := ⟨h.hh.buts hb h1, h.hp.buts hb h2, pl_buts h.hq hb h3⟩
theorem Sm.below {w w' : World} {p f : Nat} {a b n : Int} (h : Sm w p f a b n) (hb : Below w.heap.size w w') : Sm w' p f a b n := h.buts (Buts.of (l := []) hb) (by simp) (by simp)
theorem Mx.below {w w' : World} {p f : Nat} {o : Int} (h : Mx w p f o) (hb : Below w.heap.size w w') : Mx w' p f o := h.buts (Buts.of (l := []) hb) (by simp) (by simp)
theorem Rq.below {w w' : World} {p f g m : Nat} {xs : List Int} (h : Rq w p f g m xs) (hb : Below w.heap.size w w') : Rq w' p f g m xs := h.buts (Buts.of (l := []) hb) (by simp) (by simp) (by simp)
theorem Fg.below {w w' : World} {p f : Nat} {a : Int} {n : Nat} (h : Fg w p f a n) (hb : Below w.heap.size w w') : Fg w' p f a n := h.buts (Buts.of (l := []) hb) (by simp) (by simp)
theorem Po.below {w w' : World} {p f g m : Nat} {b : Int} {zs : List Int} (h : Po w p f g m b zs) (hb : Below w.heap.size w w') : Po w' p f g m b zs := h.buts (Buts.of (l := []) hb) (by simp) (by simp) (by simp)
theorem new_sem {w : World} {a b : Int} (h : 0 ≤ a ∧ a ≤ b ∧ 1 ≤ b ∧ b ≤ 1073741824) :
    Calls Tryz.prog 5 #[.agg #[.int .u8 1, .int .u32 a, .int .u32 b]] w fun e w' => ∃ p f, e = .returned (.tuple #[.pointer (some ⟨p, 0, none⟩), .int .i64 0]) ∧ Sm w' p f a b a ∧ w.heap.size ≤ p ∧ w.heap.size ≤ f ∧ Below w.heap.size w w' := by
  refine (new_of (fun f w' => w.heap.size ≤ f ∧ Blk w' f (semc a b) 76) fun wx hb => (part_sem h).mono fun e w' ⟨f, he, h1, h2, h3⟩ => ⟨f, he, ⟨Nat.le_trans hb.size h1, h2⟩, h3⟩).mono ?_
  rintro e w' ⟨f, w1, rfl, ⟨h1, h2⟩, h3, rfl⟩
  have b2 := alloc_below w1 (.cells (hdc 1 a b 74 f) 64)
  exact ⟨_, f, rfl, ⟨alloc_at w1 _, h2.below b2, h.1, h.2.1, h.2.2.2⟩, h3.size, h1, h3.trans (b2.mono h3.size)⟩
theorem new_mut {w : World} :
    Calls Tryz.prog 5 #[.agg #[.int .u8 2, .int .u32 0, .int .u32 0]] w fun e w' => ∃ p f, e = .returned (.tuple #[.pointer (some ⟨p, 0, none⟩), .int .i64 0]) ∧ Mx w' p f 0 ∧ w.heap.size ≤ p ∧ w.heap.size ≤ f ∧ Below w.heap.size w w' := by
  refine (new_of (fun f w' => w.heap.size ≤ f ∧ Blk w' f (onec 0) 79) fun wx hb => (part_mut ⟨rfl, rfl⟩).mono fun e w' ⟨f, he, h1, h2, h3⟩ => ⟨f, he, ⟨Nat.le_trans hb.size h1, h2⟩, h3⟩).mono ?_
  rintro e w' ⟨f, w1, rfl, ⟨h1, h2⟩, h3, rfl⟩
  have b2 := alloc_below w1 (.cells (hdc 2 0 0 77 f) 64)
  exact ⟨_, f, rfl, ⟨alloc_at w1 _, h2.below b2⟩, h3.size, h1, h3.trans (b2.mono h3.size)⟩
theorem new_flg {w : World} (n : Nat) (hn : n < 4294967296) :
    Calls Tryz.prog 5 #[.agg #[.int .u8 4, .int .u32 (n : Nat), .int .u32 0]] w fun e w' => ∃ p f, e = .returned (.tuple #[.pointer (some ⟨p, 0, none⟩), .int .i64 0]) ∧ Fg w' p f (n : Nat) n ∧ w.heap.size ≤ p ∧ w.heap.size ≤ f ∧ Below w.heap.size w w' := by
  refine (new_of (fun f w' => w.heap.size ≤ f ∧ Blk w' f (onec (n : Nat)) 88) fun wx hb => (part_flg rfl).mono fun e w' ⟨f, he, h1, h2, h3⟩ => ⟨f, he, ⟨Nat.le_trans hb.size h1, h2⟩, h3⟩).mono ?_
  rintro e w' ⟨f, w1, rfl, ⟨h1, h2⟩, h3, rfl⟩
  have b2 := alloc_below w1 (.cells (hdc 4 (n : Nat) 0 86 f) 64)
  exact ⟨_, f, rfl, ⟨alloc_at w1 _, h2.below b2, hn⟩, h3.size, h1, h3.trans (b2.mono h3.size)⟩
theorem new_ala {w : World} {a b : Int} (h : a ≠ 0) :
    Calls Tryz.prog 5 #[.agg #[.int .u8 6, .int .u32 a, .int .u32 b]] w fun e w' => ∃ p f, e = .returned (.tuple #[.pointer (some ⟨p, 0, none⟩), .int .i64 0]) ∧ Al w' p f a b ∧ w.heap.size ≤ p ∧ w.heap.size ≤ f ∧ Below w.heap.size w w' := by
  refine (new_of (fun f w' => w.heap.size ≤ f) fun wx hb => (part_ala h).mono fun e w' ⟨f, he, h1, h2, h3⟩ => ⟨f, he, Nat.le_trans hb.size h1, h3⟩).mono ?_
  rintro e w' ⟨f, w1, rfl, h1, h3, rfl⟩
  have b2 := alloc_below w1 (.cells (hdc 6 a b 95 f) 64)
  exact ⟨_, f, rfl, ⟨alloc_at w1 _⟩, h3.size, h1, h3.trans (b2.mono h3.size)⟩
theorem new_row {w : World} (m : Nat) (h1 : 1 ≤ m) (h2 : m ≤ 64) :
    Calls Tryz.prog 5 #[.agg #[.int .u8 3, .int .u32 (m : Nat), .int .u32 0]] w fun e w' => ∃ p f g, e = .returned (.tuple #[.pointer (some ⟨p, 0, none⟩), .int .i64 0]) ∧ Rq w' p f g m [] ∧ w.heap.size ≤ p ∧ w.heap.size ≤ f ∧ w.heap.size ≤ g ∧ Below w.heap.size w w' := by
  refine (new_of (fun f w' => ∃ g, w.heap.size ≤ f ∧ w.heap.size ≤ g ∧ Blk w' f (ptrc g) 85 ∧ Que w' g m []) fun wx hb => (part_row m h1 h2 rfl).mono fun e w' ⟨f, g, he, h1, h2, h3, h4, h5⟩ => ⟨f, he, ⟨g, Nat.le_trans hb.size h1, Nat.le_trans hb.size h2, h3, h4⟩, h5⟩).mono ?_
  rintro e w' ⟨f, w1, rfl, ⟨g, h1, h2, h3, h4⟩, h5, rfl⟩
  have b2 := alloc_below w1 (.cells (hdc 3 (m : Nat) 0 83 f) 64)
  exact ⟨_, f, g, rfl, ⟨alloc_at w1 _, h3.below b2, h4.below b2⟩, h5.size, h1, h2, h5.trans (b2.mono h5.size)⟩
theorem new_pool {w : World} (m : Nat) {b : Int} (h1 : 1 ≤ m) (h2 : m ≤ 64) (hb : 1 ≤ b ∧ b ≤ 256) :
    Calls Tryz.prog 5 #[.agg #[.int .u8 5, .int .u32 (m : Nat), .int .u32 b]] w fun e w' => ∃ p f g, e = .returned (.tuple #[.pointer (some ⟨p, 0, none⟩), .int .i64 0]) ∧ Po w' p f g m b (List.replicate m 0) ∧ w.heap.size ≤ p ∧ w.heap.size ≤ f ∧ w.heap.size ≤ g ∧ Below w.heap.size w w' := by
  refine (new_of (fun f w' => ∃ g, w.heap.size ≤ f ∧ w.heap.size ≤ g ∧ Blk w' f (ptrc g) 94 ∧ Pl.Pool w' g m (List.replicate m 0)) fun wx hbw => (part_pool m h1 h2 hb).mono fun e w' ⟨f, g, he, h1, h2, h3, h4, h5⟩ => ⟨f, he, ⟨g, Nat.le_trans hbw.size h1, Nat.le_trans hbw.size h2, h3, h4⟩, h5⟩).mono ?_
  rintro e w' ⟨f, w1, rfl, ⟨g, h1, h2, h3, h4⟩, h5, rfl⟩
  have b2 := alloc_below w1 (.cells (hdc 5 (m : Nat) b 92 f) 64)
  exact ⟨_, f, g, rfl, ⟨alloc_at w1 _, h3.below b2, h4.below b2⟩, h5.size, h1, h2, h5.trans (b2.mono h5.size)⟩
theorem sm_take {w : World} {p f : Nat} {a b n : Int} (h : Sm w p f a b n) (who ah av am aw : Int) (hw : 0 < who ∧ who ≤ 4294967295) :
    Calls Tryz.prog 7 #[.pointer (some ⟨p, 0, none⟩), .int .u32 who, .agg #[.int .u8 3, .int .u32 ah, .int .u32 av, .int .u32 am, .int .i64 aw]] w fun e w' => e = .returned (.tuple #[.int .u32 (0), .int .i64 (if n = 0 then 7 else 0)]) ∧ Sm w' p f a b (if n = 0 then n else n - 1) ∧ Buts [f] w w' :=
  try_sem h.hh (by decide) who 3 ah av am aw (by omega) (by decide) (fun wx hb => (sem_take (h.hp.below hb) ⟨h.lo, by have := h.hi; have := h.top; omega⟩ who ah av am aw).mono fun e w' ⟨he, h2, h3⟩ =>
    ⟨he, ⟨(h.hh.below hb).buts h3 (by simpa using h.ne), h2, by have := h.lo; split <;> omega, by have := h.hi; split <;> omega, h.top⟩, (Buts.of hb).trans h3⟩)
theorem sm_give {w : World} {p f : Nat} {a b n : Int} (h : Sm w p f a b n) (who ah av am aw : Int) (hw : 0 < who ∧ who ≤ 4294967295) :
    Calls Tryz.prog 7 #[.pointer (some ⟨p, 0, none⟩), .int .u32 who, .agg #[.int .u8 4, .int .u32 ah, .int .u32 av, .int .u32 am, .int .i64 aw]] w fun e w' => e = .returned (.tuple #[.int .u32 (0), .int .i64 (if n = b then 10 else 0)]) ∧ Sm w' p f a b (if n = b then n else n + 1) ∧ Buts [f] w w' :=
  try_sem h.hh (by decide) who 4 ah av am aw (by omega) (by decide) (fun wx hb => (sem_give (h.hp.below hb) ⟨h.lo, h.hi⟩ h.top who ah av am aw).mono fun e w' ⟨he, h2, h3⟩ =>
    ⟨he, ⟨(h.hh.below hb).buts h3 (by simpa using h.ne), h2, by have := h.lo; split <;> omega, by have := h.hi; split <;> omega, h.top⟩, (Buts.of hb).trans h3⟩)
theorem mx_lock {w : World} {p f : Nat} {o : Int} (h : Mx w p f o) (who ah av am aw : Int) (hw : 0 < who ∧ who ≤ 4294967295) :
    Calls Tryz.prog 7 #[.pointer (some ⟨p, 0, none⟩), .int .u32 who, .agg #[.int .u8 5, .int .u32 ah, .int .u32 av, .int .u32 am, .int .i64 aw]] w fun e w' => e = .returned (.tuple #[.int .u32 (0), .int .i64 (if o = who then 13 else if o ≠ 0 then 7 else 0)]) ∧ Mx w' p f (if o = who then o else if o ≠ 0 then o else who) ∧ Buts [f] w w' :=
  try_mut h.hh (by decide) who 5 ah av am aw (by omega) (by decide) (fun wx hb => (mut_lock (h.hp.below hb) who ah av am aw).mono fun e w' ⟨he, h2, h3⟩ =>
    ⟨he, ⟨(h.hh.below hb).buts h3 (by simpa using h.ne), h2⟩, (Buts.of hb).trans h3⟩)
theorem mx_unlock {w : World} {p f : Nat} {o : Int} (h : Mx w p f o) (who ah av am aw : Int) (hw : 0 < who ∧ who ≤ 4294967295) :
    Calls Tryz.prog 7 #[.pointer (some ⟨p, 0, none⟩), .int .u32 who, .agg #[.int .u8 6, .int .u32 ah, .int .u32 av, .int .u32 am, .int .i64 aw]] w fun e w' => e = .returned (.tuple #[.int .u32 (0), .int .i64 (if o = who then 0 else 13)]) ∧ Mx w' p f (if o = who then 0 else o) ∧ Buts [f] w w' :=
  try_mut h.hh (by decide) who 6 ah av am aw (by omega) (by decide) (fun wx hb => (mut_unlock (h.hp.below hb) who ah av am aw).mono fun e w' ⟨he, h2, h3⟩ =>
    ⟨he, ⟨(h.hh.below hb).buts h3 (by simpa using h.ne), h2⟩, (Buts.of hb).trans h3⟩)
theorem rq_put {w : World} {p f g m : Nat} {xs : List Int} (h : Rq w p f g m xs) (who ah av am aw : Int) (hw : 0 < who ∧ who ≤ 4294967295) :
    Calls Tryz.prog 7 #[.pointer (some ⟨p, 0, none⟩), .int .u32 who, .agg #[.int .u8 7, .int .u32 ah, .int .u32 av, .int .u32 am, .int .i64 aw]] w fun e w' => e = .returned (.tuple #[.int .u32 (0), .int .i64 (ny (addE xs m))]) ∧ Rq w' p f g m (putL xs m av) ∧ Buts [g] w w' :=
  try_row h.hh (by decide) who 7 ah av am aw (by omega) (by decide) (fun wx hb => (row_put (h.hp.below hb) (h.hq.below hb) who ah av am aw).mono fun e w' ⟨he, h2, h3⟩ =>
    ⟨he, ⟨(h.hh.below hb).buts h3 (by simpa using h.ne.2.1), (h.hp.below hb).buts h3 (by simpa using h.ne.2.2), h2⟩, (Buts.of hb).trans h3⟩)
theorem rq_push {w : World} {p f g m : Nat} {xs : List Int} (h : Rq w p f g m xs) (who ah av am aw : Int) (hw : 0 < who ∧ who ≤ 4294967295) :
    Calls Tryz.prog 7 #[.pointer (some ⟨p, 0, none⟩), .int .u32 who, .agg #[.int .u8 8, .int .u32 ah, .int .u32 av, .int .u32 am, .int .i64 aw]] w fun e w' => e = .returned (.tuple #[.int .u32 (0), .int .i64 (ny (addE xs m))]) ∧ Rq w' p f g m (pushL xs m av) ∧ Buts [g] w w' :=
  try_row h.hh (by decide) who 8 ah av am aw (by omega) (by decide) (fun wx hb => (row_push (h.hp.below hb) (h.hq.below hb) who ah av am aw).mono fun e w' ⟨he, h2, h3⟩ =>
    ⟨he, ⟨(h.hh.below hb).buts h3 (by simpa using h.ne.2.1), (h.hp.below hb).buts h3 (by simpa using h.ne.2.2), h2⟩, (Buts.of hb).trans h3⟩)
theorem rq_get {w : World} {p f g m : Nat} {xs : List Int} (h : Rq w p f g m xs) (who ah av am aw : Int) (hw : 0 < who ∧ who ≤ 4294967295) :
    Calls Tryz.prog 7 #[.pointer (some ⟨p, 0, none⟩), .int .u32 who, .agg #[.int .u8 9, .int .u32 ah, .int .u32 av, .int .u32 am, .int .i64 aw]] w fun e w' => e = .returned (.tuple #[.int .u32 (xs.headD 0), .int .i64 (ny (takeE xs))]) ∧ Rq w' p f g m (xs.tail) ∧ Buts [g] w w' :=
  try_row h.hh (by decide) who 9 ah av am aw (by omega) (by decide) (fun wx hb => (row_get (h.hp.below hb) (h.hq.below hb) who ah av am aw).mono fun e w' ⟨he, h2, h3⟩ =>
    ⟨he, ⟨(h.hh.below hb).buts h3 (by simpa using h.ne.2.1), (h.hp.below hb).buts h3 (by simpa using h.ne.2.2), h2⟩, (Buts.of hb).trans h3⟩)
theorem rq_peek {w : World} {p f g m : Nat} {xs : List Int} (h : Rq w p f g m xs) (who ah av am aw : Int) (hw : 0 < who ∧ who ≤ 4294967295) :
    Calls Tryz.prog 7 #[.pointer (some ⟨p, 0, none⟩), .int .u32 who, .agg #[.int .u8 10, .int .u32 ah, .int .u32 av, .int .u32 am, .int .i64 aw]] w fun e w' => e = .returned (.tuple #[.int .u32 (xs.headD 0), .int .i64 (takeE xs)]) ∧ Below w.heap.size w w' :=
  try_row h.hh (by decide) who 10 ah av am aw (by omega) (by decide) (fun wx hb => (row_peek (h.hp.below hb) (h.hq.below hb) who ah av am aw).mono fun e w' ⟨he, h2⟩ => ⟨he, hb.trans (h2.mono hb.size)⟩)
theorem po_alloc {w : World} {p f g m : Nat} {b : Int} {zs : List Int} (h : Po w p f g m b zs) (who ah av am aw : Int) (hw : 0 < who ∧ who ≤ 4294967295) :
    Calls Tryz.prog 7 #[.pointer (some ⟨p, 0, none⟩), .int .u32 who, .agg #[.int .u8 14, .int .u32 ah, .int .u32 av, .int .u32 am, .int .i64 aw]] w fun e w' => e = .returned (.tuple #[.int .u32 (alV zs), .int .i64 (alE zs)]) ∧ Po w' p f g m b (alL zs who) ∧ Buts [g] w w' :=
  try_pool h.hh (by decide) who 14 ah av am aw (by omega) (by decide) (fun wx hb => (pool_alloc (h.hp.below hb) (h.hq.below hb) who ah av am aw hw).mono fun e w' ⟨he, h2, h3⟩ =>
    ⟨he, ⟨(h.hh.below hb).buts h3 (by simpa using h.ne.2.1), (h.hp.below hb).buts h3 (by simpa using h.ne.2.2), h2⟩, (Buts.of hb).trans h3⟩)
theorem po_free {w : World} {p f g m : Nat} {b : Int} {zs : List Int} (h : Po w p f g m b zs) (v : Nat) (hv : v < 4294967296) (who ah am aw : Int) (hw : 0 < who ∧ who ≤ 4294967295) :
    Calls Tryz.prog 7 #[.pointer (some ⟨p, 0, none⟩), .int .u32 who, .agg #[.int .u8 15, .int .u32 ah, .int .u32 (v : Nat), .int .u32 am, .int .i64 aw]] w fun e w' => e = .returned (.tuple #[.int .u32 (0), .int .i64 (frE zs who v)]) ∧ Po w' p f g m b (frL zs who v) ∧ Buts [g] w w' :=
  try_pool h.hh (by decide) who 15 ah (v : Nat) am aw (by omega) (by decide) (fun wx hb => (pool_free (h.hp.below hb) (h.hq.below hb) who ah am aw v hv hw).mono fun e w' ⟨he, h2, h3⟩ =>
    ⟨he, ⟨(h.hh.below hb).buts h3 (by simpa using h.ne.2.1), (h.hp.below hb).buts h3 (by simpa using h.ne.2.2), h2⟩, (Buts.of hb).trans h3⟩)
theorem mx_leave {w : World} {p f : Nat} {o : Int} (h : Mx w p f o) (who : Int) (hw : 0 < who) :
    Calls Tryz.prog 8 #[.pointer (some ⟨p, 0, none⟩), .int .u32 who] w fun e w' => e = .returned (.bool (decide (o = who))) ∧ Mx w' p f (if o = who then 0 else o) ∧ Buts [f] w w' :=
  leave_of h.hh who (by omega) ((back_mut h.hp who).mono fun e w' ⟨he, h2, h3⟩ => ⟨he, ⟨h.hh.buts h3 (by simpa using h.ne), h2⟩, h3⟩)
theorem po_leave {w : World} {p f g m : Nat} {b : Int} {zs : List Int} (h : Po w p f g m b zs) (who : Int) (hw : 0 < who) :
    Calls Tryz.prog 8 #[.pointer (some ⟨p, 0, none⟩), .int .u32 who] w fun e w' => e = .returned (.bool (decide (0 < Pl.cnt who zs))) ∧ Po w' p f g m b (Pl.clr who zs) ∧ Buts [g] w w' :=
  leave_of h.hh who (by omega) ((back_pool h.hp h.hq who hw).mono fun e w' ⟨he, h2, h3⟩ => ⟨he, ⟨h.hh.buts h3 (by simpa using h.ne.2.1), h.hp.buts h3 (by simpa using h.ne.2.2), h2⟩, h3⟩)
def Seen (k a b c o : Int) (xs zs : List Int) (w : World) (e : Ending) (w' : World) : Prop := ∃ s1 n1 c1 s2 n2 c2, e = .returned (.agg (seec k a b c o (.slice s1 n1 c1) (.slice s2 n2 c2))) ∧ Lst w' w.heap.size (.slice s1 n1 c1) xs ∧ Lst w' w.heap.size (.slice s2 n2 c2) zs ∧ Below w.heap.size w w'
theorem sm_see {w : World} {p f : Nat} {a b n : Int} (h : Sm w p f a b n) : Calls Tryz.prog 11 #[.pointer (some ⟨p, 0, none⟩)] w (Seen 1 a b n 0 [] [] w) :=
  see_of h.hh fun wx hb => (seen_sem (h.hp.below hb)).mono fun e w' ⟨he, h2⟩ => ⟨none, 0, 0, none, 0, 0, he, Lst.nil _ _, Lst.nil _ _, h2⟩
theorem mx_see {w : World} {p f : Nat} {o : Int} (h : Mx w p f o) : Calls Tryz.prog 11 #[.pointer (some ⟨p, 0, none⟩)] w (Seen 2 0 0 0 o [] [] w) :=
  see_of h.hh fun wx hb => (seen_mut (h.hp.below hb)).mono fun e w' ⟨he, h2⟩ => ⟨none, 0, 0, none, 0, 0, he, Lst.nil _ _, Lst.nil _ _, h2⟩
theorem fg_see {w : World} {p f : Nat} {a : Int} {n : Nat} (h : Fg w p f a n) : Calls Tryz.prog 11 #[.pointer (some ⟨p, 0, none⟩)] w (Seen 4 a 0 (n : Nat) 0 [] [] w) :=
  see_of h.hh fun wx hb => (seen_flg (h.hp.below hb)).mono fun e w' ⟨he, h2⟩ => ⟨none, 0, 0, none, 0, 0, he, Lst.nil _ _, Lst.nil _ _, h2⟩
theorem al_see {w : World} {p f : Nat} {a b : Int} (h : Al w p f a b) : Calls Tryz.prog 11 #[.pointer (some ⟨p, 0, none⟩)] w (Seen 6 a b 0 0 [] [] w) :=
  see_of h.hh fun wx hb => seen_ala.mono fun e w' ⟨he, h2⟩ => ⟨none, 0, 0, none, 0, 0, he, Lst.nil _ _, Lst.nil _ _, h2⟩
theorem rq_see {w : World} {p f g m : Nat} {xs : List Int} (h : Rq w p f g m xs) : Calls Tryz.prog 11 #[.pointer (some ⟨p, 0, none⟩)] w (Seen 3 (m : Nat) 0 0 0 xs [] w) :=
  see_of h.hh fun wx hb => (seen_row (h.hp.below hb) (h.hq.below hb)).mono fun e w' ⟨z, he, h1, h2, h3⟩ => ⟨_, _, _, none, 0, 0, he, Lst.row h2 h1 (by have := h.hq.len; have := h.hq.hi; omega), Lst.nil _ _, h3⟩
theorem po_see {w : World} {p f g m : Nat} {b : Int} {zs : List Int} (h : Po w p f g m b zs) : Calls Tryz.prog 11 #[.pointer (some ⟨p, 0, none⟩)] w (Seen 5 (m : Nat) b (Pl.cnt 0 zs : Nat) 0 [] zs w) :=
  see_of h.hh fun wx hb => (seen_pool (h.hp.below hb) (h.hq.below hb)).mono fun e w' ⟨z, c, he, h1, h2⟩ => ⟨none, 0, 0, _, _, _, he, Lst.nil _ _, (by have hl := h.hq.len; subst hl; exact h1), h2⟩
end Go.Proofs.YteicnekoogmmmaaGreatDoor
