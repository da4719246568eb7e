/- What a queue, and a pool, that are things answer. -/
import Derived.Test.YteicnekoogmmmaaGreatDoorParts
import Derived.Test.YteicnekoogmmmaaGreatDoorPOwners
import Derived.Deep.RegionWith
namespace Go.Proofs.YteicnekoogmmmaaGreatDoor
open Go Go.RowKit
set_option maxRecDepth 100000
set_option linter.unusedVariables false
def ptrc (q : Nat) : Array Value := #[.pointer (some ⟨q, 0, none⟩)]
/-- what it means to who asks -/
def ny (e : Int) : Int := if e = 10 ∨ e = 11 then 7 else e
theorem ny_any (e0 : Int) (w : World) : Calls Tryz.prog 125 #[.int .i64 e0] w fun e w' => e = .returned (.int .i64 (ny e0)) ∧ w = w' := notYet_any e0 w
theorem but_buts {g : Nat} {w w' : World} (h : Pl.But g w w') : Buts [g] w w' := ⟨h.os, h.tape, h.output, h.size, fun k hk hg => h.block k hk (by simpa using hg)⟩
set_option maxHeartbeats 1000000 in
theorem row_put {w : World} {g q n : Nat} {xs : List Int} (h : Blk w g (ptrc q) 85) (hq : Que w q n xs) (who ah av am aw : Int) :
    Calls Tryz.prog 124 #[.pointer (some ⟨g, 0, none⟩), .int .u32 who, .agg #[.int .u8 7, .int .u32 ah, .int .u32 av, .int .u32 am, .int .i64 aw]] w fun e w' => e = .returned (.tuple #[.int .u32 0, .int .i64 (ny (addE xs n))]) ∧ Que w' q n (putL xs n av) ∧ Buts [q] w w' := by
  have HQ : Hid (Que w q n xs) := hq
  have hlt := h.lt
  have c0 : w.cell? ⟨g, 0, none⟩ = some (.pointer (some ⟨q, 0, none⟩)) := by rw [h.cell]; rfl
  have HN : Hid (∀ e0 w, Calls Tryz.prog 125 #[.int .i64 e0] w fun e w' => e = .returned (.int .i64 (ny e0)) ∧ w = w') := ny_any
  have HP : Hid (∀ wx, Below w.heap.size w wx → Calls Tryz.prog 126 #[.pointer (some ⟨q, 0, none⟩), .int .u32 av] wx fun e w' => e = .returned (.int .i64 (addE xs n)) ∧ Que w' q n (putL xs n av) ∧ Buts [q] w w') :=
    fun wx hb => (put_any (HQ.out.below hb) av).mono fun e w' ⟨he, hr, hb'⟩ => ⟨he, hr, (Buts.of hb).trans hb'⟩
  clear h hq
  generalize addE xs n = x at *
  generalize putL xs n av = ys at *
  go_enter Tryz.func124, Tryz.ntmps124
  go_wp2
  go_region_with (first
    | (go_at_call 126; refine (HP.out _ (alloc_below w _).drew).mono ?_; rintro e w1 ⟨rfl, hr, hb⟩; have HR : Hid (Que w1 q n ys) := hr; have HBt : Hid (Buts [q] w w1) := hb; clear hr hb)
    | (go_at_call 125; refine (HN.out _ _).mono ?_; rintro e wx ⟨rfl, rfl⟩))
  all_goals
    go_wp2
    go_ret2
    exact ⟨rfl, HR.out, HBt.out⟩
set_option maxHeartbeats 1000000 in
theorem row_push {w : World} {g q n : Nat} {xs : List Int} (h : Blk w g (ptrc q) 85) (hq : Que w q n xs) (who ah av am aw : Int) :
    Calls Tryz.prog 124 #[.pointer (some ⟨g, 0, none⟩), .int .u32 who, .agg #[.int .u8 8, .int .u32 ah, .int .u32 av, .int .u32 am, .int .i64 aw]] w fun e w' => e = .returned (.tuple #[.int .u32 0, .int .i64 (ny (addE xs n))]) ∧ Que w' q n (pushL xs n av) ∧ Buts [q] w w' := by
  have HQ : Hid (Que w q n xs) := hq
  have hlt := h.lt
  have c0 : w.cell? ⟨g, 0, none⟩ = some (.pointer (some ⟨q, 0, none⟩)) := by rw [h.cell]; rfl
  have HN : Hid (∀ e0 w, Calls Tryz.prog 125 #[.int .i64 e0] w fun e w' => e = .returned (.int .i64 (ny e0)) ∧ w = w') := ny_any
  have HP : Hid (∀ wx, Below w.heap.size w wx → Calls Tryz.prog 127 #[.pointer (some ⟨q, 0, none⟩), .int .u32 av] wx fun e w' => e = .returned (.int .i64 (addE xs n)) ∧ Que w' q n (pushL xs n av) ∧ Buts [q] w w') :=
    fun wx hb => (push_any (HQ.out.below hb) av).mono fun e w' ⟨he, hr, hb'⟩ => ⟨he, hr, (Buts.of hb).trans hb'⟩
  clear h hq
  generalize addE xs n = x at *
  generalize pushL xs n av = ys at *
  go_enter Tryz.func124, Tryz.ntmps124
  go_wp2
  go_region_with (first
    | (go_at_call 127; refine (HP.out _ (alloc_below w _).drew).mono ?_; rintro e w1 ⟨rfl, hr, hb⟩; have HR : Hid (Que w1 q n ys) := hr; have HBt : Hid (Buts [q] w w1) := hb; clear hr hb)
    | (go_at_call 125; refine (HN.out _ _).mono ?_; rintro e wx ⟨rfl, rfl⟩))
  all_goals
    go_wp2
    go_ret2
    exact ⟨rfl, HR.out, HBt.out⟩
set_option maxHeartbeats 1000000 in
theorem row_get {w : World} {g q n : Nat} {xs : List Int} (h : Blk w g (ptrc q) 85) (hq : Que w q n xs) (who ah av am aw : Int) :
    Calls Tryz.prog 124 #[.pointer (some ⟨g, 0, none⟩), .int .u32 who, .agg #[.int .u8 9, .int .u32 ah, .int .u32 av, .int .u32 am, .int .i64 aw]] w fun e w' => e = .returned (.tuple #[.int .u32 (xs.headD 0), .int .i64 (ny (takeE xs))]) ∧ Que w' q n xs.tail ∧ Buts [q] w w' := by
  have hlt := h.lt
  have c0 : w.cell? ⟨g, 0, none⟩ = some (.pointer (some ⟨q, 0, none⟩)) := by rw [h.cell]; rfl
  have HN : Hid (∀ e0 w, Calls Tryz.prog 125 #[.int .i64 e0] w fun e w' => e = .returned (.int .i64 (ny e0)) ∧ w = w') := ny_any
  have HP : Hid (∀ wx, Below w.heap.size w wx → Calls Tryz.prog 128 #[.pointer (some ⟨q, 0, none⟩)] wx fun e w' => e = .returned (.tuple #[.int .u32 (xs.headD 0), .int .i64 (takeE xs)]) ∧ Que w' q n xs.tail ∧ Buts [q] w w') :=
    fun wx hb => (take_any (hq.below hb)).mono fun e w' ⟨he, hr, hb'⟩ => ⟨he, hr, (Buts.of hb).trans hb'⟩
  clear h hq
  generalize takeE xs = x at *
  generalize xs.headD 0 = z at *
  generalize xs.tail = ys at *
  go_enter Tryz.func124, Tryz.ntmps124
  go_wp2_with (first
    | (go_at_call 128; refine (HP.out _ (alloc_below w _)).mono ?_; rintro e w1 ⟨rfl, hr, hb⟩; have HR : Hid (Que w1 q n ys) := hr; have HBt : Hid (Buts [q] w w1) := hb; clear hr hb)
    | (go_at_call 125; refine (HN.out _ _).mono ?_; rintro e wx ⟨rfl, rfl⟩))
  go_ret2
  exact ⟨rfl, HR.out, HBt.out⟩
set_option maxHeartbeats 1000000 in
theorem row_peek {w : World} {g q n : Nat} {xs : List Int} (h : Blk w g (ptrc q) 85) (hq : Que w q n xs) (who ah av am aw : Int) :
    Calls Tryz.prog 124 #[.pointer (some ⟨g, 0, none⟩), .int .u32 who, .agg #[.int .u8 10, .int .u32 ah, .int .u32 av, .int .u32 am, .int .i64 aw]] w fun e w' => e = .returned (.tuple #[.int .u32 (xs.headD 0), .int .i64 (takeE xs)]) ∧ Below w.heap.size w w' := by
  have hlt := h.lt
  have c0 : w.cell? ⟨g, 0, none⟩ = some (.pointer (some ⟨q, 0, none⟩)) := by rw [h.cell]; rfl
  have HP : Hid (∀ wx, Below w.heap.size w wx → Calls Tryz.prog 129 #[.pointer (some ⟨q, 0, none⟩)] wx fun e w' => e = .returned (.tuple #[.int .u32 (xs.headD 0), .int .i64 (takeE xs)]) ∧ Below w.heap.size w w') :=
    fun wx hb => (peek_any (hq.below hb)).mono fun e w' ⟨he, k, hk⟩ => ⟨he, by rw [hk]; exact hb.trans ((below_drewN _ _).mono hb.size)⟩
  clear h hq
  generalize takeE xs = x at *
  generalize xs.headD 0 = z at *
  go_enter Tryz.func124, Tryz.ntmps124
  go_wp2_with (first
    | (go_at_call 129; refine (HP.out _ (alloc_below w _)).mono ?_; rintro e w1 ⟨rfl, hb⟩; have HBt : Hid (Below w.heap.size w w1) := hb; clear hb))
  go_ret2
  exact ⟨rfl, HBt.out⟩
/-- the least block that is free, or none -/
def ff (zs : List Int) : Nat := zs.idxOf 0
theorem ff_le (zs : List Int) : ff zs ≤ zs.length := List.idxOf_le_length
theorem ff_at {zs : List Int} (h : ff zs < zs.length) : zs.getD (ff zs) 0 = 0 := by
  rw [List.getD_eq_getElem?_getD, List.getElem?_eq_getElem h]
  exact List.getElem_idxOf h
theorem ff_min {zs : List Int} {j : Nat} (h : j < ff zs) : zs.getD j 0 ≠ 0 := by
  have hl : j < zs.length := Nat.lt_of_lt_of_le h (ff_le zs)
  rw [List.getD_eq_getElem?_getD, List.getElem?_eq_getElem hl]
  intro e
  have := List.not_of_lt_findIdx (p := (· == (0 : Int))) (xs := zs) (i := j) h
  simp only [Option.getD_some] at e
  simp [e] at this
def alV (zs : List Int) : Int := if ff zs < zs.length then (ff zs : Nat) else 0
def alE (zs : List Int) : Int := if ff zs < zs.length then 0 else 7
def alL (zs : List Int) (who : Int) : List Int := if ff zs < zs.length then zs.set (ff zs) who else zs
set_option maxHeartbeats 1000000 in
theorem pool_alloc {w : World} {g q n : Nat} {zs : List Int} (h : Blk w g (ptrc q) 94) (hq : Pl.Pool w q n zs) (who ah av am aw : Int) (hw : 0 < who ∧ who ≤ 4294967295) :
    Calls Tryz.prog 142 #[.pointer (some ⟨g, 0, none⟩), .int .u32 who, .agg #[.int .u8 14, .int .u32 ah, .int .u32 av, .int .u32 am, .int .i64 aw]] w fun e w' => e = .returned (.tuple #[.int .u32 (alV zs), .int .i64 (alE zs)]) ∧ Pl.Pool w' q n (alL zs who) ∧ Buts [q] w w' := by
  have hlt := h.lt
  have c0 : w.cell? ⟨g, 0, none⟩ = some (.pointer (some ⟨q, 0, none⟩)) := by rw [h.cell]; rfl
  have HN : Hid (∀ e0 w, Calls Tryz.prog 125 #[.int .i64 e0] w fun e w' => e = .returned (.int .i64 (ny e0)) ∧ w = w') := ny_any
  have hlen := hq.len
  have hhi := hq.hi
  clear h
  unfold alV alE alL
  by_cases hf : ff zs < zs.length
  · rw [if_pos hf, if_pos hf, if_pos hf]
    have HP : Hid (∀ wx, Below w.heap.size w wx → Calls Tryz.prog 143 #[.pointer (some ⟨q, 0, none⟩), .int .u32 who] wx fun e w' => e = .returned (.tuple #[.int .i64 (ff zs : Nat), .int .i64 0]) ∧ Pl.Pool w' q n (zs.set (ff zs) who) ∧ Buts [q] w w') :=
      fun wx hb => (Pl.alloc_yes (hq.below hb) who hw (ff zs) (by omega) (ff_at hf) (fun j hj => ff_min hj)).mono fun e w' ⟨he, hr, hb'⟩ => ⟨he, hr, (Buts.of hb).trans (but_buts hb')⟩
    have hb64 : ff zs < 64 := by omega
    clear hq hf
    generalize zs.set (ff zs) who = ys at *
    generalize ff zs = x at *
    go_enter Tryz.func142, Tryz.ntmps142
    go_wp2_with (first
      | (go_at_call 143; refine (HP.out _ (alloc_below w _)).mono ?_; rintro e w1 ⟨rfl, hr, hb⟩; have HR : Hid (Pl.Pool w1 q n ys) := hr; have HBt : Hid (Buts [q] w w1) := hb; clear hr hb)
      | (go_at_call 125; refine (HN.out _ _).mono ?_; rintro e wx ⟨rfl, rfl⟩))
    go_ret2
    exact ⟨rfl, HR.out, HBt.out⟩
  · rw [if_neg hf, if_neg hf, if_neg hf]
    have HP : Hid (∀ wx, Below w.heap.size w wx → Calls Tryz.prog 143 #[.pointer (some ⟨q, 0, none⟩), .int .u32 who] wx fun e w' => e = .returned (.tuple #[.int .i64 0, .int .i64 11]) ∧ Pl.Pool w' q n zs ∧ Buts [q] w w') :=
      fun wx hb => (Pl.alloc_full (hq.below hb) who hw (fun j hj => ff_min (by omega))).mono fun e w' ⟨he, hb'⟩ => ⟨he, (hq.below hb).below hb', (Buts.of hb).trans (Buts.of hb')⟩
    clear hq hf
    go_enter Tryz.func142, Tryz.ntmps142
    go_wp2_with (first
      | (go_at_call 143; refine (HP.out _ (alloc_below w _)).mono ?_; rintro e w1 ⟨rfl, hr, hb⟩; have HR : Hid (Pl.Pool w1 q n zs) := hr; have HBt : Hid (Buts [q] w w1) := hb; clear hr hb)
      | (go_at_call 125; refine (HN.out _ _).mono ?_; rintro e wx ⟨rfl, rfl⟩))
    go_ret2
    exact ⟨rfl, HR.out, HBt.out⟩
def frE (zs : List Int) (who : Int) (v : Nat) : Int := if zs.length ≤ v then 1 else if zs.getD v 0 = who then 0 else 13
def frL (zs : List Int) (who : Int) (v : Nat) : List Int := if zs.length ≤ v then zs else if zs.getD v 0 = who then zs.set v 0 else zs
theorem free_any {w : World} {q n : Nat} {zs : List Int} (hq : Pl.Pool w q n zs) (who : Int) (v : Nat) (hw : 0 < who) :
    Calls Tryz.prog 144 #[.pointer (some ⟨q, 0, none⟩), .int .u32 who, .int .i64 (v : Nat)] w fun e w' => e = .returned (.int .i64 (frE zs who v)) ∧ Pl.Pool w' q n (frL zs who v) ∧ Buts [q] w w' := by
  have hl := hq.len
  unfold frE frL
  by_cases h1 : zs.length ≤ v
  · rw [if_pos h1, if_pos h1]
    exact (Pl.free_no hq who v (by omega) (by omega)).mono fun e w' ⟨he, h2⟩ => by subst h2; exact ⟨he, hq, Buts.refl _ _⟩
  · rw [if_neg h1, if_neg h1]
    by_cases h2 : zs.getD v 0 = who
    · rw [if_pos h2, if_pos h2]
      exact (Pl.free_yes hq who v hw (by omega) h2).mono fun e w' ⟨he, hr, hb⟩ => ⟨he, hr, but_buts hb⟩
    · rw [if_neg h2, if_neg h2]
      exact (Pl.free_other hq who v hw (by omega) h2).mono fun e w' ⟨he, h2⟩ => by subst h2; exact ⟨he, hq, Buts.refl _ _⟩
end Go.Proofs.YteicnekoogmmmaaGreatDoor
