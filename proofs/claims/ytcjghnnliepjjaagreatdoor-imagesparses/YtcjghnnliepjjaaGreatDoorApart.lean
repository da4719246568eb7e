/- 'Apart' walked: lists of bytes and of instructions that are rows of their own are apart. The other kinds have no list here. -/
import Derived.Test.YtcjghnnliepjjaaGreatDoorBkB
import Derived.Test.YtcjghnnliepjjaaGreatDoorBkI
namespace Go.Proofs.YtcjghnnliepjjaaGreatDoor
open Go Go.RowKit
set_option maxRecDepth 100000
set_option linter.unusedVariables false
theorem fill_none2 {w : World} {K : Nat} (h : w.cell? ⟨K, 2, none⟩ = some (.slice none 0 0)) : Calls Tryz.prog 42 #[.pointer (some ⟨K, 0, none⟩)] w fun e w' => e = .returned (.tuple #[]) ∧ w' = w := by
  go_enter Tryz.func42, Tryz.ntmps42
  go_wp2
  refine wp_loop_rounds 1 ?_
  rw [rounds_succ]
  go_wp2
  go_end0
  exact ⟨rfl, rfl⟩
theorem grow_none2 {w : World} {K : Nat} (h : w.cell? ⟨K, 2, none⟩ = some (.slice none 0 0)) : Calls Tryz.prog 50 #[.pointer (some ⟨K, 0, none⟩)] w fun e w' => e = .returned (.tuple #[]) ∧ w' = w := by
  go_enter Tryz.func50, Tryz.ntmps50
  go_wp2
  refine wp_loop_rounds 1 ?_
  rw [rounds_succ]
  go_wp2
  go_end0
  exact ⟨rfl, rfl⟩
theorem look_none2 {w : World} {K : Nat} (h : w.cell? ⟨K, 2, none⟩ = some (.slice none 0 0)) : Calls Tryz.prog 58 #[.pointer (some ⟨K, 0, none⟩)] w fun e w' => e = .returned (.bool true) ∧ w' = w := by
  go_enter Tryz.func58, Tryz.ntmps58
  go_wp2
  refine wp_loop_rounds 1 ?_
  rw [rounds_succ]
  go_wp2
  go_ret
  exact ⟨rfl, rfl⟩
theorem fill_none3 {w : World} {K : Nat} (h : w.cell? ⟨K, 3, none⟩ = some (.slice none 0 0)) : Calls Tryz.prog 43 #[.pointer (some ⟨K, 0, none⟩)] w fun e w' => e = .returned (.tuple #[]) ∧ w' = w := by
  go_enter Tryz.func43, Tryz.ntmps43
  go_wp2
  refine wp_loop_rounds 1 ?_
  rw [rounds_succ]
  go_wp2
  go_end0
  exact ⟨rfl, rfl⟩
theorem grow_none3 {w : World} {K : Nat} (h : w.cell? ⟨K, 3, none⟩ = some (.slice none 0 0)) : Calls Tryz.prog 51 #[.pointer (some ⟨K, 0, none⟩)] w fun e w' => e = .returned (.tuple #[]) ∧ w' = w := by
  go_enter Tryz.func51, Tryz.ntmps51
  go_wp2
  refine wp_loop_rounds 1 ?_
  rw [rounds_succ]
  go_wp2
  go_end0
  exact ⟨rfl, rfl⟩
theorem look_none3 {w : World} {K : Nat} (h : w.cell? ⟨K, 3, none⟩ = some (.slice none 0 0)) : Calls Tryz.prog 59 #[.pointer (some ⟨K, 0, none⟩)] w fun e w' => e = .returned (.bool true) ∧ w' = w := by
  go_enter Tryz.func59, Tryz.ntmps59
  go_wp2
  refine wp_loop_rounds 1 ?_
  rw [rounds_succ]
  go_wp2
  go_ret
  exact ⟨rfl, rfl⟩
theorem fill_none4 {w : World} {K : Nat} (h : w.cell? ⟨K, 4, none⟩ = some (.slice none 0 0)) : Calls Tryz.prog 44 #[.pointer (some ⟨K, 0, none⟩)] w fun e w' => e = .returned (.tuple #[]) ∧ w' = w := by
  go_enter Tryz.func44, Tryz.ntmps44
  go_wp2
  refine wp_loop_rounds 1 ?_
  rw [rounds_succ]
  go_wp2
  go_end0
  exact ⟨rfl, rfl⟩
theorem grow_none4 {w : World} {K : Nat} (h : w.cell? ⟨K, 4, none⟩ = some (.slice none 0 0)) : Calls Tryz.prog 52 #[.pointer (some ⟨K, 0, none⟩)] w fun e w' => e = .returned (.tuple #[]) ∧ w' = w := by
  go_enter Tryz.func52, Tryz.ntmps52
  go_wp2
  refine wp_loop_rounds 1 ?_
  rw [rounds_succ]
  go_wp2
  go_end0
  exact ⟨rfl, rfl⟩
theorem look_none4 {w : World} {K : Nat} (h : w.cell? ⟨K, 4, none⟩ = some (.slice none 0 0)) : Calls Tryz.prog 60 #[.pointer (some ⟨K, 0, none⟩)] w fun e w' => e = .returned (.bool true) ∧ w' = w := by
  go_enter Tryz.func60, Tryz.ntmps60
  go_wp2
  refine wp_loop_rounds 1 ?_
  rw [rounds_succ]
  go_wp2
  go_ret
  exact ⟨rfl, rfl⟩
theorem fill_none6 {w : World} {K : Nat} (h : w.cell? ⟨K, 6, none⟩ = some (.slice none 0 0)) : Calls Tryz.prog 46 #[.pointer (some ⟨K, 0, none⟩)] w fun e w' => e = .returned (.tuple #[]) ∧ w' = w := by
  go_enter Tryz.func46, Tryz.ntmps46
  go_wp2
  refine wp_loop_rounds 1 ?_
  rw [rounds_succ]
  go_wp2
  go_end0
  exact ⟨rfl, rfl⟩
theorem grow_none6 {w : World} {K : Nat} (h : w.cell? ⟨K, 6, none⟩ = some (.slice none 0 0)) : Calls Tryz.prog 54 #[.pointer (some ⟨K, 0, none⟩)] w fun e w' => e = .returned (.tuple #[]) ∧ w' = w := by
  go_enter Tryz.func54, Tryz.ntmps54
  go_wp2
  refine wp_loop_rounds 1 ?_
  rw [rounds_succ]
  go_wp2
  go_end0
  exact ⟨rfl, rfl⟩
theorem look_none6 {w : World} {K : Nat} (h : w.cell? ⟨K, 6, none⟩ = some (.slice none 0 0)) : Calls Tryz.prog 62 #[.pointer (some ⟨K, 0, none⟩)] w fun e w' => e = .returned (.bool true) ∧ w' = w := by
  go_enter Tryz.func62, Tryz.ntmps62
  go_wp2
  refine wp_loop_rounds 1 ?_
  rw [rounds_succ]
  go_wp2
  go_ret
  exact ⟨rfl, rfl⟩
theorem fill_none7 {w : World} {K : Nat} (h : w.cell? ⟨K, 7, none⟩ = some (.slice none 0 0)) : Calls Tryz.prog 47 #[.pointer (some ⟨K, 0, none⟩)] w fun e w' => e = .returned (.tuple #[]) ∧ w' = w := by
  go_enter Tryz.func47, Tryz.ntmps47
  go_wp2
  refine wp_loop_rounds 1 ?_
  rw [rounds_succ]
  go_wp2
  go_end0
  exact ⟨rfl, rfl⟩
theorem grow_none7 {w : World} {K : Nat} (h : w.cell? ⟨K, 7, none⟩ = some (.slice none 0 0)) : Calls Tryz.prog 55 #[.pointer (some ⟨K, 0, none⟩)] w fun e w' => e = .returned (.tuple #[]) ∧ w' = w := by
  go_enter Tryz.func55, Tryz.ntmps55
  go_wp2
  refine wp_loop_rounds 1 ?_
  rw [rounds_succ]
  go_wp2
  go_end0
  exact ⟨rfl, rfl⟩
theorem look_none7 {w : World} {K : Nat} (h : w.cell? ⟨K, 7, none⟩ = some (.slice none 0 0)) : Calls Tryz.prog 63 #[.pointer (some ⟨K, 0, none⟩)] w fun e w' => e = .returned (.bool true) ∧ w' = w := by
  go_enter Tryz.func63, Tryz.ntmps63
  go_wp2
  refine wp_loop_rounds 1 ?_
  rw [rounds_succ]
  go_wp2
  go_ret
  exact ⟨rfl, rfl⟩
theorem fill_none8 {w : World} {K : Nat} (h : w.cell? ⟨K, 8, none⟩ = some (.slice none 0 0)) : Calls Tryz.prog 48 #[.pointer (some ⟨K, 0, none⟩)] w fun e w' => e = .returned (.tuple #[]) ∧ w' = w := by
  go_enter Tryz.func48, Tryz.ntmps48
  go_wp2
  refine wp_loop_rounds 1 ?_
  rw [rounds_succ]
  go_wp2
  go_end0
  exact ⟨rfl, rfl⟩
theorem grow_none8 {w : World} {K : Nat} (h : w.cell? ⟨K, 8, none⟩ = some (.slice none 0 0)) : Calls Tryz.prog 56 #[.pointer (some ⟨K, 0, none⟩)] w fun e w' => e = .returned (.tuple #[]) ∧ w' = w := by
  go_enter Tryz.func56, Tryz.ntmps56
  go_wp2
  refine wp_loop_rounds 1 ?_
  rw [rounds_succ]
  go_wp2
  go_end0
  exact ⟨rfl, rfl⟩
theorem look_none8 {w : World} {K : Nat} (h : w.cell? ⟨K, 8, none⟩ = some (.slice none 0 0)) : Calls Tryz.prog 64 #[.pointer (some ⟨K, 0, none⟩)] w fun e w' => e = .returned (.bool true) ∧ w' = w := by
  go_enter Tryz.func64, Tryz.ntmps64
  go_wp2
  refine wp_loop_rounds 1 ?_
  rw [rounds_succ]
  go_wp2
  go_ret
  exact ⟨rfl, rfl⟩
theorem Byt.Bk.oth {B : Nat} {w w' : World} {K : Nat} {ov : Value} {n : Int} {v : Value} {E : List Byt.Ent} {l : List TypeId} (h : Byt.Bk B w K ov n v E) (ho : Oth l w w') (h1 : 42 ∉ l) (h2 : 94 ∉ l) : Byt.Bk B w' K ov n v E :=
  ⟨ho.2 _ _ _ _ h.head h1, ho.row h.row h2, h.ne, h.base, h.few, h.small, h.lng⟩
theorem Byt.Lists.oth {B : Nat} {w w' : World} {E : List Byt.Ent} {i : Nat} {l : List TypeId} (h : Byt.Lists B w E i) (ho : Oth l w w') (h1 : 5 ∉ l) : Byt.Lists B w' E i :=
  ⟨fun j e he => by obtain ⟨ys, a, b⟩ := h.own j e he; exact ⟨ys, ho.row a h1, b⟩, h.sep, h.num, h.len⟩
theorem Byt.Rd.oth {w w' : World} {v : Value} {n : Nat} {x : Value} {l : List TypeId} (h : Byt.Rd w v n x) (ho : Oth l w w') (h1 : 5 ∉ l) : Byt.Rd w' v n x := by
  obtain ⟨sp, cap, hv, hc⟩ := h
  refine ⟨sp, cap, hv, fun hn => ?_⟩
  obtain ⟨g, cur, hg, hh, r⟩ := hc hn
  exact ⟨g, cur, hg, ho.2 _ _ _ _ hh h1, r⟩
theorem Byt.Gl.oth {B : Nat} {w w' : World} {E : List Byt.Ent} {i : Nat} {l : List TypeId} (h : Byt.Gl B w E i) (ho : Oth l w w') (h1 : 5 ∉ l) : Byt.Gl B w' E i :=
  ⟨fun j e hj he => ho.row (h.own j e hj he) h1, fun j e hj he => (h.rdv j e hj he).oth ho h1, fun j e hj he => (h.rdl j e hj he).oth ho h1, h.far, h.sep, h.num, h.len⟩
theorem Byt.fill_oth {B : Nat} {w w' : World} {E : List Byt.Ent} (h : Byt.Lists B w E 0) (hb : Buts (Byt.blks E) w w') : Oth [5] w w' :=
  Oth.buts hb fun g hg cs T f hh => by
    obtain ⟨e, he, hx⟩ := List.mem_flatMap.1 hg
    obtain ⟨j, hj⟩ := List.getElem?_of_mem he
    obtain ⟨ys, ho, -⟩ := h.own j e hj
    rw [own_type ho (by simpa using hx) hh]; simp
theorem Byt.blks_base {B : Nat} {w : World} {E : List Byt.Ent} (h : Byt.Lists B w E 0) : ∀ x ∈ Byt.blks E, B ≤ x := by
  intro x hx
  obtain ⟨e, he, hx⟩ := List.mem_flatMap.1 hx
  obtain ⟨j, hj⟩ := List.getElem?_of_mem he
  obtain ⟨ys, ho, -⟩ := h.own j e hj
  exact (ho.lt x (by simpa using hx)).1
theorem Ins.Bk.oth {B : Nat} {w w' : World} {K : Nat} {ov : Value} {n : Int} {v : Value} {E : List Ins.Ent} {l : List TypeId} (h : Ins.Bk B w K ov n v E) (ho : Oth l w w') (h1 : 42 ∉ l) (h2 : 108 ∉ l) : Ins.Bk B w' K ov n v E :=
  ⟨ho.2 _ _ _ _ h.head h1, ho.row h.row h2, h.ne, h.base, h.few, h.small, h.lng⟩
theorem Ins.Lists.oth {B : Nat} {w w' : World} {E : List Ins.Ent} {i : Nat} {l : List TypeId} (h : Ins.Lists B w E i) (ho : Oth l w w') (h1 : 64 ∉ l) : Ins.Lists B w' E i :=
  ⟨fun j e he => by obtain ⟨ys, a, b⟩ := h.own j e he; exact ⟨ys, ho.row a h1, b⟩, h.sep, h.num, h.len⟩
theorem Ins.Rd.oth {w w' : World} {v : Value} {n : Nat} {x : List Value} {l : List TypeId} (h : Ins.Rd w v n x) (ho : Oth l w w') (h1 : 64 ∉ l) : Ins.Rd w' v n x := by
  obtain ⟨sp, cap, hv, hc⟩ := h
  refine ⟨sp, cap, hv, fun hn => ?_⟩
  obtain ⟨g, cur, hg, hh, r⟩ := hc hn
  exact ⟨g, cur, hg, ho.2 _ _ _ _ hh h1, r⟩
theorem Ins.Gl.oth {B : Nat} {w w' : World} {E : List Ins.Ent} {i : Nat} {l : List TypeId} (h : Ins.Gl B w E i) (ho : Oth l w w') (h1 : 64 ∉ l) : Ins.Gl B w' E i :=
  ⟨fun j e hj he => ho.row (h.own j e hj he) h1, fun j e hj he => (h.rdv j e hj he).oth ho h1, fun j e hj he => (h.rdl j e hj he).oth ho h1, h.far, h.sep, h.num, h.len⟩
theorem Ins.fill_oth {B : Nat} {w w' : World} {E : List Ins.Ent} (h : Ins.Lists B w E 0) (hb : Buts (Ins.blks E) w w') : Oth [64] w w' :=
  Oth.buts hb fun g hg cs T f hh => by
    obtain ⟨e, he, hx⟩ := List.mem_flatMap.1 hg
    obtain ⟨j, hj⟩ := List.getElem?_of_mem he
    obtain ⟨ys, ho, -⟩ := h.own j e hj
    rw [own_type ho (by simpa using hx) hh]; simp
theorem Ins.blks_base {B : Nat} {w : World} {E : List Ins.Ent} (h : Ins.Lists B w E 0) : ∀ x ∈ Ins.blks E, B ≤ x := by
  intro x hx
  obtain ⟨e, he, hx⟩ := List.mem_flatMap.1 hx
  obtain ⟨j, hj⟩ := List.getElem?_of_mem he
  obtain ⟨ys, ho, -⟩ := h.own j e hj
  exact (ho.lt x (by simpa using hx)).1
/-- a book of two kinds -/
structure Two (B : Nat) (w : World) (K : Nat) (n : Int) (vB : Value) (EB : List Byt.Ent) (vI : Value) (EI : List Ins.Ent) : Prop where
  b : Byt.Bk B w K vI n vB EB
  i : Ins.Bk B w K vB n vI EI
theorem keep_oth {w w' : World} {B K : Nat} {v : Value} {T T' : TypeId} {s n : Nat} {xs : List Value} {cs : Array Value} {f : Nat × Nat} (hK : w.heap[K]? = some (.cells cs T f)) (h : w.ownsRow B T' s v n xs) (hu : Buts (K :: v.ownBlock.toList) w w') : Oth [T, T'] w w' :=
  Oth.buts hu fun g hg cs2 T2 f2 hh => by
    rcases List.mem_cons.1 hg with rfl | hg
    · rw [hK] at hh
      simp only [Option.some.injEq, Obj.cells.injEq] at hh
      rw [← hh.2.1]; simp
    · rw [own_type h (by simpa using hg) hh]; simp
theorem Two.keepB {B : Nat} {w w' : World} {K : Nat} {n : Int} {vB v' : Value} {EB E' : List Byt.Ent} {vI : Value} {EI : List Ins.Ent} (h : Two B w K n vB EB vI EI) (hb : Byt.Bk B w' K vI (n + 1) v' E') (hu : Buts (K :: vB.ownBlock.toList) w w') : Two B w' K (n + 1) v' E' vI EI ∧ Oth [42, 94] w w' := by
  have ho := keep_oth h.b.head h.b.row hu
  exact ⟨⟨hb, ⟨hb.head, ho.row h.i.row (by decide), h.i.ne, h.i.base, h.i.few, hb.small, h.i.lng⟩⟩, ho⟩
theorem Two.keepI {B : Nat} {w w' : World} {K : Nat} {n : Int} {vB v' : Value} {EB : List Byt.Ent} {vI : Value} {EI E' : List Ins.Ent} (h : Two B w K n vB EB vI EI) (hb : Ins.Bk B w' K vB (n + 1) v' E') (hu : Buts (K :: vI.ownBlock.toList) w w') : Two B w' K (n + 1) vB EB v' E' ∧ Oth [42, 108] w w' := by
  have ho := keep_oth h.i.head h.i.row hu
  exact ⟨⟨⟨hb.head, ho.row h.b.row (by decide), h.b.ne, h.b.base, h.b.few, hb.small, h.b.lng⟩, hb⟩, ho⟩
theorem Two.oth {B : Nat} {w w' : World} {K : Nat} {n : Int} {vB : Value} {EB : List Byt.Ent} {vI : Value} {EI : List Ins.Ent} {l : List TypeId} (h : Two B w K n vB EB vI EI) (ho : Oth l w w') (h1 : 42 ∉ l) (h2 : 94 ∉ l) (h3 : 108 ∉ l) : Two B w' K n vB EB vI EI := ⟨h.b.oth ho h1 h2, h.i.oth ho h1 h3⟩
theorem bytes_keep {B : Nat} {w : World} {K : Nat} {n : Int} {vB : Value} {EB : List Byt.Ent} {vI : Value} {EI : List Ins.Ent} (h : Two B w K n vB EB vI EI) (hE : EB.length + 1 ≤ 1000) (hn : n + 1 ≤ 1000) (sp : Option Addr) (len cap : Nat) :
    Calls Tryz.prog 17 #[.pointer (some ⟨K, 0, none⟩), .slice sp len cap] w fun e w' => e = .returned (.tuple #[]) ∧ ∃ v', Two B w' K (n + 1) v' (EB ++ [⟨.slice sp len cap, len, .slice none 0 0, n + 1⟩]) vI EI ∧ Oth [42, 94] w w' ∧ Buts (K :: vB.ownBlock.toList) w w' := by
  have hk := Byt.keep_any h.b hE hn sp len cap
  go_enter Tryz.func17, Tryz.ntmps17
  go_wp2_with (go_at_call 40; refine hk.mono ?_; rintro e w' ⟨rfl, v', h1, h2⟩)
  go_end0
  exact ⟨rfl, v', (h.keepB h1 h2).1, (h.keepB h1 h2).2, h2⟩
theorem instrs_keep {B : Nat} {w : World} {K : Nat} {n : Int} {vB : Value} {EB : List Byt.Ent} {vI : Value} {EI : List Ins.Ent} (h : Two B w K n vB EB vI EI) (hE : EI.length + 1 ≤ 1000) (hn : n + 1 ≤ 1000) (sp : Option Addr) (len cap : Nat) :
    Calls Tryz.prog 39 #[.pointer (some ⟨K, 0, none⟩), .slice sp len cap] w fun e w' => e = .returned (.tuple #[]) ∧ ∃ v', Two B w' K (n + 1) vB EB v' (EI ++ [⟨.slice sp len cap, len, .slice none 0 0, n + 1⟩]) ∧ Oth [42, 108] w w' ∧ Buts (K :: vI.ownBlock.toList) w w' := by
  have hk := Ins.keep_any h.i hE hn sp len cap
  go_enter Tryz.func39, Tryz.ntmps39
  go_wp2_with (go_at_call 80; refine hk.mono ?_; rintro e w' ⟨rfl, v', h1, h2⟩)
  go_end0
  exact ⟨rfl, v', (h.keepI h1 h2).1, (h.keepI h1 h2).2, h2⟩
theorem Two.others {B : Nat} {w : World} {K : Nat} {n : Int} {vB : Value} {EB : List Byt.Ent} {vI : Value} {EI : List Ins.Ent} (h : Two B w K n vB EB vI EI) : w.cell? ⟨K, 2, none⟩ = some (.slice none 0 0) ∧ w.cell? ⟨K, 3, none⟩ = some (.slice none 0 0) ∧ w.cell? ⟨K, 4, none⟩ = some (.slice none 0 0) ∧ w.cell? ⟨K, 6, none⟩ = some (.slice none 0 0) ∧ w.cell? ⟨K, 7, none⟩ = some (.slice none 0 0) ∧ w.cell? ⟨K, 8, none⟩ = some (.slice none 0 0) := by
  have hc := fun i => cell_of (i := i) h.b.head
  exact ⟨by rw [hc]; rfl, by rw [hc]; rfl, by rw [hc]; rfl, by rw [hc]; rfl, by rw [hc]; rfl, by rw [hc]; rfl⟩
set_option maxHeartbeats 8000000 in
theorem apart_yes {B : Nat} {w : World} {K : Nat} {n : Int} {vB : Value} {EB : List Byt.Ent} {vI : Value} {EI : List Ins.Ent} (h : Two B w K n vB EB vI EI) (lb : Byt.Lists B w EB 0) (li : Ins.Lists B w EI 0) :
    Calls Tryz.prog 18 #[.pointer (some ⟨K, 0, none⟩)] w fun e w' => e = .returned (.bool true) ∧ Below B w w' := by
  have hB : Hid (Below B w w) := Below.refl _ _
  have hblB : Hid (∀ x ∈ Byt.blks EB, B ≤ x) := Byt.blks_base lb
  have hblI : Hid (∀ x ∈ Ins.blks EI, B ≤ x) := Ins.blks_base li
  have hBw : Hid (B ≤ w.heap.size) := Nat.le_trans h.b.base (Nat.le_of_lt (at_lt h.b.head))
  have TT : Hid (Two B w K n vB EB vI EI) := h
  have LB : Hid (Byt.Lists B w EB 0) := lb
  have LI : Hid (Ins.Lists B w EI 0) := li
  clear h lb li
  go_enter Tryz.func18, Tryz.ntmps18
  go_wp2_with (first
    | (go_at_call 41; refine (Byt.fill_any TT.out.b LB.out).mono ?_; rintro e w1 ⟨rfl, hb, hl1, hu1⟩; have ho := Byt.fill_oth LB.out hu1; replace hB : Hid (Below B w w1) := hB.out.trans (hu1.below hblB.out (Nat.le_trans hBw.out hB.out.size)); replace TT : Hid (Two B w1 K n vB EB vI EI) := TT.out.oth ho (by decide) (by decide) (by decide); replace LI : Hid (Ins.Lists B w1 EI 0) := LI.out.oth ho (by decide); have GB : Hid (Byt.Gl B w1 EB 0) := Byt.Gl.start hl1; clear LB ho hb hl1 hu1; obtain ⟨o2, o3, o4, o6, o7, o8⟩ := TT.out.others)
    | (go_at_call 45; refine (Ins.fill_any TT.out.i LI.out).mono ?_; rintro e w2 ⟨rfl, hb, hl1, hu1⟩; have ho := Ins.fill_oth LI.out hu1; replace hB : Hid (Below B w w2) := hB.out.trans (hu1.below hblI.out (Nat.le_trans hBw.out hB.out.size)); replace TT : Hid (Two B w2 K n vB EB vI EI) := TT.out.oth ho (by decide) (by decide) (by decide); replace GB : Hid (Byt.Gl B w2 EB 0) := GB.out.oth ho (by decide); have GI : Hid (Ins.Gl B w2 EI 0) := Ins.Gl.start hl1; clear LI ho hb hl1 hu1; obtain ⟨o2, o3, o4, o6, o7, o8⟩ := TT.out.others)
    | (go_at_call 49; refine (Byt.grow_any TT.out.b GB.out).mono ?_; rintro e w3 ⟨rfl, FB, hF, hb, hg2, hu2, ho⟩; replace hB : Hid (Below B w w3) := hB.out.trans hu2; clear GB; have TT2 : Hid (Two B w3 K n vB FB vI EI) := ⟨hb, TT.out.i.oth ho (by decide) (by decide)⟩; clear TT; have TT : Hid (Two B w3 K n vB FB vI EI) := TT2; rw [← hF] at hg2; have GF : Hid (Byt.Gl B w3 FB FB.length) := hg2; replace GI : Hid (Ins.Gl B w3 EI 0) := GI.out.oth ho (by decide); clear TT2 hb hg2 hu2 hF ho; obtain ⟨o2, o3, o4, o6, o7, o8⟩ := TT.out.others)
    | (go_at_call 53; refine (Ins.grow_any TT.out.i GI.out).mono ?_; rintro e w4 ⟨rfl, FI, hF, hb, hg2, hu2, ho⟩; replace hB : Hid (Below B w w4) := hB.out.trans hu2; clear GI; have TT2 : Hid (Two B w4 K n vB FB vI FI) := ⟨TT.out.b.oth ho (by decide) (by decide), hb⟩; clear TT; have TT : Hid (Two B w4 K n vB FB vI FI) := TT2; rw [← hF] at hg2; have GJ : Hid (Ins.Gl B w4 FI FI.length) := hg2; replace GF : Hid (Byt.Gl B w4 FB FB.length) := GF.out.oth ho (by decide); clear TT2 hb hg2 hu2 hF ho; obtain ⟨o2, o3, o4, o6, o7, o8⟩ := TT.out.others)
    | (go_at_call 57; refine (Byt.look_any TT.out.b GF.out).mono ?_; rintro e w5 ⟨rfl, hu3⟩; have ho : Oth [] _ _ := Oth.below hu3; replace hB : Hid (Below B w w5) := hB.out.trans (hu3.mono (Nat.le_trans hBw.out hB.out.size)); replace TT : Hid (Two B w5 K n vB FB vI FI) := TT.out.oth ho (by decide) (by decide) (by decide); replace GJ : Hid (Ins.Gl B w5 FI FI.length) := GJ.out.oth ho (by decide); clear GF ho hu3; obtain ⟨o2, o3, o4, o6, o7, o8⟩ := TT.out.others)
    | (go_at_call 61; refine (Ins.look_any TT.out.i GJ.out).mono ?_; rintro e w6 ⟨rfl, hu3⟩; have ho : Oth [] _ _ := Oth.below hu3; replace hB : Hid (Below B w w6) := hB.out.trans (hu3.mono (Nat.le_trans hBw.out hB.out.size)); replace TT : Hid (Two B w6 K n vB FB vI FI) := TT.out.oth ho (by decide) (by decide) (by decide); clear GJ ho hu3; obtain ⟨o2, o3, o4, o6, o7, o8⟩ := TT.out.others)
    | (go_at_call 42; refine (fill_none2 o2).mono ?_; rintro e wx ⟨rfl, rfl⟩)
    | (go_at_call 50; refine (grow_none2 o2).mono ?_; rintro e wx ⟨rfl, rfl⟩)
    | (go_at_call 58; refine (look_none2 o2).mono ?_; rintro e wx ⟨rfl, rfl⟩)
    | (go_at_call 43; refine (fill_none3 o3).mono ?_; rintro e wx ⟨rfl, rfl⟩)
    | (go_at_call 51; refine (grow_none3 o3).mono ?_; rintro e wx ⟨rfl, rfl⟩)
    | (go_at_call 59; refine (look_none3 o3).mono ?_; rintro e wx ⟨rfl, rfl⟩)
    | (go_at_call 44; refine (fill_none4 o4).mono ?_; rintro e wx ⟨rfl, rfl⟩)
    | (go_at_call 52; refine (grow_none4 o4).mono ?_; rintro e wx ⟨rfl, rfl⟩)
    | (go_at_call 60; refine (look_none4 o4).mono ?_; rintro e wx ⟨rfl, rfl⟩)
    | (go_at_call 46; refine (fill_none6 o6).mono ?_; rintro e wx ⟨rfl, rfl⟩)
    | (go_at_call 54; refine (grow_none6 o6).mono ?_; rintro e wx ⟨rfl, rfl⟩)
    | (go_at_call 62; refine (look_none6 o6).mono ?_; rintro e wx ⟨rfl, rfl⟩)
    | (go_at_call 47; refine (fill_none7 o7).mono ?_; rintro e wx ⟨rfl, rfl⟩)
    | (go_at_call 55; refine (grow_none7 o7).mono ?_; rintro e wx ⟨rfl, rfl⟩)
    | (go_at_call 63; refine (look_none7 o7).mono ?_; rintro e wx ⟨rfl, rfl⟩)
    | (go_at_call 48; refine (fill_none8 o8).mono ?_; rintro e wx ⟨rfl, rfl⟩)
    | (go_at_call 56; refine (grow_none8 o8).mono ?_; rintro e wx ⟨rfl, rfl⟩)
    | (go_at_call 64; refine (look_none8 o8).mono ?_; rintro e wx ⟨rfl, rfl⟩))
  go_ret
  exact ⟨rfl, hB.out⟩
end Go.Proofs.YtcjghnnliepjjaaGreatDoor
