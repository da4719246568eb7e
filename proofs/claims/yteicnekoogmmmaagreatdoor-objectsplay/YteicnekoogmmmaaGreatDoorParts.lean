/- What parts of things that are numbers alone answer: a semaphore, a mutex, an alarm. -/
import Derived.Test.YteicnekoogmmmaaGreatDoorQTop
import Derived.Test.YteicnekoogmmmaaGreatDoorTFit
import Derived.Test.YteicnekoogmmmaaGreatDoorMTop
import Derived.Handy
namespace Go.Proofs.YteicnekoogmmmaaGreatDoor
open Go Go.RowKit
set_option maxRecDepth 100000
set_option linter.unusedVariables false
/-- cells of a block -/
def Blk (w : World) (g : Nat) (cs : Array Value) (t : TypeId) : Prop := w.heap[g]? = some (.cells cs t (0, 0))
theorem Blk.lt {w : World} {g : Nat} {cs : Array Value} {t : TypeId} (h : Blk w g cs t) : g < w.heap.size := at_lt h
theorem Blk.cell {w : World} {g : Nat} {cs : Array Value} {t : TypeId} (h : Blk w g cs t) (i : Nat) : w.cell? ⟨g, i, none⟩ = cs[i]? := cell_of h
theorem Blk.free {w : World} {g : Nat} {cs : Array Value} {t : TypeId} (h : Blk w g cs t) (i : Nat) : w.frozen? ⟨g, i, none⟩ = false := by unfold Blk at h; simp [World.frozen?, h]
theorem Blk.below {w w' : World} {g : Nat} {cs : Array Value} {t : TypeId} (h : Blk w g cs t) (hb : Below w.heap.size w w') : Blk w' g cs t := (hb.block g h.lt).trans h
theorem Blk.buts {w w' : World} {l : List Nat} {g : Nat} {cs : Array Value} {t : TypeId} (h : Blk w g cs t) (hb : Buts l w w') (hg : g ∉ l) : Blk w' g cs t := (hb.block g h.lt hg).trans h
theorem Blk.set {w : World} {g : Nat} {cs : Array Value} {t : TypeId} (h : Blk w g cs t) (k : Nat) (v : Value) : Blk (w.setCell ⟨g, k, none⟩ v) g (cs.setIfInBounds k v) t := by
  have hl := h.lt
  have hh := (Array.getElem?_eq_some_iff.1 h).2
  unfold Blk World.setCell
  rw [Array.getElem?_eq_getElem (by simpa using hl), Array.getElem_modify]
  simp [hh]
theorem Blk.ne {w : World} {a b : Nat} {x y : Array Value} {t t' : TypeId} (h : Blk w a x t) (k : Blk w b y t') (ht : t ≠ t') : a ≠ b := by
  rintro rfl
  unfold Blk at h k
  rw [h] at k
  simp only [Option.some.injEq, Obj.cells.injEq] at k
  exact ht k.2.1
theorem ret2 {k l : IntKind} {a b c d : Int} (h : a = b) (h' : c = d) : Ending.returned (.tuple #[.int k a, .int l c]) = .returned (.tuple #[.int k b, .int l d]) := by rw [h, h']
/-- 'try' boxes what is asked, and then sets one cell, or nothing -/
theorem boxed {w : World} {g : Nat} {cs : Array Value} {t : TypeId} (h : Blk w g cs t) (o : Obj) : Blk (w.alloc o) g cs t ∧ Buts [g] w (w.alloc o) := ⟨h.below (alloc_below w o), Buts.of (alloc_below w o)⟩
theorem boxed_set {w : World} {g : Nat} {cs : Array Value} {t : TypeId} (h : Blk w g cs t) (o : Obj) (k : Nat) (v : Value) : Blk ((w.setCell ⟨g, k, none⟩ v).alloc o) g (cs.setIfInBounds k v) t ∧ Buts [g] w ((w.setCell ⟨g, k, none⟩ v).alloc o) :=
  ⟨(h.set k v).below (alloc_below _ o), (Buts.cell w g k v).trans (Buts.of (alloc_below _ o))⟩
theorem drawn {w : World} {g : Nat} {cs : Array Value} {t : TypeId} (h : Blk w g cs t) (o : Obj) (n : Nat) : Blk ((w.alloc o).drewN n) g cs t ∧ Buts [g] w ((w.alloc o).drewN n) :=
  ⟨(boxed h o).1.below (below_drewN _ _), (boxed h o).2.trans (Buts.of (below_drewN _ _))⟩
theorem drawn_set {w : World} {g : Nat} {cs : Array Value} {t : TypeId} (h : Blk w g cs t) (o : Obj) (n k : Nat) (v : Value) : Blk (((w.alloc o).drewN n).setCell ⟨g, k, none⟩ v) g (cs.setIfInBounds k v) t ∧ Buts [g] w (((w.alloc o).drewN n).setCell ⟨g, k, none⟩ v) :=
  ⟨(drawn h o n).1.set k v, (drawn h o n).2.trans (Buts.cell _ _ _ _)⟩
theorem drawn1_set {w : World} {g : Nat} {cs : Array Value} {t : TypeId} (h : Blk w g cs t) (o : Obj) (k : Nat) (v : Value) : Blk ((w.setCell ⟨g, k, none⟩ v).alloc o).drew g (cs.setIfInBounds k v) t ∧ Buts [g] w ((w.setCell ⟨g, k, none⟩ v).alloc o).drew :=
  ⟨(boxed_set h o k v).1, (boxed_set h o k v).2.drew⟩
def semc (n b : Int) : Array Value := #[.int .u32 n, .int .u32 b]
theorem sem_take {w : World} {g : Nat} {n b : Int} (h : Blk w g (semc n b) 76) (hn : 0 ≤ n ∧ n ≤ 4294967295) (who ah av am aw : Int) :
    Calls Tryz.prog 121 #[.pointer (some ⟨g, 0, none⟩), .int .u32 who, .agg #[.int .u8 3, .int .u32 ah, .int .u32 av, .int .u32 am, .int .i64 aw]] w fun e w' => e = .returned (.tuple #[.int .u32 0, .int .i64 (if n = 0 then 7 else 0)]) ∧ Blk w' g (semc (if n = 0 then n else n - 1) b) 76 ∧ Buts [g] w w' := by
  have HB : Hid (Blk w g (semc n b) 76) := h
  have hlt := h.lt
  have c0 : w.cell? ⟨g, 0, none⟩ = some (.int .u32 n) := by rw [h.cell]; rfl
  have f0 := h.free 0
  clear h
  by_cases e0 : n = 0
  · subst e0
    go_enter Tryz.func121, Tryz.ntmps121
    go_wp2
    go_ret2
    exact ⟨rfl, boxed HB.out _⟩
  · have hz : (n == 0) = false := by simpa using e0
    rw [if_neg e0, if_neg e0]
    go_enter Tryz.func121, Tryz.ntmps121
    go_wp2
    go_ret2
    exact ⟨rfl, boxed_set HB.out _ 0 _⟩
theorem sem_give {w : World} {g : Nat} {n b : Int} (h : Blk w g (semc n b) 76) (hn : 0 ≤ n ∧ n ≤ b) (hb : b ≤ 1073741824) (who ah av am aw : Int) :
    Calls Tryz.prog 121 #[.pointer (some ⟨g, 0, none⟩), .int .u32 who, .agg #[.int .u8 4, .int .u32 ah, .int .u32 av, .int .u32 am, .int .i64 aw]] w fun e w' => e = .returned (.tuple #[.int .u32 0, .int .i64 (if n = b then 10 else 0)]) ∧ Blk w' g (semc (if n = b then n else n + 1) b) 76 ∧ Buts [g] w w' := by
  have HB : Hid (Blk w g (semc n b) 76) := h
  have hlt := h.lt
  have c0 : w.cell? ⟨g, 0, none⟩ = some (.int .u32 n) := by rw [h.cell]; rfl
  have c1 : w.cell? ⟨g, 1, none⟩ = some (.int .u32 b) := by rw [h.cell]; rfl
  have f0 := h.free 0
  clear h
  by_cases e0 : n = b
  · subst e0
    rw [if_pos rfl, if_pos rfl]
    go_enter Tryz.func121, Tryz.ntmps121
    go_wp2
    go_quiet ((fail))
    go_wp2
    go_ret2
    exact ⟨rfl, drawn HB.out _ _⟩
  · have hz : (n == b) = false := by simpa using e0
    rw [if_neg e0, if_neg e0]
    go_enter Tryz.func121, Tryz.ntmps121
    go_wp2
    go_quiet ((fail))
    go_wp2
    go_ret2
    exact ⟨rfl, drawn_set HB.out _ _ 0 _⟩
def onec (n : Int) : Array Value := #[.int .u32 n]
theorem mut_lock {w : World} {g : Nat} {o : Int} (h : Blk w g (onec o) 79) (who ah av am aw : Int) :
    Calls Tryz.prog 122 #[.pointer (some ⟨g, 0, none⟩), .int .u32 who, .agg #[.int .u8 5, .int .u32 ah, .int .u32 av, .int .u32 am, .int .i64 aw]] w fun e w' => e = .returned (.tuple #[.int .u32 0, .int .i64 (if o = who then 13 else if o ≠ 0 then 7 else 0)]) ∧ Blk w' g (onec (if o = who then o else if o ≠ 0 then o else who)) 79 ∧ Buts [g] w w' := by
  have HB : Hid (Blk w g (onec o) 79) := h
  have hlt := h.lt
  have c0 : w.cell? ⟨g, 0, none⟩ = some (.int .u32 o) := by rw [h.cell]; rfl
  have f0 := h.free 0
  clear h
  by_cases e0 : o = who
  · subst e0
    rw [if_pos rfl, if_pos rfl]
    go_enter Tryz.func122, Tryz.ntmps122
    go_wp2
    go_ret2
    exact ⟨rfl, boxed HB.out _⟩
  · have hz : (o == who) = false := by simpa using e0
    rw [if_neg e0, if_neg e0]
    by_cases e1 : o = 0
    · subst e1
      rw [if_neg (by decide), if_neg (by decide)]
      go_enter Tryz.func122, Tryz.ntmps122
      go_wp2
      go_ret2
      exact ⟨rfl, boxed_set HB.out _ 0 _⟩
    · have hn : (o != 0) = true := by simpa using e1
      rw [if_pos e1, if_pos e1]
      go_enter Tryz.func122, Tryz.ntmps122
      go_wp2
      go_ret2
      exact ⟨rfl, boxed HB.out _⟩
theorem mut_unlock {w : World} {g : Nat} {o : Int} (h : Blk w g (onec o) 79) (who ah av am aw : Int) :
    Calls Tryz.prog 122 #[.pointer (some ⟨g, 0, none⟩), .int .u32 who, .agg #[.int .u8 6, .int .u32 ah, .int .u32 av, .int .u32 am, .int .i64 aw]] w fun e w' => e = .returned (.tuple #[.int .u32 0, .int .i64 (if o = who then 0 else 13)]) ∧ Blk w' g (onec (if o = who then 0 else o)) 79 ∧ Buts [g] w w' := by
  have HB : Hid (Blk w g (onec o) 79) := h
  have hlt := h.lt
  have c0 : w.cell? ⟨g, 0, none⟩ = some (.int .u32 o) := by rw [h.cell]; rfl
  have f0 := h.free 0
  clear h
  by_cases e0 : o = who
  · subst e0
    rw [if_pos rfl, if_pos rfl]
    have hz : (o != o) = false := by simp
    go_enter Tryz.func122, Tryz.ntmps122
    go_wp2
    go_ret2
    exact ⟨rfl, boxed_set HB.out _ 0 _⟩
  · have hz : (o != who) = true := by simpa using e0
    rw [if_neg e0, if_neg e0]
    go_enter Tryz.func122, Tryz.ntmps122
    go_wp2
    go_ret2
    exact ⟨rfl, boxed HB.out _⟩
theorem ala_any {w : World} {g : Nat} (who wh ah av am aw : Int) :
    Calls Tryz.prog 146 #[.pointer (some ⟨g, 0, none⟩), .int .u32 who, .agg #[.int .u8 wh, .int .u32 ah, .int .u32 av, .int .u32 am, .int .i64 aw]] w fun e w' => e = .returned (.tuple #[.int .u32 0, .int .i64 1]) ∧ Below w.heap.size w w' := by
  go_enter Tryz.func146, Tryz.ntmps146
  go_wp2
  go_ret2
  exact ⟨rfl, alloc_below _ _⟩
theorem notYet_any (e0 : Int) (w : World) : Calls Tryz.prog 125 #[.int .i64 e0] w fun e w' => e = .returned (.int .i64 (if e0 = 10 ∨ e0 = 11 then 7 else e0)) ∧ w = w' := by
  by_cases h1 : e0 = 10
  · subst h1
    go_enter Tryz.func125, Tryz.ntmps125
    go_wp2
    go_ret
    exact ⟨rfl, rfl⟩
  · have hz : (e0 == 10) = false := by simpa using h1
    by_cases h2 : e0 = 11
    · subst h2
      go_enter Tryz.func125, Tryz.ntmps125
      go_wp2
      go_ret
      exact ⟨rfl, rfl⟩
    · have hy : (e0 == 11) = false := by simpa using h2
      rw [if_neg (by omega)]
      go_enter Tryz.func125, Tryz.ntmps125
      go_wp2
      go_ret
      exact ⟨rfl, rfl⟩
theorem flg_raise {w : World} {g : Nat} {f v : Nat} (h : Blk w g (onec f) 88) (hf : f < 4294967296) (hv : v < 4294967296) (who ah am aw : Int) :
    Calls Tryz.prog 134 #[.pointer (some ⟨g, 0, none⟩), .int .u32 who, .agg #[.int .u8 12, .int .u32 ah, .int .u32 (v : Nat), .int .u32 am, .int .i64 aw]] w fun e w' => e = .returned (.tuple #[.int .u32 ((f ||| v : Nat) : Int), .int .i64 0]) ∧ Blk w' g (onec ((f ||| v : Nat) : Int)) 88 ∧ Buts [g] w w' := by
  have HB : Hid (Blk w g (onec f) 88) := h
  have hlt := h.lt
  have c0 : w.cell? ⟨g, 0, none⟩ = some (.int .u32 f) := by rw [h.cell]; rfl
  have f0 := h.free 0
  have eq : bits .or .u32 (f : Int) (v : Int) = ((f ||| v : Nat) : Int) := u32_or_nat f v hf hv
  have hl : f ||| v < 4294967296 := Mk.or_lt hf hv
  clear h
  generalize f ||| v = x at *
  go_enter Tryz.func134, Tryz.ntmps134
  go_wp2
  go_region
  all_goals
    go_wp2
    go_ret2
    exact ⟨rfl, drawn1_set HB.out _ 0 _⟩
theorem flg_lower {w : World} {g : Nat} {f v : Nat} (h : Blk w g (onec f) 88) (hf : f < 4294967296) (hv : v < 4294967296) (who ah am aw : Int) :
    Calls Tryz.prog 134 #[.pointer (some ⟨g, 0, none⟩), .int .u32 who, .agg #[.int .u8 13, .int .u32 ah, .int .u32 (v : Nat), .int .u32 am, .int .i64 aw]] w fun e w' => e = .returned (.tuple #[.int .u32 ((Mk.bt f v : Nat) : Int), .int .i64 0]) ∧ Blk w' g (onec ((Mk.bt f v : Nat) : Int)) 88 ∧ Buts [g] w w' := by
  have HB : Hid (Blk w g (onec f) 88) := h
  have hlt := h.lt
  have c0 : w.cell? ⟨g, 0, none⟩ = some (.int .u32 f) := by rw [h.cell]; rfl
  have f0 := h.free 0
  have eq : bits .andNot .u32 (f : Int) (v : Int) = ((Mk.bt f v : Nat) : Int) := u32_andNot_nat f v hf hv
  have hl : Mk.bt f v < 4294967296 := Mk.bt_lt hf
  clear h
  generalize Mk.bt f v = x at *
  go_enter Tryz.func134, Tryz.ntmps134
  go_wp2
  go_region
  all_goals
    go_wp2
    go_ret2
    exact ⟨rfl, drawn1_set HB.out _ 0 _⟩
end Go.Proofs.YteicnekoogmmmaaGreatDoor
