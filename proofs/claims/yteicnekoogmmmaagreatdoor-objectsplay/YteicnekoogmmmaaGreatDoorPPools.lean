/- What the functions of package pools answer, for every pool in memory, whoever asks and every block; what they make in memory is new, and what they set is the pool's own block. -/
import Derived.Test.YteicnekoogmmmaaGreatDoorPEach
import Derived.Test.YteicnekoogmmmaaGreatDoorPButs
namespace Go.Proofs.YteicnekoogmmmaaGreatDoor.Pl
open Go Go.RowKit
set_option maxRecDepth 100000
set_option linter.unusedVariables false
theorem ret_n2 {k : IntKind} {a b : Int} (h : a = b) (r : Value) : Ending.returned (.tuple #[.int k a, r]) = .returned (.tuple #[.int k b, r]) := by rw [h]
/-- a pool that no call made -/
def zc (n : Int) : Array Value := (Value.int .i64 n :: wrd (List.replicate 64 0)).toArray
theorem zinfo : (Tryz.prog.info? 159).map (fun i => i.zero) = some (some (.agg (zc 0))) := by kernel_rfl
theorem zval (w : World) : Sem.run Tryz.prog (zeroValue 159) w = .ok (.agg (zc 0)) w := by
  obtain ⟨i, hi, he⟩ := Option.map_eq_some_iff.1 zinfo
  simp [zeroValue, typeInfo, hi, he]
theorem zc_ne (n : Int) : ¬ zc n = #[] := by simp [zc]
theorem zc_set (n m : Int) : (zc n).setIfInBounds 0 (.int .i64 m) = zc m := by simp [zc]
theorem zc_size (n : Int) : (zc n).size = 65 := by simp [zc, wrd]
theorem zc_pool (w : World) (n : Nat) (h1 : 1 ≤ n) (hn : n ≤ 64) : Pool (w.alloc (.cells (zc n) 159)) w.heap.size n (List.replicate n 0) := by
  refine ⟨?_, by simp, h1, hn, isW_zero n⟩
  rw [alloc_at, List.replicate_append_replicate, show n + (64 - n) = 64 by omega]
  rfl
theorem new_yes {w : World} (n : Nat) (s : Int) (h1 : 1 ≤ n) (hn : n ≤ 64) (hs : 1 ≤ s ∧ s ≤ 256) :
    Calls Tryz.prog 51 #[.int .i64 n, .int .i64 s] w fun e w' => e = .returned (.tuple #[.pointer (some ⟨w.heap.size, 0, none⟩), .int .i64 0]) ∧ Pool w' w.heap.size n (List.replicate n 0) ∧ Below w.heap.size w w' := by
  have a1 : ¬ (n : Int) < 1 := by omega
  have a2 : ¬ (64 : Int) < n := by omega
  have a3 : ¬ s < 1 := by omega
  have a4 : ¬ (256 : Int) < s := by omega
  have z1 := zval
  have z2 := zc_ne 0
  have z3 := zc_set 0 n
  have hp := zc_pool w n h1 hn
  have hb := alloc_below w (.cells (zc n) 159)
  go_enter Tryz.func51, Tryz.ntmps51
  go_wp2
  go_ret2
  exact ⟨rfl, hp, hb⟩
theorem new_no {w : World} (n s : Int) (h : n < 1 ∨ 64 < n ∨ s < 1 ∨ 256 < s) :
    Calls Tryz.prog 51 #[.int .i64 n, .int .i64 s] w fun e w' => e = .returned (.tuple #[.pointer none, .int .i64 1]) ∧ w' = w := by
  by_cases h1 : n < 1
  · go_enter Tryz.func51, Tryz.ntmps51
    go_wp2
    go_ret2
    exact ⟨rfl, rfl⟩
  · by_cases h2 : 64 < n
    · go_enter Tryz.func51, Tryz.ntmps51
      go_wp2
      go_ret2
      exact ⟨rfl, rfl⟩
    · by_cases h3 : s < 1
      · go_enter Tryz.func51, Tryz.ntmps51
        go_wp2
        go_ret2
        exact ⟨rfl, rfl⟩
      · have h4 : 256 < s := by omega
        go_enter Tryz.func51, Tryz.ntmps51
        go_wp2
        go_ret2
        exact ⟨rfl, rfl⟩
theorem free_no {w : World} {p n : Nat} {zs : List Int} (h : Pool w p n zs) (who b : Int) (hw : 0 ≤ who) (hb : who = 0 ∨ b < 0 ∨ (n : Int) ≤ b) :
    Calls Tryz.prog 144 #[.pointer (some ⟨p, 0, none⟩), .int .u32 who, .int .i64 b] w fun e w' => e = .returned (.int .i64 1) ∧ w' = w := by
  have hm := h.many
  have h1 := h.lo
  clear h
  by_cases c0 : who = 0
  · subst c0
    go_enter Tryz.func144, Tryz.ntmps144
    go_wp2_with (go_at_call 88; refine (there_yes hm h1).mono ?_; rintro e wx ⟨rfl, rfl⟩)
    go_ret
    exact ⟨rfl, rfl⟩
  · have c0' : (who == 0) = false := by simpa using c0
    by_cases c1 : b < 0
    · go_enter Tryz.func144, Tryz.ntmps144
      go_wp2_with (go_at_call 88; refine (there_yes hm h1).mono ?_; rintro e wx ⟨rfl, rfl⟩)
      go_ret
      exact ⟨rfl, rfl⟩
    · have c2 : (n : Int) ≤ b := by omega
      go_enter Tryz.func144, Tryz.ntmps144
      go_wp2_with (go_at_call 88; refine (there_yes hm h1).mono ?_; rintro e wx ⟨rfl, rfl⟩)
      go_ret
      exact ⟨rfl, rfl⟩
theorem free_other {w : World} {p n : Nat} {zs : List Int} (h : Pool w p n zs) (who : Int) (b : Nat) (hw : 0 < who) (hb : b < n) (ho : zs.getD b 0 ≠ who) :
    Calls Tryz.prog 144 #[.pointer (some ⟨p, 0, none⟩), .int .u32 who, .int .i64 b] w fun e w' => e = .returned (.int .i64 13) ∧ w' = w := by
  have hm := h.many
  have h1 := h.lo
  have hc := h.cell b hb
  have hn := h.hi
  clear h
  generalize zs.getD b 0 = z at *
  have c0' : (who == 0) = false := by simp; omega
  have ho' : (z == who) = false := by simpa using ho
  have hb' : (b : Int) < n := by omega
  have hb2 : (b : Int) < 64 := by omega
  go_enter Tryz.func144, Tryz.ntmps144
  go_wp2_with (go_at_call 88; refine (there_yes hm h1).mono ?_; rintro e wx ⟨rfl, rfl⟩)
  go_ret
  exact ⟨rfl, rfl⟩
theorem free_yes {w : World} {p n : Nat} {zs : List Int} (h : Pool w p n zs) (who : Int) (b : Nat) (hw : 0 < who) (hb : b < n) (ho : zs.getD b 0 = who) :
    Calls Tryz.prog 144 #[.pointer (some ⟨p, 0, none⟩), .int .u32 who, .int .i64 b] w fun e w' => e = .returned (.int .i64 0) ∧ Pool w' p n (zs.set b 0) ∧ But p w w' := by
  have hm := h.many
  have h1 := h.lo
  have hc := h.cell b hb
  have hn := h.hi
  have hf := h.free (1 + b)
  have hset := h.set hb (v := 0) (by omega)
  have hbut := But.setCell w p (1 + b) (.int .u32 0)
  clear h
  rw [ho] at hc
  clear ho
  have c0' : (who == 0) = false := by simp; omega
  have hb' : (b : Int) < n := by omega
  have hb2 : (b : Int) < 64 := by omega
  go_enter Tryz.func144, Tryz.ntmps144
  go_wp2_with (go_at_call 88; refine (there_yes hm h1).mono ?_; rintro e wx ⟨rfl, rfl⟩)
  go_ret
  exact ⟨rfl, hset, hbut⟩
theorem free_nil {w : World} (who b : Int) :
    Calls Tryz.prog 144 #[.pointer none, .int .u32 who, .int .i64 b] w fun e w' => e = .returned (.int .i64 2) ∧ w' = w := by
  go_enter Tryz.func144, Tryz.ntmps144
  go_wp2_with (go_at_call 88; refine there_nil.mono ?_; rintro e wx ⟨rfl, rfl⟩)
  go_ret
  exact ⟨rfl, rfl⟩
theorem free_zero {w : World} {p : Nat} (h0 : w.cell? ⟨p, 0, none⟩ = some (.int .i64 0)) (who b : Int) :
    Calls Tryz.prog 144 #[.pointer (some ⟨p, 0, none⟩), .int .u32 who, .int .i64 b] w fun e w' => e = .returned (.int .i64 2) ∧ w' = w := by
  go_enter Tryz.func144, Tryz.ntmps144
  go_wp2_with (go_at_call 88; refine (there_zero h0).mono ?_; rintro e wx ⟨rfl, rfl⟩)
  go_ret
  exact ⟨rfl, rfl⟩
/-- a variable of its own: one cell -/
def One (w : World) (b : Nat) (t : TypeId) (v : Value) : Prop := w.heap[b]? = some (.cells #[v] t (0, 0))
theorem One.cell {w : World} {b : Nat} {t : TypeId} {v : Value} (h : One w b t v) : w.cell? ⟨b, 0, none⟩ = some v := by rw [cell_of h]; rfl
theorem One.free {w : World} {b : Nat} {t : TypeId} {v : Value} (h : One w b t v) : w.frozen? ⟨b, 0, none⟩ = false := by unfold One at h; simp [World.frozen?, h]
theorem One.lt {w : World} {b : Nat} {t : TypeId} {v : Value} (h : One w b t v) : b < w.heap.size := at_lt h
theorem One.set {w : World} {b : Nat} {t : TypeId} {v : Value} (h : One w b t v) (u : Value) : One (w.setCell ⟨b, 0, none⟩ u) b t u := by
  have hl := at_lt h
  have hv : w.heap[b] = .cells #[v] t (0, 0) := (Array.getElem?_eq_some_iff.1 h).2
  unfold One World.setCell
  rw [Array.getElem?_eq_getElem (by simpa using hl), Array.getElem_modify]
  simp [hv]
theorem One.other {w : World} {b g k : Nat} {t : TypeId} {v : Value} (h : One w b t v) (u : Value) (hg : b ≠ g) : One (w.setCell ⟨g, k, none⟩ u) b t v := by
  unfold One at h ⊢; rw [Below.heap_setCell _ _ _ _ hg]; exact h
theorem One.below {w w' : World} {b : Nat} {t : TypeId} {v : Value} (h : One w b t v) (hb : Below w.heap.size w w') : One w' b t v := (hb.block b h.lt).trans h
theorem One.but {w w' : World} {b k : Nat} {t : TypeId} {v : Value} (h : One w b t v) (hb : But k w w') (hk : b ≠ k) : One w' b t v := (hb.block b h.lt hk).trans h
theorem One.new (w : World) (t : TypeId) (v : Value) : One (w.alloc (.cells #[v] t)) w.heap.size t v := alloc_at w _
theorem Pool.other {w : World} {p n g k : Nat} {zs : List Int} (h : Pool w p n zs) (u : Value) (hg : p ≠ g) : Pool (w.setCell ⟨g, k, none⟩ u) p n zs := h.same (Below.heap_setCell _ _ _ _ hg)
theorem cAlloc_yes {w : World} {p i b1 b2 b3 : Nat} {z : Int} (hc : w.cell? ⟨p, 1 + i, none⟩ = some (.int .u32 z)) (hz : z ≠ 0) :
    Calls Tryz.prog 145 #[.int .i64 i, .pointer (some ⟨p, 1 + i, none⟩), .pointer (some ⟨b1, 0, none⟩), .pointer (some ⟨b2, 0, none⟩), .pointer (some ⟨b3, 0, none⟩)] w fun e w' => e = .returned (.bool true) ∧ w' = w := by
  have hz' : (z == 0) = false := by simpa using hz
  go_enter Tryz.func145, Tryz.ntmps145
  go_wp2
  go_ret
  exact ⟨rfl, rfl⟩
theorem cAlloc_no {w : World} {p n i b1 b2 b3 : Nat} {zs : List Int} {who x y : Int} (hp : Pool w p n zs) (hi : i < n) (hz : zs.getD i 0 = 0) (h1 : One w b1 23 (.int .u32 who)) (h2 : One w b2 3 (.int .i64 x)) (h3 : One w b3 29 (.int .i64 y)) (n1 : p ≠ b1) (n2 : p ≠ b2) (n3 : p ≠ b3) (m3 : b2 ≠ b3) (hw : 0 ≤ who ∧ who ≤ 4294967295) :
    Calls Tryz.prog 145 #[.int .i64 i, .pointer (some ⟨p, 1 + i, none⟩), .pointer (some ⟨b1, 0, none⟩), .pointer (some ⟨b2, 0, none⟩), .pointer (some ⟨b3, 0, none⟩)] w fun e w' => e = .returned (.bool false) ∧ Pool w' p n (zs.set i who) ∧ One w' b2 3 (.int .i64 i) ∧ One w' b3 29 (.int .i64 0) ∧ Buts [p, b2, b3] w w' := by
  have hc := hp.cell i hi
  rw [hz] at hc
  have hf := hp.free (1 + i)
  have c1 := h1.cell
  have P1 := hp.set hi hw
  have o2 := h2.other (k := 1 + i) (.int .u32 who) (Ne.symm n2)
  have o3 := h3.other (k := 1 + i) (.int .u32 who) (Ne.symm n3)
  have B1 := Buts.cell w p (1 + i) (.int .u32 who)
  generalize hw1 : w.setCell ⟨p, 1 + i, none⟩ (.int .u32 who) = w1 at *
  have P2 := P1.other (k := 0) (.int .i64 i) n2
  have q2 := o2.set (.int .i64 i)
  have q3 := o3.other (k := 0) (.int .i64 i) (Ne.symm m3)
  have B2 := Buts.cell w1 b2 0 (.int .i64 i)
  have d2 := o2.cell
  have e2 := o2.free
  generalize hw2 : w1.setCell ⟨b2, 0, none⟩ (.int .i64 i) = w2 at *
  have P3 := P2.other (k := 0) (.int .i64 0) n3
  have r2 := q2.other (k := 0) (.int .i64 0) m3
  have r3 := q3.set (.int .i64 0)
  have B3 := Buts.cell w2 b3 0 (.int .i64 0)
  have d3 := q3.cell
  have e3 := q3.free
  have HB : Hid (Buts [p, b2, b3] w (w2.setCell ⟨b3, 0, none⟩ (.int .i64 0))) := ((B1.mono (by simp)).trans (B2.mono (by simp))).trans (B3.mono (by simp))
  clear hp h1 h2 h3 P1 o2 o3 B1 P2 q2 q3 B2 B3
  go_enter Tryz.func145, Tryz.ntmps145
  go_wp2
  go_ret
  exact ⟨rfl, P3, r2, r3, HB.out⟩
end Go.Proofs.YteicnekoogmmmaaGreatDoor.Pl
