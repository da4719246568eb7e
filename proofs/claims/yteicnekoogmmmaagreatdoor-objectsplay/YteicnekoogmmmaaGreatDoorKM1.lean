/- The document's own thing: what is asked that makes no list. -/
import Derived.Test.YteicnekoogmmmaaGreatDoorKLv
import Derived.Test.YteicnekoogmmmaaGreatDoorMRef
namespace Go.Proofs.YteicnekoogmmmaaGreatDoor
open Go Go.RowKit
set_option maxRecDepth 100000
set_option linter.unusedVariables false
/-- what an answer of the document's thing leaves -/
def KAns (s : Nat) (w : World) (q z : Nat) (v : Value) (R : Int × Int × Sx) (e : Ending) (w' : World) : Prop := e = .returned (.tuple #[.int .u32 R.1, .int .i64 R.2.1]) ∧ (∃ u', KR s w' q z u' v R.2.2) ∧ Buts [q, z] w w'
theorem KR.num {s : Nat} {w : World} {q z : Nat} {u v : Value} {T : Sx} (h : KR s w q z u v T) (x : Nat) : KR s (w.setCell ⟨q, 3, none⟩ (.int .u32 (x : Nat))) q z u v { T with n := x } ∧ Buts [q, z] w (w.setCell ⟨q, 3, none⟩ (.int .u32 (x : Nat))) :=
  have hb : Buts [q] w (w.setCell ⟨q, 3, none⟩ (.int .u32 (x : Nat))) := Buts.cell _ _ _ _
  ⟨h.set (kc_n h.head x) (h.own.q h.head hb) (b1 hb), b1 hb⟩
theorem KR.num2 {s : Nat} {w : World} {q z : Nat} {u v : Value} {T : Sx} (h : KR s w q z u v T) (x : Nat) (o : Obj) : KR s ((w.setCell ⟨q, 3, none⟩ (.int .u32 (x : Nat))).alloc o).drew q z u v { T with n := x } ∧ Buts [q, z] w ((w.setCell ⟨q, 3, none⟩ (.int .u32 (x : Nat))).alloc o).drew := by
  obtain ⟨h1, h2⟩ := h.num x
  have hb := (alloc_below (w.setCell ⟨q, 3, none⟩ (.int .u32 (x : Nat))) o).drew
  exact ⟨h1.below hb, h2.trans (Buts.of hb)⟩
set_option maxHeartbeats 2000000 in
theorem kraise {s : Nat} {w : World} {q z : Nat} {u v : Value} {T : Sx} (h : KR s w q z u v T) (hf : T.n < 4294967296) (x : Nat) (hx : x < 4294967296) (who ah am aw : Int) :
    Calls Tryz.prog 22 #[.pointer (some ⟨q, 0, none⟩), .int .u32 who, .agg #[.int .u8 12, .int .u32 ah, .int .u32 (x : Nat), .int .u32 am, .int .i64 aw]] w (KAns s w q z v (((T.n ||| x : Nat) : Int), 0, { T with n := T.n ||| x })) := by
  have HK : Hid (KR s w q z u v T) := h
  obtain ⟨_, _, _, c3, _, _, _⟩ := h.c
  have hlt := h.head.lt
  have f3 := h.head.free 3
  have eq : bits .or .u32 (T.n : Int) (x : Int) = ((T.n ||| x : Nat) : Int) := u32_or_nat T.n x hf hx
  have hl : T.n ||| x < 4294967296 := Mk.or_lt hf hx
  clear h
  unfold KAns
  generalize T.n ||| x = y at *
  go_enter Tryz.func22, Tryz.ntmps22
  go_wp2
  go_region
  all_goals
    go_wp2
    go_ret2
    exact ⟨rfl, ⟨u, (HK.out.num2 y _).1⟩, (HK.out.num2 y _).2⟩
set_option maxHeartbeats 2000000 in
theorem klower {s : Nat} {w : World} {q z : Nat} {u v : Value} {T : Sx} (h : KR s w q z u v T) (hf : T.n < 4294967296) (x : Nat) (hx : x < 4294967296) (who ah am aw : Int) :
    Calls Tryz.prog 22 #[.pointer (some ⟨q, 0, none⟩), .int .u32 who, .agg #[.int .u8 13, .int .u32 ah, .int .u32 (x : Nat), .int .u32 am, .int .i64 aw]] w (KAns s w q z v (((Mk.bt T.n x : Nat) : Int), 0, { T with n := Mk.bt T.n x })) := by
  have HK : Hid (KR s w q z u v T) := h
  obtain ⟨_, _, _, c3, _, _, _⟩ := h.c
  have hlt := h.head.lt
  have f3 := h.head.free 3
  have eq : bits .andNot .u32 (T.n : Int) (x : Int) = ((Mk.bt T.n x : Nat) : Int) := u32_andNot_nat T.n x hf hx
  have hl : Mk.bt T.n x < 4294967296 := Mk.bt_lt hf
  clear h
  unfold KAns
  generalize Mk.bt T.n x = y at *
  go_enter Tryz.func22, Tryz.ntmps22
  go_wp2
  go_region
  all_goals
    go_wp2
    go_ret2
    exact ⟨rfl, ⟨u, (HK.out.num2 y _).1⟩, (HK.out.num2 y _).2⟩
theorem kpeek {s : Nat} {w : World} {q z : Nat} {u v : Value} {T : Sx} (h : KR s w q z u v T) (hm : T.xs.length ≤ 64) (who ah av am aw : Int) :
    Calls Tryz.prog 22 #[.pointer (some ⟨q, 0, none⟩), .int .u32 who, .agg #[.int .u8 10, .int .u32 ah, .int .u32 av, .int .u32 am, .int .i64 aw]] w (KAns s w q z v (T.xs.headD 0, takeE T.xs, T)) := by
  have HK : Hid (KR s w q z u v T) := h
  obtain ⟨_, _, _, _, _, c5, _⟩ := h.c
  have hlt := h.head.lt
  unfold KAns
  rcases hx : T.xs with _ | ⟨x, xs⟩
  · rw [takeE_nil]
    rw [h.emp hx] at c5
    clear h
    go_enter Tryz.func22, Tryz.ntmps22
    go_wp2
    go_ret2
    exact ⟨rfl, ⟨u, HK.out.below (alloc_below _ _)⟩, Buts.of (alloc_below _ _)⟩
  · rw [takeE_cons]
    have hr := h.row
    rw [hx] at hr hm
    obtain ⟨g, cap, rfl, _, _⟩ := owns_spot hr (by simp)
    have c0 : w.cell? ⟨g, 0, none⟩ = some (.int .u32 x) := by
      have := World.ownsRow.cellAt hr 0 (by simp)
      rw [this]; rfl
    have gl := (World.ownsRow.lt hr g rfl).2
    obtain ⟨m, hml⟩ : ∃ m, (x :: xs).length = m := ⟨_, rfl⟩
    rw [hml] at c5 HK hm
    have hmz : ((m : Int) == 0) = false := by simp at hml; simp; omega
    have hm0 : (0 : Int) < m := by simp at hml; omega
    clear h hr hx hml
    go_enter Tryz.func22, Tryz.ntmps22
    go_wp2
    go_ret2
    exact ⟨rfl, ⟨_, HK.out.below (alloc_below _ _)⟩, Buts.of (alloc_below _ _)⟩
end Go.Proofs.YteicnekoogmmmaaGreatDoor
