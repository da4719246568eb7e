/- Numbers as words, whether a task is held as a word, and the words of what it waits for. -/
import Derived.Test.YtnoadpgnefncjaaDoorTop
import Derived.Test.YtnoadpgnefncjaaDoorThen
import Derived.Test.YtnoadpgnefncjaaDoorShelf
import Derived.Laws.OwnMore
import Derived.Laws.AppendOwn
namespace Go.Proofs.YtnoadpgnefncjaaDoor
open Go Go.RowKit
set_option maxRecDepth 100000
set_option linter.unusedVariables false
set_option linter.unusedSimpArgs false
def mk (l : List UInt8) : ByteArray := ⟨l.toArray⟩
def sv (ws : List (List UInt8)) : List Value := ws.map fun x => .string (mk x)
theorem sv_len (ws : List (List UInt8)) : (sv ws).length = ws.length := by simp [sv]
theorem alloc_at (w : World) (o : Obj) : (w.alloc o).heap[w.heap.size]? = some o := by show (w.heap.push o)[w.heap.size]? = some o; exact Array.getElem?_push_size
theorem alloc_size (w : World) (o : Obj) : (w.alloc o).heap.size = w.heap.size + 1 := by show (w.heap.push o).size = _; exact Array.size_push _
theorem alloc_below (w : World) (o : Obj) : Below w.heap.size w (w.alloc o) := (Below.refl _ _).alloc (Nat.le_refl _) _
theorem below_grow (w : World) (k : Nat) (os : Array Obj) : Below w.heap.size w (Go.Sort.grow (w.drewN k) os) := by
  have h := below_drewN w k
  have hs : (w.drewN k).heap.size = w.heap.size := by
    clear h
    induction k with
    | zero => rfl
    | succ n ih => exact ih
  refine ⟨h.os, h.tape, h.output, ?_, fun i hi => ?_⟩
  · simp [Go.Sort.grow]
  · rw [← h.block i hi]; simp only [Go.Sort.grow]; rw [Array.getElem?_append_left (by omega)]
abbrev Pow (w : World) : Prop := Lib.TabIs Tryd.prog w "internal/strconv.uint64pow10" .u64 Lib.pow10Tab
theorem var_below {B g : Nat} {W W' : World} {n : String} {cs : Array Value} (h : Below B W W') (hg : Tryd.prog.globalNamed n = some g) (hgB : g < B) (hv : W.var? Tryd.prog n = some cs) : W'.var? Tryd.prog n = some cs := by
  unfold World.var? at hv ⊢
  simp only [hg, Option.bind_some] at hv ⊢
  rw [h.block g hgB]
  exact hv
theorem var_lt {g : Nat} {W : World} {n : String} {cs : Array Value} (hg : Tryd.prog.globalNamed n = some g) (hv : W.var? Tryd.prog n = some cs) : g < W.heap.size := by
  unfold World.var? at hv
  simp only [hg, Option.bind_some] at hv
  rcases Nat.lt_or_ge g W.heap.size with h | h
  · exact h
  · rw [Array.getElem?_eq_none h] at hv; cases hv
theorem powAt : Tryd.prog.globalNamed "internal/strconv.uint64pow10" = some 1 := by kernel_rfl
theorem Pow.on {w w' : World} (h : Pow w) (hb : Below w.heap.size w w') : Pow w' := var_below hb powAt (var_lt powAt h) h
/-- what the walks ask of memory -/
structure Env (w : World) : Prop where
  pow : Pow w
  wd : ∀ s : Int, (s = 1 ∨ s = 2 ∨ s = 3) → w.cell? ⟨0, s.toNat, none⟩ = some (.string (mk (stw s)))
  lt : 0 < w.heap.size
theorem Env.on {w w' : World} (h : Env w) (hb : Below w.heap.size w w') : Env w' :=
  ⟨h.pow.on hb, fun s hs => by rw [(bcell hb).1 _ _ h.lt]; exact h.wd s hs, Nat.lt_of_lt_of_le h.lt hb.size⟩
theorem fmt_any (n : Int) (h0 : -9223372036854775808 ≤ n) (h1 : n ≤ 9223372036854775807) (w : World) (ht : Pow w) :
    Calls Tryd.prog 32 #[.int .i64 n, .int .i64 10] w fun e w' => e = .returned (.string (mk (Lib.itoa n))) ∧ Below w.heap.size w w' :=
  (Tryd.strconv_FormatInt n h0 h1 w ht).mono fun _ _ ⟨he, k, os, hw⟩ => ⟨he, by rw [hw]; exact below_grow w k os⟩
theorem du32_any (n : Int) (h0 : 0 ≤ n) (h1 : n ≤ 4294967295) (w : World) (ht : Pow w) :
    Calls Tryd.prog 20 #[.int .u32 n] w fun e w' => e = .returned (.string (mk (Lib.itoa n))) ∧ Below w.heap.size w w' := by
  have hF := fmt_any n (by omega) (by omega) w ht
  clear ht
  go_enter Tryd.func20, Tryd.ntmps20
  go_wp2_with (first
    | (go_at_call 32; refine hF.mono ?_; rintro e wx ⟨rfl, hb⟩))
  go_ret
  exact ⟨rfl, hb⟩
theorem dint_any (n : Int) (h0 : -9223372036854775808 ≤ n) (h1 : n ≤ 9223372036854775807) (w : World) (ht : Pow w) :
    Calls Tryd.prog 22 #[.int .i64 n] w fun e w' => e = .returned (.string (mk (Lib.itoa n))) ∧ Below w.heap.size w w' := by
  have hF := fmt_any n (by omega) (by omega) w ht
  clear ht
  go_enter Tryd.func22, Tryd.ntmps22
  go_wp2_with (first
    | (go_at_call 32; refine hF.mono ?_; rintro e wx ⟨rfl, hb⟩))
  go_ret
  exact ⟨rfl, hb⟩
theorem derr_any (n : Int) (h0 : -9223372036854775808 ≤ n) (h1 : n ≤ 9223372036854775807) (w : World) (ht : Pow w) :
    Calls Tryd.prog 24 #[.int .i64 n] w fun e w' => e = .returned (.string (mk (Lib.itoa n))) ∧ Below w.heap.size w w' := by
  have hF := fmt_any n (by omega) (by omega) w ht
  clear ht
  go_enter Tryd.func24, Tryd.ntmps24
  go_wp2_with (first
    | (go_at_call 32; refine hF.mono ?_; rintro e wx ⟨rfl, hb⟩))
  go_ret
  exact ⟨rfl, hb⟩
theorem dwhat_any (n : Int) (h0 : 0 ≤ n) (h1 : n ≤ 255) (w : World) (ht : Pow w) :
    Calls Tryd.prog 33 #[.int .u8 n] w fun e w' => e = .returned (.string (mk (Lib.itoa n))) ∧ Below w.heap.size w w' := by
  have hF := fmt_any n (by omega) (by omega) w ht
  clear ht
  go_enter Tryd.func33, Tryd.ntmps33
  go_wp2_with (first
    | (go_at_call 32; refine hF.mono ?_; rintro e wx ⟨rfl, hb⟩))
  go_ret
  exact ⟨rfl, hb⟩
theorem di64_any (n : Int) (h0 : -9223372036854775808 ≤ n) (h1 : n ≤ 9223372036854775807) (w : World) (ht : Pow w) :
    Calls Tryd.prog 34 #[.int .i64 n] w fun e w' => e = .returned (.string (mk (Lib.itoa n))) ∧ Below w.heap.size w w' := by
  have hF := fmt_any n (by omega) (by omega) w ht
  clear ht
  go_enter Tryd.func34, Tryd.ntmps34
  go_wp2_with (first
    | (go_at_call 32; refine hF.mono ?_; rintro e wx ⟨rfl, hb⟩))
  go_ret
  exact ⟨rfl, hb⟩
theorem held_any (d : Bool) (w : World) : Calls Tryd.prog 21 #[.bool d] w fun e w' => e = .returned (.string (mk (hdw d))) ∧ w' = w := by
  cases d
  all_goals (go_enter Tryd.func21, Tryd.ntmps21; go_wp2; go_ret; exact ⟨rfl, rfl⟩)
/-- the numbers of a task are of their kinds -/
structure Bd (h s b r wh ah av am aw lf an la vl : Int) : Prop where
  h : 0 ≤ h ∧ h ≤ 4294967295
  s : 0 ≤ s ∧ s ≤ 255
  b : -9223372036854775808 ≤ b ∧ b ≤ 9223372036854775807
  r : -9223372036854775808 ≤ r ∧ r ≤ 9223372036854775807
  wh : 0 ≤ wh ∧ wh ≤ 255
  ah : 0 ≤ ah ∧ ah ≤ 4294967295
  av : 0 ≤ av ∧ av ≤ 4294967295
  am : 0 ≤ am ∧ am ≤ 4294967295
  aw : -9223372036854775808 ≤ aw ∧ aw ≤ 9223372036854775807
  lf : -9223372036854775808 ≤ lf ∧ lf ≤ 9223372036854775807
  an : -9223372036854775808 ≤ an ∧ an ≤ 9223372036854775807
  la : -9223372036854775808 ≤ la ∧ la ≤ 9223372036854775807
  vl : 0 ≤ vl ∧ vl ≤ 4294967295
theorem row_new (w : World) (B : Nat) (hB : B ≤ w.heap.size) (ws : List (List UInt8)) (hl : ws.length ≤ 100) : (w.alloc (.cells (sv ws).toArray 9)).ownsRow B 9 1 (.slice (some ⟨w.heap.size, 0, none⟩) ws.length ws.length) ws.length (sv ws) := by
  refine ⟨by rw [sv_len, Nat.mul_one], Or.inr ⟨w.heap.size, ws.length, (sv ws).toArray, rfl, hB, alloc_at _ _, Nat.le_refl _, by simp only [maxLen]; omega, by simp [sv_len], ?_⟩⟩
  rw [Nat.mul_one, ← sv_len]
  simp
set_option maxHeartbeats 4000000 in
theorem parts_no (h s : Int) (d : Bool) (b r wh ah av am aw lf an la vl : Int) (hs : s ≠ 2) (w : World) : Calls Tryd.prog 23 #[.agg #[.int .u32 h, .int .u8 s, .bool d, .int .i64 b, .int .i64 r, .int .u8 wh, .int .u32 ah, .int .u32 av, .int .u32 am, .int .i64 aw, .int .i64 lf, .int .i64 an, .int .i64 la, .int .u32 vl]] w fun e w' => (∃ v, e = .returned v ∧ w'.ownsRow w.heap.size 9 1 v 1 (sv [[45]])) ∧ Below w.heap.size w w' := by
  have h2 : (s != 2) = true := bne_iff_ne.2 hs
  have R := row_new (w.alloc (.cells #[.int .u32 h, .int .u8 s, .bool d, .int .i64 b, .int .i64 r, .int .u8 wh, .int .u32 ah, .int .u32 av, .int .u32 am, .int .i64 aw, .int .i64 lf, .int .i64 an, .int .i64 la, .int .u32 vl] 29)) w.heap.size (by rw [alloc_size]; omega) [[45]] (by decide)
  have HR : Hid _ := R
  clear R
  go_enter Tryd.func23, Tryd.ntmps23
  go_wp2
  go_ret
  refine ⟨⟨_, rfl, ?_⟩, ((Below.refl _ _).alloc (Nat.le_refl _) _).trans ((alloc_below _ _).mono (by rw [alloc_size]; omega))⟩
  rw [alloc_size] at HR
  exact HR.out
set_option maxHeartbeats 4000000 in
theorem parts_yes (h s : Int) (d : Bool) (b r wh ah av am aw lf an la vl : Int) (hB : Bd h s b r wh ah av am aw lf an la vl) (hs : s = 2) (w : World) (E : Env w) : Calls Tryd.prog 23 #[.agg #[.int .u32 h, .int .u8 s, .bool d, .int .i64 b, .int .i64 r, .int .u8 wh, .int .u32 ah, .int .u32 av, .int .u32 am, .int .i64 aw, .int .i64 lf, .int .i64 an, .int .i64 la, .int .u32 vl]] w fun e w' => (∃ v, e = .returned v ∧ w'.ownsRow w.heap.size 9 1 v 5 (sv [Lib.itoa wh, Lib.itoa ah, Lib.itoa av, Lib.itoa am, Lib.itoa lf])) ∧ Below w.heap.size w w' := by
  have hp : ∀ g, Pow (above ((w.alloc (.cells #[.int .u32 h, .int .u8 s, .bool d, .int .i64 b, .int .i64 r, .int .u8 wh, .int .u32 ah, .int .u32 av, .int .u32 am, .int .i64 aw, .int .i64 lf, .int .i64 an, .int .i64 la, .int .u32 vl] 29)).alloc (.cells #[.int .u8 wh, .int .u32 ah, .int .u32 av, .int .u32 am, .int .i64 aw] 26)) g) := fun g => E.pow.on ((((Below.refl _ _).alloc (Nat.le_refl _) _).trans ((alloc_below _ _).mono (by rw [alloc_size]; omega))).trans ((below_above _ g).mono (by rw [alloc_size, alloc_size]; omega)))
  have hca := @above_cell
  subst hs
  go_enter Tryd.func23, Tryd.ntmps23
  go_wp2
  refine wp_calm_then 15 2 (by kernel_rfl) rfl (by kernel_rfl) ?_
  simp only [List.take_succ_cons, List.take_zero, List.drop_succ_cons, List.drop_zero]
  repeat (go_big_quiet_step (first
    | (go_at_call 33; exact calm_call (dwhat_any _ hB.wh.1 hB.wh.2 _ (hp _)))
    | (go_at_call_of 20 (Value.int IntKind.u32 ah); exact calm_call (du32_any _ hB.ah.1 hB.ah.2 _ (hp _)))
    | (go_at_call_of 20 (Value.int IntKind.u32 av); exact calm_call (du32_any _ hB.av.1 hB.av.2 _ (hp _)))
    | (go_at_call_of 20 (Value.int IntKind.u32 am); exact calm_call (du32_any _ hB.am.1 hB.am.2 _ (hp _)))
    | (go_at_call 34; exact calm_call (di64_any _ hB.lf.1 hB.lf.2 _ (hp _)))))
  refine wpQuiet_nil ?_
  intro w3 hb3
  have B0 : w.heap.size ≤ w3.heap.size := by have := hb3.size; rw [alloc_size, alloc_size] at this; omega
  have HR : Hid _ := row_new w3 w.heap.size B0 [Lib.itoa wh, Lib.itoa ah, Lib.itoa av, Lib.itoa am, Lib.itoa lf] (by simp)
  have HB3 : Hid (Below w.heap.size w w3) := (((Below.refl _ _).alloc (Nat.le_refl _) _).trans ((alloc_below _ _).mono (by rw [alloc_size]; omega))).trans (hb3.mono (by rw [alloc_size, alloc_size]; omega))
  clear hb3 hca hp B0
  go_wp2
  go_ret
  exact ⟨⟨_, rfl, HR.out⟩, HB3.out.trans ((alloc_below _ _).mono HB3.out.size)⟩
end Go.Proofs.YtnoadpgnefncjaaDoor
