/- The statements' own twin of a slice of bytes: a row of its own, with a byte 77 behind it. -/
import Derived.Test.YthglgpiaffgnfaaDoorSame
import Derived.Laws.OwnMore
namespace Go.Proofs.YthglgpiaffgnfaaDoor
open Go Go.RowKit
set_option maxRecDepth 100000
set_option linter.unusedVariables false
/-- a byte appended where there is room -/
theorem app_room {w : World} {g l cap b : Nat} {cur : List Int} (hg : Row w g cur) (hc : cur.length = cap) {x : Int} (hb : w.cell? ⟨b, 0, none⟩ = some (.int .u8 x)) (hl : l + 1 ≤ cap) :
    ∃ w', (Builtin.append_ #[22, 22] 22 #[.slice (some ⟨g, 0, none⟩) l cap, .slice (some ⟨b, 0, none⟩) 1 1]).run Tryd.prog w = .ok (.slice (some ⟨g, 0, none⟩) (l + 1) cap) w' ∧ Row w' g (cur.set l x) ∧ But g w w' := by
  obtain ⟨i, hi, he⟩ := Option.map_eq_some_iff.1 info5
  have h2 : i.size = 1 := by simpa using congrArg (fun x => x.2.1) he
  have hr := run_append_room (P := Tryd.prog) w 22 22 5 i Tryd.underlying22 hi g l cap (byt cur).toArray hg ⟨b, 0, none⟩ 1 1 [.int .u8 x] (by rw [h2]; rfl)
    (fun j u hj => by
      rcases j with _ | j
      · simp only [List.getElem?_cons_zero] at hj
        rw [← hj]
        exact hb
      · simp at hj) (by intro u hu; rw [List.mem_singleton] at hu; subst hu; rfl) hl (by simp [h2, byt_len]; omega)
  refine ⟨_, hr, ?_, ⟨rfl, rfl, rfl, by simp [World.setRow], fun k hk hk2 => setRow_other w g k _ hk2⟩⟩
  unfold Row
  rw [setRow_heap w g _ _ 5 (0, 0) hg]
  congr 2
  have e : List.take (l * i.size) (byt cur).toArray.toList ++ [Value.int .u8 x] ++ List.drop (l * i.size + [Value.int .u8 x].length) (byt cur).toArray.toList = byt (cur.set l x) := by
    rw [h2, Nat.mul_one]
    show (byt cur).take l ++ [Value.int .u8 x] ++ (byt cur).drop (l + 1) = _
    rw [byt_take, byt_drop, show [Value.int .u8 x] = byt [x] from rfl, ← byt_app, ← byt_app]
    congr 1
    rw [List.set_eq_take_append_cons_drop, if_pos (by omega)]
    simp
  rw [e]
/-- the same at the call -/
theorem wpList_app_room {w : World} {ops : Array Oper} {rest : List Oper} {o : Oper} {a : Act} {Q : Exit → Act → World → Prop} (hgd : o.guard = none) (s x : Operand)
    (ho : o.op = .call { callee := .builtin .append, args := #[s, x], argTypes := #[22, 22] }) (hty : o.type = 22) {g l cap b : Nat} {cur : List Int} {z : Int} (hse : a.eval s = .slice (some ⟨g, 0, none⟩) l cap) (hx : a.eval x = .slice (some ⟨b, 0, none⟩) 1 1)
    (hg : Row w g cur) (hc : cur.length = cap) (hb : w.cell? ⟨b, 0, none⟩ = some (.int .u8 z)) (hl : l + 1 ≤ cap)
    (h : ∀ w', Hid (Row w' g (cur.set l z)) → But g w w' → wpList Tryd.prog ops Q rest (a.put o.dst (.slice (some ⟨g, 0, none⟩) (l + 1) cap)) w') : wpList Tryd.prog ops Q (o :: rest) a w := by
  refine wpList_plain hgd fun K hK => ?_
  obtain ⟨w', hr, h1, h2⟩ := app_room hg hc hb hl
  unfold Oper.wp execOp
  simp only [ho, resolve, invoke, builtin, Sem.run_bind, Sem.run_pure, Result.andThen_ok, List.map_toArray, List.map_cons, List.map_nil, hse, hx]
  rw [hty, hr]
  exact hK _ _ (h w' h1 h2)
theorem take_set (zs : List Int) (n i : Nat) (hi : i < zs.length) (hn : zs.length = n) : (zs.take i ++ List.replicate (n + 1 - i) 0).set i (zs.getD i 0) = zs.take (i + 1) ++ List.replicate (n + 1 - (i + 1)) 0 := by
  rw [List.set_append_right _ _ (by simp; omega), show i - (zs.take i).length = 0 by simp; omega, show n + 1 - i = (n - i) + 1 by omega, List.replicate_succ, List.set_cons_zero, List.take_succ_eq_append_getElem hi, show n + 1 - (i + 1) = n - i by omega, List.append_assoc, List.singleton_append, show zs.getD i 0 = zs[i] by simp [hi]]
theorem end_set (zs : List Int) (n : Nat) (hn : zs.length = n) : (zs.take n ++ List.replicate (n + 1 - n) 0).set n 77 = zs ++ [77] := by
  rw [← hn, List.take_length, show zs.length + 1 - zs.length = 1 by omega]
  simp
set_option maxHeartbeats 1000000 in
theorem twin_any {w : World} {B n : Nat} {sp : Option Addr} {zs : List Int} (hs : Src B w sp zs) (hBw : B ≤ w.heap.size) (hn : zs.length = n) (hl : n ≤ 100000) (c : Nat) :
    Calls Tryd.prog 4 #[.slice sp n c] w fun e w' => e = .returned (.slice (some ⟨w.heap.size, 0, none⟩) n (n + 1)) ∧ Row w' w.heap.size (zs ++ [77]) ∧ Below w.heap.size w w' := by
  have hmk : (Instr.makeSlice 22 (.int .i64 0) (.int .i64 ((n : Int) + 1))).run Tryd.prog w = .ok (.slice (some ⟨w.heap.size, 0, none⟩) 0 (n + 1)) (w.alloc (.cells (byt (List.replicate (n + 1) 0)).toArray 5)) := make_row w 0 (n + 1) (by omega) (by omega)
  have hB := alloc_below w (.cells (byt (List.replicate (n + 1) 0)).toArray 5)
  have hA : Row (w.alloc (.cells (byt (List.replicate (n + 1) 0)).toArray 5)) w.heap.size (List.replicate (n + 1) 0) := alloc_at w _
  have HN : Hid (zs.length = n) := hn
  clear hn
  have HS : Hid (Src B w sp zs) := hs
  clear hs
  generalize w.alloc (.cells (byt (List.replicate (n + 1) 0)).toArray 5) = w1 at *
  go_enter Tryd.func4, Tryd.ntmps4
  go_wp2
  go_loopg [3, 4] n (fun g s3 s4 wx => ∃ i : Nat, i + g = n ∧ s4 = .int .i64 i ∧ s3 = .slice (some ⟨w.heap.size, 0, none⟩) i (n + 1) ∧ Below w.heap.size w wx ∧ Hid (Row wx w.heap.size (zs.take i ++ List.replicate (n + 1 - i) 0)))
  case atStart => exact ⟨0, by omega, rfl, rfl, hB, hA⟩
  case round =>
    clear hB hA hmk
    obtain ⟨i, hig, rfl, rfl, hB, HR⟩ := hrel
    cases gk with
    | zero =>
      obtain rfl : i = n := by omega
      have hA2 := alloc_at wr (.cells #[.int .u8 77] 5)
      have hb2 := alloc_below wr (.cells #[.int .u8 77] 5)
      have hr2 : Row (wr.alloc (.cells #[.int .u8 77] 5)) w.heap.size _ := (hb2.block _ HR.out.lt).trans HR.out
      have hc2 : (wr.alloc (.cells #[.int .u8 77] 5)).cell? ⟨wr.heap.size, 0, none⟩ = some (.int .u8 77) := by rw [cell_of hA2]; rfl
      have hls := hB.size
      have HL : Hid ((zs.take i ++ List.replicate (i + 1 - i) 0).length = i + 1) := by show _ = _; simp [HN.out]
      go_wp2_with (first
        | (at_builtin; refine wpList_app_room rfl (.tmp 22) (.tmp 23) rfl rfl rfl rfl hr2 HL.out hc2 (Nat.le_refl _) ?_; intro w3 HR3 hb3))
      go_ret
      refine ⟨rfl, ?_, hB.trans ((hb2.mono hls).trans (hb3.below (Nat.le_refl _) (by have := hb2.size; omega)))⟩
      have := HR3.out
      rwa [end_set zs i HN.out] at this
    | succ g =>
      obtain ⟨b1, o1, rfl, hb1, hc1⟩ := HS.out.spot (by rw [HN.out]; omega)
      have hci := (hB.cell (p := ⟨b1, o1 + i, none⟩) (show b1 < w.heap.size by omega)).trans (hc1 i (by rw [HN.out]; omega))
      clear hc1
      have HT : Hid ((zs.take i ++ List.replicate (n + 1 - i) 0).set i (zs.getD i 0) = zs.take (i + 1) ++ List.replicate (n + 1 - (i + 1)) 0) := take_set zs n i (by rw [HN.out]; omega) HN.out
      generalize zs.getD i 0 = zi at *
      have hA2 := alloc_at wr (.cells #[.int .u8 zi] 5)
      have hb2 := alloc_below wr (.cells #[.int .u8 zi] 5)
      have hr2 : Row (wr.alloc (.cells #[.int .u8 zi] 5)) w.heap.size _ := (hb2.block _ HR.out.lt).trans HR.out
      have hc2 : (wr.alloc (.cells #[.int .u8 zi] 5)).cell? ⟨wr.heap.size, 0, none⟩ = some (.int .u8 zi) := by rw [cell_of hA2]; rfl
      have hls := hB.size
      have HL : Hid ((zs.take i ++ List.replicate (n + 1 - i) 0).length = n + 1) := by show _ = _; simp [HN.out]; omega
      go_wp2_with (first
        | (at_builtin; refine wpList_app_room rfl (.tmp 15) (.tmp 20) rfl rfl rfl rfl hr2 HL.out hc2 (by omega) ?_; intro w3 HR3 hb3))
      go_roundg g
      case measure => omega
      case rel => exact ⟨i + 1, by omega, by go_num, rfl, hB.trans ((hb2.mono hls).trans (hb3.below (Nat.le_refl _) (by have := hb2.size; omega))), by show Row _ _ _; rw [← HT.out]; exact HR3.out⟩
end Go.Proofs.YthglgpiaffgnfaaDoor
