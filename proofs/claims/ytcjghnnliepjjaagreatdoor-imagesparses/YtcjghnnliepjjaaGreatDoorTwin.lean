/- The statements' own twin of bytes: a row of its own, with a byte 77 behind it; bytes with one of them another. -/
import Derived.Test.YtcjghnnliepjjaaGreatDoorBoxes
namespace Go.Proofs.YtcjghnnliepjjaaGreatDoor
open Go Go.RowKit
set_option maxRecDepth 100000
set_option linter.unusedVariables false
/-- a row of bytes -/
def BRow (w : World) (g : Nat) (zs : List Int) : Prop := w.heap[g]? = some (.cells (byt zs).toArray 5 (0, 0))
theorem BRow.src {w : World} {g : Nat} {zs : List Int} (h : BRow w g zs) : Src w (some ⟨g, 0, none⟩) zs := row_src (n := 0) (c := 0) h
theorem BRow.on {w w' : World} {g : Nat} {zs : List Int} (h : BRow w g zs) (hb : Below w.heap.size w w') : BRow w' g zs := (hb.block _ (at_lt h)).trans h
theorem BRow.set {w : World} {g : Nat} {zs : List Int} (h : BRow w g zs) (k : Nat) (v : Int) : BRow (w.setCell ⟨g, k, none⟩ (.int .u8 v)) g (zs.set k v) := by
  have := set_block h k (.int .u8 v)
  unfold BRow
  rw [this]
  congr 2
  simp [byt, List.map_set]
theorem Src.else {w : World} {sp : Option Addr} {zs : List Int} {g k : Nat} {v : Value} (h : Src w sp zs) (hg : ∀ b off, sp = some ⟨b, off, none⟩ → b ≠ g) : Src (w.setCell ⟨g, k, none⟩ v) sp zs := fun hz => by
  obtain ⟨b, off, e, hc⟩ := h hz
  exact ⟨b, off, e, fun i hi => (setCell_cell (hg b off e)).trans (hc i hi)⟩
theorem made_zero (n : Nat) : madeCells (Value.int .u8 0).cells n = (byt (List.replicate n 0)).toArray := by
  apply Array.ext_getElem?
  intro i
  by_cases hi : i < n
  · simp [madeCells, Value.cells, byt, hi, Nat.mod_one]
  · simp [madeCells, Value.cells, byt, hi]
theorem make_zero (w : World) (l c : Nat) (hl : l ≤ c) (hc : c ≤ 1000000) :
    (Instr.makeSlice 22 (.int .i64 l) (.int .i64 c)).run Tryz.prog w = .ok (.slice (some ⟨w.heap.size, 0, none⟩) l c) (w.alloc (.cells (byt (List.replicate c 0)).toArray 5)) := by
  obtain ⟨i, hi, h1, h2, h3⟩ := info_parts infoB
  have := run_make w 22 5 i (.int .u8 0) Tryz.underlying22 hi h1 .i64 .i64 l c (by omega) (by omega) (by rw [h3]; omega) (by omega)
  rw [this, h2, Nat.mul_one, made_zero]
  simp
/-- a byte put behind others where there is room, at the call -/
theorem wpList_room {w : World} {ops : Array Oper} {rest : List Oper} {o : Oper} {a : Act} {Q : Exit → Act → World → Prop} (hgd : o.guard = none) (s x : Operand)
    (ho : o.op = .call { callee := .builtin .append, args := #[s, x], argTypes := #[22, 22] }) (hty : o.type = 22) {g l cap b : Nat} {cur : List Int} {z : Int} (hse : a.eval s = .slice (some ⟨g, 0, none⟩) l cap) (hx : a.eval x = .slice (some ⟨b, 0, none⟩) 1 1)
    (hg : BRow w g cur) (hc : cur.length = cap) (hb : Src w (some ⟨b, 0, none⟩) [z]) (hl : l + 1 ≤ cap)
    (h : ∀ w', Hid (BRow w' g (cur.set l z)) → Hid (Buts [g] w w') → wpList Tryz.prog ops Q rest (a.put o.dst (.slice (some ⟨g, 0, none⟩) (l + 1) cap)) w') : wpList Tryz.prog ops Q (o :: rest) a w := by
  refine wpList_plain hgd fun K hK => ?_
  obtain ⟨i, hi, h1, h2, h3⟩ := info_parts infoB
  have hr := run_append_room (P := Tryz.prog) w 22 22 5 i Tryz.underlying22 hi g l cap (byt cur).toArray hg ⟨b, 0, none⟩ 1 1 [.int .u8 z] (by rw [h2]; rfl) (src_news (zs := [z]) hb) (byt_one [z]) hl (by simp [h2, byt_len]; omega)
  unfold Oper.wp execOp
  simp only [ho, resolve, invoke, builtin, Sem.run_bind, Sem.run_pure, Result.andThen_ok, List.map_toArray, List.map_cons, List.map_nil, hse, hx]
  rw [hty, hr]
  refine hK _ _ (h _ ?_ ⟨rfl, rfl, rfl, by simp [World.setRow], fun k hk hk2 => setRow_other w g k _ (by simpa using hk2)⟩)
  show BRow _ _ _
  unfold BRow
  rw [setRow_heap w g _ _ 5 (0, 0) hg]
  congr 2
  have e : List.take (l * i.size) (byt cur).toArray.toList ++ [Value.int .u8 z] ++ List.drop (l * i.size + [Value.int .u8 z].length) (byt cur).toArray.toList = byt (cur.set l z) := by
    rw [h2, Nat.mul_one]
    show (byt cur).take l ++ [Value.int .u8 z] ++ (byt cur).drop (l + 1) = _
    rw [byt_take, byt_drop, show [Value.int .u8 z] = byt [z] from rfl, ← byt_app, ← byt_app]
    congr 1
    rw [List.set_eq_take_append_cons_drop, if_pos (by omega)]
    simp
  rw [e]
theorem take_set (zs : List Int) (n i : Nat) (hi : i < zs.length) (hn : zs.length = n) : (zs.take i ++ List.replicate (n + 1 - i) 0).set i (zs.getD i 0) = zs.take (i + 1) ++ List.replicate (n + 1 - (i + 1)) 0 := by
  rw [List.set_append_right _ _ (by simp; omega), show i - (zs.take i).length = 0 by simp; omega, show n + 1 - i = (n - i) + 1 by omega, List.replicate_succ, List.set_cons_zero, List.take_succ_eq_append_getElem hi, show n + 1 - (i + 1) = n - i by omega, List.append_assoc, List.singleton_append, show zs.getD i 0 = zs[i] by simp [hi]]
theorem end_set (zs : List Int) (n : Nat) (hn : zs.length = n) : (zs.take n ++ List.replicate (n + 1 - n) 0).set n 77 = zs ++ [77] := by
  rw [← hn, List.take_length, show zs.length + 1 - zs.length = 1 by omega]
  simp
set_option maxHeartbeats 2000000 in
theorem twin_any {w : World} {n : Nat} {sp : Option Addr} {zs : List Int} (hs : Src w sp zs) (hn : zs.length = n) (hl : n ≤ 100000) (c : Nat) :
    Calls Tryz.prog 19 #[.slice sp n c] w fun e w' => ∃ d, e = .returned (.slice (some ⟨w.heap.size, 0, none⟩) n d) ∧ (BRow w' w.heap.size (zs ++ [77]) ∧ d = n + 1) ∧ Below w.heap.size w w' := by
  have hmk : (Instr.makeSlice 22 (.int .i64 0) (.int .i64 ((n : Int) + 1))).run Tryz.prog w = .ok (.slice (some ⟨w.heap.size, 0, none⟩) 0 (n + 1)) (w.alloc (.cells (byt (List.replicate (n + 1) 0)).toArray 5)) := make_zero w 0 (n + 1) (by omega) (by omega)
  have hB := alloc_below w (.cells (byt (List.replicate (n + 1) 0)).toArray 5)
  have hA : BRow (w.alloc (.cells (byt (List.replicate (n + 1) 0)).toArray 5)) w.heap.size (List.replicate (n + 1) 0) := alloc_at w _
  have HN : Hid (zs.length = n) := hn
  have HS : Hid (Src w sp zs) := hs
  clear hn hs
  generalize w.alloc (.cells (byt (List.replicate (n + 1) 0)).toArray 5) = w1 at *
  go_enter Tryz.func19, Tryz.ntmps19
  go_wp2
  go_loopg [3, 4] n (fun g s3 s4 wx => ∃ i : Nat, i + g = n ∧ s4 = .int .i64 i ∧ s3 = .slice (some ⟨w.heap.size, 0, none⟩) i (n + 1) ∧ Below w.heap.size w wx ∧ Hid (BRow wx w.heap.size (zs.take i ++ List.replicate (n + 1 - i) 0)))
  case atStart => exact ⟨0, by omega, rfl, rfl, hB, hA⟩
  case round =>
    clear hB hA hmk
    obtain ⟨i, hig, rfl, rfl, hB, HR⟩ := hrel
    cases gk with
    | zero =>
      obtain rfl : i = n := by omega
      have hb2 := alloc_below wr (.cells #[.int .u8 77] 5)
      have hr2 := HR.out.on hb2
      have hls := hB.size
      have HL : Hid ((zs.take i ++ List.replicate (i + 1 - i) 0).length = i + 1) := by show _ = _; simp [HN.out]
      have hlt : ¬ ((i : Int) < i) := by omega
      go_wp2_with (at_builtin; refine wpList_room rfl (.tmp 22) (.tmp 23) rfl rfl rfl rfl hr2 HL.out (Src.one _ _ _) (Nat.le_refl _) ?_; intro w3 HR3 hb3)
      go_ret
      refine ⟨_, rfl, ⟨?_, rfl⟩, hB.trans ((hb2.mono hls).trans (hb3.out.below (by simp) (by have := hb2.size; omega)))⟩
      have := HR3.out
      rwa [end_set zs i HN.out] at this
    | succ g =>
      have hlt : (i : Int) < n := by omega
      obtain ⟨b1, o1, rfl, c1⟩ := HS.out (by rw [HN.out]; omega)
      have hci := (hB.cell (p := ⟨b1, o1 + i, none⟩) (cell_lt (c1 i (by rw [HN.out]; omega)))).trans (c1 i (by rw [HN.out]; omega))
      clear c1
      have HT : Hid ((zs.take i ++ List.replicate (n + 1 - i) 0).set i (zs.getD i 0) = zs.take (i + 1) ++ List.replicate (n + 1 - (i + 1)) 0) := take_set zs n i (by rw [HN.out]; omega) HN.out
      generalize zs.getD i 0 = zi at *
      have hb2 := alloc_below wr (.cells #[.int .u8 zi] 5)
      have hr2 := HR.out.on hb2
      have hls := hB.size
      have HL : Hid ((zs.take i ++ List.replicate (n + 1 - i) 0).length = n + 1) := by show _ = _; simp [HN.out]; omega
      go_wp2_with (at_builtin; refine wpList_room rfl (.tmp 15) (.tmp 20) rfl rfl rfl rfl hr2 HL.out (Src.one _ _ _) (by omega) ?_; intro w3 HR3 hb3)
      go_roundg g
      case measure => omega
      case rel => exact ⟨i + 1, by omega, by go_num, rfl, hB.trans ((hb2.mono hls).trans (hb3.out.below (by simp) (by have := hb2.size; omega))), by show BRow _ _ _; rw [← HT.out]; exact HR3.out⟩
end Go.Proofs.YtcjghnnliepjjaaGreatDoor
