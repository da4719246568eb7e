/- The statements' own twin of instructions: a row of its own, with a mark behind it. -/
import Derived.Test.YtcjghnnliepjjaaGreatDoorRefP
namespace Go.Proofs.YtcjghnnliepjjaaGreatDoor
open Go Go.RowKit
set_option maxRecDepth 100000
set_option linter.unusedVariables false
/-- a row of instructions -/
def IRow (w : World) (g : Nat) (zs : List Int) : Prop := w.heap[g]? = some (.cells (byt zs).toArray 64 (0, 0))
theorem IRow.src {w : World} {g : Nat} {zs : List Int} (h : IRow w g zs) : Src w (some ⟨g, 0, none⟩) zs := row_src (n := 0) (c := 0) h
theorem IRow.on {w w' : World} {g : Nat} {zs : List Int} (h : IRow w g zs) (hb : Below w.heap.size w w') : IRow w' g zs := (hb.block _ (at_lt h)).trans h
theorem made_ins (n : Nat) : madeCells (Value.agg #[.int .u8 0, .int .u8 0, .int .u8 0, .int .u8 0]).cells (n * 4) = (byt (List.replicate (4 * n) 0)).toArray := by
  apply Array.ext_getElem?
  intro i
  have h4 : i % 4 = 0 ∨ i % 4 = 1 ∨ i % 4 = 2 ∨ i % 4 = 3 := by omega
  by_cases hi : i < n * 4
  · rcases h4 with h | h | h | h <;> simp [madeCells, Value.cells, byt, hi, h, show i < 4 * n by omega]
  · simp [madeCells, Value.cells, byt, hi, show ¬ i < 4 * n by omega]
theorem make_insL (w : World) (l c : Nat) (hl : l ≤ c) (hc : c ≤ 1000000) :
    (Instr.makeSlice 23 (.int .i64 l) (.int .i64 c)).run Tryz.prog w = .ok (.slice (some ⟨w.heap.size, 0, none⟩) l c) (w.alloc (.cells (byt (List.replicate (4 * c) 0)).toArray 64)) := by
  obtain ⟨i, hi, h1, h2, h3⟩ := info_parts infoI
  have := run_make w 23 64 i _ Tryz.underlying23 hi h1 .i64 .i64 l c (by omega) (by omega) (by rw [h3]; omega) (by omega)
  rw [this, h2]
  simp only [Int.toNat_natCast]
  rw [made_ins]
/-- an instruction put behind others where there is room, at the call -/
theorem wpList_roomI {w : World} {ops : Array Oper} {rest : List Oper} {o : Oper} {a : Act} {Q : Exit → Act → World → Prop} (hgd : o.guard = none) (s x : Operand)
    (ho : o.op = .call { callee := .builtin .append, args := #[s, x], argTypes := #[23, 23] }) (hty : o.type = 23) {g l cap b : Nat} {cur zs : List Int} (hse : a.eval s = .slice (some ⟨g, 0, none⟩) l cap) (hx : a.eval x = .slice (some ⟨b, 0, none⟩) 1 1)
    (hg : IRow w g cur) (hc : cur.length = 4 * cap) (hb : Src w (some ⟨b, 0, none⟩) zs) (hz : zs.length = 4) (hl : l + 1 ≤ cap)
    (h : ∀ w', Hid (IRow w' g (cur.take (4 * l) ++ zs ++ cur.drop (4 * l + 4))) → Hid (Buts [g] w w') → wpList Tryz.prog ops Q rest (a.put o.dst (.slice (some ⟨g, 0, none⟩) (l + 1) cap)) w') : wpList Tryz.prog ops Q (o :: rest) a w := by
  refine wpList_plain hgd fun K hK => ?_
  obtain ⟨i, hi, h1, h2, h3⟩ := info_parts infoI
  have hr := run_append_room (P := Tryz.prog) w 23 23 64 i Tryz.underlying23 hi g l cap (byt cur).toArray hg ⟨b, 0, none⟩ 1 1 (byt zs) (by rw [h2, byt_len, hz]) (src_news hb) (byt_one zs) hl (by simp [h2, byt_len]; omega)
  unfold Oper.wp execOp
  simp only [ho, resolve, invoke, builtin, Sem.run_bind, Sem.run_pure, Result.andThen_ok, List.map_toArray, List.map_cons, List.map_nil, hse, hx]
  rw [hty, hr]
  refine hK _ _ (h _ ?_ ⟨rfl, rfl, rfl, by simp [World.setRow], fun k hk hk2 => setRow_other w g k _ (by simpa using hk2)⟩)
  show IRow _ _ _
  unfold IRow
  rw [setRow_heap w g _ _ 64 (0, 0) hg]
  congr 2
  have e : List.take (l * i.size) (byt cur).toArray.toList ++ byt zs ++ List.drop (l * i.size + (byt zs).length) (byt cur).toArray.toList = byt (cur.take (4 * l) ++ zs ++ cur.drop (4 * l + 4)) := by
    rw [h2, byt_len, hz, Nat.mul_comm l 4]
    show (byt cur).take (4 * l) ++ byt zs ++ (byt cur).drop (4 * l + 4) = _
    rw [byt_take, byt_drop, ← byt_app, ← byt_app]
  rw [e]
theorem four_set (cs qs : List Int) (k i : Nat) (hi : i < k) (hn : cs.length = 4 * k) (hq : cs.take (4 * i) ++ qs = cs.take (4 * (i + 1))) : (cs.take (4 * i) ++ List.replicate (4 * (k + 1 - i)) 0).take (4 * i) ++ qs ++ (cs.take (4 * i) ++ List.replicate (4 * (k + 1 - i)) 0).drop (4 * i + 4) = cs.take (4 * (i + 1)) ++ List.replicate (4 * (k + 1 - (i + 1))) 0 := by
  have hl : (cs.take (4 * i)).length = 4 * i := by simp; omega
  rw [List.take_left' hl, hq, ← List.drop_drop, List.drop_left' hl, List.drop_replicate, show 4 * (k + 1 - i) - 4 = 4 * (k + 1 - (i + 1)) by omega]
theorem four_end (cs : List Int) (k : Nat) (hn : cs.length = 4 * k) : (cs.take (4 * k) ++ List.replicate (4 * (k + 1 - k)) 0).take (4 * k) ++ [254, 0, 0, 0] ++ (cs.take (4 * k) ++ List.replicate (4 * (k + 1 - k)) 0).drop (4 * k + 4) = cs ++ [254, 0, 0, 0] := by
  have hl : (cs.take (4 * k)).length = 4 * k := by simp; omega
  rw [List.take_left' hl, ← List.drop_drop, List.drop_left' hl, List.drop_replicate, show 4 * (k + 1 - k) - 4 = 0 by omega, ← hn, List.take_length]
  simp
set_option maxHeartbeats 4000000 in
theorem twinI_any {w : World} {k : Nat} {sp : Option Addr} {cs : List Int} (hs : Src w sp cs) (hn : cs.length = 4 * k) (hl : k ≤ 100000) (c : Nat) :
    Calls Tryz.prog 28 #[.slice sp k c] w fun e w' => ∃ d, e = .returned (.slice (some ⟨w.heap.size, 0, none⟩) k d) ∧ (IRow w' w.heap.size (cs ++ [254, 0, 0, 0]) ∧ d = k + 1) ∧ Below w.heap.size w w' := by
  have hmk : (Instr.makeSlice 23 (.int .i64 0) (.int .i64 ((k : Int) + 1))).run Tryz.prog w = .ok (.slice (some ⟨w.heap.size, 0, none⟩) 0 (k + 1)) (w.alloc (.cells (byt (List.replicate (4 * (k + 1)) 0)).toArray 64)) := make_insL w 0 (k + 1) (by omega) (by omega)
  have hB := alloc_below w (.cells (byt (List.replicate (4 * (k + 1)) 0)).toArray 64)
  have hA : IRow (w.alloc (.cells (byt (List.replicate (4 * (k + 1)) 0)).toArray 64)) w.heap.size (List.replicate (4 * (k + 1)) 0) := alloc_at w _
  have HN : Hid (cs.length = 4 * k) := hn
  have HS : Hid (Src w sp cs) := hs
  clear hn hs
  generalize w.alloc (.cells (byt (List.replicate (4 * (k + 1)) 0)).toArray 64) = w1 at *
  go_enter Tryz.func28, Tryz.ntmps28
  go_wp2
  go_loopg [3, 4] k (fun g s3 s4 wx => ∃ i : Nat, i + g = k ∧ s4 = .int .i64 i ∧ s3 = .slice (some ⟨w.heap.size, 0, none⟩) i (k + 1) ∧ Below w.heap.size w wx ∧ Hid (IRow wx w.heap.size (cs.take (4 * i) ++ List.replicate (4 * (k + 1 - i)) 0)))
  case atStart => exact ⟨0, by omega, rfl, rfl, hB, hA⟩
  case round =>
    clear hB hA hmk
    obtain ⟨i, hig, rfl, rfl, hB, HR⟩ := hrel
    cases gk with
    | zero =>
      obtain rfl : i = k := by omega
      have hb2 := alloc_below wr (.cells #[.int .u8 254, .int .u8 0, .int .u8 0, .int .u8 0] 64)
      have hr2 := HR.out.on hb2
      have hls := hB.size
      have HL : Hid ((cs.take (4 * i) ++ List.replicate (4 * (i + 1 - i)) 0).length = 4 * (i + 1)) := by show _ = _; simp [HN.out]; omega
      have hlt : ¬ ((i : Int) < i) := by omega
      go_wp2_with (at_builtin; refine wpList_roomI rfl (.tmp 22) (.tmp 24) rfl rfl rfl rfl hr2 HL.out (Src.four _ _ _ _ _ _) rfl (Nat.le_refl _) ?_; intro w3 HR3 hb3)
      go_ret
      refine ⟨_, rfl, ⟨?_, rfl⟩, hB.trans ((hb2.mono hls).trans (hb3.out.below (by simp) (by have := hb2.size; omega)))⟩
      have := HR3.out
      rwa [four_end cs i HN.out] at this
    | succ g =>
      have hlt : (i : Int) < k := by omega
      have hl4 := HN.out
      obtain ⟨b, off, rfl, hbw⟩ := HS.out.spot (by omega)
      obtain ⟨q0, q1, q2, q3⟩ := (HS.out.below hB).quad hl4 (show i < k by omega)
      have HT := four_set cs _ k i (by omega) hl4 (take_four cs i (by omega))
      have HT' : Hid (_ = _) := HT
      clear HT hl4
      generalize cs.getD (4 * i) 0 = e0 at *
      generalize cs.getD (4 * i + 1) 0 = e1 at *
      generalize cs.getD (4 * i + 2) 0 = e2 at *
      generalize cs.getD (4 * i + 3) 0 = e3 at *
      have hb2 := alloc_below wr (.cells #[.int .u8 e0, .int .u8 e1, .int .u8 e2, .int .u8 e3] 64)
      have hr2 := HR.out.on hb2
      have hls := hB.size
      have HL : Hid ((cs.take (4 * i) ++ List.replicate (4 * (k + 1 - i)) 0).length = 4 * (k + 1)) := by show _ = _; simp [HN.out]; omega
      go_wp2_with (at_builtin; refine wpList_roomI rfl (.tmp 15) (.tmp 20) rfl rfl rfl rfl hr2 HL.out (Src.four _ _ _ _ _ _) rfl (by omega) ?_; intro w3 HR3 hb3)
      go_roundg g
      case measure => omega
      case rel => exact ⟨i + 1, by omega, by go_num, rfl, hB.trans ((hb2.mono hls).trans (hb3.out.below (by simp) (by have := hb2.size; omega))), by show IRow _ _ _; rw [← HT'.out]; exact HR3.out⟩
end Go.Proofs.YtcjghnnliepjjaaGreatDoor
