/- An image's bytes, by the program's own function: Put. -/
import Derived.Test.YtcjghnnliepjjaaGreatDoorPutW
namespace Go.Proofs.YtcjghnnliepjjaaGreatDoor
open Go Go.RowKit
set_option maxRecDepth 100000
set_option linter.unusedVariables false
theorem make_own {w : World} {B N : Nat} (hN : N ≤ 1000000) (hB : B ≤ w.heap.size) : ∃ w', (Instr.makeSlice 22 (.int .i64 0) (.int .i64 (N : Int))).run Tryz.prog w = .ok (.slice (some ⟨w.heap.size, 0, none⟩) 0 N) w' ∧
    w'.ownsRow B 5 1 (.slice (some ⟨w.heap.size, 0, none⟩) 0 N) 0 (byt []) ∧ Below w.heap.size w w' := by
  obtain ⟨i, hi, hz, hs, hby⟩ := info_parts infoB
  obtain ⟨w', h1, h2, h3⟩ := run_make_own (P := Tryz.prog) w B 22 5 i (.int .u8 0) 1 Tryz.underlying22 hi hz hs .i64 .i64 N (by rw [hby]; omega) (by simp only [maxLen]; omega) hB
  exact ⟨w', h1, h2, ⟨h3.os, h3.tape, h3.output, h3.size, fun k hk => h3.block k hk (by simp)⟩⟩
theorem wpList_mark {w : World} {ops : Array Oper} {rest : List Oper} {o : Oper} {a : Act} {Q : Exit → Act → World → Prop} (hgd : o.guard = none) (s x : Operand)
    (ho : o.op = .call { callee := .builtin .append, args := #[s, x], argTypes := #[22, 9] }) {B : Nat} {v : Value} (hse : a.eval s = v) (hx : a.eval x = .string ⟨#[116, 107, 49]⟩)
    (hown : w.ownsRow B 5 1 v 0 (byt [])) (hB : B ≤ w.heap.size)
    (h : ∀ v' w', Hid (w'.ownsRow B 5 1 v' 3 (byt [116, 107, 49])) → Hid (w.grownBy w' v.ownBlock) → wpList Tryz.prog ops Q rest (a.put o.dst v') w') : wpList Tryz.prog ops Q (o :: rest) a w := by
  obtain ⟨i, hi, hz, hs, hby⟩ := info_parts infoB
  refine Lib.wpList_append_own_string (w := w) hgd s x 22 9 ho B 5 i Tryz.underlying22 Tryz.underlying9 hi hz hs hby v 0 (byt []) hse hown ⟨#[116, 107, 49]⟩ hx (by decide) (by decide) hB ?_
  intro v' w' h2 h3 h4
  exact h v' w' h2 h3
theorem cells_box {w w1 : World} {a b c : Value} {t : TypeId} (h : Below (w.alloc (.cells #[a, b, c] t)).heap.size (w.alloc (.cells #[a, b, c] t)) w1) :
    w1.cell? ⟨w.heap.size, 0, none⟩ = some a ∧ w1.cell? ⟨w.heap.size, 1, none⟩ = some b ∧ w1.cell? ⟨w.heap.size, 2, none⟩ = some c := by
  have hl : w.heap.size < (w.alloc (.cells #[a, b, c] t)).heap.size := by rw [alloc_size]; omega
  refine ⟨?_, ?_, ?_⟩ <;> (rw [(bcell h).1 _ _ hl, cell_of (alloc_at w _)]; rfl)
theorem on1 {w a b : World} (h : Below w.heap.size w a) (k : Below a.heap.size a b) : Below w.heap.size w b := h.trans (k.mono h.size)
theorem two_base {w w1 : World} {x : Obj} (h : Below (w.alloc x).heap.size (w.alloc x) w1) : Below (w.alloc x).heap.size (w.alloc x) w1 := h
theorem two_lt {w w1 : World} {x : Obj} (h : Below (w.alloc x).heap.size (w.alloc x) w1) : (w.alloc x).heap.size ≤ w1.heap.size := h.size
theorem take_four (cs : List Int) (i : Nat) (h : 4 * i + 4 ≤ cs.length) : cs.take (4 * i) ++ [cs.getD (4 * i) 0, cs.getD (4 * i + 1) 0, cs.getD (4 * i + 2) 0, cs.getD (4 * i + 3) 0] = cs.take (4 * (i + 1)) := by
  have g : ∀ j (hj : j < cs.length), cs.getD j 0 = cs[j] := fun j hj => by simp [hj]
  rw [g (4 * i) (by omega), g (4 * i + 1) (by omega), g (4 * i + 2) (by omega), g (4 * i + 3) (by omega)]
  have a0 := List.take_succ_eq_append_getElem (l := cs) (i := 4 * i) (by omega)
  have a1 := List.take_succ_eq_append_getElem (l := cs) (i := 4 * i + 1) (by omega)
  have a2 := List.take_succ_eq_append_getElem (l := cs) (i := 4 * i + 2) (by omega)
  have a3 := List.take_succ_eq_append_getElem (l := cs) (i := 4 * i + 3) (by omega)
  rw [show 4 * (i + 1) = 4 * i + 3 + 1 by omega, a3, a2, a1, a0]
  simp only [List.append_assoc, List.cons_append, List.nil_append]
set_option maxHeartbeats 4000000 in
theorem Put_no {w : World} {size : Int} {sp : Option Addr} {ds : List Int} {cp : Option Addr} {cs : List Int} {k : Nat} (hE : Env w) (hI : Img w sp ds cp cs k) (dc kc : Nat) (hno : okI size ds cs k = false) :
    Calls Tryz.prog 10 #[.agg #[.int .i64 size, .slice sp ds.length dc, .slice cp k kc]] w fun e w' => e = .returned (.tuple #[.slice none 0 0, .int .i64 1]) ∧ Below w.heap.size w w' := by
  have cC := Check_img (size := size) (hE.on (alloc_below w (.cells #[.int .i64 size, .slice sp ds.length dc, .slice cp k kc] 25))) (hI.one (.cells #[.int .i64 size, .slice sp ds.length dc, .slice cp k kc] 25)) dc kc
  rw [hno] at cC
  clear hE hI
  go_enter Tryz.func10, Tryz.ntmps10
  go_wp2_with (go_at_call 12; refine cC.mono ?_; rintro e w1 ⟨rfl, hb1⟩)
  go_ret2
  exact ⟨rfl, two_allocs hb1⟩
set_option maxHeartbeats 4000000 in
theorem Put_yes {w : World} {size : Int} {sp : Option Addr} {ds : List Int} {cp : Option Addr} {cs : List Int} {k : Nat} (hE : Env w) (hI : Img w sp ds cp cs k) (dc kc : Nat) (hdc : sp = none → dc = 0) (hyes : okI size ds cs k = true) :
    Calls Tryz.prog 10 #[.agg #[.int .i64 size, .slice sp ds.length dc, .slice cp k kc]] w fun e w' => ∃ v, e = .returned (.tuple #[v, .int .i64 0]) ∧ w'.ownsRow w.heap.size 5 1 v (9 + (ds.length + cs.length)) (byt (putB size ds cs k)) ∧ Below w.heap.size w w' := by
  have cC := Check_img (size := size) (hE.on (alloc_below w (.cells #[.int .i64 size, .slice sp ds.length dc, .slice cp k kc] 25))) (hI.one (.cells #[.int .i64 size, .slice sp ds.length dc, .slice cp k kc] 25)) dc kc
  rw [hyes] at cC
  obtain ⟨⟨b0, b1, b2, b3⟩, _⟩ := (okI_iff _ _ _ _).1 hyes
  have hl := hI.len
  obtain ⟨N, hN⟩ : ∃ N : Nat, (N : Int) = 9 + (ds.length : Int) + (k : Int) * 4 := ⟨9 + ds.length + k * 4, by omega⟩
  have cA := allBytes_any size ds.length k (by omega) (by omega)
  rw [← hN] at cA
  have hNl : N ≤ 10000 := by omega
  have HI : Hid (Img w sp ds cp cs k) := hI
  have HN : Hid ((N : Int) = 9 + (ds.length : Int) + (k : Int) * 4) := hN
  clear hE hI hN hyes
  go_enter Tryz.func10, Tryz.ntmps10
  go_wp2_with (first
    | (go_at_call 12; refine cC.mono ?_; rintro e w1 ⟨rfl, hb1⟩; obtain ⟨c0, c1, c2⟩ := cells_box hb1)
    | (go_at_call 29; refine (countsOf_any _ _ _ _ _ _ _ _).mono ?_; rintro e w2 ⟨rfl, hb2⟩)
    | (go_at_call 30; refine (cA _).mono ?_; rintro e w3 ⟨rfl, hb3⟩; obtain ⟨w4, hmk, O4, hb4⟩ := make_own (w := w3) (B := w3.heap.size) (N := N) (by omega) (Nat.le_refl _))
    | (at_builtin; refine wpList_mark rfl (.tmp 17) (.const (.string ⟨#[116, 107, 49]⟩)) rfl rfl rfl O4 hb4.size ?_; intro v5 w5 O5 G5; have L5 : Below w3.heap.size w3 w5 := (hb4.trans (own_grown O4 G5.out hb4.size)); obtain ⟨y0, y1, y2⟩ := cells_box ((two_base hb3).trans (L5.mono (two_lt hb3)))))
  have B3 : Hid (Below w.heap.size w w3) := on1 (on1 (two_allocs hb1) hb2) (two_allocs hb3)
  have z3 : w.heap.size < w3.heap.size := by have := hb1.size; have := hb2.size; have := two_lt hb3; simp at *; omega
  have X5 : Hid (w3.cell? ⟨w.heap.size, 1, none⟩ = some (.slice sp ds.length dc) ∧ w3.cell? ⟨w.heap.size, 2, none⟩ = some (.slice cp k kc)) := by
    have q1 := (bcell hb3).1 w.heap.size
    have q2 := (bcell (alloc_below w2 (.cells #[.int .i64 size, .int .i64 ds.length, .int .i64 k] 59))).1 w.heap.size
    have q3 := (bcell hb2).1 w.heap.size
    have s1 := hb1.size
    have s2 := hb2.size
    rw [alloc_size] at s1
    refine ⟨?_, ?_⟩
    · rw [q1 _ (by rw [alloc_size]; omega), q2 _ (by omega), q3 _ (by omega)]; exact c1
    · rw [q1 _ (by rw [alloc_size]; omega), q2 _ (by omega), q3 _ (by omega)]; exact c2
  clear c0 c1 c2 hb1 hb2 hb3 hb4 hmk O4 G5
  go_wp2_with (first
    | (go_at_call 31; refine (appendTo_any size ds.length k (by omega) (by omega) (by omega) O5.out (by omega) L5.size).mono ?_; rintro e w6 ⟨v6, rfl, O6, l6⟩; have L6 : Below w3.heap.size w3 w6 := L5.trans l6; have x1 := ((bcell L6).1 _ _ z3).trans X5.out.1; have S6 : Src w6 sp ds := (HI.out.d.below (B3.out.trans (L6.mono (Nat.le_of_lt z3)))))
    | (at_builtin; refine wpList_more rfl (.tmp 22) (.tmp 24) rfl (zs := ds) rfl rfl O6 S6 hdc (by omega) L6.size ?_; intro v7 w7 O7 G7; have L7 : Below w3.heap.size w3 w7 := (L6.trans (own_grown O6 G7.out L6.size)); have x2 := ((bcell L7).1 _ _ z3).trans X5.out.2))
  have HO7 : Hid (w7.ownsRow w3.heap.size 5 1 v7 (9 + ds.length) (byt (headB size ds.length k ++ ds))) := by
    have := O7.out
    show w7.ownsRow _ _ _ _ _ _
    rw [show 3 + 2 + 2 + 2 + ds.length = 9 + ds.length by omega] at this
    simpa [headB, List.append_assoc] using this
  clear O5 L5 y0 y1 y2 O6 L6 x1 S6 O7 G7 l6
  go_loopg [5, 29] k (fun g s5 s29 wx => ∃ i : Nat, i + g = k ∧ s29 = .int .i64 i ∧ Below w3.heap.size w3 wx ∧ Hid (wx.ownsRow w3.heap.size 5 1 s5 (9 + ds.length + 4 * i) (byt (headB size ds.length k ++ ds ++ cs.take (4 * i)))))
  case atStart => exact ⟨0, by omega, rfl, L7, by show w7.ownsRow _ _ _ _ _ _; simpa using HO7.out⟩
  case round =>
    clear HO7 L7 x2
    obtain ⟨i, hig, rfl, hB, HO⟩ := hrel
    cases gk with
    | zero =>
      have hlt : ¬ ((i : Int) < k) := by omega
      have HK : Hid (i = k) := by show i = k; omega
      clear hig
      go_wp2
      go_ret2
      refine ⟨_, rfl, ?_, B3.out.trans (hB.mono (Nat.le_of_lt z3))⟩
      have := owns_base HO.out (Nat.le_of_lt z3)
      rw [HK.out, ← HI.out.len, List.take_length] at this
      rw [show 9 + ds.length + cs.length = 9 + (ds.length + cs.length) by omega] at this
      simpa [putB, List.append_assoc, hl] using this
    | succ g =>
      have hlt : (i : Int) < k := by omega
      have hBw : Below w.heap.size w wr := B3.out.trans (hB.mono (Nat.le_of_lt z3))
      obtain ⟨b, off, rfl, hbw⟩ := HI.out.c.spot (by omega)
      obtain ⟨q0, q1, q2, q3⟩ := (HI.out.c.below hBw).quad hl (show i < k by omega)
      have HT : Hid (cs.take (4 * i) ++ [cs.getD (4 * i) 0, cs.getD (4 * i + 1) 0, cs.getD (4 * i + 2) 0, cs.getD (4 * i + 3) 0] = cs.take (4 * (i + 1))) := take_four cs i (by omega)
      generalize cs.getD (4 * i) 0 = e0 at *
      generalize cs.getD (4 * i + 1) 0 = e1 at *
      generalize cs.getD (4 * i + 2) 0 = e2 at *
      generalize cs.getD (4 * i + 3) 0 = e3 at *
      go_wp2_with (first
        | (go_at_call 32; refine (iPut_any _ _ _ _ _).mono ?_; rintro e w8 ⟨rfl, hb8⟩)
        | (at_builtin; refine wpList_more rfl (.tmp 35) (.tmp 36) rfl (zs := [e0, e1, e2, e3]) rfl rfl (owns_below (owns_below HO.out (two_allocs hb8)) (alloc_below _ _)) (Src.four _ _ _ _ _ _) (fun h => by cases h) (by show 9 + ds.length + 4 * i + 4 ≤ _; omega) (by have := hB.size; have := (two_allocs hb8).size; rw [alloc_size]; omega) ?_; intro v9 w9 O9 G9))
      go_roundg g
      case measure => omega
      case rel => exact ⟨i + 1, by omega, by go_num, (hB.trans ((two_allocs hb8).mono hB.size)).trans (((alloc_below _ _).mono (by have := hB.size; have := (two_allocs hb8).size; omega)).trans (own_grown (owns_below (owns_below HO.out (two_allocs hb8)) (alloc_below _ _)) G9.out (by have := hB.size; have := (two_allocs hb8).size; rw [alloc_size]; omega))), by
        have := O9.out
        rw [List.append_assoc, HT.out, show 9 + ds.length + 4 * i + [e0, e1, e2, e3].length = 9 + ds.length + 4 * (i + 1) by simp; omega] at this
        exact this⟩
end Go.Proofs.YtcjghnnliepjjaaGreatDoor
