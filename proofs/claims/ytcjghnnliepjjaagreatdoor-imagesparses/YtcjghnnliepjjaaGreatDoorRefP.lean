/- The document's own answer: an image's bytes. -/
import Derived.Test.YtcjghnnliepjjaaGreatDoorRefC
namespace Go.Proofs.YtcjghnnliepjjaaGreatDoor
open Go Go.RowKit
set_option maxRecDepth 100000
set_option linter.unusedVariables false
theorem tk_src {w : World} {fr : Nat × Nat} : Src (w.alloc (.cells #[.int .u8 116, .int .u8 107, .int .u8 49] 5 fr)) (some ⟨w.heap.size, 0, none⟩) [116, 107, 49] := row_src (n := fr.1) (c := fr.2) (alloc_at w _)
theorem rtwo_any (n : Int) (h0 : 0 ≤ n) (h1 : n ≤ 65535) (w : World) : Calls Tryz.prog 33 #[.int .i64 n] w fun e w' => ∃ g, e = .returned (.slice (some ⟨g, 0, none⟩) 2 2) ∧ Src w' (some ⟨g, 0, none⟩) (two n) ∧ Below w.heap.size w w' := by
  go_enter Tryz.func33, Tryz.ntmps33
  go_wp2
  go_ret
  refine ⟨_, rfl, ?_, alloc_below _ _⟩
  exact Src.pair w (n / 256) (n % 256) 5
/-- bytes put behind some that fill their row -/
theorem wpList_grow {w : World} {ops : Array Oper} {rest : List Oper} {o : Oper} {a : Act} {Q : Exit → Act → World → Prop} (hgd : o.guard = none) (s x : Operand)
    (ho : o.op = .call { callee := .builtin .append, args := #[s, x], argTypes := #[22, 22] }) {b g off c : Nat} {xs zs : List Int} (hse : a.eval s = .slice (some ⟨b, 0, none⟩) xs.length xs.length) (hx : a.eval x = .slice (some ⟨g, off, none⟩) zs.length c)
    (hs1 : Src w (some ⟨b, 0, none⟩) xs) (hs2 : Src w (some ⟨g, off, none⟩) zs) (hz : 0 < zs.length) (hlen : xs.length + zs.length ≤ 1000000)
    (h : ∀ v' w', Hid (w'.ownsRow w.heap.size 5 1 v' (xs.length + zs.length) (byt (xs ++ zs))) → Hid (Below w.heap.size w w') → wpList Tryz.prog ops Q rest (a.put o.dst v') w') : wpList Tryz.prog ops Q (o :: rest) a w := by
  obtain ⟨i, hi, hzz, hs, hby⟩ := info_parts infoB
  refine wpList_append_grows (w := w) hgd s x 22 ho 5 i (.int .u8 0) 1 1 Tryz.underlying22 hi hzz hs hby rfl (by decide) (some ⟨b, 0, none⟩) xs.length xs.length (byt xs) hse (fun h => by cases h) (by rw [byt_len, Nat.mul_one]) (fun b' e j u hj => by cases e; exact src_news hs1 j u hj) ⟨g, off, none⟩ zs.length c (byt zs) hx (by rw [byt_len, Nat.mul_one]) (src_news hs2) (byt_one zs) (by omega) (by simp only [maxLen]; omega) (by omega) ?_
  intro v' w' h2 h3
  exact h v' w' (by show w'.ownsRow _ _ _ _ _ _; rw [byt_app]; exact h2) ⟨h3.os, h3.tape, h3.output, h3.size, fun k hk => h3.block k hk (by simp)⟩
set_option maxHeartbeats 4000000 in
theorem rPut_yes {w : World} {size : Int} {sp : Option Addr} {ds : List Int} {cp : Option Addr} {cs : List Int} {k : Nat} (hI : Img w sp ds cp cs k) (dc kc : Nat) (hdc : sp = none → dc = 0) (hyes : okI size ds cs k = true) :
    Calls Tryz.prog 11 #[.agg #[.int .i64 size, .slice sp ds.length dc, .slice cp k kc]] w fun e w' => ∃ v, e = .returned (.tuple #[v, .int .i64 0]) ∧ w'.ownsRow w.heap.size 5 1 v (9 + (ds.length + cs.length)) (byt (putB size ds cs k)) ∧ Below w.heap.size w w' := by
  have cC : ∀ W, Below w.heap.size w W → _ := fun W hW => rCheck_img (size := size) (hI.on hW) dc kc
  rw [hyes] at cC
  obtain ⟨⟨b0, b1, b2, b3⟩, _⟩ := (okI_iff _ _ _ _).1 hyes
  have HI : Hid (Img w sp ds cp cs k) := hI
  clear hI hyes
  go_enter Tryz.func11, Tryz.ntmps11
  go_wp2_with (first
    | (go_at_call 13; refine (cC _ (alloc_below _ _)).mono ?_; rintro e w1 ⟨rfl, hb1⟩; obtain ⟨c0, c1, c2⟩ := cells_box hb1; have z1 := cell_lt c0; have hcb := Lib.run_convert_bytes_const (P := Tryz.prog) w1 22 5 #[.int .u8 116, .int .u8 107, .int .u8 49] 3 3 Tryz.underlying22 Tryz.underlying5; have M0 := True.intro)
    | (clear M0; go_at_call 33; refine (rtwo_any size (by omega) (by omega) _).mono ?_; rintro e w3 ⟨g3, rfl, S3, hb3⟩; have T3 : Src w3 (some ⟨w1.heap.size, 0, none⟩) [116, 107, 49] := (tk_src.below hb3); have B3 : Hid (Below w1.heap.size w1 w3) := (two_allocs hb3); have X3 : Box w3 w.heap.size (.int .i64 size) (.slice sp ds.length dc) (.slice cp k kc) := (Box.on ⟨c0, c1, c2⟩ B3.out); have X3b := X3.c1; have M1 := True.intro)
    | (at_builtin; clear M1; refine wpList_grow rfl (.tmp 11) (.tmp 14) rfl (xs := [116, 107, 49]) (zs := two size) rfl rfl T3 S3 (by show 0 < 2; omega) (by show 5 ≤ _; omega) ?_; intro v4 w4 O4 L4; have X4 := X3.on L4.out; have X4a := X4.c0; have X4b := X4.c1; have X4c := X4.c2; have z4 := cell_lt X4.c0; have C4 : Hid (Below w3.heap.size w3 w4) := L4; have M2 := True.intro)
    | (clear M2; go_at_call 33; refine (rtwo_any (ds.length : Int) (by omega) (by omega) _).mono ?_; rintro e w5 ⟨g5, rfl, S5, hb5⟩; have X5 := X4.on hb5; have X5a := X5.c0; have X5b := X5.c1; have X5c := X5.c2; have z5 := cell_lt X5.c0; have C5 : Hid (Below w3.heap.size w3 w5) := (C4.out.trans (hb5.mono C4.out.size)); have O5 : Hid (w5.ownsRow w3.heap.size 5 1 v4 5 (byt ([116, 107, 49] ++ two size))) := (owns_below O4.out hb5); have M3 := True.intro)
    | (at_builtin; clear M3; refine wpList_more rfl (.tmp 16) (.tmp 20) rfl (zs := two ds.length) rfl rfl O5.out S5 (fun h => by cases h) (by show 5 + 2 ≤ _; omega) C5.out.size ?_; intro v6 w6 O6 G6; have l6 := own_grown O5.out G6.out C5.out.size; have C6 : Hid (Below w3.heap.size w3 w6) := (C5.out.trans l6); have X6 := X3.on C6.out; have X6a := X6.c0; have X6b := X6.c1; have X6c := X6.c2; have z6 := cell_lt X6.c0; have M4 := True.intro)
    | (clear M4; go_at_call 33; refine (rtwo_any (k : Int) (by omega) (by omega) _).mono ?_; rintro e w7 ⟨g7, rfl, S7, hb7⟩; have X7 := X6.on hb7; have X7a := X7.c0; have X7b := X7.c1; have X7c := X7.c2; have z7 := cell_lt X7.c0; have C7 : Hid (Below w3.heap.size w3 w7) := (C6.out.trans (hb7.mono C6.out.size)); have O7 : Hid (w7.ownsRow w3.heap.size 5 1 v6 7 (byt ([116, 107, 49] ++ two size ++ two ds.length))) := (owns_below O6.out hb7); have M5 := True.intro)
    | (at_builtin; clear M5; refine wpList_more rfl (.tmp 22) (.tmp 26) rfl (zs := two k) rfl rfl O7.out S7 (fun h => by cases h) (by show 7 + 2 ≤ _; omega) C7.out.size ?_; intro v8 w8 O8 G8; have l8 := own_grown O7.out G8.out C7.out.size; have C8 : Hid (Below w3.heap.size w3 w8) := (C7.out.trans l8); have X8 := X3.on C8.out; have X8a := X8.c0; have X8b := X8.c1; have X8c := X8.c2; have z8 := cell_lt X8.c0; have S8 : Src w8 sp ds := (HI.out.d.below (on1 (on1 (two_allocs hb1) B3.out) C8.out)); have M6 := True.intro)
    | (at_builtin; clear M6; refine wpList_more rfl (.tmp 28) (.tmp 30) rfl (zs := ds) rfl rfl O8.out S8 hdc (by show 9 + ds.length ≤ _; omega) C8.out.size ?_; intro v9 w9 O9 G9; have l9 := own_grown O8.out G9.out C8.out.size; have C9 : Hid (Below w3.heap.size w3 w9) := (C8.out.trans l9); have X9 := X3.on C9.out; have X9a := X9.c0; have X9b := X9.c1; have X9c := X9.c2; have z9 := cell_lt X9.c0))
  have B3w : Hid (Below w.heap.size w w3) := on1 (two_allocs hb1) B3.out
  have z3 : w.heap.size < w3.heap.size := cell_lt X3.c0
  have HO9 : Hid (w9.ownsRow w3.heap.size 5 1 v9 (9 + ds.length) (byt (headB size ds.length k ++ ds))) := by
    have := O9.out
    show w9.ownsRow _ _ _ _ _ _
    simpa [headB, two_len, List.append_assoc] using this
  have hl := HI.out.len
  clear c0 c1 c2 hb1 hb3 hb5 hb7 l6 l8 l9 G6 G8 G9 O4 O5 O6 O7 O8 O9 S3 S5 S7 S8 T3 L4 C4 C5 C6 C7 C8 X4 X4a X4b X4c z4 X5 X5a X5b X5c z5 X6 X6a X6b X6c z6 X7 X7a X7b X7c z7 X8 X8a X8b X8c z8 hcb cC
  go_loopg [4, 5] k (fun g s4 s5 wx => ∃ i : Nat, i + g = k ∧ s5 = .int .i64 i ∧ Below w3.heap.size w3 wx ∧ Hid (wx.ownsRow w3.heap.size 5 1 s4 (9 + ds.length + 4 * i) (byt (headB size ds.length k ++ ds ++ cs.take (4 * i)))))
  case atStart => exact ⟨0, by omega, rfl, C9.out, by show w9.ownsRow _ _ _ _ _ _; simpa using HO9.out⟩
  case round =>
    clear HO9 C9 X9 X9a X9b X9c z9 X3b
    obtain ⟨i, hig, rfl, hB, HO⟩ := hrel
    have X6 := X3.on hB
    have X6a := X6.c0; have X6b := X6.c1; have X6c := X6.c2; have X6l := cell_lt X6.c0
    cases gk with
    | zero =>
      have hlt : ¬ ((i : Int) < k) := by omega
      have HK : Hid (i = k) := by show i = k; omega
      clear hig
      go_wp2
      go_ret2
      refine ⟨_, rfl, ?_, B3w.out.trans (hB.mono (Nat.le_of_lt z3))⟩
      have := owns_base HO.out (Nat.le_of_lt z3)
      rw [HK.out, ← HI.out.len, List.take_length] at this
      rw [show 9 + ds.length + cs.length = 9 + (ds.length + cs.length) by omega] at this
      simpa [putB, List.append_assoc, hl] using this
    | succ g =>
      have hlt : (i : Int) < k := by omega
      have hBw : Below w.heap.size w wr := B3w.out.trans (hB.mono (Nat.le_of_lt z3))
      obtain ⟨b, off, rfl, hbw⟩ := HI.out.c.spot (by omega)
      obtain ⟨q0, q1, q2, q3⟩ := (HI.out.c.below hBw).quad hl (show i < k by omega)
      have HT : Hid (cs.take (4 * i) ++ [cs.getD (4 * i) 0, cs.getD (4 * i + 1) 0, cs.getD (4 * i + 2) 0, cs.getD (4 * i + 3) 0] = cs.take (4 * (i + 1))) := take_four cs i (by omega)
      generalize cs.getD (4 * i) 0 = e0 at *
      generalize cs.getD (4 * i + 1) 0 = e1 at *
      generalize cs.getD (4 * i + 2) 0 = e2 at *
      generalize cs.getD (4 * i + 3) 0 = e3 at *
      have HL : Hid (cs.length = 4 * k) := hl
      clear hl
      go_wp2_with (first
        | (go_at_call 34; refine (refPut_any _ _ _ _ _).mono ?_; rintro e w8 ⟨rfl, hb8⟩)
        | (at_builtin; refine wpList_more rfl (.tmp 45) (.tmp 46) rfl (zs := [e0, e1, e2, e3]) rfl rfl (owns_below (owns_below HO.out hb8) (alloc_below _ _)) (Src.four _ _ _ _ _ _) (fun h => by cases h) (by show 9 + ds.length + 4 * i + 4 ≤ _; omega) (by have := hB.size; have := hb8.size; rw [alloc_size]; omega) ?_; intro v9 w9 O9 G9))
      go_roundg g
      case measure => omega
      case rel => exact ⟨i + 1, by omega, by go_num, (hB.trans (hb8.mono hB.size)).trans (((alloc_below _ _).mono (by have := hB.size; have := hb8.size; omega)).trans (own_grown (owns_below (owns_below HO.out hb8) (alloc_below _ _)) G9.out (by have := hB.size; have := hb8.size; rw [alloc_size]; omega))), by
        have := O9.out
        rw [List.append_assoc, HT.out, show 9 + ds.length + 4 * i + [e0, e1, e2, e3].length = 9 + ds.length + 4 * (i + 1) by simp; omega] at this
        exact this⟩
set_option maxHeartbeats 4000000 in
theorem rPut_no {w : World} {size : Int} {sp : Option Addr} {ds : List Int} {cp : Option Addr} {cs : List Int} {k : Nat} (hI : Img w sp ds cp cs k) (dc kc : Nat) (hno : okI size ds cs k = false) :
    Calls Tryz.prog 11 #[.agg #[.int .i64 size, .slice sp ds.length dc, .slice cp k kc]] w fun e w' => e = .returned (.tuple #[.slice none 0 0, .int .i64 1]) ∧ Below w.heap.size w w' := by
  have cC := rCheck_img (size := size) (hI.one (.cells #[.int .i64 size, .slice sp ds.length dc, .slice cp k kc] 25)) dc kc
  rw [hno] at cC
  clear hI
  go_enter Tryz.func11, Tryz.ntmps11
  go_wp2_with (go_at_call 13; refine cC.mono ?_; rintro e w1 ⟨rfl, hb1⟩)
  go_ret2
  exact ⟨rfl, two_allocs hb1⟩
end Go.Proofs.YtcjghnnliepjjaaGreatDoor
