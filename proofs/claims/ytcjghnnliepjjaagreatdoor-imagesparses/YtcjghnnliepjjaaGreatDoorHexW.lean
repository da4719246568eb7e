/- Bytes as lines tell them, by the program's own function: appendHex. -/
import Derived.Test.YtcjghnnliepjjaaGreatDoorHex
import Derived.WalkSpells
namespace Go.Proofs.YtcjghnnliepjjaaGreatDoor
open Go Go.RowKit
set_option maxRecDepth 100000
set_option linter.unusedVariables false
theorem idx_str (t : ByteArray) (i : Nat) (h : i < t.size) (W : World) : (Instr.index 9 (.string t) (.int .i64 (i : Int))).run Tryz.prog W = .ok (.int .u8 ((t.data.toList.getD i 0).toNat : Int)) W := by
  have e : t.data.toList.getD i 0 = t[i] := by
    have h' : i < t.data.toList.length := by rw [Array.length_toList]; exact h
    rw [List.getD_eq_getElem?_getD, List.getElem?_eq_getElem h']
    rfl
  rw [run_index_string W 9 t .i64 i Tryz.underlying9, dif_pos ⟨by omega, by omega⟩, e]
  rfl
/-- what is answered -/
def HX (w w' : World) (e : Ending) (B n : Nat) (xs : List Int) : Option (List Int) → Prop
  | none => e = .returned (.tuple #[.slice none 0 0, .bool false])
  | some ys => ∃ sp c, e = .returned (.tuple #[.slice sp (n + ys.length) c, .bool true]) ∧ w'.ownsRow B 5 1 (.slice sp (n + ys.length) c) (n + ys.length) (byt (xs ++ ys))
theorem or_hex {x y : Int} (hx : 0 ≤ x ∧ x ≤ 15) (hy : 0 ≤ y ∧ y ≤ 15) : bits .or .i64 (x * 16) y = x * 16 + y := by
  obtain ⟨a, rfl⟩ : ∃ a : Nat, x = a := ⟨x.toNat, by omega⟩
  obtain ⟨b, rfl⟩ : ∃ b : Nat, y = b := ⟨y.toNat, by omega⟩
  have ha : a ≤ 15 := by omega
  have hb : b ≤ 15 := by omega
  clear hx hy
  have : ∀ a : Fin 16, ∀ b : Fin 16, bits .or .i64 (((a.val : Nat) : Int) * 16) ((b.val : Nat) : Int) = ((a.val : Nat) : Int) * 16 + ((b.val : Nat) : Int) := by decide +kernel
  exact this ⟨a, by omega⟩ ⟨b, by omega⟩
/-- bytes put behind a row of one's own, the slice written out -/
theorem wpList_byte {w : World} {ops : Array Oper} {rest : List Oper} {o : Oper} {a : Act} {Q : Exit → Act → World → Prop} (hgd : o.guard = none) (s x : Operand)
    (ho : o.op = .call { callee := .builtin .append, args := #[s, x], argTypes := #[22, 22] }) {B n t c : Nat} {v : Value} {xs : List Int} {z : Int} {b off : Nat} (hse : a.eval s = v) (hx : a.eval x = .slice (some ⟨b, off, none⟩) 1 c)
    (hown : w.ownsRow B 5 1 v n (byt xs)) (hsrc : Src w (some ⟨b, off, none⟩) [z]) (ht : n + 1 = t) (hlen : t ≤ 1000000000) (hB : B ≤ w.heap.size)
    (h : ∀ sp' c' w', Hid (w'.ownsRow B 5 1 (.slice sp' t c') t (byt (xs ++ [z]))) → Hid (w.grownBy w' v.ownBlock) → wpList Tryz.prog ops Q rest (a.put o.dst (.slice sp' t c')) w') : wpList Tryz.prog ops Q (o :: rest) a w := by
  subst ht
  obtain ⟨i, hi, hz, hs, hby⟩ := info_parts infoB
  refine wpList_append_own (w := w) hgd s x 22 ho B 5 i _ 1 1 Tryz.underlying22 hi hz hs hby rfl (by decide) v n (byt xs) hse hown ⟨b, off, none⟩ 1 c (byt [z]) hx rfl (src_news hsrc) (byt_one [z]) (by simp only [maxLen]; omega) (by omega) hB ?_
  intro v' w' h2 h3 h4
  obtain ⟨sp', c', rfl, _⟩ := owns_form h2
  exact h sp' c' w' (by show w'.ownsRow _ _ _ _ _ _; rw [byt_app]; exact h2) h3
set_option maxHeartbeats 8000000 in
theorem appendHex_yes {w : World} {B n : Nat} {sp0 : Option Addr} {c0 : Nat} {xs : List Int} (t : ByteArray) (hl : t.size ≤ 1000000) (h0 : t.data.toList ≠ []) (hev : t.data.toList.length % 2 = 0) (hown : w.ownsRow B 5 1 (.slice sp0 n c0) n (byt xs)) (hn : n ≤ 100000000) (hB : B ≤ w.heap.size) :
    Calls Tryz.prog 115 #[.slice sp0 n c0, .string t] w fun e w' => HX w w' e B n xs (hexs t.data.toList) ∧ Below B w w' ∧ Tb 5 w w' := by
  have hemp : t.toList.isEmpty = false := by
    rw [ByteArray.toList_eq]
    simpa using h0
  have hid := idx_str t
  have hsz := size_data t
  generalize hL : t.data.toList = l at *
  obtain ⟨m, hm⟩ : ∃ m, l.length = 2 * m := ⟨l.length / 2, by omega⟩
  rw [hm] at hsz
  have hmod : ((t.size : Nat) : Int).tmod 2 = 0 := by
    rw [Int.tmod_eq_emod_of_nonneg (by omega)]; omega
  have HO : Hid (w.ownsRow B 5 1 (.slice sp0 n c0) n (byt xs)) := hown
  have HM : Hid (l.length = 2 * m) := hm
  have hszI : ((t.size : Nat) : Int) = 2 * m := by omega
  clear hown hm h0 hev hL
  go_enter Tryz.func115, Tryz.ntmps115
  go_wp2
  go_loopg [0, 6] m (fun g s0 s6 wx => ∃ (j : Nat) (sp : Option Addr) (c : Nat) (ys : List Int), j + g = m ∧ s6 = .int .i64 (2 * (j : Int)) ∧ s0 = .slice sp (n + j) c ∧ Hid (ys.length = j ∧ wx.ownsRow B 5 1 (.slice sp (n + j) c) (n + j) (byt (xs ++ ys)) ∧ Below B w wx ∧ Tb 5 w wx ∧ hexs l = (hexs (l.drop (2 * j))).map (ys ++ ·)))
  case atStart => exact ⟨0, sp0, c0, [], by omega, rfl, rfl, rfl, by simpa using HO.out, Below.refl _ _, Tb.refl _ _, by simp⟩
  case round =>
    obtain ⟨j, sp, c, ys, hjg, rfl, rfl, HI⟩ := hrel
    cases gk with
    | zero =>
      have hlt : ¬ (2 * (j : Int) < 2 * (m : Int)) := by omega
      go_wp2
      go_ret2
      obtain ⟨q1, q2, q3, q4, q5⟩ := HI.out
      refine ⟨?_, q3, q4⟩
      rw [q5, List.drop_eq_nil_of_le (by rw [HM.out]; omega)]
      show HX _ _ _ _ _ _ (some (ys ++ []))
      rw [List.append_nil]
      subst q1
      exact ⟨sp, c, rfl, q2⟩
    | succ g =>
      have hlt : 2 * (j : Int) < 2 * (m : Int) := by omega
      have i0 := hid (2 * j) (by omega)
      have i1 := hid (2 * j + 1) (by omega)
      have HA := hexAt l j (by rw [HM.out]; omega)
      have c0 := ix_any (l.getD (2 * j) 0)
      have c1 := ix_any (l.getD (2 * j + 1) 0)
      have b0 := hexv_bd (l.getD (2 * j) 0)
      have b1 := hexv_bd (l.getD (2 * j + 1) 0)
      rw [show ((2 * j : Nat) : Int) = 2 * (j : Int) by omega] at i0
      rw [show ((2 * j + 1 : Nat) : Int) = 2 * (j : Int) + 1 by omega] at i1
      generalize l.getD (2 * j) 0 = e0 at *
      generalize l.getD (2 * j + 1) 0 = e1 at *
      generalize hexv e0 = x0 at *
      generalize hexv e1 = x1 at *
      generalize ((e0.toNat : Nat) : Int) = y0 at *
      generalize ((e1.toNat : Nat) : Int) = y1 at *
      have HHA : Hid (_) := HA
      clear HA hid
      have hw1 : IntKind.i64.wrap (2 * (j : Int) + 1) = 2 * (j : Int) + 1 := by rw [IntKind.wrap_i64]; omega
      go_wp2
      go_quiet (first
        | (go_at_call 128; (with_reducible exact Calls.quiet_of_same (c0 _)))
        | (go_at_call 128; exact Calls.quiet_of_same (c1 _)))
      obtain ⟨W1, hW1⟩ : ∃ W1, W1 = wr.drewN nq := ⟨_, rfl⟩
      rw [← hW1]
      have HW : Hid (Below wr.heap.size wr W1) := by show Below _ _ _; rw [hW1]; exact below_drewN _ _
      clear hW1 i0 i1 c0 c1
      by_cases hneg : x0 < 0 ∨ x1 < 0
      · have HR : Hid (hexs l = none) := by
          show _ = _
          rw [HI.out.2.2.2.2, HHA.out, if_pos hneg]; rfl
        by_cases h0 : x0 < 0
        · have d0 : decide (x0 < 0) = true := by simpa using h0
          go_wp2
          go_ret2
          refine ⟨?_, HI.out.2.2.1.trans (HW.out.mono (Nat.le_trans hB HI.out.2.2.1.size)), HI.out.2.2.2.1.trans (Tb.of HW.out)⟩
          rw [HR.out]
          rfl
        · have h1 : x1 < 0 := hneg.resolve_left h0
          go_wp2
          go_ret2
          refine ⟨?_, HI.out.2.2.1.trans (HW.out.mono (Nat.le_trans hB HI.out.2.2.1.size)), HI.out.2.2.2.1.trans (Tb.of HW.out)⟩
          rw [HR.out]
          rfl
      · have h0 : ¬ x0 < 0 := fun h => hneg (Or.inl h)
        have h1 : ¬ x1 < 0 := fun h => hneg (Or.inr h)
        have ho := or_hex (x := x0) (y := x1) (by omega) (by omega)
        have hwm : IntKind.i64.wrap (x0 * 16) = x0 * 16 := by rw [IntKind.wrap_i64]; omega
        have hwb : IntKind.u8.wrap (x0 * 16 + x1) = x0 * 16 + x1 := by rw [IntKind.wrap_u8]; omega
        have HR : Hid (hexs l = (hexs (l.drop (2 * (j + 1)))).map ((ys ++ [x0 * 16 + x1]) ++ ·)) := by
          show _ = _
          rw [HI.out.2.2.2.2, HHA.out, if_neg hneg, Option.map_map]
          congr 1
          funext q
          simp
        have O1 := owns_below HI.out.2.1 HW.out
        have z1 : B ≤ W1.heap.size := Nat.le_trans (Nat.le_trans hB HI.out.2.2.1.size) HW.out.size
        clear hneg HHA
        go_wp2_with (at_builtin; refine wpList_byte rfl (.tmp 38) (.tmp 44) rfl (t := n + (j + 1)) rfl rfl (owns_below O1 (alloc_below _ _)) (Src.one _ _ _) rfl (by omega) (by rw [alloc_size]; omega) ?_; intro sp2 c2 w2 O2 G2)
        go_roundg g
        case measure => omega
        case rel => exact ⟨j + 1, sp2, c2, ys ++ [x0 * 16 + x1], by omega, by first | rfl | (congr 1; done) | (congr 1; omega), rfl, by simp [HI.out.1], by simpa using O2.out, (HI.out.2.2.1.trans (HW.out.mono (Nat.le_trans hB HI.out.2.2.1.size))).trans (((alloc_below _ _).mono z1).trans (own_grown (owns_below O1 (alloc_below _ _)) G2.out (by rw [alloc_size]; omega))), (HI.out.2.2.2.1.trans (Tb.of HW.out)).trans ((Tb.of (alloc_below _ _)).trans (Tb.grown (owns_below O1 (alloc_below _ _)) G2.out)), HR.out⟩
theorem appendHex_any {w : World} {B n : Nat} {sp0 : Option Addr} {c0 : Nat} {xs : List Int} (t : ByteArray) (hl : t.size ≤ 1000000) (hown : w.ownsRow B 5 1 (.slice sp0 n c0) n (byt xs)) (hn : n ≤ 100000000) (hB : B ≤ w.heap.size) :
    Calls Tryz.prog 115 #[.slice sp0 n c0, .string t] w fun e w' => HX w w' e B n xs (hex1 t.data.toList) ∧ Below B w w' ∧ Tb 5 w w' := by
  by_cases h0 : t.data.toList = []
  · have e : hex1 t.data.toList = none := by unfold hex1; rw [if_pos h0]
    rw [e]
    exact (appendHex_no _ t w (Or.inl h0) hl).mono fun e w' ⟨h1, h2⟩ => ⟨h1, h2 ▸ Below.refl _ _, h2 ▸ Tb.refl _ _⟩
  · have e : hex1 t.data.toList = hexs t.data.toList := by unfold hex1; rw [if_neg h0]
    by_cases hp : t.data.toList.length % 2 = 1
    · rw [e, hexs_odd _ hp]
      exact (appendHex_no _ t w (Or.inr hp) hl).mono fun e w' ⟨h1, h2⟩ => ⟨h1, h2 ▸ Below.refl _ _, h2 ▸ Tb.refl _ _⟩
    · rw [e]
      exact appendHex_yes t hl h0 (by omega) hown hn hB
end Go.Proofs.YtcjghnnliepjjaaGreatDoor
