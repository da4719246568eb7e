/- 'ObjectsBlocks' walked: each block of a pool is free, or somebody's. -/
import Derived.Test.YteicnekoogmmmaaOArgs
namespace Go.Proofs.Yteicnekoogmmmaa
open Go Go.RowKit
set_option maxRecDepth 100000
set_option linter.unusedVariables false
theorem Lst.src {w : World} {B n c : Nat} {s : Option Addr} {xs : List Int} (h : Lst w B (.slice s n c) xs) : n = xs.length ∧ Src w s xs := by
  obtain ⟨h1, h2⟩ := h
  rcases h2 with ⟨e1, e2⟩ | ⟨g, cap, cur, e1, hg, hh, hc, hm, hl, ht⟩
  · simp only [Value.slice.injEq] at e1
    have : xs = [] := by cases xs <;> simp_all [wrd]
    subst this
    exact ⟨e1.2.1, fun h => absurd h (by simp)⟩
  · simp only [Value.slice.injEq] at e1
    obtain ⟨rfl, rfl, rfl⟩ := e1
    refine ⟨rfl, fun hz => ⟨g, 0, rfl, fun i hi => ?_⟩⟩
    have ho : w.ownsRow B 22 1 (.slice (some ⟨g, 0, none⟩) xs.length c) xs.length (wrd xs) := ⟨h1, Or.inr ⟨g, c, cur, rfl, hg, hh, hc, hm, hl, ht⟩⟩
    rw [Nat.zero_add, ho.cellAt i (by omega)]
    exact wrd_at xs i (by omega)
theorem make_words (w : World) (c : Nat) (hc : c ≤ 1000000) :
    (Instr.makeSlice 37 (.int .u32 c) (.int .u32 c)).run Try.prog w = .ok (.slice (some ⟨w.heap.size, 0, none⟩) c c) (w.alloc (.cells (wrd (List.replicate c 0)).toArray 22)) := by
  obtain ⟨i, hi, he⟩ := Option.map_eq_some_iff.1 Pl.infoW
  have h1 : i.zero = some (.int .u32 0) := by simpa using congrArg Prod.fst he
  have h2 : i.size = 1 := by simpa using congrArg (fun x => x.2.1) he
  have h3 : i.bytes = 4 := by simpa using congrArg (fun x => x.2.2) he
  have := run_make w 37 22 i (.int .u32 0) Try.underlying37 hi h1 .u32 .u32 c c (by omega) (by omega) (by rw [h3]; omega) (by omega)
  rw [this, h2, Nat.mul_one, Pl.made_zero]
  rfl
theorem Row.buts' {w w' : World} {z : Nat} {ys : List Int} {l : List Nat} (h : Row w z ys) (hb : Buts l w w') (hz : z ∉ l) : Row w' z ys := Blk.buts (t := 22) h hb hz
theorem Row.below' {w w' : World} {z : Nat} {ys : List Int} (h : Row w z ys) (hb : Below w.heap.size w w') : Row w' z ys := Blk.below (t := 22) h hb
theorem row_one {w w' : World} {p f g m z : Nat} {b : Int} {zs ys : List Int} (h : Row w z ys) (hp : Po w p f g m b zs) (hb : Buts [g] w w') : Row w' z ys := by
  obtain ⟨cs, hq⟩ := hp.hq.blk
  exact h.buts' hb (by simpa using Blk.ne (t := 22) h hq (by decide))
theorem po_one {w w' : World} {p f g m z : Nat} {b : Int} {zs ys : List Int} (hp : Po w p f g m b zs) (h : Row w z ys) (hb : Buts [z] w w') : Po w' p f g m b zs := by
  obtain ⟨cs, hq⟩ := hp.hq.blk
  exact hp.buts hb (by simpa using hp.hh.ne (t' := 22) h (by decide)) (by simpa using hp.hp.ne (t' := 22) h (by decide)) (by simpa using hq.ne (t' := 22) h (by decide))
theorem bl_yes {w : World} {p f g m : Nat} {b : Int} {zs : List Int} (h : Po w p f g m b zs) (who : Int) (hw : 0 < who ∧ who ≤ 4294967295) (hf : ff zs < zs.length) : Calls Try.prog 8 #[.pointer (some ⟨p, 0, none⟩), .int .u32 who, .agg #[.int .u8 14, .int .u32 0, .int .u32 0, .int .u32 0, .int .i64 0]] w fun e w' => e = .returned (.tuple #[.int .u32 (ff zs : Nat), .int .i64 0]) ∧ Po w' p f g m b (zs.set (ff zs) who) ∧ Buts [g] w w' := by
  have := po_alloc h who 0 0 0 0 hw
  rwa [show alV zs = (ff zs : Nat) by simp [alV, hf], show alE zs = 0 by simp [alE, hf], show alL zs who = zs.set (ff zs) who by simp [alL, hf]] at this
theorem bl_no {w : World} {p f g m : Nat} {b : Int} {zs : List Int} (h : Po w p f g m b zs) (who : Int) (hw : 0 < who ∧ who ≤ 4294967295) (hf : ¬ ff zs < zs.length) : Calls Try.prog 8 #[.pointer (some ⟨p, 0, none⟩), .int .u32 who, .agg #[.int .u8 14, .int .u32 0, .int .u32 0, .int .u32 0, .int .i64 0]] w fun e w' => e = .returned (.tuple #[.int .u32 0, .int .i64 7]) ∧ Po w' p f g m b zs ∧ Buts [g] w w' := by
  have := po_alloc h who 0 0 0 0 hw
  rwa [show alV zs = 0 by simp [alV, hf], show alE zs = 7 by simp [alE, hf], show alL zs who = zs by simp [alL, hf]] at this
theorem bl_free {w : World} {p f g m : Nat} {b : Int} {zs : List Int} (h : Po w p f g m b zs) (who : Int) (hw : 0 < who ∧ who ≤ 4294967295) {v : Nat} (hv : v < zs.length) (hm : zs.length ≤ 64) (ho : zs.getD v 0 = who) : Calls Try.prog 8 #[.pointer (some ⟨p, 0, none⟩), .int .u32 who, .agg #[.int .u8 15, .int .u32 0, .int .u32 (v : Nat), .int .u32 0, .int .i64 0]] w fun e w' => e = .returned (.tuple #[.int .u32 0, .int .i64 0]) ∧ Po w' p f g m b (zs.set v 0) ∧ Buts [g] w w' := by
  have := po_free h v (by omega) who 0 0 0 hw
  rwa [show frE zs who v = 0 by unfold frE; rw [if_neg (by omega), if_pos ho], show frL zs who v = zs.set v 0 by unfold frL; rw [if_neg (by omega), if_pos ho]] at this
theorem bl_stay {w : World} {p f g m : Nat} {b : Int} {zs : List Int} (h : Po w p f g m b zs) (who : Int) (hw : 0 < who ∧ who ≤ 4294967295) {v : Nat} (hv : v < zs.length) (hm : zs.length ≤ 64) (ho : zs.getD v 0 ≠ who) : Calls Try.prog 8 #[.pointer (some ⟨p, 0, none⟩), .int .u32 who, .agg #[.int .u8 15, .int .u32 0, .int .u32 (v : Nat), .int .u32 0, .int .i64 0]] w fun e w' => e = .returned (.tuple #[.int .u32 0, .int .i64 13]) ∧ Po w' p f g m b zs ∧ Buts [g] w w' := by
  have := po_free h v (by omega) who 0 0 0 hw
  rwa [show frE zs who v = 13 by unfold frE; rw [if_neg (by omega), if_neg ho], show frL zs who v = zs by unfold frL; rw [if_neg (by omega), if_neg ho]] at this
set_option maxHeartbeats 16000000 in
theorem blocks_law {sp : Option Addr} {acts : List Ac} {w : World} (hs : Acts w.heap.size w sp acts) (hl : acts.length ≤ maxLen) (cap : Nat) (a : Int) (ha : 0 ≤ a ∧ a ≤ 255) :
    Calls Try.prog 5 #[.int .u8 a, .slice sp acts.length cap] w fun e w' => e = .returned (.bool true) ∧ Below w.heap.size w w' := by
  unfold maxLen at hl
  obtain ⟨m, hk⟩ := Int.eq_ofNat_of_zero_le (a := 1 + a % 64) (by omega)
  have k1 : 1 ≤ m := by omega
  have k2 : m ≤ 64 := by omega
  have hC := new_pool (w := w) (b := 8) m k1 k2 (by decide)
  obtain ⟨q, hq⟩ : ∃ q, acts.length = q := ⟨_, rfl⟩
  rw [hq] at hl ⊢
  have HQ : Hid (acts.length = q) := hq
  have HS : Hid (Acts w.heap.size w sp acts) := hs
  clear hq hs
  by_cases hbig : 300 < q
  · go_enter Try.func5, Try.ntmps5
    go_wp2_with (first
      | (go_at_call 6; refine hC.mono ?_; rintro e w1 ⟨p, f, g, rfl, hx, hp, hf, hg, hB⟩; clear hx hp hf hg)
      | (go_at_call 7; refine (lives_any _).mono ?_; rintro e w2 ⟨rfl, hb2⟩))
    go_ret
    exact ⟨rfl, hB.trans (hb2.mono hB.size)⟩
  · have hsm : ¬ (300 : Int) < (q : Int) := by omega
    have hmk := fun w => make_words w m (by omega)
    go_enter Try.func5, Try.ntmps5
    go_wp2_with (first
      | (go_at_call 6; refine hC.mono ?_; rintro e w1 ⟨p, f, gg, rfl, hx, hp, hf, hg, hB⟩; have H1 : Hid (Po w1 p f gg m 8 (List.replicate m 0)) := hx; have HG : Hid (w.heap.size ≤ gg) := hg; clear hx hp hf hg hC))
    have R1 : Hid (Row (w1.alloc (.cells (wrd (List.replicate m 0)).toArray 22)) w1.heap.size (List.replicate m 0)) := alloc_at w1 _
    have P1 : Hid (Po (w1.alloc (.cells (wrd (List.replicate m 0)).toArray 22)) p f gg m 8 (List.replicate m 0)) := H1.out.below (alloc_below w1 _)
    have ZB : Hid (w.heap.size ≤ w1.heap.size) := hB.size
    replace hB := hB.trans ((alloc_below w1 (.cells (wrd (List.replicate m 0)).toArray 22)).mono hB.size)
    clear H1 hmk
    generalize w1.heap.size = z at *
    generalize w1.alloc (.cells (wrd (List.replicate m 0)).toArray 22) = w2 at *
    go_loopg [9] q (fun g s9 wx => ∃ (i : Nat) (zs : List Int), i + g = q ∧ s9 = .int .i64 i ∧ Hid (Po wx p f gg m 8 zs) ∧ Hid (Row wx z zs) ∧ Below w.heap.size w wx)
    case atStart => exact ⟨0, _, by omega, rfl, P1, R1, hB⟩
    case round =>
      clear P1 R1 hB
      obtain ⟨i, zs, hig, rfl, HP, HR, hB⟩ := hrel
      cases gk with
      | zero =>
        obtain rfl : i = q := by omega
        have hlt : ¬ ((i : Int) < i) := by omega
        go_wp2_with (first
          | (go_at_call 7; refine (lives_any _).mono ?_; rintro e w6 ⟨rfl, hb2⟩))
        go_ret
        exact ⟨rfl, hB.trans (hb2.mono hB.size)⟩
      | succ g =>
        have hlt : (i : Int) < q := by omega
        obtain ⟨bb, off, rfl, hbl, hc⟩ := HS.out.spot (by rw [HQ.out]; omega)
        obtain ⟨x, hx⟩ : ∃ x, acts[i]? = some x := ⟨_, List.getElem?_eq_getElem (by rw [HQ.out]; omega)⟩
        have hat := (hc i x hx).below hbl hB
        have hok := HS.out.wf i x hx
        clear hc hx
        obtain ⟨lv, who0, wh, ah, av, am, aw⟩ := x
        obtain ⟨x0, x1, x2, x3, x4, x5, x6⟩ := hat
        obtain ⟨o1, o2, o3, o4, o5, o6⟩ := hok
        simp only at x0 x1 x2 x3 x4 x5 x6 o1 o2 o3 o4 o5 o6
        obtain ⟨who, hwho⟩ : ∃ who : Int, 1 + who0 % 4 = who := ⟨_, rfl⟩
        have WH : Hid (0 < who ∧ who ≤ 4294967295) := by show _ ∧ _; omega
        have W4 : Hid (who ≤ 4) := by show _ ≤ _; omega
        have HL : Hid (zs.length = m) := HP.out.hq.len
        have hfd := field_owners
        cases lv
        · by_cases hev : av % 2 = 0
          · have hev1 : (av % 2 == 0) = true := by simpa using hev
            clear o6
            by_cases hff : ff zs < zs.length
            · obtain ⟨v, hv⟩ : ∃ v, ff zs = v := ⟨_, rfl⟩
              have HV : Hid (ff zs = v) := hv
              have HF : Hid (ff zs < zs.length) := hff
              have hvm : (v : Int) < (m : Int) := by have := HL.out; omega
              have hvn : v < m := by omega
              have Z0 : Hid (zs.getD v 0 = 0) := by show _ = _; rw [← hv]; exact ff_at hff
              have CA := fun w' (h : Po w' p f gg m 8 zs) => bl_yes h who WH.out hff
              rw [hv] at CA
              have LY : Hid ((zs.set v who).length = m) := by show _ = _; rw [List.length_set]; exact HL.out
              clear hv hff hev
              go_wp2_with (first
                | (go_at_call 8; have hB2 := hB.trans ((alloc_below wr (.cells #[.bool false, .int .u32 who0, .int .u8 wh, .int .u32 ah, .int .u32 av, .int .u32 (am), .int .i64 aw] 46)).mono hB.size); have PA := HP.out.below (alloc_below wr (.cells #[.bool false, .int .u32 who0, .int .u8 wh, .int .u32 ah, .int .u32 av, .int .u32 (am), .int .i64 aw] 46)); have RA := HR.out.below' (alloc_below wr (.cells #[.bool false, .int .u32 who0, .int .u8 wh, .int .u32 ah, .int .u32 av, .int .u32 (am), .int .i64 aw] 46)); refine (CA _ PA).mono ?_; rintro e w3 ⟨rfl, hx, hb3⟩; have P3 : Hid (Po w3 p f gg m 8 (zs.set v who)) := hx; have R3 : Hid (Row w3 z zs) := row_one RA PA hb3; replace hB := hB2.trans (one_below hb3 HG.out hB2.size); clear hx hb3 hB2 PA RA; have kc : w3.cell? ⟨z, v, none⟩ = some (.int .u32 0) := (by rw [R3.out.cell v (by rw [HL.out]; omega), Z0.out]); have kf := R3.out.free v; have kl := R3.out.lt)
                | (go_at_call 9; have PY := po_one P3.out R3.out (Buts.cell w3 z v (.int .u32 who)); have RY := R3.out.set v who; refine (po_see PY).mono ?_; rintro e w5 ⟨s1, n1, c1, s2, n2, c2, he, hr, ho, hb5⟩; unfold seec at he; subst he; obtain ⟨hn2, hsr⟩ := Lst.src ho; have hn3 : m = n2 := (hn2.trans LY.out).symm; subst hn3; have S5 : Hid (Src w5 s2 (zs.set v who)) := hsr; have P5 : Hid (Po w5 p f gg m 8 (zs.set v who)) := PY.below hb5; have R5 : Hid (Row w5 z (zs.set v who)) := RY.below' hb5; replace hB := (hB.trans (one_below (Buts.cell w3 z v (.int .u32 who)) ZB.out hB.size)); replace hB := hB.trans (hb5.mono hB.size); clear hn2 hsr hr ho hb5 PY RY)
                | (go_at_call 10; refine (same_is S5.out (Src.row R5.out) LY.out (by omega) _ _).mono ?_; rintro e w6 ⟨rfl, hb6⟩; have P6 : Hid (Po w6 p f gg m 8 (zs.set v who)) := P5.out.below hb6; have R6 : Hid (Row w6 z (zs.set v who)) := R5.out.below' hb6; replace hB := hB.trans (hb6.mono hB.size); clear hb6))
              go_roundg g
              case measure => omega
              case rel => exact ⟨i + 1, zs.set v who, by omega, by go_num, P6, R6, hB⟩
            · have CA := fun w' (h : Po w' p f gg m 8 zs) => bl_no h who WH.out hff
              have HM : Hid (∀ j, j < m → zs.getD j 0 ≠ 0) := fun j hj => ff_min (by have := HL.out; omega)
              clear hff hev
              go_wp2_with (first
                | (go_at_call 8; have hB2 := hB.trans ((alloc_below wr (.cells #[.bool false, .int .u32 who0, .int .u8 wh, .int .u32 ah, .int .u32 av, .int .u32 (am), .int .i64 aw] 46)).mono hB.size); have PA := HP.out.below (alloc_below wr (.cells #[.bool false, .int .u32 who0, .int .u8 wh, .int .u32 ah, .int .u32 av, .int .u32 (am), .int .i64 aw] 46)); have RA := HR.out.below' (alloc_below wr (.cells #[.bool false, .int .u32 who0, .int .u8 wh, .int .u32 ah, .int .u32 av, .int .u32 (am), .int .i64 aw] 46)); refine (CA _ PA).mono ?_; rintro e w3 ⟨rfl, hx, hb3⟩; have P3 : Hid (Po w3 p f gg m 8 (zs)) := hx; have R3 : Hid (Row w3 z zs) := row_one RA PA hb3; replace hB := hB2.trans (one_below hb3 HG.out hB2.size); clear hx hb3 hB2 PA RA))
              go_loopg [15] m (fun g2 s15 wx => ∃ k : Nat, k + g2 = m ∧ s15 = .int .i64 k ∧ Hid (Po wx p f gg m 8 zs) ∧ Hid (Row wx z zs) ∧ Below w.heap.size w wx)
              case atStart => exact ⟨0, by omega, rfl, P3, R3, hB⟩
              case round =>
                clear P3 R3 hB
                obtain ⟨k, hkg, rfl, P4, R4, hB⟩ := hrel
                cases gk with
                | succ g2 =>
                  have hlt2 : (k : Int) < m := by omega
                  have kc := R4.out.cell k (by rw [HL.out]; omega)
                  have kl := R4.out.lt
                  have kn : (zs.getD k 0 == 0) = false := by simpa using HM.out k (by omega)
                  generalize zs.getD k 0 = y at *
                  go_wp2
                  go_roundg g2
                  case measure => omega
                  case rel => exact ⟨k + 1, by omega, by go_num, P4, R4, hB⟩
                | zero =>
                  obtain rfl : k = m := by omega
                  have hlt2 : ¬ ((k : Int) < k) := by omega
                  go_wp2_with (first
                    | (go_at_call 9; have PY := P4.out; have RY := R4.out; refine (po_see PY).mono ?_; rintro e w5 ⟨s1, n1, c1, s2, n2, c2, he, hr, ho, hb5⟩; unfold seec at he; subst he; obtain ⟨hn2, hsr⟩ := Lst.src ho; have hn3 : k = n2 := (hn2.trans HL.out).symm; subst hn3; have S5 : Hid (Src w5 s2 (zs)) := hsr; have P5 : Hid (Po w5 p f gg k 8 (zs)) := PY.below hb5; have R5 : Hid (Row w5 z (zs)) := RY.below' hb5; replace hB := hB.trans (hb5.mono hB.size); clear hn2 hsr hr ho hb5 PY RY)
                    | (go_at_call 10; refine (same_is S5.out (Src.row R5.out) HL.out (by omega) _ _).mono ?_; rintro e w6 ⟨rfl, hb6⟩; have P6 : Hid (Po w6 p f gg k 8 (zs)) := P5.out.below hb6; have R6 : Hid (Row w6 z (zs)) := R5.out.below' hb6; replace hB := hB.trans (hb6.mono hB.size); clear hb6))
                  go_roundg g
                  case measure => omega
                  case rel => exact ⟨i + 1, zs, by omega, by go_num, P6, R6, hB⟩
          · have hev1 : (av % 2 == 0) = false := by simpa using hev
            obtain ⟨an, rfl⟩ := Int.eq_ofNat_of_zero_le o5.1
            obtain ⟨v, hv⟩ : ∃ v, an % m = v := ⟨_, rfl⟩
            have hvn : v < m := by rw [← hv]; exact Nat.mod_lt _ k1
            have hvm : (v : Int) < (m : Int) := by omega
            have hm0 : ((m : Int) == 0) = false := by simp; omega
            have ht1 : ((an : Nat) : Int).tmod (m : Int) = (v : Nat) := by rw [← hv]; rfl
            have ht2 : ((an : Nat) : Int) % (m : Int) = (v : Nat) := by rw [← hv]; rfl
            clear o6 hev hv
            by_cases hof : zs.getD v 0 = who
            · have CA := fun w' (h : Po w' p f gg m 8 zs) => bl_free h who WH.out (v := v) (by rw [HL.out]; omega) (by rw [HL.out]; omega) hof
              have HO : Hid (zs.getD v 0 = who) := hof
              have LY : Hid ((zs.set v 0).length = m) := by show _ = _; rw [List.length_set]; exact HL.out
              clear hof
              go_wp2_with (first
                | (go_at_call 8; have hB2 := hB.trans ((alloc_below wr (.cells #[.bool false, .int .u32 who0, .int .u8 wh, .int .u32 ah, .int .u32 av, .int .u32 (((an : Nat) : Int)), .int .i64 aw] 46)).mono hB.size); have PA := HP.out.below (alloc_below wr (.cells #[.bool false, .int .u32 who0, .int .u8 wh, .int .u32 ah, .int .u32 av, .int .u32 (((an : Nat) : Int)), .int .i64 aw] 46)); have RA := HR.out.below' (alloc_below wr (.cells #[.bool false, .int .u32 who0, .int .u8 wh, .int .u32 ah, .int .u32 av, .int .u32 (((an : Nat) : Int)), .int .i64 aw] 46)); refine (CA _ PA).mono ?_; rintro e w3 ⟨rfl, hx, hb3⟩; have P3 : Hid (Po w3 p f gg m 8 (zs.set v 0)) := hx; have R3 : Hid (Row w3 z zs) := row_one RA PA hb3; replace hB := hB2.trans (one_below hb3 HG.out hB2.size); clear hx hb3 hB2 PA RA; have kc : w3.cell? ⟨z, v, none⟩ = some (.int .u32 who) := (by rw [R3.out.cell v (by rw [HL.out]; omega), HO.out]); have kf := R3.out.free v; have kl := R3.out.lt)
                | (go_at_call 9; have PY := po_one P3.out R3.out (Buts.cell w3 z v (.int .u32 0)); have RY := R3.out.set v 0; refine (po_see PY).mono ?_; rintro e w5 ⟨s1, n1, c1, s2, n2, c2, he, hr, ho, hb5⟩; unfold seec at he; subst he; obtain ⟨hn2, hsr⟩ := Lst.src ho; have hn3 : m = n2 := (hn2.trans LY.out).symm; subst hn3; have S5 : Hid (Src w5 s2 (zs.set v 0)) := hsr; have P5 : Hid (Po w5 p f gg m 8 (zs.set v 0)) := PY.below hb5; have R5 : Hid (Row w5 z (zs.set v 0)) := RY.below' hb5; replace hB := (hB.trans (one_below (Buts.cell w3 z v (.int .u32 0)) ZB.out hB.size)); replace hB := hB.trans (hb5.mono hB.size); clear hn2 hsr hr ho hb5 PY RY)
                | (go_at_call 10; refine (same_is S5.out (Src.row R5.out) LY.out (by omega) _ _).mono ?_; rintro e w6 ⟨rfl, hb6⟩; have P6 : Hid (Po w6 p f gg m 8 (zs.set v 0)) := P5.out.below hb6; have R6 : Hid (Row w6 z (zs.set v 0)) := R5.out.below' hb6; replace hB := hB.trans (hb6.mono hB.size); clear hb6))
              go_roundg g
              case measure => omega
              case rel => exact ⟨i + 1, zs.set v 0, by omega, by go_num, P6, R6, hB⟩
            · have CA := fun w' (h : Po w' p f gg m 8 zs) => bl_stay h who WH.out (v := v) (by rw [HL.out]; omega) (by rw [HL.out]; omega) hof
              obtain ⟨y, hy⟩ : ∃ y, zs.getD v 0 = y := ⟨_, rfl⟩
              have HO : Hid (zs.getD v 0 = y) := hy
              rw [hy] at hof
              have hyw : (y == who) = false := by simpa using hof
              clear hof hy
              go_wp2_with (first
                | (go_at_call 8; have hB2 := hB.trans ((alloc_below wr (.cells #[.bool false, .int .u32 who0, .int .u8 wh, .int .u32 ah, .int .u32 av, .int .u32 (((an : Nat) : Int)), .int .i64 aw] 46)).mono hB.size); have PA := HP.out.below (alloc_below wr (.cells #[.bool false, .int .u32 who0, .int .u8 wh, .int .u32 ah, .int .u32 av, .int .u32 (((an : Nat) : Int)), .int .i64 aw] 46)); have RA := HR.out.below' (alloc_below wr (.cells #[.bool false, .int .u32 who0, .int .u8 wh, .int .u32 ah, .int .u32 av, .int .u32 (((an : Nat) : Int)), .int .i64 aw] 46)); refine (CA _ PA).mono ?_; rintro e w3 ⟨rfl, hx, hb3⟩; have P3 : Hid (Po w3 p f gg m 8 (zs)) := hx; have R3 : Hid (Row w3 z zs) := row_one RA PA hb3; replace hB := hB2.trans (one_below hb3 HG.out hB2.size); clear hx hb3 hB2 PA RA; have kc : w3.cell? ⟨z, v, none⟩ = some (.int .u32 y) := (by rw [R3.out.cell v (by rw [HL.out]; omega), HO.out]); have kl := R3.out.lt)
                | (go_at_call 9; have PY := P3.out; have RY := R3.out; refine (po_see PY).mono ?_; rintro e w5 ⟨s1, n1, c1, s2, n2, c2, he, hr, ho, hb5⟩; unfold seec at he; subst he; obtain ⟨hn2, hsr⟩ := Lst.src ho; have hn3 : m = n2 := (hn2.trans HL.out).symm; subst hn3; have S5 : Hid (Src w5 s2 (zs)) := hsr; have P5 : Hid (Po w5 p f gg m 8 (zs)) := PY.below hb5; have R5 : Hid (Row w5 z (zs)) := RY.below' hb5; replace hB := hB.trans (hb5.mono hB.size); clear hn2 hsr hr ho hb5 PY RY)
                | (go_at_call 10; refine (same_is S5.out (Src.row R5.out) HL.out (by omega) _ _).mono ?_; rintro e w6 ⟨rfl, hb6⟩; have P6 : Hid (Po w6 p f gg m 8 (zs)) := P5.out.below hb6; have R6 : Hid (Row w6 z (zs)) := R5.out.below' hb6; replace hB := hB.trans (hb6.mono hB.size); clear hb6))
              go_roundg g
              case measure => omega
              case rel => exact ⟨i + 1, zs, by omega, by go_num, P6, R6, hB⟩
        · clear o6
          go_wp2_with (first
            | (go_at_call 11; have hB2 := hB.trans ((alloc_below wr (.cells #[.bool true, .int .u32 who0, .int .u8 wh, .int .u32 ah, .int .u32 av, .int .u32 (am), .int .i64 aw] 46)).mono hB.size); have PA := HP.out.below (alloc_below wr (.cells #[.bool true, .int .u32 who0, .int .u8 wh, .int .u32 ah, .int .u32 av, .int .u32 (am), .int .i64 aw] 46)); have RA := HR.out.below' (alloc_below wr (.cells #[.bool true, .int .u32 who0, .int .u8 wh, .int .u32 ah, .int .u32 av, .int .u32 (am), .int .i64 aw] 46)); refine (po_leave PA who WH.out.1).mono ?_; rintro e w3 ⟨rfl, hx, hb3⟩; have P3 : Hid (Po w3 p f gg m 8 (Pl.clr who zs)) := hx; have R3 : Hid (Row w3 z zs) := row_one RA PA hb3; replace hB := hB2.trans (one_below hb3 HG.out hB2.size); clear hx hb3 hB2 PA RA))
          go_loopg [12] m (fun g2 s12 wx => ∃ k : Nat, k + g2 = m ∧ s12 = .int .i64 k ∧ Hid (Po wx p f gg m 8 (Pl.clr who zs)) ∧ Hid (Row wx z (Pl.mid who zs k)) ∧ Below w.heap.size w wx)
          case atStart => exact ⟨0, by omega, rfl, P3, by rw [Pl.mid_zero]; exact R3, hB⟩
          case round =>
            clear P3 R3 hB
            obtain ⟨k, hkg, rfl, P4, R4, hB⟩ := hrel
            cases gk with
            | succ g2 =>
              have hlt2 : (k : Int) < m := by omega
              have HK : Hid (k < zs.length) := by show _ < _; rw [HL.out]; omega
              have kc := R4.out.cell k (by rw [Pl.mid_len, HL.out]; omega)
              rw [Pl.mid_at _ _ _ HK.out] at kc
              have kl := R4.out.lt
              have kf := R4.out.free k
              by_cases hy : zs.getD k 0 = who
              · have HM : Hid ((Pl.mid who zs k).set k 0 = Pl.mid who zs (k + 1)) := Pl.mid_hit _ _ _ HK.out hy
                rw [hy] at kc
                clear hy
                go_wp2
                go_roundg g2
                case measure => omega
                case rel => exact ⟨k + 1, by omega, by go_num, po_one P4.out R4.out (Buts.cell _ z k (.int .u32 0)), by rw [← HM.out]; exact R4.out.set k 0, hB.trans (one_below (Buts.cell _ z k (.int .u32 0)) ZB.out hB.size)⟩
              · have HM : Hid (Pl.mid who zs (k + 1) = Pl.mid who zs k) := Pl.mid_miss _ _ _ HK.out hy
                have hyw : (zs.getD k 0 == who) = false := by simpa using hy
                clear hy
                generalize zs.getD k 0 = y at *
                go_wp2
                go_roundg g2
                case measure => omega
                case rel => exact ⟨k + 1, by omega, by go_num, P4, by rw [HM.out]; exact R4, hB⟩
            | zero =>
              obtain rfl : k = m := by omega
              have hlt2 : ¬ ((k : Int) < k) := by omega
              rw [Pl.mid_all _ _ _ HL.out] at R4
              have LY : Hid ((Pl.clr who zs).length = k) := by show _ = _; rw [Pl.clr_len]; exact HL.out
              go_wp2_with (first
                | (go_at_call 9; have PY := P4.out; have RY := R4.out; refine (po_see PY).mono ?_; rintro e w5 ⟨s1, n1, c1, s2, n2, c2, he, hr, ho, hb5⟩; unfold seec at he; subst he; obtain ⟨hn2, hsr⟩ := Lst.src ho; have hn3 : k = n2 := (hn2.trans LY.out).symm; subst hn3; have S5 : Hid (Src w5 s2 (Pl.clr who zs)) := hsr; have P5 : Hid (Po w5 p f gg k 8 (Pl.clr who zs)) := PY.below hb5; have R5 : Hid (Row w5 z (Pl.clr who zs)) := RY.below' hb5; replace hB := hB.trans (hb5.mono hB.size); clear hn2 hsr hr ho hb5 PY RY)
                | (go_at_call 10; refine (same_is S5.out (Src.row R5.out) LY.out (by omega) _ _).mono ?_; rintro e w6 ⟨rfl, hb6⟩; have P6 : Hid (Po w6 p f gg k 8 (Pl.clr who zs)) := P5.out.below hb6; have R6 : Hid (Row w6 z (Pl.clr who zs)) := R5.out.below' hb6; replace hB := hB.trans (hb6.mono hB.size); clear hb6))
              go_roundg g
              case measure => omega
              case rel => exact ⟨i + 1, Pl.clr who zs, by omega, by go_num, P6, R6, hB⟩
end Go.Proofs.Yteicnekoogmmmaa
