/- What 'Make', 'Drop' and 'List' answer, for every table and every number. -/
import Derived.Test.YtkogmmldkpepaaaDoorPlace
namespace Go.Proofs.YtkogmmldkpepaaaDoor
open Go Go.RowKit
set_option maxRecDepth 100000
set_option linter.unusedVariables false
theorem make_nil {w : World} :
    Calls Tryd.prog 6 #[.pointer none] w fun e w' => e = .returned (.tuple #[.int .u32 0, .int .i64 2]) ∧ w' = w := by
  go_enter Tryd.func6, Tryd.ntmps6
  go_wp2_with (go_at_call 17; refine there_nil.mono ?_; rintro e wx ⟨rfl, rfl⟩)
  go_ret2
  exact ⟨rfl, rfl⟩
theorem make_zero {w : World} {p : Nat} (h0 : w.cell? ⟨p, 0, none⟩ = some (.int .i64 0)) :
    Calls Tryd.prog 6 #[.pointer (some ⟨p, 0, none⟩)] w fun e w' => e = .returned (.tuple #[.int .u32 0, .int .i64 2]) ∧ w' = w := by
  go_enter Tryd.func6, Tryd.ntmps6
  go_wp2_with (go_at_call 17; refine (there_zero h0).mono ?_; rintro e wx ⟨rfl, rfl⟩)
  go_ret2
  exact ⟨rfl, rfl⟩
theorem drop_nil {w : World} (h : Int) :
    Calls Tryd.prog 8 #[.pointer none, .int .u32 h] w fun e w' => e = .returned (.int .i64 2) ∧ w' = w := by
  go_enter Tryd.func8, Tryd.ntmps8
  go_wp2_with (go_at_call 10; refine (place_nil h).mono ?_; rintro e wx ⟨rfl, rfl⟩)
  go_ret
  exact ⟨rfl, rfl⟩
theorem drop_zero {w : World} {p : Nat} (h0 : w.cell? ⟨p, 0, none⟩ = some (.int .i64 0)) (h : Int) :
    Calls Tryd.prog 8 #[.pointer (some ⟨p, 0, none⟩), .int .u32 h] w fun e w' => e = .returned (.int .i64 2) ∧ w' = w := by
  go_enter Tryd.func8, Tryd.ntmps8
  go_wp2_with (go_at_call 10; refine (place_zero h0 h).mono ?_; rintro e wx ⟨rfl, rfl⟩)
  go_ret
  exact ⟨rfl, rfl⟩
theorem list_nil {w : World} :
    Calls Tryd.prog 12 #[.pointer none] w fun e w' => e = .returned (.slice none 0 0) ∧ w' = w := by
  go_enter Tryd.func12, Tryd.ntmps12
  go_wp2_with (go_at_call 17; refine there_nil.mono ?_; rintro e wx ⟨rfl, rfl⟩)
  go_ret
  exact ⟨rfl, rfl⟩
theorem list_zero {w : World} {p : Nat} (h0 : w.cell? ⟨p, 0, none⟩ = some (.int .i64 0)) :
    Calls Tryd.prog 12 #[.pointer (some ⟨p, 0, none⟩)] w fun e w' => e = .returned (.slice none 0 0) ∧ w' = w := by
  go_enter Tryd.func12, Tryd.ntmps12
  go_wp2_with (go_at_call 17; refine (there_zero h0).mono ?_; rintro e wx ⟨rfl, rfl⟩)
  go_ret
  exact ⟨rfl, rfl⟩
set_option maxHeartbeats 1000000 in
theorem drop_any {w : World} {p n : Nat} {s : Slots} (H : Tab w p n s) (h : Nat) (hh : h ≤ 4294967295) :
    Calls Tryd.prog 8 #[.pointer (some ⟨p, 0, none⟩), .int .u32 (h : Nat)] w fun e w' => e = .returned (.int .i64 (placeE s h)) ∧ Tab w' p n (dropS s h) ∧ Buts [p] w w' := by
  have hC := place_any H h hh
  have HT : Hid (Tab w p n s) := H
  by_cases q : placeE s h = 0
  · have hP : placeP s h = h % 256 := by unfold placeP; rw [if_pos q]
    have HG : Hid (Good n (dropS s h)) := H.good.drop h
    have HE : Hid (dropS s h = upd s (h % 256) ((s (h % 256)).1, false)) := by show _ = _; unfold dropS; rw [if_pos q]
    have hk : h % 256 < 256 := by omega
    rw [q, hP] at hC
    rw [q]
    clear H hP q
    generalize h % 256 = k at *
    have hkI : (k : Int) < 256 := by omega
    go_enter Tryd.func8, Tryd.ntmps8
    go_wp2_with (first
      | (go_at_call 10; refine hC.mono ?_; rintro e w1 ⟨rfl, hb⟩; have H1 : Hid (Tab w1 p n s) := HT.out.below hb; have HB : Hid (Below w.heap.size w w1) := hb; have c1 := H1.out.lay.tak k hk; have c2 := H1.out.lay.free (1 + k * 2 + 1); clear hb))
    go_ret
    refine ⟨rfl, ⟨?_, HT.out.lo, HT.out.hi, HG.out⟩, (Buts.of HB.out).trans (Buts.cell _ _ _ _)⟩
    rw [HE.out]
    exact H1.out.lay.setTak k hk false
  · have q2 : (placeE s h == 0) = false := by simpa using q
    have HE : Hid (dropS s h = s) := dropS_no q
    clear H q
    generalize placeE s h = e at *
    go_enter Tryd.func8, Tryd.ntmps8
    go_wp2_with (first
      | (go_at_call 10; refine hC.mono ?_; rintro e w1 ⟨rfl, hb⟩; have H1 : Hid (Tab w1 p n s) := HT.out.below hb; have HB : Hid (Below w.heap.size w w1) := hb; clear hb))
    go_ret
    refine ⟨rfl, ?_, Buts.of HB.out⟩
    rw [HE.out]
    exact H1.out
set_option maxHeartbeats 1000000 in
theorem make_any {w : World} {p n : Nat} {s : Slots} (H : Tab w p n s) :
    Calls Tryd.prog 6 #[.pointer (some ⟨p, 0, none⟩)] w fun e w' => e = .returned (.tuple #[.int .u32 (makeH n s : Nat), .int .i64 (makeE n s)]) ∧ Tab w' p n (makeS n s) ∧ Buts [p] w w' := by
  have hm := H.lay.many
  have hT := there_yes hm H.lo
  have hn := H.hi
  have hC := first_free H 0 (Nat.zero_le _) (fr n s) rfl
  have HT : Hid (Tab w p n s) := H
  by_cases q : fr n s < n
  · have HE : Hid (makeS n s = upd s (fr n s) ((s (fr n s)).1 + 1, true)) := by show _ = _; unfold makeS; rw [if_pos q]
    have HG : Hid (Good n (makeS n s)) := H.good.make
    have hE : makeE n s = 0 := if_pos q
    have HH : Hid (makeH n s = hd (makeS n s) (fr n s)) := by show _ = _; rw [HE.out]; unfold makeH hd; rw [if_pos q, upd_at]
    have htop := (isFr_not (fr_yes q)).2
    rw [if_pos q, decide_eq_true q] at hC
    rw [hE, HH.out]
    clear H hE
    generalize fr n s = k at *
    have hk : k < 256 := by omega
    have hkI : (k : Int) < 256 := by omega
    obtain ⟨g, hg⟩ : ∃ g, (s k).1 = g := ⟨_, rfl⟩
    rw [hg] at htop
    have HGE : Hid ((s k).1 = g) := hg
    clear hg
    have hwr : IntKind.u32.wrap ((g : Int) + 1) = ((g + 1 : Nat) : Int) := by rw [IntKind.wrap_u32]; omega
    generalize hh : hd (makeS n s) k = r
    have HR : Hid (hd (makeS n s) k = r) := hh
    clear hh
    go_enter Tryd.func6, Tryd.ntmps6
    go_wp2_with (first
      | (go_at_call 17; refine hT.mono ?_; rintro e wx ⟨rfl, hwx⟩; obtain rfl := hwx.symm)
      | (go_at_call 18; refine hC.mono ?_; rintro e w1 ⟨rfl, hb⟩; have H1 : Hid (Tab w1 p n s) := HT.out.below hb; have HB : Hid (Below w.heap.size w w1) := hb; have c0 := H1.out.lay.gen k hk; have c1 := H1.out.lay.tak k hk; have c2 := H1.out.lay.free (1 + k * 2); have c3 := H1.out.lay.free (1 + k * 2 + 1); rw [HGE.out] at c0; clear hb))
    go_region
    all_goals
      have H2 : Hid (Tab ((w1.setCell ⟨p, 1 + k * 2, none⟩ (.int .u32 ((g : Int) + 1))).setCell ⟨p, 1 + k * 2 + 1, none⟩ (.bool true)).drew p n (makeS n s)) := by
        refine Tab.drew (k := 1) ⟨?_, HT.out.lo, hn, HG.out⟩
        rw [HE.out, HGE.out, show (g : Int) + 1 = ((g + 1 : Nat) : Int) by omega]
        exact H1.out.lay.setBoth k hk (g + 1) true
      have B2 : Hid (Buts [p] w ((w1.setCell ⟨p, 1 + k * 2, none⟩ (.int .u32 ((g : Int) + 1))).setCell ⟨p, 1 + k * 2 + 1, none⟩ (.bool true)).drew) := (((Buts.of HB.out).trans (Buts.cell _ _ _ _)).trans (Buts.cell _ _ _ _)).drew
      generalize ((w1.setCell ⟨p, 1 + k * 2, none⟩ (.int .u32 ((g : Int) + 1))).setCell ⟨p, 1 + k * 2 + 1, none⟩ (.bool true)).drew = w2 at *
      have hH := handle_any H2.out k q
      rw [HR.out] at hH
      go_wp2_with (first | (go_at_call 21; refine hH.mono ?_; rintro e w3 ⟨rfl, hw3⟩; obtain rfl := hw3.symm))
      go_ret2
      exact ⟨rfl, H2.out, B2.out⟩
  · have HE : Hid (makeS n s = s) := if_neg q
    have hE : makeE n s = 3 := if_neg q
    have hH : makeH n s = 0 := if_neg q
    rw [if_neg q, decide_eq_false q] at hC
    rw [hE, hH]
    clear H hE hH q
    go_enter Tryd.func6, Tryd.ntmps6
    go_wp2_with (first
      | (go_at_call 17; refine hT.mono ?_; rintro e wx ⟨rfl, hwx⟩; obtain rfl := hwx.symm)
      | (go_at_call 18; refine hC.mono ?_; rintro e w1 ⟨rfl, hb⟩; have H1 : Hid (Tab w1 p n s) := HT.out.below hb; have HB : Hid (Below w.heap.size w w1) := hb; clear hb))
    go_ret2
    refine ⟨rfl, ?_, Buts.of HB.out⟩
    rw [HE.out]
    exact H1.out
theorem infoW : (Tryd.prog.info? 40).map (fun i => (i.zero, i.size, i.bytes)) = some (some (.int .u32 0), 1, 4) := by kernel_rfl
theorem info_parts {P : Program} {t : TypeId} {v : Value} {s b : Nat} (h : (P.info? t).map (fun i => (i.zero, i.size, i.bytes)) = some (some v, s, b)) : ∃ i, P.info? t = some i ∧ i.zero = some v ∧ i.size = s ∧ i.bytes = b := by
  obtain ⟨i, hi, he⟩ := Option.map_eq_some_iff.1 h
  exact ⟨i, hi, by simpa using congrArg Prod.fst he, by simpa using congrArg (fun x => x.2.1) he, by simpa using congrArg (fun x => x.2.2) he⟩
theorem listL_skip {s : Slots} {a : Nat} : ∀ {b : Nat}, a ≤ b → (∀ j, a ≤ j → j < b → (s j).2 = false) → listL b s = listL a s := by
  intro b hb
  induction b with
  | zero => intro _; rw [show a = 0 by omega]
  | succ b ih =>
    intro h
    by_cases e : a = b + 1
    · rw [e]
    · rw [listL_succ, if_neg (by rw [h b (by omega) (by omega)]; decide), List.append_nil]
      exact ih (by omega) (fun j h1 h2 => h j h1 (by omega))
/-- a list that is told: words of one's own -/
def Told (B : Nat) (w : World) (v : Value) (l : List Nat) : Prop := w.ownsRow B 40 1 v l.length (wrd (ints l))
set_option maxHeartbeats 2000000 in
theorem list_any {w : World} {p n : Nat} {s : Slots} (H : Tab w p n s) :
    Calls Tryd.prog 12 #[.pointer (some ⟨p, 0, none⟩)] w fun e w' => ∃ v, e = .returned v ∧ Told w.heap.size w' v (listL n s) ∧ Below w.heap.size w w' := by
  obtain ⟨i0, hi, hz0, hz1, hz2⟩ := info_parts infoW
  have hm := H.lay.many
  have hT := there_yes hm H.lo
  have hn := H.hi
  obtain ⟨k0, hk0⟩ : ∃ k0, nxt (fun i => (s i).2) 0 (n - 0) = k0 := ⟨_, rfl⟩
  obtain ⟨r0, hr0⟩ : ∃ r : Int, (if k0 < n then (k0 : Int) else 0) = r := ⟨_, rfl⟩
  obtain ⟨b0, hb0⟩ : ∃ b : Bool, decide (k0 < n) = b := ⟨_, rfl⟩
  have hC := first_taken H 0 (Nat.zero_le _) k0 hk0
  rw [hr0, hb0] at hC
  have HR0 : Hid ((if k0 < n then (k0 : Int) else 0) = r0) := hr0
  have HD0 : Hid (decide (k0 < n) = b0) := hb0
  clear hr0 hb0
  have hle0 : k0 ≤ n := by have := nxt_le (fun i => (s i).2) (n - 0) 0; omega
  have HY0 : Hid (k0 < n → (s k0).2 = true) := fun h => by have := nxt_yes (fun i => (s i).2) (n - 0) 0 (by omega); rw [hk0] at this; exact this
  have HL0 : Hid (listL k0 s = []) := by
    show _ = _
    rw [listL_skip (Nat.zero_le k0) (fun j h1 h2 => nxt_low (fun i => (s i).2) (n - 0) 0 j h1 (by omega))]; rfl
  have HT : Hid (Tab w p n s) := H
  clear H hk0
  go_enter Tryd.func12, Tryd.ntmps12
  go_wp2_with (first
    | (go_at_call 17; refine hT.mono ?_; rintro e wx ⟨rfl, hwx⟩; obtain rfl := hwx.symm)
    | (go_at_call 18; refine hC.mono ?_; rintro e w1 ⟨rfl, hb⟩; have HB : Hid (Below w.heap.size w w1) := hb; clear hb))
  go_loopg [3, 5, 6] (n - k0) (fun g s3 s5 s6 wx => ∃ k : Nat, k + g = n ∧ ((k < n ∧ s5 = .int .i64 k ∧ s6 = .bool true) ∨ (k = n ∧ s6 = .bool false)) ∧ Hid (k < n → (s k).2 = true) ∧ Hid (Told w.heap.size wx s3 (listL k s)) ∧ Hid (Below w.heap.size w wx))
  case atStart =>
    refine ⟨k0, by omega, ?_, HY0, ?_, HB⟩
    · rw [← HR0.out, ← HD0.out]
      by_cases q : k0 < n
      · rw [if_pos q, decide_eq_true q]; exact Or.inl ⟨q, rfl, rfl⟩
      · rw [decide_eq_false q]; exact Or.inr ⟨by omega, rfl⟩
    · show Told _ _ _ _
      rw [HL0.out]
      exact World.ownsRow_nil _ _ _ _
  case round =>
    clear HB HY0 HL0
    obtain ⟨k, hkg, hk, HY, HO, HB⟩ := hrel
    cases gk with
    | zero =>
      obtain rfl : k = n := by omega
      obtain ⟨_, rfl⟩ := hk.resolve_left (fun h => by omega)
      clear hk
      go_wp2
      go_ret
      exact ⟨_, rfl, HO.out, HB.out⟩
    | succ q =>
      obtain ⟨hkn, rfl, rfl⟩ := hk.resolve_right (fun h => by omega)
      clear hk
      have hq := HY.out hkn
      have H2 : Hid (Tab wr p n s) := HT.out.below HB.out
      have hH := handle_any H2.out k hkn
      obtain ⟨k1, hk1⟩ : ∃ k1, nxt (fun i => (s i).2) (k + 1) (n - (k + 1)) = k1 := ⟨_, rfl⟩
      have hle1 : k1 ≤ n := by have := nxt_le (fun i => (s i).2) (n - (k + 1)) (k + 1); omega
      have hge1 : k + 1 ≤ k1 := by have := nxt_ge (fun i => (s i).2) (n - (k + 1)) (k + 1); omega
      have HY1 : Hid (k1 < n → (s k1).2 = true) := fun h => by have := nxt_yes (fun i => (s i).2) (n - (k + 1)) (k + 1) (by omega); rw [hk1] at this; exact this
      have HL1 : Hid (listL k1 s = listL k s ++ [hd s k]) := by
        show _ = _
        rw [listL_skip hge1 (fun j h1 h2 => nxt_low (fun i => (s i).2) (n - (k + 1)) (k + 1) j h1 (by omega)), listL_succ, if_pos hq]
      obtain ⟨r1, hr1⟩ : ∃ r : Int, (if k1 < n then (k1 : Int) else 0) = r := ⟨_, rfl⟩
      obtain ⟨b1, hb1⟩ : ∃ b : Bool, decide (k1 < n) = b := ⟨_, rfl⟩
      have HR1 : Hid ((if k1 < n then (k1 : Int) else 0) = r1) := hr1
      have HD1 : Hid (decide (k1 < n) = b1) := hb1
      have HC : Hid (∀ wx, Tab wx p n s → Calls Tryd.prog 18 #[.pointer (some ⟨p, 0, none⟩), .int .i64 ((k : Int) + 1), .func (.func 22) #[] #[]] wx fun e w' => e = .returned (.tuple #[.int .i64 r1, .bool b1]) ∧ Below wx.heap.size wx w') := by
        intro wx hx
        have := first_taken hx (k + 1) (by omega) k1 hk1
        rw [hr1, hb1, show ((k + 1 : Nat) : Int) = (k : Int) + 1 by omega] at this
        exact this
      have HF : Hid ((listL k s).length ≤ 256) := by show _ ≤ _; have := tk_le k s; unfold tk at this; omega
      clear hq hk1 hr1 hb1
      obtain ⟨m, hm⟩ : ∃ m, (listL k s).length = m := ⟨_, rfl⟩
      have HM : Hid ((listL k s).length = m) := hm
      have HO2 : Hid (wr.ownsRow w.heap.size 40 1 u3 m (wrd (ints (listL k s)))) := by have := HO.out; unfold Told at this; rw [hm] at this; exact this
      have hmm : m ≤ 256 := by have := HF.out; omega
      clear hm HO HF
      generalize hd s k = r at *
      go_wp2_with (first
        | (go_at_call 21; refine hH.mono ?_; rintro e wh ⟨rfl, hwh⟩; obtain rfl := hwh.symm)
        | (at_builtin; refine wpList_append_own _ rfl _ _ 48 rfl w.heap.size 40 i0 (.int .u32 0) 1 4 Tryd.underlying48 hi hz0 hz1 hz2 rfl (by decide) _ _ _ rfl (HO2.out.alloc _) ⟨wr.heap.size, 0, none⟩ 1 1 [.int .u32 (r : Nat)] rfl rfl (cell1 wr _ _) (by simp [Value.oneCell']) (by simp only [maxLen]; omega) (by omega) (by have := HB.out.size; rw [alloc_size]; omega) ?_; intro v' w1 hown' hgrow _; have HG : Hid ((wr.alloc (.cells #[.int .u32 (r : Nat)] 40)).grownBy w1 u3.ownBlock) := hgrow; have HO3 : Hid (w1.ownsRow w.heap.size 40 1 v' (m + 1) (wrd (ints (listL k s)) ++ [.int .u32 (r : Nat)])) := hown'; have HB3 : Hid (Below w.heap.size w w1) := (HB.out.trans (((alloc_below wr _).mono HB.out.size).trans ((Buts.grown HG.out).below (fun x hx => (HO2.out.lt x (by simpa using hx)).1) (by have := HB.out.size; rw [alloc_size]; omega)))); clear hown' hgrow)
        | (go_at_call 18; refine (HC.out _ (HT.out.below HB3.out)).mono ?_; rintro e w2 ⟨rfl, hb2⟩; have HO4 : Hid (w2.ownsRow w.heap.size 40 1 v' (m + 1) (wrd (ints (listL k s)) ++ [.int .u32 (r : Nat)])) := owns_below HO3.out hb2; have HB4 : Hid (Below w.heap.size w w2) := HB3.out.trans (hb2.mono HB3.out.size); clear hb2))
      go_roundg (n - k1)
      case measure => omega
      case rel =>
        refine ⟨k1, by omega, ?_, HY1, ?_, HB4⟩
        · rw [← HR1.out, ← HD1.out]
          by_cases q : k1 < n
          · rw [if_pos q, decide_eq_true q]; exact Or.inl ⟨q, rfl, rfl⟩
          · rw [decide_eq_false q]; exact Or.inr ⟨by omega, rfl⟩
        · show Told _ _ _ _
          unfold Told
          rw [HL1.out, ints_app, List.length_append, HM.out]
          have := HO4.out
          unfold wrd at this ⊢
          rw [List.map_append]
          exact this
end Go.Proofs.YtkogmmldkpepaaaDoor
