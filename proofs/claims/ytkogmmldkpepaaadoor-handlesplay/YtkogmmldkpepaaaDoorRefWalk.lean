/- What the functions of the document's own table answer. -/
import Derived.Test.YtkogmmldkpepaaaDoorRef
namespace Go.Proofs.YtkogmmldkpepaaaDoor
open Go Go.RowKit
set_option maxRecDepth 100000
set_option linter.unusedVariables false
set_option maxHeartbeats 1000000 in
theorem rplace_any {w : World} {q ga gb n : Nat} {s : Slots} (H : Ref w q ga gb n s) (h : Nat) (hh : h ≤ 4294967295) :
    Calls Tryd.prog 11 #[.pointer (some ⟨q, 0, none⟩), .int .u32 (h : Nat)] w fun e w' => e = .returned (.tuple #[.int .i64 (placeP s h : Nat), .int .i64 (placeE s h)]) ∧ w' = w := by
  have c0 := H.lay.c0
  have c1 := H.lay.c1
  have hn := H.hi
  have e1 : Int.tmod (h : Int) 256 = ((h % 256 : Nat) : Int) := rfl
  have e2 : Int.tdiv (h : Int) 256 = ((h / 256 : Nat) : Int) := rfl
  have hk : h % 256 < 256 := by omega
  have hg : h / 256 ≤ 16777215 := by omega
  by_cases q0 : n ≤ h % 256
  · have hov := H.good.over _ q0
    have hE : placeE s h = 5 := by
      unfold placeE
      rw [hov, if_pos]
      by_cases q1 : h / 256 = 0
      · exact Or.inl q1
      · exact Or.inr (by simp only; omega)
    have hP : placeP s h = 0 := by unfold placeP; rw [hE]; rfl
    rw [hE, hP]
    have q0I : (n : Int) ≤ ((h % 256 : Nat) : Int) := by omega
    clear hE hP hov q0 H
    generalize h % 256 = k at *
    generalize h / 256 = g at *
    go_enter Tryd.func11, Tryd.ntmps11
    go_wp2
    go_ret2
    exact ⟨rfl, rfl⟩
  · have ca := H.lay.ca (i := h % 256) (by omega)
    have cb := H.lay.cb (i := h % 256) (by omega)
    have q0I : ¬ (n : Int) ≤ ((h % 256 : Nat) : Int) := by omega
    have q0L : ((h % 256 : Nat) : Int) < (n : Int) := by omega
    clear q0 H
    by_cases q1 : h / 256 = 0
    · have hE : placeE s h = 5 := by unfold placeE; rw [if_pos (Or.inl q1)]
      have hP : placeP s h = 0 := by unfold placeP; rw [hE]; rfl
      rw [hE, hP]
      have q2 : (((h / 256 : Nat) : Int) == 0) = true := by simp; omega
      clear q1
      clear hE hP
      generalize h % 256 = k at *
      generalize h / 256 = g at *
      generalize (s k).1 = sg at *
      generalize (s k).2 = st at *
      go_enter Tryd.func11, Tryd.ntmps11
      go_wp2
      go_ret2
      exact ⟨rfl, rfl⟩
    · have q2 : (((h / 256 : Nat) : Int) == 0) = false := by simp; omega
      by_cases q3 : (s (h % 256)).1 < h / 256
      · have hE : placeE s h = 5 := by unfold placeE; rw [if_pos (Or.inr q3)]
        have hP : placeP s h = 0 := by unfold placeP; rw [hE]; rfl
        rw [hE, hP]
        have q4 : (((s (h % 256)).1 : Nat) : Int) < ((h / 256 : Nat) : Int) := by omega
        clear q1 q3
        clear hE hP
        generalize h % 256 = k at *
        generalize h / 256 = g at *
        generalize (s k).1 = sg at *
        generalize (s k).2 = st at *
        go_enter Tryd.func11, Tryd.ntmps11
        go_wp2
        go_ret2
        exact ⟨rfl, rfl⟩
      · have q4 : ¬ (((s (h % 256)).1 : Nat) : Int) < ((h / 256 : Nat) : Int) := by omega
        by_cases q5 : h / 256 < (s (h % 256)).1
        · have hE : placeE s h = 6 := by unfold placeE; rw [if_neg (by omega), if_pos (Or.inl q5)]
          have hP : placeP s h = 0 := by unfold placeP; rw [hE]; rfl
          rw [hE, hP]
          have q6 : ((h / 256 : Nat) : Int) < (((s (h % 256)).1 : Nat) : Int) := by omega
          clear q1 q3 q5
          clear hE hP
          generalize h % 256 = k at *
          generalize h / 256 = g at *
          generalize (s k).1 = sg at *
          generalize (s k).2 = st at *
          go_enter Tryd.func11, Tryd.ntmps11
          go_wp2
          go_ret2
          exact ⟨rfl, rfl⟩
        · have q6 : ¬ ((h / 256 : Nat) : Int) < (((s (h % 256)).1 : Nat) : Int) := by omega
          by_cases q7 : (s (h % 256)).2 = false
          · have hE : placeE s h = 6 := by unfold placeE; rw [if_neg (by omega), if_pos (Or.inr q7)]
            have hP : placeP s h = 0 := by unfold placeP; rw [hE]; rfl
            rw [hE, hP]
            rw [q7] at cb
            clear q1 q3 q5 q7
            clear hE hP
            generalize h % 256 = k at *
            generalize h / 256 = g at *
            generalize (s k).1 = sg at *
            go_enter Tryd.func11, Tryd.ntmps11
            go_wp2
            go_ret2
            exact ⟨rfl, rfl⟩
          · have q8 : (s (h % 256)).2 = true := by simpa using q7
            have hE : placeE s h = 0 := placeE_of (by omega) (by omega) q8
            have hP : placeP s h = h % 256 := by unfold placeP; rw [hE]; rfl
            rw [hE, hP]
            rw [q8] at cb
            clear q1 q3 q5 q7 q8
            clear hE hP
            generalize h % 256 = k at *
            generalize h / 256 = g at *
            generalize (s k).1 = sg at *
            go_enter Tryd.func11, Tryd.ntmps11
            go_wp2
            go_ret2
            exact ⟨rfl, rfl⟩
set_option maxHeartbeats 1000000 in
theorem rdrop_any {w : World} {q ga gb n : Nat} {s : Slots} (H : Ref w q ga gb n s) (h : Nat) (hh : h ≤ 4294967295) :
    Calls Tryd.prog 9 #[.pointer (some ⟨q, 0, none⟩), .int .u32 (h : Nat)] w fun e w' => e = .returned (.int .i64 (placeE s h)) ∧ Ref w' q ga gb n (dropS s h) ∧ Buts [gb] w w' := by
  have hC := rplace_any H h hh
  have HT : Hid (Ref w q ga gb n s) := H
  by_cases q0 : placeE s h = 0
  · have hP : placeP s h = h % 256 := by unfold placeP; rw [if_pos q0]
    have HG : Hid (Good n (dropS s h)) := H.good.drop h
    have HE : Hid (dropS s h = upd s (h % 256) ((s (h % 256)).1, false)) := by show _ = _; unfold dropS; rw [if_pos q0]
    have hk := H.good.lt q0
    have hkI : ((h % 256 : Nat) : Int) < (n : Int) := by omega
    have c1 := H.lay.c1
    have cb := H.lay.cb hk
    have fb := H.lay.fb (h % 256)
    rw [q0, hP] at hC
    rw [q0]
    clear H hP q0
    generalize h % 256 = k at *
    go_enter Tryd.func9, Tryd.ntmps9
    go_wp2_with (first
      | (go_at_call 11; refine hC.mono ?_; rintro e w1 ⟨rfl, hw1⟩; obtain rfl := hw1.symm))
    go_ret
    refine ⟨rfl, ⟨?_, HT.out.lo, HT.out.hi, HG.out⟩, Buts.cell _ _ _ _⟩
    rw [HE.out]
    exact HT.out.lay.setDrp k true
  · have q2 : (placeE s h == 0) = false := by simpa using q0
    have HE : Hid (dropS s h = s) := dropS_no q0
    clear H q0
    generalize placeE s h = e at *
    go_enter Tryd.func9, Tryd.ntmps9
    go_wp2_with (first
      | (go_at_call 11; refine hC.mono ?_; rintro e w1 ⟨rfl, hw1⟩; obtain rfl := hw1.symm))
    go_ret
    refine ⟨rfl, ?_, Buts.refl _ _⟩
    rw [HE.out]
    exact HT.out
set_option maxHeartbeats 2000000 in
theorem rmake_any {w : World} {q ga gb n : Nat} {s : Slots} (H : Ref w q ga gb n s) :
    Calls Tryd.prog 7 #[.pointer (some ⟨q, 0, none⟩)] w fun e w' => e = .returned (.tuple #[.int .u32 (makeH n s : Nat), .int .i64 (makeE n s)]) ∧ Ref w' q ga gb n (makeS n s) ∧ Buts [ga, gb] w w' := by
  have hn := H.hi
  have c0 := H.lay.c0
  have c1 := H.lay.c1
  have HT : Hid (Ref w q ga gb n s) := H
  obtain ⟨F, hF⟩ : ∃ F, fr n s = F := ⟨_, rfl⟩
  have HF : Hid (fr n s = F) := hF
  have hFn : F ≤ n := by rw [← hF]; exact fr_le n s
  have HLow : Hid (∀ j, j < F → isFr (s j) = false) := fun j hj => fr_low (n := n) (by rw [hF]; exact hj)
  obtain ⟨z, hz⟩ : ∃ z : Int, ((makeH n s : Nat) : Int) = z := ⟨_, rfl⟩
  obtain ⟨e, he⟩ : ∃ e : Int, makeE n s = e := ⟨_, rfl⟩
  have HZ : Hid (((makeH n s : Nat) : Int) = z) := hz
  have HE : Hid (makeE n s = e) := he
  rw [hz, he]
  clear hz he H hF
  go_enter Tryd.func7, Tryd.ntmps7
  go_wp2
  go_loopg [4] n (fun g s4 wx => ∃ i : Nat, i + g = n ∧ i ≤ F ∧ s4 = .int .i64 i ∧ w = wx)
  case atStart => exact ⟨0, by omega, by omega, rfl, rfl⟩
  case round =>
    obtain ⟨i, hig, hiF, rfl, rfl⟩ := hrel
    cases gk with
    | zero =>
      have hlt : ¬ ((i : Int) < n) := by omega
      have HN : Hid (¬ fr n s < n) := by rw [HF.out]; show ¬ _; omega
      go_wp2
      go_ret2
      have hS : makeS n s = s := if_neg HN.out
      refine ⟨?_, by rw [hS]; exact HT.out, Buts.refl _ _⟩
      rw [← HZ.out, ← HE.out, show makeH n s = 0 from if_neg HN.out, show makeE n s = 3 from if_neg HN.out]
      rfl
    | succ g' =>
      have hlt : (i : Int) < n := by omega
      have ca := HT.out.lay.ca (i := i) (by omega)
      have cb := HT.out.lay.cb (i := i) (by omega)
      have HTop : Hid ((s i).1 ≤ 16777215) := HT.out.good.top i
      by_cases qi : i = F
      · have HfrI : Hid (fr n s = i) := by rw [qi]; exact HF
        have hfr : fr n s < n := by rw [HfrI.out]; omega
        have hfree := isFr_not (fr_yes hfr)
        rw [HfrI.out] at hfree
        rw [hfree.1] at cb
        obtain ⟨g, hg⟩ : ∃ g, (s i).1 = g := ⟨_, rfl⟩
        have hg2 : (g : Int) < 16777215 := by have := hfree.2; omega
        have HS : Hid (makeS n s = upd s i (g + 1, true)) := by show _ = _; unfold makeS; rw [if_pos hfr, HfrI.out, hg]
        have HH : Hid (z = 256 * ((g : Int) + 1) + (i : Int)) := by rw [← HZ.out]; unfold makeH; rw [if_pos hfr, HfrI.out, hg]; show _ = _; omega
        have HEE : Hid (e = 0) := by rw [← HE.out]; exact if_pos hfr
        have HGD : Hid (Good n (makeS n s)) := HT.out.good.make
        rw [hg] at ca
        have fa := HT.out.lay.fa i
        have R1 : Hid (RLay (w.setCell ⟨ga, i, none⟩ (.int .u32 ((g : Int) + 1))) q ga gb n (upd s i (g + 1, (s i).2))) := HT.out.lay.setAge i (g + 1)
        have R2 : Hid (RLay ((w.setCell ⟨ga, i, none⟩ (.int .u32 ((g : Int) + 1))).setCell ⟨gb, i, none⟩ (.bool false)) q ga gb n (upd s i (g + 1, true))) := by
          have := R1.out.setDrp i false
          rw [upd_upd, upd_at] at this
          exact this
        have B2 : Hid (Buts [ga, gb] w ((w.setCell ⟨ga, i, none⟩ (.int .u32 ((g : Int) + 1))).setCell ⟨gb, i, none⟩ (.bool false))) := ((Buts.cell w ga i _).mono (by simp)).trans ((Buts.cell _ gb i _).mono (by simp))
        have d1 := R1.out.c1
        have db := R1.out.cb (i := i) (by omega)
        have dfb := R1.out.fb i
        have t0 := R2.out.c0
        have ta := R2.out.ca (i := i) (by omega)
        rw [upd_at] at ta
        clear hfree hg hfr qi
        go_wp2
        go_ret2
        refine ⟨?_, ⟨by rw [HS.out]; exact R2.out, HT.out.lo, HT.out.hi, HGD.out⟩, B2.out⟩
        rw [HH.out, HEE.out]
        rfl
      · have hnf := HLow.out i (by omega)
        obtain ⟨g, hg⟩ : ∃ g, (s i).1 = g := ⟨_, rfl⟩
        obtain ⟨b, hb⟩ : ∃ b, (s i).2 = b := ⟨_, rfl⟩
        rw [hg] at ca
        rw [hb] at cb
        have hdec : b = true ∨ (b = false ∧ ¬ (g : Int) < 16777215) := by
          have : isFr (g, b) = false := by rw [← hg, ← hb]; exact hnf
          cases b
          · exact Or.inr ⟨rfl, by simp [isFr] at this; omega⟩
          · exact Or.inl rfl
        clear hnf hg hb
        rcases hdec with rfl | ⟨rfl, hgl⟩
        all_goals
          go_wp2
          go_roundg g'
          case measure => omega
          case rel => exact ⟨i + 1, by omega, by omega, by go_num, rfl⟩
set_option maxHeartbeats 2000000 in
theorem rlist_any {w : World} {q ga gb n : Nat} {s : Slots} (H : Ref w q ga gb n s) :
    Calls Tryd.prog 14 #[.pointer (some ⟨q, 0, none⟩)] w fun e w' => ∃ v, e = .returned v ∧ Told w.heap.size w' v (listL n s) ∧ Below w.heap.size w w' := by
  obtain ⟨i0, hi, hz0, hz1, hz2⟩ := info_parts infoW
  have hn := H.hi
  have HT : Hid (Ref w q ga gb n s) := H
  clear H
  go_enter Tryd.func14, Tryd.ntmps14
  go_wp2
  go_loopg [3, 4] n (fun g s3 s4 wx => ∃ i : Nat, i + g = n ∧ s4 = .int .i64 i ∧ Hid (Told w.heap.size wx s3 (listL i s)) ∧ Hid (Below w.heap.size w wx))
  case atStart => exact ⟨0, by omega, rfl, World.ownsRow_nil _ _ _ _, Below.refl _ _⟩
  case round =>
    obtain ⟨i, hig, rfl, HO, HB⟩ := hrel
    have HR : Hid (Ref wr q ga gb n s) := HT.out.below HB.out
    have c0 := HR.out.lay.c0
    have c1 := HR.out.lay.c1
    cases gk with
    | zero =>
      obtain rfl : n = i := by omega
      have hlt : ¬ ((n : Int) < n) := by omega
      go_wp2
      go_ret
      exact ⟨_, rfl, HO.out, HB.out⟩
    | succ g' =>
      have hlt : (i : Int) < n := by omega
      have ca := HR.out.lay.ca (i := i) (by omega)
      have cb := HR.out.lay.cb (i := i) (by omega)
      have htop := HR.out.good.top i
      by_cases qt : (s i).2 = true
      · have HL1 : Hid (listL (i + 1) s = listL i s ++ [hd s i]) := by show _ = _; rw [listL_succ, if_pos qt]
        have HF : Hid ((listL i s).length ≤ 256) := by show _ ≤ _; have := tk_le i s; unfold tk at this; omega
        obtain ⟨m, hm⟩ : ∃ m, (listL i s).length = m := ⟨_, rfl⟩
        have HM : Hid ((listL i s).length = m) := hm
        have HO2 : Hid (wr.ownsRow w.heap.size 40 1 u3 m (wrd (ints (listL i s)))) := by have := HO.out; unfold Told at this; rw [hm] at this; exact this
        have hmm : m ≤ 256 := by have := HF.out; omega
        rw [qt] at cb
        have HX : Hid (((hd s i : Nat) : Int) = 256 * (((s i).1 : Nat) : Int) + (i : Int)) := by show _ = _; unfold hd; omega
        clear hm HO HF qt
        generalize (s i).1 = g at *
        generalize hd s i = x at *
        go_wp2_with (first
          | (at_builtin; refine wpList_append_own _ rfl _ _ 48 rfl w.heap.size 40 i0 (.int .u32 0) 1 4 Tryd.underlying48 hi hz0 hz1 hz2 rfl (by decide) u3 m (wrd (ints (listL i s))) rfl (HO2.out.alloc _) ⟨wr.heap.size, 0, none⟩ 1 1 [.int .u32 (256 * (g : Int) + (i : Int))] rfl rfl (cell1 wr _ _) (by simp [Value.oneCell']) (by simp only [maxLen]; omega) (by omega) (by have := HB.out.size; rw [alloc_size]; omega) ?_; intro v' w1 hown' hgrow _; have HO3 : Hid (w1.ownsRow w.heap.size 40 1 v' (m + 1) (wrd (ints (listL i s)) ++ [.int .u32 (x : Nat)])) := (by rw [HX.out]; exact hown'); have HB3 : Hid (Below w.heap.size w w1) := (HB.out.trans (((alloc_below wr _).mono HB.out.size).trans ((Buts.grown hgrow).below (fun x hx => (HO2.out.lt x (by simpa using hx)).1) (by have := HB.out.size; rw [alloc_size]; omega)))); clear hown' hgrow))
        go_roundg g'
        case measure => omega
        case rel =>
          refine ⟨i + 1, by omega, by go_num, ?_, HB3⟩
          show Told _ _ _ _
          unfold Told
          rw [HL1.out, ints_app, List.length_append, HM.out]
          have := HO3.out
          unfold wrd at this ⊢
          rw [List.map_append]
          exact this
      · have qf : (s i).2 = false := by simpa using qt
        have HL1 : Hid (listL (i + 1) s = listL i s) := by show _ = _; rw [listL_succ, if_neg qt, List.append_nil]
        rw [qf] at cb
        clear qt qf
        generalize (s i).1 = g at *
        go_wp2
        go_roundg g'
        case measure => omega
        case rel => exact ⟨i + 1, by omega, by go_num, by rw [HL1.out]; exact HO, HB⟩
end Go.Proofs.YtkogmmldkpepaaaDoor
