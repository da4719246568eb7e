/- Alarms: one contract for each call. -/
import Derived.Test.YtciafjmljmeimaaDoorAl
namespace Go.Proofs.YtciafjmljmeimaaDoor
open Go Go.RowKit
set_option maxRecDepth 100000
set_option linter.unusedVariables false
set_option linter.unusedSimpArgs false
theorem anew_any (w : World) (B : Nat) (hB : B ≤ w.heap.size) : Calls Tryd.prog 5 #[] w fun e w' => ∃ p mb tb, e = .returned (.pointer (some ⟨p, 0, none⟩)) ∧ Al B w' p mb tb 0 (.slice none 0 0) [] ∧ Below w.heap.size w w' ∧ w.heap.size ≤ p ∧ w.heap.size ≤ mb ∧ w.heap.size ≤ tb := by
  have hmm := @run_makeMap Tryd.prog
  have HB : Hid (B ≤ w.heap.size) := hB
  have HN : Hid (Calls Tryd.prog 18 #[] (w.alloc (.map #[] 0)) fun e w' => ∃ tb, e = .returned (.pointer (some ⟨tb, 0, none⟩)) ∧ Lst B w' tb (.slice none 0 0) [] ∧ Below (w.heap.size + 1) (w.alloc (.map #[] 0)) w' ∧ w.heap.size ≤ tb) := by
    have := new_any (w.alloc (.map #[] 0)) B (by rw [alloc_size]; omega)
    rw [alloc_size] at this
    refine this.mono ?_
    rintro e w' ⟨rfl, h1, h2⟩
    exact ⟨_, rfl, h1, h2, by omega⟩
  clear hB
  go_enter Tryd.func5, Tryd.ntmps5
  go_wp2_with (go_at_call 18; refine HN.out.mono ?_; rintro e w1 ⟨tb, rfl, hl, hb, ht⟩; have HL : Hid (Lst B w1 tb (.slice none 0 0) [] ∧ Below (w.heap.size + 1) (w.alloc (.map #[] 0)) w1 ∧ w.heap.size ≤ tb) := ⟨hl, hb, ht⟩; clear hl hb ht)
  go_ret
  obtain ⟨hl, hb, ht⟩ := HL.out
  have hs := hb.size
  rw [alloc_size] at hs
  have hb0 : Below w.heap.size w w1 := (alloc_below w (.map #[] 0)).trans (hb.mono (by omega))
  refine ⟨w1.heap.size, w.heap.size, tb, rfl, ⟨⟨alloc_at w1 _, ⟨by have := HB.out; omega, HB.out⟩, ?_, hl.below (alloc_below _ _)⟩, Fine.nil⟩, hb0.trans ((alloc_below w1 _).mono hb0.size), hb0.size, Nat.le_refl _, ht⟩
  have := (EMp.made w).buts (l := []) (w' := w1) ⟨hb.os, hb.tape, hb.output, hb.size, fun k hk _ => hb.block k (by rw [alloc_size] at hk; exact hk)⟩ (by simp)
  exact this.below (alloc_below _ _)
theorem athere_yes {w : World} {p tb : Nat} (c1 : w.cell? ⟨p, 1, none⟩ = some (.pointer (some ⟨tb, 0, none⟩))) : Calls Tryd.prog 22 #[.pointer (some ⟨p, 0, none⟩)] w fun e w' => e = .returned (.bool true) ∧ w = w' := by
  go_enter Tryd.func22, Tryd.ntmps22
  go_wp2
  go_ret
  exact ⟨rfl, rfl⟩
theorem athere_no (w : World) : Calls Tryd.prog 22 #[.pointer none] w fun e w' => e = .returned (.bool false) ∧ w = w' := by
  go_enter Tryd.func22, Tryd.ntmps22
  go_wp2
  go_ret
  exact ⟨rfl, rfl⟩
set_option maxHeartbeats 1000000 in
theorem amay_no (w : World) (who i e : Int) : Calls Tryd.prog 19 #[.pointer none, .int .i64 who, .int .i64 i, .int .i64 e] w fun x w' => x = .returned (.int .i64 2) ∧ w = w' := by
  go_enter Tryd.func19, Tryd.ntmps19
  go_wp2_with (go_at_call 22; refine (athere_no _).mono ?_; rintro x w' ⟨rfl, rfl⟩)
  go_ret
  exact ⟨rfl, rfl⟩
set_option maxHeartbeats 4000000 in
theorem amay_is {w : World} {p tb : Nat} (c1 : w.cell? ⟨p, 1, none⟩ = some (.pointer (some ⟨tb, 0, none⟩))) (who i e : Int) :
    Calls Tryd.prog 19 #[.pointer (some ⟨p, 0, none⟩), .int .i64 who, .int .i64 i, .int .i64 e] w fun x w' => x = .returned (.int .i64 (startE who i e)) ∧ w = w' := by
  by_cases h1 : who < 0
  · have ee : startE who i e = 1 := by simp [startE, h1]
    rw [ee]
    clear ee
    go_enter Tryd.func19, Tryd.ntmps19
    go_wp2_with (go_at_call 22; refine (athere_yes c1).mono ?_; rintro x w' ⟨rfl, rfl⟩)
    go_ret
    exact ⟨rfl, rfl⟩
  · by_cases hb : badT i e
    · have ee : startE who i e = 4 := by simp [startE, h1, hb]
      rw [ee]
      clear ee
      by_cases h2 : i < 1
      · clear hb
        go_enter Tryd.func19, Tryd.ntmps19
        go_wp2_with (go_at_call 22; refine (athere_yes c1).mono ?_; rintro x w' ⟨rfl, rfl⟩)
        go_ret
        exact ⟨rfl, rfl⟩
      · by_cases h3 : 1073741824 < i
        · clear hb
          go_enter Tryd.func19, Tryd.ntmps19
          go_wp2_with (go_at_call 22; refine (athere_yes c1).mono ?_; rintro x w' ⟨rfl, rfl⟩)
          go_ret
          exact ⟨rfl, rfl⟩
        · by_cases h4 : e < 0
          · clear hb
            go_enter Tryd.func19, Tryd.ntmps19
            go_wp2_with (go_at_call 22; refine (athere_yes c1).mono ?_; rintro x w' ⟨rfl, rfl⟩)
            go_ret
            exact ⟨rfl, rfl⟩
          · have h5 : 1073741824 < e := by unfold badT at hb; omega
            clear hb
            go_enter Tryd.func19, Tryd.ntmps19
            go_wp2_with (go_at_call 22; refine (athere_yes c1).mono ?_; rintro x w' ⟨rfl, rfl⟩)
            go_ret
            exact ⟨rfl, rfl⟩
    · have ee : startE who i e = 0 := by simp [startE, h1, hb]
      rw [ee]
      have h2 : ¬ i < 1 := fun h => hb (Or.inl h)
      have h3 : ¬ 1073741824 < i := fun h => hb (Or.inr (Or.inl h))
      have h4 : ¬ e < 0 := fun h => hb (Or.inr (Or.inr (Or.inl h)))
      have h5 : ¬ 1073741824 < e := fun h => hb (Or.inr (Or.inr (Or.inr h)))
      clear ee hb
      go_enter Tryd.func19, Tryd.ntmps19
      go_wp2_with (go_at_call 22; refine (athere_yes c1).mono ?_; rintro x w' ⟨rfl, rfl⟩)
      go_ret
      exact ⟨rfl, rfl⟩
theorem hasP_pr (zs : List Alm) (who : Int) : hasP (pr zs) who = has (two zs) who := by
  unfold hasP has pr two
  rw [List.any_map, List.any_map]
  rfl
set_option maxHeartbeats 1000000 in
theorem stop_is {B : Nat} {w : World} {p mb tb n : Nat} {v : Value} {zs : List Alm} (h : Al B w p mb tb n v zs) {who : Int} (hs : S64 who) :
    Calls Tryd.prog 9 #[.pointer (some ⟨p, 0, none⟩), .int .i64 who] w fun e w' => e = .returned (.int .i64 (stopE zs who)) ∧ NxL B w w' p mb tb n v (off zs who) := by
  have HL : Hid (Al B w p mb tb n v zs) := h
  have HS : Hid (S64 who) := hs
  have c0 := h.ax.c0
  have c1 := h.ax.c1
  have C1 : Hid (w.cell? ⟨p, 1, none⟩ = some (.pointer (some ⟨tb, 0, none⟩))) := c1
  by_cases hh : has (two zs) who = true
  · have e : stopE zs who = 0 := by simp [stopE, hh]
    rw [e]
    have HP : Hid (hasP (pr zs) who = true) := (hasP_pr zs who).trans hh
    have HR : Hid (∀ w1, EMp w1 mb n ((pr zs).filter (fun p => decide (p.1 ≠ who))) → Buts [mb] w w1 → Calls Tryd.prog 23 #[.pointer (some ⟨tb, 0, none⟩), .int .i64 who] w1 fun e w' => ∃ z, e = .returned (.int .i64 z) ∧ NxL B w w' p mb tb n v (off zs who)) := fun w1 he hb => by
      refine (remove_is (HL.out.ax.kept hb) who).mono ?_
      rintro e w' ⟨rfl, hn⟩
      rw [← two_off] at hn
      exact ⟨_, rfl, (HL.out.ax.done hb he hn).al (fun x => by rw [pr_off]) rfl (HL.out.fine.off who)⟩
    clear h hs hh e
    go_enter Tryd.func9, Tryd.ntmps9
    go_wp2_with (first
      | (go_at_call 22; refine (athere_yes C1.out).mono ?_; rintro e w' ⟨rfl, rfl⟩)
      | (at_lookup; refine wpList_look_em rfl _ _ rfl HL.out.ax.em rfl rfl HS.out ?_; intro c; rw [HP.out])
      | (at_delete; refine wpList_del_em rfl _ _ rfl HL.out.ax.em rfl rfl HS.out ?_; intro w1 HE HB; have k1 := (HL.out.ax.turn HB.out HE.out).c1; have HC := HR.out w1 HE.out HB.out; have HD : Hid (Calls Tryd.prog 23 #[.pointer (some ⟨tb, 0, none⟩), .int .i64 who] w1 fun e w' => ∃ z, e = .returned (.int .i64 z) ∧ NxL B w w' p mb tb n v (off zs who)) := HC; clear HC)
      | (go_at_call 23; refine HD.out.mono ?_; rintro e w2 ⟨z, rfl, hn⟩; have HN : Hid (NxL B w w2 p mb tb n v (off zs who)) := hn; clear hn))
    go_ret
    exact ⟨rfl, HN.out⟩
  · have hh' : has (two zs) who = false := by simpa using hh
    have e : stopE zs who = 7 := by simp [stopE, hh']
    have HP : Hid (hasP (pr zs) who = false) := (hasP_pr zs who).trans hh'
    rw [e, off_not hh']
    clear h hs hh hh' e
    go_enter Tryd.func9, Tryd.ntmps9
    go_wp2_with (first
      | (go_at_call 22; refine (athere_yes C1.out).mono ?_; rintro e w' ⟨rfl, rfl⟩)
      | (at_lookup; refine wpList_look_em rfl _ _ rfl HL.out.ax.em rfl rfl HS.out ?_; intro c; rw [HP.out]))
    go_ret
    exact ⟨rfl, HL.out.next (Below.refl _ _)⟩
set_option maxHeartbeats 1000000 in
theorem aleft_is {B : Nat} {w : World} {p mb tb n : Nat} {v : Value} {zs : List Alm} (h : Al B w p mb tb n v zs) (who : Int) :
    Calls Tryd.prog 15 #[.pointer (some ⟨p, 0, none⟩), .int .i64 who] w fun e w' => e = .returned (.int .i64 (leftA zs who)) ∧ Below w.heap.size w w' := by
  have c1 := h.ax.c1
  have C1 : Hid (w.cell? ⟨p, 1, none⟩ = some (.pointer (some ⟨tb, 0, none⟩))) := c1
  have HT : Hid (Calls Tryd.prog 27 #[.pointer (some ⟨tb, 0, none⟩), .int .i64 who] w fun e w' => e = .returned (.tuple #[.int .i64 (leftA zs who), .int .i64 (remE (two zs) who)]) ∧ Below w.heap.size w w') := left_is h.ax.ls who
  generalize leftA zs who = z at *
  generalize remE (two zs) who = y at *
  clear h
  go_enter Tryd.func15, Tryd.ntmps15
  go_wp2_with (first
    | (go_at_call 22; refine (athere_yes C1.out).mono ?_; rintro e w' ⟨rfl, rfl⟩)
    | (go_at_call 27; refine HT.out.mono ?_; rintro e w1 ⟨rfl, hb⟩; have HB : Hid (Below w.heap.size w w1) := hb; clear hb))
  go_ret
  exact ⟨rfl, HB.out⟩
theorem aleft_no (w : World) (who : Int) : Calls Tryd.prog 15 #[.pointer none, .int .i64 who] w fun e w' => e = .returned (.int .i64 0) ∧ w = w' := by
  go_enter Tryd.func15, Tryd.ntmps15
  go_wp2_with (go_at_call 22; refine (athere_no _).mono ?_; rintro x w' ⟨rfl, rfl⟩)
  go_ret
  exact ⟨rfl, rfl⟩
theorem start_no (w : World) (who i e : Int) : Calls Tryd.prog 7 #[.pointer none, .int .i64 who, .int .i64 i, .int .i64 e] w fun x w' => x = .returned (.int .i64 2) ∧ w = w' := by
  go_enter Tryd.func7, Tryd.ntmps7
  go_wp2_with (go_at_call 19; refine (amay_no _ _ _ _).mono ?_; rintro x w' ⟨rfl, rfl⟩)
  go_ret
  exact ⟨rfl, rfl⟩
theorem put_clear {ys : List (Int × Int)} {who i : Int} (h0 : 0 ≤ who) (h1 : 1 ≤ i) (h2 : i ≤ 1073741824) (hn : has ys who = false) : putL ys who i = ys ++ [(who, i)] := by
  have : ¬ badArg who i := by unfold badArg; omega
  simp [putL, this, hn]
set_option maxHeartbeats 1000000 in
theorem start_is {B : Nat} {w : World} {p mb tb n : Nat} {v : Value} {zs : List Alm} (h : Al B w p mb tb n v zs) {who : Int} (hs : S64 who) (i e : Int) (hl : zs.length < 1000) (hn : n ≤ 100000) (hB : B ≤ w.heap.size) :
    Calls Tryd.prog 7 #[.pointer (some ⟨p, 0, none⟩), .int .i64 who, .int .i64 i, .int .i64 e] w fun x w' => x = .returned (.int .i64 (startE who i e)) ∧ NxL B w w' p mb tb (n + 1) v (startL zs who i e) := by
  have HM : Hid (Calls Tryd.prog 19 #[.pointer (some ⟨p, 0, none⟩), .int .i64 who, .int .i64 i, .int .i64 e] w fun x w' => x = .returned (.int .i64 (startE who i e)) ∧ w = w') := amay_is h.ax.c1 who i e
  by_cases he : startE who i e = 0
  · have h0 : ¬ who < 0 := fun c => by simp [startE, c] at he
    have h1 : ¬ badT i e := fun c => by simp [startE, h0, c] at he
    have hL : startL zs who i e = off zs who ++ [(who, i, e)] := by simp [startL, he]
    have hw0 : 0 ≤ who := by omega
    have hi1 : 1 ≤ i := by unfold badT at h1; omega
    have hi2 : i ≤ 1073741824 := by unfold badT at h1; omega
    have he1 : 0 ≤ e := by unfold badT at h1; omega
    have he2 : e ≤ 1073741824 := by unfold badT at h1; omega
    have HF : Hid (Fine (startL zs who i e)) := h.fine.start (by have := hs.2; omega)
    have HE : Hid (S64 who ∧ S64 e) := ⟨hs, by unfold S64; omega⟩
    have HST : Hid (Calls Tryd.prog 9 #[.pointer (some ⟨p, 0, none⟩), .int .i64 who] w fun x w' => ∃ (z : Int) (v' : Value), x = .returned (.int .i64 z) ∧ Al B w' p mb tb n v' (off zs who) ∧ Buts (pts mb tb v) w w' ∧ ∀ g, v'.ownBlock = some g → v.ownBlock = some g ∨ w.heap.size ≤ g) := by
      refine (stop_is h hs).mono ?_
      rintro x w' ⟨rfl, v', h1, h2, h3⟩
      exact ⟨_, v', rfl, h1, h2, h3⟩
    have HPT : Hid (∀ (w1 w2 : World) (v' : Value), Al B w1 p mb tb n v' (off zs who) → Buts (pts mb tb v) w w1 → (∀ g, v'.ownBlock = some g → v.ownBlock = some g ∨ w.heap.size ≤ g) → EMp w2 mb (n + 1) ((pr (off zs who)).filter (fun p => decide (p.1 ≠ who)) ++ [(who, e)]) → Buts [mb] w1 w2 →
        Calls Tryd.prog 20 #[.pointer (some ⟨tb, 0, none⟩), .int .i64 who, .int .i64 i] w2 fun x w' => ∃ z : Int, x = .returned (.int .i64 z) ∧ NxL B w w' p mb tb (n + 1) v (startL zs who i e)) := fun w1 w2 v' ha hb hv hem hb2 => by
      refine (put_is (ha.ax.kept hb2) who i (by rw [two_len]; have := off_len zs who; omega) (by have := hb.size; have := hb2.size; omega)).mono ?_
      rintro x w' ⟨rfl, hnt⟩
      rw [put_clear hw0 hi1 hi2 (has_off zs who)] at hnt
      refine ⟨_, rfl, NxA.al (NxA.trans hb hv (ha.ax.done hb2 hem hnt)) (fun x => ?_) ?_ HF.out⟩
      · rw [hL, pr_app, pr_off, List.filter_filter]
        simp [pr, we]
      · rw [hL, two_app]
        rfl
    rw [he] at HM ⊢
    clear h hs hl hB he h0 h1 hL hw0 hi1 hi2 he1 he2
    have HNN : Hid (n ≤ 100000) := hn
    clear hn
    go_enter Tryd.func7, Tryd.ntmps7
    go_wp2_with (first
      | (go_at_call 19; refine HM.out.mono ?_; rintro x w' ⟨rfl, rfl⟩)
      | (go_at_call 9; refine HST.out.mono ?_; rintro x w1 ⟨z1, v1, rfl, ha, hb, hv⟩; have k0 := ha.ax.c0; have HA1 : Hid (Al B w1 p mb tb n v1 (off zs who) ∧ Buts (pts mb tb v) w w1 ∧ ∀ g, v1.ownBlock = some g → v.ownBlock = some g ∨ w.heap.size ≤ g) := ⟨ha, hb, hv⟩; clear ha hb hv HST)
      | (at_mapUpdate; refine wpList_put_em rfl _ _ _ rfl HA1.out.1.ax.em HNN.out rfl rfl rfl HE.out.1 HE.out.2 ?_; intro w2 HM2 HB2; have k1 := (HA1.out.1.ax.turn HB2.out HM2.out).c1; have HC := HPT.out w1 w2 v1 HA1.out.1 HA1.out.2.1 HA1.out.2.2 HM2.out HB2.out; have HD : Hid (Calls Tryd.prog 20 #[.pointer (some ⟨tb, 0, none⟩), .int .i64 who, .int .i64 i] w2 fun x w' => ∃ z : Int, x = .returned (.int .i64 z) ∧ NxL B w w' p mb tb (n + 1) v (startL zs who i e)) := HC; clear HC)
      | (go_at_call 20; refine HD.out.mono ?_; rintro x w3 ⟨z2, rfl, hn⟩; have HN : Hid (NxL B w w3 p mb tb (n + 1) v (startL zs who i e)) := hn; clear hn))
    go_ret
    exact ⟨rfl, HN.out⟩
  · have hL : startL zs who i e = zs := by simp [startL, he]
    have HL : Hid (Al B w p mb tb n v zs) := h
    rw [hL]
    obtain ⟨z, hz⟩ : ∃ z, startE who i e = z := ⟨_, rfl⟩
    rw [hz] at HM he ⊢
    clear h hs hl hB hL hz hn
    go_enter Tryd.func7, Tryd.ntmps7
    go_wp2_with (go_at_call 19; refine HM.out.mono ?_; rintro x w' ⟨rfl, rfl⟩)
    go_ret
    exact ⟨rfl, (HL.out.mono (Nat.le_succ n)).next (Below.refl _ _)⟩
set_option maxHeartbeats 2000000 in
/-- what becomes of those that come -/
theorem come_is {B : Nat} {w : World} {p mb tb n : Nat} {v : Value} {zs : List Alm} (h : Ax B w p mb tb n v (pr zs) (two (stay zs))) (hf : Fine zs) (hlen : zs.length ≤ 1000) (hB : B ≤ w.heap.size) {sp : Option Addr} {cap m : Nat} (hm : (due zs).length = m) {g : Nat}
    (hsp : 0 < m → sp = some ⟨g, 0, none⟩) (hcs : ∀ k, k < m → w.cell? ⟨g, k, none⟩ = some (.int .i64 ((due zs).getD k (0, 0, 0)).1)) (hg : g < w.heap.size) (hgn : g ∉ pts mb tb v) :
    Calls Tryd.prog 25 #[.pointer (some ⟨p, 0, none⟩), .slice sp m cap] w fun x w' => x = .returned (.tuple #[]) ∧ NxL B w w' p mb tb n v (tickL zs) := by
  have HX : Hid (NxA B w w p mb tb n v (pr (mid zs 0 ++ (due zs).drop 0)) (two (mid zs 0))) := by
    rw [mid_zero]
    have := (h.congr (qs := pr (mid zs 0 ++ (due zs).drop 0)) (pr_start zs)).next (Below.refl w.heap.size w)
    rw [mid_zero] at this
    exact this
  have HCS : Hid (∀ k, k < m → w.cell? ⟨g, k, none⟩ = some (.int .i64 ((due zs).getD k (0, 0, 0)).1)) := hcs
  have HG : Hid (g < w.heap.size ∧ g ∉ pts mb tb v) := ⟨hg, hgn⟩
  have HF : Hid (Fine zs) := hf
  have HM : Hid ((due zs).length = m) := hm
  have HLN : Hid (zs.length ≤ 1000 ∧ B ≤ w.heap.size) := ⟨hlen, hB⟩
  clear h hcs hg hgn hf hlen hB
  have hmm : m ≤ 1000 := by have := due_len zs; have := HLN.out; omega
  clear hm
  go_enter Tryd.func25, Tryd.ntmps25
  go_wp2
  go_loopg [5, 6, 9] m (fun gk s5 s6 s9 wx => ∃ i : Nat, i + gk = m ∧ s9 = .int .i64 (i : Int) ∧ Hid (NxA B w wx p mb tb n v (pr (mid zs i ++ (due zs).drop i)) (two (mid zs i))))
  case atStart => exact ⟨0, by omega, rfl, HX.out⟩
  case round =>
    obtain ⟨i, hig, rfl, HN⟩ := hrel
    cases gk with
    | zero =>
      obtain rfl : i = m := by omega
      have hlt : ¬ ((i : Int) < i) := by omega
      go_wp2
      go_end0
      refine ⟨rfl, NxA.al HN.out (fun x => ?_) ?_ HF.out.tick⟩
      · rw [← HM.out, List.drop_length, List.append_nil, mid_all]
      · rw [← HM.out, mid_all]
    | succ g' =>
      have hlt : (i : Int) < m := by omega
      have him : i < m := by omega
      obtain rfl := hsp (by omega)
      obtain ⟨v1, hx, hb, hv⟩ := HN.out
      have c0 := hx.c0
      have c1 := hx.c1
      have d0 := HCS.out i him
      have dw : wr.cell? ⟨g, i, none⟩ = w.cell? ⟨g, i, none⟩ := by
        have := hb.block g HG.out.1 HG.out.2
        simp [World.cell?, this]
      rw [← dw] at d0
      obtain ⟨q, hq⟩ : ∃ q, (due zs)[i]? = some q := ⟨_, List.getElem?_eq_getElem (by rw [HM.out]; exact him)⟩
      have hqd : (due zs).getD i (0, 0, 0) = q := by rw [List.getD_eq_getElem?_getD, hq]; rfl
      rw [hqd] at d0
      have hql := List.mem_filter.1 (List.mem_of_getElem? hq)
      have hfa := HF.out.all hql.1
      have hin : (q.1, q.2.2) ∈ pr (mid zs i ++ (due zs).drop i) := by
        obtain ⟨hi', e'⟩ := List.getElem?_eq_some_iff.1 hq
        rw [pr_app, List.drop_eq_getElem_cons hi', e']
        simp [pr, we]
      have HPT : Hid (0 < q.2.2 → Calls Tryd.prog 20 #[.pointer (some ⟨tb, 0, none⟩), .int .i64 q.1, .int .i64 q.2.2] wr fun x w' => ∃ z : Int, x = .returned (.int .i64 z) ∧ NxA B w w' p mb tb n v (pr (mid zs (i + 1) ++ (due zs).drop (i + 1))) (two (mid zs (i + 1)))) := fun h0 => by
        have hlm : (two (mid zs i)).length < 1000 := by
          rw [two_len]
          have h1 := mid_len zs i
          rw [List.length_drop, HM.out] at h1
          have := HLN.out.1
          omega
        refine (put_is hx.ls q.1 q.2.2 hlm (by have := hb.size; have := HLN.out.2; omega)).mono ?_
        rintro x w' ⟨rfl, hnt⟩
        rw [put_clear hfa.1 (by omega) hfa.2.2.2.2.2 (mid_not HF.out.ids hq)] at hnt
        refine ⟨_, rfl, ?_⟩
        rw [pr_again hq h0, mid_succ zs i q hq, if_pos h0, two_app]
        exact NxA.trans hb hv (hx.done (Buts.refl _ _) hx.em hnt)
      have HDL : Hid (¬ 0 < q.2.2 → ∀ w1, EMp w1 mb n ((pr (mid zs i ++ (due zs).drop i)).filter (fun p => decide (p.1 ≠ q.1))) → Buts [mb] wr w1 → NxA B w w1 p mb tb n v (pr (mid zs (i + 1) ++ (due zs).drop (i + 1))) (two (mid zs (i + 1)))) := fun h0 w1 he hb1 => by
        rw [show two (mid zs (i + 1)) = two (mid zs i) by rw [mid_succ zs i q hq, if_neg h0, List.append_nil]]
        exact NxA.trans hb hv ⟨v1, (hx.turn hb1 he).congr (pr_once HF.out.ids hq h0), hb1.mono (by simp [pts]), fun g hg => Or.inl hg⟩
      have HEM : Hid (EMp wr mb n (pr (mid zs i ++ (due zs).drop i))) := hx.em
      have HIN : Hid ((q.1, q.2.2) ∈ pr (mid zs i ++ (due zs).drop i)) := hin
      have HS : Hid (S64 q.1) := by show S64 q.1; unfold S64; omega
      clear hx hb hv dw hq hqd hql hfa hin hsp
      obtain ⟨a, t, e⟩ := q
      simp only at d0 HPT HDL HIN HS
      by_cases h0 : 0 < e
      · have HPC : Hid (Calls Tryd.prog 20 #[.pointer (some ⟨tb, 0, none⟩), .int .i64 a, .int .i64 e] wr fun x w' => ∃ z : Int, x = .returned (.int .i64 z) ∧ NxA B w w' p mb tb n v (pr (mid zs (i + 1) ++ (due zs).drop (i + 1))) (two (mid zs (i + 1)))) := HPT.out h0
        clear HPT HDL
        go_wp2_with (first
          | (at_lookup; refine wpList_at_em rfl _ _ rfl HEM.out rfl rfl HIN.out ?_)
          | (go_at_call 20; refine HPC.out.mono ?_; rintro x w1 ⟨z1, rfl, hn⟩; have HN1 : Hid (NxA B w w1 p mb tb n v (pr (mid zs (i + 1) ++ (due zs).drop (i + 1))) (two (mid zs (i + 1)))) := hn; clear hn))
        go_roundg g'
        case measure => omega
        case rel => exact ⟨i + 1, by omega, by go_num, HN1.out⟩
      · have HDC := HDL.out h0
        have HDD : Hid (∀ w1, EMp w1 mb n ((pr (mid zs i ++ (due zs).drop i)).filter (fun p => decide (p.1 ≠ a))) → Buts [mb] wr w1 → NxA B w w1 p mb tb n v (pr (mid zs (i + 1) ++ (due zs).drop (i + 1))) (two (mid zs (i + 1)))) := HDC
        clear HPT HDL HDC
        go_wp2_with (first
          | (at_lookup; refine wpList_at_em rfl _ _ rfl HEM.out rfl rfl HIN.out ?_)
          | (at_delete; refine wpList_del_em rfl _ _ rfl HEM.out rfl rfl HS.out ?_; intro w1 HE HB1; have HN1 : Hid (NxA B w w1 p mb tb n v (pr (mid zs (i + 1) ++ (due zs).drop (i + 1))) (two (mid zs (i + 1)))) := HDD.out w1 HE.out HB1.out))
        go_roundg g'
        case measure => omega
        case rel => exact ⟨i + 1, by omega, by go_num, HN1.out⟩
set_option maxHeartbeats 1000000 in
theorem atick_is {B : Nat} {w : World} {p mb tb n : Nat} {v : Value} {zs : List Alm} (h : Al B w p mb tb n v zs) (hB : B ≤ w.heap.size) :
    Calls Tryd.prog 11 #[.pointer (some ⟨p, 0, none⟩)] w fun x w' => ∃ us uc, x = .returned (.slice us (due zs).length uc) ∧ w'.ownsRow w.heap.size 3 1 (.slice us (due zs).length uc) (due zs).length (num ((due zs).map Prod.fst)) ∧ NxL B w w' p mb tb n v (tickL zs) := by
  have HL : Hid (Al B w p mb tb n v zs) := h
  have c1 := h.ax.c1
  have HT : Hid (Calls Tryd.prog 24 #[.pointer (some ⟨tb, 0, none⟩)] w fun x w' => ∃ us uc, x = .returned (.slice us (due zs).length uc) ∧ w'.ownsRow w.heap.size 3 1 (.slice us (due zs).length uc) (due zs).length (num ((due zs).map Prod.fst)) ∧ Nt B w w' tb v (two (stay zs))) := by
    refine (tick_is h.ax.ls hB).mono ?_
    rintro x w' ⟨u, rfl, hr, _, hn⟩
    rw [two_woke, List.length_map] at hr
    rw [← two_rest] at hn
    obtain ⟨us, uc, e, _⟩ := own_form hr
    subst e
    exact ⟨us, uc, rfl, hr, hn⟩
  have HB : Hid (B ≤ w.heap.size) := hB
  have HC : Hid (∀ (w1 : World) (us : Option Addr) (uc : Nat), w1.ownsRow w.heap.size 3 1 (.slice us (due zs).length uc) (due zs).length (num ((due zs).map Prod.fst)) → Nt B w w1 tb v (two (stay zs)) →
      Calls Tryd.prog 25 #[.pointer (some ⟨p, 0, none⟩), .slice us (due zs).length uc] w1 fun x w' => x = .returned (.tuple #[]) ∧ w'.ownsRow w.heap.size 3 1 (.slice us (due zs).length uc) (due zs).length (num ((due zs).map Prod.fst)) ∧ NxL B w w' p mb tb n v (tickL zs)) := fun w1 us uc hr hn => by
    obtain ⟨v1, hx, hb, hv⟩ := HL.out.ax.done (Buts.refl _ _) HL.out.ax.em hn
    have hkeep : ∀ g, (Value.slice us (due zs).length uc).ownBlock = some g → g ∉ pts mb tb v1 := by
      intro g hg hm
      have h1 := (hr.lt g hg).1
      rcases mem_pts.1 hm with e | e | e
      · subst e
        have := HL.out.ax.em.lt
        omega
      · subst e
        have := at_lt HL.out.ax.ls.ch.head
        omega
      · exact own_ne hr hg hx.ls.ch.own e (by decide) rfl
    have hfin : ∀ (x : Ending) (w' : World), (x = .returned (.tuple #[]) ∧ NxL B w1 w' p mb tb n v1 (tickL zs)) → x = .returned (.tuple #[]) ∧ w'.ownsRow w.heap.size 3 1 (.slice us (due zs).length uc) (due zs).length (num ((due zs).map Prod.fst)) ∧ NxL B w w' p mb tb n v (tickL zs) := by
      rintro x w' ⟨rfl, v2, ha, hb2, hv2⟩
      refine ⟨rfl, owns_buts hr hb2 hkeep, ?_⟩
      exact NxA.al (NxA.trans hb hv ⟨v2, ha.ax, hb2, hv2⟩) (fun x => Iff.rfl) rfl ha.fine
    have hsz := hb.size
    by_cases h0 : 0 < (due zs).length
    · obtain ⟨g, cap, e, _⟩ := owns_spot hr h0
      simp only [Value.slice.injEq] at e
      obtain ⟨rfl, _, rfl⟩ := e
      refine (come_is hx HL.out.fine HL.out.len (by have := HB.out; omega) rfl (g := g) (fun _ => rfl) (fun k hk => ?_) (hr.lt g rfl).2 (hkeep g rfl)).mono hfin
      have := hr.cellAt k (by omega)
      rw [this, num_at _ _ (by rw [List.length_map]; exact hk)]
      congr 2
      rw [List.getD_eq_getElem?_getD, List.getD_eq_getElem?_getD, List.getElem?_map, List.getElem?_eq_getElem hk]
      rfl
    · refine (come_is hx HL.out.fine HL.out.len (by have := HB.out; omega) rfl (g := p) (fun h => absurd h h0) (fun k hk => absurd hk (by omega)) (at_lt hx.blk) (fun hm => ?_)).mono hfin
      rcases mem_pts.1 hm with e | e | e
      · exact hx.mp e.symm
      · exact hx.tp e
      · exact hx.pv e rfl
  clear h hB
  generalize hm : (due zs).length = m at HT HC ⊢
  generalize num ((due zs).map Prod.fst) = N at HT HC ⊢
  have HN2 : Hid (Nt B w w tb v (two zs)) := HL.out.ax.ls.next (Below.refl _ _)
  clear hm
  go_enter Tryd.func11, Tryd.ntmps11
  go_wp2_with (first
    | (go_at_call 22; refine (athere_yes c1).mono ?_; rintro x w' ⟨rfl, rfl⟩)
    | (go_at_call 24; refine HT.out.mono ?_; rintro x w1 ⟨us, uc, rfl, hr, hn⟩; have HC1 := HC.out w1 us uc hr hn; have HC2 : Hid (Calls Tryd.prog 25 #[.pointer (some ⟨p, 0, none⟩), .slice us m uc] w1 fun x w' => x = .returned (.tuple #[]) ∧ w'.ownsRow w.heap.size 3 1 (.slice us m uc) m N ∧ NxL B w w' p mb tb n v (tickL zs)) := HC1; clear hr hn HC1)
    | (go_at_call 25; refine HC2.out.mono ?_; rintro x w2 ⟨rfl, hr, hn⟩; have HN : Hid (w2.ownsRow w.heap.size 3 1 (.slice us m uc) m N ∧ NxL B w w2 p mb tb n v (tickL zs)) := ⟨hr, hn⟩; clear hr hn))
  go_ret
  exact ⟨us, uc, rfl, HN.out⟩
end Go.Proofs.YtciafjmljmeimaaDoor
