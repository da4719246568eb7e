/- The document's own list: Put, Remove, Left. -/
import Derived.Test.YtdifgjioaikchaaDoorRefMem
namespace Go.Proofs.YtdifgjioaikchaaDoor
open Go Go.RowKit
set_option maxRecDepth 100000
set_option linter.unusedVariables false
set_option linter.unusedSimpArgs false
theorem has_of {ys : List (Int × Int)} {who : Int} {k : Nat} (hk : k < ys.length) (e : (ys.getD k (0, 0)).1 = who) : has ys who = true := has_yes.2 ⟨_, getD_mem hk, e⟩
theorem has_not {ys : List (Int × Int)} {who : Int} (h : ∀ k, k < ys.length → (ys.getD k (0, 0)).1 ≠ who) : has ys who = false := has_no.2 fun y hy => by
  obtain ⟨i, hi, e⟩ := List.getElem_of_mem hy
  have := h i hi
  rw [List.getD_eq_getElem?_getD, List.getElem?_eq_getElem hi, Option.getD_some, e] at this
  exact this
theorem rat_yes {B : Nat} {w : World} {q : Nat} {v : Value} {ys : List (Int × Int)} (h : Ref B w q v ys) {who : Int} (hh : has ys who = true) :
    Calls Tryd.prog 20 #[.pointer (some ⟨q, 0, none⟩), .int .i64 who] w fun e w' => ∃ k : Nat, k < ys.length ∧ (ys.getD k (0, 0)).1 = who ∧ e = .returned (.int .i64 (k : Int)) ∧ w = w' := by
  refine (rat_any h who).mono ?_
  rintro e w' ⟨⟨k, hk, hw, rfl⟩ | ⟨hn, _⟩, hww⟩
  · exact ⟨k, hk, hw, rfl, hww⟩
  · rw [has_not hn] at hh; cases hh
theorem rat_no {B : Nat} {w : World} {q : Nat} {v : Value} {ys : List (Int × Int)} (h : Ref B w q v ys) {who : Int} (hh : has ys who = false) :
    Calls Tryd.prog 20 #[.pointer (some ⟨q, 0, none⟩), .int .i64 who] w fun e w' => e = .returned (.int .i64 (-1)) ∧ w = w' := by
  refine (rat_any h who).mono ?_
  rintro e w' ⟨⟨k, hk, hw, rfl⟩ | ⟨hn, he⟩, hww⟩
  · rw [has_of hk hw] at hh; cases hh
  · exact ⟨he, hww⟩
set_option maxHeartbeats 1000000 in
theorem rleft_is {B : Nat} {w : World} {q : Nat} {v : Value} {ys : List (Int × Int)} (h : Ref B w q v ys) (who : Int) :
    Calls Tryd.prog 10 #[.pointer (some ⟨q, 0, none⟩), .int .i64 who] w fun e w' => e = .returned (.tuple #[.int .i64 (leftV ys who), .int .i64 (remE ys who)]) ∧ w = w' := by
  have HL : Hid (Ref B w q v ys) := h
  by_cases hh : has ys who = true
  · have e : remE ys who = 0 := by simp [remE, hh]
    have HH : Hid (has ys who = true) := hh
    rw [e]
    obtain ⟨sp, g, cap, hv, hsp, hgl, hc1, hc2, hcs⟩ := h.seq
    have hlk := h.lnk
    have hlen := h.len
    rw [hv] at hlk
    have HS : Hid (0 < ys.length → sp = some ⟨g, 0, none⟩) := hsp
    have HC : Hid (∀ k, k < ys.length → (ys.getD k (0, 0)).1 = who → w.cell? ⟨g, k * 2 + 1, none⟩ = some (.int .i64 (leftV ys who))) := fun k hk e => by
      rw [← e, leftV_at h.good.keys (getD_mem hk)]; exact (hcs k hk).2
    generalize hz : leftV ys who = z
    rw [hz] at HC
    clear h hh hz e hv hcs hsp hc1 hc2
    have HN : Hid (ys.length = ys.length) := rfl
    obtain ⟨n, hn⟩ : ∃ n, ys.length = n := ⟨_, rfl⟩
    rw [hn] at hlk HC HS hlen
    have HN : Hid (ys.length = n) := hn
    clear hn
    go_enter Tryd.func10, Tryd.ntmps10
    go_wp2_with (go_at_call 20; refine (rat_yes HL.out HH.out).mono ?_; rw [HN.out]; rintro e w1 ⟨k, hk, hw, rfl, rfl⟩; have c1 := HC.out k hk hw; obtain rfl := HS.out (by omega); have a1 : (k : Int) < n := (by omega); have a2 : ¬ ((k : Int) < 0) := (by omega); clear hw)
    go_ret2
    exact ⟨rfl, rfl⟩
  · have hh' : has ys who = false := by simpa using hh
    have e : remE ys who = 1 := by simp [remE, hh']
    have HH : Hid (has ys who = false) := hh'
    rw [e, leftV_no hh']
    clear h hh hh' e
    go_enter Tryd.func10, Tryd.ntmps10
    go_wp2_with (go_at_call 20; refine (rat_no HL.out HH.out).mono ?_; rintro e w1 ⟨rfl, rfl⟩)
    go_ret2
    exact ⟨rfl, rfl⟩
set_option maxHeartbeats 1000000 in
theorem rput_is {B : Nat} {w : World} {q : Nat} {v : Value} {ys : List (Int × Int)} (h : Ref B w q v ys) (who t : Int) (hl : ys.length < 1000) (hB : B ≤ w.heap.size) :
    Calls Tryd.prog 6 #[.pointer (some ⟨q, 0, none⟩), .int .i64 who, .int .i64 t] w fun e w' => e = .returned (.int .i64 (putE ys who t)) ∧ RN B w w' q v (putL ys who t) := by
  have HL : Hid (Ref B w q v ys) := h
  have HB0 : Hid (RN B w w q v ys) := h.next (Below.refl _ _)
  by_cases hb : badArg who t
  · have e : putE ys who t = 1 := by simp [putE, hb]
    have e2 : putL ys who t = ys := by simp [putL, hb]
    rw [e, e2]
    clear h e e2
    by_cases h1 : who < 0
    · clear hb
      go_enter Tryd.func6, Tryd.ntmps6
      go_wp2
      go_ret
      exact ⟨rfl, HB0.out⟩
    · by_cases h2 : t < 1
      · clear hb
        go_enter Tryd.func6, Tryd.ntmps6
        go_wp2
        go_ret
        exact ⟨rfl, HB0.out⟩
      · have h3 : 1073741824 < t := by unfold badArg at hb; omega
        clear hb
        go_enter Tryd.func6, Tryd.ntmps6
        go_wp2
        go_ret
        exact ⟨rfl, HB0.out⟩
  · have a1 : ¬ who < 0 := fun h => hb (Or.inl h)
    have a2 : ¬ t < 1 := fun h => hb (Or.inr (Or.inl h))
    have a3 : ¬ 1073741824 < t := fun h => hb (Or.inr (Or.inr h))
    by_cases hh : has ys who = true
    · have e : putE ys who t = 7 := by simp [putE, hb, hh]
      have e2 : putL ys who t = ys := by simp [putL, hb, hh]
      have HH : Hid (has ys who = true) := hh
      rw [e, e2]
      clear h e e2 hb hh
      go_enter Tryd.func6, Tryd.ntmps6
      go_wp2_with (go_at_call 20; refine (rat_yes HL.out HH.out).mono ?_; rintro e w1 ⟨k, hk, hw, rfl, rfl⟩; have b1 : (0 : Int) ≤ (k : Int) := (by omega); clear hk hw)
      go_ret
      exact ⟨rfl, HB0.out⟩
    · have hh' : has ys who = false := by simpa using hh
      have e : putE ys who t = 0 := by simp [putE, hb, hh']
      have e2 : putL ys who t = ys ++ [(who, t)] := by simp [putL, hb, hh']
      have HH : Hid (has ys who = false) := hh'
      have HG : Hid (Good (ys ++ [(who, t)])) := h.good.put (by omega) (by omega) (by omega) (has_no.1 hh')
      have hlk := h.lnk
      have hfp := h.fp 0
      have HLen : Hid (ys.length < 1000) := hl
      obtain ⟨sp, cap, hv, _⟩ := h.own.form
      subst hv
      rw [e, e2]
      clear h e e2 hb hh hh' HB0
      obtain ⟨n, hn⟩ : ∃ n, ys.length = n := ⟨_, rfl⟩
      rw [hn] at hlk HL hl
      rw [hn]
      have HN : Hid (n = ys.length) := hn.symm
      clear hn
      have HA : Hid (Arg (w.alloc (.cells #[.int .i64 who, .int .i64 t] 60)) w.heap.size (who, t)) := ⟨_, alloc_at w _⟩
      have HO : Hid (OwnS B (w.alloc (.cells #[.int .i64 who, .int .i64 t] 60)) (.slice sp n cap) ys) := HL.out.own.below (alloc_below w _)
      have hBs : B ≤ (w.alloc (.cells #[.int .i64 who, .int .i64 t] 60)).heap.size := by rw [alloc_size]; omega
      have HBs : Hid (B ≤ (w.alloc (.cells #[.int .i64 who, .int .i64 t] 60)).heap.size) := hBs
      have HAB : Hid (Below w.heap.size w (w.alloc (.cells #[.int .i64 who, .int .i64 t] 60))) := alloc_below w _
      clear hBs
      go_enter Tryd.func6, Tryd.ntmps6
      go_wp2_with (first
        | (go_at_call 20; refine (rat_no HL.out HH.out).mono ?_; rintro e w1 ⟨rfl, rfl⟩)
        | (at_builtin; refine wpList_sapp rfl _ _ rfl rfl rfl HO.out HN.out (by omega) HA.out HBs.out ?_; intro g c' w2 HO2 HB2 HG2; have hb2 : Buts (Value.slice sp n cap).ownBlock.toList w w2 := (Buts.of HAB.out).trans HB2.out; have hnq : w2.heap[q]? = some (.cells #[.slice sp n cap] 28 (0, 0)) := (by rw [hb2.block q (at_lt HL.out.head) (fun hm => HL.out.ne (by simpa using hm) rfl)]; exact HL.out.head); have hq0 : w2.cell? ⟨q, 0, none⟩ = some (.slice sp n cap) := (by rw [cell_of hnq]; rfl); have hqf : w2.frozen? ⟨q, 0, none⟩ = false := (by simp [World.frozen?, hnq]); have HB3 : Hid (Buts (Value.slice sp n cap).ownBlock.toList w w2) := hb2; clear hb2 hnq))
      go_ret
      refine ⟨rfl, HL.out.lay HO2.out HB3.out (by have := HLen.out; simp; omega) HG.out (fun g' hg' => ?_)⟩
      obtain rfl : g = g' := by simpa [Value.ownBlock] using hg'
      exact HG2.out.imp id (fun h => by rw [alloc_size] at h; omega)
theorem two_steps {a b c : World} {v : Value} {ds : List (Int × Int)} (h1 : Buts (Value.slice none 0 0).ownBlock.toList a b) (h2 : Buts v.ownBlock.toList b c) (ho : OwnS a.heap.size b v ds) : Below a.heap.size a c :=
  (h1.below (by simp [Value.ownBlock]) (Nat.le_refl _)).trans (h2.below (fun x hx => (ho.lt' (g := x) (by simpa using hx)).1) h1.size)
set_option maxHeartbeats 1000000 in
theorem rremove_is {B : Nat} {w : World} {q : Nat} {v : Value} {ys : List (Int × Int)} (h : Ref B w q v ys) (who : Int) (hB : B ≤ w.heap.size) :
    Calls Tryd.prog 8 #[.pointer (some ⟨q, 0, none⟩), .int .i64 who] w fun e w' => e = .returned (.int .i64 (remE ys who)) ∧ RN B w w' q v (gone ys who) := by
  have HL : Hid (Ref B w q v ys) := h
  by_cases hh : has ys who = true
  · have e : remE ys who = 0 := by simp [remE, hh]
    have HH : Hid (has ys who = true) := hh
    rw [e]
    have hlen := h.len
    have hpos : 0 < ys.length := by
      obtain ⟨y, hy, _⟩ := has_yes.1 hh
      exact List.length_pos_of_mem hy
    obtain ⟨g, cap, rfl, hc1, hc2⟩ := h.own.spot hpos
    have hlk := h.lnk
    have HB : Hid (B ≤ w.heap.size) := hB
    clear h hh e hB
    obtain ⟨n, hn⟩ : ∃ n, ys.length = n := ⟨_, rfl⟩
    rw [hn] at hlk HL hlen hpos hc1
    rw [hn]
    have HN : Hid (ys.length = n) := hn
    clear hn
    have HC : Hid (∀ (k : Nat) (w1 : World), Buts [] w w1 → ∀ j u, (lks (ys.drop k))[j]? = some u → w1.cell? ((⟨g, k * 2, none⟩ : Addr).add j) = some u) := fun k w1 hb j u hj => by
      have ho : OwnS B w1 (.slice (some ⟨g, 0, none⟩) n cap) ys := HL.out.own.buts hb (fun _ _ => by simp)
      exact sdrop_cells ho HN.out.symm k j u hj
    have HD : Hid (∀ (k : Nat), ∀ j u, (lks (ys.take k))[j]? = some u → w.cell? ((⟨g, 0, none⟩ : Addr).add j) = some u) := fun k j u hj => by
      have := HC.out 0 w (Buts.refl _ _) j u (by
        rw [List.drop_zero]
        rw [lks_take] at hj
        rw [List.getElem?_take] at hj
        split at hj
        · exact hj
        · cases hj)
      simpa using this
    simp only [maxLen] at hc2
    go_enter Tryd.func8, Tryd.ntmps8
    have HA : Hid (∀ k1 : Nat, k1 ≤ n → ∃ AD : Addr, (if cap = k1 then some (⟨g, 0, none⟩ : Addr) else some ⟨g, k1 * 2, none⟩) = some AD ∧ Hid (∀ w1, Buts [] w w1 → ∀ j u, (lks (ys.drop k1))[j]? = some u → w1.cell? (AD.add j) = some u)) := fun k1 hk1 => by
      by_cases hcj : cap = k1
      · refine ⟨⟨g, 0, none⟩, by rw [if_pos hcj], fun w1 _ j u hj => ?_⟩
        rw [List.drop_eq_nil_of_le (by rw [HN.out]; omega)] at hj
        simp [lks] at hj
      · exact ⟨⟨g, k1 * 2, none⟩, by rw [if_neg hcj], fun w1 hb => HC.out k1 w1 hb⟩
    go_wp2_with (first
      | (at_builtin; refine wpList_srow (B := w.heap.size) (es := ys.drop k1) (m := n - k1) rfl _ _ rfl rfl rfl HO2.out (by rw [List.length_drop, HN.out]) (by have := HT.out; simp only [List.nil_append]; omega) (HAD.out w2 HB2.out) HB2.out.size ?_; intro s3 n3 c3 w3 HO3 HB3; have hb3 : Buts (Value.slice (some ⟨g, 0, none⟩) n cap).ownBlock.toList w w3 := Buts.of (two_steps HB2.out HB3.out HO2.out); have hnq : w3.heap[q]? = some (.cells #[.slice (some ⟨g, 0, none⟩) n cap] 28 (0, 0)) := (by rw [hb3.block q (at_lt HL.out.head) (fun hm => HL.out.ne (by simpa using hm) rfl)]; exact HL.out.head); have hq3 : w3.cell? ⟨q, 0, none⟩ = some (.slice (some ⟨g, 0, none⟩) n cap) := (by rw [cell_of hnq]; rfl); have hqf : w3.frozen? ⟨q, 0, none⟩ = false := (by simp [World.frozen?, hnq]); have HB4 : Hid (Buts (Value.slice (some ⟨g, 0, none⟩) n cap).ownBlock.toList w w3) := hb3; clear hb3 hnq)
      | (go_at_call 20; refine (rat_yes HL.out HH.out).mono ?_; rw [HN.out]; rintro e w1 ⟨k, hk, hw, rfl, rfl⟩; have HW : Hid ((ys.getD k (0, 0)).1 = who) := hw; have a1 : (k : Int) < n := (by omega); have a2 : ¬ ((k : Int) < 0) := (by omega); have a3 : (k : Int) ≤ cap := (by omega); obtain ⟨k1, hk1⟩ : ∃ k1 : Nat, k1 = k + 1 := ⟨_, rfl⟩; have a4 : (k : Int) + 1 = k1 := (by omega); have a5 : (n : Int) ≤ cap := (by omega); have a6 : (k1 : Int) ≤ n := (by omega); have a7 : (k1 : Int) ≤ cap := (by omega); have a8 : k1 ≤ n := (by omega); have HK1 : Hid (k1 = k + 1) := hk1; obtain ⟨AD, hA, HAD⟩ := HA.out k1 a8; have HT : Hid ((ys.take k).length = k) := (by show _ = _; rw [List.length_take, HN.out]; omega); clear hw hk1 HA)
      | (at_builtin; refine wpList_srow (B := w.heap.size) (v := .slice none 0 0) (ds := []) (es := ys.take k) (m := k) rfl _ _ rfl rfl rfl (World.ownsRow_nil _ _ _ _) (by rw [List.length_take, HN.out]; omega) (by simp; omega) (HD.out k) (Nat.le_refl _) ?_; intro s2 n2 c2 w2 HO2 HB2; have hnq := (HB2.out.block q (at_lt HL.out.head) (by simp [Value.ownBlock])).trans HL.out.head; have hq2 : w2.cell? ⟨q, 0, none⟩ = some (.slice (some ⟨g, 0, none⟩) n cap) := (by rw [cell_of hnq]; rfl); clear hnq))
    go_ret
    have e3 : ([] ++ ys.take k) ++ ys.drop k1 = gone ys who := by
      rw [List.nil_append, HK1.out, ← List.eraseIdx_eq_take_drop_succ]
      exact erase_gone HL.out.good.keys (by rw [HN.out]; omega) HW.out
    have ho3 := HO3.out
    rw [e3] at ho3
    exact ⟨rfl, HL.out.lay (owns_base ho3 HB.out) HB4.out (Nat.le_trans (gone_len _ _) HL.out.len) (HL.out.good.gone who) (fun g' hg' => Or.inr (ho3.lt' hg').1)⟩
  · have hh' : has ys who = false := by simpa using hh
    have e : remE ys who = 1 := by simp [remE, hh']
    have HH : Hid (has ys who = false) := hh'
    rw [e, gone_no hh']
    clear h hh hh' e
    go_enter Tryd.func8, Tryd.ntmps8
    go_wp2_with (go_at_call 20; refine (rat_no HL.out HH.out).mono ?_; rintro e w1 ⟨rfl, rfl⟩)
    go_ret
    exact ⟨rfl, HL.out.next (Below.refl _ _)⟩
end Go.Proofs.YtdifgjioaikchaaDoor
