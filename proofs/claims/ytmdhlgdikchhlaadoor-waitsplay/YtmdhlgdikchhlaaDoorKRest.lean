/- The document's own queue: somebody of another rank, the first one, and all. -/
import Derived.Test.YtmdhlgdikchhlaaDoorKPut
namespace Go.Proofs.YtmdhlgdikchhlaaDoor
open Go Go.RowKit
set_option maxRecDepth 100000
set_option linter.unusedVariables false
set_option linter.unusedSimpArgs false
set_option maxHeartbeats 2000000 in
theorem kchange_any {B : Nat} {w : World} {q : Nat} {ys : List (Int × Int)} (h : KR B w q ys) (hg : Good ys) (hB : B ≤ w.heap.size) (who r : Int) :
    Calls Tryd.prog 10 #[.pointer (some ⟨q, 0, none⟩), .int .i64 who, .int .i64 r] w fun e w' => e = .returned (.int .i64 (chE ys who r)) ∧ KR B w' q (chL ys who r) ∧ Buts [q] w w' := by
  have HKR : Hid (KR B w q ys) := h
  obtain ⟨v, h⟩ := h
  have hK := kat_any h who
  by_cases hh : has ys who = true
  · have ek : kv ys who = (wi ys who : Int) := by unfold kv; rw [if_pos hh]
    have hlt := has_lt hh
    have hlen := h.len
    rw [ek] at hK
    have a2 : ¬ ((wi ys who : Int) < 0) := by omega
    by_cases hr : badR r
    · have e : chE ys who r = 1 := by simp [chE, hh, hr]
      have e2 : chL ys who r = ys := by simp [chL, hh, hr]
      rw [e, e2]
      clear h e e2 ek hlt hlen hg
      generalize wi ys who = K at *
      by_cases h2 : r < 0
      · clear hr hh
        go_enter Tryd.func10, Tryd.ntmps10
        go_wp2_with (first | (go_at_call 22; refine hK.mono ?_; rintro e wx ⟨rfl, rfl⟩))
        go_ret
        exact ⟨rfl, HKR.out, Buts.refl _ _⟩
      · have h3 : 31 < r := by unfold badR at hr; omega
        clear hr hh
        go_enter Tryd.func10, Tryd.ntmps10
        go_wp2_with (first | (go_at_call 22; refine hK.mono ?_; rintro e wx ⟨rfl, rfl⟩))
        go_ret
        exact ⟨rfl, HKR.out, Buts.refl _ _⟩
    · have p2 : ¬ r < 0 := fun h => hr (Or.inl h)
      have p3 : ¬ 31 < r := fun h => hr (Or.inr h)
      have e : chE ys who r = 0 := by simp [chE, hh, hr]
      rw [e]
      obtain ⟨g, cap, hv, hc1, hc2⟩ := h.own.spot (by omega)
      have hown := h.own
      have hlk := h.lnk
      rw [hv] at hown hlk
      have c1 := (hown.cells rfl (wi ys who) hlt).2
      have a1 : (wi ys who : Int) < ys.length := by omega
      have hrk : (ys.getD (wi ys who) (0, 0)).2 = rkOf ys who := rfl
      rw [hrk] at c1
      by_cases hs : rkOf ys who = r
      · have e2 : chL ys who r = ys := by simp [chL, hh, hr, hs]
        rw [e2]
        rw [hs] at c1
        clear h e e2 ek hlt hlen hg hown hrk hs hh hr hv
        generalize wi ys who = K at *
        generalize hn : ys.length = n at hlk a1 hc1
        clear hn
        go_enter Tryd.func10, Tryd.ntmps10
        go_wp2_with (first | (go_at_call 22; refine hK.mono ?_; rintro e wx ⟨rfl, rfl⟩))
        go_ret
        exact ⟨rfl, HKR.out, Buts.refl _ _⟩
      · have e2 : chL ys who r = ins (gone ys who) (who, r) := by simp [chL, hh, hr, hs]
        have hgl := gone_len' hh
        have hw0 : 0 ≤ who := by
          obtain ⟨y, hy, rfl⟩ := has_yes.1 hh
          exact hg.lo y hy
        have hnb : ¬ badA who r := by unfold badA; unfold badR at hr; omega
        have hwent := hg.went who
        have e3 : putL (gone ys who) who r = ins (gone ys who) (who, r) := by simp [putL, hnb, hwent]
        rw [e2, ← e3]
        have HR1 : Hid (∀ w', KR B w' q ys → B ≤ w'.heap.size → Calls Tryd.prog 8 #[.pointer (some ⟨q, 0, none⟩), .int .i64 who] w' fun e w'' => e = .returned (.int .i64 (remE ys who)) ∧ KR B w'' q (gone ys who) ∧ Buts [q] w' w'') := fun w' h' hB' => kremove_any h' hB' who
        have HP1 : Hid (∀ w', KR B w' q (gone ys who) → B ≤ w'.heap.size → Calls Tryd.prog 12 #[.pointer (some ⟨q, 0, none⟩), .int .i64 who, .int .i64 r] w' fun e w'' => e = .returned (.int .i64 (putE (gone ys who) who r)) ∧ KR B w'' q (putL (gone ys who) who r) ∧ Buts [q] w' w'') := fun w' h' hB' => kput_any h' hB' (by omega) who r
        have hsb : (rkOf ys who == r) = false := by simpa using hs
        clear h e e2 e3 ek hlt hlen hg hown hrk hh hr hv hgl hnb hwent
        generalize putE (gone ys who) who r = ev at *
        generalize putL (gone ys who) who r = zs at *
        generalize remE ys who = rv at *
        generalize gone ys who = gs at *
        generalize rkOf ys who = r0 at *
        generalize wi ys who = K at *
        generalize hn : ys.length = n at hlk a1 hc1
        clear hn
        go_enter Tryd.func10, Tryd.ntmps10
        go_wp2_with (first
          | (go_at_call 22; refine hK.mono ?_; rintro e wx ⟨rfl, rfl⟩)
          | (go_at_call 8; refine (HR1.out _ HKR.out hB).mono ?_; rintro e w2 ⟨rfl, q2, m2⟩; have Q2 : Hid (KR B w2 q gs ∧ Buts [q] w w2) := ⟨q2, m2⟩; clear q2 m2)
          | (go_at_call 12; refine (HP1.out _ Q2.out.1 (Nat.le_trans hB Q2.out.2.size)).mono ?_; rintro e w3 ⟨rfl, q3, m3⟩; have Q3 : Hid (KR B w3 q zs ∧ Buts [q] w w3) := ⟨q3, Q2.out.2.trans m3⟩; clear q3 m3))
        go_ret
        exact ⟨rfl, Q3.out.1, Q3.out.2⟩
  · have hh' : has ys who = false := by simpa using hh
    have e : chE ys who r = 1 := by simp [chE, hh']
    have e2 : chL ys who r = ys := by simp [chL, hh']
    have ek : kv ys who = -1 := by unfold kv; rw [if_neg hh]
    rw [e, e2]
    rw [ek] at hK
    clear h hh hh' e e2 ek
    go_enter Tryd.func10, Tryd.ntmps10
    go_wp2_with (first | (go_at_call 22; refine hK.mono ?_; rintro e wx ⟨rfl, rfl⟩))
    go_ret
    exact ⟨rfl, HKR.out, Buts.refl _ _⟩
theorem kfirst_any {B : Nat} {w : World} {q : Nat} {ys : List (Int × Int)} (h : KR B w q ys) :
    Calls Tryd.prog 15 #[.pointer (some ⟨q, 0, none⟩)] w fun e w' => e = .returned (.tuple #[.int .i64 (fsv ys), .bool (fsb ys)]) ∧ w = w' := by
  obtain ⟨v, h⟩ := h
  obtain ⟨sp, g, cap, hv, hsp, hgl, hc1, hc2, hcs⟩ := h.seq
  have hlk := h.lnk
  rw [hv] at hlk
  by_cases h0 : 0 < ys.length
  · have e1 : fsb ys = true := by simp [fsb, h0]
    obtain rfl := hsp h0
    have c0 := (hcs 0 h0).1
    have e3 : (ys.getD 0 (0, 0)).1 = fsv ys := rfl
    rw [e3] at c0
    rw [e1]
    have hz : ((ys.length : Int) == 0) = false := by simp; intro h; rw [h] at h0; simp at h0
    have hz2 : (ys.length == 0) = false := by simp; intro h; rw [h] at h0; simp at h0
    have h0I : (0 : Int) < (ys.length : Int) := by omega
    have hzz : (0 * 2 : Nat) = 0 := rfl
    rw [hzz] at c0
    clear h e1 e3 hv hcs hsp
    generalize fsv ys = v at *
    generalize ys.length = n at *
    go_enter Tryd.func15, Tryd.ntmps15
    go_wp2
    go_ret2
    exact ⟨rfl, rfl⟩
  · have e1 : fsb ys = false := by unfold fsb; exact decide_eq_false h0
    have hn : ys.length = 0 := by omega
    have e2 : fsv ys = 0 := by
      have : ys = [] := List.eq_nil_of_length_eq_zero hn
      rw [this]; rfl
    rw [e1, e2]
    rw [hn] at hlk
    clear h e1 e2 hv hcs hsp
    go_enter Tryd.func15, Tryd.ntmps15
    go_wp2
    go_ret2
    exact ⟨rfl, rfl⟩
set_option maxHeartbeats 1000000 in
theorem klist_own {B : Nat} {w : World} {q : Nat} {xs : List (Int × Int)} (h : KR B w q xs) :
    Calls Tryd.prog 17 #[.pointer (some ⟨q, 0, none⟩)] w fun e w' => ∃ v, e = .returned v ∧ w'.ownsRow w.heap.size 3 1 v xs.length ((keys xs).map (Value.int .i64)) ∧ Below w.heap.size w w' := by
  obtain ⟨i0, hi, hz0, hz1, hz2⟩ := info_parts' infoW
  obtain ⟨v, h⟩ := h
  obtain ⟨sp, g, cap, hv, hsp, hgl, hc1, hc2, hcs⟩ := h.seq
  have hlk := h.lnk
  have hlen := h.len
  have hql := at_lt h.head
  rw [hv] at hlk
  have HLK : Hid (w.cell? ⟨q, 0, none⟩ = some (.slice sp xs.length cap)) := hlk
  have HK : Hid (keys (xs.take xs.length) = keys xs) := by show _ = _; rw [List.take_length]
  have HS : Hid (∀ i, i < xs.length → keys (xs.take (i + 1)) = keys (xs.take i) ++ [(xs.getD i (0, 0)).1]) := fun i hi => keys_take xs hi
  have HCS : Hid (∀ k, k < xs.length → w.cell? ⟨g, k * 2, none⟩ = some (.int .i64 (xs.getD k (0, 0)).1)) := fun k hk => (hcs k hk).1
  clear h hv hcs hc1 hc2
  obtain ⟨n, hn⟩ : ∃ n, xs.length = n := ⟨_, rfl⟩
  rw [hn] at hlen HK HS HCS HLK hsp hlk
  rw [hn]
  clear hn
  go_enter Tryd.func17, Tryd.ntmps17
  go_wp2
  go_loopg [3, 4] n (fun gk s3 s4 wx => ∃ i : Nat, i + gk = n ∧ s4 = .int .i64 (i : Int) ∧ Hid (wx.ownsRow w.heap.size 3 1 s3 i ((keys (xs.take i)).map (Value.int .i64))) ∧ Hid (Below w.heap.size w wx))
  case atStart => exact ⟨0, by omega, rfl, World.ownsRow_nil _ _ _ _, Below.refl _ _⟩
  case round =>
    clear hlk
    obtain ⟨i, hig, rfl, HO, HB⟩ := hrel
    have hlk := (HB.out.cell (p := ⟨q, 0, none⟩) hql).trans HLK.out
    cases gk with
    | zero =>
      obtain rfl : i = n := by omega
      have hlt : ¬ ((i : Int) < i) := by omega
      rw [HK.out] at HO
      go_wp2
      go_ret
      exact ⟨_, rfl, HO.out, HB.out⟩
    | succ g' =>
      have hx : i < n := by omega
      have hlt : (i : Int) < n := by omega
      obtain rfl := hsp (by omega)
      have e0 := (HB.out.cell (p := ⟨g, i * 2, none⟩) hgl).trans (HCS.out i hx)
      have HS1 : Hid (keys (xs.take (i + 1)) = keys (xs.take i) ++ [(xs.getD i (0, 0)).1]) := HS.out i hx
      clear hsp
      generalize (xs.getD i (0, 0)).1 = y at *
      generalize keys (xs.take i) = ks at *
      go_wp2_with (first
        | (at_builtin; refine wpList_append_own _ rfl _ _ 43 rfl w.heap.size 3 i0 (.int .i64 0) 1 8 Tryd.underlying43 hi hz0 hz1 hz2 rfl (by decide) _ _ _ rfl (HO.out.alloc _) ⟨wr.heap.size, 0, none⟩ 1 1 [.int .i64 y] rfl rfl (cell1 wr _ _) (by simp [Value.oneCell']) (by simp only [maxLen]; omega) (by omega) (by have := HB.out.size; rw [alloc_size]; omega) ?_; intro v' w1 hown' hgrow _; have HG : Hid ((wr.alloc (.cells #[.int .i64 y] 3)).grownBy w1 u3.ownBlock) := hgrow; have HO3 : Hid (w1.ownsRow w.heap.size 3 1 v' (i + 1) (ks.map (Value.int .i64) ++ [.int .i64 y])) := hown'; have HB3 : Hid (Below w.heap.size w w1) := (HB.out.trans (((alloc_below wr _).mono HB.out.size).trans ((Buts.grown HG.out).below (fun x hx => (HO.out.lt x (by simpa using hx)).1) (by have := HB.out.size; rw [alloc_size]; omega)))); clear hown' hgrow))
      go_roundg g'
      case measure => omega
      case rel =>
        refine ⟨i + 1, by omega, by go_num, ?_, HB3⟩
        rw [HS1.out, List.map_append]
        exact HO3
theorem klist_any {B : Nat} {w : World} {q : Nat} {xs : List (Int × Int)} (h : KR B w q xs) {n : Nat} (hn : xs.length = n) {zs : List Int} (hz : keys xs = zs) :
    Calls Tryd.prog 17 #[.pointer (some ⟨q, 0, none⟩)] w fun e w' => ∃ sp cap, e = .returned (.slice sp n cap) ∧ Src w' sp zs ∧ Below w.heap.size w w' := by
  subst hn hz
  refine (klist_own h).mono ?_
  rintro e w' ⟨v, rfl, ho, hb⟩
  rw [← keys_len] at ho
  obtain ⟨sp, cap, rfl, hs⟩ := Src.own ho
  rw [keys_len]
  exact ⟨sp, cap, rfl, hs, hb⟩
end Go.Proofs.YtmdhlgdikchhlaaDoor
