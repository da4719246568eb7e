/- The document's own queue: who is first, who may be put, and a rank's list. -/
import Derived.Test.YtjhpiecbolmleaaGreatDoorKRef
namespace Go.Proofs.YtjhpiecbolmleaaGreatDoor
open Go Go.RowKit Go.Shelf
set_option maxRecDepth 100000
set_option linter.unusedVariables false
set_option linter.unusedSimpArgs false
set_option maxHeartbeats 4000000 in
theorem kfirst_any {s : Nat} {w : World} {q : Nat} {X : Nat → List Int} (h : KS s w q X) (hl : ∀ r, r < 32 → (X r).length ≤ 256) :
    Calls Tryz.prog 10 #[.pointer (some ⟨q, 0, none⟩)] w fun e w' => e = .returned (.tuple #[.int .i64 (fsv X), .bool (fsb X)]) ∧ w = w' := by
  obtain ⟨us, hU⟩ := h
  go_enter Tryz.func10, Tryz.ntmps10
  go_wp2
  go_loopg [4] 32 (fun g s4 wx => ∃ n : Nat, n + g = 32 ∧ s4 = .int .i64 (31 - (n : Int)) ∧ Hid (∀ t, 32 ≤ t + n → t < 32 → X t = []) ∧ w = wx)
  case atStart => exact ⟨0, by omega, rfl, fun t ht _ => by omega, rfl⟩
  case round =>
    obtain ⟨n, hng, rfl, HN, rfl⟩ := hrel
    cases gk with
    | zero =>
      have h31 : ¬ ((0 : Int) ≤ 31 - (n : Int)) := by omega
      have e : tp X = none := tp_none.2 fun t ht => HN.out t (by omega) ht
      have E : Hid (fsv X = 0 ∧ fsb X = false) := by unfold fsv fsb; rw [e]; exact ⟨rfl, rfl⟩
      clear hU hng
      go_wp2
      go_ret2
      exact ⟨by rw [E.out.1, E.out.2]; rfl, rfl⟩
    | succ g =>
      obtain ⟨r, hr⟩ : ∃ r : Nat, 31 - (n : Int) = (r : Int) := ⟨31 - n, by omega⟩
      have hr32 : r < 32 := by omega
      have h31 : (0 : Int) ≤ (r : Int) := by omega
      have h32 : (r : Int) < 32 := by omega
      have HR : Hid (31 - (n : Int) = (r : Int)) := hr
      obtain ⟨sp, cap, hv, hsp⟩ := (hU.row r hr32).form
      have c0 := hU.cell hr32
      rw [hv] at c0
      have hlr := hl r hr32
      obtain ⟨xs, hxs⟩ : ∃ xs, X r = xs := ⟨_, rfl⟩
      obtain ⟨m, hm⟩ : ∃ m, xs.length = m := ⟨_, rfl⟩
      have HX : Hid (X r = xs) := hxs
      have HM : Hid (xs.length = m) := hm
      rw [hxs, hm] at c0 hsp hlr
      have hwr : IntKind.i64.wrap ((r : Int) - 1) = (r : Int) - 1 := by rw [IntKind.wrap_i64]; omega
      rw [hr]
      clear hv hxs hm hr
      by_cases hm0 : 0 < m
      · obtain ⟨gg, hgg, hcc⟩ := hsp hm0
        subst hgg
        have d0 := hcc 0 hm0
        have hm1 : (0 : Int) < m := by omega
        have hm2 : decide (0 < m) = true := decide_eq_true hm0
        have hne : X r ≠ [] := by rw [HX.out]; intro h0; have := HM.out; rw [h0] at this; simp at this; omega
        have e := tp_some hr32 hne (fun t h1 h2 => HN.out t (by have := HR.out; omega) h2)
        have E : Hid (fsv X = xs.getD 0 0 ∧ fsb X = true) := by
          unfold fsv fsb; rw [e]
          refine ⟨?_, rfl⟩
          show (X r).headD 0 = _
          rw [HX.out]
          cases xs <;> rfl
        obtain ⟨v, hv⟩ : ∃ v, xs.getD 0 0 = v := ⟨_, rfl⟩
        rw [hv] at d0 E
        clear hsp hcc hv hne e hU
        go_wp2
        go_ret2
        exact ⟨by rw [E.out.1, E.out.2]; rfl, rfl⟩
      · have hm1 : ¬ ((0 : Int) < m) := by omega
        have hm2 : decide (0 < m) = false := decide_eq_false hm0
        clear hsp
        go_wp2
        go_roundg g
        case measure => omega
        case rel =>
          refine ⟨n + 1, by omega, ?_, fun t h1 h2 => ?_, rfl⟩
          · refine congrArg (Value.int IntKind.i64) ?_
            have := HR.out
            first | omega | (rw [IntKind.wrap_i64]; omega)
          · rcases Nat.lt_or_ge t (32 - n) with h | h
            · have : t = r := by have := HR.out; omega
              rw [this, HX.out]
              exact List.length_eq_zero_iff.1 (by have := HM.out; omega)
            · exact HN.out t (by omega) h2
set_option maxHeartbeats 4000000 in
theorem kmay_any {s : Nat} {w : World} {q : Nat} {X : Nat → List Int} (h : KS s w q X) (hl : ∀ r, r < 32 → (X r).length ≤ 256) (z r : Int) :
    Calls Tryz.prog 64 #[.pointer (some ⟨q, 0, none⟩), .int .i64 z, .int .i64 r] w fun e w' => e = .returned (.int .i64 (adE X z r)) ∧ w = w' := by
  have hR := krank_any h hl z
  clear h hl
  by_cases h1 : z < 0 ∨ 255 < z ∨ r < 0 ∨ 31 < r
  · have he : adE X z r = 1 := by unfold adE; rw [if_pos h1]
    rw [he]
    clear he hR
    go_enter Tryz.func64, Tryz.ntmps64
    rcases Int.lt_or_le z 0 with a | a
    · go_wp2
      go_ret
      exact ⟨rfl, rfl⟩
    · have a' : ¬ z < 0 := by omega
      rcases Int.lt_or_le 255 z with b | b
      · go_wp2
        go_ret
        exact ⟨rfl, rfl⟩
      · have b' : ¬ 255 < z := by omega
        rcases Int.lt_or_le r 0 with c | c
        · go_wp2
          go_ret
          exact ⟨rfl, rfl⟩
        · have c' : ¬ r < 0 := by omega
          have d' : 31 < r := by omega
          go_wp2
          go_ret
          exact ⟨rfl, rfl⟩
  · have a' : ¬ z < 0 := by omega
    have b' : ¬ 255 < z := by omega
    have c' : ¬ r < 0 := by omega
    have d' : ¬ 31 < r := by omega
    cases hb : rkb X z with
    | true =>
      have he : adE X z r = 7 := by unfold adE; rw [if_neg h1, hb]; rfl
      rw [he]
      rw [hb] at hR
      generalize rkv X z = v at *
      clear he hb h1
      go_enter Tryz.func64, Tryz.ntmps64
      go_wp2_with (first | (go_at_call 12; refine hR.mono ?_; rintro e wx ⟨rfl, rfl⟩))
      go_ret
      exact ⟨rfl, rfl⟩
    | false =>
      have he : adE X z r = 0 := by unfold adE; rw [if_neg h1, hb]; rfl
      rw [he]
      rw [hb] at hR
      generalize rkv X z = v at *
      clear he hb h1
      go_enter Tryz.func64, Tryz.ntmps64
      go_wp2_with (first | (go_at_call 12; refine hR.mono ?_; rintro e wx ⟨rfl, rfl⟩))
      go_ret
      exact ⟨rfl, rfl⟩
theorem src_all {w : World} {g : Nat} {xs : List Int} (h : ∀ i, i < xs.length → w.cell? ⟨g, i, none⟩ = some (.int .i64 (xs.getD i 0))) : ∀ j u, (xs.map (Value.int .i64))[j]? = some u → w.cell? ((⟨g, 0, none⟩ : Addr).add j) = some u := by
  intro j u hj
  have hadd : (⟨g, 0, none⟩ : Addr).add j = ⟨g, 0 + j, none⟩ := by unfold Addr.add; split <;> simp_all
  rw [List.getElem?_map] at hj
  obtain ⟨x, hx, rfl⟩ := Option.map_eq_some_iff.1 hj
  have hjl : j < xs.length := by
    rcases Nat.lt_or_ge j xs.length with h | h
    · exact h
    · rw [List.getElem?_eq_none h] at hx; cases hx
  rw [hadd, Nat.zero_add, h j hjl]
  simp [List.getD_eq_getElem?_getD, hx]
theorem ints_one (xs : List Int) : ∀ u ∈ xs.map (Value.int .i64), u.oneCell' = true := by
  intro u hu
  obtain ⟨x, _, rfl⟩ := List.mem_map.1 hu
  rfl
set_option maxHeartbeats 4000000 in
theorem klist_any {s : Nat} {w : World} {q : Nat} {X : Nat → List Int} (h : KS s w q X) (hl : ∀ r, r < 32 → (X r).length ≤ 256) (r : Int) :
    Calls Tryz.prog 15 #[.pointer (some ⟨q, 0, none⟩), .int .i64 r] w fun e w' => ∃ sp cap, e = .returned (.slice sp (lsX X r).length cap) ∧ Src w' sp (lsX X r) ∧ Below w.heap.size w w' := by
  obtain ⟨us, hU⟩ := h
  by_cases hr : 0 ≤ r ∧ r ≤ 31
  · obtain ⟨k, rfl⟩ := Int.eq_ofNat_of_zero_le hr.1
    have hk : k < 32 := by omega
    have e : lsX X (k : Int) = X k := by unfold lsX; rw [if_pos hr]; rfl
    rw [e]
    have h1 : ¬ ((k : Int) < 0) := by omega
    have h2 : ¬ (31 < (k : Int)) := by omega
    have h3 : (k : Int) < 32 := by omega
    have c0 := hU.cell hk
    have hlr := hl k hk
    obtain ⟨i0, hi, hz0, hz1, hz2⟩ := info_parts infoV
    rcases hU.row k hk with ⟨hv, hx⟩ | ⟨g, cap, cs, hv, ⟨hx, hxc⟩, _, hh, hcs⟩
    · rw [hx]
      rw [hv] at c0
      clear hU hl e hx hv
      go_enter Tryz.func15, Tryz.ntmps15
      go_wp2
      go_ret
      first | exact ⟨none, 0, rfl, fun h => absurd h (by decide), Below.refl _ _⟩ | exact ⟨none, ⟨0, rfl⟩, fun h => absurd h (by decide), Below.refl _ _⟩
    · rw [hv] at c0
      obtain ⟨xs, hxs⟩ : ∃ xs, X k = xs := ⟨_, rfl⟩
      rw [hxs] at c0 hx hlr hcs ⊢
      have HN : Hid (∀ j u, (xs.map (Value.int .i64))[j]? = some u → w.cell? ((⟨g, 0, none⟩ : Addr).add j) = some u) := src_all (fun i hi => by rw [cell_of hh]; exact hcs i hi)
      have D1 : Hid ((xs.map (Value.int .i64)).length = xs.length * 1) := by show _ = _; simp
      obtain ⟨m, hm⟩ : ∃ m, xs.length = m := ⟨_, rfl⟩
      have HM : Hid (xs.length = m) := hm
      rw [hm] at c0 D1 hlr hx ⊢
      clear hU hl e hv hcs hh hm hxs
      go_enter Tryz.func15, Tryz.ntmps15
      go_wp2_with (first
        | (at_builtin; refine wpList_append_own _ rfl _ _ 45 rfl w.heap.size 3 i0 (.int .i64 0) 1 8 Tryz.underlying45 hi hz0 hz1 hz2 rfl (by decide) (.slice none 0 0) 0 [] rfl (World.ownsRow_nil _ _ _ _) ⟨g, 0, none⟩ m cap (xs.map (Value.int .i64)) rfl D1.out HN.out (ints_one _) (by simp only [maxLen]; omega) (by omega) (Nat.le_refl _) ?_; intro v' w1 ho hg _; rw [Nat.zero_add, List.nil_append, ← HM.out] at ho; obtain ⟨sp1, c1, rfl, hs1⟩ := Src.own ho; have HS : Hid (Src w1 sp1 xs) := hs1; have HB : Hid (Below w.heap.size w w1) := (Buts.grown hg).below (fun x hx => (by simp [Value.ownBlock] at hx)) (Nat.le_refl _); rw [HM.out]; clear ho hg hs1))
      go_ret
      exact ⟨sp1, ⟨c1, rfl⟩, HS.out, HB.out⟩
  · have e : lsX X r = [] := by unfold lsX; rw [if_neg hr]
    rw [e]
    clear hU hl e
    go_enter Tryz.func15, Tryz.ntmps15
    rcases Int.lt_or_le r 0 with a | a
    · go_wp2
      go_ret
      first | exact ⟨none, 0, rfl, fun h => absurd h (by decide), Below.refl _ _⟩ | exact ⟨none, ⟨0, rfl⟩, fun h => absurd h (by decide), Below.refl _ _⟩
    · have a' : ¬ r < 0 := by omega
      have b' : 31 < r := by omega
      go_wp2
      go_ret
      first | exact ⟨none, 0, rfl, fun h => absurd h (by decide), Below.refl _ _⟩ | exact ⟨none, ⟨0, rfl⟩, fun h => absurd h (by decide), Below.refl _ _⟩
end Go.Proofs.YtjhpiecbolmleaaGreatDoor
