/- 'RingsOnce' walked: each number is there once, whatever is done; no more are there than there may be; one that is removed is not there, and may be put again. -/
import Derived.Test.YtppookpacdheaaaHelps
namespace Go.Proofs.Ytppookpacdheaaa
open Go Go.RowKit
set_option maxRecDepth 100000
set_option linter.unusedVariables false
theorem again {xs : List Int} {z : Int} {K : Nat} (h : Good xs) (hz : z ∈ xs) (hl : xs.length ≤ K) : remE xs z = 0 ∧ remE (xs.erase z) z = 1 ∧ (xs.erase z).erase z = xs.erase z ∧ addE (xs.erase z) K z = 0 ∧ putL (xs.erase z) K z = xs.erase z ++ [z] := by
  have hg := gone h.1 z
  have h0 := h.2 z hz
  have he := erase_len hz
  have ha : addE (xs.erase z) K z = 0 := addE_ok (by omega) hg (by omega)
  exact ⟨by simp [remE, hz], by simp [remE, hg], List.erase_of_not_mem hg, ha, by simp [putL, ha]⟩
theorem there_state {xs : List Int} {i K : Nat} (h : Good xs) (hi : i < xs.length) : addE xs K (xs.getD i 0) = 7 ∧ putL xs K (xs.getD i 0) = xs ∧ pushL xs K (xs.getD i 0) = xs := by
  have hm := getD_mem hi
  have h0 := h.2 _ hm
  have ha : addE xs K (xs.getD i 0) = 7 := addE_state (by omega) hm
  exact ⟨ha, by unfold putL; rw [ha, if_neg (by decide)], by unfold pushL; rw [ha, if_neg (by decide)]⟩
theorem new_at {w : World} (n : Nat) (h1 : 1 ≤ n) (hn : n ≤ 1024) {v : Int} (hv : v = (n : Int)) :
    Calls Try.prog 18 #[.int .i64 v] w fun e w' => e = .returned (.tuple #[.pointer (some ⟨w.heap.size + 1, 0, none⟩), .int .i64 0]) ∧ Ring w' (w.heap.size + 1) w.heap.size n [] ∧ Below w.heap.size w w' := by subst hv; exact new_yes n h1 hn
set_option maxHeartbeats 8000000 in
theorem once_any (x : Int) (hx : 0 ≤ x ∧ x ≤ 65535) {sp : Option Addr} {acts : List (Int × Int)} (w : World) (hs : Acts w.heap.size w sp acts) (hl : acts.length ≤ maxLen) (cap : Nat) :
    Calls Try.prog 6 #[.int .u16 x, .slice sp acts.length cap] w fun e w' => e = .returned (.bool true) ∧ Below w.heap.size w w' := by
  unfold maxLen at hl
  obtain ⟨q, hq⟩ : ∃ q, acts.length = q := ⟨_, rfl⟩
  rw [hq] at hl ⊢
  have HQ : Hid (acts.length = q) := hq
  have HS : Hid (Acts w.heap.size w sp acts) := hs
  clear hq hs
  by_cases hbig : 100 < q
  · go_enter Try.func6, Try.ntmps6
    go_wp2_with (first
      | (go_at_call 14; clear M1; refine (alive_any _).mono ?_; rintro e w2 ⟨rfl, hb2⟩)
      | (go_at_call 14; refine (alive_any _).mono ?_; rintro e w1 ⟨rfl, hB⟩; have M1 := True.intro))
    go_ret
    exact ⟨rfl, hB.trans (hb2.mono hB.size)⟩
  · obtain ⟨y, hy⟩ := Int.eq_ofNat_of_zero_le (a := x) hx.1
    subst hy
    obtain ⟨t, ht⟩ : ∃ t, y % 1024 = t := ⟨_, rfl⟩
    have hrem : Int.tmod (y : Int) 1024 = (t : Int) := by rw [← ht]; exact (Int.ofNat_tmod y 1024).symm
    have ht2 : t < 1024 := by rw [← ht]; exact Nat.mod_lt _ (by decide)
    clear ht
    obtain ⟨K, hK⟩ : ∃ K, 1 + t = K := ⟨_, rfl⟩
    have hKI : (1 : Int) + (t : Int) = (K : Int) := by omega
    have K1 : 1 ≤ K := by omega
    have K2 : K ≤ 1024 := by omega
    clear hK
    go_enter Try.func6, Try.ntmps6
    go_wp2_with (first
      | (go_at_call 14; refine (alive_any _).mono ?_; rintro e w1 ⟨rfl, hB⟩)
      | (go_at_call 18; refine (new_yes K K1 K2).mono ?_; rintro e w2 ⟨rfl, hr, hb⟩; have HR : Hid (Ring w2 (w1.heap.size + 1) w1.heap.size K []) := hr; have hp0 : w.heap.size ≤ w1.heap.size + 1 := (by have := hB.size; omega); have hg0 : w.heap.size ≤ w1.heap.size := hB.size; replace hB := hB.trans (hb.mono hB.size); clear hr hb))
    generalize w1.heap.size + 1 = p at *
    generalize w1.heap.size = g at *
    go_loopg [8] q (fun g' s8 wx => ∃ (i : Nat) (xs : List Int), i + g' = q ∧ s8 = .int .i64 i ∧ Hid (Ring wx p g K xs) ∧ Hid (Good xs) ∧ Below w.heap.size w wx)
    case atStart => exact ⟨0, _, by omega, rfl, HR, Good.nil, hB⟩
    case round =>
      clear HR hB
      obtain ⟨i, xs, hig, rfl, HR, HG, hB⟩ := hrel
      cases gk with
      | zero =>
        obtain rfl : i = q := by omega
        have hlt : ¬ ((i : Int) < i) := by omega
        go_wp2
        go_ret
        exact ⟨rfl, hB⟩
      | succ g' =>
        have hlt : (i : Int) < q := by omega
        obtain ⟨⟨k, z⟩, hx⟩ : ∃ x, acts[i]? = some x := ⟨_, List.getElem?_eq_getElem (by rw [HQ.out]; omega)⟩
        obtain ⟨b, off, rfl, hbl, hc⟩ := (HS.out.below hB).spot (by rw [HQ.out]; omega)
        obtain ⟨y0, y1⟩ := hc i _ hx
        obtain ⟨hk, hzb⟩ := HS.out.wf i _ hx
        simp only at y0 y1 hk hzb
        clear hc hx
        have hkm : 0 ≤ k % 6 ∧ k % 6 < 6 := by omega
        have hXp : wr.heap.size ≠ p := by have := HR.out.lt.1; omega
        have hXg : wr.heap.size ≠ g := by have := HR.out.lt.2; omega
        have hb0 := alloc_below wr (.cells #[.int .u8 k, .int .i64 z] 47)
        have HX : Hid ((wr.alloc (.cells #[.int .u8 k, .int .i64 z] 47)).heap[wr.heap.size]? = some (.cells #[.int .u8 k, .int .i64 z] 47 (0, 0))) := alloc_at wr _
        have H1 : Hid (Ring (wr.alloc (.cells #[.int .u8 k, .int .i64 z] 47)) p g K xs) := HR.out.below hb0
        replace hB := hB.trans (hb0.mono hB.size)
        clear hb0
        go_upto_block 2 with (fail)
        clear y0 y1 HR
        obtain ⟨X, hX⟩ : ∃ X, wr.heap.size = X := ⟨_, rfl⟩
        rw [hX] at HX hXp hXg
        rw [hX]
        clear hX
        generalize wr.alloc (.cells #[.int .u8 k, .int .i64 z] 47) = wa at *
        have x0 : wa.cell? ⟨X, 0, none⟩ = some (.int .u8 k) := by rw [cell_of HX.out]; rfl
        have x1 : wa.cell? ⟨X, 1, none⟩ = some (.int .i64 z) := by rw [cell_of HX.out]; rfl
        go_cut [9] from 44 to 84 (fun s9 wx => ∃ Y : List Int, Hid (Ring wx p g K Y) ∧ Hid (Good Y) ∧ Hid (Below w.heap.size w wx))
        case first =>
          by_cases hk01 : k % 6 = 0 ∨ k % 6 = 1
          · rcases hk01 with hk0 | hk1
            all_goals
              go_wp2_with (first
                | (go_at_call 9; refine (put_any H1.out z).mono ?_; rintro e v1 ⟨rfl, hr, hb⟩; have Hv1 : Hid (Ring v1 p g K (putL xs K z)) := hr; have hxv1 := (hb.block _ (at_lt HX.out) (two_mem hXp hXg)).trans HX.out; have xxv1 : v1.cell? ⟨X, 1, none⟩ = some (.int .i64 z) := (by rw [cell_of hxv1]; rfl); replace HX : Hid (v1.heap[X]? = some (.cells #[.int .u8 k, .int .i64 z] 47 (0, 0))) := hxv1; clear hxv1; replace hB := hB.trans (two_below hb hp0 hg0 hB.size); clear hr hb H1))
              go_meet
              exact ⟨putL xs K z, Hv1, HG.out.put K z, hB⟩
          · by_cases hk2 : k % 6 = 2
            · go_wp2_with (first
                | (go_at_call 10; refine (push_any H1.out z).mono ?_; rintro e v1 ⟨rfl, hr, hb⟩; have Hv1 : Hid (Ring v1 p g K (pushL xs K z)) := hr; have hxv1 := (hb.block _ (at_lt HX.out) (two_mem hXp hXg)).trans HX.out; have xxv1 : v1.cell? ⟨X, 1, none⟩ = some (.int .i64 z) := (by rw [cell_of hxv1]; rfl); replace HX : Hid (v1.heap[X]? = some (.cells #[.int .u8 k, .int .i64 z] 47 (0, 0))) := hxv1; clear hxv1; replace hB := hB.trans (two_below hb hp0 hg0 hB.size); clear hr hb H1))
              go_meet
              exact ⟨pushL xs K z, Hv1, HG.out.push K z, hB⟩
            · by_cases hk3 : k % 6 = 3
              · go_wp2_with (first
                | (go_at_call 8; refine (take_any H1.out).mono ?_; rintro e v1 ⟨rfl, hr, hb⟩; have Hv1 : Hid (Ring v1 p g K (xs.tail)) := hr; have hxv1 := (hb.block _ (at_lt HX.out) (two_mem hXp hXg)).trans HX.out; have xxv1 : v1.cell? ⟨X, 1, none⟩ = some (.int .i64 z) := (by rw [cell_of hxv1]; rfl); replace HX : Hid (v1.heap[X]? = some (.cells #[.int .u8 k, .int .i64 z] 47 (0, 0))) := hxv1; clear hxv1; replace hB := hB.trans (two_below hb hp0 hg0 hB.size); clear hr hb H1))
                go_meet
                exact ⟨xs.tail, Hv1, HG.out.tail, hB⟩
              · by_cases hk4 : k % 6 = 4
                · by_cases hz : z ∈ xs
                  · have HE : Hid (remE xs z = 0 ∧ remE (xs.erase z) z = 1 ∧ (xs.erase z).erase z = xs.erase z ∧ addE (xs.erase z) K z = 0 ∧ putL (xs.erase z) K z = xs.erase z ++ [z]) := again HG.out hz H1.out.len
                    clear hz
                    go_wp2_with (first
                | (go_at_call 11; refine (remove_is Hv1.out z HE.out.2.1 HE.out.2.2.1).mono ?_; rintro e v2 ⟨rfl, hr, hb⟩; have Hv2 : Hid (Ring v2 p g K (xs.erase z)) := hr; have hxv2 := (hb.block _ (at_lt HX.out) (two_mem hXp hXg)).trans HX.out; have xxv2 : v2.cell? ⟨X, 1, none⟩ = some (.int .i64 z) := (by rw [cell_of hxv2]; rfl); replace HX : Hid (v2.heap[X]? = some (.cells #[.int .u8 k, .int .i64 z] 47 (0, 0))) := hxv2; clear hxv2; replace hB := hB.trans (two_below hb hp0 hg0 hB.size); clear hr hb Hv1)
                | (go_at_call 11; refine (remove_is H1.out z HE.out.1 rfl).mono ?_; rintro e v1 ⟨rfl, hr, hb⟩; have Hv1 : Hid (Ring v1 p g K (xs.erase z)) := hr; have hxv1 := (hb.block _ (at_lt HX.out) (two_mem hXp hXg)).trans HX.out; have xxv1 : v1.cell? ⟨X, 1, none⟩ = some (.int .i64 z) := (by rw [cell_of hxv1]; rfl); replace HX : Hid (v1.heap[X]? = some (.cells #[.int .u8 k, .int .i64 z] 47 (0, 0))) := hxv1; clear hxv1; replace hB := hB.trans (two_below hb hp0 hg0 hB.size); clear hr hb H1)
                | (go_at_call 9; refine (put_is Hv2.out z HE.out.2.2.2.1 HE.out.2.2.2.2).mono ?_; rintro e v3 ⟨rfl, hr, hb⟩; have Hv3 : Hid (Ring v3 p g K (xs.erase z ++ [z])) := hr; replace hB := hB.trans (two_below hb hp0 hg0 hB.size); clear hr hb Hv2))
                    go_meet
                    exact ⟨xs.erase z ++ [z], Hv3, (by have := (HG.out.erase z).put K z; rw [HE.out.2.2.2.2] at this; exact this), hB⟩
                  · have HE : Hid (remE xs z = 1 ∧ xs.erase z = xs) := ⟨by simp [remE, hz], List.erase_of_not_mem hz⟩
                    clear hz
                    go_wp2_with (first
                | (go_at_call 11; refine (remove_is H1.out z HE.out.1 HE.out.2).mono ?_; rintro e v1 ⟨rfl, hr, hb⟩; have Hv1 : Hid (Ring v1 p g K (xs)) := hr; have hxv1 := (hb.block _ (at_lt HX.out) (two_mem hXp hXg)).trans HX.out; have xxv1 : v1.cell? ⟨X, 1, none⟩ = some (.int .i64 z) := (by rw [cell_of hxv1]; rfl); replace HX : Hid (v1.heap[X]? = some (.cells #[.int .u8 k, .int .i64 z] 47 (0, 0))) := hxv1; clear hxv1; replace hB := hB.trans (two_below hb hp0 hg0 hB.size); clear hr hb H1))
                    go_meet
                    exact ⟨xs, Hv1, HG, hB⟩
                · have hk5 : k % 6 = 5 := by omega
                  go_wp2_with (first
                | (go_at_call 12; refine (turn_any H1.out).mono ?_; rintro e v1 ⟨rfl, hr, hb⟩; have Hv1 : Hid (Ring v1 p g K (turnL xs)) := hr; have hxv1 := (hb.block _ (at_lt HX.out) (two_mem hXp hXg)).trans HX.out; have xxv1 : v1.cell? ⟨X, 1, none⟩ = some (.int .i64 z) := (by rw [cell_of hxv1]; rfl); replace HX : Hid (v1.heap[X]? = some (.cells #[.int .u8 k, .int .i64 z] 47 (0, 0))) := hxv1; clear hxv1; replace hB := hB.trans (two_below hb hp0 hg0 hB.size); clear hr hb H1))
                  go_meet
                  exact ⟨turnL xs, Hv1, HG.out.turn, hB⟩
        case rest =>
          obtain ⟨Y, HR, HGY, HB1⟩ := hcut
          clear hB x0 x1 HX H1 HG
          have hB := HB1.out
          clear HB1
          obtain ⟨m, hm⟩ : ∃ m, Y.length = m := ⟨_, rfl⟩
          have HM : Hid (Y.length = m) := hm
          have hmK : m ≤ K := by rw [← hm]; exact HR.out.len
          have hmD : decide (K < m) = false := decide_eq_false (by omega)
          clear hm
          go_wp2_with (first
            | (go_at_call 13; refine (list_is HR.out HM.out).mono ?_; rintro e w5 ⟨rfl, hr, hb⟩; have HL : Hid (Row w5 wc.heap.size Y) := hr; have HR5 : Hid (Ring w5 p g K Y) := HR.out.below hb; have hlp := HR.out.lt; replace hB := hB.trans (hb.mono hB.size); clear hr hb HR))
          have hLp : wc.heap.size ≠ p := by omega
          have hLg : wc.heap.size ≠ g := by omega
          generalize wc.heap.size = l at *
          go_loopg [11] m (fun q' s11 wx => ∃ a : Nat, a + q' = m ∧ s11 = .int .i64 a ∧ Hid (Ring wx p g K Y) ∧ Hid (Row wx l Y) ∧ Below w.heap.size w wx)
          case atStart => exact ⟨0, by omega, rfl, HR5, HL, hB⟩
          case round =>
            clear HR5 HL hB
            obtain ⟨a, haq, rfl, HR, HL, hB⟩ := hrel
            obtain ⟨wo, rfl⟩ : ∃ wo, wo = wr := ⟨wr, rfl⟩
            cases gk with
            | zero =>
              have ham : ¬ ((a : Int) < m) := by omega
              go_wp2
              go_roundg g'
              case measure => omega
              case rel => exact ⟨i + 1, Y, by omega, by go_num, HR, HGY, hB⟩
            | succ q' =>
              have ham : (a : Int) < m := by omega
              obtain ⟨t1, t2, t3⟩ := there_state (K := K) HGY.out (i := a) (by have := HM.out; omega)
              have HT : Hid (addE Y K (Y.getD a 0) = 7 ∧ putL Y K (Y.getD a 0) = Y ∧ pushL Y K (Y.getD a 0) = Y) := ⟨t1, t2, t3⟩
              have hy0 : ¬ (Y.getD a 0 < 0) := by have := HGY.out.2 _ (getD_mem (i := a) (by have := HM.out; omega)); omega
              have HN : Hid (∀ b, b < a → (Y.getD a 0 == Y.getD b 0) = false) := fun b hb => by
                have : Y.getD a 0 ≠ Y.getD b 0 := fun e => by have := nodup_at HGY.out.1 (by have := HM.out; omega) (by have := HM.out; omega) e; omega
                simpa using this
              have hCE := fun w' (h : Row w' l Y) => h.cell a (by have := HM.out; omega)
              have HCE : Hid (∀ w', Row w' l Y → w'.cell? ⟨l, a, none⟩ = some (.int .i64 (Y.getD a 0))) := hCE
              clear t1 t2 t3 hCE
              generalize Y.getD a 0 = ya at *
              go_wp2
              go_loopg [12] a (fun q2 s12 wx => ∃ b : Nat, b + q2 = a ∧ s12 = .int .i64 b ∧ Hid (∃ j, wx = wo.drewN j))
              case atStart => exact ⟨0, by omega, rfl, 0, rfl⟩
              case round =>
                obtain ⟨b, hbq, rfl, HD⟩ := hrel
                have HB : Hid (Below wo.heap.size wo wr) := by obtain ⟨j, hj⟩ := HD.out; rw [hj]; exact below_drewN _ _
                have HL2 : Hid (Row wr l Y) := HL.out.below HB.out
                have HR2 : Hid (Ring wr p g K Y) := HR.out.below HB.out
                have ka := HCE.out _ HL2.out
                cases gk with
                | zero =>
                  have hba : ¬ ((b : Int) < a) := by omega
                  have hB2 := hB.trans (HB.out.mono hB.size)
                  clear HB HD
                  go_wp2_with (first
                    | (go_at_call 9; refine (put_is HR2.out ya HT.out.1 HT.out.2.1).mono ?_; rintro e v1 ⟨rfl, hr, hb⟩; have R1 : Hid (Ring v1 p g K Y) := hr; have L1 : Hid (Row v1 l Y) := HL2.out.buts hb (two_mem hLp hLg); have k1 := HCE.out _ L1.out; replace hB2 := hB2.trans (two_below hb hp0 hg0 hB2.size); clear hr hb)
                    | (go_at_call 10; refine (push_is R1.out ya HT.out.1 HT.out.2.2).mono ?_; rintro e v2 ⟨rfl, hr, hb⟩; have R2 : Hid (Ring v2 p g K Y) := hr; have L2 : Hid (Row v2 l Y) := L1.out.buts hb (two_mem hLp hLg); replace hB2 := hB2.trans (two_below hb hp0 hg0 hB2.size); clear hr hb))
                  go_roundg q'
                  case measure => omega
                  case rel => exact ⟨a + 1, by omega, by go_num, R2, L2, hB2⟩
                | succ q2 =>
                  have hba : (b : Int) < a := by omega
                  have hbm : (b : Int) < m := by omega
                  have hne := HN.out b (by omega)
                  have kb := HL2.out.cell b (by have := HM.out; omega)
                  generalize Y.getD b 0 = yb at *
                  go_wp2
                  go_quiet ((fail))
                  go_wp2
                  go_roundg q2
                  case measure => omega
                  case rel => exact ⟨b + 1, by omega, by go_num, by obtain ⟨j, hj⟩ := HD.out; exact ⟨_, by rw [hj, World.drewN_drewN]⟩⟩
end Go.Proofs.Ytppookpacdheaaa
