/- 'DeltasApart' walked. -/
import Derived.Test.YtdifgjioaikchaaWk
namespace Go.Proofs.Ytdifgjioaikchaa
open Go Go.RowKit
set_option maxRecDepth 100000
set_option linter.unusedVariables false
set_option linter.unusedSimpArgs false
theorem aftN (ys : List (Int × Int)) (s : Nat) : rest (aft ys (s : Int)) = aft ys ((s + 1 : Nat) : Int) := by
  rw [aft_rest, show ((s + 1 : Nat) : Int) = (s : Int) + 1 by omega]
/-- of the first ones but k, those that wake at a tick -/
def gt (zs : List Int) (k j : Nat) (t : Int) : List Int := atT (gone (fil zs j) (k : Int)) t
theorem gone_app (a b : List (Int × Int)) (who : Int) : gone (a ++ b) who = gone a who ++ gone b who := by simp [gone]
theorem gt_same {zs : List Int} {k j : Nat} {t : Int} (h : j = k) : gt zs k (j + 1) t = gt zs k j t := by
  unfold gt
  rw [fil_succ, gone_app, h]
  simp [gone]
theorem gt_yes {zs : List Int} {k j : Nat} {t : Int} (h : ¬ j = k) (hz : zs.getD j 0 = t) : gt zs k (j + 1) t = gt zs k j t ++ [(j : Int)] := by
  have h' : ¬ (j : Int) = (k : Int) := by omega
  unfold gt
  rw [fil_succ, gone_app, atT_app, hz]
  congr 1
  simp [gone, atT, h']
theorem gt_no {zs : List Int} {k j : Nat} {t : Int} (h : ¬ j = k) (hz : zs.getD j 0 ≠ t) : gt zs k (j + 1) t = gt zs k j t := by
  have h' : ¬ (j : Int) = (k : Int) := by omega
  unfold gt
  rw [fil_succ, gone_app, atT_app]
  have e : atT (gone [((j : Int), zs.getD j 0 + 1)] (k : Int)) t = [] := by
    have : gone [((j : Int), zs.getD j 0 + 1)] (k : Int) = [((j : Int), zs.getD j 0 + 1)] := by
      unfold gone
      rw [List.filter_cons, if_pos (decide_eq_true h')]
      rfl
    rw [this]
    unfold atT
    rw [List.filter_cons, if_neg (fun e => hz (by have := of_decide_eq_true e; simp only at this; omega))]
    rfl
  rw [e, List.append_nil]
theorem gt_len (zs : List Int) (k j : Nat) (t : Int) : (gt zs k j t).length ≤ j := by
  have h1 := atT_len (gone (fil zs j) (k : Int)) t
  have h2 := gone_len (fil zs j) (k : Int)
  rw [fil_len] at h2
  unfold gt
  omega
set_option maxHeartbeats 8000000 in
theorem apart_any {B : Nat} {w : World} {sp : Option Addr} {zs : List Int} (hs : BSrc B w sp zs) (hB : w.heap.size = B) (hm : zs.length ≤ maxLen) (c : Nat) (wh again : Int) (hh : 0 ≤ wh ∧ wh ≤ 255) (ho : 0 ≤ again ∧ again ≤ 255) :
    Calls Try.prog 6 #[.slice sp zs.length c, .int .u8 wh, .int .u8 again] w fun e w' => e = .returned (.bool true) ∧ Below B w w' := by
  have HB0 : Hid (Below B w w) := Below.refl _ _
  have HZ : Hid (w.heap.size = B) := hB
  have HS : Hid (BSrc B w sp zs) := hs
  simp only [maxLen] at hm
  by_cases hl : zs.length ≤ 60 ∧ 0 < zs.length
  · have hlen : ¬ (60 : Int) < (zs.length : Int) := by omega
    have hlen0 : ¬ (zs.length : Int) = 0 := by omega
    have HF1 : Hid (∀ w1, Below B w w1 → Calls Try.prog 14 #[.slice sp zs.length c] w1 fun e w' => e = .returned (.pointer (some ⟨w1.heap.size, 0, none⟩)) ∧ At B w w' w1.heap.size (fil zs zs.length)) := fun w1 hb => (filled_any hs (by omega) c hB hb).mono (by rintro e w' ⟨rfl, h, _⟩; exact ⟨rfl, h⟩)
    have HLO0 : Hid (∀ y ∈ fil zs zs.length, 1 ≤ y.2) := fun y hy => by
      obtain ⟨k, hk, rfl⟩ := fil_mem hy
      have := hs.at k
      show 1 ≤ zs.getD k 0 + 1
      omega
    obtain ⟨n, hn⟩ : ∃ n, zs.length = n := ⟨_, rfl⟩
    have HN0 : Hid (zs.length = n) := hn
    rw [hn] at hlen hlen0 HF1 hl HLO0 ⊢
    have hnn : ¬ n = 0 := by omega
    have hw1 : IntKind.i64.wrap wh = wh := by rw [IntKind.wrap_i64]; omega
    have hw2 : IntKind.i64.wrap again = again := by rw [IntKind.wrap_i64]; omega
    obtain ⟨k, hk0⟩ := Int.eq_ofNat_of_zero_le (show 0 ≤ Int.tmod wh (n : Int) from Int.tmod_nonneg _ hh.1)
    have hkn : k < n := by have := Int.tmod_lt_of_pos wh (show (0 : Int) < (n : Int) by omega); omega
    have hwt : IntKind.i64.wrap (Int.tmod wh (n : Int)) = (k : Int) := by rw [hk0, IntKind.wrap_i64]; omega
    have hhas : has (fil zs n) (k : Int) = true := has_yes.2 ⟨((k : Int), zs.getD k 0 + 1), List.mem_map.2 ⟨k, List.mem_range.2 hkn, rfl⟩, rfl⟩
    have hno : has (gone (fil zs n) (k : Int)) (k : Int) = false := has_no.2 (fun y hy => by simpa using (List.mem_filter.1 hy).2)
    have HR1 : Hid (remE (fil zs n) (k : Int) = 0) := by show _ = _; rw [remE, hhas]; rfl
    have HR2 : Hid (remE (gone (fil zs n) (k : Int)) (k : Int) = 1 ∧ gone (gone (fil zs n) (k : Int)) (k : Int) = gone (fil zs n) (k : Int)) := ⟨by rw [remE, hno]; rfl, gone_no hno⟩
    have HGL : Hid ((gone (fil zs n) (k : Int)).length < 1000) := by show _ < _; have := gone_len (fil zs n) (k : Int); rw [fil_len] at this; omega
    have HLOG : Hid (∀ y ∈ gone (fil zs n) (k : Int), 1 ≤ y.2) := fun y hy => HLO0.out y (List.mem_filter.1 hy).1
    by_cases hag0 : again = 0
    · have hag1 : ¬ (0 : Int) < again := by omega
      obtain ⟨Z, hZ⟩ : ∃ Z, gone (fil zs n) (k : Int) = Z := ⟨_, rfl⟩
      have HAT : Hid (∀ t : Nat, atT Z (t : Int) = gt zs k n (t : Int) ++ (if again = (t : Int) + 1 then [(k : Int)] else [])) := fun t => by
        rw [if_neg (by omega), List.append_nil, ← hZ]
        rfl
      have HLO : Hid (∀ y ∈ Z, 1 ≤ y.2) := by rw [← hZ]; exact HLOG
      rw [hZ] at HR2
      have HZG : Hid (gone (fil zs n) (k : Int) = Z) := hZ
      clear hs hB hn hm hhas hno hZ hh HGL HLOG HLO0
      go_enter Try.func6, Try.ntmps6
      go_wp2_with (first
        | (go_at_call 13; refine (alive_any _).mono ?_; rintro e w1 ⟨rfl, hb⟩; have H1 : Hid (Below B w w1) := HB0.out.trans (hb.mono (by have := HZ.out; omega)); clear hb HB0)
        | (go_at_call 13; exact absurd ‹(60 : Int) < (n : Int) ∨ ((n : Int) == 0) = true› (by simp; omega))
        | (go_at_call 14; refine (HF1.out w1 H1.out).mono ?_; rintro e w2 ⟨rfl, ha⟩; have H2 : Hid (At B w w2 w1.heap.size (fil zs n)) := ha; clear ha H1)
        | (go_at_call 10; refine (rem_at H2.out (k : Int) HR1.out HZG.out).mono ?_; rintro e w3 ⟨rfl, ha, hk⟩; have H3a : Hid (At B w w3 w1.heap.size Z) := ha; clear ha hk H2)
        | (go_at_call 10; refine (rem_at H3a.out (k : Int) HR2.out.1 HR2.out.2).mono ?_; rintro e w4 ⟨rfl, ha, hk⟩; have HW0 : Hid (At B w w4 w1.heap.size Z) := ha; clear ha hk H3a))
      clear HR1 HR2 HF1 HZG
      generalize w1.heap.size = p at *
      have H3 : Hid (At B w w4 p (aft Z ((0 : Nat) : Int))) := by
        have := HW0.out
        have e : aft Z ((0 : Nat) : Int) = Z := aft_zero HLO.out
        show At _ _ _ _ _
        rw [e]; exact this
      clear HW0
      go_loopg [9] 257 (fun g s9 wx => ∃ i : Nat, i + g = 257 ∧ s9 = .int .i64 (i : Int) ∧ Hid (At B w wx p (aft Z (i : Int))))
      case atStart => exact ⟨0, by omega, rfl, H3⟩
      case round =>
        clear H3
        obtain ⟨i, hiq, rfl, HA⟩ := hrel
        cases gk with
        | zero =>
          have hlt : ¬ ((i : Int) ≤ 256) := by omega
          go_wp2
          go_ret
          exact ⟨rfl, HA.out.2.1⟩
        | succ g =>
          have hlt : (i : Int) ≤ 256 := by omega
          have RW0 : Hid (wr.ownsRow B 3 1 (.slice none 0 0) 0 (num (gt zs k 0 (i : Int)))) := nil_own _ _
          have hw1 : IntKind.i64.wrap ((i : Int) + 1) = (i : Int) + 1 := by rw [IntKind.wrap_i64]; omega
          go_wp2
          go_loopg [10, 11] n (fun g6 s5 s6 wx => ∃ (j N : Nat) (vs : Option Addr) (vc : Nat), j + g6 = n ∧ s6 = .int .i64 (j : Int) ∧ s5 = .slice vs N vc ∧ Hid (At B w wx p (aft Z (i : Int))) ∧ Hid (wx.ownsRow B 3 1 (.slice vs N vc) N (num (gt zs k j (i : Int)))))
          case atStart => exact ⟨0, 0, none, 0, by omega, rfl, rfl, HA, RW0⟩
          case round =>
            clear HA RW0
            obtain ⟨j, N, vs, vc, hjq, rfl, rfl, HA, RW⟩ := hrel
            have hNl : N ≤ 100 := by
              have h1 := RW.out.1
              rw [num_len, Nat.mul_one] at h1
              have h2 := gt_len zs k j (i : Int)
              omega
            have hBw : B ≤ wr.heap.size := HA.out.size
            cases gk with
            | zero =>
              obtain rfl : j = n := by omega
              have hlt2 : ¬ ((j : Int) < (j : Int)) := by omega
              have HW : Hid (woke (aft Z (i : Int)) = gt zs k j (i : Int) ++ (if again = (i : Int) + 1 then [(k : Int)] else [])) := by
                show _ = _
                rw [aft_woke, HAT.out]
              have HR : Hid (rest (aft Z (i : Int)) = aft Z ((i + 1 : Nat) : Int)) := aftN _ _
              have HNN : Hid ((gt zs k j (i : Int)).length = N) := by
                have h1 := RW.out.1
                rw [num_len, Nat.mul_one] at h1
                exact h1
              by_cases hag : again = (i : Int) + 1
              · exact absurd hag (by omega)
              · rw [if_neg hag, List.append_nil] at HW
                go_wp2_with (first
                  | (go_at_call 11; refine (tick_at HA.out HW.out HNN.out HR.out).mono ?_; rintro e w4 ⟨us, uc, rfl, hr, ha, hk⟩; have H4 : Hid (At B w w4 p (aft Z ((i + 1 : Nat) : Int))) := ha; have R1 : Hid (w4.ownsRow B 3 1 (.slice us N uc) N (num (gt zs k j (i : Int)))) := hr; have R2 : Hid (w4.ownsRow B 3 1 (.slice vs N vc) N (num (gt zs k j (i : Int)))) := owns_kw RW.out hk; clear hr ha hk HA RW)
                  | (go_at_call 15; refine (same_at R1.out R2.out (by omega)).mono ?_; rintro e w5 ⟨rfl, hb⟩; have H5 : Hid (At B w w5 p (aft Z ((i + 1 : Nat) : Int))) := H4.out.below hb; clear hb H4 R1 R2))
                go_roundg g
                case measure => omega
                case rel => exact ⟨i + 1, by omega, by go_num, H5⟩
            | succ g6 =>
              have hlt2 : (j : Int) < (n : Int) := by omega
              obtain ⟨b, off, hsp, hbB, hc⟩ := HS.out.spot (by have := HN0.out; omega)
              subst hsp
              have k1 := (HA.out.2.1.cell (p := ⟨b, off + j, none⟩) hbB).trans (hc j (by have := HN0.out; omega))
              have hz := HS.out.at j
              have hw2 : IntKind.i64.wrap ((j : Int) + 1) = (j : Int) + 1 := by rw [IntKind.wrap_i64]; omega
              clear hc
              by_cases hjk : j = k
              · have hjk' : (j : Int) = (k : Int) := by omega
                have HY : Hid (gt zs k (j + 1) (i : Int) = gt zs k j (i : Int)) := gt_same hjk
                clear hjk k1 hz
                go_wp2
                have R7 : Hid (wr.ownsRow B 3 1 (.slice vs N vc) N (num (gt zs k (j + 1) (i : Int)))) := by
                  have := RW.out
                  rw [← HY.out] at this
                  exact this
                go_roundg g6
                case measure => omega
                case rel => exact ⟨j + 1, N, _, _, by omega, by go_num, rfl, HA, R7⟩
              · have hjk' : ¬ (j : Int) = (k : Int) := by omega
                have hb1 : ((j : Int) == (k : Int)) = false := by simpa using hjk'
                by_cases heq : zs.getD j 0 = (i : Int)
                · have HY : Hid (gt zs k (j + 1) (i : Int) = gt zs k j (i : Int) ++ [(j : Int)]) := gt_yes hjk heq
                  rw [heq] at k1 hz
                  have hwz : IntKind.i64.wrap (i : Int) = (i : Int) := by rw [IntKind.wrap_i64]; omega
                  clear heq
                  go_wp2_with (at_builtin; refine wpList_want rfl _ _ rfl rfl (x := (j : Int)) rfl rfl RW.out (by omega) hBw ?_; intro g' c' w7 RW' HB' HK')
                  have H7 : Hid (At B w w7 p (aft Z (i : Int))) := HA.out.grow HB'.out HK'.out
                  have R7 : Hid (w7.ownsRow B 3 1 (.slice (some ⟨g', 0, none⟩) (N + 1) c') (N + 1) (num (gt zs k (j + 1) (i : Int)))) := by
                    have := RW'.out
                    rw [← HY.out] at this
                    exact this
                  go_roundg g6
                  case measure => omega
                  case rel => exact ⟨j + 1, N + 1, _, _, by omega, by go_num, rfl, H7, R7⟩
                · have HY : Hid (gt zs k (j + 1) (i : Int) = gt zs k j (i : Int)) := gt_no hjk heq
                  generalize zs.getD j 0 = z at *
                  have hwz : IntKind.i64.wrap z = z := by rw [IntKind.wrap_i64]; omega
                  have hb2 : (z == (i : Int)) = false := by simpa using heq
                  go_wp2
                  have R7 : Hid (wr.ownsRow B 3 1 (.slice vs N vc) N (num (gt zs k (j + 1) (i : Int)))) := by
                    have := RW.out
                    rw [← HY.out] at this
                    exact this
                  go_roundg g6
                  case measure => omega
                  case rel => exact ⟨j + 1, N, _, _, by omega, by go_num, rfl, HA, R7⟩
    · have hag1 : (0 : Int) < again := by omega
      obtain ⟨Z, hZ⟩ : ∃ Z, gone (fil zs n) (k : Int) ++ [((k : Int), again)] = Z := ⟨_, rfl⟩
      have HAT : Hid (∀ t : Nat, atT Z (t : Int) = gt zs k n (t : Int) ++ (if again = (t : Int) + 1 then [(k : Int)] else [])) := fun t => by
        rw [← hZ, atT_app]
        unfold gt
        congr 1
        by_cases h : again = (t : Int) + 1
        · rw [if_pos h, h]; simp [atT]
        · rw [if_neg h]
          unfold atT
          rw [List.filter_cons, if_neg (fun e => h (of_decide_eq_true e))]
          rfl
      have HLO : Hid (∀ y ∈ Z, 1 ≤ y.2) := fun y hy => by
        rw [← hZ] at hy
        rcases List.mem_append.1 hy with hy | hy
        · exact HLOG.out y hy
        · have : y = ((k : Int), again) := by simpa using hy
          rw [this]; show 1 ≤ again; omega
      have hb : ¬ badArg (k : Int) again := by unfold badArg; omega
      have HP : Hid (putE (gone (fil zs n) (k : Int)) (k : Int) again = 0 ∧ putL (gone (fil zs n) (k : Int)) (k : Int) again = Z) := ⟨by rw [putE, if_neg hb, hno]; rfl, by rw [putL, if_neg hb, hno, ← hZ]; rfl⟩
      clear hs hB hn hm hhas hno hZ hh HLOG HLO0 hb
      go_enter Try.func6, Try.ntmps6
      go_wp2_with (first
        | (go_at_call 13; refine (alive_any _).mono ?_; rintro e w1 ⟨rfl, hb⟩; have H1 : Hid (Below B w w1) := HB0.out.trans (hb.mono (by have := HZ.out; omega)); clear hb HB0)
        | (go_at_call 13; exact absurd ‹(60 : Int) < (n : Int) ∨ ((n : Int) == 0) = true› (by simp; omega))
        | (go_at_call 14; refine (HF1.out w1 H1.out).mono ?_; rintro e w2 ⟨rfl, ha⟩; have H2 : Hid (At B w w2 w1.heap.size (fil zs n)) := ha; clear ha H1)
        | (go_at_call 10; refine (rem_at H2.out (k : Int) HR1.out rfl).mono ?_; rintro e w3 ⟨rfl, ha, hk⟩; have H3a : Hid (At B w w3 w1.heap.size (gone (fil zs n) (k : Int))) := ha; clear ha hk H2)
        | (go_at_call 10; refine (rem_at H3a.out (k : Int) HR2.out.1 HR2.out.2).mono ?_; rintro e w4 ⟨rfl, ha, hk⟩; have H4a : Hid (At B w w4 w1.heap.size (gone (fil zs n) (k : Int))) := ha; clear ha hk H3a)
        | (go_at_call 9; refine (put_at H4a.out (k : Int) again HGL.out HP.out.1 HP.out.2).mono ?_; rintro e w5 ⟨rfl, ha, hk⟩; have HW0 : Hid (At B w w5 w1.heap.size Z) := ha; clear ha hk H4a))
      clear HR1 HR2 HF1 HP HGL
      generalize w1.heap.size = p at *
      have H3 : Hid (At B w w5 p (aft Z ((0 : Nat) : Int))) := by
        have := HW0.out
        have e : aft Z ((0 : Nat) : Int) = Z := aft_zero HLO.out
        show At _ _ _ _ _
        rw [e]; exact this
      clear HW0
      go_loopg [9] 257 (fun g s9 wx => ∃ i : Nat, i + g = 257 ∧ s9 = .int .i64 (i : Int) ∧ Hid (At B w wx p (aft Z (i : Int))))
      case atStart => exact ⟨0, by omega, rfl, H3⟩
      case round =>
        clear H3
        obtain ⟨i, hiq, rfl, HA⟩ := hrel
        cases gk with
        | zero =>
          have hlt : ¬ ((i : Int) ≤ 256) := by omega
          go_wp2
          go_ret
          exact ⟨rfl, HA.out.2.1⟩
        | succ g =>
          have hlt : (i : Int) ≤ 256 := by omega
          have RW0 : Hid (wr.ownsRow B 3 1 (.slice none 0 0) 0 (num (gt zs k 0 (i : Int)))) := nil_own _ _
          have hw1 : IntKind.i64.wrap ((i : Int) + 1) = (i : Int) + 1 := by rw [IntKind.wrap_i64]; omega
          go_wp2
          go_loopg [10, 11] n (fun g6 s5 s6 wx => ∃ (j N : Nat) (vs : Option Addr) (vc : Nat), j + g6 = n ∧ s6 = .int .i64 (j : Int) ∧ s5 = .slice vs N vc ∧ Hid (At B w wx p (aft Z (i : Int))) ∧ Hid (wx.ownsRow B 3 1 (.slice vs N vc) N (num (gt zs k j (i : Int)))))
          case atStart => exact ⟨0, 0, none, 0, by omega, rfl, rfl, HA, RW0⟩
          case round =>
            clear HA RW0
            obtain ⟨j, N, vs, vc, hjq, rfl, rfl, HA, RW⟩ := hrel
            have hNl : N ≤ 100 := by
              have h1 := RW.out.1
              rw [num_len, Nat.mul_one] at h1
              have h2 := gt_len zs k j (i : Int)
              omega
            have hBw : B ≤ wr.heap.size := HA.out.size
            cases gk with
            | zero =>
              obtain rfl : j = n := by omega
              have hlt2 : ¬ ((j : Int) < (j : Int)) := by omega
              have HW : Hid (woke (aft Z (i : Int)) = gt zs k j (i : Int) ++ (if again = (i : Int) + 1 then [(k : Int)] else [])) := by
                show _ = _
                rw [aft_woke, HAT.out]
              have HR : Hid (rest (aft Z (i : Int)) = aft Z ((i + 1 : Nat) : Int)) := aftN _ _
              have HNN : Hid ((gt zs k j (i : Int)).length = N) := by
                have h1 := RW.out.1
                rw [num_len, Nat.mul_one] at h1
                exact h1
              by_cases hag : again = (i : Int) + 1
              · rw [if_pos hag] at HW
                have HN1 : Hid ((gt zs k j (i : Int) ++ [(k : Int)]).length = N + 1) := by
                  show _ = _
                  rw [List.length_append, HNN.out]
                  rfl
                clear HNN
                go_wp2_with (first
                  | (at_builtin; refine wpList_want rfl _ _ rfl rfl (x := (k : Int)) rfl rfl RW.out (by omega) hBw ?_; intro g' c' w7 RW' HB' HK'; have H7 : Hid (At B w w7 p (aft Z (i : Int))) := HA.out.grow HB'.out HK'.out; clear HA RW HB' HK')
                  | (go_at_call 11; refine (tick_at H7.out HW.out HN1.out HR.out).mono ?_; rintro e w4 ⟨us, uc, rfl, hr, ha, hk⟩; have H4 : Hid (At B w w4 p (aft Z ((i + 1 : Nat) : Int))) := ha; have R1 : Hid (w4.ownsRow B 3 1 (.slice us (N + 1) uc) (N + 1) (num (gt zs k j (i : Int) ++ [(k : Int)]))) := hr; have R2 : Hid (w4.ownsRow B 3 1 (.slice (some ⟨g', 0, none⟩) (N + 1) c') (N + 1) (num (gt zs k j (i : Int) ++ [(k : Int)]))) := owns_kw RW'.out hk; clear hr ha hk H7 RW')
                  | (go_at_call 15; refine (same_at R1.out R2.out (by omega)).mono ?_; rintro e w5 ⟨rfl, hb⟩; have H5 : Hid (At B w w5 p (aft Z ((i + 1 : Nat) : Int))) := H4.out.below hb; clear hb H4 R1 R2))
                try rw [← hag]
                go_roundg g
                case measure => omega
                case rel => exact ⟨i + 1, by omega, by first | go_num | (congr 1; omega), H5⟩
              · rw [if_neg hag, List.append_nil] at HW
                go_wp2_with (first
                  | (go_at_call 11; refine (tick_at HA.out HW.out HNN.out HR.out).mono ?_; rintro e w4 ⟨us, uc, rfl, hr, ha, hk⟩; have H4 : Hid (At B w w4 p (aft Z ((i + 1 : Nat) : Int))) := ha; have R1 : Hid (w4.ownsRow B 3 1 (.slice us N uc) N (num (gt zs k j (i : Int)))) := hr; have R2 : Hid (w4.ownsRow B 3 1 (.slice vs N vc) N (num (gt zs k j (i : Int)))) := owns_kw RW.out hk; clear hr ha hk HA RW)
                  | (go_at_call 15; refine (same_at R1.out R2.out (by omega)).mono ?_; rintro e w5 ⟨rfl, hb⟩; have H5 : Hid (At B w w5 p (aft Z ((i + 1 : Nat) : Int))) := H4.out.below hb; clear hb H4 R1 R2))
                go_roundg g
                case measure => omega
                case rel => exact ⟨i + 1, by omega, by go_num, H5⟩
            | succ g6 =>
              have hlt2 : (j : Int) < (n : Int) := by omega
              obtain ⟨b, off, hsp, hbB, hc⟩ := HS.out.spot (by have := HN0.out; omega)
              subst hsp
              have k1 := (HA.out.2.1.cell (p := ⟨b, off + j, none⟩) hbB).trans (hc j (by have := HN0.out; omega))
              have hz := HS.out.at j
              have hw2 : IntKind.i64.wrap ((j : Int) + 1) = (j : Int) + 1 := by rw [IntKind.wrap_i64]; omega
              clear hc
              by_cases hjk : j = k
              · have hjk' : (j : Int) = (k : Int) := by omega
                have HY : Hid (gt zs k (j + 1) (i : Int) = gt zs k j (i : Int)) := gt_same hjk
                clear hjk k1 hz
                go_wp2
                have R7 : Hid (wr.ownsRow B 3 1 (.slice vs N vc) N (num (gt zs k (j + 1) (i : Int)))) := by
                  have := RW.out
                  rw [← HY.out] at this
                  exact this
                go_roundg g6
                case measure => omega
                case rel => exact ⟨j + 1, N, _, _, by omega, by go_num, rfl, HA, R7⟩
              · have hjk' : ¬ (j : Int) = (k : Int) := by omega
                have hb1 : ((j : Int) == (k : Int)) = false := by simpa using hjk'
                by_cases heq : zs.getD j 0 = (i : Int)
                · have HY : Hid (gt zs k (j + 1) (i : Int) = gt zs k j (i : Int) ++ [(j : Int)]) := gt_yes hjk heq
                  rw [heq] at k1 hz
                  have hwz : IntKind.i64.wrap (i : Int) = (i : Int) := by rw [IntKind.wrap_i64]; omega
                  clear heq
                  go_wp2_with (at_builtin; refine wpList_want rfl _ _ rfl rfl (x := (j : Int)) rfl rfl RW.out (by omega) hBw ?_; intro g' c' w7 RW' HB' HK')
                  have H7 : Hid (At B w w7 p (aft Z (i : Int))) := HA.out.grow HB'.out HK'.out
                  have R7 : Hid (w7.ownsRow B 3 1 (.slice (some ⟨g', 0, none⟩) (N + 1) c') (N + 1) (num (gt zs k (j + 1) (i : Int)))) := by
                    have := RW'.out
                    rw [← HY.out] at this
                    exact this
                  go_roundg g6
                  case measure => omega
                  case rel => exact ⟨j + 1, N + 1, _, _, by omega, by go_num, rfl, H7, R7⟩
                · have HY : Hid (gt zs k (j + 1) (i : Int) = gt zs k j (i : Int)) := gt_no hjk heq
                  generalize zs.getD j 0 = z at *
                  have hwz : IntKind.i64.wrap z = z := by rw [IntKind.wrap_i64]; omega
                  have hb2 : (z == (i : Int)) = false := by simpa using heq
                  go_wp2
                  have R7 : Hid (wr.ownsRow B 3 1 (.slice vs N vc) N (num (gt zs k (j + 1) (i : Int)))) := by
                    have := RW.out
                    rw [← HY.out] at this
                    exact this
                  go_roundg g6
                  case measure => omega
                  case rel => exact ⟨j + 1, N, _, _, by omega, by go_num, rfl, HA, R7⟩
  · have HC : Hid (zs.length ≤ 60 → zs.length = 0) := fun h => by omega
    by_cases h60 : (60 : Int) < (zs.length : Int)
    · clear hs hl
      go_enter Try.func6, Try.ntmps6
      go_wp2_with (first
        | (go_at_call 13; refine (alive_any _).mono ?_; rintro e w1 ⟨rfl, hb⟩; have H1 : Hid (Below B w w1) := HB0.out.trans (hb.mono (by have := HZ.out; omega)); clear hb HB0)
        | (go_at_call 13; refine (alive_any _).mono ?_; rintro e w2 ⟨rfl, hb⟩; have H2 : Hid (Below B w w2) := H1.out.trans (hb.mono (by have := H1.out.size; have := HZ.out; omega)); clear hb H1))
      go_ret
      exact ⟨rfl, H2.out⟩
    · have h0 : zs.length = 0 := by omega
      rw [h0]
      clear hs hl h60 hm h0 HC HS
      go_enter Try.func6, Try.ntmps6
      go_wp2_with (first
        | (go_at_call 13; refine (alive_any _).mono ?_; rintro e w1 ⟨rfl, hb⟩; have H1 : Hid (Below B w w1) := HB0.out.trans (hb.mono (by have := HZ.out; omega)); clear hb HB0)
        | (go_at_call 13; refine (alive_any _).mono ?_; rintro e w2 ⟨rfl, hb⟩; have H2 : Hid (Below B w w2) := H1.out.trans (hb.mono (by have := H1.out.size; have := HZ.out; omega)); clear hb H1))
      go_ret
      exact ⟨rfl, H2.out⟩
end Go.Proofs.Ytdifgjioaikchaa
