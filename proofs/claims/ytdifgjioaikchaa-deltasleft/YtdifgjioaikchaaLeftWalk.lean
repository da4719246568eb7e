/- 'DeltasLeft' walked. -/
import Derived.Test.YtdifgjioaikchaaWk
namespace Go.Proofs.Ytdifgjioaikchaa
open Go Go.RowKit
set_option maxRecDepth 100000
set_option linter.unusedVariables false
set_option linter.unusedSimpArgs false
theorem aftN (ys : List (Int × Int)) (s : Nat) : rest (aft ys (s : Int)) = aft ys ((s + 1 : Nat) : Int) := by
  rw [aft_rest, show ((s + 1 : Nat) : Int) = (s : Int) + 1 by omega]
/-- ahead of another one: fewer ticks are left, or it was put ahead of it -/
def Rk (x y : Int × Int) : Prop := x.2 < y.2 ∨ (x.2 = y.2 ∧ x.1 < y.1)
theorem ins_rk {xs : List (Int × Int)} {y : Int × Int} (h : xs.Pairwise Rk) (hy : ∀ x ∈ xs, x.1 < y.1) : (ins xs y).Pairwise Rk := by
  induction xs with
  | nil => simp [ins]
  | cons x r ih =>
    have hr := (List.pairwise_cons.1 h).2
    have hx := (List.pairwise_cons.1 h).1
    by_cases c : x.2 ≤ y.2
    · simp only [ins, c, if_true]
      refine List.pairwise_cons.2 ⟨fun z hz => ?_, ih hr (fun z hz => hy z (by simp [hz]))⟩
      rcases List.mem_cons.1 ((ins_perm r y).mem_iff.1 hz) with e | e
      · subst e
        have := hy x (by simp)
        unfold Rk
        omega
      · exact hx z e
    · simp only [ins, c, if_false]
      refine List.pairwise_cons.2 ⟨fun z hz => ?_, h⟩
      rcases List.mem_cons.1 hz with e | e
      · subst e; unfold Rk; omega
      · have := hx z e
        unfold Rk at *
        omega
theorem srt_rk {ys : List (Int × Int)} (h : ys.Pairwise (fun a b => a.1 < b.1)) : (srt ys).Pairwise Rk := by
  revert h
  refine snoc_ind (P := fun ys => ys.Pairwise (fun a b => a.1 < b.1) → (srt ys).Pairwise Rk) (fun _ => by simp [srt]) (fun ys y ih h => ?_) ys
  rw [srt_snoc]
  have h' := List.pairwise_append.1 h
  exact ins_rk (ih h'.1) (fun x hx => h'.2.2 x (srt_mem.1 hx) y (by simp))
theorem fil_inc (zs : List Int) (n : Nat) : (fil zs n).Pairwise (fun a b => a.1 < b.1) := by
  induction n with
  | zero => simp [fil]
  | succ n ih =>
    rw [fil_succ]
    refine List.pairwise_append.2 ⟨ih, by simp, fun a ha b hb => ?_⟩
    obtain ⟨k, hk, rfl⟩ := fil_mem ha
    have : b = ((n : Int), zs.getD n 0 + 1) := by simpa using hb
    rw [this]
    show (k : Int) < (n : Int)
    omega
theorem aft_inc {ys : List (Int × Int)} (h : ys.Pairwise (fun a b => a.1 < b.1)) (t : Int) : (aft ys t).Pairwise (fun a b => a.1 < b.1) := by
  unfold aft
  rw [List.pairwise_map]
  exact (h.filter _).imp (fun h => h)
theorem aft_mem {zs : List Int} {n : Nat} {g : Int} {y : Int × Int} (h : y ∈ aft (fil zs n) g) : ∃ k : Nat, k < n ∧ y = ((k : Int), zs.getD k 0 + 1 - g) ∧ g < zs.getD k 0 + 1 := by
  obtain ⟨z, hz, rfl⟩ := List.mem_map.1 h
  have h1 := List.mem_filter.1 hz
  obtain ⟨k, hk, rfl⟩ := fil_mem h1.1
  exact ⟨k, hk, rfl, by simpa using h1.2⟩
theorem aft_in {zs : List Int} {n k : Nat} {g : Int} (hk : k < n) (h : g < zs.getD k 0 + 1) : ((k : Int), zs.getD k 0 + 1 - g) ∈ aft (fil zs n) g :=
  List.mem_map.2 ⟨((k : Int), zs.getD k 0 + 1), List.mem_filter.2 ⟨List.mem_map.2 ⟨k, List.mem_range.2 hk, rfl⟩, by simpa using h⟩, rfl⟩
theorem left_yes {zs : List Int} {n k : Nat} {g : Int} (hg : Good (aft (fil zs n) g)) (hk : k < n) (h : g < zs.getD k 0 + 1) : leftV (aft (fil zs n) g) (k : Int) = zs.getD k 0 + 1 - g ∧ remE (aft (fil zs n) g) (k : Int) = 0 := by
  have hm := aft_in hk h
  refine ⟨leftV_at hg.keys hm, ?_⟩
  rw [remE, has_yes.2 ⟨_, hm, rfl⟩]
  rfl
theorem left_no {zs : List Int} {n k : Nat} {g : Int} (h : ¬ g < zs.getD k 0 + 1) : leftV (aft (fil zs n) g) (k : Int) = 0 ∧ remE (aft (fil zs n) g) (k : Int) = 1 := by
  have hn : has (aft (fil zs n) g) (k : Int) = false := has_no.2 (fun y hy e => by
    obtain ⟨j, hj, rfl, hg⟩ := aft_mem hy
    have : (j : Int) = (k : Int) := e
    have : j = k := by omega
    subst this
    exact h hg)
  exact ⟨leftV_no hn, by rw [remE, hn]; rfl⟩
/-- how many of the first ones are left -/
def cn (zs : List Int) (g : Int) (j : Nat) : Nat := (aft (fil zs j) g).length
theorem cn_yes {zs : List Int} {g : Int} {j : Nat} (h : g < zs.getD j 0 + 1) : cn zs g (j + 1) = cn zs g j + 1 := by
  unfold cn aft
  rw [fil_succ, List.filter_append, List.map_append, List.length_append]
  rw [List.filter_cons, if_pos (decide_eq_true h)]
  rfl
theorem cn_no {zs : List Int} {g : Int} {j : Nat} (h : ¬ g < zs.getD j 0 + 1) : cn zs g (j + 1) = cn zs g j := by
  unfold cn aft
  rw [fil_succ, List.filter_append, List.map_append, List.length_append]
  rw [List.filter_cons, if_neg (fun e => h (of_decide_eq_true e))]
  rfl
theorem cn_le (zs : List Int) (g : Int) (j : Nat) : cn zs g j ≤ j := by
  unfold cn aft
  rw [List.length_map]
  exact Nat.le_trans (List.length_filter_le _ _) (by rw [fil_len]; exact Nat.le_refl _)
/-- two that stand side by side -/
theorem side {zs : List Int} {n : Nat} {g : Int} {k : Nat} (hk : k + 1 < (aft (fil zs n) g).length) :
    ∃ a b : Nat, a < n ∧ b < n ∧ (allOf (aft (fil zs n) g)).getD k 0 = (a : Int) ∧ (allOf (aft (fil zs n) g)).getD (k + 1) 0 = (b : Int) ∧ (zs.getD a 0 < zs.getD b 0 ∨ (zs.getD a 0 = zs.getD b 0 ∧ a < b)) := by
  have hl : (srt (aft (fil zs n) g)).length = (aft (fil zs n) g).length := srt_len _
  have h1 : k < (srt (aft (fil zs n) g)).length := by omega
  have h2 : k + 1 < (srt (aft (fil zs n) g)).length := by omega
  have hp := (List.pairwise_iff_getElem.1 (srt_rk (aft_inc (fil_inc zs n) g))) k (k + 1) h1 h2 (by omega)
  obtain ⟨a, ha, ea, _⟩ := aft_mem (srt_mem.1 (List.getElem_mem h1))
  obtain ⟨b, hb, eb, _⟩ := aft_mem (srt_mem.1 (List.getElem_mem h2))
  rw [ea, eb] at hp
  refine ⟨a, b, ha, hb, ?_, ?_, ?_⟩
  · unfold allOf
    rw [List.getD_eq_getElem?_getD, List.getElem?_map, List.getElem?_eq_getElem h1, ea]; rfl
  · unfold allOf
    rw [List.getD_eq_getElem?_getD, List.getElem?_map, List.getElem?_eq_getElem h2, eb]; rfl
  · unfold Rk at hp
    simp only at hp
    omega
theorem At.drewN {B : Nat} {w0 w : World} {p : Nat} {ys : List (Int × Int)} (h : At B w0 w p ys) (q : Nat) : At B w0 (w.drewN q) p ys := h.below (below_drewN w q)
set_option maxHeartbeats 8000000 in
theorem left_all {B : Nat} {w : World} {sp : Option Addr} {zs : List Int} (hs : BSrc B w sp zs) (hB : w.heap.size = B) (hm : zs.length ≤ maxLen) (c : Nat) (gn : Int) (hg : 0 ≤ gn ∧ gn ≤ 255) :
    Calls Try.prog 5 #[.slice sp zs.length c, .int .u8 gn] w fun e w' => e = .returned (.bool true) ∧ Below B w w' := by
  have HB0 : Hid (Below B w w) := Below.refl _ _
  have HZ : Hid (w.heap.size = B) := hB
  have HS : Hid (BSrc B w sp zs) := hs
  simp only [maxLen] at hm
  by_cases hl : zs.length ≤ 100
  · have hlen : ¬ (100 : Int) < (zs.length : Int) := by omega
    have HF1 : Hid (∀ w1, Below B w w1 → Calls Try.prog 14 #[.slice sp zs.length c] w1 fun e w' => e = .returned (.pointer (some ⟨w1.heap.size, 0, none⟩)) ∧ At B w w' w1.heap.size (fil zs zs.length)) := fun w1 hb => (filled_any hs (by omega) c hB hb).mono (by rintro e w' ⟨rfl, h, _⟩; exact ⟨rfl, h⟩)
    have HLO : Hid (∀ y ∈ fil zs zs.length, 1 ≤ y.2 ∧ y.2 ≤ 256) := fun y hy => by
      obtain ⟨k, hk, rfl⟩ := fil_mem hy
      have := hs.at k
      show 1 ≤ zs.getD k 0 + 1 ∧ zs.getD k 0 + 1 ≤ 256
      omega
    obtain ⟨n, hn⟩ : ∃ n, zs.length = n := ⟨_, rfl⟩
    have HN0 : Hid (zs.length = n) := hn
    rw [hn] at hlen HF1 hl HLO ⊢
    obtain ⟨G, hG⟩ := Int.eq_ofNat_of_zero_le hg.1
    have hG2 : G ≤ 255 := by omega
    have hwg : IntKind.i64.wrap (G : Int) = (G : Int) := by rw [IntKind.wrap_i64]; omega
    subst hG
    clear hs hB hn hm
    go_enter Try.func5, Try.ntmps5
    go_wp2_with (first
      | (go_at_call 13; refine (alive_any _).mono ?_; rintro e w1 ⟨rfl, hb⟩; have H1 : Hid (Below B w w1) := HB0.out.trans (hb.mono (by have := HZ.out; omega)); clear hb HB0)
      | (go_at_call 14; refine (HF1.out w1 H1.out).mono ?_; rintro e w2 ⟨rfl, ha⟩; have H2 : Hid (At B w w2 w1.heap.size (fil zs n)) := ha; clear ha H1))
    have H3 : Hid (At B w w2 w1.heap.size (aft (fil zs n) ((0 : Nat) : Int))) := by
      have := H2.out
      have e : aft (fil zs n) ((0 : Nat) : Int) = fil zs n := aft_zero (fun y hy => (HLO.out y hy).1)
      show At _ _ _ _ _
      rw [e]; exact this
    clear H2 HF1
    generalize w1.heap.size = p at *
    go_loopg [6] G (fun g s6 wx => ∃ i : Nat, i + g = G ∧ s6 = .int .i64 (i : Int) ∧ Hid (At B w wx p (aft (fil zs n) (i : Int))))
    case atStart => exact ⟨0, by omega, rfl, H3⟩
    case round =>
      clear H3
      obtain ⟨i, hiq, rfl, HA⟩ := hrel
      cases gk with
      | succ g =>
        have hlt : (i : Int) < (G : Int) := by omega
        have HR : Hid (rest (aft (fil zs n) (i : Int)) = aft (fil zs n) ((i + 1 : Nat) : Int)) := aftN _ _
        have hw1 : IntKind.i64.wrap ((i : Int) + 1) = (i : Int) + 1 := by rw [IntKind.wrap_i64]; omega
        go_wp2_with (go_at_call 11; refine (tick_at HA.out rfl rfl HR.out).mono ?_; rintro e w4 ⟨us, uc, rfl, hr, ha, hk⟩; have H4 : Hid (At B w w4 p (aft (fil zs n) ((i + 1 : Nat) : Int))) := ha; clear hr ha hk HA)
        go_roundg g
        case measure => omega
        case rel => exact ⟨i + 1, by omega, by go_num, H4⟩
      | zero =>
        obtain rfl : i = G := by omega
        have hlt : ¬ ((i : Int) < (i : Int)) := by omega
        have HGD : Hid (Good (aft (fil zs n) (i : Int))) := HA.out.good
        go_wp2
        go_loopg [7, 8] n (fun g6 s7 s8 wx => ∃ j : Nat, j + g6 = n ∧ s8 = .int .i64 (j : Int) ∧ s7 = .int .i64 ((cn zs (i : Int) j : Nat) : Int) ∧ Hid (At B w wx p (aft (fil zs n) (i : Int))))
        case atStart => exact ⟨0, by omega, rfl, rfl, HA⟩
        case round =>
          clear HA
          obtain ⟨j, hjq, rfl, rfl, HA⟩ := hrel
          have hcl := cn_le zs (i : Int) j
          cases gk with
          | succ g6 =>
            have hlt2 : (j : Int) < (n : Int) := by omega
            obtain ⟨b, off, hsp, hbB, hc⟩ := HS.out.spot (by have := HN0.out; omega)
            subst hsp
            have k1 := (HA.out.2.1.cell (p := ⟨b, off + j, none⟩) hbB).trans (hc j (by have := HN0.out; omega))
            have hz := HS.out.at j
            have hw2 : IntKind.i64.wrap ((j : Int) + 1) = (j : Int) + 1 := by rw [IntKind.wrap_i64]; omega
            clear hc
            by_cases hlf : (i : Int) < zs.getD j 0 + 1
            · have HL : Hid (leftV (aft (fil zs n) (i : Int)) (j : Int) = zs.getD j 0 + 1 - (i : Int) ∧ remE (aft (fil zs n) (i : Int)) (j : Int) = 0) := left_yes HGD.out (by omega) hlf
              have HC : Hid (cn zs (i : Int) (j + 1) = cn zs (i : Int) j + 1) := cn_yes hlf
              generalize zs.getD j 0 = z at *
              generalize cn zs (i : Int) j = N at *
              have hwz : IntKind.i64.wrap z = z := by rw [IntKind.wrap_i64]; omega
              have hwz1 : IntKind.i64.wrap (z + 1) = z + 1 := by rw [IntKind.wrap_i64]; omega
              have hwz2 : IntKind.i64.wrap (z + 1 - (i : Int)) = z + 1 - (i : Int) := by rw [IntKind.wrap_i64]; omega
              have hwn : IntKind.i64.wrap ((N : Int) + 1) = (N : Int) + 1 := by rw [IntKind.wrap_i64]; omega
              have hpos : 0 < z + 1 - (i : Int) := by omega
              have hpos2 : ¬ z + 1 - (i : Int) ≤ 0 := by omega
              go_wp2_with (go_at_call 8; refine (left_at HA.out (j : Int) HL.out.1 HL.out.2).mono ?_; rintro e w4 ⟨rfl, ha, hk⟩; have H4 : Hid (At B w w4 p (aft (fil zs n) (i : Int))) := ha; clear ha hk HA)
              go_roundg g6
              case measure => omega
              case rel => exact ⟨j + 1, by omega, by go_num, by rw [HC.out]; go_num, H4⟩
            · have HL : Hid (leftV (aft (fil zs n) (i : Int)) (j : Int) = 0 ∧ remE (aft (fil zs n) (i : Int)) (j : Int) = 1) := left_no hlf
              have HC : Hid (cn zs (i : Int) (j + 1) = cn zs (i : Int) j) := cn_no hlf
              generalize zs.getD j 0 = z at *
              generalize cn zs (i : Int) j = N at *
              have hwz : IntKind.i64.wrap z = z := by rw [IntKind.wrap_i64]; omega
              have hwz1 : IntKind.i64.wrap (z + 1) = z + 1 := by rw [IntKind.wrap_i64]; omega
              have hwz2 : IntKind.i64.wrap (z + 1 - (i : Int)) = z + 1 - (i : Int) := by rw [IntKind.wrap_i64]; omega
              have hpos : ¬ 0 < z + 1 - (i : Int) := by omega
              have hpos2 : z + 1 - (i : Int) ≤ 0 := by omega
              go_wp2_with (go_at_call 8; refine (left_at HA.out (j : Int) HL.out.1 HL.out.2).mono ?_; rintro e w4 ⟨rfl, ha, hk⟩; have H4 : Hid (At B w w4 p (aft (fil zs n) (i : Int))) := ha; clear ha hk HA)
              go_roundg g6
              case measure => omega
              case rel => exact ⟨j + 1, by omega, by go_num, by rw [HC.out], H4⟩
          | zero =>
            obtain rfl : j = n := by omega
            have hlt2 : ¬ ((j : Int) < (j : Int)) := by omega
            have HAL : Hid ((allOf (aft (fil zs j) (i : Int))).length = cn zs (i : Int) j) := by show _ = _; rw [allOf_len]; rfl
            have HSD : Hid (∀ k, k + 1 < cn zs (i : Int) j → ∃ a b : Nat, a < j ∧ b < j ∧ (allOf (aft (fil zs j) (i : Int))).getD k 0 = (a : Int) ∧ (allOf (aft (fil zs j) (i : Int))).getD (k + 1) 0 = (b : Int) ∧ (zs.getD a 0 < zs.getD b 0 ∨ (zs.getD a 0 = zs.getD b 0 ∧ a < b))) := fun k hk => side hk
            obtain ⟨AL, hAL⟩ : ∃ AL, allOf (aft (fil zs j) (i : Int)) = AL := ⟨_, rfl⟩
            have HALL : Hid (allOf (aft (fil zs j) (i : Int)) = AL) := hAL
            rw [hAL] at HAL HSD
            clear hAL
            generalize cn zs (i : Int) j = N at *
            go_wp2_with (go_at_call 12; refine (all_at HA.out HALL.out HAL.out).mono ?_; rintro e w4 ⟨us, uc, rfl, hr, ha, hk⟩; have H4 : Hid (At B w w4 p (aft (fil zs j) (i : Int))) := ha; have R4 : Hid (w4.ownsRow B 3 1 (.slice us N uc) N (num AL)) := hr; clear hr ha hk HA)
            clear HALL
            go_loopg [13] (N - 1) (fun q s13 wx => ∃ m : Nat, q = N - (m + 1) ∧ (m + 1 ≤ N ∨ m = 0) ∧ s13 = .int .i64 ((m : Int) + 1) ∧ Hid (At B w wx p (aft (fil zs j) (i : Int))) ∧ Hid (wx.ownsRow B 3 1 (.slice us N uc) N (num AL)))
            case atStart => exact ⟨0, by omega, by omega, rfl, H4, R4⟩
            case round =>
              clear H4 R4
              obtain ⟨m, hmq, hmN, rfl, HA, RW⟩ := hrel
              cases gk with
              | zero =>
                have hlt3 : ¬ ((m : Int) + 1 < (N : Int)) := by omega
                go_wp2
                go_ret
                exact ⟨rfl, HA.out.2.1⟩
              | succ q =>
                have hlt3 : (m : Int) + 1 < (N : Int) := by omega
                obtain ⟨a, b', ha, hb', ea, eb, hor⟩ := HSD.out m (by omega)
                obtain ⟨g0, uc', hus, _⟩ := owns_spot RW.out (by omega)
                simp only [Value.slice.injEq] at hus
                obtain ⟨rfl, _, rfl⟩ := hus
                have ca : wr.cell? ⟨g0, m, none⟩ = some (.int .i64 (a : Int)) := by
                  rw [RW.out.cellAt m (by omega), num_at AL m (by have := HAL.out; omega), ea]
                have cb : wr.cell? ⟨g0, m + 1, none⟩ = some (.int .i64 (b' : Int)) := by
                  rw [RW.out.cellAt (m + 1) (by omega), num_at AL (m + 1) (by have := HAL.out; omega), eb]
                obtain ⟨b, off, hsp, hbB, hc⟩ := HS.out.spot (by have := HN0.out; omega)
                subst hsp
                have k1 := (HA.out.2.1.cell (p := ⟨b, off + a, none⟩) hbB).trans (hc a (by have := HN0.out; omega))
                have k2 := (HA.out.2.1.cell (p := ⟨b, off + b', none⟩) hbB).trans (hc b' (by have := HN0.out; omega))
                have n1 : ¬ (a : Int) < 0 := by omega
                have n2 : ¬ (b' : Int) < 0 := by omega
                have n3 : ¬ (j : Int) ≤ (a : Int) := by omega
                have n4 : ¬ (j : Int) ≤ (b' : Int) := by omega
                have n5 : (a : Int) < (j : Int) := by omega
                have n6 : (b' : Int) < (j : Int) := by omega
                have hw9 : IntKind.i64.wrap ((m : Int) + 1 + 1) = (m : Int) + 1 + 1 := by rw [IntKind.wrap_i64]; omega
                have hw8 : IntKind.i64.wrap (m : Int) = (m : Int) := by rw [IntKind.wrap_i64]; omega
                clear hc ea eb
                generalize zs.getD a 0 = za at *
                generalize zs.getD b' 0 = zb at *
                rcases hor with hor | ⟨hor, hab⟩
                · have m1 : ¬ zb < za := by omega
                  have m2 : ¬ za = zb := by omega
                  have m3 : (za == zb) = false := by simpa using m2
                  go_wp2
                  go_quiet ((fail))
                  go_wp2
                  go_roundg q
                  case measure => omega
                  case rel => exact ⟨m + 1, by omega, by omega, by go_num, HA.out.drewN _, owns_kw RW.out (KW.below (below_drewN _ _))⟩
                · subst hor
                  have m1 : ¬ za < za := by omega
                  have m4 : ¬ (b' : Int) < (a : Int) := by omega
                  go_wp2
                  go_quiet ((fail))
                  go_wp2
                  go_roundg q
                  case measure => omega
                  case rel => exact ⟨m + 1, by omega, by omega, by go_num, HA.out.drewN _, owns_kw RW.out (KW.below (below_drewN _ _))⟩
  · have hlen : (100 : Int) < (zs.length : Int) := by omega
    clear hs
    go_enter Try.func5, Try.ntmps5
    go_wp2_with (first
      | (go_at_call 13; refine (alive_any _).mono ?_; rintro e w1 ⟨rfl, hb⟩; have H1 : Hid (Below B w w1) := HB0.out.trans (hb.mono (by have := HZ.out; omega)); clear hb HB0)
      | (go_at_call 13; refine (alive_any _).mono ?_; rintro e w2 ⟨rfl, hb⟩; have H2 : Hid (Below B w w2) := H1.out.trans (hb.mono (by have := H1.out.size; have := HZ.out; omega)); clear hb H1))
    go_ret
    exact ⟨rfl, H2.out⟩
end Go.Proofs.Ytdifgjioaikchaa
