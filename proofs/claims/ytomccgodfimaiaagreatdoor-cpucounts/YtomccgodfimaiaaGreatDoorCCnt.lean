/- Eight instructions count, tell and add up bytes: walked. -/
import Derived.Test.YtomccgodfimaiaaGreatDoorCCnt0
import Derived.Deep.RegionHeld3
namespace Go.Proofs.YtomccgodfimaiaaGreatDoor
open Go Go.RowKit
set_option maxRecDepth 100000
set_option linter.all false
theorem lift0 {w w' : World} {B : Nat} (h : Env w) (hB : w.heap.size ≤ B) (hb : Below B w w') : Env w' := h.on (hb.mono hB)
theorem cn_src (w : World) (n : Int) : Src (w.alloc (.cells #[.int .u8 1, .int .u8 4, .int .u8 0, .int .u8 n, .int .u8 1, .int .u8 5, .int .u8 0, .int .u8 1, .int .u8 13, .int .u8 1, .int .u8 2, .int .u8 0, .int .u8 3, .int .u8 3, .int .u8 3, .int .u8 1, .int .u8 20, .int .u8 1, .int .u8 0, .int .u8 0, .int .u8 3, .int .u8 2, .int .u8 2, .int .u8 5, .int .u8 16, .int .u8 2, .int .u8 4, .int .u8 251, .int .u8 22, .int .u8 0, .int .u8 0, .int .u8 0] 70)) (some ⟨w.heap.size, 0, none⟩) (cnL n) := fun _ =>
  ⟨w.heap.size, 0, rfl, fun i hi => by
    rw [cell_of (alloc_at w _)]
    have : i < 32 := hi
    match i, this with
    | 0, _ => rfl | 1, _ => rfl | 2, _ => rfl | 3, _ => rfl | 4, _ => rfl | 5, _ => rfl | 6, _ => rfl | 7, _ => rfl
    | 8, _ => rfl | 9, _ => rfl | 10, _ => rfl | 11, _ => rfl | 12, _ => rfl | 13, _ => rfl | 14, _ => rfl | 15, _ => rfl
    | 16, _ => rfl | 17, _ => rfl | 18, _ => rfl | 19, _ => rfl | 20, _ => rfl | 21, _ => rfl | 22, _ => rfl | 23, _ => rfl
    | 24, _ => rfl | 25, _ => rfl | 26, _ => rfl | 27, _ => rfl | 28, _ => rfl | 29, _ => rfl | 30, _ => rfl | 31, _ => rfl
    | n + 32, h => omega⟩
theorem cn_img {w : World} {sp : Option Addr} {m : List Int} (hs : Src w sp m) (hm : Bs m) (hl : m.length ≤ 250) : Img (w.alloc (.cells #[.int .u8 1, .int .u8 4, .int .u8 0, .int .u8 (m.length : Int), .int .u8 1, .int .u8 5, .int .u8 0, .int .u8 1, .int .u8 13, .int .u8 1, .int .u8 2, .int .u8 0, .int .u8 3, .int .u8 3, .int .u8 3, .int .u8 1, .int .u8 20, .int .u8 1, .int .u8 0, .int .u8 0, .int .u8 3, .int .u8 2, .int .u8 2, .int .u8 5, .int .u8 16, .int .u8 2, .int .u8 4, .int .u8 251, .int .u8 22, .int .u8 0, .int .u8 0, .int .u8 0] 70)) sp m (some ⟨w.heap.size, 0, none⟩) (cnL m.length) 8 :=
  ⟨hs.below (alloc_below w _), cn_src w _, rfl, hm, fun z hz => by
    unfold byte
    simp only [cnL, List.mem_cons, List.not_mem_nil, or_false] at hz
    omega⟩
theorem regsE (m : List Int) : regsV (cEnd m).rs = .agg #[.int .u32 0, .int .u32 (lst m m.length), .int .u32 m.length, .int .u32 (sm m m.length), .int .u32 m.length, .int .u32 1, .int .u32 0, .int .u32 0] := rfl
theorem conE (m : List Int) : (cEnd m).con = m := by show m.take m.length = m; simp
theorem add_facts {m : List Int} (hm : Bs m) {n i : Nat} (hn : n ≤ 250) (h : i < n) : IntKind.u32.wrap (m.getD i 0) = m.getD i 0 ∧ IntKind.u32.wrap (sm m i + m.getD i 0) = sm m (i + 1) := by
  have h1 := sm_bd hm i
  have h2 := at_byte hm i
  unfold byte at h2
  rw [sm]
  exact ⟨by rw [IntKind.wrap_u32]; omega, by rw [IntKind.wrap_u32]; omega⟩
theorem keep1 {w w' : World} (hb : Below w.heap.size w w') {b i : Nat} {v : Value} (h : w.cell? ⟨b, i, none⟩ = some v) : w'.cell? ⟨b, i, none⟩ = some v := (hb.cell (p := ⟨b, i, none⟩) (cell_lt h)).trans h
set_option maxHeartbeats 4000000 in
theorem counts_few {w : World} {sp : Option Addr} {m : List Int} (hE : Env w) (hs : Src w sp m) (hm : Bs m) (h0 : 0 < m.length) (hl : m.length ≤ 250) (cap : Nat) :
    Calls Tryz.prog 5 #[.slice sp m.length cap] w fun e w' => e = .returned (.bool true) ∧ Below w.heap.size w w' := by
  obtain ⟨bs, o, rfl, hc⟩ := hs h0
  have b1 := alloc_below w (.cells #[.int .u8 1, .int .u8 4, .int .u8 0, .int .u8 (m.length : Int), .int .u8 1, .int .u8 5, .int .u8 0, .int .u8 1, .int .u8 13, .int .u8 1, .int .u8 2, .int .u8 0, .int .u8 3, .int .u8 3, .int .u8 3, .int .u8 1, .int .u8 20, .int .u8 1, .int .u8 0, .int .u8 0, .int .u8 3, .int .u8 2, .int .u8 2, .int .u8 5, .int .u8 16, .int .u8 2, .int .u8 4, .int .u8 251, .int .u8 22, .int .u8 0, .int .u8 0, .int .u8 0] 70)
  have hI := cn_img hs hm hl
  have hN : ∀ W, Env W → Img W (some ⟨bs, o, none⟩) m (some ⟨w.heap.size, 0, none⟩) (cnL m.length) 8 → Calls Tryz.prog 10 #[.agg #[.int .i64 m.length, .slice (some ⟨bs, o, none⟩) m.length cap, .slice (some ⟨w.heap.size, 0, none⟩) 8 8]] W fun e w' => ∃ G, e = .returned (.tuple #[.pointer (some ⟨G.p, 0, none⟩), .int .i64 0]) ∧ G.k = 8 ∧ CM w' G (.slice none 0 0) (stN m 0) ∧ Below W.heap.size W w' ∧ Up W.heap.size G (.slice none 0 0) := fun W h1 h2 => by
    have := New_yes h1 h2 (okCn hl) cap 8
    rwa [newC_self m (cnL m.length)] at this
  obtain ⟨n, hn⟩ : ∃ n, m.length = n := ⟨_, rfl⟩
  have HN : Hid (m.length = n) := hn
  have HST : Hid (∀ i, i < 2 + 5 * n → stepC 8 (stN m i) = some (stN m (i + 1), none)) := fun i hi => stN_step hm h0 hl i (by rw [hn]; exact hi)
  rw [hn] at hN hI b1 hl h0
  rw [hn]
  have HE : Hid (Env w) := hE
  have HI : Hid (Img _ (some ⟨bs, o, none⟩) m (some ⟨w.heap.size, 0, none⟩) (cnL n) 8) := hI
  have HB1 : Hid (Below w.heap.size w _) := b1
  have HS : Hid (Src w (some ⟨bs, o, none⟩) m) := hs
  have HM : Hid (Bs m) := hm
  have HW : Hid _ := hN
  have HL : Hid (0 < n ∧ n ≤ 250) := ⟨h0, hl⟩
  have hz : ¬ ((n : Int) = 0) := by omega
  have hzb : ((n : Int) == 0) = false := by simpa using hz
  have hgt : ¬ ((250 : Int) < n) := by omega
  have wn : IntKind.u8.wrap (n : Int) = n := by rw [IntKind.wrap_u8]; omega
  have w5 : wrap64 (5 * (n : Int)) = 5 * n := by unfold wrap64; omega
  have w52 : wrap64 (2 + 5 * (n : Int)) = 2 + 5 * n := by unfold wrap64; omega
  clear hE hs hm b1 hn hN hI h0 hl
  go_enter Tryz.func5, Tryz.ntmps5
  go_wp2_with (first
    | (go_at_call 10; refine (HW.out _ (lift0 HE.out (Nat.le_refl _) (HB1.out.trans ((alloc_below _ _).mono HB1.out.size))) (HI.out.on (alloc_below _ _))).mono ?_; rintro e w2 ⟨G, rfl, hk, hc, hb, hu⟩; have K2 : Hid (Lv w.heap.size w w2 G (.slice none 0 0) (stN m 0)) := ⟨hc, up_mono hu (Nat.le_trans HB1.out.size (alloc_below _ _).size), (HB1.out.trans ((alloc_below _ _).mono HB1.out.size)).trans (hb.mono (Nat.le_trans HB1.out.size (alloc_below _ _).size)), Nat.le_refl _⟩; have HK : Hid (G.k = 8) := hk; clear hk hc hb hu HI)
    | fail)
  go_loopg [6] (2 + 5 * n) (fun gk s6 wx => ∃ (i : Nat) (cv : Value), i + gk = 2 + 5 * n ∧ s6 = .int .i64 i ∧ Hid (Lv w.heap.size w wx G cv (stN m i)))
  case atStart => exact ⟨0, .slice none 0 0, by omega, rfl, K2⟩
  case round =>
    obtain ⟨i, cv, hig, rfl, K3⟩ := hrel
    cases gk with
    | zero =>
      have hlt : ¬ ((i : Int) < 2 + 5 * n) := by clear w5 w52; omega
      have HI : Hid (i = 2 + 5 * n) := (by clear w5 w52; omega : i = 2 + 5 * n)
      have HC : Hid ((stN m i).asked = false ∧ (stN m i).con.length ≤ 256) := ⟨(stN_is m i).1, Nat.le_trans (stN_is m i).2 (by rw [HN.out]; have := HL.out; clear w5 w52; omega)⟩
      have HE7 : Hid (stepC G.k (stN m i) = some (cEnd m, some (20, 0, 0, 0, 0))) := by rw [HK.out, HI.out, ← HN.out, stN_end]; exact st7 m
      clear hig K2
      go_wp2_with (first
        | (go_at_call 13; refine (step_asks K3.out.cm HC.out.1 HC.out.2 HE7.out).mono ?_; rintro e w4 ⟨rfl, cv4, h3, h4, h5⟩; have K4 : Hid (Lv w.heap.size w w4 G cv4 (cEnd m)) := K3.out.next h3 h4 h5; clear h3 h4 h5 K3)
        | fail)
      have HX : Hid (Bx (w4.alloc (.cells #[.int .u8 20, .int .u32 0, .int .u32 0, .int .u32 0, .int .i64 0] 41)) G w4.heap.size (.int .u8 20) (.int .u32 0) (.int .u32 0) (.int .u32 0) (.int .i64 0)) := ⟨alloc_at w4 _, K4.out.cm.plt⟩
      have K5 : Hid (Lv w.heap.size w (w4.alloc (.cells #[.int .u8 20, .int .u32 0, .int .u32 0, .int .u32 0, .int .i64 0] 41)) G cv4 (cEnd m)) := K4.out.one _
      clear K4
      go_loopg [13, 14] n (fun gk s13 s14 wx => ∃ i : Nat, i + gk = n ∧ s13 = .int .u32 (sm m i) ∧ s14 = .int .i64 i ∧ Hid (Lv w.heap.size w wx G cv4 (cEnd m)) ∧ Hid (Bx wx G w4.heap.size (.int .u8 20) (.int .u32 0) (.int .u32 0) (.int .u32 0) (.int .i64 0)))
      case atStart => exact ⟨0, by omega, rfl, rfl, K5, HX⟩
      case round =>
        obtain ⟨j, hjg, rfl, rfl, K6, HX6⟩ := hrel
        clear K5 HX
        cases gk with
        | zero =>
          have hlt : ¬ ((j : Int) < n) := by clear w5 w52; omega
          have HJ : Hid (j = n) := (by clear w5 w52; omega : j = n)
          clear hjg
          have HSM : Hid (sm m j = sm m n) := congrArg (sm m) HJ.out
          have HRE : Hid (regsV (cEnd m).rs = .agg #[.int .u32 0, .int .u32 (lst m n), .int .u32 n, .int .u32 (sm m j), .int .u32 n, .int .u32 1, .int .u32 0, .int .u32 0]) := by rw [HSM.out, ← HN.out]; exact regsE m
          have HSB : Hid (∀ (W : World) (s1 : Option Addr), Src W s1 m → Src W (some ⟨bs, o, none⟩) m → Calls Tryz.prog 24 #[.slice s1 n n, .slice (some ⟨bs, o, none⟩) n cap] W fun e w' => e = .returned (.bool true) ∧ Below W.heap.size W w') := fun W s1 h1 h2 => by
            have := same_any h1 h2 (by rw [HN.out]; have := HL.out; clear w5 w52; omega) (by rw [HN.out]; have := HL.out; clear w5 w52; omega) n cap
            rwa [HN.out, decide_eq_true rfl] at this
          have HBY : Hid (∀ (W : World) (G : Kp) (cv : Value), CM W G cv (cEnd m) → Calls Tryz.prog 15 #[.pointer (some ⟨G.p, 0, none⟩)] W fun e w' => e = .returned (.slice (some ⟨W.heap.size, 0, none⟩) n n) ∧ Rn.Row w' W.heap.size m ∧ Below W.heap.size W w') := fun W G cv h => by
            have := Bytes_core h
            rwa [show (cEnd m).zs = m from rfl, HN.out] at this
          have HCV : Hid (∀ W, Src W (some ⟨bs, o, none⟩) m → (convert 22 9 (.slice (some ⟨bs, o, none⟩) n cap)).run Tryz.prog W = .ok (.string (str m)) W) := fun W h => by
            have := conv_str h cap (fun e => by cases e)
            rwa [HN.out] at this
          go_wp2_with (first
            | (go_at_call 19; refine (Regs_any K6.out.cm).mono ?_; rintro e w7 ⟨he, hb⟩; rw [HRE.out] at he; subst he; have K7 : Hid (Lv w.heap.size w w7 G cv4 (cEnd m)) := K6.out.below hb; have HX7 : Hid (Bx w7 G w4.heap.size (.int .u8 20) (.int .u32 0) (.int .u32 0) (.int .u32 0) (.int .i64 0)) := HX6.out.below hb; have K8 : Hid (Lv w.heap.size w (w7.alloc (.cells #[.int .u32 0, .int .u32 (lst m n), .int .u32 n, .int .u32 (sm m j), .int .u32 n, .int .u32 1, .int .u32 0, .int .u32 0] 46)) G cv4 (cEnd m)) := K7.out.one _; have HX8 := (HX7.out.below (alloc_below w7 (.cells #[.int .u32 0, .int .u32 (lst m n), .int .u32 n, .int .u32 (sm m j), .int .u32 n, .int .u32 1, .int .u32 0, .int .u32 0] 46))).1; have hr8 := alloc_at w7 (.cells #[.int .u32 0, .int .u32 (lst m n), .int .u32 n, .int .u32 (sm m j), .int .u32 n, .int .u32 1, .int .u32 0, .int .u32 0] 46); have z0 := cell_of (i := 0) HX8; have z1 := cell_of (i := 1) HX8; have z2 := cell_of (i := 2) HX8; have z3 := cell_of (i := 3) HX8; have z4 := cell_of (i := 4) HX8; have r3 : (w7.alloc (.cells #[.int .u32 0, .int .u32 (lst m n), .int .u32 n, .int .u32 (sm m j), .int .u32 n, .int .u32 1, .int .u32 0, .int .u32 0] 46)).cell? ⟨w7.heap.size, 3, none⟩ = some (.int .u32 (sm m j)) := (cell_of hr8).trans rfl; simp at z0 z1 z2 z3 z4; have hcv := HCV.out _ (HS.out.below K8.out.bel); clear hb HX8 hr8 K6 HX6 K7 HX7)
            | fail)
          generalize (w7.alloc (.cells #[.int .u32 0, .int .u32 (lst m n), .int .u32 n, .int .u32 (sm m j), .int .u32 n, .int .u32 1, .int .u32 0, .int .u32 0] 46)) = W at *
          have KD : Hid (Lv w.heap.size w W.drew G cv4 (cEnd m)) := K8.out.below (Below.refl _ _).drew
          have HSD : Hid (Src W.drew (some ⟨bs, o, none⟩) m) := HS.out.below KD.out.bel
          have hcd := HCV.out _ HSD.out
          have HZ : Hid (W.drew.cell? ⟨w4.heap.size, 0, none⟩ = some (.int .u8 20) ∧ W.drew.cell? ⟨w4.heap.size, 1, none⟩ = some (.int .u32 0) ∧ W.drew.cell? ⟨w4.heap.size, 2, none⟩ = some (.int .u32 0) ∧ W.drew.cell? ⟨w4.heap.size, 3, none⟩ = some (.int .u32 0) ∧ W.drew.cell? ⟨w4.heap.size, 4, none⟩ = some (.int .i64 0) ∧ W.drew.cell? ⟨w7.heap.size, 3, none⟩ = some (.int .u32 (sm m j))) := ⟨z0, z1, z2, z3, z4, r3⟩
          clear hc
          go_region_held3 (fun w' => w'.cell? ⟨w4.heap.size, 0, none⟩ = some (.int .u8 20) ∧ w'.cell? ⟨w4.heap.size, 1, none⟩ = some (.int .u32 0) ∧ w'.cell? ⟨w4.heap.size, 2, none⟩ = some (.int .u32 0) ∧ w'.cell? ⟨w4.heap.size, 3, none⟩ = some (.int .u32 0) ∧ w'.cell? ⟨w4.heap.size, 4, none⟩ = some (.int .i64 0) ∧ w'.cell? ⟨w7.heap.size, 3, none⟩ = some (.int .u32 (sm m j)) ∧ (convert 22 9 (.slice (some ⟨bs, o, none⟩) n cap)).run Tryz.prog w' = .ok (.string (str m)) w') (first | exact ⟨z0, z1, z2, z3, z4, r3, hcv⟩ | exact ⟨z0, z1, z2, z3, z4, r3, hcd⟩ | (refine ⟨?_, ?_, ?_, ?_, ?_, ?_, ?_⟩ <;> assumption) | go_keep) (first
            | (go_at_call 22; refine (Console_any KD.out.cm).mono ?_; rintro e w14 ⟨he, rfl⟩; rw [conE] at he; subst he)
            | (go_at_call 15; refine (HBY.out _ _ _ KD.out.cm).mono ?_; rintro e w9 ⟨rfl, hr, hb⟩; have HS9 : Hid (Src w9 (some ⟨W.drew.heap.size, 0, none⟩) m) := row_src hr; have HB9 : Hid (Below w.heap.size w w9) := (KD.out.below hb).bel; have y0 := keep1 hb HZ.out.1; have y1 := keep1 hb HZ.out.2.1; have y2 := keep1 hb HZ.out.2.2.1; have y3 := keep1 hb HZ.out.2.2.2.1; have y4 := keep1 hb HZ.out.2.2.2.2.1; have y5 := keep1 hb HZ.out.2.2.2.2.2; have hc9 := HCV.out _ (HS.out.below HB9.out); have HY : Hid (_ ∧ _ ∧ _ ∧ _ ∧ _ ∧ _) := ⟨y0, y1, y2, y3, y4, y5⟩; clear hr hb)
            | (go_at_call 24; refine (HSB.out _ _ HS9.out (HS.out.below HB9.out)).mono ?_; rintro e w10 ⟨rfl, hb⟩; have HB10 : Hid (Below w.heap.size w w10) := HB9.out.trans (hb.mono HB9.out.size); have x0 := keep1 hb HY.out.1; have x1 := keep1 hb HY.out.2.1; have x2 := keep1 hb HY.out.2.2.1; have x3 := keep1 hb HY.out.2.2.2.1; have x4 := keep1 hb HY.out.2.2.2.2.1; have x5 := keep1 hb HY.out.2.2.2.2.2; have hc10 := HCV.out _ (HS.out.below HB10.out); have HV : Hid (_ ∧ _ ∧ _ ∧ _ ∧ _ ∧ _) := ⟨x0, x1, x2, x3, x4, x5⟩; clear hb)
            | (go_at_call 8; refine (lives_any (lift0 HE.out (Nat.le_refl _) HB10.out)).mono ?_; rintro e w11 ⟨rfl, hb⟩; have HB11 : Hid (Below w.heap.size w w11) := HB10.out.trans (hb.mono HB10.out.size); have t0 := keep1 hb HV.out.1; have t1 := keep1 hb HV.out.2.1; have t2 := keep1 hb HV.out.2.2.1; have t3 := keep1 hb HV.out.2.2.2.1; have t4 := keep1 hb HV.out.2.2.2.2.1; have t5 := keep1 hb HV.out.2.2.2.2.2; have hc11 := HCV.out _ (HS.out.below HB11.out); clear hb)
            | fail)
          all_goals first | (go_ret; exact ⟨rfl, HB11.out⟩) | (go_wp2; go_ret; exact ⟨rfl, HB11.out⟩)
        | succ gk =>
          have hlt : ((j : Int) < n) := by clear w5 w52; omega
          have hjn : j < n := by clear w5 w52; omega
          have HJ : Hid (j + (gk + 1) = n) := hjg
          obtain ⟨q1, q2⟩ := add_facts HM.out HL.out.2 hjn
          have c1 := ((K6.out.bel.cell (p := ⟨bs, o + j, none⟩) (cell_lt (hc j (HN.out.symm ▸ hjn)))).trans (hc j (HN.out.symm ▸ hjn)))
          obtain ⟨z, hz'⟩ : ∃ z, m.getD j 0 = z := ⟨_, rfl⟩
          rw [hz'] at q1 q2 c1
          clear hjg hjn hz'
          go_wp2
          go_roundg gk
          case measure => have := HJ.out; clear w5 w52; omega
          case rel => exact ⟨j + 1, by have := HJ.out; clear w5 w52; omega, rfl, by go_num, K6, HX6⟩
    | succ gk =>
      have hlt : ((i : Int) < 2 + 5 * n) := by clear w5 w52; omega
      have HI : Hid (i + (gk + 1) = 2 + 5 * n) := hig
      have HST2 : Hid (stepC G.k (stN m i) = some (stN m (i + 1), none)) := by rw [HK.out]; exact HST.out i (by have := HI.out; clear w5 w52; omega)
      have HC : Hid ((stN m i).asked = false ∧ (stN m i).con.length ≤ 256) := ⟨(stN_is m i).1, Nat.le_trans (stN_is m i).2 (by rw [HN.out]; have := HL.out; omega)⟩
      clear hig K2
      go_wp2_with (first
        | (go_at_call 13; refine (step_some K3.out.cm HC.out.1 HC.out.2 HST2.out).mono ?_; rintro e w4 ⟨he, cv4, h3, h4, h5⟩; unfold zAsk at he; subst he; have K4 : Hid (Lv w.heap.size w w4 G cv4 (stN m (i + 1))) := K3.out.next h3 h4 h5; clear h3 h4 h5 K3)
        | fail)
      go_roundg gk
      case measure => have := HI.out; clear w5 w52; omega
      case rel => exact ⟨i + 1, cv4, by have := HI.out; clear w5 w52; omega, by go_num, K4.out.one _⟩
end Go.Proofs.YtomccgodfimaiaaGreatDoor
