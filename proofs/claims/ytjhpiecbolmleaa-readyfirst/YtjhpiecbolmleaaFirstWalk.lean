/- ReadyFirst: who runs next is the first of the greatest rank that has somebody; each one stands in one rank, once; a rank that turns as often as it has somebody is as it was. -/
import Derived.Test.YtjhpiecbolmleaaFPure
namespace Go.Proofs.Ytjhpiecbolmleaa
open Go Go.RowKit Go.Shelf
set_option maxRecDepth 100000
set_option linter.unusedVariables false
set_option linter.unusedSimpArgs false
theorem does_at {B s : Nat} {w : World} {p : Nat} {X : Nat → List Int} (h : QS B s w p X) (k y t : Int) (hk : 0 ≤ k ∧ k ≤ 255) :
    Calls Try.prog 7 #[.pointer (some ⟨p, 0, none⟩), .agg #[.int .u8 k, .int .i64 y, .int .i64 t]] w fun e w' => e = .returned (.int .i64 (doE X (k, y, t))) ∧ QS B s w' p (doX X (k, y, t)) ∧ Mid B s w w' := does_any h (k, y, t) hk
theorem zero_info : Try.t29.zero = some (.agg (bl (fun _ => false)).toArray) := by kernel_rfl
theorem zero_seen (w : World) : Sem.run Try.prog (zeroValue 29) w = .ok (.agg (bl (fun _ => false)).toArray) w := by
  simp [zeroValue, zero_info, go_sem]
set_option maxHeartbeats 16000000 in
theorem first_law {w : World} {sp : Option Addr} {acts : List (Int × Int × Int)} (hs : Acts w.heap.size w sp acts) (hl : acts.length ≤ maxLen) (cap : Nat) :
    Calls Try.prog 3 #[.slice sp acts.length cap] w fun e w' => e = .returned (.bool true) ∧ Below w.heap.size w w' := by
  unfold maxLen at hl
  obtain ⟨q, hq⟩ : ∃ q, acts.length = q := ⟨_, rfl⟩
  rw [hq] at hl ⊢
  have HQ : Hid (acts.length = q) := hq
  have HS : Hid (Acts w.heap.size w sp acts) := hs
  clear hq hs
  by_cases hbig : 300 < q
  · go_enter Try.func3, Try.ntmps3
    go_wp2_with (first | (go_at_call 5; refine (lives_any _).mono ?_; rintro e w1 ⟨rfl, hB⟩))
    go_ret
    exact ⟨rfl, hB⟩
  · obtain ⟨B, hB0⟩ : ∃ B, w.heap.size = B := ⟨_, rfl⟩
    have hN := qnew_any w
    rw [hB0] at hN HS ⊢
    have HB0 : Hid (w.heap.size = B) := hB0
    clear hB0
    go_enter Try.func3, Try.ntmps3
    go_wp2_with (first | (go_at_call 6; refine hN.mono ?_; rintro e w0 ⟨rfl, q0, m0⟩; obtain ⟨s, hs⟩ : ∃ s, w0.heap.size = s := ⟨_, rfl⟩; rw [hs] at q0; have Q0 : Hid (QS B s w0 B Y0) := q0; have M : Far B w w0 := ⟨m0, by have := m0.size; have := HB0.out; omega⟩; clear q0 m0 hs))
    go_loopg [4] q (fun gk s4 wx => ∃ (i : Nat) (X : Nat → List Int), i + gk = q ∧ s4 = .int .i64 i ∧ Hid (QS B s wx B X) ∧ Far B w wx)
    case atStart => exact ⟨0, _, by omega, rfl, Q0, M⟩
    case round =>
      clear Q0 M
      obtain ⟨i, X, hig, rfl, HX, M⟩ := hrel
      cases gk with
      | zero =>
        obtain rfl : i = q := by omega
        have hlt : ¬ ((i : Int) < i) := by omega
        have hz := zero_seen wr
        have hqb := HX.out.below (alloc_below wr (.cells (bl (fun _ => false)).toArray 29))
        have hse : Seen (wr.alloc (.cells (bl (fun _ => false)).toArray 29)) wr.heap.size (fun _ => false) := alloc_at wr _
        have hst := HX.out.le.1
        have M1 := M.low (alloc_below wr (.cells (bl (fun _ => false)).toArray 29))
        have HI0 : Hid (QS B s (wr.alloc (.cells (bl (fun _ => false)).toArray 29)) B X ∧ Seen (wr.alloc (.cells (bl (fun _ => false)).toArray 29)) wr.heap.size (fun _ => false) ∧ Sn X 0 0 (fun _ => false)) := ⟨hqb, hse, Sn.nil X⟩
        have HG : Hid (Good X) := HX.out.good
        have hBt : B ≤ wr.heap.size := M.le
        clear hqb hse
        go_wp2
        obtain ⟨t, ht⟩ : ∃ t, wr.heap.size = t := ⟨_, rfl⟩
        rw [ht] at HI0 hst hBt
        simp only [ht]
        clear ht hz M HX
        generalize wr.alloc (.cells (bl (fun _ => false)).toArray 29) = w1 at *
        go_loopg [5, 7] 32 (fun gp s5 s7 wx => ∃ (n : Nat) (S : Nat → Bool), n + gp = 32 ∧ s5 = .int .i64 (ff X n) ∧ s7 = .int .i64 (31 - (n : Int)) ∧ Hid (QS B s wx B X ∧ Seen wx t S ∧ Sn X n 0 S) ∧ Far B w wx)
        case atStart => exact ⟨0, _, by omega, rfl, rfl, HI0, M1⟩
        case round =>
          clear HI0 M1
          obtain ⟨n, S, hng, rfl, rfl, HI, M2⟩ := hrel
          generalize wr = wouter at *
          cases gk with
          | zero =>
            obtain rfl : n = 32 := by omega
            have h7 : ¬ ((0 : Int) ≤ 31 - ((32 : Nat) : Int)) := by omega
            have hF := qfirst_any HI.out.1
            rcases ff_all HG.out with ⟨e1, e2, e3⟩ | ⟨e1, e2⟩
            · rw [e1, ← e2] at hF
              clear e1 e2
              generalize ff X 32 = v at *
              go_wp2_with (first
                | (go_at_call 5; refine (lives_any _).mono ?_; rintro e w4 ⟨rfl, m4⟩; replace M2 := M2.low m4; clear m4)
                | (go_at_call 12; refine hF.mono ?_; rintro e w3 ⟨rfl, m3⟩; replace M2 := M2.low m3; clear m3))
              go_ret
              exact ⟨rfl, M2.low'⟩
            · rw [e1] at hF
              rw [e2]
              generalize fsv X = v at *
              go_wp2_with (first
                | (go_at_call 5; refine (lives_any _).mono ?_; rintro e w4 ⟨rfl, m4⟩; replace M2 := M2.low m4; clear m4)
                | (go_at_call 12; refine hF.mono ?_; rintro e w3 ⟨rfl, m3⟩; replace M2 := M2.low m3; clear m3))
              go_ret
              exact ⟨rfl, M2.low'⟩
          | succ gp =>
            obtain ⟨r, hr⟩ : ∃ r : Nat, 31 - (n : Int) = (r : Int) := ⟨31 - n, by omega⟩
            have HR : Hid (31 - (n : Int) = (r : Int)) := hr
            have hr32 : r < 32 := by omega
            have h7 : (0 : Int) ≤ (r : Int) := by omega
            obtain ⟨xs, hxs⟩ : ∃ xs, X r = xs := ⟨_, rfl⟩
            have HXS : Hid (X r = xs) := hxs
            obtain ⟨m, hm⟩ : ∃ m, xs.length = m := ⟨_, rfl⟩
            have HL : Hid (xs.length = m) := hm
            have hls : lsX X (r : Int) = xs := by unfold lsX; rw [if_pos (by omega)]; exact hxs
            have HLS : Hid (lsX X (r : Int) = xs) := hls
            have hml : m ≤ 1000000 := by
              have h1 := few 256 (X r) (HG.out.nd r hr32) (fun x hx => by have := HG.out.lo r hr32 x hx; omega)
              rw [hxs, hm] at h1
              omega
            have hL1 := list_at HI.out.1 hls hm
            have hlo := at_lt HI.out.2.1
            rw [hr]
            clear hr hxs hm hls
            have hways : (ff X n < 0 ∧ (0 : Int) < m) ∨ (ff X n < 0 ∧ ¬ (0 : Int) < m) ∨ ¬ ff X n < 0 := by omega
            rcases hways with hw | hw | hw
            · have hf5 : ff X n < 0 := hw.1
              have hmp : (0 : Int) < m := hw.2
              have hmd : decide (0 < m) = true := decide_eq_true (by omega)
              have h0c : 0 < xs.length := by rw [HL.out]; omega
              obtain ⟨v0, hv0⟩ : ∃ v0, xs.headD 0 = v0 := ⟨_, rfl⟩
              have HV0 : Hid (xs.headD 0 = v0) := hv0
              clear hv0
              have HV : Hid (ff X (n + 1) = v0) := by show _ = _; rw [ff_succ, if_pos ⟨hw.1, by rw [show 31 - n = r by have := HR.out; omega, HXS.out]; intro h0; have := HL.out; rw [h0] at this; simp at this; omega⟩, show 31 - n = r by (have := HR.out; omega), HXS.out]; exact HV0.out
              go_wp2_with (first | (go_at_call 8; refine hL1.mono ?_; rintro e w2 ⟨sl, cl, rfl, o2, _, q2, m2⟩; have HI2 : Hid (QS B s w2 B (up X r (tn 0 xs)) ∧ Seen w2 t S ∧ Sn X n 0 S ∧ LS t w2 sl xs) := ⟨(by rw [tn_zero, ← HXS.out, up_self]; exact q2), (m2.block t hlo).trans HI.out.2.1, HI.out.2.2, LS.own o2 HL.out hlo⟩; replace M2 := M2.low m2; clear o2 q2 m2; obtain ⟨g0, hg0, _, _, hg0c⟩ := HI2.out.2.2.2 h0c; have d0 := hg0c 0 h0c; rw [show xs.getD 0 0 = xs.headD 0 by cases xs <;> rfl, HV0.out] at d0; subst hg0; clear hg0c h0c))
              clear HI hw
              go_loopg [9] m (fun g2 s9 wx => ∃ (k : Nat) (S' : Nat → Bool), k + g2 = m ∧ s9 = .int .i64 (k : Int) ∧ Hid (QS B s wx B (up X r (tn k xs)) ∧ Seen wx t S' ∧ Sn X n k S' ∧ LS t wx (some ⟨g0, 0, none⟩) xs) ∧ Far B w wx)
              case atStart => exact ⟨0, S, by omega, rfl, HI2, M2⟩
              case round =>
                clear HI2 M2
                obtain ⟨k, S', hkg, rfl, HJ, M3⟩ := hrel
                cases gk with
                | zero =>
                  obtain rfl : k = m := by omega
                  have hlt3 : ¬ ((k : Int) < k) := by omega
                  obtain ⟨j1, j2, j3, j4⟩ := HJ.out
                  have eX : up X r (tn k xs) = X := by rw [← HL.out, tn_all, ← HXS.out, up_self]
                  rw [eX] at j1
                  have hL2 := list_at j1 (r := (r : Int)) (xs := xs) (n := k) HLS.out HL.out
                  have HJ2 : Hid (Seen wr t S' ∧ Sn X n k S' ∧ LS t wr (some ⟨g0, 0, none⟩) xs) := ⟨j2, j3, j4⟩
                  clear j1 j2 j3 j4 eX HJ
                  go_wp2_with (first
                    | (go_at_call 11; refine (same_is S5.out.1 S5.out.2.1 HL.out hml _ _).mono ?_; rintro e w6 ⟨rfl, m6⟩; have Q6 : Hid (QS B s w6 B X ∧ Seen w6 t S') := ⟨S5.out.2.2.1.below m6, (m6.block t (at_lt S5.out.2.2.2)).trans S5.out.2.2.2⟩; replace M3 := M3.low m6; clear m6)
                    | (go_at_call 8; refine hL2.mono ?_; rintro e w5 ⟨sp5, cap5, rfl, _, s5, q5, m5⟩; have S5 : Hid (Src w5 sp5 xs ∧ Src w5 (some ⟨g0, 0, none⟩) xs ∧ QS B s w5 B X ∧ Seen w5 t S') := ⟨s5, HJ2.out.2.2.src.below m5, q5, (m5.block t (at_lt HJ2.out.1)).trans HJ2.out.1⟩; replace M3 := M3.low m5; clear s5 q5 m5))
                  go_roundg gp
                  case measure => omega
                  case rel =>
                    refine ⟨n + 1, S', by omega, by (rw [HV.out]; try simp), ?_, ⟨Q6.out.1, Q6.out.2, ?_⟩, M3⟩
                    · refine congrArg (Value.int IntKind.i64) ?_
                      have := HR.out
                      first | (rw [IntKind.wrap_i64]; omega) | omega
                    · have h3 := HJ2.out.2.1
                      refine Sn.rank (by omega) ?_
                      rw [show 31 - n = r by have := HR.out; omega, HXS.out, HL.out]
                      exact h3
                | succ g3 =>
                  have hlt3 : (k : Int) < m := by omega
                  have hkm : k < m := by omega
                  obtain ⟨j1, j2, j3, j4⟩ := HJ.out
                  have hrn : 31 - n = r := by have := HR.out; omega
                  have hkl : k < (X r).length := by rw [HXS.out, HL.out]; exact hkm
                  have hXr : X r = xs := HXS.out
                  have hzm : xs.getD k 0 ∈ X r := by rw [hXr]; exact getD_mem (by rw [HL.out]; exact hkm)
                  obtain ⟨z1, z2⟩ := HG.out.lo r hr32 _ hzm
                  obtain ⟨a, ha⟩ := Int.eq_ofNat_of_zero_le z1
                  have ha256 : a < 256 := by omega
                  have haI : (a : Int) < 256 := by omega
                  have haJ : ¬ (255 < (a : Int)) := by omega
                  have haK : ¬ ((a : Int) < 0) := by omega
                  have hgd := j1.good
                  have hup : up X r (tn k xs) r = tn k xs := up_at _ _ _
                  obtain ⟨e1, e2⟩ := rk_yes hgd (r := (r : Int)) (by omega) (by omega) (z := (a : Int)) (by show _ ∈ up X r (tn k xs) r; rw [hup, tn_mem, ← ha]; exact getD_mem (by rw [HL.out]; exact hkm))
                  have hRk := qrank_any j1 (a : Int)
                  rw [e1, e2] at hRk
                  obtain ⟨f1, f2⟩ := tuE_rank (X := up X r (tn k xs)) hr32
                  rw [hup] at f1 f2
                  have hk0 : tn k xs ≠ [] := tn_ne (by rw [HL.out]; exact hkm)
                  have f3 : takeE (tn k xs) = 0 := by cases hh : tn k xs with
                    | nil => exact absurd hh hk0
                    | cons b l => exact takeE_cons b l
                  rw [f3] at f1
                  rw [up_up, tn_next (by rw [HL.out]; exact hkm)] at f2
                  have HT : Hid (∀ w', QS B s w' B (up X r (tn k xs)) → Calls Try.prog 10 #[.pointer (some ⟨B, 0, none⟩), .int .i64 (r : Int)] w' fun v w'' => v = .returned (.int .i64 0) ∧ QS B s w'' B (up X r (tn (k + 1) xs)) ∧ Mid B s w' w'') := fun w' h' => turn_at h' f1 f2
                  obtain ⟨g, hg, hg1, hg2, hg3⟩ := j4 (by rw [HL.out]; omega)
                  cases hg
                  have d1 := hg3 k (by rw [HL.out]; exact hkm)
                  have hS0 : S' a = false := j3.not HG.out (by omega) (by rw [hrn]; exact hkl) (by rw [hrn, hXr]; exact ha)
                  have HN : Hid (Sn X n (k + 1) (fun i => if i = a then true else S' i)) := j3.next (by rw [hrn]; exact hkl) (by rw [hrn, hXr]; exact ha)
                  rw [ha] at d1
                  have HD : Hid (∀ w', Mid2 B s t wr w' → w'.cell? ⟨g0, k, none⟩ = some (.int .i64 (a : Int))) := fun w' m' => (World.cell?_of_block (m'.block g0 hg2 (Or.inr (by omega)) (by omega))).trans d1
                  have HSe : Hid (∀ w', Mid B s wr w' → w'.cell? ⟨t, a, none⟩ = some (.bool false) ∧ w'.frozen? ⟨t, a, none⟩ = false ∧ Seen w' t S') := fun w' m' => by
                    have h1 := j2.mid hst m'
                    exact ⟨by rw [h1.cell ha256, hS0], h1.free _, h1⟩
                  have HJ3 : Hid (LS t wr (some ⟨g0, 0, none⟩) xs) := j4
                  have HJ1 : Hid (QS B s wr B (up X r (tn k xs))) := j1
                  clear HJ j1 j2 j3 j4 hgd hup e1 e2 f1 f2 f3 hk0 hzm z1 z2 ha hg1 hg2 hg3 hS0 hXr hkl hrn
                  go_wp2_with (first
                    | (go_at_call 10; refine (HT.out w2 Q2.out).mono ?_; rintro e w3 ⟨rfl, q3, m3⟩; have MM : Hid (Mid B s wr w3) := MM2.out.trans m3; have d3 := HD.out w3 (Mid2.mid MM.out); obtain ⟨c3, f3, s3⟩ := HSe.out w3 MM.out; have Q3 : Hid (QS B s w3 B (up X r (tn (k + 1) xs)) ∧ Seen w3 t S') := ⟨q3, s3⟩; replace M3 := M3.mid m3; clear q3 m3 s3)
                    | (go_at_call 9; refine hRk.mono ?_; rintro e w2 ⟨rfl, m2⟩; have d2 := HD.out w2 (Mid2.low m2); have MM2 : Hid (Mid B s wr w2) := Mid.of m2; obtain ⟨c2, _, s2⟩ := HSe.out w2 MM2.out; have Q2 : Hid (QS B s w2 B (up X r (tn k xs))) := HJ1.out.below m2; replace M3 := M3.low m2; clear m2 s2))
                  go_roundg g3
                  case measure => omega
                  case rel =>
                    refine ⟨k + 1, _, by omega, by go_num, ⟨Q3.out.1.seen hst _ _, Q3.out.2.set ha256, HN.out, ?_⟩, M3.mid2 (s := s) (Mid2.set _ _ _) (by have := M3.le; omega)⟩
                    exact HJ3.out.mid2 ((Mid2.mid MM.out).trans (Mid2.set w3 a (.bool true))) hst
            · have hf5 : ff X n < 0 := hw.1
              have hmp : ¬ ((0 : Int) < m) := hw.2
              have hmd : decide (0 < m) = false := decide_eq_false (by omega)
              have HV : Hid (ff X (n + 1) = ff X n) := by show _ = _; rw [ff_succ, if_neg (fun c => c.2 (by rw [show 31 - n = r by have := HR.out; omega, HXS.out]; exact List.length_eq_zero_iff.1 (by have := HL.out; omega)))]
              go_wp2_with (first | (go_at_call 8; refine hL1.mono ?_; rintro e w2 ⟨sl, cl, rfl, o2, _, q2, m2⟩; have HI2 : Hid (QS B s w2 B (up X r (tn 0 xs)) ∧ Seen w2 t S ∧ Sn X n 0 S ∧ LS t w2 sl xs) := ⟨(by rw [tn_zero, ← HXS.out, up_self]; exact q2), (m2.block t hlo).trans HI.out.2.1, HI.out.2.2, LS.own o2 HL.out hlo⟩; replace M2 := M2.low m2; clear o2 q2 m2))
              clear HI hw
              go_loopg [9] m (fun g2 s9 wx => ∃ (k : Nat) (S' : Nat → Bool), k + g2 = m ∧ s9 = .int .i64 (k : Int) ∧ Hid (QS B s wx B (up X r (tn k xs)) ∧ Seen wx t S' ∧ Sn X n k S' ∧ LS t wx sl xs) ∧ Far B w wx)
              case atStart => exact ⟨0, S, by omega, rfl, HI2, M2⟩
              case round =>
                clear HI2 M2
                obtain ⟨k, S', hkg, rfl, HJ, M3⟩ := hrel
                cases gk with
                | zero =>
                  obtain rfl : k = m := by omega
                  have hlt3 : ¬ ((k : Int) < k) := by omega
                  obtain ⟨j1, j2, j3, j4⟩ := HJ.out
                  have eX : up X r (tn k xs) = X := by rw [← HL.out, tn_all, ← HXS.out, up_self]
                  rw [eX] at j1
                  have hL2 := list_at j1 (r := (r : Int)) (xs := xs) (n := k) HLS.out HL.out
                  have HJ2 : Hid (Seen wr t S' ∧ Sn X n k S' ∧ LS t wr sl xs) := ⟨j2, j3, j4⟩
                  clear j1 j2 j3 j4 eX HJ
                  go_wp2_with (first
                    | (go_at_call 11; refine (same_is S5.out.1 S5.out.2.1 HL.out hml _ _).mono ?_; rintro e w6 ⟨rfl, m6⟩; have Q6 : Hid (QS B s w6 B X ∧ Seen w6 t S') := ⟨S5.out.2.2.1.below m6, (m6.block t (at_lt S5.out.2.2.2)).trans S5.out.2.2.2⟩; replace M3 := M3.low m6; clear m6)
                    | (go_at_call 8; refine hL2.mono ?_; rintro e w5 ⟨sp5, cap5, rfl, _, s5, q5, m5⟩; have S5 : Hid (Src w5 sp5 xs ∧ Src w5 sl xs ∧ QS B s w5 B X ∧ Seen w5 t S') := ⟨s5, HJ2.out.2.2.src.below m5, q5, (m5.block t (at_lt HJ2.out.1)).trans HJ2.out.1⟩; replace M3 := M3.low m5; clear s5 q5 m5))
                  go_roundg gp
                  case measure => omega
                  case rel =>
                    refine ⟨n + 1, S', by omega, by (rw [HV.out]; try simp), ?_, ⟨Q6.out.1, Q6.out.2, ?_⟩, M3⟩
                    · refine congrArg (Value.int IntKind.i64) ?_
                      have := HR.out
                      first | (rw [IntKind.wrap_i64]; omega) | omega
                    · have h3 := HJ2.out.2.1
                      refine Sn.rank (by omega) ?_
                      rw [show 31 - n = r by have := HR.out; omega, HXS.out, HL.out]
                      exact h3
                | succ g3 => exfalso; omega
            · have hf5 : ¬ ff X n < 0 := hw
              have HV : Hid (ff X (n + 1) = ff X n) := by show _ = _; rw [ff_succ, if_neg (fun c => hw c.1)]
              go_wp2_with (first | (go_at_call 8; refine hL1.mono ?_; rintro e w2 ⟨sl, cl, rfl, o2, _, q2, m2⟩; have HI2 : Hid (QS B s w2 B (up X r (tn 0 xs)) ∧ Seen w2 t S ∧ Sn X n 0 S ∧ LS t w2 sl xs) := ⟨(by rw [tn_zero, ← HXS.out, up_self]; exact q2), (m2.block t hlo).trans HI.out.2.1, HI.out.2.2, LS.own o2 HL.out hlo⟩; replace M2 := M2.low m2; clear o2 q2 m2))
              clear HI hw
              go_loopg [9] m (fun g2 s9 wx => ∃ (k : Nat) (S' : Nat → Bool), k + g2 = m ∧ s9 = .int .i64 (k : Int) ∧ Hid (QS B s wx B (up X r (tn k xs)) ∧ Seen wx t S' ∧ Sn X n k S' ∧ LS t wx sl xs) ∧ Far B w wx)
              case atStart => exact ⟨0, S, by omega, rfl, HI2, M2⟩
              case round =>
                clear HI2 M2
                obtain ⟨k, S', hkg, rfl, HJ, M3⟩ := hrel
                cases gk with
                | zero =>
                  obtain rfl : k = m := by omega
                  have hlt3 : ¬ ((k : Int) < k) := by omega
                  obtain ⟨j1, j2, j3, j4⟩ := HJ.out
                  have eX : up X r (tn k xs) = X := by rw [← HL.out, tn_all, ← HXS.out, up_self]
                  rw [eX] at j1
                  have hL2 := list_at j1 (r := (r : Int)) (xs := xs) (n := k) HLS.out HL.out
                  have HJ2 : Hid (Seen wr t S' ∧ Sn X n k S' ∧ LS t wr sl xs) := ⟨j2, j3, j4⟩
                  clear j1 j2 j3 j4 eX HJ
                  go_wp2_with (first
                    | (go_at_call 11; refine (same_is S5.out.1 S5.out.2.1 HL.out hml _ _).mono ?_; rintro e w6 ⟨rfl, m6⟩; have Q6 : Hid (QS B s w6 B X ∧ Seen w6 t S') := ⟨S5.out.2.2.1.below m6, (m6.block t (at_lt S5.out.2.2.2)).trans S5.out.2.2.2⟩; replace M3 := M3.low m6; clear m6)
                    | (go_at_call 8; refine hL2.mono ?_; rintro e w5 ⟨sp5, cap5, rfl, _, s5, q5, m5⟩; have S5 : Hid (Src w5 sp5 xs ∧ Src w5 sl xs ∧ QS B s w5 B X ∧ Seen w5 t S') := ⟨s5, HJ2.out.2.2.src.below m5, q5, (m5.block t (at_lt HJ2.out.1)).trans HJ2.out.1⟩; replace M3 := M3.low m5; clear s5 q5 m5))
                  go_roundg gp
                  case measure => omega
                  case rel =>
                    refine ⟨n + 1, S', by omega, by (rw [HV.out]; try simp), ?_, ⟨Q6.out.1, Q6.out.2, ?_⟩, M3⟩
                    · refine congrArg (Value.int IntKind.i64) ?_
                      have := HR.out
                      first | (rw [IntKind.wrap_i64]; omega) | omega
                    · have h3 := HJ2.out.2.1
                      refine Sn.rank (by omega) ?_
                      rw [show 31 - n = r by have := HR.out; omega, HXS.out, HL.out]
                      exact h3
                | succ g3 =>
                  have hlt3 : (k : Int) < m := by omega
                  have hkm : k < m := by omega
                  obtain ⟨j1, j2, j3, j4⟩ := HJ.out
                  have hrn : 31 - n = r := by have := HR.out; omega
                  have hkl : k < (X r).length := by rw [HXS.out, HL.out]; exact hkm
                  have hXr : X r = xs := HXS.out
                  have hzm : xs.getD k 0 ∈ X r := by rw [hXr]; exact getD_mem (by rw [HL.out]; exact hkm)
                  obtain ⟨z1, z2⟩ := HG.out.lo r hr32 _ hzm
                  obtain ⟨a, ha⟩ := Int.eq_ofNat_of_zero_le z1
                  have ha256 : a < 256 := by omega
                  have haI : (a : Int) < 256 := by omega
                  have haJ : ¬ (255 < (a : Int)) := by omega
                  have haK : ¬ ((a : Int) < 0) := by omega
                  have hgd := j1.good
                  have hup : up X r (tn k xs) r = tn k xs := up_at _ _ _
                  obtain ⟨e1, e2⟩ := rk_yes hgd (r := (r : Int)) (by omega) (by omega) (z := (a : Int)) (by show _ ∈ up X r (tn k xs) r; rw [hup, tn_mem, ← ha]; exact getD_mem (by rw [HL.out]; exact hkm))
                  have hRk := qrank_any j1 (a : Int)
                  rw [e1, e2] at hRk
                  obtain ⟨f1, f2⟩ := tuE_rank (X := up X r (tn k xs)) hr32
                  rw [hup] at f1 f2
                  have hk0 : tn k xs ≠ [] := tn_ne (by rw [HL.out]; exact hkm)
                  have f3 : takeE (tn k xs) = 0 := by cases hh : tn k xs with
                    | nil => exact absurd hh hk0
                    | cons b l => exact takeE_cons b l
                  rw [f3] at f1
                  rw [up_up, tn_next (by rw [HL.out]; exact hkm)] at f2
                  have HT : Hid (∀ w', QS B s w' B (up X r (tn k xs)) → Calls Try.prog 10 #[.pointer (some ⟨B, 0, none⟩), .int .i64 (r : Int)] w' fun v w'' => v = .returned (.int .i64 0) ∧ QS B s w'' B (up X r (tn (k + 1) xs)) ∧ Mid B s w' w'') := fun w' h' => turn_at h' f1 f2
                  obtain ⟨g, rfl, hg1, hg2, hg3⟩ := j4 (by rw [HL.out]; omega)
                  have d1 := hg3 k (by rw [HL.out]; exact hkm)
                  have hS0 : S' a = false := j3.not HG.out (by omega) (by rw [hrn]; exact hkl) (by rw [hrn, hXr]; exact ha)
                  have HN : Hid (Sn X n (k + 1) (fun i => if i = a then true else S' i)) := j3.next (by rw [hrn]; exact hkl) (by rw [hrn, hXr]; exact ha)
                  rw [ha] at d1
                  have HD : Hid (∀ w', Mid2 B s t wr w' → w'.cell? ⟨g, k, none⟩ = some (.int .i64 (a : Int))) := fun w' m' => (World.cell?_of_block (m'.block g hg2 (Or.inr (by omega)) (by omega))).trans d1
                  have HSe : Hid (∀ w', Mid B s wr w' → w'.cell? ⟨t, a, none⟩ = some (.bool false) ∧ w'.frozen? ⟨t, a, none⟩ = false ∧ Seen w' t S') := fun w' m' => by
                    have h1 := j2.mid hst m'
                    exact ⟨by rw [h1.cell ha256, hS0], h1.free _, h1⟩
                  have HJ3 : Hid (LS t wr (some ⟨g, 0, none⟩) xs) := j4
                  have HJ1 : Hid (QS B s wr B (up X r (tn k xs))) := j1
                  clear HJ j1 j2 j3 j4 hgd hup e1 e2 f1 f2 f3 hk0 hzm z1 z2 ha hg1 hg2 hg3 hS0 hXr hkl hrn
                  go_wp2_with (first
                    | (go_at_call 10; refine (HT.out w2 Q2.out).mono ?_; rintro e w3 ⟨rfl, q3, m3⟩; have MM : Hid (Mid B s wr w3) := MM2.out.trans m3; have d3 := HD.out w3 (Mid2.mid MM.out); obtain ⟨c3, f3, s3⟩ := HSe.out w3 MM.out; have Q3 : Hid (QS B s w3 B (up X r (tn (k + 1) xs)) ∧ Seen w3 t S') := ⟨q3, s3⟩; replace M3 := M3.mid m3; clear q3 m3 s3)
                    | (go_at_call 9; refine hRk.mono ?_; rintro e w2 ⟨rfl, m2⟩; have d2 := HD.out w2 (Mid2.low m2); have MM2 : Hid (Mid B s wr w2) := Mid.of m2; obtain ⟨c2, _, s2⟩ := HSe.out w2 MM2.out; have Q2 : Hid (QS B s w2 B (up X r (tn k xs))) := HJ1.out.below m2; replace M3 := M3.low m2; clear m2 s2))
                  go_roundg g3
                  case measure => omega
                  case rel =>
                    refine ⟨k + 1, _, by omega, by go_num, ⟨Q3.out.1.seen hst _ _, Q3.out.2.set ha256, HN.out, ?_⟩, M3.mid2 (s := s) (Mid2.set _ _ _) (by have := M3.le; omega)⟩
                    exact HJ3.out.mid2 ((Mid2.mid MM.out).trans (Mid2.set w3 a (.bool true))) hst
      | succ gk =>
        have hlt : (i : Int) < q := by omega
        obtain ⟨⟨k, y, t⟩, hx⟩ : ∃ x, acts[i]? = some x := ⟨_, List.getElem?_eq_getElem (by rw [HQ.out]; omega)⟩
        obtain ⟨b, off, rfl, hbl, hc⟩ := (HS.out.below M.low').spot (by rw [HQ.out]; omega)
        obtain ⟨y0, y1, y2⟩ := hc i _ hx
        obtain ⟨hk, _, _⟩ := HS.out.wf i _ hx
        simp only at y0 y1 y2 hk
        clear hc hx
        go_wp2_with (first | (go_at_call 7; refine (does_at HX.out k y t hk).mono ?_; rintro e w2 ⟨rfl, q2, m2⟩; have H2 : Hid (QS B s w2 B (doX X (k, y, t))) := q2; replace M := M.mid m2; clear q2 m2))
        go_roundg gk
        case measure => omega
        case rel => exact ⟨i + 1, _, by omega, by go_num, H2, M⟩
end Go.Proofs.Ytjhpiecbolmleaa
