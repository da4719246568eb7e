/- 'RingsRound' walked: turned as often as there are numbers, a ring is as it was; turned once, the first one is the last one. -/
import Derived.Test.YtppookpacdheaaaSlices
namespace Go.Proofs.Ytppookpacdheaaa
open Go Go.RowKit
set_option maxRecDepth 100000
set_option linter.unusedVariables false
set_option maxHeartbeats 4000000 in
theorem round_any (x : Int) (hx : 0 ≤ x ∧ x ≤ 255) {sp : Option Addr} {L : List Int} (w : World) (hs : BSrc w.heap.size w sp L) (hl : L.length ≤ maxLen) (cap : Nat) :
    Calls Try.prog 5 #[.slice sp L.length cap, .int .u8 x] w fun e w' => e = .returned (.bool true) ∧ Below w.heap.size w w' := by
  unfold maxLen at hl
  obtain ⟨q, hq⟩ : ∃ q, L.length = q := ⟨_, rfl⟩
  rw [hq] at hl ⊢
  have HQ : Hid (L.length = q) := hq
  have HS : Hid (BSrc w.heap.size w sp L) := hs
  clear hq hs
  by_cases hbig : 100 < q
  · go_enter Try.func5, Try.ntmps5
    go_wp2_with (first
      | (go_at_call 14; clear M1; refine (alive_any _).mono ?_; rintro e w2 ⟨rfl, hb2⟩)
      | (go_at_call 14; refine (alive_any _).mono ?_; rintro e w1 ⟨rfl, hB⟩; have M1 := True.intro))
    go_ret
    exact ⟨rfl, hB.trans (hb2.mono hB.size)⟩
  · by_cases h0 : q = 0
    · subst h0
      go_enter Try.func5, Try.ntmps5
      go_wp2_with (first
        | (go_at_call 14; clear M1; refine (alive_any _).mono ?_; rintro e w2 ⟨rfl, hb2⟩)
        | (go_at_call 14; refine (alive_any _).mono ?_; rintro e w1 ⟨rfl, hB⟩; have M1 := True.intro))
      go_ret
      exact ⟨rfl, hB.trans (hb2.mono hB.size)⟩
    · have h0' : ((q : Int) == 0) = false := by simp; omega
      obtain ⟨y, hy⟩ := Int.eq_ofNat_of_zero_le (a := x) hx.1
      subst hy
      obtain ⟨t, ht⟩ : ∃ t, y % 60 = t := ⟨_, rfl⟩
      have hrem : Int.tmod (y : Int) 60 = (t : Int) := by rw [← ht]; exact (Int.ofNat_tmod y 60).symm
      have ht60 : t < 60 := by rw [← ht]; exact Nat.mod_lt _ (by decide)
      clear ht
      go_enter Try.func5, Try.ntmps5
      go_wp2_with (first
        | (go_at_call 14; refine (alive_any _).mono ?_; rintro e w1 ⟨rfl, hB⟩)
        | (go_at_call 15; refine (unlike_any ((HS.out.below hB).mono hB.size) HQ.out (by omega) _).mono ?_; rintro e w2 ⟨us, v, rfl, ho, hu, hb⟩; have HU : Hid (Unl us q) := hu; have hm0 := hu.some (by omega); have hmq := hu.few; obtain ⟨m, hm⟩ : ∃ m, us.length = m := ⟨_, rfl⟩; have HM : Hid (us.length = m) := hm; rw [hm] at ho hm0 hmq; obtain ⟨ga, ca, rfl, hca, hcm⟩ := owns_spot ho hm0; have HO : Hid (w2.ownsRow w1.heap.size 3 1 (.slice (some ⟨ga, 0, none⟩) m ca) m (us.map (Value.int .i64))) := ho; have hga := (ho.lt ga rfl).1; have hgl := (ho.lt ga rfl).2; have hB1 := hB.size; replace hB := hB.trans (hb.mono hB.size); clear hu ho hb hm)
        | (go_at_call 16; refine (filled_any (own_src HO.out HM.out) HM.out HU.out.good 0 (by omega) (by omega) _).mono ?_; rintro e w3 ⟨p, rfl, g, hr, hp, hg, hb⟩; have HR : Hid (Ring w3 p g m (rot us (0 % m))) := (by rw [Nat.zero_mod, rot_zero]; exact hr); replace HO : Hid (w3.ownsRow w1.heap.size 3 1 (.slice (some ⟨ga, 0, none⟩) m ca) m (us.map (Value.int .i64))) := owns_below HO.out hb; replace hB := hB.trans (hb.mono hB.size); clear hr hb))
      have hmz : ((m : Int) == 0) = false := by simp; omega
      go_loopg [8] t (fun q s8 wx => ∃ i : Nat, i + q = t ∧ s8 = .int .i64 i ∧ Hid (Ring wx p g m (rot us (i % m))) ∧ Hid (wx.ownsRow w1.heap.size 3 1 (.slice (some ⟨ga, 0, none⟩) m ca) m (us.map (Value.int .i64))) ∧ Below w.heap.size w wx)
      case atStart => exact ⟨0, by omega, rfl, HR, HO, hB⟩
      case round =>
        clear HR HO hB
        obtain ⟨i, hiq, rfl, HR, HO, hB⟩ := hrel
        cases gk with
        | succ q' =>
          have hlt : (i : Int) < t := by omega
          obtain ⟨e1, e2⟩ := turn_rot (i := i) HM.out hm0
          have HC : Hid (Calls Try.prog 12 #[.pointer (some ⟨p, 0, none⟩)] wr fun r w' => r = .returned (.int .i64 0) ∧ Ring w' p g m (rot us ((i + 1) % m)) ∧ Buts [p, g] wr w') := turn_is HR.out e1 e2
          clear e1 e2
          go_wp2_with (first | (go_at_call 12; refine HC.out.mono ?_; rintro e w4 ⟨rfl, hr, hb⟩; have H4 : Hid (Ring w4 p g m (rot us ((i + 1) % m))) := hr; have O4 : Hid (w4.ownsRow w1.heap.size 3 1 (.slice (some ⟨ga, 0, none⟩) m ca) m (us.map (Value.int .i64))) := owns_buts HO.out hb (fun x hx => (by obtain rfl : ga = x := (by simpa [Value.ownBlock] using hx); exact two_mem (by omega) (by omega))); replace hB := hB.trans (two_below hb (by omega) (by omega) hB.size); clear hr hb))
          go_roundg q'
          case measure => omega
          case rel => exact ⟨i + 1, by omega, by go_num, H4, O4, hB⟩
        | zero =>
          obtain rfl : i = t := by omega
          have hlt : ¬ ((i : Int) < i) := by omega
          obtain ⟨k, hk⟩ : ∃ k, i % m = k := ⟨_, rfl⟩
          have hkm : k < m := by rw [← hk]; exact Nat.mod_lt _ hm0
          have hrem2 : Int.tmod (i : Int) (m : Int) = (k : Int) := by rw [← hk]; exact (Int.ofNat_tmod i m).symm
          rw [hk] at HR
          clear hk
          obtain ⟨i0, hi, hz0, hz1, hz2⟩ := info_parts infoW
          have hgr : ga < wr.heap.size := (HO.out.lt ga rfl).2
          have hkmI : (k : Int) ≤ m := by omega
          have hck : ¬ ca = k := by omega
          have hkc : k ≤ ca := by omega
          have HD : Hid (Src wr.drew (some ⟨ga, 0, none⟩) us) := (own_src HO.out HM.out).below (drew_below wr)
          have D1 : Hid (((us.drop k).map (Value.int .i64)).length = (m - k) * 1) := by show _ = _; simp [HM.out]
          have D2 : Hid (∀ j u, ((us.drop k).map (Value.int .i64))[j]? = some u → wr.drew.cell? ((⟨ga, k, none⟩ : Addr).add j) = some u) := by
            have := HD.out.drop k (by have := HM.out; omega)
            rw [Nat.zero_add] at this
            exact src_news this
          have E1 : Hid (((us.take k).map (Value.int .i64)).length = k * 1) := by show _ = _; have := HM.out; simp; omega
          have HB0 : Hid (Below wr.heap.size wr wr.drew) := drew_below wr
          go_wp2
          go_region_law (first
            | (refine step_append_own rfl (.tmp 48) (.tmp 51) 23 rfl wr.heap.size 3 i0 _ 1 8 Try.underlying23 hi hz0 hz1 hz2 rfl (by omega) (.slice (some ⟨g1, 0, none⟩) (m - k) c1) (m - k) ((us.drop k).map (Value.int .i64)) rfl HO1.out ⟨ga, 0, none⟩ k ca ((us.take k).map (Value.int .i64)) rfl E1.out E2.out (ints_one _) (by simp only [maxLen]; omega) (by omega) HB1.out.size ?_; intro v2 wb ho2 hg2 _; have HB2 : Hid (Below wr.heap.size wr wb) := HB1.out.trans (own_grown HO1.out hg2 HB1.out.size); rw [show m - k + k = m by omega] at ho2; obtain ⟨g2, c2, rfl, _⟩ := owns_spot ho2 hm0; have HO2 : Hid (wb.ownsRow wr.heap.size 3 1 (.slice (some ⟨g2, 0, none⟩) m c2) m ((rot us k).map (Value.int .i64))) := (by show World.ownsRow _ _ _ _ _ _ _; rw [rot, List.map_append]; exact ho2); clear ho2 hg2)
            | (refine step_append_own rfl (.const (.slice none 0 0)) (.tmp 47) 23 rfl wr.heap.size 3 i0 _ 1 8 Try.underlying23 hi hz0 hz1 hz2 rfl (by omega) (.slice none 0 0) 0 [] rfl (World.ownsRow_nil _ _ _ _) ⟨ga, k, none⟩ (m - k) (ca - k) ((us.drop k).map (Value.int .i64)) rfl D1.out D2.out (ints_one _) (by simp only [maxLen]; omega) (by omega) (Nat.le_refl _) ?_; intro v1 wa ho1 hg1 _; rw [Nat.zero_add, List.nil_append] at ho1; obtain ⟨g1, c1, rfl, _⟩ := owns_spot ho1 (by omega); have HO1 : Hid (wa.ownsRow wr.heap.size 3 1 (.slice (some ⟨g1, 0, none⟩) (m - k) c1) (m - k) ((us.drop k).map (Value.int .i64))) := ho1; have HB1 : Hid (Below wr.heap.size wr wa) := HB0.out.trans ((Buts.grown hg1).below (fun x hx => (by simp [Value.ownBlock] at hx)) HB0.out.size); have E2 : Hid (∀ j u, ((us.take k).map (Value.int .i64))[j]? = some u → wa.cell? ((⟨ga, 0, none⟩ : Addr).add j) = some u) := src_news (((own_src HO.out HM.out).below HB1.out).take k); clear ho1 hg1))
          all_goals
            have HR2 : Hid (Ring wb p g m (rot us k)) := HR.out.below HB2.out
            have HL : Hid ((rot us k).length = m) := by show _ = _; rw [rot_len (by have := HM.out; omega)]; exact HM.out
            replace hB := hB.trans (HB2.out.mono hB.size)
            go_wp2_with (first
              | (go_at_call 13; refine (list_is HR2.out HL.out).mono ?_; rintro e w5 ⟨rfl, hr, hb⟩; have HL5 : Hid (Row w5 wb.heap.size (rot us k)) := hr; have HO5 : Hid (w5.ownsRow wr.heap.size 3 1 (.slice (some ⟨g2, 0, none⟩) m c2) m ((rot us k).map (Value.int .i64))) := owns_below HO2.out hb; replace hB := hB.trans (hb.mono hB.size); clear hr hb)
              | (go_at_call 17; refine (same_is (Src.row HL5.out) (own_src HO5.out HL.out) HL.out (by omega) _ _).mono ?_; rintro e w6 ⟨rfl, hb⟩; replace hB := hB.trans (hb.mono hB.size)))
            go_ret
            exact ⟨rfl, hB⟩
end Go.Proofs.Ytppookpacdheaaa
