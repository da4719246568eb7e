/- 'RingsKeep' walked: who is removed goes, and all others stay in their order; what is refused changes nothing. -/
import Derived.Test.YtppookpacdheaabSlices
namespace Go.Proofs.Ytppookpacdheaab
open Go Go.RowKit
set_option maxRecDepth 100000
set_option linter.unusedVariables false
set_option linter.unusedSimpArgs false
/-- what the ring's numbers are behind each call -/
structure Keeps (R : List Int) (m k : Nat) : Prop where
  f1 : addE R m 1000 = 10
  p1 : putL R m 1000 = R
  f2 : addE R m (-5) = 1
  q2 : pushL R m (-5) = R
  r3 : remE R 1000 = 1
  e3 : R.erase 1000 = R
  r4 : remE R (R.getD k 0) = 0
  e4 : R.erase (R.getD k 0) = R.take k ++ R.drop (k + 1)
theorem keeps {R : List Int} {m k : Nat} (h : Good R) (ht : ∀ u ∈ R, u ≤ 255) (hl : R.length = m) (hk : k < m) : Keeps R m k := by
  have hn : (1000 : Int) ∉ R := fun hm => by have := ht _ hm; omega
  have f1 : addE R m 1000 = 10 := addE_full (by decide) hn hl
  have f2 : addE R m (-5) = 1 := addE_arg (by decide)
  have hm : R.getD k 0 ∈ R := getD_mem (by omega)
  exact ⟨f1, by simp [putL, f1], f2, by simp [pushL, f2], by simp [remE, hn], List.erase_of_not_mem hn, by unfold remE; rw [if_pos hm], erase_at h.1 (by omega)⟩
theorem row_src {w : World} {B : Nat} {v : Value} {zs : List Int} {n : Nat} (h : w.ownsRow B 3 1 v n (zs.map (Value.int .i64))) (hn : zs.length = n) : ∃ sp cap, v = .slice sp n cap ∧ Src w sp zs := by
  subst hn; exact Src.own h
set_option maxHeartbeats 8000000 in
theorem keep_any (x y' : Int) (hx : 0 ≤ x ∧ x ≤ 255) (hy' : 0 ≤ y' ∧ y' ≤ 255) {sp : Option Addr} {L : List Int} (w : World) (hs : BSrc w.heap.size w sp L) (hl : L.length ≤ maxLen) (cap : Nat) :
    Calls Try.prog 3 #[.slice sp L.length cap, .int .u8 x, .int .u8 y'] w fun e w' => e = .returned (.bool true) ∧ Below w.heap.size w w' := by
  unfold maxLen at hl
  obtain ⟨q, hq⟩ : ∃ q, L.length = q := ⟨_, rfl⟩
  rw [hq] at hl ⊢
  have HQ : Hid (L.length = q) := hq
  have HS : Hid (BSrc w.heap.size w sp L) := hs
  clear hq hs
  by_cases hbig : 100 < q
  · go_enter Try.func3, Try.ntmps3
    go_wp2_with (first
      | (go_at_call 4; clear M1; refine (alive_any _).mono ?_; rintro e w2 ⟨rfl, hb2⟩)
      | (go_at_call 4; refine (alive_any _).mono ?_; rintro e w1 ⟨rfl, hB⟩; have M1 := True.intro))
    go_ret
    exact ⟨rfl, hB.trans (hb2.mono hB.size)⟩
  · by_cases h0 : q = 0
    · subst h0
      go_enter Try.func3, Try.ntmps3
      go_wp2_with (first
        | (go_at_call 4; clear M1; refine (alive_any _).mono ?_; rintro e w2 ⟨rfl, hb2⟩)
        | (go_at_call 4; refine (alive_any _).mono ?_; rintro e w1 ⟨rfl, hB⟩; have M1 := True.intro))
      go_ret
      exact ⟨rfl, hB.trans (hb2.mono hB.size)⟩
    · have h0' : ((q : Int) == 0) = false := by simp; omega
      obtain ⟨y, hy⟩ := Int.eq_ofNat_of_zero_le (a := x) hx.1
      subst hy
      obtain ⟨y2, hy2⟩ := Int.eq_ofNat_of_zero_le (a := y') hy'.1
      subst hy2
      obtain ⟨t, ht⟩ : ∃ t, y % 20 = t := ⟨_, rfl⟩
      have hrem : Int.tmod (y : Int) 20 = (t : Int) := by rw [← ht]; exact (Int.ofNat_tmod y 20).symm
      have ht60 : t < 20 := by rw [← ht]; exact Nat.mod_lt _ (by decide)
      clear ht
      go_enter Try.func3, Try.ntmps3
      go_wp2_with (first
        | (go_at_call 4; refine (alive_any _).mono ?_; rintro e w1 ⟨rfl, hB⟩)
        | (go_at_call 5; refine (unlike_any ((HS.out.below hB).mono hB.size) HQ.out (by omega) _).mono ?_; rintro e w2 ⟨us, v, rfl, ho, hu, hb⟩; have HU : Hid (Unl us q) := hu; have hm0 := hu.some (by omega); have hmq := hu.few; obtain ⟨m, hm⟩ : ∃ m, us.length = m := ⟨_, rfl⟩; have HM : Hid (us.length = m) := hm; rw [hm] at ho hm0 hmq; obtain ⟨ga, ca, rfl, hca, hcm⟩ := owns_spot ho hm0; have HO : Hid (w2.ownsRow w1.heap.size 3 1 (.slice (some ⟨ga, 0, none⟩) m ca) m (us.map (Value.int .i64))) := ho; have hga := (ho.lt ga rfl).1; have hgl := (ho.lt ga rfl).2; have hB1 := hB.size; replace hB := hB.trans (hb.mono hB.size); clear hu ho hb hm)
        | (go_at_call 6; refine (filled_any (own_src HO.out HM.out) HM.out HU.out.good 0 (by omega) (by omega) _).mono ?_; rintro e w3 ⟨p, rfl, g, hr, hp, hg, hb⟩; have HR : Hid (Ring w3 p g m (rot us (0 % m))) := (by rw [Nat.zero_mod, rot_zero]; exact hr); replace HO : Hid (w3.ownsRow w1.heap.size 3 1 (.slice (some ⟨ga, 0, none⟩) m ca) m (us.map (Value.int .i64))) := owns_below HO.out hb; replace hB := hB.trans (hb.mono hB.size); clear hr hb))
      have hmz : ((m : Int) == 0) = false := by simp; omega
      go_loopg [9] t (fun q s9 wx => ∃ i : Nat, i + q = t ∧ s9 = .int .i64 i ∧ Hid (Ring wx p g m (rot us (i % m))) ∧ Hid (wx.ownsRow w1.heap.size 3 1 (.slice (some ⟨ga, 0, none⟩) m ca) m (us.map (Value.int .i64))) ∧ Below w.heap.size w wx)
      case atStart => exact ⟨0, by omega, rfl, HR, HO, hB⟩
      case round =>
        clear HR HO hB
        obtain ⟨i, hiq, rfl, HR, HO, hB⟩ := hrel
        cases gk with
        | succ q' =>
          have hlt : (i : Int) < t := by omega
          obtain ⟨e1, e2⟩ := turn_rot (i := i) HM.out hm0
          have HC : Hid (Calls Try.prog 7 #[.pointer (some ⟨p, 0, none⟩)] wr fun r w' => r = .returned (.int .i64 0) ∧ Ring w' p g m (rot us ((i + 1) % m)) ∧ Buts [p, g] wr w') := turn_is HR.out e1 e2
          clear e1 e2
          go_wp2_with (first | (go_at_call 7; refine HC.out.mono ?_; rintro e w4 ⟨rfl, hr, hb⟩; have H4 : Hid (Ring w4 p g m (rot us ((i + 1) % m))) := hr; have O4 : Hid (w4.ownsRow w1.heap.size 3 1 (.slice (some ⟨ga, 0, none⟩) m ca) m (us.map (Value.int .i64))) := owns_buts HO.out hb (fun x hx => (by obtain rfl : ga = x := (by simpa [Value.ownBlock] using hx); exact two_mem (by omega) (by omega))); replace hB := hB.trans (two_below hb (by omega) (by omega) hB.size); clear hr hb))
          go_roundg q'
          case measure => omega
          case rel => exact ⟨i + 1, by omega, by go_num, H4, O4, hB⟩
        | zero =>
          obtain rfl : i = t := by omega
          have hlt : ¬ ((i : Int) < i) := by omega
          obtain ⟨kt, hkt⟩ : ∃ kt, i % m = kt := ⟨_, rfl⟩
          have hktm : kt < m := by rw [← hkt]; exact Nat.mod_lt _ hm0
          obtain ⟨R, hR⟩ : ∃ R, rot us kt = R := ⟨_, rfl⟩
          have HL : Hid (R.length = m) := by show _ = _; rw [← hR, rot_len (by have := HM.out; omega)]; exact HM.out
          obtain ⟨k, hk⟩ : ∃ k, y2 % m = k := ⟨_, rfl⟩
          have hkm : k < m := by rw [← hk]; exact Nat.mod_lt _ hm0
          have hrem2 : Int.tmod (y2 : Int) (m : Int) = (k : Int) := by rw [← hk]; exact (Int.ofNat_tmod y2 m).symm
          have HK : Hid (Keeps R m k) := keeps (by rw [← hR]; exact rot_good HU.out.good kt) (fun u hu => by rw [← hR, rot_mem] at hu; exact HU.out.top u hu) HL.out hkm
          rw [hkt, hR] at HR
          clear hkt hR hk
          have hkmI : (k : Int) < m := by omega
          obtain ⟨z, hz⟩ : ∃ z, R.getD k 0 = z := ⟨_, rfl⟩
          have HZ : Hid (R.getD k 0 = z) := hz
          have HW : Hid (addE R m 1000 = 10 ∧ putL R m 1000 = R ∧ addE R m (-5) = 1 ∧ pushL R m (-5) = R ∧ remE R 1000 = 1 ∧ R.erase 1000 = R ∧ remE R z = 0 ∧ R.erase z = R.take k ++ R.drop (k + 1)) := by
            rw [← hz]; exact ⟨HK.out.f1, HK.out.p1, HK.out.f2, HK.out.q2, HK.out.r3, HK.out.e3, HK.out.r4, HK.out.e4⟩
          clear hz HK
          go_wp2_with (first
            | (go_at_call 8; refine (list_is V3.out HL.out).mono ?_; rintro e v4 ⟨rfl, hr, hb⟩; have V4 : Hid (Ring v4 p g m R) := V3.out.below hb; have L4 : Hid (Row v4 v3.heap.size R) := hr; replace HA : Hid (Row v4 wr.heap.size R) := HA.out.below hb; replace hB := hB.trans (hb.mono hB.size); clear hr hb V3)
            | (go_at_call 8; refine (list_is HR.out HL.out).mono ?_; rintro e v0 ⟨rfl, hr, hb⟩; have V0 : Hid (Ring v0 p g m R) := HR.out.below hb; have HA : Hid (Row v0 wr.heap.size R) := hr; have hpl := HR.out.lt; replace hB := hB.trans (hb.mono hB.size); clear hr hb HR)
            | (go_at_call 9; refine (put_is V0.out 1000 HW.out.1 HW.out.2.1).mono ?_; rintro e v1 ⟨rfl, hr, hb⟩; have V1 : Hid (Ring v1 p g m R) := hr; replace HA : Hid (Row v1 wr.heap.size R) := HA.out.buts hb (two_mem (by omega) (by omega)); replace hB := hB.trans (two_below hb (by omega) (by omega) hB.size); clear hr hb V0)
            | (go_at_call 10; refine (push_is V1.out (-5) HW.out.2.2.1 HW.out.2.2.2.1).mono ?_; rintro e v2 ⟨rfl, hr, hb⟩; have V2 : Hid (Ring v2 p g m R) := hr; replace HA : Hid (Row v2 wr.heap.size R) := HA.out.buts hb (two_mem (by omega) (by omega)); replace hB := hB.trans (two_below hb (by omega) (by omega) hB.size); clear hr hb V1)
            | (go_at_call 11; refine (remove_is V5.out z HW.out.2.2.2.2.2.2.1 HW.out.2.2.2.2.2.2.2).mono ?_; rintro e v6 ⟨rfl, hr, hb⟩; have V6 : Hid (Ring v6 p g m (R.take k ++ R.drop (k + 1))) := hr; replace HA : Hid (Row v6 wr.heap.size R) := HA.out.buts hb (two_mem (by omega) (by omega)); replace hB := hB.trans (two_below hb (by omega) (by omega) hB.size); clear hr hb V5)
            | (go_at_call 11; refine (remove_is V2.out 1000 HW.out.2.2.2.2.1 HW.out.2.2.2.2.2.1).mono ?_; rintro e v3 ⟨rfl, hr, hb⟩; have V3 : Hid (Ring v3 p g m R) := hr; replace HA : Hid (Row v3 wr.heap.size R) := HA.out.buts hb (two_mem (by omega) (by omega)); replace hB := hB.trans (two_below hb (by omega) (by omega) hB.size); clear hr hb V2)
            | (go_at_call 12; refine (same_is (Src.row L4.out) (Src.row HA.out) HL.out (by omega) _ _).mono ?_; rintro e v5 ⟨rfl, hb⟩; have V5 : Hid (Ring v5 p g m R) := V4.out.below hb; replace HA : Hid (Row v5 wr.heap.size R) := HA.out.below hb; replace hB := hB.trans (hb.mono hB.size); have ka := HA.out.cell k (by have := HL.out; omega); rw [HZ.out] at ka; clear hb V4 L4))
          obtain ⟨i0, hi, hz0, hz1, hz2⟩ := info_parts infoW
          obtain ⟨ga', hga'⟩ : ∃ b, wr.heap.size = b := ⟨_, rfl⟩
          have HA2 : Hid (Row v6 ga' R) := by have := HA.out; rw [hga'] at this; exact this
          obtain ⟨k1, hk1⟩ : ∃ k1, k + 1 = k1 := ⟨_, rfl⟩
          have hk1w : IntKind.i64.wrap ((k : Int) + 1) = (k1 : Int) := by rw [IntKind.wrap_i64]; omega
          have hk1m : k1 ≤ m := by omega
          have hk1I : (k1 : Int) ≤ m := by omega
          have hkc : k ≤ m := by omega
          have HK1 : Hid (k + 1 = k1) := hk1
          rw [hk1] at V6
          clear hk1
          have HB0 : Hid (Below v6.heap.size v6 v6.drew) := drew_below v6
          have HSRC : Hid (Src v6.drew (some ⟨ga', 0, none⟩) R) := (Src.row HA2.out).below (drew_below v6)
          have D1 : Hid (((R.take k).map (Value.int .i64)).length = k * 1) := by show _ = _; have := HL.out; simp; omega
          have D2 : Hid (∀ j u, ((R.take k).map (Value.int .i64))[j]? = some u → v6.drew.cell? ((⟨ga', 0, none⟩ : Addr).add j) = some u) := src_news (HSRC.out.take k)
          have E1 : Hid (((R.drop k1).map (Value.int .i64)).length = (m - k1) * 1) := by show _ = _; have := HL.out; simp; omega
          have HE : Hid (k + (m - k1) = m - 1) := by show _ = _; have := HK1.out; omega
          have HLL : Hid ((R.take k ++ R.drop k1).length = m - 1) := by show _ = _; have := HL.out; have := HK1.out; simp; omega
          by_cases hlast : m = k1
          · have hlast2 : Hid (m = k1) := hlast
            have E3 : Hid (R.drop k1 = []) := List.drop_eq_nil_of_le (by have := HL.out; omega)
            subst hlast
            go_wp2
            go_region_law (first
              | (refine step_append_own rfl (.tmp 86) (.tmp 90) 24 rfl v6.heap.size 3 i0 _ 1 8 Try.underlying24 hi hz0 hz1 hz2 rfl (by omega) u1 k ((R.take k).map (Value.int .i64)) (by simp [Act.eval, Act.put]) HO1.out ⟨ga', 0, none⟩ (m - m) (m - m) ((R.drop m).map (Value.int .i64)) (by simp [Act.eval, Act.put]) E1.out (by rw [E3.out]; intro j u hj; simp at hj) (ints_one _) (by simp only [maxLen]; omega) (by omega) HB1.out.size ?_; intro u2 wb ho2 hg2 _; have HB2 : Hid (Below v6.heap.size v6 wb) := HB1.out.trans (own_grown HO1.out hg2 HB1.out.size); have ho3 : wb.ownsRow v6.heap.size 3 1 u2 (m - 1) ((R.take k ++ R.drop m).map (Value.int .i64)) := (by rw [List.map_append, ← HE.out]; exact ho2); obtain ⟨s2, c2, rfl, hs2⟩ := row_src ho3 HLL.out; have HO2 : Hid (Src wb s2 (R.take k ++ R.drop m)) := hs2; clear ho2 hg2 ho3 hs2)
              | (refine step_append_own rfl (.const (.slice none 0 0)) (.tmp 85) 24 rfl v6.heap.size 3 i0 _ 1 8 Try.underlying24 hi hz0 hz1 hz2 rfl (by omega) (.slice none 0 0) 0 [] (by simp [Act.eval]) (World.ownsRow_nil _ _ _ _) ⟨ga', 0, none⟩ k m ((R.take k).map (Value.int .i64)) (by simp [Act.eval, Act.put]) D1.out D2.out (ints_one _) (by simp only [maxLen]; omega) (by omega) (Nat.le_refl _) ?_; intro u1 wa ho1 hg1 _; rw [Nat.zero_add, List.nil_append] at ho1; have HO1 : Hid (wa.ownsRow v6.heap.size 3 1 u1 k ((R.take k).map (Value.int .i64))) := ho1; have HB1 : Hid (Below v6.heap.size v6 wa) := HB0.out.trans ((Buts.grown hg1).below (fun x hx => (by simp [Value.ownBlock] at hx)) HB0.out.size); have E2 : Hid (Src wa (some ⟨ga', 0, none⟩) R) := (Src.row HA2.out).below HB1.out; clear ho1 hg1))
            all_goals
              have HR2 : Hid (Ring wb p g m (R.take k ++ R.drop m)) := V6.out.below HB2.out
              replace hB := hB.trans (HB2.out.mono hB.size)
              go_wp2_with (first
                | (go_at_call 8; refine (list_is HR2.out HLL.out).mono ?_; rintro e w5 ⟨rfl, hr, hb⟩; have HL5 : Hid (Row w5 wb.heap.size (R.take k ++ R.drop m)) := hr; have HO5 : Hid (Src w5 s2 (R.take k ++ R.drop m)) := HO2.out.below hb; replace hB := hB.trans (hb.mono hB.size); clear hr hb)
                | (go_at_call 12; refine (same_is (Src.row HL5.out) HO5.out HLL.out (by omega) _ _).mono ?_; rintro e w6 ⟨rfl, hb⟩; replace hB := hB.trans (hb.mono hB.size)))
              go_ret
              exact ⟨rfl, hB⟩
          · have hlast' : ¬ (m : Int) = (k1 : Int) := by omega
            go_wp2
            go_region_law (first
              | (refine step_append_own rfl (.tmp 86) (.tmp 90) 24 rfl v6.heap.size 3 i0 _ 1 8 Try.underlying24 hi hz0 hz1 hz2 rfl (by omega) u1 k ((R.take k).map (Value.int .i64)) (by simp [Act.eval, Act.put]) HO1.out ⟨ga', k1, none⟩ (m - k1) (m - k1) ((R.drop k1).map (Value.int .i64)) (by simp [Act.eval, Act.put]) E1.out (src_news (by have := E2.out.drop k1 (by have := HL.out; omega); rw [Nat.zero_add] at this; exact this)) (ints_one _) (by simp only [maxLen]; omega) (by omega) HB1.out.size ?_; intro u2 wb ho2 hg2 _; have HB2 : Hid (Below v6.heap.size v6 wb) := HB1.out.trans (own_grown HO1.out hg2 HB1.out.size); have ho3 : wb.ownsRow v6.heap.size 3 1 u2 (m - 1) ((R.take k ++ R.drop k1).map (Value.int .i64)) := (by rw [List.map_append, ← HE.out]; exact ho2); obtain ⟨s2, c2, rfl, hs2⟩ := row_src ho3 HLL.out; have HO2 : Hid (Src wb s2 (R.take k ++ R.drop k1)) := hs2; clear ho2 hg2 ho3 hs2)
              | (refine step_append_own rfl (.const (.slice none 0 0)) (.tmp 85) 24 rfl v6.heap.size 3 i0 _ 1 8 Try.underlying24 hi hz0 hz1 hz2 rfl (by omega) (.slice none 0 0) 0 [] (by simp [Act.eval]) (World.ownsRow_nil _ _ _ _) ⟨ga', 0, none⟩ k m ((R.take k).map (Value.int .i64)) (by simp [Act.eval, Act.put]) D1.out D2.out (ints_one _) (by simp only [maxLen]; omega) (by omega) (Nat.le_refl _) ?_; intro u1 wa ho1 hg1 _; rw [Nat.zero_add, List.nil_append] at ho1; have HO1 : Hid (wa.ownsRow v6.heap.size 3 1 u1 k ((R.take k).map (Value.int .i64))) := ho1; have HB1 : Hid (Below v6.heap.size v6 wa) := HB0.out.trans ((Buts.grown hg1).below (fun x hx => (by simp [Value.ownBlock] at hx)) HB0.out.size); have E2 : Hid (Src wa (some ⟨ga', 0, none⟩) R) := (Src.row HA2.out).below HB1.out; clear ho1 hg1))
            all_goals
              have HR2 : Hid (Ring wb p g m (R.take k ++ R.drop k1)) := V6.out.below HB2.out
              replace hB := hB.trans (HB2.out.mono hB.size)
              go_wp2_with (first
                | (go_at_call 8; refine (list_is HR2.out HLL.out).mono ?_; rintro e w5 ⟨rfl, hr, hb⟩; have HL5 : Hid (Row w5 wb.heap.size (R.take k ++ R.drop k1)) := hr; have HO5 : Hid (Src w5 s2 (R.take k ++ R.drop k1)) := HO2.out.below hb; replace hB := hB.trans (hb.mono hB.size); clear hr hb)
                | (go_at_call 12; refine (same_is (Src.row HL5.out) HO5.out HLL.out (by omega) _ _).mono ?_; rintro e w6 ⟨rfl, hb⟩; replace hB := hB.trans (hb.mono hB.size)))
              go_ret
              exact ⟨rfl, hB⟩
end Go.Proofs.Ytppookpacdheaab
