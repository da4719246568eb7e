/- 'RegionsBack' walked: a number that is set is told, and no other byte is changed. -/
import Derived.Test.YthglgpiaffgnfaaOwn
namespace Go.Proofs.Ythglgpiaffgnfaa
open Go Go.RowKit
set_option maxRecDepth 100000
set_option linter.unusedVariables false
/-- both rows alike, behind the four stores -/
theorem same_want {w : World} {B g h n cap k : Nat} {zs : List Int} {v : Int} (hv : 0 ≤ v ∧ v ≤ 4294967295) (ho : w.ownsRow B 5 1 (.slice (some ⟨g, 0, none⟩) n cap) n (byt zs)) (hz : isB zs) (hk : k + 4 ≤ n) (hl : n ≤ 1000000)
    (hr : Row w h (splice zs k (bs4 v))) (hg : h < g) :
    Calls Try.prog 15 #[.slice (some ⟨h, 0, none⟩) n n, .slice (some ⟨g, 0, none⟩) n cap]
      ((((w.setCell ⟨g, k, none⟩ (.int .u8 (v / 16777216))).setCell ⟨g, k + 1, none⟩ (.int .u8 (v / 65536 % 256))).setCell ⟨g, k + 2, none⟩ (.int .u8 (v / 256 % 256))).setCell ⟨g, k + 3, none⟩ (.int .u8 (v % 256)))
      fun e w' => e = .returned (.bool true) ∧ Below g w w' := by
  have hn : zs.length = n := by have := ho.1; rw [byt_len] at this; omega
  have hB : Below g w ((((w.setCell ⟨g, k, none⟩ (.int .u8 (v / 16777216))).setCell ⟨g, k + 1, none⟩ (.int .u8 (v / 65536 % 256))).setCell ⟨g, k + 2, none⟩ (.int .u8 (v / 256 % 256))).setCell ⟨g, k + 3, none⟩ (.int .u8 (v % 256))) :=
    ((((Below.refl g w).setCell (p := ⟨g, k, none⟩) (Nat.le_refl g) _).setCell (p := ⟨g, k + 1, none⟩) (Nat.le_refl g) _).setCell (p := ⟨g, k + 2, none⟩) (Nat.le_refl g) _).setCell (p := ⟨g, k + 3, none⟩) (Nat.le_refl g) _
  have h1 := (ho.stored k (.int .u8 (v / 16777216))).1
  have h2 := (h1.stored (k + 1) (.int .u8 (v / 65536 % 256))).1
  have h3 := (h2.stored (k + 2) (.int .u8 (v / 256 % 256))).1
  have h4 := (h3.stored (k + 3) (.int .u8 (v % 256))).1
  rw [byt_set, byt_set, byt_set, byt_set, set4 _ _ _ _ _ _ (by omega)] at h4
  have hs := isB_splice hz (bs4_isB v hv) k
  have hlen : (splice zs k (bs4 v)).length = n := by rw [length_splice _ _ _ (by show k + 4 ≤ _; omega)]; exact hn
  have hr2 : Row _ h (splice zs k (bs4 v)) := (hB.block h hg).trans hr
  have hgl : g < w.heap.size := (ho.lt g rfl).2
  refine (same_len (Src.row (n := 0) hr2 hs) (own_src h4 hs) hlen hl n cap).mono fun e w' ⟨he, hb⟩ => ⟨he, hB.trans (hb.mono ?_)⟩
  have := hB.size
  omega
set_option maxHeartbeats 2000000 in
theorem back_any {w : World} {sp : Option Addr} {zs : List Int} (hs : Src w.heap.size w sp zs) (hm : zs.length ≤ maxLen) (c : Nat) (a v : Int) (ha : 0 ≤ a ∧ a ≤ 4294967295) (hv : 0 ≤ v ∧ v ≤ 4294967295) :
    Calls Try.prog 4 #[.slice sp zs.length c, .int .u32 a, .int .u32 v] w fun e w' => e = .returned (.bool true) ∧ Below w.heap.size w w' := by
  have hB : Below w.heap.size w w := Below.refl _ _
  unfold maxLen at hm
  by_cases h4 : zs.length ≤ 4096
  · obtain ⟨n, hn⟩ : ∃ n, zs.length = n := ⟨_, rfl⟩
    rw [hn] at hm h4 ⊢
    have HN : Hid (zs.length = n) := hn
    clear hn
    by_cases may : a + 4 ≤ n
    · obtain ⟨k, rfl⟩ := Int.eq_ofNat_of_zero_le ha.1
      have hk : k + 4 ≤ n := by omega
      have HL : Hid ((splice zs k (bs4 v)).length = n) := by show _ = _; rw [length_splice _ _ _ (by show k + 4 ≤ _; rw [HN.out]; omega)]; exact HN.out
      have HW : Hid (wv (((splice zs k (bs4 v)).drop k).take 4) = v) := word_back zs k v (by rw [HN.out]; omega) hv
      have hz := hs.wf
      go_enter Try.func4, Try.ntmps4
      go_wp2_with (first
        | (go_at_call 13; refine (alive_any _).mono ?_; rintro e w1 ⟨rfl, hb⟩; replace hB := hB.trans (hb.mono hB.size); replace hs := hs.below (hb.mono (Nat.le_refl _)); clear hb)
        | (go_at_call 14; refine (new_all hs hB.size HN.out h4 c).mono ?_; rintro e w2 ⟨p, g, rfl, hR, hb2, hg, hp⟩; replace hs := hs.below (hb2.mono hB.size); replace hg : w.heap.size ≤ g := Nat.le_trans hB.size hg; replace hB := hB.trans (hb2.mono hB.size); clear hb2)
        | (go_at_call 10; refine (setWord_yes hR k (by rw [HN.out]; omega) v hv).mono ?_; rintro e w3 ⟨rfl, hR3, hb3⟩; replace hs := hs.below (hb3.below hg hB.size); replace hB := hB.trans (hb3.below hg hB.size); clear hb3)
        | (go_at_call 12; refine (bytes_len hR3 HL.out).mono ?_; rintro e w4 ⟨rfl, hr4, hb4⟩; have hz3 := hB.size; replace hs := hs.below (hb4.mono hB.size); replace hB := hB.trans (hb4.mono hB.size); replace hR3 := hR3.below hb4; clear hb4)
        | (go_at_call 8; refine (word_is hR3 k (by rw [HL.out]; omega) HW.out).mono ?_; rintro e wx ⟨rfl, rfl⟩)
        | (at_builtin; refine wpList_app_nil rfl (.const (.slice none 0 0)) (.tmp 64) rfl rfl rfl rfl hs (by omega) HN.out (by omega) ?_; intro g5 cap5 w5 ho5 hb5 hg5; have hlt := hr4.lt; replace hr4 : Row w5 _ _ := (hb5.block _ hr4.lt).trans hr4; replace hB := hB.trans (hb5.mono hB.size); replace hlt := Nat.lt_of_lt_of_le hlt hg5; have k0 := ho5.cellAt k (by omega); have k1 := ho5.cellAt (k + 1) (by omega); have k2 := ho5.cellAt (k + 2) (by omega); have k3 := ho5.cellAt (k + 3) (by omega); rw [byt_at _ _ (by rw [HN.out]; omega)] at k0 k1 k2 k3; have f0 := ho5.frozenAt k; have f1 := ho5.frozenAt (k + 1); have f2 := ho5.frozenAt (k + 2); have f3 := ho5.frozenAt (k + 3); generalize zs.getD k 0 = z0 at *; generalize zs.getD (k + 1) 0 = z1 at *; generalize zs.getD (k + 2) 0 = z2 at *; generalize zs.getD (k + 3) 0 = z3 at *)
        | (go_at_call 15; refine (same_want hv ho5 hz hk (by omega) hr4 hlt).mono ?_; rintro e w6 ⟨rfl, hb6⟩))
      go_ret
      exact ⟨rfl, hB.trans (hb6.mono (by omega))⟩
    · have dm : decide (a + 4 ≤ (n : Int)) = false := by simpa using may
      have hlt4 : (zs.length : Int) < a + 4 := by rw [HN.out]; omega
      go_enter Try.func4, Try.ntmps4
      go_wp2_with (first
        | (go_at_call 13; refine (alive_any _).mono ?_; rintro e w1 ⟨rfl, hb⟩; replace hB := hB.trans (hb.mono hB.size); replace hs := hs.below (hb.mono (Nat.le_refl _)); clear hb)
        | (go_at_call 14; refine (new_all hs hB.size HN.out h4 c).mono ?_; rintro e w2 ⟨p, g, rfl, hR, hb2, hg, hp⟩; replace hs := hs.below (hb2.mono hB.size); replace hg : w.heap.size ≤ g := Nat.le_trans hB.size hg; replace hB := hB.trans (hb2.mono hB.size); clear hb2)
        | (go_at_call 10; refine (setWord_no hR a ha hlt4 v).mono ?_; rintro e wx ⟨rfl, rfl⟩)
        | (go_at_call 12; refine (bytes_len hR HN.out).mono ?_; rintro e w4 ⟨rfl, hr4, hb4⟩; replace hs := hs.below (hb4.mono hB.size); replace hB := hB.trans (hb4.mono hB.size); clear hb4)
        | (go_at_call 15; refine (same_len (Src.row (n := 0) hr4 hs.wf) hs HN.out (by omega) _ _).mono ?_; rintro e w6 ⟨rfl, hb6⟩))
      go_ret
      exact ⟨rfl, hB.trans (hb6.mono hB.size)⟩
  · generalize zs.length = n at *
    go_enter Try.func4, Try.ntmps4
    go_wp2_with (first
      | (go_at_call 13; refine (alive_any _).mono ?_; rintro e w1 ⟨rfl, hb⟩; replace hB := hB.trans (hb.mono hB.size); clear hb))
    go_ret
    exact ⟨rfl, hB⟩
end Go.Proofs.Ythglgpiaffgnfaa
