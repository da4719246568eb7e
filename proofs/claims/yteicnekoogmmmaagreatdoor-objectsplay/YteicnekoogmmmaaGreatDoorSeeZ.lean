/- How any thing is seen: at most one of both lists is there. -/
import Derived.Test.YteicnekoogmmmaaGreatDoorStep
namespace Go.Proofs.YteicnekoogmmmaaGreatDoor
open Go Go.RowKit
open Tk (above above_cell below_above wp_region_calm calm_call)
set_option maxRecDepth 100000
set_option linter.unusedVariables false
set_option maxHeartbeats 4000000 in
theorem see_two {w : World} {p f : Nat} {k a b : Int} {t : TypeId} (hh : Blk w p (hdc k a b t f) 64) {c o : Int} {xs zs : List Int}
    (HP : ∀ wx, Below w.heap.size w wx → Calls Tryz.prog 23 #[.iface t (.pointer (some ⟨f, 0, none⟩))] wx fun e w' => ∃ s1 n1 c1 s2 n2 c2, e = .returned (.agg (seec 0 0 0 c o (.slice s1 n1 c1) (.slice s2 n2 c2))) ∧ Lst w' wx.heap.size (.slice s1 n1 c1) xs ∧ Lst w' wx.heap.size (.slice s2 n2 c2) zs ∧ Below wx.heap.size wx w' ∧ (s1 = none ∨ s2 = none)) :
    Calls Tryz.prog 11 #[.pointer (some ⟨p, 0, none⟩)] w fun e w' => ∃ s1 n1 c1 s2 n2 c2, e = .returned (.agg (seec k a b c o (.slice s1 n1 c1) (.slice s2 n2 c2))) ∧ Lst w' w.heap.size (.slice s1 n1 c1) xs ∧ Lst w' w.heap.size (.slice s2 n2 c2) zs ∧ Below w.heap.size w w' ∧ (s1 = none ∨ s2 = none) := by
  have HB0 : Hid (Below w.heap.size w (w.alloc (.cells (seec 0 0 0 0 0 (.slice none 0 0) (.slice none 0 0)) 55))) := alloc_below w _
  have H0 : Hid (Blk (w.alloc (.cells (seec 0 0 0 0 0 (.slice none 0 0) (.slice none 0 0)) 55)) w.heap.size (seec 0 0 0 0 0 (.slice none 0 0) (.slice none 0 0)) 55) := alloc_at w _
  have HH : Hid (Blk w p (hdc k a b t f) 64) := hh
  have HT := there_any (hh.below HB0.out)
  have hs := alloc_size w (.cells (seec 0 0 0 0 0 (.slice none 0 0) (.slice none 0 0)) 55)
  have HC := HP _ HB0.out
  rw [hs] at HC
  have c3 : (w.alloc (.cells (seec 0 0 0 0 0 (.slice none 0 0) (.slice none 0 0)) 55)).cell? ⟨p, 3, none⟩ = some (.iface t (.pointer (some ⟨f, 0, none⟩))) := by rw [(hh.below HB0.out).cell]; rfl
  have HS : Hid ((w.alloc (.cells (seec 0 0 0 0 0 (.slice none 0 0) (.slice none 0 0)) 55)).heap.size = w.heap.size + 1) := hs
  clear hh HP hs
  go_enter Tryz.func11, Tryz.ntmps11
  go_wp2_with (first
    | (go_at_call 18; refine HT.mono ?_; rintro e wx ⟨rfl, rfl⟩)
    | (go_at_call 23; refine HC.mono ?_; rintro e w1 ⟨s1, n1, c1, s2, n2, c2, he, hr, ho, hb, hz⟩; have HZ : Hid (s1 = none ∨ s2 = none) := hz; unfold seec at he; subst he; have HR : Hid (Lst w1 (w.heap.size + 1) (.slice s1 n1 c1) xs) := hr; have HO : Hid (Lst w1 (w.heap.size + 1) (.slice s2 n2 c2) zs) := ho; have HB : Hid (Below w.heap.size w w1) := HB0.out.trans (hb.mono (Nat.le_succ _)); have H1 : Hid (Blk w1 w.heap.size (seec 0 0 0 0 0 (.slice none 0 0) (.slice none 0 0)) 55) := H0.out.below (by rw [HS.out]; exact hb); have k0 : w1.cell? ⟨p, 0, none⟩ = some (.int .u8 k) := (by rw [(HH.out.below HB.out).cell]; rfl); have k1 : w1.cell? ⟨p, 1, none⟩ = some (.int .u32 a) := (by rw [(HH.out.below HB.out).cell]; rfl); have k2 : w1.cell? ⟨p, 2, none⟩ = some (.int .u32 b) := (by rw [(HH.out.below HB.out).cell]; rfl); have hp1 := (HH.out.below HB.out).lt; have hl1 := H1.out.lt; clear hr ho hb HC c3 HT)
    | (refine wpList_store_row rfl _ _ _ rfl w.heap.size (seec k a b c o (.slice s1 n1 c1) (.slice s2 n2 c2)) rfl rfl 55 _ (H1.out.below (alloc_below w1 (.cells (seec k a b c o (.slice s1 n1 c1) (.slice s2 n2 c2)) 55))) (by kernel_rfl) rfl (by kernel_rfl) ?_)
    | fail)
  have b2 := alloc_below w1 (.cells (seec k a b c o (.slice s1 n1 c1) (.slice s2 n2 c2)) 55)
  refine bodyPost_ret (results_cell_row (g := w.heap.size) rfl _ _ _ _ _ (d := _) rfl ((H1.out.below b2).setRow _) Tryz.underlying55 rfl (by kernel_rfl)) rfl ?_
  refine ⟨s1, n1, c1, s2, n2, c2, rfl, ?_, ?_, ?_, HZ.out⟩
  · exact ((HR.out.below b2).but (setRow_buts _ _ _) (Nat.lt_succ_self _)).mono (Nat.le_succ _)
  · exact ((HO.out.below b2).but (setRow_buts _ _ _) (Nat.lt_succ_self _)).mono (Nat.le_succ _)
  · have b3 := HB.out.trans (b2.mono HB.out.size)
    exact b3.trans (one_below (setRow_buts _ _ _) (Nat.le_refl _) b3.size)
theorem new_ala' {w : World} {a b : Int} (h : a ≠ 0) :
    Calls Tryz.prog 5 #[.agg #[.int .u8 6, .int .u32 a, .int .u32 b]] w fun e w' => ∃ p f, e = .returned (.tuple #[.pointer (some ⟨p, 0, none⟩), .int .i64 0]) ∧ Al w' p f a b ∧ w.heap.size ≤ p ∧ w.heap.size ≤ f ∧ f < w'.heap.size ∧ Below w.heap.size w w' := by
  refine (new_of (fun f w' => w.heap.size ≤ f ∧ f < w'.heap.size) fun wx hb => (part_ala h).mono fun e w' ⟨f, he, h1, h2, h3⟩ => ⟨f, he, ⟨Nat.le_trans hb.size h1, h2.lt⟩, h3⟩).mono ?_
  rintro e w' ⟨f, w1, rfl, ⟨h1, h2⟩, h3, rfl⟩
  have b2 := alloc_below w1 (.cells (hdc 6 a b 95 f) 64)
  exact ⟨_, f, rfl, ⟨alloc_at w1 _⟩, h3.size, h1, Nat.lt_of_lt_of_le h2 b2.size, h3.trans (b2.mono h3.size)⟩
/-- how a thing is seen -/
def Seen2 (T : Sx) (w : World) (e : Ending) (w' : World) : Prop := ∃ s1 n1 c1 s2 n2 c2, e = .returned (.agg (seec T.k T.a T.b (cX T) T.o (.slice s1 n1 c1) (.slice s2 n2 c2))) ∧ Lst w' w.heap.size (.slice s1 n1 c1) T.xs ∧ Lst w' w.heap.size (.slice s2 n2 c2) T.zs ∧ Below w.heap.size w w' ∧ (s1 = none ∨ s2 = none)
theorem see_x {w : World} {p f g : Nat} {T : Sx} (h : KT w p f g T) : Calls Tryz.prog 11 #[.pointer (some ⟨p, 0, none⟩)] w (Seen2 T w) := by
  cases h with
  | @sem a b n h =>
    have e0 : cX ⟨1, a, b, n, 0, [], []⟩ = (n : Int) := by simp [cX, Pl.cnt]
    unfold Seen2; rw [e0]
    exact see_two h.hh fun wx hb => (seen_sem (h.hp.below hb)).mono fun e w' ⟨he, h2⟩ => ⟨none, 0, 0, none, 0, 0, he, Lst.nil _ _, Lst.nil _ _, h2, Or.inl rfl⟩
  | @mtx o h =>
    have e0 : cX ⟨2, 0, 0, 0, o, [], []⟩ = 0 := by simp [cX, Pl.cnt]
    unfold Seen2; rw [e0]
    exact see_two h.hh fun wx hb => (seen_mut (h.hp.below hb)).mono fun e w' ⟨he, h2⟩ => ⟨none, 0, 0, none, 0, 0, he, Lst.nil _ _, Lst.nil _ _, h2, Or.inl rfl⟩
  | @row m xs h =>
    have e0 : cX ⟨3, (m : Nat), 0, 0, 0, xs, []⟩ = 0 := by simp [cX, Pl.cnt]
    unfold Seen2; rw [e0]
    exact see_two h.hh fun wx hb => (seen_row (h.hp.below hb) (h.hq.below hb)).mono fun e w' ⟨z, he, h1, h2, h3⟩ => ⟨_, _, _, none, 0, 0, he, Lst.row h2 h1 (by have := h.hq.len; have := h.hq.hi; omega), Lst.nil _ _, h3, Or.inr rfl⟩
  | @flg a n h =>
    have e0 : cX ⟨4, a, 0, n, 0, [], []⟩ = (n : Int) := by simp [cX, Pl.cnt]
    unfold Seen2; rw [e0]
    exact see_two h.hh fun wx hb => (seen_flg (h.hp.below hb)).mono fun e w' ⟨he, h2⟩ => ⟨none, 0, 0, none, 0, 0, he, Lst.nil _ _, Lst.nil _ _, h2, Or.inl rfl⟩
  | @pool m b zs h =>
    have e0 : cX ⟨5, (m : Nat), b, 0, 0, [], zs⟩ = (Pl.cnt 0 zs : Nat) := by simp [cX]
    unfold Seen2; rw [e0]
    exact see_two h.hh fun wx hb => (seen_pool (h.hp.below hb) (h.hq.below hb)).mono fun e w' ⟨z, c, he, h1, h2⟩ => ⟨none, 0, 0, _, _, _, he, Lst.nil _ _, (by have hl := h.hq.len; subst hl; exact h1), h2, Or.inl rfl⟩
  | @ala a b h =>
    have e0 : cX ⟨6, a, b, 0, 0, [], []⟩ = 0 := by simp [cX, Pl.cnt]
    unfold Seen2; rw [e0]
    exact see_two h.hh fun wx hb => seen_ala.mono fun e w' ⟨he, h2⟩ => ⟨none, 0, 0, none, 0, 0, he, Lst.nil _ _, Lst.nil _ _, h2, Or.inl rfl⟩
/-- what may be is made -/
theorem new_x {w : World} {k a b : Int} (ha : 0 ≤ a ∧ a ≤ 4294967295) (hb : 0 ≤ b ∧ b ≤ 4294967295) (h : May k a b) :
    Calls Tryz.prog 5 #[.agg #[.int .u8 k, .int .u32 a, .int .u32 b]] w fun e w' => ∃ p f g, e = .returned (.tuple #[.pointer (some ⟨p, 0, none⟩), .int .i64 0]) ∧ KT w' p f g ⟨k, a, b, if k = 1 ∨ k = 4 then a.toNat else 0, 0, [], if k = 5 then List.replicate a.toNat 0 else []⟩ ∧ w.heap.size ≤ p ∧ w.heap.size ≤ f ∧ w.heap.size ≤ g ∧ (p < w'.heap.size ∧ f < w'.heap.size ∧ g < w'.heap.size) ∧ Below w.heap.size w w' := by
  obtain ⟨n, rfl⟩ := Int.eq_ofNat_of_zero_le ha.1
  unfold May at h
  rcases h with ⟨rfl, h⟩ | ⟨rfl, h1, rfl⟩ | ⟨rfl, h1, h2, rfl⟩ | ⟨rfl, rfl⟩ | ⟨rfl, h1, h2, h3⟩ | ⟨rfl, h⟩
  · exact (new_sem ⟨ha.1, h⟩).mono fun e w' ⟨p, f, he, h1, h2, h3, h4⟩ => ⟨p, f, f, he, .sem (by simpa using h1), h2, h3, h3, ⟨h1.hh.lt, h1.hp.lt, h1.hp.lt⟩, h4⟩
  · obtain rfl : n = 0 := by omega
    exact new_mut.mono fun e w' ⟨p, f, he, h1, h2, h3, h4⟩ => ⟨p, f, f, he, .mtx h1, h2, h3, h3, ⟨h1.hh.lt, h1.hp.lt, h1.hp.lt⟩, h4⟩
  · exact (new_row n (by omega) (by omega)).mono fun e w' ⟨p, f, g, he, h1, h2, h3, h4, h5⟩ => ⟨p, f, g, he, .row h1, h2, h3, h4, ⟨h1.hh.lt, h1.hp.lt, h1.hq.lt⟩, h5⟩
  · exact (new_flg n (by omega)).mono fun e w' ⟨p, f, he, h1, h2, h3, h4⟩ => ⟨p, f, f, he, .flg (by simpa using h1), h2, h3, h3, ⟨h1.hh.lt, h1.hp.lt, h1.hp.lt⟩, h4⟩
  · exact (new_pool n (by omega) (by omega) h3).mono fun e w' ⟨p, f, g, he, h1, h2, h3, h4, h5⟩ => ⟨p, f, g, he, .pool (by simpa using h1), h2, h3, h4, ⟨h1.hh.lt, h1.hp.lt, h1.hq.lt⟩, h5⟩
  · exact (new_ala' h).mono fun e w' ⟨p, f, he, h1, h2, h3, h3', h4⟩ => ⟨p, f, f, he, .ala h1, h2, h3, h3, ⟨h1.hh.lt, h3', h3'⟩, h4⟩
end Go.Proofs.YteicnekoogmmmaaGreatDoor
