/- Two instructions that copy: those at fault; every case of them. -/
import Derived.Test.YtomccgodfimaiaaGreatDoorCCop
namespace Go.Proofs.YtomccgodfimaiaaGreatDoor
open Go Go.RowKit
set_option maxRecDepth 100000
set_option linter.all false
set_option maxHeartbeats 4000000 in
theorem copies_none {w : World} {sp : Option Addr} {m : List Int} {A B : Nat} (hE : Env w) (hs : Src w sp m) (hm : Bs m) (hl : m.length ≤ 300) (ha : byte (A : Int)) (hb : byte (B : Int)) (hat : ¬ A + 4 ≤ m.length) (cap : Nat) :
    Calls Tryz.prog 6 #[.slice sp m.length cap, .int .u8 (A : Int), .int .u8 (B : Int)] w fun e w' => e = .returned (.bool true) ∧ Below w.heap.size w w' := by
  obtain ⟨i0, hi, hz0, hz1, hz2⟩ := info_parts infoB
  have b1 := alloc_below w (.cells #[.int .u8 11, .int .u8 1, .int .u8 0, .int .u8 (A : Int), .int .u8 12, .int .u8 1, .int .u8 0, .int .u8 (B : Int)] 70)
  have hN : ∀ W, Env W → Img W sp m (some ⟨w.heap.size, 0, none⟩) (cpL A B) 2 → Calls Tryz.prog 10 #[.agg #[.int .i64 m.length, .slice sp m.length cap, .slice (some ⟨w.heap.size, 0, none⟩) 2 2]] W fun e w' => ∃ G, e = .returned (.tuple #[.pointer (some ⟨G.p, 0, none⟩), .int .i64 0]) ∧ G.k = 2 ∧ CM w' G (.slice none 0 0) (newC m.length m (cpL A B)) ∧ Below W.heap.size W w' ∧ Up W.heap.size G (.slice none 0 0) := fun W h1 h2 => New_yes h1 h2 (okCp hl ha hb) cap 2
  have hs1 : stepC 2 (newC m.length m (cpL A B)) = none := sn1 ha (by omega)
  have HE : Hid (Env w) := hE
  have HI : Hid (Img (w.alloc (.cells #[.int .u8 11, .int .u8 1, .int .u8 0, .int .u8 (A : Int), .int .u8 12, .int .u8 1, .int .u8 0, .int .u8 (B : Int)] 70)) sp m (some ⟨w.heap.size, 0, none⟩) (cpL A B) 2) := cp_img hs hm ha hb
  have HB1 : Hid (Below w.heap.size w (w.alloc (.cells #[.int .u8 11, .int .u8 1, .int .u8 0, .int .u8 (A : Int), .int .u8 12, .int .u8 1, .int .u8 0, .int .u8 (B : Int)] 70))) := b1
  have HS : Hid (Src w sp m) := hs
  have ha2 : 0 ≤ (A : Int) ∧ (A : Int) ≤ 255 := ha
  have hb2 : 0 ≤ (B : Int) ∧ (B : Int) ≤ 255 := hb
  obtain ⟨n, hn⟩ : ∃ n, m.length = n := ⟨_, rfl⟩
  have HN : Hid (m.length = n) := hn
  rw [hn] at hl hat hN hs1
  rw [hn]
  have HS1 : Hid _ := hs1
  have HW : Hid _ := hN
  obtain ⟨wa, wa4⟩ := wr_b ha
  obtain ⟨wb, wb4⟩ := wr_b hb
  have hgt : ¬ ((300 : Int) < n) := by omega
  have hat' : ¬ ((A : Int) + 4 ≤ n) := by omega
  clear hE hs ha hb b1 hn hN hs1
  have HEQ : Hid ((newC n m (cpL A B)).zs = m) := by have := newC_self m (cpL A B); rw [HN.out] at this; exact congrArg Cr.zs this
  have HSM : Hid (∀ (W : World) (s1 : Option Addr), Src W s1 m → Src W sp m → Calls Tryz.prog 24 #[.slice s1 n n, .slice sp n cap] W fun e w' => e = .returned (.bool true) ∧ Below W.heap.size W w') := fun W s1 h1 h2 => by
    have := same_any h1 h2 (by rw [HN.out]; omega) (by rw [HN.out]; omega) n cap
    rwa [HN.out, decide_eq_true rfl] at this
  have HBY : Hid (∀ (W : World) (G : Kp) (cv : Value), CM W G cv (newC n m (cpL A B)) → Calls Tryz.prog 15 #[.pointer (some ⟨G.p, 0, none⟩)] W fun e w' => e = .returned (.slice (some ⟨W.heap.size, 0, none⟩) n n) ∧ Rn.Row w' W.heap.size m ∧ Below W.heap.size W w') := fun W G cv h => by
    have := Bytes_core h
    rwa [HEQ.out, HN.out] at this
  go_enter Tryz.func6, Tryz.ntmps6
  go_wp2_with (first
    | (go_at_call 10; refine (HW.out _ (HE.out.lift (Nat.le_refl _) (HB1.out.trans ((alloc_below _ _).mono HB1.out.size))) (HI.out.on (alloc_below _ _))).mono ?_; rintro e w2 ⟨G, rfl, hk, hc, hb, hu⟩; have K2 : Hid (Lv w.heap.size w w2 G (.slice none 0 0) (newC n m (cpL A B))) := ⟨hc, up_mono hu (Nat.le_trans HB1.out.size (alloc_below _ _).size), (HB1.out.trans ((alloc_below _ _).mono HB1.out.size)).trans (hb.mono (Nat.le_trans HB1.out.size (alloc_below _ _).size)), Nat.le_refl _⟩; have HK : Hid (G.k = 2) := hk; clear hk hc hb hu HI)
    | (go_at_call 13; refine (step_none K2.out.cm rfl (by show (0 : Nat) ≤ 256; omega) (by rw [HK.out]; exact HS1.out)).mono ?_; rintro e w3 ⟨he, hb3⟩; unfold zAsk at he; subst he; have K3 : Hid (Lv w.heap.size w w3 G (.slice none 0 0) (newC n m (cpL A B))) := K2.out.below hb3; clear hb3 K2)
    | (go_at_call 15; refine (HBY.out _ _ _ (K3.out.one _).cm).mono ?_; rintro e w6 ⟨rfl, hr, hb⟩; have HS6 : Hid (Src w6 (some ⟨w3.heap.size + 1, 0, none⟩) m) := row_src (by simpa using hr); have HB6 : Hid (Below w.heap.size w w6) := ((K3.out.one _).below hb).bel; clear hr hb K3)
    | (go_at_call 24; refine (HSM.out _ _ HS6.out (HS.out.below HB6.out)).mono ?_; rintro e w7 ⟨rfl, hb⟩; have HB7 : Hid (Below w.heap.size w w7) := HB6.out.trans (hb.mono HB6.out.size); clear hb HS6 HB6)
    | (go_at_call 8; refine (lives_any (HE.out.lift (Nat.le_refl _) HB7.out)).mono ?_; rintro e w8 ⟨rfl, hb⟩; have HB8 : Hid (Below w.heap.size w w8) := HB7.out.trans (hb.mono HB7.out.size); clear hb HB7)
    | fail)
  go_ret
  exact ⟨rfl, HB8.out⟩
end Go.Proofs.YtomccgodfimaiaaGreatDoor
