/- Two instructions that copy: those at fault; every case of them. -/
import Derived.Test.YtomccgodfimaiaaGreatDoorCCop
namespace Go.Proofs.YtomccgodfimaiaaGreatDoor
open Go Go.RowKit
set_option maxRecDepth 100000
set_option linter.all false
set_option maxHeartbeats 4000000 in
theorem copies_half {w : World} {sp : Option Addr} {m : List Int} {A B : Nat} (hE : Env w) (hs : Src w sp m) (hm : Bs m) (hl : m.length ≤ 300) (ha : byte (A : Int)) (hb : byte (B : Int)) (hat : A + 4 ≤ m.length) (hto : ¬ B + 4 ≤ m.length) (cap : Nat) :
    Calls Tryz.prog 6 #[.slice sp m.length cap, .int .u8 (A : Int), .int .u8 (B : Int)] w fun e w' => e = .returned (.bool true) ∧ Below w.heap.size w w' := by
  obtain ⟨i0, hi, hz0, hz1, hz2⟩ := info_parts infoB
  obtain ⟨bs, o, rfl, hc⟩ := hs (by omega)
  have b1 := alloc_below w (.cells #[.int .u8 11, .int .u8 1, .int .u8 0, .int .u8 (A : Int), .int .u8 12, .int .u8 1, .int .u8 0, .int .u8 (B : Int)] 70)
  have hN : ∀ W, Env W → Img W (some ⟨bs, o, none⟩) m (some ⟨w.heap.size, 0, none⟩) (cpL A B) 2 → Calls Tryz.prog 10 #[.agg #[.int .i64 m.length, .slice (some ⟨bs, o, none⟩) m.length cap, .slice (some ⟨w.heap.size, 0, none⟩) 2 2]] W fun e w' => ∃ G, e = .returned (.tuple #[.pointer (some ⟨G.p, 0, none⟩), .int .i64 0]) ∧ G.k = 2 ∧ CM w' G (.slice none 0 0) (newC m.length m (cpL A B)) ∧ Below W.heap.size W w' ∧ Up W.heap.size G (.slice none 0 0) := fun W h1 h2 => New_yes h1 h2 (okCp hl ha hb) cap 2
  have hs1 : stepC 2 (newC m.length m (cpL A B)) = some (k1 m A B, none) := sc1 ha (by omega)
  have hs2 : stepC 2 (k1 m A B) = none := sn2 hb (by omega)
  have HE : Hid (Env w) := hE
  have HI : Hid (Img (w.alloc (.cells #[.int .u8 11, .int .u8 1, .int .u8 0, .int .u8 (A : Int), .int .u8 12, .int .u8 1, .int .u8 0, .int .u8 (B : Int)] 70)) (some ⟨bs, o, none⟩) m (some ⟨w.heap.size, 0, none⟩) (cpL A B) 2) := cp_img hs hm ha hb
  have HB1 : Hid (Below w.heap.size w (w.alloc (.cells #[.int .u8 11, .int .u8 1, .int .u8 0, .int .u8 (A : Int), .int .u8 12, .int .u8 1, .int .u8 0, .int .u8 (B : Int)] 70))) := b1
  have HS : Hid (Src w (some ⟨bs, o, none⟩) m) := hs
  have ha2 : 0 ≤ (A : Int) ∧ (A : Int) ≤ 255 := ha
  have hb2 : 0 ≤ (B : Int) ∧ (B : Int) ≤ 255 := hb
  obtain ⟨n, hn⟩ : ∃ n, m.length = n := ⟨_, rfl⟩
  have HN : Hid (m.length = n) := hn
  rw [hn] at hl hat hto hN hs1
  rw [hn]
  have HS1 : Hid _ := hs1
  have HS2 : Hid _ := hs2
  have HW : Hid _ := hN
  obtain ⟨wa, wa4⟩ := wr_b ha
  obtain ⟨wb, wb4⟩ := wr_b hb
  have hgt : ¬ ((300 : Int) < n) := by omega
  have hat' : (A : Int) + 4 ≤ n := by omega
  have hto' : ¬ ((B : Int) + 4 ≤ n) := by omega
  clear hE hs ha hb b1 hn hN hs1 hs2
  go_enter Tryz.func6, Tryz.ntmps6
  go_wp2_with (first
    | (go_at_call 10; refine (HW.out _ (HE.out.lift (Nat.le_refl _) (HB1.out.trans ((alloc_below _ _).mono HB1.out.size))) (HI.out.on (alloc_below _ _))).mono ?_; rintro e w2 ⟨G, rfl, hk, hc, hb, hu⟩; have K2 : Hid (Lv w.heap.size w w2 G (.slice none 0 0) (newC n m (cpL A B))) := ⟨hc, up_mono hu (Nat.le_trans HB1.out.size (alloc_below _ _).size), (HB1.out.trans ((alloc_below _ _).mono HB1.out.size)).trans (hb.mono (Nat.le_trans HB1.out.size (alloc_below _ _).size)), Nat.le_refl _⟩; have HK : Hid (G.k = 2) := hk; clear hk hc hb hu HI)
    | (go_at_call 13; refine (step_none (K3.out.one _).cm rfl (by show (0 : Nat) ≤ 256; omega) (by rw [HK.out]; exact HS2.out)).mono ?_; rintro e w4 ⟨he, hb4⟩; unfold zAsk at he; subst he; have K4 : Hid (Lv w.heap.size w w4 G cv3 (k1 m A B)) := (K3.out.one _).below hb4; clear hb4 K3)
    | (go_at_call 13; refine (step_some K2.out.cm rfl (by show (0 : Nat) ≤ 256; omega) (by rw [HK.out]; exact HS1.out)).mono ?_; rintro e w3 ⟨he, cv3, h3, h4, h5⟩; unfold zAsk at he; subst he; have K3 : Hid (Lv w.heap.size w w3 G cv3 (k1 m A B)) := K2.out.next h3 h4 h5; clear h3 h4 h5 K2)
    | (at_builtin; refine wpList_append_own _ rfl _ _ 22 rfl w4.heap.size 5 i0 _ 1 1 Tryz.underlying22 hi hz0 hz1 hz2 rfl (by decide) (.slice none 0 0) 0 [] rfl (World.ownsRow_nil _ _ _ _) ⟨bs, o, none⟩ n cap (byt m) rfl (by rw [byt_len, HN.out]; omega) (news_of (HS.out.below (K4.out.bel.trans ((alloc_below _ _).mono K4.out.bel.size)))) (byt_one m) (by simp only [maxLen]; omega) (by omega) (by rw [alloc_size]; omega) ?_; intro v' w5 hown' hgrow _; have HO5 : Hid (w5.ownsRow w4.heap.size 5 1 v' (0 + n) ([] ++ byt m)) := hown'; have HG5 : Hid (Below w4.heap.size w4 w5) := (alloc_below w4 _).trans ((Buts.grown hgrow).below (fun x hx => by simp [Value.ownBlock] at hx) (by rw [alloc_size]; omega)); clear hown' hgrow)
    | fail)
  obtain ⟨g, cap', rfl, hg, hP5⟩ : ∃ g cap', v' = .slice (some ⟨g, 0, none⟩) n cap' ∧ w4.heap.size ≤ g ∧ Part w5 (.slice (some ⟨g, 0, none⟩) m.length cap') m := by
    have hO : w5.ownsRow w4.heap.size 5 1 v' m.length (byt m) := by have := HO5.out; rw [HN.out]; simpa using this
    rcases hO.2 with ⟨_, h0⟩ | ⟨g, cap', cur, rfl, hg, r⟩
    · have := HN.out; omega
    · exact ⟨g, cap', by rw [HN.out], hg, Part.own hO⟩
  have K5 : Hid (Lv w.heap.size w w5 G cv3 (k1 m A B)) := K4.out.below HG5.out
  have hcore := core_lt K4.out.cm
  have H0 : Hid (Two w w5 G cv3 (k1 m A B) g cap' (wnt m A B 0)) := by
    refine ⟨K5.out, hP5, ⟨fun hh => ?_, fun x hx => ?_⟩, by have := K4.out.bel.size; omega⟩
    · simp only [List.mem_cons] at hh
      rcases hh with rfl | rfl | rfl | rfl | hh
      · exact absurd K4.out.cm.plt (by omega)
      · exact absurd hcore.2.1 (by omega)
      · exact absurd hcore.2.2.1 (by omega)
      · exact absurd hcore.2.2.2.1 (by omega)
      · exact absurd (hcore.1 _ hh) (by omega)
    · have := hcore.2.2.2.2.1 x hx; omega
  have HB5 : Hid (Below w.heap.size w w5) := K5.out.bel
  clear hcore hP5 K4 HO5 HG5 K5 hg
  go_loopg [17] 0 (fun gk s17 wx => gk = 0 ∧ s17 = .int .i64 0 ∧ Below w.heap.size w wx ∧ Hid (Two w wx G cv3 (k1 m A B) g cap' (wnt m A B 0)))
  case atStart => exact ⟨rfl, rfl, HB5.out, H0⟩
  case round =>
    obtain ⟨hg0, rfl, hB, HT⟩ := hrel
    have HEQ : Hid ((k1 m A B).zs = wnt m A B 0) := rfl
    have HLN : Hid ((wnt m A B 0).length = n) := HN.out
    have HSM : Hid (∀ (W : World) (s1 : Option Addr), Src W s1 (k1 m A B).zs → Src W (some ⟨g, 0, none⟩) (wnt m A B 0) → Calls Tryz.prog 24 #[.slice s1 (k1 m A B).zs.length (k1 m A B).zs.length, .slice (some ⟨g, 0, none⟩) n cap'] W fun e w' => e = .returned (.bool true) ∧ Below W.heap.size W w') := fun W s1 h1 h2 => by
      have := same_any h1 h2 (by rw [HEQ.out, HLN.out]; omega) (by rw [HLN.out]; omega) (k1 m A B).zs.length cap'
      rwa [HLN.out, decide_eq_true HEQ.out] at this
    clear hc hat hto hat' hto' ha2 hb2 wa4 wb4 hl hgt hB
    go_wp2_with (first
      | (go_at_call 15; refine (Bytes_core HT.out.lv.cm).mono ?_; rintro e w6 ⟨rfl, hr, hb⟩; have HS6 : Hid (Src w6 _ (k1 m A B).zs) := row_src hr; have HT6 : Hid (Src w6 (some ⟨g, 0, none⟩) (wnt m A B 0)) := HT.out.src.below hb; have HB6 : Hid (Below w.heap.size w w6) := HT.out.lv.bel.trans (hb.mono HT.out.lv.bel.size); clear hr hb HT)
      | (go_at_call 24; refine (HSM.out _ _ HS6.out HT6.out).mono ?_; rintro e w7 ⟨rfl, hb⟩; have HB7 : Hid (Below w.heap.size w w7) := HB6.out.trans (hb.mono HB6.out.size); clear hb HS6 HT6 HB6)
      | (go_at_call 8; refine (lives_any (HE.out.lift (Nat.le_refl _) HB7.out)).mono ?_; rintro e w8 ⟨rfl, hb⟩; have HB8 : Hid (Below w.heap.size w w8) := HB7.out.trans (hb.mono HB7.out.size); clear hb HB7)
      | fail)
    go_ret
    exact ⟨rfl, HB8.out⟩
end Go.Proofs.YtomccgodfimaiaaGreatDoor
