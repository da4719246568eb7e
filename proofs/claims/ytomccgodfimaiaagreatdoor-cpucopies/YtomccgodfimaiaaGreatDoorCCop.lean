/- Two instructions copy four bytes: walked. -/
import Derived.Test.YtomccgodfimaiaaGreatDoorCCop0
namespace Go.Proofs.YtomccgodfimaiaaGreatDoor
open Go Go.RowKit
set_option maxRecDepth 100000
set_option linter.all false
theorem Env.lift {w w' : World} {B : Nat} (h : Env w) (hB : w.heap.size ≤ B) (hb : Below B w w') : Env w' := h.on (hb.mono hB)
/-- what is wanted behind i bytes -/
def wnt (m : List Int) (A B : Nat) : Nat → List Int
  | 0 => m
  | i + 1 => (wnt m A B i).set (B + i) (m.getD (A + i) 0)
theorem wnt_len (m : List Int) (A B i : Nat) : (wnt m A B i).length = m.length := by
  induction i with
  | zero => rfl
  | succ i ih => simp [wnt, ih]
theorem wnt4 {m : List Int} {A B : Nat} (hA : A + 4 ≤ m.length) (hB : B + 4 ≤ m.length) : splice m B ((m.drop A).take 4) = wnt m A B 4 := by
  rw [Rn.four_of hA]
  apply List.ext_getElem?
  intro i
  simp only [splice, wnt, List.getElem?_append, List.getElem?_set, List.length_set, List.length_append, List.length_take, List.length_cons, List.length_nil, List.getElem?_take, List.getElem?_drop]
  have e : min B m.length = B := by omega
  rw [e]
  rcases Nat.lt_or_ge i B with h | h
  · simp [h, show ¬ (B + 3 = i) by omega, show ¬ (B + 2 = i) by omega, show ¬ (B + 1 = i) by omega, show ¬ (B = i) by omega, show i < B + 4 by omega]
  · obtain ⟨j, rfl⟩ : ∃ j, i = B + j := ⟨i - B, by omega⟩
    rcases j with _ | _ | _ | _ | j
    · simp [show B < m.length by omega]
    · simp [show B + 1 < m.length by omega]
      try (intro h; omega)
    · simp [show B + 2 < m.length by omega]
      try (intro h; omega)
    · simp [show B + 3 < m.length by omega]
      try (intro h; omega)
    · rw [show B + (j + 1 + 1 + 1 + 1) = B + 4 + j by omega]
      simp [show ¬ (B + 4 + j < B) by omega, show B + 4 + j - B = 4 + j by omega, show ¬ (4 + j < 4) by omega, show 4 + j - 4 = j by omega, show ¬ (B + 3 = B + 4 + j) by omega, show ¬ (B + 2 = B + 4 + j) by omega, show ¬ (B + 1 = B + 4 + j) by omega, show ¬ (B = B + 4 + j) by omega]
theorem arg_ob : (Value.slice none 0 0).ownBlock = none := rfl
theorem Part.set {w : World} {b off cap : Nat} {xs : List Int} (h : Part w (.slice (some ⟨b, off, none⟩) xs.length cap) xs) (j : Nat) (z : Int) :
    Part (w.setCell ⟨b, off + j, none⟩ (.int .u8 z)) (.slice (some ⟨b, off, none⟩) (xs.set j z).length cap) (xs.set j z) := by
  rcases h with ⟨h, _⟩ | ⟨b', off', cap', cur, e, hh, hc, hs, hx⟩
  · cases h
  · simp only [Value.slice.injEq, Option.some.injEq, Addr.mk.injEq, and_true, true_and] at e
    obtain ⟨⟨rfl, rfl⟩, rfl⟩ := e
    refine Or.inr ⟨b, off, cap, cur.setIfInBounds (off + j) (.int .u8 z), rfl, ?_, by simpa using hc, by simpa using hs, fun i hi => ?_⟩
    · have hl := at_lt hh
      have hv := (Array.getElem?_eq_some_iff.1 hh).2
      unfold World.setCell
      rw [Array.getElem?_eq_getElem (by simpa using hl), Array.getElem_modify]
      simp [hv]
    · have hi' : i < xs.length := by simpa using hi
      rw [Array.getElem?_setIfInBounds]
      by_cases e : i = j
      · subst e
        rw [if_pos rfl, if_pos (by omega)]
        simp [hi']
      · rw [if_neg (by omega), hx i hi']
        simp [List.getElem?_set, Ne.symm e]
theorem fz_of {w : World} {g : Nat} {cur : Array Value} {t : TypeId} (h : w.heap[g]? = some (.cells cur t (0, 0))) (i : Nat) : w.frozen? ⟨g, i, none⟩ = false := by simp [World.frozen?, h]
theorem at_facts {A i n : Nat} (h : A + i < n) (hn : n ≤ 300) : ∃ x : Nat, x = A + i ∧ wrap64 ((A : Int) + i) = x ∧ (x : Int) < n := ⟨A + i, rfl, by unfold wrap64; omega, by omega⟩
theorem wr_b {A : Nat} (h : byte (A : Int)) : wrap64 (A : Int) = A ∧ wrap64 ((A : Int) + 4) = A + 4 := by
  have h2 : 0 ≤ (A : Int) ∧ (A : Int) ≤ 255 := h
  exact ⟨by unfold wrap64; omega, by unfold wrap64; omega⟩
/-- the core, and a row of bytes of its own kept apart -/
structure Two (w0 w : World) (G : Kp) (cv : Value) (c : Cr) (g cap : Nat) (xs : List Int) : Prop where
  lv : Lv w0.heap.size w0 w G cv c
  part : Part w (.slice (some ⟨g, 0, none⟩) xs.length cap) xs
  out : g ∉ G.p :: G.q :: G.g :: G.mb :: ownL G cv ∧ ∀ x, (Value.slice G.cp G.k G.kc).ownBlock = some x → x ≠ g
  ge : w0.heap.size ≤ g
theorem Two.set {w0 w : World} {G : Kp} {cv : Value} {c : Cr} {g cap : Nat} {xs : List Int} (h : Two w0 w G cv c g cap xs) (j : Nat) (z : Int) : Two w0 (w.setCell ⟨g, j, none⟩ (.int .u8 z)) G cv c g cap (xs.set j z) := by
  have hb : Buts [g] w (w.setCell ⟨g, j, none⟩ (.int .u8 z)) := Buts.cell w g j _
  obtain ⟨lv, part, ⟨o1, o2⟩, ge⟩ := h
  have o1' := o1
  simp only [List.mem_cons, not_or] at o1'
  obtain ⟨n1, n2, n3, n4, n5⟩ := o1'
  refine ⟨⟨lv.cm.buts hb (by simpa using Ne.symm n1) (by simpa using Ne.symm n2) (by simpa using Ne.symm n3) (by simpa using Ne.symm n4) (fun x hx => by simpa using o2 x hx) (fun x hx => ?_), lv.up, lv.bel.trans (hb.below (fun q hq => by simp at hq; omega) lv.bel.size), lv.big⟩, ?_, ⟨o1, o2⟩, ge⟩
  · rintro hxx
    obtain rfl : x = g := by simpa using hxx
    exact n5 (by simp [ownL, hx])
  · have := part.set j z
    rwa [Nat.zero_add] at this
theorem Two.src {w0 w : World} {G : Kp} {cv : Value} {c : Cr} {g cap : Nat} {xs : List Int} (h : Two w0 w G cv c g cap xs) : Src w (some ⟨g, 0, none⟩) xs := by
  obtain ⟨sp, cap2, e, hs⟩ := h.part.src
  simp only [Value.slice.injEq] at e
  obtain ⟨rfl, _⟩ := e
  exact hs
theorem k2_is {m : List Int} {A B : Nat} (hA : A + 4 ≤ m.length) (hB : B + 4 ≤ m.length) : (k2 m A B).zs = wnt m A B 4 := by
  rw [← wnt4 hA hB]
  simp [k2]
theorem two_row {w0 w : World} {G : Kp} {cv : Value} {c : Cr} {g cap n : Nat} {xs m : List Int} (h : Two w0 w G cv c g cap xs) (hl : xs.length = m.length) (hn : m.length = n) : ∃ cur, w.heap[g]? = some (.cells cur 5 (0, 0)) ∧ n ≤ cur.size := by
  rcases h.part with ⟨h, _⟩ | ⟨b', off', cap'', cur, e, hh, hc', hs', _⟩
  · cases h
  · simp only [Value.slice.injEq, Option.some.injEq, Addr.mk.injEq, and_true, true_and] at e
    obtain ⟨⟨rfl, rfl⟩, rfl⟩ := e
    exact ⟨cur, hh, by omega⟩
set_option maxHeartbeats 4000000 in
theorem copies_few {w : World} {sp : Option Addr} {m : List Int} {A B : Nat} (hE : Env w) (hs : Src w sp m) (hm : Bs m) (hl : m.length ≤ 300) (ha : byte (A : Int)) (hb : byte (B : Int)) (hat : A + 4 ≤ m.length) (hto : B + 4 ≤ m.length) (cap : Nat) :
    Calls Tryz.prog 6 #[.slice sp m.length cap, .int .u8 (A : Int), .int .u8 (B : Int)] w fun e w' => e = .returned (.bool true) ∧ Below w.heap.size w w' := by
  obtain ⟨i0, hi, hz0, hz1, hz2⟩ := info_parts infoB
  obtain ⟨bs, o, rfl, hc⟩ := hs (by omega)
  have b1 := alloc_below w (.cells #[.int .u8 11, .int .u8 1, .int .u8 0, .int .u8 (A : Int), .int .u8 12, .int .u8 1, .int .u8 0, .int .u8 (B : Int)] 70)
  have hN : ∀ W, Env W → Img W (some ⟨bs, o, none⟩) m (some ⟨w.heap.size, 0, none⟩) (cpL A B) 2 → Calls Tryz.prog 10 #[.agg #[.int .i64 m.length, .slice (some ⟨bs, o, none⟩) m.length cap, .slice (some ⟨w.heap.size, 0, none⟩) 2 2]] W fun e w' => ∃ G, e = .returned (.tuple #[.pointer (some ⟨G.p, 0, none⟩), .int .i64 0]) ∧ G.k = 2 ∧ CM w' G (.slice none 0 0) (newC m.length m (cpL A B)) ∧ Below W.heap.size W w' ∧ Up W.heap.size G (.slice none 0 0) := fun W h1 h2 => New_yes h1 h2 (okCp hl ha hb) cap 2
  have hs1 : stepC 2 (newC m.length m (cpL A B)) = some (k1 m A B, none) := sc1 ha (by omega)
  have hs2 : stepC 2 (k1 m A B) = some (k2 m A B, none) := sc2 hm ha hb (by omega) (by omega)
  have HE : Hid (Env w) := hE
  have HI : Hid (Img (w.alloc (.cells #[.int .u8 11, .int .u8 1, .int .u8 0, .int .u8 (A : Int), .int .u8 12, .int .u8 1, .int .u8 0, .int .u8 (B : Int)] 70)) (some ⟨bs, o, none⟩) m (some ⟨w.heap.size, 0, none⟩) (cpL A B) 2) := cp_img hs hm ha hb
  have HB1 : Hid (Below w.heap.size w (w.alloc (.cells #[.int .u8 11, .int .u8 1, .int .u8 0, .int .u8 (A : Int), .int .u8 12, .int .u8 1, .int .u8 0, .int .u8 (B : Int)] 70))) := b1
  have HS : Hid (Src w (some ⟨bs, o, none⟩) m) := hs
  have ha2 : 0 ≤ (A : Int) ∧ (A : Int) ≤ 255 := ha
  have hb2 : 0 ≤ (B : Int) ∧ (B : Int) ≤ 255 := hb
  obtain ⟨n, hn⟩ : ∃ n, m.length = n := ⟨_, rfl⟩
  have HN : Hid (m.length = n) := hn
  rw [hn] at hl hat hto hN hs1
  rw [hn]
  have HS1 : Hid _ := hs1
  have HS2 : Hid _ := hs2
  have HW : Hid _ := hN
  obtain ⟨wa, wa4⟩ := wr_b ha
  obtain ⟨wb, wb4⟩ := wr_b hb
  have hgt : ¬ ((300 : Int) < n) := by omega
  have hat' : (A : Int) + 4 ≤ n := by omega
  have hto' : (B : Int) + 4 ≤ n := by omega
  clear hE hs ha hb b1 hn hN hs1 hs2
  go_enter Tryz.func6, Tryz.ntmps6
  go_wp2_with (first
    | (go_at_call 10; refine (HW.out _ (HE.out.lift (Nat.le_refl _) (HB1.out.trans ((alloc_below _ _).mono HB1.out.size))) (HI.out.on (alloc_below _ _))).mono ?_; rintro e w2 ⟨G, rfl, hk, hc, hb, hu⟩; have K2 : Hid (Lv w.heap.size w w2 G (.slice none 0 0) (newC n m (cpL A B))) := ⟨hc, up_mono hu (Nat.le_trans HB1.out.size (alloc_below _ _).size), (HB1.out.trans ((alloc_below _ _).mono HB1.out.size)).trans (hb.mono (Nat.le_trans HB1.out.size (alloc_below _ _).size)), Nat.le_refl _⟩; have HK : Hid (G.k = 2) := hk; clear hk hc hb hu HI)
    | (go_at_call 13; refine (step_some (K3.out.one _).cm rfl (by show (0 : Nat) ≤ 256; omega) (by rw [HK.out]; exact HS2.out)).mono ?_; rintro e w4 ⟨he, cv4, h3, h4, h5⟩; unfold zAsk at he; subst he; have K4 : Hid (Lv w.heap.size w w4 G cv4 (k2 m A B)) := (K3.out.one _).next h3 h4 h5; clear h3 h4 h5 K3)
    | (go_at_call 13; refine (step_some K2.out.cm rfl (by show (0 : Nat) ≤ 256; omega) (by rw [HK.out]; exact HS1.out)).mono ?_; rintro e w3 ⟨he, cv3, h3, h4, h5⟩; unfold zAsk at he; subst he; have K3 : Hid (Lv w.heap.size w w3 G cv3 (k1 m A B)) := K2.out.next h3 h4 h5; clear h3 h4 h5 K2)
    | (at_builtin; refine wpList_append_own _ rfl _ _ 22 rfl w4.heap.size 5 i0 _ 1 1 Tryz.underlying22 hi hz0 hz1 hz2 rfl (by decide) (.slice none 0 0) 0 [] rfl (World.ownsRow_nil _ _ _ _) ⟨bs, o, none⟩ n cap (byt m) rfl (by rw [byt_len, HN.out]; omega) (news_of (HS.out.below (K4.out.bel.trans ((alloc_below _ _).mono K4.out.bel.size)))) (byt_one m) (by simp only [maxLen]; omega) (by omega) (by rw [alloc_size]; omega) ?_; intro v' w5 hown' hgrow _; have HO5 : Hid (w5.ownsRow w4.heap.size 5 1 v' (0 + n) ([] ++ byt m)) := hown'; have HG5 : Hid (Below w4.heap.size w4 w5) := (alloc_below w4 _).trans ((Buts.grown hgrow).below (fun x hx => by simp [Value.ownBlock] at hx) (by rw [alloc_size]; omega)); clear hown' hgrow)
    | fail)
  obtain ⟨g, cap', rfl, hg, hP5⟩ : ∃ g cap', v' = .slice (some ⟨g, 0, none⟩) n cap' ∧ w4.heap.size ≤ g ∧ Part w5 (.slice (some ⟨g, 0, none⟩) m.length cap') m := by
    have hO : w5.ownsRow w4.heap.size 5 1 v' m.length (byt m) := by have := HO5.out; rw [HN.out]; simpa using this
    rcases hO.2 with ⟨_, h0⟩ | ⟨g, cap', cur, rfl, hg, r⟩
    · have := HN.out; omega
    · exact ⟨g, cap', by rw [HN.out], hg, Part.own hO⟩
  have K5 : Hid (Lv w.heap.size w w5 G cv4 (k2 m A B)) := K4.out.below HG5.out
  have hcore := core_lt K4.out.cm
  have H0 : Hid (Two w w5 G cv4 (k2 m A B) g cap' (wnt m A B 0)) := by
    refine ⟨K5.out, hP5, ⟨fun hh => ?_, fun x hx => ?_⟩, by have := K4.out.bel.size; omega⟩
    · simp only [List.mem_cons] at hh
      rcases hh with rfl | rfl | rfl | rfl | hh
      · exact absurd K4.out.cm.plt (by omega)
      · exact absurd hcore.2.1 (by omega)
      · exact absurd hcore.2.2.1 (by omega)
      · exact absurd hcore.2.2.2.1 (by omega)
      · exact absurd (hcore.1 _ hh) (by omega)
    · have := hcore.2.2.2.2.1 x hx; omega
  have HB5 : Hid (Below w.heap.size w w5) := K5.out.bel
  clear hcore hP5 K4 HO5 HG5 K5 hg
  go_loopg [17] 4 (fun gk s17 wx => ∃ i : Nat, i + gk = 4 ∧ s17 = .int .i64 i ∧ Below w.heap.size w wx ∧ Hid (Two w wx G cv4 (k2 m A B) g cap' (wnt m A B i)))
  case atStart => exact ⟨0, by omega, rfl, HB5.out, H0⟩
  case round =>
    obtain ⟨i, hig, rfl, hB, HT⟩ := hrel
    cases gk with
    | zero =>
      have HIG : Hid (i = 4) := (by omega : i = 4)
      have HEQ : Hid ((k2 m A B).zs = wnt m A B i) := by rw [HIG.out]; exact k2_is (by rw [HN.out]; exact hat) (by rw [HN.out]; exact hto)
      have HLN : Hid ((wnt m A B i).length = n) := (wnt_len m A B i).trans HN.out
      have HSM : Hid (∀ (W : World) (s1 : Option Addr), Src W s1 (k2 m A B).zs → Src W (some ⟨g, 0, none⟩) (wnt m A B i) → Calls Tryz.prog 24 #[.slice s1 (k2 m A B).zs.length (k2 m A B).zs.length, .slice (some ⟨g, 0, none⟩) n cap'] W fun e w' => e = .returned (.bool true) ∧ Below W.heap.size W w') := fun W s1 h1 h2 => by
        have := same_any h1 h2 (by rw [HEQ.out, HLN.out]; omega) (by rw [HLN.out]; omega) (k2 m A B).zs.length cap'
        rwa [HLN.out, decide_eq_true HEQ.out] at this
      have hi4 : ¬ ((i : Int) < 4) := by omega
      clear hig hc hat hto hat' hto' ha2 hb2 wa4 wb4 hl hgt hB
      go_wp2_with (first
        | (go_at_call 15; refine (Bytes_core HT.out.lv.cm).mono ?_; rintro e w6 ⟨rfl, hr, hb⟩; have HS6 : Hid (Src w6 _ (k2 m A B).zs) := row_src hr; have HT6 : Hid (Src w6 (some ⟨g, 0, none⟩) (wnt m A B i)) := HT.out.src.below hb; have HB6 : Hid (Below w.heap.size w w6) := HT.out.lv.bel.trans (hb.mono HT.out.lv.bel.size); clear hr hb HT)
        | (go_at_call 24; refine (HSM.out _ _ HS6.out HT6.out).mono ?_; rintro e w7 ⟨rfl, hb⟩; have HB7 : Hid (Below w.heap.size w w7) := HB6.out.trans (hb.mono HB6.out.size); clear hb HS6 HT6 HB6)
        | (go_at_call 8; refine (lives_any (HE.out.lift (Nat.le_refl _) HB7.out)).mono ?_; rintro e w8 ⟨rfl, hb⟩; have HB8 : Hid (Below w.heap.size w w8) := HB7.out.trans (hb.mono HB7.out.size); clear hb HB7)
        | fail)
      go_ret
      exact ⟨rfl, HB8.out⟩
    | succ gk =>
      have hi4n : i < 4 := by omega
      have hi4 : (i : Int) < 4 := by omega
      have hAi : A + i < n := Nat.lt_of_lt_of_le (Nat.add_lt_add_left hi4n A) hat
      have hBi : B + i < n := Nat.lt_of_lt_of_le (Nat.add_lt_add_left hi4n B) hto
      obtain ⟨x, hx, q1, q5⟩ := at_facts hAi hl
      obtain ⟨y, hy, q2, q6⟩ := at_facts hBi hl
      have c1 := (hB.cell (p := ⟨bs, o + x, none⟩) (cell_lt (hc x (hx ▸ HN.out.symm ▸ hAi)))).trans (hc x (hx ▸ HN.out.symm ▸ hAi))
      obtain ⟨cur, hh, hsz⟩ := two_row HT.out (wnt_len m A B i) HN.out
      obtain ⟨cz, hcz⟩ : ∃ cz, cur[y]? = some cz := ⟨_, Array.getElem?_eq_getElem (Nat.lt_of_lt_of_le (hy ▸ hBi) hsz)⟩
      have c2 := (cell_of (i := y) hh).trans hcz
      have f2 := fz_of hh y
      have HIG : Hid (i + (gk + 1) = 4) := hig
      have HX : Hid (x = A + i) := hx
      have HY : Hid (y = B + i) := hy
      have HC1 : Hid (_ = _) := c1
      clear hcz hh hsz hAi hBi hi4n hig hx hy hat hto hat' hto' ha2 hb2 wa4 wb4 hc hm hl hgt
      go_wp2
      go_roundg gk
      case measure => have := HIG.out; omega
      case rel =>
        have e1 := HT.out.set y (m.getD x 0)
        refine ⟨i + 1, by have := HIG.out; omega, by go_num, ?_, ?_⟩
        · have := e1.lv.bel
          simpa using this
        · have e2 : wnt m A B (i + 1) = (wnt m A B i).set y (m.getD x 0) := by rw [HX.out, HY.out]; rfl
          rw [e2]
          show Two _ _ _ _ _ _ _ _
          simpa using e1
end Go.Proofs.YtomccgodfimaiaaGreatDoor
