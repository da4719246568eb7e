/- 'DeltasRefused' walked: two lists alike. -/
import Derived.Test.YtdifgjioaikchabWk
namespace Go.Proofs.Ytdifgjioaikchab
open Go Go.RowKit
set_option maxRecDepth 100000
set_option linter.unusedVariables false
set_option linter.unusedSimpArgs false
theorem Lst.base {B C : Nat} {w : World} {p : Nat} {v : Value} {ys : List (Int × Int)} (h : Lst C w p v ys) (hB : B ≤ C) : Lst B w p v ys :=
  ⟨⟨h.ch.head, owns_base h.ch.own hB, h.ch.len, Nat.le_trans hB h.ch.low⟩, h.good⟩
theorem BSrc.up {B C : Nat} {w : World} {sp : Option Addr} {zs : List Int} (h : BSrc B w sp zs) (hB : B ≤ C) : BSrc C w sp zs :=
  ⟨fun hz => by obtain ⟨b, off, e, hb, hc⟩ := h.spot hz; exact ⟨b, off, e, by omega, hc⟩, h.wf⟩
/-- two lists that have nothing in common -/
def Two (B : Nat) (w0 w : World) (p q : Nat) (ys zs : List (Int × Int)) : Prop :=
  ∃ v u, Lst B w p v ys ∧ Lst B w q u zs ∧ p ≠ q ∧ (∀ g, v.ownBlock = some g → u.ownBlock ≠ some g) ∧ Below B w0 w ∧ w0.heap.size = B
theorem Two.below {B : Nat} {w0 w w' : World} {p q : Nat} {ys zs : List (Int × Int)} (h : Two B w0 w p q ys zs) (hb : Below w.heap.size w w') : Two B w0 w' p q ys zs := by
  obtain ⟨v, u, h1, h2, h3, h4, h5, h6⟩ := h
  exact ⟨v, u, h1.below hb, h2.below hb, h3, h4, h5.trans (hb.mono h1.size), h6⟩
theorem Two.bel {B : Nat} {w0 w : World} {p q : Nat} {ys zs : List (Int × Int)} (h : Two B w0 w p q ys zs) : Below B w0 w := by obtain ⟨v, u, h1, h2, h3, h4, h5, h6⟩ := h; exact h5
theorem Two.flip {B : Nat} {w0 w : World} {p q : Nat} {ys zs : List (Int × Int)} (h : Two B w0 w p q ys zs) : Two B w0 w q p zs ys := by
  obtain ⟨v, u, h1, h2, h3, h4, h5, h6⟩ := h
  exact ⟨u, v, h2, h1, Ne.symm h3, fun g hg hv => h4 g hv hg, h5, h6⟩
theorem two_next {B : Nat} {w0 w w' : World} {p q : Nat} {v u : Value} {ys zs xs : List (Int × Int)} (h1 : Lst B w p v ys) (h2 : Lst B w q u zs) (h3 : p ≠ q) (h4 : ∀ g, v.ownBlock = some g → u.ownBlock ≠ some g) (h5 : Below B w0 w) (h6 : w0.heap.size = B) (n : Nt B w w' p v xs) : Two B w0 w' p q xs zs ∧ KW w w' := by
  obtain ⟨v', n1, n2, n3⟩ := n
  refine ⟨⟨v', u, n1, h2.buts n2 (fun hm => ?_) (fun g hg hm => ?_), h3, fun g hg hu => ?_, h5.trans (h1.bel n2), h6⟩, h1.kw n2⟩
  · rcases List.mem_cons.1 hm with e | e
    · exact h3 e.symm
    · obtain ⟨cur, hc⟩ := h1.ch.own.kind (g := q) (by simpa using e)
      rw [h2.ch.head] at hc; simp at hc
  · rcases List.mem_cons.1 hm with e | e
    · obtain ⟨cur, hc⟩ := h2.ch.own.kind hg
      rw [e, h1.ch.head] at hc; simp at hc
    · exact h4 g (by simpa using e) hg
  · rcases n3 g hg with e | e
    · exact h4 g e hu
    · have := (h2.ch.own.lt' hu).2; omega
theorem tick2 {B : Nat} {w0 w : World} {p q : Nat} {ys zs xs : List (Int × Int)} {ws : List Int} {n : Nat} (h : Two B w0 w p q ys zs) (hw : woke ys = ws) (hn : ws.length = n) (hz : rest ys = xs) :
    Calls Try.prog 7 #[.pointer (some ⟨p, 0, none⟩)] w fun e w' => ∃ us uc, e = .returned (.slice us n uc) ∧ w'.ownsRow B 3 1 (.slice us n uc) n (num ws) ∧ Two B w0 w' p q xs zs ∧ KW w w' := by
  subst hw hz hn
  obtain ⟨v, u, h1, h2, h3, h4, h5, h6⟩ := h
  refine (tick_is h1 h1.size).mono ?_
  rintro e w' ⟨x, rfl, hr, _, hn⟩
  obtain ⟨us, uc, e, _⟩ := own_form hr
  subst e
  exact ⟨us, uc, rfl, owns_base hr h1.size, two_next h1 h2 h3 h4 h5 h6 hn⟩
theorem put2 {B : Nat} {w0 w : World} {p q : Nat} {ys zs xs : List (Int × Int)} {e0 : Int} (h : Two B w0 w p q ys zs) (who t : Int) (hl : ys.length < 1000) (he : putE ys who t = e0) (hz : putL ys who t = xs) :
    Calls Try.prog 8 #[.pointer (some ⟨p, 0, none⟩), .int .i64 who, .int .i64 t] w fun e w' => e = .returned (.int .i64 e0) ∧ Two B w0 w' p q xs zs ∧ KW w w' := by
  subst he hz
  obtain ⟨v, u, h1, h2, h3, h4, h5, h6⟩ := h
  refine (put_is h1 who t hl h1.size).mono ?_
  rintro e w' ⟨rfl, hn⟩
  exact ⟨rfl, two_next h1 h2 h3 h4 h5 h6 hn⟩
theorem rem2 {B : Nat} {w0 w : World} {p q : Nat} {ys zs xs : List (Int × Int)} {e0 : Int} (h : Two B w0 w p q ys zs) (who : Int) (he : remE ys who = e0) (hz : gone ys who = xs) :
    Calls Try.prog 9 #[.pointer (some ⟨p, 0, none⟩), .int .i64 who] w fun e w' => e = .returned (.int .i64 e0) ∧ Two B w0 w' p q xs zs ∧ KW w w' := by
  subst he hz
  obtain ⟨v, u, h1, h2, h3, h4, h5, h6⟩ := h
  refine (remove_is h1 who).mono ?_
  rintro e w' ⟨rfl, hn⟩
  exact ⟨rfl, two_next h1 h2 h3 h4 h5 h6 hn⟩
theorem all2 {B : Nat} {w0 w : World} {p q : Nat} {ys zs : List (Int × Int)} {ws : List Int} {n : Nat} (h : Two B w0 w p q ys zs) (hw : allOf ys = ws) (hn : ws.length = n) :
    Calls Try.prog 10 #[.pointer (some ⟨p, 0, none⟩)] w fun e w' => ∃ us uc, e = .returned (.slice us n uc) ∧ w'.ownsRow B 3 1 (.slice us n uc) n (num ws) ∧ Two B w0 w' p q ys zs ∧ KW w w' := by
  have h' := h
  obtain ⟨v, u, h1, h2, h3, h4, h5, h6⟩ := h
  have hl : ys.length = n := by rw [← hn, ← hw, allOf_len]
  refine (all_is h1).mono ?_
  rintro e w' ⟨rfl, hr, hb⟩
  rw [hw] at hr
  rw [hl]
  refine ⟨_, _, rfl, ?_, h'.below hb, KW.below hb⟩
  have := own_row hr h1.size (by rw [hn, ← hl]; have := h1.len; omega)
  rw [hn] at this
  exact this
theorem filled2 {B : Nat} {w0 w : World} {p : Nat} {ys : List (Int × Int)} {sp : Option Addr} {zs : List Int} (h : At B w0 w p ys) (hs : BSrc B w0 sp zs) (hl : zs.length ≤ 100) (c : Nat) :
    Calls Try.prog 5 #[.slice sp zs.length c] w fun e w' => e = .returned (.pointer (some ⟨w.heap.size, 0, none⟩)) ∧ Two B w0 w' p w.heap.size ys (fil zs zs.length) := by
  obtain ⟨⟨v, hv⟩, h2, h3⟩ := h
  refine (filled_any (B := w.heap.size) (w0 := w) ((hs.below h2).up hv.size) hl c rfl (Below.refl _ _)).mono ?_
  rintro e w' ⟨rfl, ⟨⟨u, hu⟩, hb, _⟩, _⟩
  refine ⟨rfl, v, u, hv.below hb, hu.base hv.size, ?_, fun g hg hu' => ?_, h2.trans (hb.mono hv.size), h3⟩
  · have := at_lt hv.ch.head; omega
  · have := (hv.ch.own.lt' hg).2
    have := (hu.ch.own.lt' hu').1
    omega
theorem aftN (ys : List (Int × Int)) (s : Nat) : rest (aft ys (s : Int)) = aft ys ((s + 1 : Nat) : Int) := by
  rw [aft_rest, show ((s + 1 : Nat) : Int) = (s : Int) + 1 by omega]
theorem aft_has {ys : List (Int × Int)} {t who : Int} (h : ∀ y ∈ ys, y.1 ≠ who) : has (aft ys t) who = false := by
  rw [has_no]
  intro y hy
  obtain ⟨z, hz, rfl⟩ := List.mem_map.1 hy
  exact h z (List.mem_filter.1 hz).1
theorem aft_len (ys : List (Int × Int)) (t : Int) : (aft ys t).length ≤ ys.length := by
  unfold aft
  rw [List.length_map]
  exact List.length_filter_le _ _
theorem put_more {X : List (Int × Int)} {t : Int} (h1 : has X 1000 = false) (h2 : has X 2000 = false) (ht : 0 ≤ t ∧ t ≤ 255) :
    (putE X 1000 (t + 1) = 0 ∧ putL X 1000 (t + 1) = X ++ [(1000, t + 1)]) ∧ (putE (X ++ [(1000, t + 1)]) 1000 5 = 7 ∧ putL (X ++ [(1000, t + 1)]) 1000 5 = X ++ [(1000, t + 1)]) ∧
    (putE (X ++ [(1000, t + 1)]) 2000 0 = 1 ∧ putL (X ++ [(1000, t + 1)]) 2000 0 = X ++ [(1000, t + 1)]) ∧ (putE (X ++ [(1000, t + 1)]) (-3) 5 = 1 ∧ putL (X ++ [(1000, t + 1)]) (-3) 5 = X ++ [(1000, t + 1)]) ∧
    (remE (X ++ [(1000, t + 1)]) 2000 = 1 ∧ gone (X ++ [(1000, t + 1)]) 2000 = X ++ [(1000, t + 1)]) ∧ (remE (X ++ [(1000, t + 1)]) 1000 = 0 ∧ gone (X ++ [(1000, t + 1)]) 1000 = X) := by
  have b1 : ¬ badArg 1000 (t + 1) := by unfold badArg; omega
  have b2 : ¬ badArg 1000 5 := by unfold badArg; omega
  have b3 : badArg 2000 0 := by unfold badArg; omega
  have b4 : badArg (-3) 5 := by unfold badArg; omega
  have e1 : has (X ++ [(1000, t + 1)]) 1000 = true := by simp [has]
  have e2 : has (X ++ [(1000, t + 1)]) 2000 = false := by
    rw [has_no]
    intro y hy
    rcases List.mem_append.1 hy with hy | hy
    · exact has_no.1 h2 y hy
    · have : y = (1000, t + 1) := by simpa using hy
      rw [this]; show (1000 : Int) ≠ 2000; decide
  refine ⟨⟨by rw [putE, if_neg b1, h1]; rfl, by rw [putL, if_neg b1, h1]; rfl⟩, ⟨by rw [putE, if_neg b2, e1]; rfl, by rw [putL, if_neg b2, e1]; rfl⟩, ⟨by rw [putE, if_pos b3], by rw [putL, if_pos b3]⟩, ⟨by rw [putE, if_pos b4], by rw [putL, if_pos b4]⟩, ⟨by rw [remE, e2]; rfl, gone_no e2⟩, ⟨by rw [remE, e1]; rfl, ?_⟩⟩
  unfold gone
  rw [List.filter_append, List.filter_eq_self.2 (fun y hy => by simpa using has_no.1 h1 y hy)]
  simp
set_option maxHeartbeats 4000000 in
theorem refused_any {B : Nat} {w : World} {sp : Option Addr} {zs : List Int} (hs : BSrc B w sp zs) (hB : w.heap.size = B) (hm : zs.length ≤ maxLen) (c : Nat) (gn long : Int) (hg : 0 ≤ gn ∧ gn ≤ 255) (ho : 0 ≤ long ∧ long ≤ 255) :
    Calls Try.prog 3 #[.slice sp zs.length c, .int .u8 gn, .int .u8 long] w fun e w' => e = .returned (.bool true) ∧ Below B w w' := by
  have HB0 : Hid (Below B w w) := Below.refl _ _
  have HZ : Hid (w.heap.size = B) := hB
  have HS : Hid (BSrc B w sp zs) := hs
  simp only [maxLen] at hm
  by_cases hl : zs.length ≤ 60
  · have hlen : ¬ (60 : Int) < (zs.length : Int) := by omega
    have HF1 : Hid (∀ w1, Below B w w1 → Calls Try.prog 5 #[.slice sp zs.length c] w1 fun e w' => e = .returned (.pointer (some ⟨w1.heap.size, 0, none⟩)) ∧ At B w w' w1.heap.size (fil zs zs.length)) := fun w1 hb => (filled_any hs (by omega) c hB hb).mono (by rintro e w' ⟨rfl, h, _⟩; exact ⟨rfl, h⟩)
    have HF2 : Hid (∀ w1 p, At B w w1 p (fil zs zs.length) → Calls Try.prog 5 #[.slice sp zs.length c] w1 fun e w' => e = .returned (.pointer (some ⟨w1.heap.size, 0, none⟩)) ∧ Two B w w' p w1.heap.size (fil zs zs.length) (fil zs zs.length)) := fun w1 p h => filled2 h hs (by omega) c
    have HLO : Hid (∀ y ∈ fil zs zs.length, 1 ≤ y.2 ∧ y.2 ≤ 256 ∧ y.1 ≠ 1000 ∧ y.1 ≠ 2000) := fun y hy => by
      obtain ⟨k, hk, rfl⟩ := fil_mem hy
      have := hs.at k
      show 1 ≤ zs.getD k 0 + 1 ∧ zs.getD k 0 + 1 ≤ 256 ∧ (k : Int) ≠ 1000 ∧ (k : Int) ≠ 2000
      omega
    have HYL : Hid ((fil zs zs.length).length ≤ 60) := by show _ ≤ _; rw [fil_len]; exact hl
    generalize hY : fil zs zs.length = Y at *
    obtain ⟨n, hn⟩ : ∃ n, zs.length = n := ⟨_, rfl⟩
    rw [hn] at hlen HF1 HF2 ⊢
    have hw1 : IntKind.i64.wrap gn = gn := by rw [IntKind.wrap_i64]; omega
    have hw2 : IntKind.i64.wrap long = long := by rw [IntKind.wrap_i64]; omega
    have hw3 : IntKind.i64.wrap (long + 1) = long + 1 := by rw [IntKind.wrap_i64]; omega
    obtain ⟨m, hm0⟩ := Int.eq_ofNat_of_zero_le (show 0 ≤ Int.tmod gn 20 from Int.tmod_nonneg _ hg.1)
    have hm20 : m < 20 := by have := Int.tmod_lt_of_pos gn (show (0 : Int) < 20 by decide); omega
    have hwt : IntKind.i64.wrap (Int.tmod gn 20) = (m : Int) := by rw [hm0, IntKind.wrap_i64]; omega
    clear hs hB hY hn hl hm
    go_enter Try.func3, Try.ntmps3
    go_wp2_with (first
      | (go_at_call 4; refine (alive_any _).mono ?_; rintro e w1 ⟨rfl, hb⟩; have H1 : Hid (Below B w w1) := HB0.out.trans (hb.mono (by have := HZ.out; omega)); clear hb HB0)
      | (go_at_call 5; refine (HF1.out w1 H1.out).mono ?_; rintro e w2 ⟨rfl, ha⟩; have H2 : Hid (At B w w2 w1.heap.size Y) := ha; clear ha H1)
      | (go_at_call 5; refine (HF2.out w2 _ H2.out).mono ?_; rintro e w3 ⟨rfl, ha⟩; have H3 : Hid (Two B w w3 w1.heap.size w2.heap.size Y Y) := ha; clear ha H2))
    have H3' : Hid (Two B w w3 w1.heap.size w2.heap.size (aft Y ((0 : Nat) : Int)) (aft Y ((0 : Nat) : Int))) := by
      have := H3.out
      have e : aft Y ((0 : Nat) : Int) = Y := aft_zero (fun y hy => (HLO.out y hy).1)
      show Two _ _ _ _ _ _ _
      rw [e]; exact this
    clear H3 HF1 HF2
    generalize w1.heap.size = p at *
    generalize w2.heap.size = q at *
    go_loopg [9] m (fun g s9 wx => ∃ i : Nat, i + g = m ∧ s9 = .int .i64 (i : Int) ∧ Hid (Two B w wx p q (aft Y (i : Int)) (aft Y (i : Int))))
    case atStart => exact ⟨0, by omega, rfl, H3'⟩
    case round =>
      clear H3'
      obtain ⟨i, hiq, rfl, HA⟩ := hrel
      cases gk with
      | zero =>
        obtain rfl : i = m := by omega
        have hlt : ¬ ((i : Int) < (i : Int)) := by omega
        have HP := put_more (aft_has (t := (i : Int)) (fun y hy => (HLO.out y hy).2.2.1)) (aft_has (t := (i : Int)) (fun y hy => (HLO.out y hy).2.2.2)) ho
        obtain ⟨P1, P2, P3, P4, P5, P6⟩ := HP
        have P1' : Hid _ := P1
        have P2' : Hid _ := P2
        have P3' : Hid _ := P3
        have P4' : Hid _ := P4
        have P5' : Hid _ := P5
        have P6' : Hid _ := P6
        have HXL : Hid ((aft Y (i : Int)).length ≤ 60) := Nat.le_trans (aft_len _ _) HYL.out
        obtain ⟨N, hN⟩ : ∃ N, (allOf (aft Y (i : Int))).length = N := ⟨_, rfl⟩
        have HN : Hid ((allOf (aft Y (i : Int))).length = N) := hN
        have HN6 : Hid (N ≤ 60) := by show _ ≤ _; rw [← hN, allOf_len]; exact HXL.out
        clear P1 P2 P3 P4 P5 P6 hN
        have HX0 : Hid (aft Y (i : Int) = aft Y (i : Int)) := rfl
        go_wp2_with (first
          | (go_at_call 8; refine (put2 HA.out 1000 (long + 1) (by have := HXL.out; omega) P1'.out.1 P1'.out.2).mono ?_; rintro e w4 ⟨rfl, ha, hk⟩; have H4 : Hid (Two B w w4 p q (aft Y (i : Int) ++ [(1000, long + 1)]) (aft Y (i : Int))) := ha; clear ha hk HA)
          | (go_at_call 8; refine (put2 H4.out 1000 5 (by have := HXL.out; simp; omega) P2'.out.1 P2'.out.2).mono ?_; rintro e w5 ⟨rfl, ha, hk⟩; have H5 : Hid (Two B w w5 p q (aft Y (i : Int) ++ [(1000, long + 1)]) (aft Y (i : Int))) := ha; clear ha hk H4)
          | (go_at_call 8; refine (put2 H5.out 2000 0 (by have := HXL.out; simp; omega) P3'.out.1 P3'.out.2).mono ?_; rintro e w6 ⟨rfl, ha, hk⟩; have H6 : Hid (Two B w w6 p q (aft Y (i : Int) ++ [(1000, long + 1)]) (aft Y (i : Int))) := ha; clear ha hk H5)
          | (go_at_call 8; refine (put2 H6.out (-3) 5 (by have := HXL.out; simp; omega) P4'.out.1 P4'.out.2).mono ?_; rintro e w7 ⟨rfl, ha, hk⟩; have H7 : Hid (Two B w w7 p q (aft Y (i : Int) ++ [(1000, long + 1)]) (aft Y (i : Int))) := ha; clear ha hk H6)
          | (go_at_call 9; refine (rem2 H7.out 2000 P5'.out.1 P5'.out.2).mono ?_; rintro e w8 ⟨rfl, ha, hk⟩; have H8 : Hid (Two B w w8 p q (aft Y (i : Int) ++ [(1000, long + 1)]) (aft Y (i : Int))) := ha; clear ha hk H7)
          | (go_at_call 9; refine (rem2 H8.out 1000 P6'.out.1 P6'.out.2).mono ?_; rintro e w9 ⟨rfl, ha, hk⟩; have H9 : Hid (Two B w w9 p q (aft Y (i : Int)) (aft Y (i : Int))) := ha; clear ha hk H8)
          | (go_at_call 10; refine (all2 H9.out rfl HN.out).mono ?_; rintro e w10 ⟨us, uc, rfl, hr, ha, hk⟩; have H10 : Hid (Two B w w10 q p (aft Y (i : Int)) (aft Y (i : Int))) := ha.flip; have R1 : Hid (w10.ownsRow B 3 1 (.slice us N uc) N (num (allOf (aft Y (i : Int))))) := hr; clear hr ha hk H9)
          | (go_at_call 10; refine (all2 H10.out rfl HN.out).mono ?_; rintro e w11 ⟨vs, vc, rfl, hr, ha, hk⟩; have H11 : Hid (Two B w w11 p q (aft Y (i : Int)) (aft Y (i : Int))) := ha.flip; have R2 : Hid (w11.ownsRow B 3 1 (.slice vs N vc) N (num (allOf (aft Y (i : Int))))) := hr; have R3 : Hid (w11.ownsRow B 3 1 (.slice us N uc) N (num (allOf (aft Y (i : Int))))) := owns_kw R1.out hk; clear hr ha hk H10 R1)
          | (go_at_call 6; refine (same_at R3.out R2.out (by have := HN6.out; omega)).mono ?_; rintro e w12 ⟨rfl, hb⟩; have H12 : Hid (Two B w w12 p q (aft Y ((i + 0 : Nat) : Int)) (aft Y ((i + 0 : Nat) : Int))) := H11.out.below hb; clear hb H11 R2 R3))
        go_loopg [10] 257 (fun g s10 wx => ∃ j : Nat, j + g = 257 ∧ s10 = .int .i64 (j : Int) ∧ Hid (Two B w wx p q (aft Y ((i + j : Nat) : Int)) (aft Y ((i + j : Nat) : Int))))
        case atStart => exact ⟨0, by omega, rfl, H12⟩
        case round =>
          clear H12
          obtain ⟨j, hjq, rfl, HA⟩ := hrel
          cases gk with
          | zero =>
            have hlt2 : ¬ ((j : Int) ≤ 256) := by omega
            have HE : Hid (allOf (aft Y ((i + j : Nat) : Int)) = []) := by
              show _ = _
              rw [aft_none (fun y hy => by have := (HLO.out y hy).2.1; omega)]
              rfl
            go_wp2_with (go_at_call 10; refine (all2 HA.out HE.out (n := 0) rfl).mono ?_; rintro e w13 ⟨us', uc', rfl, hr, ha, hk⟩; have H13 : Hid (Two B w w13 p q (aft Y ((i + j : Nat) : Int)) (aft Y ((i + j : Nat) : Int))) := ha; clear hr ha hk HA)
            go_ret
            exact ⟨rfl, H13.out.bel⟩
          | succ g =>
            have hlt2 : (j : Int) ≤ 256 := by omega
            obtain ⟨N, hN⟩ : ∃ N, (atT Y ((i + j : Nat) : Int)).length = N := ⟨_, rfl⟩
            have HN : Hid ((atT Y ((i + j : Nat) : Int)).length = N) := hN
            have HN6 : Hid (N ≤ 60) := by show _ ≤ _; rw [← hN]; exact Nat.le_trans (atT_len _ _) HYL.out
            clear hN
            have HW : Hid (woke (aft Y ((i + j : Nat) : Int)) = atT Y ((i + j : Nat) : Int)) := aft_woke _ _
            have HR : Hid (rest (aft Y ((i + j : Nat) : Int)) = aft Y ((i + j + 1 : Nat) : Int)) := aftN Y (i + j)
            go_wp2_with (first
              | (go_at_call 7; refine (tick2 HA.out HW.out HN.out HR.out).mono ?_; rintro e w4 ⟨us', uc', rfl, hr, ha, hk⟩; have H4 : Hid (Two B w w4 q p (aft Y ((i + j : Nat) : Int)) (aft Y ((i + j + 1 : Nat) : Int))) := ha.flip; have R1 : Hid (w4.ownsRow B 3 1 (.slice us' N uc') N (num (atT Y ((i + j : Nat) : Int)))) := hr; clear hr ha hk HA)
              | (go_at_call 7; refine (tick2 H4.out HW.out HN.out HR.out).mono ?_; rintro e w5 ⟨vs', vc', rfl, hr, ha, hk⟩; have H5 : Hid (Two B w w5 p q (aft Y ((i + j + 1 : Nat) : Int)) (aft Y ((i + j + 1 : Nat) : Int))) := ha.flip; have R2 : Hid (w5.ownsRow B 3 1 (.slice vs' N vc') N (num (atT Y ((i + j : Nat) : Int)))) := hr; have R3 : Hid (w5.ownsRow B 3 1 (.slice us' N uc') N (num (atT Y ((i + j : Nat) : Int)))) := owns_kw R1.out hk; clear hr ha hk H4 R1)
              | (go_at_call 6; refine (same_at R3.out R2.out (by have := HN6.out; omega)).mono ?_; rintro e w6 ⟨rfl, hb⟩; have H6 : Hid (Two B w w6 p q (aft Y ((i + j + 1 : Nat) : Int)) (aft Y ((i + j + 1 : Nat) : Int))) := H5.out.below hb; clear hb H5 R2 R3))
            go_roundg g
            case measure => omega
            case rel => exact ⟨j + 1, by omega, by go_num, H6⟩
      | succ g =>
        have hlt : (i : Int) < (m : Int) := by omega
        obtain ⟨N, hN⟩ : ∃ N, (atT Y (i : Int)).length = N := ⟨_, rfl⟩
        have HN : Hid ((atT Y (i : Int)).length = N) := hN
        have HN6 : Hid (N ≤ 60) := by show _ ≤ _; rw [← hN]; exact Nat.le_trans (atT_len _ _) HYL.out
        clear hN
        have HW : Hid (woke (aft Y (i : Int)) = atT Y (i : Int)) := aft_woke _ _
        have HR : Hid (rest (aft Y (i : Int)) = aft Y ((i + 1 : Nat) : Int)) := aftN Y i
        go_wp2_with (first
          | (go_at_call 7; refine (tick2 HA.out HW.out HN.out HR.out).mono ?_; rintro e w4 ⟨us', uc', rfl, hr, ha, hk⟩; have H4 : Hid (Two B w w4 q p (aft Y (i : Int)) (aft Y ((i + 1 : Nat) : Int))) := ha.flip; have R1 : Hid (w4.ownsRow B 3 1 (.slice us' N uc') N (num (atT Y (i : Int)))) := hr; clear hr ha hk HA)
          | (go_at_call 7; refine (tick2 H4.out HW.out HN.out HR.out).mono ?_; rintro e w5 ⟨vs', vc', rfl, hr, ha, hk⟩; have H5 : Hid (Two B w w5 p q (aft Y ((i + 1 : Nat) : Int)) (aft Y ((i + 1 : Nat) : Int))) := ha.flip; have R2 : Hid (w5.ownsRow B 3 1 (.slice vs' N vc') N (num (atT Y (i : Int)))) := hr; have R3 : Hid (w5.ownsRow B 3 1 (.slice us' N uc') N (num (atT Y (i : Int)))) := owns_kw R1.out hk; clear hr ha hk H4 R1)
          | (go_at_call 6; refine (same_at R3.out R2.out (by have := HN6.out; omega)).mono ?_; rintro e w6 ⟨rfl, hb⟩; have H6 : Hid (Two B w w6 p q (aft Y ((i + 1 : Nat) : Int)) (aft Y ((i + 1 : Nat) : Int))) := H5.out.below hb; clear hb H5 R2 R3))
        go_roundg g
        case measure => omega
        case rel => exact ⟨i + 1, by omega, by go_num, H6⟩
  · have hlen : (60 : Int) < (zs.length : Int) := by omega
    clear hs
    go_enter Try.func3, Try.ntmps3
    go_wp2_with (first
      | (go_at_call 4; refine (alive_any _).mono ?_; rintro e w1 ⟨rfl, hb⟩; have H1 : Hid (Below B w w1) := HB0.out.trans (hb.mono (by have := HZ.out; omega)); clear hb HB0)
      | (go_at_call 4; refine (alive_any _).mono ?_; rintro e w2 ⟨rfl, hb⟩; have H2 : Hid (Below B w w2) := H1.out.trans (hb.mono (by have := H1.out.size; have := HZ.out; omega)); clear hb H1))
    go_ret
    exact ⟨rfl, H2.out⟩
end Go.Proofs.Ytdifgjioaikchab
