/- 'HandlesTwo' walked: two tables that get the same make the same; what one of them gets then, the other one does not. -/
import Derived.Test.YtkogmmldkpepaabSeen
namespace Go.Proofs.Ytkogmmldkpepaab
open Go Go.RowKit
set_option maxRecDepth 100000
set_option linter.unusedVariables false
/-- both tables -/
structure Both (w : World) (p q n : Nat) (s r : Slots) : Prop where
  one : Tab w p n s
  two : Tab w q n r
  ne : p ≠ q
theorem Both.below {w w' : World} {p q n : Nat} {s r : Slots} (h : Both w p q n s r) (hb : Below w.heap.size w w') : Both w' p q n s r := ⟨h.one.below hb, h.two.below hb, h.ne⟩
theorem Both.set1 {w w' : World} {p q n : Nat} {s r s' : Slots} (h : Both w p q n s r) (hb : Buts [p] w w') (ht : Tab w' p n s') : Both w' p q n s' r := ⟨ht, h.two.buts hb (by simpa using Ne.symm h.ne), h.ne⟩
theorem Both.set2 {w w' : World} {p q n : Nat} {s r r' : Slots} (h : Both w p q n s r) (hb : Buts [q] w w') (ht : Tab w' q n r') : Both w' p q n s r' := ⟨h.one.buts hb (by simpa using h.ne), ht, h.ne⟩
set_option maxHeartbeats 8000000 in
theorem two_any {w : World} {sp : Option Addr} {zs : List Int} (most : Int) (hmost : 0 ≤ most ∧ most ≤ 255) (hs : BSrc w.heap.size w sp zs) (hl : zs.length ≤ maxLen) (cap : Nat) (h : Int) (hh : 0 ≤ h ∧ h ≤ 4294967295) :
    Calls Try.prog 4 #[.int .u8 most, .slice sp zs.length cap, .int .u32 h] w fun e w' => e = .returned (.bool true) ∧ Below w.heap.size w w' := by
  obtain ⟨x, rfl⟩ := Int.eq_ofNat_of_zero_le hh.1
  have hx : x ≤ 4294967295 := by omega
  obtain ⟨t, rfl⟩ := Int.eq_ofNat_of_zero_le hmost.1
  have e1 : Int.tmod (t : Int) 8 = ((t % 8 : Nat) : Int) := rfl
  have ht8 : t % 8 < 8 := by omega
  obtain ⟨n, hn⟩ : ∃ n, 1 + t % 8 = n := ⟨_, rfl⟩
  have hNI : (1 : Int) + ((t % 8 : Nat) : Int) = (n : Int) := by omega
  have hn1 : 1 ≤ n := by omega
  have hn2 : n ≤ 8 := by omega
  have ht : t ≤ 255 := by omega
  clear hn hmost hh
  generalize t % 8 = tm at *
  unfold maxLen at hl
  obtain ⟨m, hm⟩ : ∃ m, zs.length = m := ⟨_, rfl⟩
  have HZ : Hid (zs.length = m) := hm
  have HS : Hid (BSrc w.heap.size w sp zs) := hs
  rw [hm] at hl ⊢
  clear hs hm
  by_cases hbig : 60 < m
  · go_enter Try.func4, Try.ntmps4
    go_wp2_with (first
      | (go_at_call 5; have HM := hA1; refine (alive_any _).mono ?_; rintro e w2 ⟨rfl, hb⟩; have hB2 : Below w.heap.size w w2 := hA1.trans (hb.mono hA1.size); clear hb)
      | (go_at_call 5; refine (alive_any _).mono ?_; rintro e w1 ⟨rfl, hA1⟩))
    go_ret
    exact ⟨rfl, hB2⟩
  · go_enter Try.func4, Try.ntmps4
    go_wp2_with (first
      | (go_at_call 5; refine (alive_any _).mono ?_; rintro e w1 ⟨rfl, hb⟩; have HA : Hid (Below w.heap.size w w1) := hb; clear hb)
      | (go_at_call 6; have HMk := H2; refine (nw_is n hn1 (by omega)).mono ?_; rintro e w3 ⟨rfl, hr, hb⟩; have H3 : Hid (Both w3 w1.heap.size w2.heap.size n none0 none0) := ⟨H2.out.below hb, hr, Nat.ne_of_lt H2.out.lt⟩; have HB3 : Hid (Below w.heap.size w w3) := HB.out.trans (hb.mono HB.out.size); have hq' : w.heap.size ≤ w2.heap.size := HB.out.size; clear hr hb HMk)
      | (go_at_call 6; refine (nw_is n hn1 (by omega)).mono ?_; rintro e w2 ⟨rfl, hr, hb⟩; have H2 : Hid (Tab w2 w1.heap.size n none0) := hr; have HB : Hid (Below w.heap.size w w2) := HA.out.trans (hb.mono HA.out.size); have hp : w.heap.size ≤ w1.heap.size := HA.out.size; clear hr hb))
    clear H2 HB HA
    generalize w1.heap.size = p at *
    generalize w2.heap.size = q at *
    go_loopg [12] m (fun g s12 wx => ∃ (i : Nat) (s : Slots), i + g = m ∧ s12 = .int .i64 i ∧ Hid (Both wx p q n s s) ∧ Hid (Below w.heap.size w wx))
    case atStart => exact ⟨0, none0, by omega, rfl, H3, HB3⟩
    case round =>
      clear H3 HB3
      obtain ⟨i, s, hig, rfl, HT, HB⟩ := hrel
      obtain ⟨l, hlq⟩ : ∃ l, (listL n s).length = l := ⟨_, rfl⟩
      have hl8 : l ≤ 8 := by have := listL_few (n := n) (s := s); omega
      have HL : Hid ((listL n s).length = l) := hlq
      clear hlq
      have hpB : p < wr.heap.size := HT.out.one.lt
      have hqB : q < wr.heap.size := HT.out.two.lt
      cases gk with
      | zero =>
        have hlt : ¬ ((i : Int) < m) := by omega
        by_cases qx : placeE s x = 0
        · have HQ : Hid (placeE s x = 0) := qx
          clear qx
          go_wp2_with (first
            | (go_at_call 8; have HMk := H6; refine (told_is H6.out.two HL.out).mono ?_; rintro e w7 ⟨tp7, tc7, rfl, ht7, hb⟩; have HS7 : Hid (Src w7 tp7 (ints (listL n s))) := ht7.at; have HW7 : Hid (Src w7 tp (ints (listL n s))) := (HW6.out.below hb).at; have HB7 : Hid (Below w.heap.size w w7) := HB6.out.trans (hb.mono HB6.out.size); clear ht7 hb HMk)
            | (go_at_call 8; have HMk := H3; refine (told_is H3.out.two HL.out).mono ?_; rintro e w4 ⟨tp4, tc4, rfl, ht4, hb⟩; have HS4 : Hid (Src w4 tp4 (ints (listL n s))) := ht4.at; have HW4 : Hid (Told wr.heap.size w4 (.slice tp l tc) (listL n s)) := HW3.out.below hb; have H4 : Hid (Both w4 p q n s s) := H3.out.below hb; have HB4 : Hid (Below w.heap.size w w4) := HB3.out.trans (hb.mono HB3.out.size); clear ht4 hb HMk)
            | (go_at_call 8; refine (told_is HT.out.one HL.out).mono ?_; rintro e w3 ⟨tp, tc, rfl, ht3, hb⟩; have HW3 : Hid (Told wr.heap.size w3 (.slice tp l tc) (listL n s)) := ht3; have H3 : Hid (Both w3 p q n s s) := HT.out.below hb; have HB3 : Hid (Below w.heap.size w w3) := HB.out.trans (hb.mono HB.out.size); clear ht3 hb)
            | (go_at_call 10; have HMk := HS7; refine (same_is HS7.out HW7.out (by rw [ints_len]; exact HL.out) (by omega) _ _).mono ?_; rintro e w8 ⟨rfl, hb⟩; have HB8 : Hid (Below w.heap.size w w8) := HB7.out.trans (hb.mono HB7.out.size); clear hb HMk)
            | (go_at_call 10; refine (same_is HS4.out HW4.out.at (by rw [ints_len]; exact HL.out) (by omega) _ _).mono ?_; rintro e w5 ⟨rfl, hb⟩; have HW5 : Hid (Told wr.heap.size w5 (.slice tp l tc) (listL n s)) := HW4.out.below hb; have H5 : Hid (Both w5 p q n s s) := H4.out.below hb; have HB5 : Hid (Below w.heap.size w w5) := HB4.out.trans (hb.mono HB4.out.size); clear hb)
            | (go_at_call 9; refine (dr_is H5.out.one x hx HQ.out).mono ?_; rintro e w5a ⟨rfl, hr, hb⟩; have HW5a : Hid (Told wr.heap.size w5a (.slice tp l tc) (listL n s)) := HW5.out.buts hb hpB; have H5a : Hid (Both w5a p q n (dropS s x) s) := H5.out.set1 hb hr; have HB5a : Hid (Below w.heap.size w w5a) := HB5.out.trans (one_below hb hp HB5.out.size); clear hr hb)
            | (go_at_call 7; refine (make_any H5a.out.one).mono ?_; rintro e w6 ⟨rfl, hr, hb⟩; have HW6 : Hid (Told wr.heap.size w6 (.slice tp l tc) (listL n s)) := HW5a.out.buts hb hpB; have H6 : Hid (Both w6 p q n (makeS n (dropS s x)) s) := H5a.out.set1 hb hr; have HB6 : Hid (Below w.heap.size w w6) := HB5a.out.trans (one_below hb hp HB5a.out.size); clear hr hb))
          go_ret
          exact ⟨rfl, HB8.out⟩
        · obtain ⟨e, he, he56⟩ : ∃ e, placeE s x = e ∧ (e = 5 ∨ e = 6) := ⟨_, rfl, (placeE_cases s x).resolve_left qx⟩
          have HQ : Hid (placeE s x = e) := he
          have HD : Hid (dropS s x = s) := dropS_no qx
          clear qx he
          rcases he56 with rfl | rfl
          all_goals
            go_wp2_with (first
              | (go_at_call 8; have HMk := H6; refine (told_is H6.out.two HL.out).mono ?_; rintro e w7 ⟨tp7, tc7, rfl, ht7, hb⟩; have HS7 : Hid (Src w7 tp7 (ints (listL n s))) := ht7.at; have HW7 : Hid (Src w7 tp (ints (listL n s))) := (HW6.out.below hb).at; have HB7 : Hid (Below w.heap.size w w7) := HB6.out.trans (hb.mono HB6.out.size); clear ht7 hb HMk)
              | (go_at_call 8; have HMk := H5a; refine (told_is H5a.out.one HL.out).mono ?_; rintro e w5b ⟨tp5, tc5, rfl, ht5, hb⟩; have HS5b : Hid (Src w5b tp5 (ints (listL n s))) := ht5.at; have HW5b : Hid (Told wr.heap.size w5b (.slice tp l tc) (listL n s)) := HW5a.out.below hb; have H5b : Hid (Both w5b p q n s s) := H5a.out.below hb; have HB5b : Hid (Below w.heap.size w w5b) := HB5a.out.trans (hb.mono HB5a.out.size); clear ht5 hb HMk)
              | (go_at_call 8; have HMk := H3; refine (told_is H3.out.two HL.out).mono ?_; rintro e w4 ⟨tp4, tc4, rfl, ht4, hb⟩; have HS4 : Hid (Src w4 tp4 (ints (listL n s))) := ht4.at; have HW4 : Hid (Told wr.heap.size w4 (.slice tp l tc) (listL n s)) := HW3.out.below hb; have H4 : Hid (Both w4 p q n s s) := H3.out.below hb; have HB4 : Hid (Below w.heap.size w w4) := HB3.out.trans (hb.mono HB3.out.size); clear ht4 hb HMk)
              | (go_at_call 8; refine (told_is HT.out.one HL.out).mono ?_; rintro e w3 ⟨tp, tc, rfl, ht3, hb⟩; have HW3 : Hid (Told wr.heap.size w3 (.slice tp l tc) (listL n s)) := ht3; have H3 : Hid (Both w3 p q n s s) := HT.out.below hb; have HB3 : Hid (Below w.heap.size w w3) := HB.out.trans (hb.mono HB.out.size); clear ht3 hb)
              | (go_at_call 10; have HMk := HS7; refine (same_is HS7.out HW7.out (by rw [ints_len]; exact HL.out) (by omega) _ _).mono ?_; rintro e w8 ⟨rfl, hb⟩; have HB8 : Hid (Below w.heap.size w w8) := HB7.out.trans (hb.mono HB7.out.size); clear hb HMk)
              | (go_at_call 10; have HMk := HS5b; refine (same_is HS5b.out HW5b.out.at (by rw [ints_len]; exact HL.out) (by omega) _ _).mono ?_; rintro e w5c ⟨rfl, hb⟩; have HW5c : Hid (Told wr.heap.size w5c (.slice tp l tc) (listL n s)) := HW5b.out.below hb; have H5c : Hid (Both w5c p q n s s) := H5b.out.below hb; have HB5c : Hid (Below w.heap.size w w5c) := HB5b.out.trans (hb.mono HB5b.out.size); clear hb HMk)
              | (go_at_call 10; refine (same_is HS4.out HW4.out.at (by rw [ints_len]; exact HL.out) (by omega) _ _).mono ?_; rintro e w5 ⟨rfl, hb⟩; have HW5 : Hid (Told wr.heap.size w5 (.slice tp l tc) (listL n s)) := HW4.out.below hb; have H5 : Hid (Both w5 p q n s s) := H4.out.below hb; have HB5 : Hid (Below w.heap.size w w5) := HB4.out.trans (hb.mono HB4.out.size); clear hb)
              | (go_at_call 9; refine (dr_is H5.out.one x hx HQ.out).mono ?_; rintro e w5a ⟨rfl, hr, hb⟩; rw [HD.out] at hr; have HW5a : Hid (Told wr.heap.size w5a (.slice tp l tc) (listL n s)) := HW5.out.buts hb hpB; have H5a : Hid (Both w5a p q n s s) := H5.out.set1 hb hr; have HB5a : Hid (Below w.heap.size w w5a) := HB5.out.trans (one_below hb hp HB5.out.size); clear hr hb)
              | (go_at_call 7; refine (make_any H5c.out.one).mono ?_; rintro e w6 ⟨rfl, hr, hb⟩; have HW6 : Hid (Told wr.heap.size w6 (.slice tp l tc) (listL n s)) := HW5c.out.buts hb hpB; have H6 : Hid (Both w6 p q n (makeS n s) s) := H5c.out.set1 hb hr; have HB6 : Hid (Below w.heap.size w w6) := HB5c.out.trans (one_below hb hp HB5c.out.size); clear hr hb))
            go_ret
            exact ⟨rfl, HB8.out⟩
      | succ g =>
        have hlt : (i : Int) < m := by omega
        obtain ⟨b, off, rfl, hbl, hc⟩ := (HS.out.below HB.out).spot (by have := HZ.out; omega)
        have HC : Hid (∀ wx, Below w.heap.size wr wx → wx.cell? ⟨b, off + i, none⟩ = some (.int .u8 (zs.getD i 0))) := fun wx hx => (hx.cell (p := ⟨b, off + i, none⟩) hbl).trans (hc i (by have := HZ.out; omega))
        have hzb := HS.out.at i
        obtain ⟨z, hz⟩ := Int.eq_ofNat_of_zero_le hzb.1
        rw [hz] at hzb HC
        clear hc hz
        have e2 : Int.tmod (z : Int) 2 = ((z % 2 : Nat) : Int) := rfl
        have e3 : Int.tdiv (z : Int) 2 = ((z / 2 : Nat) : Int) := rfl
        have hzh : z / 2 ≤ 127 := by omega
        by_cases q0 : z % 2 = 0 ∨ l = 0
        · have hq : (((z % 2 : Nat) : Int) == 0) = true ∨ ((((z % 2 : Nat) : Int) == 0) = false ∧ ((l : Int) == 0) = true) := by
            by_cases q1 : z % 2 = 0
            · exact Or.inl (by simp; omega)
            · exact Or.inr ⟨by simp; omega, by simp; omega⟩
          clear q0
          generalize z % 2 = z2 at *
          obtain ⟨y, hy⟩ : ∃ y, makeH n s = y := ⟨_, rfl⟩
          obtain ⟨e, he⟩ : ∃ e, makeE n s = e := ⟨_, rfl⟩
          have HYq : Hid (makeH n s = y) := hy
          have HEq : Hid (makeE n s = e) := he
          clear hy he
          rcases hq with hq | ⟨hq, hq2⟩
          all_goals
            go_wp2_with (first
              | (go_at_call 8; refine (told_is HT.out.one HL.out).mono ?_; rintro e w3 ⟨tp, tc, rfl, ht3, hb⟩; have H3 : Hid (Both w3 p q n s s) := HT.out.below hb; have HB3 : Hid (Below w.heap.size w w3) := HB.out.trans (hb.mono HB.out.size); have hz3 := HC.out w3 (hb.mono HB.out.size); clear ht3 hb)
              | (go_at_call 7; have HMk := H4; refine (mk_is H4.out.two HYq.out HEq.out).mono ?_; rintro e w5 ⟨rfl, hr, hb⟩; have H5 : Hid (Both w5 p q n (makeS n s) (makeS n s)) := H4.out.set2 hb hr; have HB5 : Hid (Below w.heap.size w w5) := HB4.out.trans (one_below hb hq' HB4.out.size); clear hr hb HMk)
              | (go_at_call 7; refine (mk_is H3.out.one HYq.out HEq.out).mono ?_; rintro e w4 ⟨rfl, hr, hb⟩; have H4 : Hid (Both w4 p q n (makeS n s) s) := H3.out.set1 hb hr; have HB4 : Hid (Below w.heap.size w w4) := HB3.out.trans (one_below hb hp HB3.out.size); clear hr hb))
            go_roundg g
            case measure => omega
            case rel => exact ⟨i + 1, _, by omega, by go_num, H5, HB5⟩
        · have hq : (((z % 2 : Nat) : Int) == 0) = false := by simp; omega
          have hq2 : ((l : Int) == 0) = false := by simp; omega
          have hl0 : 0 < l := by omega
          clear q0
          generalize z % 2 = z2 at *
          generalize z / 2 = zh at *
          have e4 : Int.tmod (zh : Int) (l : Int) = ((zh % l : Nat) : Int) := rfl
          have hj : zh % l < l := Nat.mod_lt _ hl0
          have hjI : ((zh % l : Nat) : Int) < l := by omega
          generalize zh % l = j at *
          have P1 : Hid (placeE s ((listL n s).getD j 0) = 0) := listL_at HT.out.one.good (by omega) (by have := HL.out; omega)
          have P2 : Hid ((listL n s).getD j 0 ≤ 4294967295) := listL_getw HT.out.one.good (by omega) (by have := HL.out; omega)
          go_wp2_with (first
            | (go_at_call 8; refine (told_is HT.out.one HL.out).mono ?_; rintro e w3 ⟨tp, tc, rfl, ht3, hb⟩; have H3 : Hid (Both w3 p q n s s) := HT.out.below hb; have HB3 : Hid (Below w.heap.size w w3) := HB.out.trans (hb.mono HB.out.size); have hz3 := HC.out w3 (hb.mono HB.out.size); obtain ⟨b2, off2, rfl, hc2⟩ := ht3.at (by rw [ints_len]; have := HL.out; omega); have ku := hc2 j (by rw [ints_len]; have := HL.out; omega); rw [ints_get] at ku; generalize (listL n s).getD j 0 = u at *; clear hc2 ht3 hb)
            | (go_at_call 9; have HMk := H4; refine (dr_is H4.out.two u P2.out P1.out).mono ?_; rintro e w5 ⟨rfl, hr, hb⟩; have H5 : Hid (Both w5 p q n (dropS s u) (dropS s u)) := H4.out.set2 hb hr; have HB5 : Hid (Below w.heap.size w w5) := HB4.out.trans (one_below hb hq' HB4.out.size); clear hr hb HMk)
            | (go_at_call 9; refine (dr_is H3.out.one u P2.out P1.out).mono ?_; rintro e w4 ⟨rfl, hr, hb⟩; have H4 : Hid (Both w4 p q n (dropS s u) s) := H3.out.set1 hb hr; have HB4 : Hid (Below w.heap.size w w4) := HB3.out.trans (one_below hb hp HB3.out.size); clear hr hb))
          go_roundg g
          case measure => omega
          case rel => exact ⟨i + 1, _, by omega, by go_num, H5, HB5⟩
end Go.Proofs.Ytkogmmldkpepaab
