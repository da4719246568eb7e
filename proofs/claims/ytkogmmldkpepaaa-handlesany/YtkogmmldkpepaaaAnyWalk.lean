/- 'HandlesAny' walked: of all numbers just those that were made, and not dropped, have a place. -/
import Derived.Test.YtkogmmldkpepaaaSeen
namespace Go.Proofs.Ytkogmmldkpepaaa
open Go Go.RowKit
set_option maxRecDepth 100000
set_option linter.unusedVariables false
theorem take_mem {us : List Nat} {z : Nat} {k : Nat} (hk : k < us.length) : z ∈ us.take (k + 1) ↔ z ∈ us.take k ∨ us.getD k 0 = z := by
  have ht : us.take (k + 1) = us.take k ++ [us[k]] := by rw [List.take_add_one]; simp [hk]
  have hg : us.getD k 0 = us[k] := by simp [hk]
  rw [ht, hg, List.mem_append, List.mem_singleton, eq_comm (a := z)]
set_option maxHeartbeats 8000000 in
theorem any_any {w : World} {sp : Option Addr} {zs : List Int} (hs : BSrc w.heap.size w sp zs) (hl : zs.length ≤ maxLen) (cap : Nat) (h : Int) (hh : 0 ≤ h ∧ h ≤ 4294967295) :
    Calls Try.prog 7 #[.slice sp zs.length cap, .int .u32 h] w fun e w' => e = .returned (.bool true) ∧ Below w.heap.size w w' := by
  obtain ⟨x, rfl⟩ := Int.eq_ofNat_of_zero_le hh.1
  have hx : x ≤ 4294967295 := by omega
  clear hh
  unfold maxLen at hl
  obtain ⟨n, hn⟩ : ∃ n, zs.length = n := ⟨_, rfl⟩
  have HN : Hid (zs.length = n) := hn
  have HS : Hid (BSrc w.heap.size w sp zs) := hs
  rw [hn] at hl ⊢
  clear hs hn
  by_cases hbig : 60 < n
  · go_enter Try.func7, Try.ntmps7
    go_wp2_with (first
      | (go_at_call 12; have HM := hA1; refine (alive_any _).mono ?_; rintro e w2 ⟨rfl, hb⟩; have hB2 : Below w.heap.size w w2 := hA1.trans (hb.mono hA1.size); clear hb)
      | (go_at_call 12; refine (alive_any _).mono ?_; rintro e w1 ⟨rfl, hA1⟩))
    go_ret
    exact ⟨rfl, hB2⟩
  · go_enter Try.func7, Try.ntmps7
    go_wp2_with (first
      | (go_at_call 12; refine (alive_any _).mono ?_; rintro e w1 ⟨rfl, hb⟩; have HA : Hid (Below w.heap.size w w1) := hb; clear hb)
      | (go_at_call 13; refine (nw_is 4 (by decide) (by decide)).mono ?_; rintro e w2 ⟨rfl, hr, hb⟩; have H2 : Hid (Tab w2 w1.heap.size 4 none0) := hr; have HB : Hid (Below w.heap.size w w2) := HA.out.trans (hb.mono HA.out.size); have hp : w.heap.size ≤ w1.heap.size := HA.out.size; clear hr hb))
    generalize w1.heap.size = p at *
    go_loopg [7] n (fun g s7 wx => ∃ (i : Nat) (s : Slots), i + g = n ∧ s7 = .int .i64 i ∧ Hid (Tab wx p 4 s) ∧ Hid (Below w.heap.size w wx))
    case atStart => exact ⟨0, none0, by omega, rfl, H2, HB⟩
    case round =>
      clear H2 HB HA
      obtain ⟨i, s, hig, rfl, HT, HB⟩ := hrel
      cases gk with
      | zero =>
        have hlt : ¬ ((i : Int) < n) := by omega
        obtain ⟨wr', rfl⟩ : ∃ wr', wr' = wr := ⟨wr, rfl⟩
        obtain ⟨m, hm⟩ : ∃ m, (listL 4 s).length = m := ⟨_, rfl⟩
        have hm4 : m ≤ 4 := by rw [← hm]; exact listL_few
        have HM : Hid ((listL 4 s).length = m) := hm
        have HI : Hid (x ∈ listL 4 s ↔ placeE s x = 0) := mem_listL HT.out.good (by decide) x
        clear hm
        go_wp2_with (first
          | (go_at_call 11; refine (told_is HT.out HM.out).mono ?_; rintro e w3 ⟨tp, tc, rfl, ht3, hb⟩; have HT3 : Hid (Told wr'.heap.size w3 (.slice tp m tc) (listL 4 s)) := ht3; have HS3 : Hid (Src w3 tp (ints (listL 4 s))) := ht3.at; have hpB : p < wr'.heap.size := HT.out.lt; have H3 : Hid (Tab w3 p 4 s) := HT.out.below hb; have HB3 : Hid (Below w.heap.size w w3) := HB.out.trans (hb.mono HB.out.size); clear ht3 hb))
        go_loopg [10, 11] m (fun q s10 s11 wx => ∃ k : Nat, k + q = m ∧ s10 = .bool (decide (x ∈ (listL 4 s).take k)) ∧ s11 = .int .i64 k ∧ w3 = wx)
        case atStart => exact ⟨0, by omega, by simp, rfl, rfl⟩
        case round =>
          obtain ⟨k, hkq, rfl, rfl, rfl⟩ := hrel
          cases gk with
          | zero =>
            have hkm : ¬ ((k : Int) < m) := by omega
            have he : (listL 4 s).take k = listL 4 s := List.take_of_length_le (by have := HM.out; omega)
            rw [he]
            clear he
            by_cases q : placeE s x = 0
            · have ht : decide (x ∈ listL 4 s) = true := decide_eq_true (HI.out.2 q)
              rw [ht]
              have HQ : Hid (placeE s x = 0) := q
              have HK : Hid ((listL 4 (dropS s x)).length + 1 = m) := by have := drop_tk HT.out.good q; have h2 := HM.out; unfold tk at this; show _ = _; omega
              obtain ⟨m1, hm1⟩ : ∃ m1, (listL 4 (dropS s x)).length = m1 := ⟨_, rfl⟩
              have HM1 : Hid ((listL 4 (dropS s x)).length = m1) := hm1
              have hmm : (m : Int) - 1 = (m1 : Int) := by have := HK.out; omega
              clear ht q hm1
              go_wp2_with (first
                | (go_at_call 9; refine (pl_is H3.out x hx rfl HQ.out).mono ?_; rintro e w4 ⟨rfl, hb⟩; have H4 : Hid (Tab w4 p 4 s) := H3.out.below hb; have HB4 : Hid (Below w.heap.size w w4) := HB3.out.trans (hb.mono HB3.out.size); clear hb)
                | (go_at_call 10; refine (dr_is H4.out x hx HQ.out).mono ?_; rintro e w5 ⟨rfl, hr, hb⟩; have H5 : Hid (Tab w5 p 4 (dropS s x)) := hr; have HB5 : Hid (Below w.heap.size w w5) := HB4.out.trans (one_below hb hp HB4.out.size); clear hr hb)
                | (go_at_call 11; refine (told_is H5.out HM1.out).mono ?_; rintro e w6 ⟨up, uc, rfl, hs6, hb⟩; have HB6 : Hid (Below w.heap.size w w6) := HB5.out.trans (hb.mono HB5.out.size); clear hs6 hb))
              go_ret
              exact ⟨rfl, HB6.out⟩
            · have ht : decide (x ∈ listL 4 s) = false := decide_eq_false (fun hx => q (HI.out.1 hx))
              rw [ht]
              have HD : Hid (dropS s x = s) := dropS_no q
              obtain ⟨e, he, he56⟩ : ∃ e, placeE s x = e ∧ (e = 5 ∨ e = 6) := ⟨_, rfl, (placeE_cases s x).resolve_left q⟩
              have HQ : Hid (placeE s x = e) := he
              have HP : Hid (placeP s x = 0) := if_neg q
              clear ht q he
              rcases he56 with rfl | rfl
              all_goals
                go_wp2_with (first
                  | (go_at_call 9; refine (pl_is H3.out x hx HP.out HQ.out).mono ?_; rintro e w4 ⟨rfl, hb⟩; have H4 : Hid (Tab w4 p 4 s) := H3.out.below hb; have HB4 : Hid (Below w.heap.size w w4) := HB3.out.trans (hb.mono HB3.out.size); have HT4 : Hid (Told wr'.heap.size w4 (.slice tp m tc) (listL 4 s)) := HT3.out.below hb; clear hb)
                  | (go_at_call 10; refine (dr_is H4.out x hx HQ.out).mono ?_; rintro e w5 ⟨rfl, hr, hb⟩; rw [HD.out] at hr; have H5 : Hid (Tab w5 p 4 s) := hr; have HT5 : Hid (Told wr'.heap.size w5 (.slice tp m tc) (listL 4 s)) := HT4.out.buts hb hpB; have HB5 : Hid (Below w.heap.size w w5) := HB4.out.trans (one_below hb hp HB4.out.size); clear hr hb)
                  | (go_at_call 11; refine (told_is H5.out HM.out).mono ?_; rintro e w6 ⟨up, uc, rfl, hs6, hb⟩; have HS6 : Hid (Src w6 up (ints (listL 4 s))) := hs6.at; have HT6 : Hid (Src w6 tp (ints (listL 4 s))) := (HT5.out.below hb).at; have HB6 : Hid (Below w.heap.size w w6) := HB5.out.trans (hb.mono HB5.out.size); clear hs6 hb)
                  | (go_at_call 14; refine (same_is HS6.out HT6.out (by rw [ints_len]; exact HM.out) (by omega) _ _).mono ?_; rintro e w7 ⟨rfl, hb⟩; have HB7 : Hid (Below w.heap.size w w7) := HB6.out.trans (hb.mono HB6.out.size); clear hb))
                go_ret
                exact ⟨rfl, HB7.out⟩
          | succ q =>
            have hkm : (k : Int) < m := by omega
            have HQ : Hid (x ∈ (listL 4 s).take (k + 1) ↔ x ∈ (listL 4 s).take k ∨ (listL 4 s).getD k 0 = x) := take_mem (by have := HM.out; omega)
            obtain ⟨b2, off2, rfl, hc2⟩ := HS3.out (by rw [ints_len]; have := HM.out; omega)
            have ku := hc2 k (by rw [ints_len]; have := HM.out; omega)
            rw [ints_get] at ku
            clear hc2
            generalize (listL 4 s).getD k 0 = u at *
            by_cases q1 : x ∈ (listL 4 s).take k
            · have hz' : decide (x ∈ (listL 4 s).take k) = true := decide_eq_true q1
              rw [hz']
              have HZ : Hid (decide (x ∈ (listL 4 s).take (k + 1)) = true) := decide_eq_true (HQ.out.2 (Or.inl q1))
              clear hz' q1
              go_wp2
              go_roundg q
              case measure => omega
              case rel => exact ⟨k + 1, by omega, by rw [HZ.out], by go_num, rfl⟩
            · have hz' : decide (x ∈ (listL 4 s).take k) = false := decide_eq_false q1
              rw [hz']
              by_cases q2 : u = x
              · have HZ : Hid (decide (x ∈ (listL 4 s).take (k + 1)) = true) := decide_eq_true (HQ.out.2 (Or.inr q2))
                have hux : ((u : Int) == (x : Int)) = true := by simp [q2]
                clear hz' q1 q2
                go_wp2
                go_roundg q
                case measure => omega
                case rel => exact ⟨k + 1, by omega, by rw [HZ.out], by go_num, rfl⟩
              · have HZ : Hid (decide (x ∈ (listL 4 s).take (k + 1)) = false) := decide_eq_false (fun hh => (HQ.out.1 hh).elim q1 q2)
                have hux : ((u : Int) == (x : Int)) = false := by simp; omega
                clear hz' q1 q2
                go_wp2
                go_roundg q
                case measure => omega
                case rel => exact ⟨k + 1, by omega, by rw [HZ.out], by go_num, rfl⟩
      | succ g =>
        have hlt : (i : Int) < n := by omega
        obtain ⟨b, off, rfl, hbl, hc⟩ := (HS.out.below HB.out).spot (by have := HN.out; omega)
        have hzc := hc i (by have := HN.out; omega)
        have HC : Hid (∀ wx, Below w.heap.size wr wx → wx.cell? ⟨b, off + i, none⟩ = some (.int .u8 (zs.getD i 0))) := fun wx hx => (hx.cell (p := ⟨b, off + i, none⟩) hbl).trans (hc i (by have := HN.out; omega))
        have hzb := HS.out.at i
        obtain ⟨z, hz⟩ := Int.eq_ofNat_of_zero_le hzb.1
        rw [hz] at hzc hzb HC
        clear hc hz
        have e1 : Int.tmod (z : Int) 2 = ((z % 2 : Nat) : Int) := rfl
        have e2 : Int.tdiv (z : Int) 2 = ((z / 2 : Nat) : Int) := rfl
        by_cases q0 : z % 2 = 0
        · have hq0 : (((z % 2 : Nat) : Int) == 0) = true := by simp; omega
          clear q0
          generalize z % 2 = z2 at *
          go_wp2_with (first
            | (go_at_call 8; refine (make_any HT.out).mono ?_; rintro e w3 ⟨rfl, hr, hb⟩; have H3 : Hid (Tab w3 p 4 (makeS 4 s)) := hr; have HB3 : Hid (Below w.heap.size w w3) := HB.out.trans (one_below hb hp HB.out.size); clear hr hb))
          go_roundg g
          case measure => omega
          case rel => exact ⟨i + 1, _, by omega, by go_num, H3, HB3⟩
        · have hq0 : (((z % 2 : Nat) : Int) == 0) = false := by simp; omega
          have hz2 : z / 2 ≤ 127 := by omega
          obtain ⟨m, hm⟩ : ∃ m, (listL 4 s).length = m := ⟨_, rfl⟩
          have hm4 : m ≤ 4 := by rw [← hm]; exact listL_few
          have HM : Hid ((listL 4 s).length = m) := hm
          clear q0 hm
          generalize z % 2 = z2 at *
          generalize z / 2 = zh at *
          by_cases qm : m = 0
          · subst qm
            go_wp2_with (first
              | (go_at_call 11; refine (told_is HT.out HM.out).mono ?_; rintro e w3 ⟨tp, tc, rfl, hs3, hb⟩; have H3 : Hid (Tab w3 p 4 s) := HT.out.below hb; have HB3 : Hid (Below w.heap.size w w3) := HB.out.trans (hb.mono HB.out.size); clear hs3 hb))
            go_roundg g
            case measure => omega
            case rel => exact ⟨i + 1, _, by omega, by go_num, H3, HB3⟩
          · have hm0 : (0 : Int) < m := by omega
            have hmz : ((m : Int) == 0) = false := by simp; omega
            have e3 : Int.tmod (zh : Int) (m : Int) = ((zh % m : Nat) : Int) := rfl
            have hj : zh % m < m := Nat.mod_lt _ (by omega)
            have hjI : ((zh % m : Nat) : Int) < m := by omega
            clear qm
            generalize zh % m = j at *
            have HP : Hid (placeE s ((listL 4 s).getD j 0) = 0) := listL_at HT.out.good (by decide) (by have := HM.out; omega)
            have HW : Hid ((listL 4 s).getD j 0 ≤ 4294967295) := listL_getw HT.out.good (by decide) (by have := HM.out; omega)
            go_wp2_with (first
              | (go_at_call 11; refine (told_is HT.out HM.out).mono ?_; rintro e w3 ⟨tp, tc, rfl, hs3, hb⟩; have H3 : Hid (Tab w3 p 4 s) := HT.out.below hb; have HB3 : Hid (Below w.heap.size w w3) := HB.out.trans (hb.mono HB.out.size); have hz3 := HC.out w3 (hb.mono HB.out.size); obtain ⟨b2, off2, rfl, hc2⟩ := hs3.at (by rw [ints_len]; have := HM.out; omega); have ku := hc2 j (by rw [ints_len]; have := HM.out; omega); rw [ints_get] at ku; generalize (listL 4 s).getD j 0 = u at *; clear hc2 hb)
              | (go_at_call 10; refine (dr_is H3.out u HW.out HP.out).mono ?_; rintro e w4 ⟨rfl, hr, hb⟩; have H4 : Hid (Tab w4 p 4 (dropS s u)) := hr; have HB4 : Hid (Below w.heap.size w w4) := HB3.out.trans (one_below hb hp HB3.out.size); clear hr hb))
            go_roundg g
            case measure => omega
            case rel => exact ⟨i + 1, _, by omega, by go_num, H4, HB4⟩
end Go.Proofs.Ytkogmmldkpepaaa
