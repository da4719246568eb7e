/- 'PoolsAgain' walked: a pool all of whose blocks were given out, and taken back in any order, gives them out as at first. -/
import Derived.Test.YtpdibhgbaclbaabMore
namespace Go.Proofs.Ytpdibhgbaclbaab
open Go Go.RowKit
set_option maxRecDepth 100000
set_option linter.unusedVariables false
/-- each is free, or theirs -/
def Ours (x : Int) (l : List Int) : Prop := ∀ z ∈ l, z = 0 ∨ z = x
theorem ours_cnt {x : Int} (hx : x ≠ 0) : ∀ (l : List Int), Ours x l → cnt x l + cnt 0 l = l.length
  | [], _ => rfl
  | z :: l, h => by
    have ih := ours_cnt hx l (fun y hy => h y (List.mem_cons_of_mem _ hy))
    have e : ∀ y, cnt y (z :: l) = cnt y l + hit z y := fun y => by unfold cnt hit; rw [List.countP_cons]; simp
    rw [e, e, List.length_cons]
    rcases h z (by simp) with rfl | rfl
    · rw [hit_yes, hit_no (Ne.symm hx)]; omega
    · rw [hit_yes, hit_no hx]; omega
theorem ours_clr {x : Int} : ∀ (l : List Int), Ours x l → clr x l = List.replicate l.length 0
  | [], _ => rfl
  | z :: l, h => by
    have ih := ours_clr l (fun y hy => h y (List.mem_cons_of_mem _ hy))
    unfold clr at ih ⊢
    rw [List.map_cons, ih, List.length_cons, List.replicate_succ]
    rcases h z (by simp) with rfl | rfl
    · simp
    · simp
theorem ours_set {x : Int} {l : List Int} (h : Ours x l) (i : Nat) : Ours x (l.set i 0) := by
  intro z hz
  rcases List.mem_or_eq_of_mem_set hz with hz | rfl
  · exact h z hz
  · exact Or.inl rfl
theorem ours_at {x : Int} {l : List Int} (h : Ours x l) (i : Nat) : l.getD i 0 = 0 ∨ l.getD i 0 = x := by
  by_cases hi : i < l.length
  · rw [show l.getD i 0 = l[i] by simp [hi]]; exact h _ (List.getElem_mem hi)
  · exact Or.inl (by simp [Nat.le_of_not_lt hi])
theorem cnt_zeros (n : Nat) : cnt 0 (List.replicate n 0) = n := by
  have h : cnt 0 (List.replicate n 0) = (List.replicate n (0 : Int)).length := List.countP_eq_length.2 (fun a ha => by rw [(List.mem_replicate.1 ha).2]; rfl)
  rw [h, List.length_replicate]
def fW (x : Int) (i : Nat) : Nat → Int := fun j => if j < i then x else 0
set_option maxHeartbeats 8000000 in
theorem again_walk (m x : Int) (hm : 0 ≤ m ∧ m ≤ 255) (hx : 0 ≤ x ∧ x ≤ 4294967295) {sp : Option Addr} {L : List Int} (w : World) (hs : BSrc w.heap.size w sp L) (hl : L.length ≤ maxLen) (cap : Nat) :
    Calls Try.prog 4 #[.int .u8 m, .slice sp L.length cap, .int .u32 x] w fun e w' => e = .returned (.bool true) ∧ Below w.heap.size w w' := by
  unfold maxLen at hl
  obtain ⟨n, hn⟩ := Int.eq_ofNat_of_zero_le (a := 1 + m % 64) (by omega)
  have HN : Hid ((n : Int) = 1 + m % 64) := hn.symm
  have h1 : 1 ≤ n := by omega
  have h2 : n ≤ 64 := by omega
  obtain ⟨q, hq⟩ : ∃ q, L.length = q := ⟨_, rfl⟩
  rw [hq] at hl ⊢
  have HQ : Hid (L.length = q) := hq
  have HS : Hid (BSrc w.heap.size w sp L) := hs
  clear hq hs
  by_cases hbad : 100 < q ∨ x = 0
  · have hbad' : 100 < q ∨ (¬ 100 < q ∧ x = 0) := by omega
    clear hbad
    rcases hbad' with hbig | ⟨hbig, rfl⟩
    all_goals
      go_enter Try.func4, Try.ntmps4
      go_wp2_with (first
        | (go_at_call 5; clear M1; refine (alive_any _).mono ?_; rintro e w2 ⟨rfl, hb2⟩)
        | (go_at_call 5; refine (alive_any _).mono ?_; rintro e w1 ⟨rfl, hB⟩; have M1 := True.intro))
      go_ret
      exact ⟨rfl, hB.trans (hb2.mono hB.size)⟩
  · have hbig : ¬ 100 < q := by omega
    have hx0 : (x == 0) = false := by simp; omega
    have hxp : 0 < x := by omega
    have hxn : x ≠ 0 := by omega
    clear hbad
    go_enter Try.func4, Try.ntmps4
    go_wp2_with (first
      | (go_at_call 5; refine (alive_any _).mono ?_; rintro e w1 ⟨rfl, hB⟩)
      | (go_at_call 6; refine (of_any m hm n HN.out).mono ?_; rintro e w2 ⟨rfl, hP, hb2⟩; have HP : Hid (Pool w2 w1.heap.size n (List.replicate n 0)) := hP; have hp0 := hB.size; replace hB := hB.trans (hb2.mono hB.size); clear hP hb2; generalize w1.heap.size = p at *))
    have HXN : Hid (x ≠ 0) := hxn
    clear hxn
    go_loopg [9] 2 (fun gk s9 wx => ∃ t : Nat, t + gk = 2 ∧ s9 = .int .i64 t ∧ Hid (Pool wx p n (List.replicate n 0)) ∧ Below w.heap.size w wx)
    case atStart => exact ⟨0, by omega, rfl, HP, hB⟩
    case round =>
      clear HP hB
      obtain ⟨t, htg, rfl, HP, hB⟩ := hrel
      cases gk with
      | zero =>
        obtain rfl : t = 2 := by omega
        go_wp2
        go_ret
        exact ⟨rfl, hB⟩
      | succ g' =>
        have htl : (t : Int) < 2 := by omega
        have HP0 : Hid (Pool wr p n (tab n (fW x 0))) := by have h := HP.out; rw [tab_zero] at h; exact h
        clear HP
        go_wp2
        go_loopg [10] n (fun gk s10 wx => ∃ i : Nat, i + gk = n ∧ s10 = .int .i64 i ∧ Hid (Pool wx p n (tab n (fW x i))) ∧ Below w.heap.size w wx)
        case atStart => exact ⟨0, by omega, rfl, HP0, hB⟩
        case round =>
          clear HP0 hB
          obtain ⟨i, hig, rfl, HP, hB⟩ := hrel
          cases gk with
          | succ g =>
            have hlt : (i : Int) < n := by omega
            have Z0 : Hid ((tab n (fW x i)).getD i 0 = 0) := by show _ = _; rw [tab_at (by omega)]; simp [fW]
            have ZJ : Hid (∀ j, j < i → (tab n (fW x i)).getD j 0 ≠ 0) := by
              show ∀ j, _
              intro j hj
              rw [tab_at (by omega)]; unfold fW; rw [if_pos hj]; exact HXN.out
            have ZS : Hid ((tab n (fW x i)).set i x = tab n (fW x (i + 1))) := tab_set (by omega) (by simp [fW]) (fun j hj hne => by unfold fW; simp [show (j < i + 1) ↔ (j < i) by omega])
            go_wp2_with (first
              | (go_at_call 8; refine (alloc_yes HP.out x ⟨hxp, hx.2⟩ i (by omega) Z0.out ZJ.out).mono ?_; rintro e w3 ⟨rfl, hP2, hb2⟩; rw [ZS.out] at hP2; have HP2 : Hid (Pool w3 p n (tab n (fW x (i + 1)))) := hP2; replace hB := hB.trans (hb2.below hp0 hB.size); clear hP2 hb2))
            go_roundg g
            case measure => omega
            case rel => exact ⟨i + 1, by omega, by go_num, HP2, hB⟩
          | zero =>
            obtain rfl : i = n := by omega
            have hlt : ¬ ((i : Int) < i) := by omega
            have HO0 : Hid (Ours x (tab i (fW x i))) := by
              show Ours x _
              intro z hz
              obtain ⟨j, hj, rfl⟩ := tab_mem hz
              unfold fW; rw [if_pos hj]; exact Or.inr rfl
            have HC0 : Hid (cnt 0 (tab i (fW x i)) = 0) := cnt_none (fun z hz => by
              obtain ⟨j, hj, rfl⟩ := tab_mem hz
              unfold fW; rw [if_pos hj]; exact HXN.out)
            go_wp2
            go_loopg [13, 14] q (fun gk s13 s14 wx => ∃ (k : Nat) (Z : List Int), k + gk = q ∧ s14 = .int .i64 k ∧ s13 = .int .i64 (cnt 0 Z : Nat) ∧ Hid (Ours x Z) ∧ Hid (Pool wx p i Z) ∧ Below w.heap.size w wx)
            case atStart => exact ⟨0, _, by omega, rfl, by rw [HC0.out]; rfl, HO0, HP, hB⟩
            case round =>
              clear HP hB HO0 HC0
              obtain ⟨k, Z, hkg, rfl, rfl, HO, HP, hB⟩ := hrel
              have HZL : Hid (Z.length = i) := HP.out.len
              have hcl : cnt 0 Z ≤ i := by have := cnt_le 0 Z; rw [HZL.out] at this; exact this
              cases gk with
              | succ g =>
                have hkl : (k : Int) < q := by omega
                obtain ⟨b, off, rfl, hbl, hc⟩ := (HS.out.below hB).spot (by rw [HQ.out]; omega)
                have hz := hc k (by rw [HQ.out]; omega)
                have hzb := HS.out.at k
                clear hc
                generalize L.getD k 0 = z at *
                have hin : (i : Int) ≠ 0 := by omega
                obtain ⟨bi, hbe⟩ := Int.eq_ofNat_of_zero_le (a := z % (i : Int)) (Int.emod_nonneg _ hin)
                have hbi : bi < i := by have := Int.emod_lt_of_pos z (show (0 : Int) < i by omega); omega
                by_cases ho : Z.getD bi 0 = x
                · have HZ : Hid (Z.getD bi 0 = x) := ho
                  clear ho
                  have HC : Hid (cnt 0 (Z.set bi 0) = cnt 0 Z + 1) := by
                    show _ = _
                    rw [cnt_set (by rw [HZL.out]; exact hbi) (by rw [HZ.out]; exact HXN.out), hit_yes]
                  go_wp2_with (first
                    | (go_at_call 9; refine (free_yes HP.out x bi hxp hbi HZ.out).mono ?_; rintro e w3 ⟨rfl, hP2, hb2⟩; have HP2 : Hid (Pool w3 p i (Z.set bi 0)) := hP2; replace hB := hB.trans (hb2.below hp0 hB.size); clear hP2 hb2))
                  go_roundg g
                  case measure => omega
                  case rel => exact ⟨k + 1, _, by omega, by go_num, by rw [HC.out]; rfl, ours_set HO.out bi, HP2, hB⟩
                · have HZ : Hid (Z.getD bi 0 ≠ x) := ho
                  clear ho
                  go_wp2_with (first
                    | (go_at_call 9; refine (free_other HP.out x bi hxp hbi HZ.out).mono ?_; rintro e wx ⟨rfl, rfl⟩))
                  go_roundg g
                  case measure => omega
                  case rel => exact ⟨k + 1, _, by omega, by go_num, rfl, HO, HP, hB⟩
              | zero =>
                obtain rfl : k = q := by omega
                have hkl : ¬ ((k : Int) < k) := by omega
                obtain ⟨c, hc⟩ : ∃ c, cnt 0 Z = c := ⟨_, rfl⟩
                rw [hc] at hcl
                rw [hc]
                have HC : Hid (cnt 0 Z = c) := hc
                clear hc
                have HA : Hid (cnt x Z = i - c) := by
                  show _ = _
                  have := ours_cnt HXN.out Z HO.out
                  rw [HC.out, HZL.out] at this
                  omega
                have HE : Hid (clr x Z = List.replicate i 0) := by
                  show _ = _
                  rw [ours_clr Z HO.out, HZL.out]
                have HD : Hid (cnt 0 (List.replicate i 0) = i) := cnt_zeros i
                have hsub : ((i - c : Nat) : Int) = (i : Int) - c := by omega
                go_wp2_with (first
                  | (go_at_call 12; refine (left_is HP4.out HD.out).mono ?_; rintro e w5 ⟨rfl, hb5⟩; have HP5 : Hid (Pool w5 p i (List.replicate i 0)) := HP4.out.below hb5; replace hB := hB.trans (hb5.mono hB.size); clear hb5)
                  | (go_at_call 10; refine (all_is HP3.out x hxp HA.out).mono ?_; rintro e w4 ⟨rfl, hp4, hb4⟩; rw [HE.out] at hp4; have HP4 : Hid (Pool w4 p i (List.replicate i 0)) := hp4; replace hB := hB.trans (hb4.below hp0 hB.size); clear hb4 hp4)
                  | (go_at_call 12; refine (left_is HP.out HC.out).mono ?_; rintro e w3 ⟨rfl, hb3⟩; have HP3 : Hid (Pool w3 p i Z) := HP.out.below hb3; replace hB := hB.trans (hb3.mono hB.size); clear hb3))
                go_roundg g'
                case measure => omega
                case rel => exact ⟨t + 1, by omega, by go_num, HP5, hB⟩
end Go.Proofs.Ytpdibhgbaclbaab
