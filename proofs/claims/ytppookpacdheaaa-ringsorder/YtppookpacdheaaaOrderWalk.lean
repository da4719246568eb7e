/- 'RingsOrder' walked: what is put, one after the other, is taken so; what is pushed is taken the other way about, ahead of that. -/
import Derived.Test.YtppookpacdheaaaSlices
namespace Go.Proofs.Ytppookpacdheaaa
open Go Go.RowKit
set_option maxRecDepth 100000
set_option linter.unusedVariables false
/-- the row behind so many pushes -/
def ahead (us : List Int) (k i : Nat) : List Int := (us.take i).reverse ++ us.drop k
theorem ahead_zero (us : List Int) (k : Nat) : ahead us k 0 = us.drop k := by simp [ahead]
theorem ahead_len {us : List Int} {k i : Nat} (hk : k ≤ us.length) (hi : i ≤ k) : (ahead us k i).length = i + (us.length - k) := by simp [ahead]; omega
theorem ahead_push {us : List Int} {k i n : Nat} (h : Good us) (hk : k ≤ us.length) (hi : i < k) (hn : us.length < n) : addE (ahead us k i) n (us.getD i 0) = 0 ∧ pushL (ahead us k i) n (us.getD i 0) = ahead us k (i + 1) := by
  have hil : i < us.length := by omega
  have h0 := h.2 _ (getD_mem hil)
  have hm : us.getD i 0 ∉ ahead us k i := by
    intro hm
    rcases List.mem_append.1 hm with hm | hm
    · exact not_before h.1 hil (List.mem_reverse.1 hm)
    · obtain ⟨j, hj, e⟩ := List.getElem_of_mem hm
      rw [List.getElem_drop] at e
      have hjl : k + j < us.length := by simp at hj; omega
      have := nodup_at h.1 hjl hil (by rw [← e]; simp [hjl])
      omega
  have he : addE (ahead us k i) n (us.getD i 0) = 0 := addE_ok (by omega) hm (by rw [ahead_len hk (by omega)]; omega)
  refine ⟨he, ?_⟩
  unfold pushL
  rw [if_pos he]
  unfold ahead
  rw [take_snoc hil]
  simp
theorem ahead_at {us : List Int} {k i : Nat} (hk : k ≤ us.length) (hi : i < us.length) : (ahead us k k).getD i 0 = if i < k then us.getD (k - 1 - i) 0 else us.getD i 0 := by
  unfold ahead
  rw [getD_app]
  have hl : (us.take k).reverse.length = k := by simp; omega
  rw [hl]
  by_cases h : i < k
  · rw [if_pos h, if_pos h]
    simp only [List.getD_eq_getElem?_getD]
    rw [List.getElem?_reverse (by simp; omega), List.getElem?_take_of_lt (by simp; omega)]
    congr 2
    simp
    omega
  · rw [if_neg h, if_neg h]
    simp only [List.getD_eq_getElem?_getD, List.getElem?_drop]
    congr 2
    omega
theorem drop_take {xs : List Int} {i : Nat} (hi : i < xs.length) : (xs.drop i).headD 0 = xs.getD i 0 ∧ takeE (xs.drop i) = 0 ∧ (xs.drop i).tail = xs.drop (i + 1) := by
  refine ⟨by simp [hi], ?_, by simp⟩
  unfold takeE
  rw [if_neg (by simp; omega)]
theorem own_at {w : World} {B g m cap : Nat} {us : List Int} (h : w.ownsRow B 3 1 (.slice (some ⟨g, 0, none⟩) m cap) m (us.map (Value.int .i64))) (hm : us.length = m) {i : Nat} (hi : i < m) : w.cell? ⟨g, i, none⟩ = some (.int .i64 (us.getD i 0)) := by
  obtain ⟨b, off, e, hc⟩ := own_src h hm (by omega)
  simp only [Option.some.injEq, Addr.mk.injEq, and_true] at e
  obtain ⟨rfl, rfl⟩ := e
  have := hc i (by omega)
  rwa [Nat.zero_add] at this
theorem own_two {w w' : World} {B e s n p g ga m ca : Nat} {xs : List Value} (h : w.ownsRow B e s (.slice (some ⟨ga, 0, none⟩) m ca) n xs) (hb : Buts [p, g] w w') (h1 : ga ≠ p) (h2 : ga ≠ g) : w'.ownsRow B e s (.slice (some ⟨ga, 0, none⟩) m ca) n xs :=
  owns_buts h hb fun x hx => by
    obtain rfl : ga = x := by simpa [Value.ownBlock] using hx
    exact two_mem h1 h2
theorem filled_nil {w : World} (sp : Option Addr) (cap : Nat) : Calls Try.prog 16 #[.slice sp 0 cap, .int .i64 1] w fun e w' => ∃ p, e = .returned (.pointer (some ⟨p, 0, none⟩)) ∧ ∃ g, Ring w' p g 1 [] ∧ w.heap.size ≤ p ∧ w.heap.size ≤ g ∧ Below w.heap.size w w' :=
  filled_any (us := []) (m := 0) (fun h => by simp at h) rfl Good.nil 1 (by omega) (by omega) cap
theorem filled_part {w : World} {B ga ca m k : Nat} {us : List Int} (ho : w.ownsRow B 3 1 (.slice (some ⟨ga, 0, none⟩) m ca) m (us.map (Value.int .i64))) (hm : us.length = m) (hg : Good us) (hk : k < m) (hmax : m ≤ 1000) (c : Nat) :
    Calls Try.prog 16 #[.slice (some ⟨ga, k, none⟩) (m - k) c, .int .i64 ((k : Int) + 1)] w fun e w' => ∃ p, e = .returned (.pointer (some ⟨p, 0, none⟩)) ∧ ∃ g, Ring w' p g (m + 1) (us.drop k) ∧ w.heap.size ≤ p ∧ w.heap.size ≤ g ∧ Below w.heap.size w w' := by
  have hs := (own_src ho hm).drop k (by omega)
  rw [Nat.zero_add] at hs
  have hgd : Good (us.drop k) := ⟨hg.1.sublist (List.drop_sublist k us), fun x hx => hg.2 x (List.mem_of_mem_drop hx)⟩
  have := filled_any hs (m := m - k) (by simp; omega) hgd (k + 1) (by omega) (by omega) c
  rwa [show m - k + (k + 1) = m + 1 by omega] at this
set_option maxHeartbeats 4000000 in
theorem order_any (x : Int) (hx : 0 ≤ x ∧ x ≤ 255) {sp : Option Addr} {L : List Int} (w : World) (hs : BSrc w.heap.size w sp L) (hl : L.length ≤ maxLen) (cap : Nat) :
    Calls Try.prog 4 #[.slice sp L.length cap, .int .u8 x] w fun e w' => e = .returned (.bool true) ∧ Below w.heap.size w w' := by
  unfold maxLen at hl
  obtain ⟨q, hq⟩ : ∃ q, L.length = q := ⟨_, rfl⟩
  rw [hq] at hl ⊢
  have HQ : Hid (L.length = q) := hq
  have HS : Hid (BSrc w.heap.size w sp L) := hs
  clear hq hs
  by_cases hbig : 200 < q
  · go_enter Try.func4, Try.ntmps4
    go_wp2_with (first
      | (go_at_call 14; clear M1; refine (alive_any _).mono ?_; rintro e w2 ⟨rfl, hb2⟩)
      | (go_at_call 14; refine (alive_any _).mono ?_; rintro e w1 ⟨rfl, hB⟩; have M1 := True.intro))
    go_ret
    exact ⟨rfl, hB.trans (hb2.mono hB.size)⟩
  · by_cases h0 : q = 0
    · subst h0
      go_enter Try.func4, Try.ntmps4
      go_wp2_with (first
        | (go_at_call 14; refine (alive_any _).mono ?_; rintro e w1 ⟨rfl, hB⟩)
        | (go_at_call 15; refine (unlike_nil _ _).mono ?_; rintro e wx ⟨rfl, hwx⟩; obtain rfl := hwx.symm)
        | (go_at_call 16; refine (filled_nil _ _).mono ?_; rintro e w3 ⟨p, rfl, g, hr, hp, hg, hb⟩; have HR : Hid (Ring w3 p g 1 []) := hr; have hB1 := hB.size; replace hB := hB.trans (hb.mono hB.size); clear hr hb))
      refine wp_loop_rounds 1 ?_
      rw [rounds_succ]
      go_wp2
      refine wp_loop_rounds 1 ?_
      rw [rounds_succ]
      go_wp2_with (first
        | (go_at_call 8; refine (take_is HR.out (x := 0) (e := 11) (ys := []) rfl rfl rfl).mono ?_; rintro e v1 ⟨rfl, hr, hb⟩; have V1 : Hid (Ring v1 p g (1) []) := hr; replace hB := hB.trans (two_below hb (by omega) (by omega) hB.size); clear hr hb)
        | (go_at_call 12; refine (turn_is V1.out (e := 11) (ys := []) rfl rfl).mono ?_; rintro e v2 ⟨rfl, hr, hb⟩; have V2 : Hid (Ring v2 p g (1) []) := hr; replace hB := hB.trans (two_below hb (by omega) (by omega) hB.size); clear hr hb)
        | (go_at_call 13; refine (list_is V2.out (m := 0) rfl).mono ?_; rintro e v3 ⟨rfl, hr, hb⟩; replace hB := hB.trans (hb.mono hB.size); clear hr hb))
      go_ret
      exact ⟨rfl, hB⟩
    · have h0' : ((q : Int) == 0) = false := by simp; omega
      obtain ⟨y, hy⟩ := Int.eq_ofNat_of_zero_le (a := x) hx.1
      subst hy
      go_enter Try.func4, Try.ntmps4
      go_wp2_with (first
        | (go_at_call 14; refine (alive_any _).mono ?_; rintro e w1 ⟨rfl, hB⟩)
        | (go_at_call 15; refine (unlike_any ((HS.out.below hB).mono hB.size) HQ.out (by omega) _).mono ?_; rintro e w2 ⟨us, v, rfl, ho, hu, hb⟩; have HU : Hid (Unl us q) := hu; have hm0 := hu.some (by omega); have hmq := hu.few; obtain ⟨m, hm⟩ : ∃ m, us.length = m := ⟨_, rfl⟩; have HM : Hid (us.length = m) := hm; rw [hm] at ho hm0 hmq; obtain ⟨ga, ca, rfl, hca, hcm⟩ := owns_spot ho hm0; have HO : Hid (w2.ownsRow w1.heap.size 3 1 (.slice (some ⟨ga, 0, none⟩) m ca) m (us.map (Value.int .i64))) := ho; have hga := (ho.lt ga rfl).1; have hgl := (ho.lt ga rfl).2; have hB1 := hB.size; replace hB := hB.trans (hb.mono hB.size); have hmz : ((m : Int) == 0) = false := (by simp; omega); have hm0I : decide ((0 : Int) < (m : Int)) = true := decide_eq_true (by omega); have hm0J : (0 : Int) < (m : Int) := (by omega); obtain ⟨k, hk⟩ : ∃ k, y % m = k := ⟨_, rfl⟩; have hkm : k < m := (by rw [← hk]; exact Nat.mod_lt _ hm0); have hrem : Int.tmod (y : Int) (m : Int) = (k : Int) := (by rw [← hk]; exact (Int.ofNat_tmod y m).symm); have hkmI : (k : Int) ≤ m := (by omega); have hck : ¬ ca = k := (by omega); have HF : Hid (∀ c, Calls Try.prog 16 #[.slice (some ⟨ga, k, none⟩) (m - k) c, .int .i64 ((k : Int) + 1)] w2 fun e w' => ∃ p, e = .returned (.pointer (some ⟨p, 0, none⟩)) ∧ ∃ g, Ring w' p g (m + 1) (us.drop k) ∧ w2.heap.size ≤ p ∧ w2.heap.size ≤ g ∧ Below w2.heap.size w2 w') := filled_part HO.out HM.out HU.out.good hkm (by omega); clear hu ho hb hm hk)
        | (go_at_call 16; refine (HF.out _).mono ?_; rintro e w3 ⟨p, rfl, g, hr, hp, hg, hb⟩; have HR : Hid (Ring w3 p g (m + 1) (ahead us k 0)) := (by show Ring _ _ _ _ _; rw [ahead_zero]; exact hr); replace HO : Hid (w3.ownsRow w1.heap.size 3 1 (.slice (some ⟨ga, 0, none⟩) m ca) m (us.map (Value.int .i64))) := owns_below HO.out hb; replace hB := hB.trans (hb.mono hB.size); clear hr hb HF))
      go_loopg [8] k (fun q s8 wx => ∃ i : Nat, i + q = k ∧ s8 = .int .i64 i ∧ Hid (Ring wx p g (m + 1) (ahead us k i)) ∧ Hid (wx.ownsRow w1.heap.size 3 1 (.slice (some ⟨ga, 0, none⟩) m ca) m (us.map (Value.int .i64))) ∧ Below w.heap.size w wx)
      case atStart => exact ⟨0, by omega, rfl, HR, HO, hB⟩
      case round =>
        clear HR HO hB
        obtain ⟨i, hiq, rfl, HR, HO, hB⟩ := hrel
        cases gk with
        | succ q' =>
          have hlt : (i : Int) < k := by omega
          have him : (i : Int) < m := by omega
          obtain ⟨e1, e2⟩ := ahead_push (n := m + 1) (i := i) HU.out.good (show k ≤ us.length by have := HM.out; omega) (by omega) (by have := HM.out; omega)
          have kz := own_at HO.out HM.out (i := i) (by omega)
          have HC : Hid (Calls Try.prog 10 #[.pointer (some ⟨p, 0, none⟩), .int .i64 (us.getD i 0)] wr fun r w' => r = .returned (.int .i64 0) ∧ Ring w' p g (m + 1) (ahead us k (i + 1)) ∧ Buts [p, g] wr w') := push_is HR.out _ e1 e2
          clear e1 e2
          generalize us.getD i 0 = z at *
          go_wp2_with (first | (go_at_call 10; refine HC.out.mono ?_; rintro e w4 ⟨rfl, hr, hb⟩; have H4 : Hid (Ring w4 p g (m + 1) (ahead us k (i + 1))) := hr; have O4 : Hid (w4.ownsRow w1.heap.size 3 1 (.slice (some ⟨ga, 0, none⟩) m ca) m (us.map (Value.int .i64))) := own_two HO.out hb (by omega) (by omega); replace hB := hB.trans (two_below hb (by omega) (by omega) hB.size); clear hr hb))
          go_roundg q'
          case measure => omega
          case rel => exact ⟨i + 1, by omega, by go_num, H4, O4, hB⟩
        | zero =>
          have hik : i = k := by omega
          rw [hik] at HR
          subst hik
          have hlt : ¬ ((i : Int) < i) := by omega
          obtain ⟨T, hT⟩ : ∃ T, ahead us i i = T := ⟨_, rfl⟩
          have HT : Hid (∀ j, j < m → T.getD j 0 = if j < i then us.getD (i - 1 - j) 0 else us.getD j 0) := fun j hj => by rw [← hT]; exact ahead_at (by have := HM.out; omega) (by have := HM.out; omega)
          have HTL : Hid (T.length = m) := by show _ = _; rw [← hT, ahead_len (by have := HM.out; omega) (Nat.le_refl _)]; have := HM.out; omega
          have HR0 : Hid (Ring wr p g (m + 1) (T.drop 0)) := by have := HR.out; rw [hT] at this; exact this
          clear hT HR
          go_wp2
          go_loopg [9] m (fun q s9 wx => ∃ j : Nat, j + q = m ∧ s9 = .int .i64 j ∧ Hid (Ring wx p g (m + 1) (T.drop j)) ∧ Hid (wx.ownsRow w1.heap.size 3 1 (.slice (some ⟨ga, 0, none⟩) m ca) m (us.map (Value.int .i64))) ∧ Below w.heap.size w wx)
          case atStart => exact ⟨0, by omega, rfl, HR0, HO, hB⟩
          case round =>
            clear HR0 HO hB
            obtain ⟨j, hjq, rfl, HR, HO, hB⟩ := hrel
            cases gk with
            | zero =>
              have hjm : ¬ ((j : Int) < m) := by omega
              have HE : Hid (Ring wr p g (m + 1) []) := by have := HR.out; rwa [List.drop_eq_nil_of_le (by have := HTL.out; omega)] at this
              clear HR
              go_wp2_with (first
                | (go_at_call 8; refine (take_is HE.out (x := 0) (e := 11) (ys := []) rfl rfl rfl).mono ?_; rintro e v1 ⟨rfl, hr, hb⟩; have V1 : Hid (Ring v1 p g (m + 1) []) := hr; replace hB := hB.trans (two_below hb (by omega) (by omega) hB.size); clear hr hb)
                | (go_at_call 12; refine (turn_is V1.out (e := 11) (ys := []) rfl rfl).mono ?_; rintro e v2 ⟨rfl, hr, hb⟩; have V2 : Hid (Ring v2 p g (m + 1) []) := hr; replace hB := hB.trans (two_below hb (by omega) (by omega) hB.size); clear hr hb)
                | (go_at_call 13; refine (list_is V2.out (m := 0) rfl).mono ?_; rintro e v3 ⟨rfl, hr, hb⟩; replace hB := hB.trans (hb.mono hB.size); clear hr hb))
              go_ret
              exact ⟨rfl, hB⟩
            | succ q' =>
              have hjm : (j : Int) < m := by omega
              obtain ⟨t1, t2, t3⟩ := drop_take (xs := T) (i := j) (by have := HTL.out; omega)
              have kz := own_at HO.out HM.out (i := j) (by omega)
              have hat := HT.out j (by omega)
              have HC : Hid (Calls Try.prog 8 #[.pointer (some ⟨p, 0, none⟩)] wr fun r w' => r = .returned (.tuple #[.int .i64 (T.getD j 0), .int .i64 0]) ∧ Ring w' p g (m + 1) (T.drop (j + 1)) ∧ Buts [p, g] wr w') := take_is HR.out t1 t2 t3
              rw [hat] at HC
              clear t1 t2 t3 hat
              by_cases hji : j < i
              · have hjiI : (j : Int) < i := by omega
                rw [if_pos hji] at HC
                obtain ⟨r, hr⟩ : ∃ r, i - 1 - j = r := ⟨_, rfl⟩
                have hidx : (i : Int) - 1 - (j : Int) = (r : Int) := by omega
                have hrm : (r : Int) < m := by omega
                rw [hr] at HC
                have kr := own_at HO.out HM.out (i := r) (by omega)
                clear hr
                generalize us.getD r 0 = z at *
                generalize us.getD j 0 = z' at *
                go_wp2_with (first | (go_at_call 8; refine HC.out.mono ?_; rintro e w4 ⟨rfl, hr, hb⟩; have H4 : Hid (Ring w4 p g (m + 1) (T.drop (j + 1))) := hr; have O4 : Hid (w4.ownsRow w1.heap.size 3 1 (.slice (some ⟨ga, 0, none⟩) m ca) m (us.map (Value.int .i64))) := own_two HO.out hb (by omega) (by omega); replace hB := hB.trans (two_below hb (by omega) (by omega) hB.size); clear hr hb))
                go_roundg q'
                case measure => omega
                case rel => exact ⟨j + 1, by omega, by go_num, H4, O4, hB⟩
              · have hjiI : ¬ (j : Int) < i := by omega
                rw [if_neg hji] at HC
                generalize us.getD j 0 = z at *
                go_wp2_with (first | (go_at_call 8; refine HC.out.mono ?_; rintro e w4 ⟨rfl, hr, hb⟩; have H4 : Hid (Ring w4 p g (m + 1) (T.drop (j + 1))) := hr; have O4 : Hid (w4.ownsRow w1.heap.size 3 1 (.slice (some ⟨ga, 0, none⟩) m ca) m (us.map (Value.int .i64))) := own_two HO.out hb (by omega) (by omega); replace hB := hB.trans (two_below hb (by omega) (by omega) hB.size); clear hr hb))
                go_roundg q'
                case measure => omega
                case rel => exact ⟨j + 1, by omega, by go_num, H4, O4, hB⟩
end Go.Proofs.Ytppookpacdheaaa
