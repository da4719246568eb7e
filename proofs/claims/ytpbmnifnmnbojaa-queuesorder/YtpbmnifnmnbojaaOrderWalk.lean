/- 'QueuesOrder' walked: what is put is taken in that order; what is pushed is taken ahead of it, the other way about; each first one is seen, and stays. -/
import Derived.Test.YtpbmnifnmnbojaaOrder
namespace Go.Proofs.Ytpbmnifnmnbojaa
open Go Go.RowKit
set_option maxRecDepth 100000
set_option linter.unusedVariables false
theorem own_que {w : World} {B p n m ga ca : Nat} {xs : List Int} {ys : List Value} (h : w.ownsRow B 22 1 (.slice (some ⟨ga, 0, none⟩) m ca) m ys) (hq : Que w p n xs) : ga ≠ p := by
  obtain ⟨f, zs, _, hr, _⟩ := hq.raw
  exact block_ne h (g := ga) rfl hr.head (by decide)
theorem que_grown {w w' : World} {B p n m : Nat} {v : Value} {xs : List Int} {ys : List Value} (hq : Que w p n xs) (h : w.ownsRow B 22 1 v m ys) (hg : w.grownBy w' v.ownBlock) : Que w' p n xs := by
  obtain ⟨f, zs, _, hr, _⟩ := hq.raw
  exact hq.buts (Buts.grown hg) fun hm => block_ne h (g := p) (by simpa using hm) hr.head (by decide) rfl
theorem own_keep {w w' : World} {B p n m : Nat} {v : Value} {xs : List Int} {ys : List Value} (h : w.ownsRow B 22 1 v m ys) (hq : Que w p n xs) (hb : Buts [p] w w') : w'.ownsRow B 22 1 v m ys := by
  obtain ⟨f, zs, _, hr, _⟩ := hq.raw
  exact owns_buts h hb fun g hg hm => block_ne h hg hr.head (by decide) (by simpa using hm)
set_option maxHeartbeats 8000000 in
theorem order_any {w : World} {sp tp : Option Addr} {L M : List Int} (hs : WSrc w.heap.size w sp L) (hl : L.length ≤ 4611686018427387904) (cap : Nat) (hs2 : WSrc w.heap.size w tp M) (hl2 : M.length ≤ 4611686018427387903) (cap2 : Nat) :
    Calls Try.prog 4 #[.slice sp L.length cap, .slice tp M.length cap2] w fun e w' => e = .returned (.bool true) ∧ Below w.heap.size w w' := by
  obtain ⟨i0, hi, hz0, hz1, hz2⟩ := info_parts infoW
  obtain ⟨q, hq⟩ : ∃ q, L.length = q := ⟨_, rfl⟩
  obtain ⟨r, hr⟩ : ∃ r, M.length = r := ⟨_, rfl⟩
  rw [hq] at hl ⊢
  rw [hr] at hl2 ⊢
  have HQ : Hid (L.length = q) := hq
  have HR : Hid (M.length = r) := hr
  have HS : Hid (WSrc w.heap.size w sp L) := hs
  have HS2 : Hid (WSrc w.heap.size w tp M) := hs2
  clear hq hs hr hs2
  by_cases hbig : 64 < q
  · go_enter Try.func4, Try.ntmps4
    go_wp2_with (first
      | (go_at_call 13; clear M1; refine (alive_any _).mono ?_; rintro e w2 ⟨rfl, hb2⟩)
      | (go_at_call 13; refine (alive_any _).mono ?_; rintro e w1 ⟨rfl, hB⟩; have M1 := True.intro))
    go_ret
    exact ⟨rfl, hB.trans (hb2.mono hB.size)⟩
  · by_cases hbig2 : 64 < q + r
    · have hbigI : (64 : Int) < (q : Int) + (r : Int) := by omega
      go_enter Try.func4, Try.ntmps4
      go_wp2_with (first
        | (go_at_call 13; clear M1; refine (alive_any _).mono ?_; rintro e w2 ⟨rfl, hb2⟩)
        | (go_at_call 13; refine (alive_any _).mono ?_; rintro e w1 ⟨rfl, hB⟩; have M1 := True.intro))
      go_ret
      exact ⟨rfl, hB.trans (hb2.mono hB.size)⟩
    · have hbigI : ¬ (64 : Int) < (q : Int) + (r : Int) := by omega
      obtain ⟨n, hn⟩ : ∃ n, q + r = n := ⟨_, rfl⟩
      have hnI : (q : Int) + (r : Int) = (n : Int) := by omega
      have HN : Hid (q + r = n) := hn
      obtain ⟨k, hk⟩ : ∃ k, (if 1 < n then n else 1) = k := ⟨_, rfl⟩
      have hmx : (if (1 : Int) < (n : Int) then (n : Int) else 1) = (k : Int) := by rw [← hk]; split <;> split <;> omega
      have hk1 : 1 ≤ k := by rw [← hk]; split <;> omega
      have hk2 : k ≤ 64 := by rw [← hk]; split <;> omega
      have hkn : n ≤ k := by rw [← hk]; split <;> omega
      clear hk hn
      go_enter Try.func4, Try.ntmps4
      go_wp2_with (first
        | (go_at_call 13; refine (alive_any _).mono ?_; rintro e w1 ⟨rfl, hB⟩)
        | (go_at_call 14; refine (new_yes k hk1 hk2).mono ?_; rintro e w2 ⟨rfl, hr, hb⟩; have HA : Hid (Que w2 w1.heap.size k []) := hr; have hB1 := hB.size; replace hB := hB.trans (hb.mono hB.size); clear hr hb))
      obtain ⟨p, hp⟩ : ∃ p, w1.heap.size = p := ⟨_, rfl⟩
      rw [hp] at HA hB1 ⊢
      clear hp hmx
      have HO : Hid (w2.ownsRow w.heap.size 22 1 (.slice none 0 0) 0 ((M.reverse.take 0).map (Value.int .u32))) := World.ownsRow_nil _ _ _ _
      go_loopg [8, 9] r (fun g s8 s9 wx => ∃ i : Nat, i + g = r ∧ s9 = .int .i64 i ∧ Hid (Que wx p k []) ∧ Hid (wx.ownsRow w.heap.size 22 1 s8 i ((M.reverse.take i).map (Value.int .u32))) ∧ Below w.heap.size w wx)
      case atStart => exact ⟨0, by omega, rfl, HA, HO, hB⟩
      case round =>
        clear HA HO hB
        obtain ⟨i, hig, rfl, HA, HO, hB⟩ := hrel
        obtain ⟨sp8, cap8, rfl, _⟩ := own_form HO.out
        cases gk with
        | succ g =>
          have hlt : (i : Int) < r := by omega
          obtain ⟨b, off, rfl, hbB, hc⟩ := (HS2.out.below hB).spot (by have := HR.out; omega)
          obtain ⟨j, hj⟩ : ∃ j, r - 1 - i = j := ⟨_, rfl⟩
          have hidx : (r : Int) - 1 - (i : Int) = (j : Int) := by omega
          have hjr : (j : Int) < r := by omega
          have kz := hc j (by have := HR.out; omega)
          have e1 : Hid (M.reverse.take i ++ [M.getD j 0] = M.reverse.take (i + 1)) := by rw [← hj]; exact rev_next HR.out (by omega)
          clear hc hj
          generalize M.getD j 0 = z at *
          go_wp2_with (first
            | (at_builtin; refine wpList_append_own _ rfl _ _ 34 rfl w.heap.size 22 i0 (.int .u32 0) 1 4 Try.underlying34 hi hz0 hz1 hz2 rfl (by decide) (.slice sp8 i cap8) i _ rfl (HO.out.alloc _) ⟨wr.heap.size, 0, none⟩ 1 1 [.int .u32 z] rfl rfl (cell1 wr _ _) (by simp [Value.oneCell']) (by simp only [maxLen]; omega) (by omega) (by have := hB.size; rw [alloc_size]; omega) ?_; intro v' w4 hown' hgrow _; have HO4 : Hid (w4.ownsRow w.heap.size 22 1 v' (i + 1) ((M.reverse.take (i + 1)).map (Value.int .u32))) := (by have := hown'; rw [← e1.out, List.map_append]; exact this); have HA4 : Hid (Que w4 p k []) := que_grown (HA.out.below (alloc_below wr _)) (HO.out.alloc _) hgrow; have hB4 := hB.trans (((alloc_below wr (.cells #[.int .u32 z] 22)).mono hB.size).trans (own_grown (HO.out.alloc _) hgrow (by have := hB.size; rw [alloc_size]; omega))); clear hown' hgrow))
          go_roundg g
          case measure => omega
          case rel => exact ⟨i + 1, by omega, by go_num, HA4, HO4, hB4⟩
        | zero =>
          obtain rfl : i = r := by omega
          have hlt : ¬ ((i : Int) < i) := by omega
          have hT : M.reverse.take i = M.reverse := List.take_of_length_le (by have := HR.out; simp; omega)
          rw [hT] at HO
          clear hT
          obtain ⟨v', w4, hrun, ho4, hg4⟩ := run_append_words HO.out ((HS.out.below hB).src) HQ.out cap (by omega) hB.size
          obtain ⟨sp9, cap9, rfl, hsp9, _⟩ := own_form ho4
          have hsum : i + q = n := by have := HN.out; omega
          rw [hsum] at hrun ho4 hsp9
          have HA4 : Hid (Que w4 p k (mix L M 0 0)) := by have := que_grown HA.out HO.out hg4; rw [← mix_zero L M] at this; exact this
          have HO4 : Hid (w4.ownsRow w.heap.size 22 1 (.slice sp9 n cap9) n ((M.reverse ++ L).map (Value.int .u32))) := ho4
          have hB4 := hB.trans (own_grown HO.out hg4 hB.size)
          have HSP : Hid (0 < n → ∃ g, sp9 = some ⟨g, 0, none⟩) := hsp9
          clear ho4 hg4 hsp9 HA HO hB hsum
          go_wp2_with (first
            | (at_builtin; refine Lib.wpList_append_run _ rfl _ _ 34 34 rfl _ _ rfl rfl _ _ hrun ?_; clear hrun))
          obtain ⟨mm, hmm⟩ : ∃ mm, max q i = mm := ⟨_, rfl⟩
          have hmq : q ≤ mm := by omega
          have hmr : i ≤ mm := by omega
          have HMM : Hid (mm ≤ q ∨ mm ≤ i) := by show _ ∨ _; omega
          clear hmm
          go_loopg [10] mm (fun g s10 wx => ∃ j : Nat, j + g = mm ∧ s10 = .int .i64 j ∧ Hid (Que wx p k (mix L M j j)) ∧ Hid (wx.ownsRow w.heap.size 22 1 (.slice sp9 n cap9) n ((M.reverse ++ L).map (Value.int .u32))) ∧ Below w.heap.size w wx)
          case atStart => exact ⟨0, by omega, rfl, HA4, HO4, hB4⟩
          case round =>
            clear HA4 HO4 hB4
            obtain ⟨j, hjg, rfl, HA, HO, hB⟩ := hrel
            cases gk with
            | zero =>
              obtain rfl : j = mm := by omega
              have hjq : ¬ ((j : Int) < q) := by omega
              have hjr : ¬ ((j : Int) < i) := by omega
              obtain ⟨T, hT⟩ : ∃ T, M.reverse ++ L = T := ⟨_, rfl⟩
              have HTL : Hid (T.length = n) := by show _ = _; rw [← hT]; have := HQ.out; have := HR.out; have := HN.out; simp; omega
              have HA0 : Hid (Que wr p k (T.drop 0)) := by have := HA.out; rw [mix_all (by have := HR.out; omega) (by have := HQ.out; omega), hT] at this; exact this
              rw [hT] at HO
              clear hT HA
              go_wp2
              go_loopg [11] n (fun g s11 wx => ∃ t : Nat, t + g = n ∧ s11 = .int .i64 t ∧ Hid (Que wx p k (T.drop t)) ∧ Hid (wx.ownsRow w.heap.size 22 1 (.slice sp9 n cap9) n (T.map (Value.int .u32))) ∧ Below w.heap.size w wx)
              case atStart => exact ⟨0, by omega, rfl, HA0, HO, hB⟩
              case round =>
                clear HA0 HO hB
                obtain ⟨t, htg, rfl, HA, HO, hB⟩ := hrel
                cases gk with
                | zero =>
                  obtain rfl : t = n := by omega
                  have htn : ¬ ((t : Int) < t) := by omega
                  have HE : Hid (Que wr p k []) := by have := HA.out; rwa [List.drop_eq_nil_of_le (by have := HTL.out; omega)] at this
                  clear HA
                  go_wp2_with (first
                    | (go_at_call 8; refine (take_is HE.out (x := 0) (e := 11) (ys := []) rfl rfl rfl).mono ?_; rintro e v1 ⟨rfl, hr, hb⟩; have V1 : Hid (Que v1 p k []) := hr; have B1 := hB.trans (one_below hb hB1 hB.size); clear hr hb)
                    | (go_at_call 12; refine (list_is V1.out (m := 0) rfl).mono ?_; rintro e v2 ⟨rfl, hr, hb⟩; have B2 := B1.trans (hb.mono B1.size); clear hr hb))
                  go_ret
                  exact ⟨rfl, B2⟩
                | succ g =>
                  have htn : (t : Int) < n := by omega
                  obtain ⟨ga, rfl⟩ := HSP.out (by omega)
                  obtain ⟨t1, t2, t3⟩ := drop_take (xs := T) (i := t) (by have := HTL.out; omega)
                  have T1 : Hid ((T.drop t).headD 0 = T.getD t 0) := t1
                  have T2 : Hid (takeE (T.drop t) = 0) := t2
                  have T3 : Hid ((T.drop t).tail = T.drop (t + 1)) := t3
                  have T4 : Hid ((T.drop t).length = n - t) := by show _ = _; rw [List.length_drop, HTL.out]
                  have hcap : Hid (n ≤ cap9) := by
                    obtain ⟨g1, c1, e, h1, _⟩ := owns_spot HO.out (by omega)
                    simp only [Value.slice.injEq] at e
                    show _ ≤ _
                    omega
                  have hcapt : ¬ cap9 = t := by have := hcap.out; omega
                  have hcapn : n ≤ cap9 := hcap.out
                  have HO1 : Hid (∀ w', w'.ownsRow w.heap.size 22 1 (.slice (some ⟨ga, 0, none⟩) n cap9) n (T.map (Value.int .u32)) → Src w' (some ⟨ga, t, none⟩) (T.drop t)) := fun w' h => by
                    have := (own_src h HTL.out).drop t (by have := HTL.out; omega)
                    rwa [Nat.zero_add] at this
                  clear t1 t2 t3
                  generalize hz : T.getD t 0 = z at *
                  have HZ : Hid (T.getD t 0 = z) := hz
                  clear hz
                  go_wp2_with (first
                    | (go_at_call 12; refine (list_is HA.out T4.out).mono ?_; rintro e v1 ⟨rfl, hr, hb⟩; have HL1 : Hid (Row v1 wr.heap.size (T.drop t)) := hr; have HLT : Hid (p < wr.heap.size) := HA.out.lt; have H1 : Hid (Que v1 p k (T.drop t)) := HA.out.below hb; have O1 : Hid (v1.ownsRow w.heap.size 22 1 (.slice (some ⟨ga, 0, none⟩) n cap9) n (T.map (Value.int .u32))) := owns_below HO.out hb; have B1 := hB.trans (hb.mono hB.size); clear hr hb)
                    | (go_at_call 9; refine (peek_is H1.out T1.out T2.out).mono ?_; rintro e v2 ⟨rfl, hb⟩; have HL2 : Hid (Row v2 wr.heap.size (T.drop t)) := HL1.out.below hb; have H2 : Hid (Que v2 p k (T.drop t)) := H1.out.below hb; have O2 : Hid (v2.ownsRow w.heap.size 22 1 (.slice (some ⟨ga, 0, none⟩) n cap9) n (T.map (Value.int .u32))) := owns_below O1.out hb; have B2 := B1.trans (hb.mono B1.size); clear hb)
                    | (go_at_call 8; refine (take_is H2.out T1.out T2.out T3.out).mono ?_; rintro e v3 ⟨rfl, hr, hb⟩; have HL3 : Hid (Row v3 wr.heap.size (T.drop t)) := row_one HL2.out hb (by have := HLT.out; omega); have H3 : Hid (Que v3 p k (T.drop (t + 1))) := hr; have O3 : Hid (v3.ownsRow w.heap.size 22 1 (.slice (some ⟨ga, 0, none⟩) n cap9) n (T.map (Value.int .u32))) := own_keep O2.out H2.out hb; have B3 := B2.trans (one_below hb hB1 B2.size); have kt := own_at O3.out HTL.out (i := t) (by omega); rw [HZ.out] at kt; clear hr hb)
                    | (go_at_call 15; refine (same_is (Src.row HL3.out) (HO1.out _ O3.out) T4.out (by omega) _ _).mono ?_; rintro e v4 ⟨rfl, hb⟩; have H4 : Hid (Que v4 p k (T.drop (t + 1))) := H3.out.below hb; have O4 : Hid (v4.ownsRow w.heap.size 22 1 (.slice (some ⟨ga, 0, none⟩) n cap9) n (T.map (Value.int .u32))) := owns_below O3.out hb; have B4 := B3.trans (hb.mono B3.size); clear hb))
                  go_roundg g
                  case measure => omega
                  case rel => exact ⟨t + 1, by omega, by go_num, H4, O4, B4⟩
            | succ g =>
              by_cases hjq : j < q
              · have hjqI : (j : Int) < q := by omega
                by_cases hjr : j < i
                · have hjrI : (j : Int) < i := by omega
                  obtain ⟨b, off, rfl, hbB, hc⟩ := (HS.out.below hB).spot (by have := HQ.out; omega)
                  have kz := hc j (by have := HQ.out; omega)
                  obtain ⟨e1, e2⟩ := mix_put (L := L) (M := M) (i := j) (j := j) (n := k) (by have := HQ.out; omega) (by have := HQ.out; have := HR.out; have := HN.out; omega)
                  have P1 : Hid (addE (mix L M j j) k = 0) := e1
                  have P2 : Hid (putL (mix L M j j) k (L.getD j 0) = mix L M j (j + 1)) := e2
                  clear e1 e2 hc
                  generalize L.getD j 0 = z at *
                  obtain ⟨b', off', rfl, hbB', hc⟩ := HS2.out.spot (by have := HR.out; omega)
                  have C : Hid (∀ w', Below w.heap.size w w' → w'.cell? ⟨b', off' + j, none⟩ = some (.int .u32 (M.getD j 0))) := fun w' h' => by rw [h'.cell (p := ⟨b', off' + j, none⟩) hbB']; exact hc j (by have := HR.out; omega)
                  obtain ⟨e1, e2⟩ := mix_push (L := L) (M := M) (i := j) (j := (j + 1)) (n := k) (by have := HR.out; omega) (by have := HQ.out; have := HR.out; have := HN.out; omega)
                  have Q1 : Hid (addE (mix L M j (j + 1)) k = 0) := e1
                  have Q2 : Hid (pushL (mix L M j (j + 1)) k (M.getD j 0) = mix L M (j + 1) (j + 1)) := e2
                  clear e1 e2 hc
                  generalize M.getD j 0 = y at *
                  go_wp2_with (first
                    | (go_at_call 10; refine (put_is HA.out z P1.out P2.out).mono ?_; rintro e v1 ⟨rfl, hr, hb⟩; have H1 : Hid (Que v1 p k (mix L M j (j + 1))) := hr; have O1 : Hid (v1.ownsRow w.heap.size 22 1 (.slice sp9 n cap9) n ((M.reverse ++ L).map (Value.int .u32))) := own_keep HO.out HA.out hb; have B1 := hB.trans (one_below hb hB1 hB.size); have kz4 := C.out _ B1; clear hr hb)
                    | (go_at_call 11; refine (push_is H1.out y Q1.out Q2.out).mono ?_; rintro e v2 ⟨rfl, hr, hb⟩; have H2 : Hid (Que v2 p k (mix L M (j + 1) (j + 1))) := hr; have O2 : Hid (v2.ownsRow w.heap.size 22 1 (.slice sp9 n cap9) n ((M.reverse ++ L).map (Value.int .u32))) := own_keep O1.out H1.out hb; have B2 := B1.trans (one_below hb hB1 B1.size); clear hr hb))
                  go_roundg g
                  case measure => omega
                  case rel => exact ⟨j + 1, by omega, by go_num, H2, O2, B2⟩
                · have hjrI : ¬ ((j : Int) < i) := by omega
                  obtain ⟨b, off, rfl, hbB, hc⟩ := (HS.out.below hB).spot (by have := HQ.out; omega)
                  have kz := hc j (by have := HQ.out; omega)
                  obtain ⟨e1, e2⟩ := mix_put (L := L) (M := M) (i := j) (j := j) (n := k) (by have := HQ.out; omega) (by have := HQ.out; have := HR.out; have := HN.out; omega)
                  have P1 : Hid (addE (mix L M j j) k = 0) := e1
                  have P2 : Hid (putL (mix L M j j) k (L.getD j 0) = mix L M j (j + 1)) := e2
                  clear e1 e2 hc
                  generalize L.getD j 0 = z at *
                  go_wp2_with (first
                    | (go_at_call 10; refine (put_is HA.out z P1.out P2.out).mono ?_; rintro e v1 ⟨rfl, hr, hb⟩; have H1 : Hid (Que v1 p k (mix L M j (j + 1))) := hr; have O1 : Hid (v1.ownsRow w.heap.size 22 1 (.slice sp9 n cap9) n ((M.reverse ++ L).map (Value.int .u32))) := own_keep HO.out HA.out hb; have B1 := hB.trans (one_below hb hB1 hB.size); clear hr hb))
                  have H2 : Hid (Que v1 p k (mix L M (j + 1) (j + 1))) := by have := H1.out; rw [← mix_left (i := j) (by have := HR.out; omega)] at this; exact this
                  go_roundg g
                  case measure => omega
                  case rel => exact ⟨j + 1, by omega, by go_num, H2, O1, B1⟩
              · have hjqI : ¬ ((j : Int) < q) := by omega
                have hjr : j < i := by have := HMM.out; omega
                have hjrI : (j : Int) < i := by omega
                obtain ⟨b', off', rfl, hbB', hc⟩ := HS2.out.spot (by have := HR.out; omega)
                have C : Hid (∀ w', Below w.heap.size w w' → w'.cell? ⟨b', off' + j, none⟩ = some (.int .u32 (M.getD j 0))) := fun w' h' => by rw [h'.cell (p := ⟨b', off' + j, none⟩) hbB']; exact hc j (by have := HR.out; omega)
                obtain ⟨e1, e2⟩ := mix_push (L := L) (M := M) (i := j) (j := j) (n := k) (by have := HR.out; omega) (by have := HQ.out; have := HR.out; have := HN.out; omega)
                have Q1 : Hid (addE (mix L M j j) k = 0) := e1
                have Q2 : Hid (pushL (mix L M j j) k (M.getD j 0) = mix L M (j + 1) j) := e2
                clear e1 e2 hc
                generalize M.getD j 0 = y at *
                have kz4 := C.out _ hB
                go_wp2_with (first
                  | (go_at_call 11; refine (push_is HA.out y Q1.out Q2.out).mono ?_; rintro e v2 ⟨rfl, hr, hb⟩; have H1 : Hid (Que v2 p k (mix L M (j + 1) j)) := hr; have O2 : Hid (v2.ownsRow w.heap.size 22 1 (.slice sp9 n cap9) n ((M.reverse ++ L).map (Value.int .u32))) := own_keep HO.out HA.out hb; have B2 := hB.trans (one_below hb hB1 hB.size); clear hr hb))
                have H2 : Hid (Que v2 p k (mix L M (j + 1) (j + 1))) := by have := H1.out; rw [← mix_right (j := j) (by have := HQ.out; omega)] at this; exact this
                go_roundg g
                case measure => omega
                case rel => exact ⟨j + 1, by omega, by go_num, H2, O2, B2⟩
end Go.Proofs.Ytpbmnifnmnbojaa
