/- 'QueuesFull' walked: as many as there may be are put, and no more, until one is taken; that one is the first one, and the new one the last one. -/
import Derived.Test.YtpbmnifnmnbojaaSlices
namespace Go.Proofs.Ytpbmnifnmnbojaa
open Go Go.RowKit
set_option maxRecDepth 100000
set_option linter.unusedVariables false
/-- messages, rising from one on, going round -/
def fr (v : Int) (a c : Nat) : List Int := (List.range c).map fun j : Nat => (v + ((a + j : Nat) : Int)) % 4294967296
theorem fr_len (v : Int) (a c : Nat) : (fr v a c).length = c := by simp [fr]
theorem fr_snoc (v : Int) (a c : Nat) {z : Int} (hz : (v + ((a + c : Nat) : Int)) % 4294967296 = z) : fr v a c ++ [z] = fr v a (c + 1) := by
  subst hz
  simp [fr, List.range_succ]
theorem fr_cons (v : Int) (a c : Nat) {z : Int} (hz : (v + ((a : Nat) : Int)) % 4294967296 = z) : fr v a (c + 1) = z :: fr v (a + 1) c := by
  subst hz
  simp only [fr, List.range_succ_eq_map, List.map_cons, List.map_map, Nat.add_zero, List.cons.injEq, true_and]
  apply List.map_congr_left
  intro j _
  simp only [Function.comp]
  congr 3
  omega
theorem part_is {w : World} {ops : Array Oper} {rest : List Oper} {o : Oper} {a : Go.Act} {Q : Exit → Go.Act → World → Prop} (hgd : o.guard = none) (s x : Operand)
    (ho : o.op = .call { callee := .builtin .append, args := #[s, x], argTypes := #[34, 34] }) (hty : o.type = 34) {B b1 m : Nat} {v : Value} {z : Int} {xs ys : List Int} (hse : a.eval s = v) (hx : a.eval x = .slice (some ⟨b1, 0, none⟩) 1 1)
    (hp : Part B w v xs) (hm : xs.length + 1 = m) (hy : xs ++ [z] = ys) (hl : m ≤ 2000) (hB : B ≤ w.heap.size) (h1 : w.cell? ⟨b1, 0, none⟩ = some (.int .u32 z))
    (h : ∀ b off cap w', Hid (Part B w' (.slice (some ⟨b, off, none⟩) m cap) ys) → Hid (Buts v.ownBlock.toList w w') → wpList Try.prog ops Q rest (a.put o.dst (.slice (some ⟨b, off, none⟩) m cap)) w') : wpList Try.prog ops Q (o :: rest) a w := by
  subst hm hy
  exact wpList_part hgd s x ho hty hse hx hp (by omega) hB h1 fun b off cap w' h2 h3 _ => h b off cap w' h2 h3
theorem Part.spot {B : Nat} {w : World} {v : Value} {xs : List Int} {k : Nat} (h : Part B w v xs) (hk : xs.length = k) (h0 : 0 < k) : ∃ b off cap, v = .slice (some ⟨b, off, none⟩) k cap ∧ k ≤ cap := by
  subst hk
  rcases h with ⟨rfl, rfl⟩ | ⟨b, off, cap, cur, rfl, hB, hh, hc, r⟩
  · simp at h0
  · exact ⟨b, off, cap, rfl, hc⟩
theorem Part.first {B : Nat} {w : World} {b off k cap : Nat} {x : Int} {xs : List Int} (h : Part B w (.slice (some ⟨b, off, none⟩) k cap) (x :: xs)) : w.cell? ⟨b, off, none⟩ = some (.int .u32 x) := by
  obtain ⟨sp, c, e, hs⟩ := h.src
  obtain ⟨b', off', e', hc⟩ := hs (by simp)
  simp only [Value.slice.injEq] at e
  rw [← e.1] at e'
  simp only [Option.some.injEq, Addr.mk.injEq, and_true] at e'
  obtain ⟨rfl, rfl⟩ := e'
  have := hc 0 (by simp)
  rwa [Nat.add_zero, List.getD_cons_zero] at this
theorem Part.srcAt {B : Nat} {w : World} {b off k cap : Nat} {xs : List Int} (h : Part B w (.slice (some ⟨b, off, none⟩) k cap) xs) : Src w (some ⟨b, off, none⟩) xs := by
  obtain ⟨sp, c, e, hs⟩ := h.src
  simp only [Value.slice.injEq] at e
  rw [e.1]; exact hs
set_option maxHeartbeats 8000000 in
theorem full_any (a v b : Int) (ha : 0 ≤ a ∧ a ≤ 255) (hv : 0 ≤ v ∧ v ≤ 4294967295) (hb : 0 ≤ b ∧ b ≤ 255) (w : World) : Calls Try.prog 5 #[.int .u8 a, .int .u32 v, .int .u8 b] w fun e w' => e = .returned (.bool true) ∧ Below w.heap.size w w' := by
  obtain ⟨k, hk⟩ := Int.eq_ofNat_of_zero_le (a := 1 + a % 64) (by omega)
  obtain ⟨t, rfl⟩ := Int.eq_ofNat_of_zero_le (a := b) hb.1
  have k1 : 1 ≤ k := by omega
  have k2 : k ≤ 64 := by omega
  have hC := new_yes (w := w) k k1 k2
  go_enter Try.func5, Try.ntmps5
  go_wp2_with (first | (go_at_call 14; refine hC.mono ?_; rintro e w1 ⟨rfl, hr, hB⟩; have H1 : Hid (Que w1 w.heap.size k (fr v 0 0)) := hr; clear hr))
  have P1 : Hid (Part w.heap.size w1 (.slice none 0 0) (fr v 0 0)) := Or.inl ⟨rfl, rfl⟩
  go_loopg [10, 11] k (fun g s10 s11 wx => ∃ i : Nat, i + g = k ∧ s11 = .int .i64 i ∧ Hid (Que wx w.heap.size k (fr v 0 i)) ∧ Hid (Part w.heap.size wx s10 (fr v 0 i)) ∧ Below w.heap.size w wx)
  case atStart => exact ⟨0, by omega, rfl, H1, P1, hB⟩
  case round =>
    clear H1 P1 hB
    obtain ⟨i, hig, rfl, HA, HP, hB⟩ := hrel
    cases gk with
    | succ g =>
      have hlt : (i : Int) < k := by omega
      obtain ⟨z, hz⟩ : ∃ z, (v + (i : Int)) % 4294967296 = z := ⟨_, rfl⟩
      have e1 : Hid (addE (fr v 0 i) k = 0) := addE_ok (by rw [fr_len]; omega)
      have e3 : Hid (fr v 0 i ++ [z] = fr v 0 (i + 1)) := fr_snoc v 0 i (by simpa using hz)
      have e2 : Hid (putL (fr v 0 i) k z = fr v 0 (i + 1)) := by show _ = _; rw [putL_ok (by rw [fr_len]; omega)]; exact e3.out
      have e4 : Hid ((fr v 0 i).length + 1 = i + 1) := by show _ = _; rw [fr_len]
      have e5 : Hid ((fr v 0 i).length = i) := fr_len v 0 i
      obtain ⟨sp, cp, rfl, hsrc⟩ := HP.out.src
      rw [e5.out] at HP ⊢
      clear hsrc
      go_wp2_with (first
        | (go_at_call 10; refine (put_is HA.out z e1.out e2.out).mono ?_; rintro e w2 ⟨rfl, hr, hb⟩; have H2 : Hid (Que w2 w.heap.size k (fr v 0 (i + 1))) := hr; have P2 : Hid (Part w.heap.size w2 (.slice sp i cp) (fr v 0 i)) := HP.out.one HA.out hb; replace hB := hB.trans (one_below hb (Nat.le_refl _) hB.size); clear hr hb)
        | (at_builtin; refine part_is rfl _ _ rfl rfl (v := .slice sp i cp) (z := z) rfl rfl (P2.out.below (alloc_below w2 _)) e4.out e3.out (by omega) (by rw [alloc_size]; have := hB.size; omega) (by rw [cell_of (alloc_at w2 _)]; rfl) ?_; intro b2 off2 cap2 w3 hp3 hb3; have P3 : Hid (Part w.heap.size w3 (.slice (some ⟨b2, off2, none⟩) (i + 1) cap2) (fr v 0 (i + 1))) := hp3; have H3 : Hid (Que w3 w.heap.size k (fr v 0 (i + 1))) := (H2.out.below (alloc_below w2 _)).part (P2.out.below (alloc_below w2 _)) hb3.out; replace hB := hB.trans (((alloc_below w2 _).mono hB.size).trans ((P2.out.below (alloc_below w2 _)).low (by rw [alloc_size]; have := hB.size; omega) hb3.out)); clear hp3 hb3))
      go_roundg g
      case measure => omega
      case rel => exact ⟨i + 1, by omega, by go_num, H3, P3, hB⟩
    | zero =>
      obtain rfl : i = k := by omega
      have hlt : ¬ ((i : Int) < i) := by omega
      obtain ⟨b1, o1, c1, rfl, hc1⟩ := HP.out.spot (fr_len v 0 i) k1
      go_wp2
      go_loopg [10, 13] t (fun g s10 s13 wx => ∃ (j b off cap : Nat), j + g = t ∧ s13 = .int .i64 j ∧ s10 = .slice (some ⟨b, off, none⟩) i cap ∧ i ≤ cap ∧ Hid (Que wx w.heap.size i (fr v j i)) ∧ Hid (Part w.heap.size wx (.slice (some ⟨b, off, none⟩) i cap) (fr v j i)) ∧ Below w.heap.size w wx)
      case atStart => exact ⟨0, b1, o1, c1, by omega, rfl, rfl, hc1, HA, HP, hB⟩
      case round =>
        clear HA HP hB hc1
        obtain ⟨j, b1, o1, c1, hjg, rfl, rfl, hc1, HA, HP, hB⟩ := hrel
        cases gk with
        | zero =>
          obtain rfl : j = t := by omega
          have hlt2 : ¬ ((j : Int) < j) := by omega
          go_wp2_with (first | (go_at_call 13; refine (alive_any _).mono ?_; rintro e w2 ⟨rfl, hb2⟩))
          go_ret
          exact ⟨rfl, hB.trans (hb2.mono hB.size)⟩
        | succ g =>
          have hlt2 : (j : Int) < t := by omega
          obtain ⟨r, rfl⟩ : ∃ r, i = r + 1 := ⟨i - 1, by omega⟩
          obtain ⟨y, hy⟩ : ∃ y, (v + (j : Int)) % 4294967296 = y := ⟨_, rfl⟩
          obtain ⟨z, hz⟩ : ∃ z, (v + (((r : Int) + 1) + (j : Int))) % 4294967296 = z := ⟨_, rfl⟩
          have hcons := fr_cons v j r hy
          have e3 : Hid (fr v (j + 1) r ++ [z] = fr v (j + 1) (r + 1)) := fr_snoc v (j + 1) r (by rw [← hz]; congr 2; omega)
          rw [hcons] at HA HP
          clear hcons hy
          have f1 : Hid (addE (y :: fr v (j + 1) r) (r + 1) = 10) := addE_full (by simp [fr_len])
          have f2 : Hid (∀ x, putL (y :: fr v (j + 1) r) (r + 1) x = y :: fr v (j + 1) r) := fun x => putL_full (by simp [fr_len])
          have f3 : Hid (∀ x, pushL (y :: fr v (j + 1) r) (r + 1) x = y :: fr v (j + 1) r) := fun x => pushL_full (by simp [fr_len])
          have f4 : Hid (addE (fr v (j + 1) r) (r + 1) = 0) := addE_ok (by simp [fr_len])
          have f5 : Hid (putL (fr v (j + 1) r) (r + 1) z = fr v (j + 1) (r + 1)) := by show _ = _; rw [putL_ok (by simp [fr_len])]; exact e3.out
          have e4 : Hid ((fr v (j + 1) r).length + 1 = r + 1) := by show _ = _; rw [fr_len]
          have e5 : Hid ((fr v (j + 1) (r + 1)).length = r + 1) := fr_len _ _ _
          by_cases hcap : c1 = 1
          · subst hcap
            have HT : Hid (∀ w', Part w.heap.size w' (.slice (some ⟨b1, o1, none⟩) (r + 1) 1) (y :: fr v (j + 1) r) → Part w.heap.size w' (.slice (some ⟨b1, o1, none⟩) 0 0) (fr v (j + 1) r)) := fun w' h => by have := h.tail; rw [if_pos rfl] at this; obtain rfl : r = 0 := (by omega); simpa using this
            go_wp2_with (first
              | (go_at_call 10; clear H4; refine (put_is H3.out z f4.out f5.out).mono ?_; rintro e v4 ⟨rfl, hr, hb⟩; have H5 : Hid (Que v4 w.heap.size (r + 1) (fr v (j + 1) (r + 1))) := hr; replace HP : Hid (Part w.heap.size v4 (.slice (some ⟨b1, o1, none⟩) (r + 1) 1) (y :: fr v (j + 1) r)) := HP.out.one H3.out hb; have PT : Hid (Part w.heap.size v4 (.slice (some ⟨b1, o1, none⟩) 0 0) (fr v (j + 1) r)) := HT.out _ HP.out; replace hB := hB.trans (one_below hb (Nat.le_refl _) hB.size); clear hr hb)
              | (go_at_call 10; refine (put_is HA.out v f1.out (f2.out v)).mono ?_; rintro e v1 ⟨rfl, hr, hb⟩; have H1 : Hid (Que v1 w.heap.size (r + 1) (y :: fr v (j + 1) r)) := hr; replace HP : Hid (Part w.heap.size v1 (.slice (some ⟨b1, o1, none⟩) (r + 1) 1) (y :: fr v (j + 1) r)) := HP.out.one HA.out hb; replace hB := hB.trans (one_below hb (Nat.le_refl _) hB.size); clear hr hb HA)
              | (go_at_call 11; refine (push_is H1.out v f1.out (f3.out v)).mono ?_; rintro e v2 ⟨rfl, hr, hb⟩; have H2 : Hid (Que v2 w.heap.size (r + 1) (y :: fr v (j + 1) r)) := hr; replace HP : Hid (Part w.heap.size v2 (.slice (some ⟨b1, o1, none⟩) (r + 1) 1) (y :: fr v (j + 1) r)) := HP.out.one H1.out hb; replace hB := hB.trans (one_below hb (Nat.le_refl _) hB.size); clear hr hb H1)
              | (go_at_call 8; refine (take_is H2.out (x := y) (e := 0) (ys := fr v (j + 1) r) rfl (takeE_cons _ _) rfl).mono ?_; rintro e v3 ⟨rfl, hr, hb⟩; have H3 : Hid (Que v3 w.heap.size (r + 1) (fr v (j + 1) r)) := hr; replace HP : Hid (Part w.heap.size v3 (.slice (some ⟨b1, o1, none⟩) (r + 1) 1) (y :: fr v (j + 1) r)) := HP.out.one H2.out hb; have ky := HP.out.first; have H4 := True.intro; replace hB := hB.trans (one_below hb (Nat.le_refl _) hB.size); clear hr hb H2)
              | (at_builtin; refine part_is rfl _ _ rfl rfl (v := .slice (some ⟨b1, o1, none⟩) 0 0) (z := z) rfl rfl (PT.out.below (alloc_below v4 _)) e4.out e3.out (by omega) (by rw [alloc_size]; have := hB.size; omega) (by rw [cell_of (alloc_at v4 _)]; rfl) ?_; intro b2 off2 cap2 v5 hp3 hb3; have P5 : Hid (Part w.heap.size v5 (.slice (some ⟨b2, off2, none⟩) (r + 1) cap2) (fr v (j + 1) (r + 1))) := hp3; have H6 : Hid (Que v5 w.heap.size (r + 1) (fr v (j + 1) (r + 1))) := (H5.out.below (alloc_below v4 _)).part (PT.out.below (alloc_below v4 _)) hb3.out; replace hB := hB.trans (((alloc_below v4 _).mono hB.size).trans ((PT.out.below (alloc_below v4 _)).low (by rw [alloc_size]; have := hB.size; omega) hb3.out)); clear hp3 hb3)
              | (go_at_call 12; refine (list_is H6.out e5.out).mono ?_; rintro e v6 ⟨rfl, hr, hb⟩; have HL : Hid (Row v6 v5.heap.size (fr v (j + 1) (r + 1))) := hr; have H7 : Hid (Que v6 w.heap.size (r + 1) (fr v (j + 1) (r + 1))) := H6.out.below hb; have P7 : Hid (Part w.heap.size v6 (.slice (some ⟨b2, off2, none⟩) (r + 1) cap2) (fr v (j + 1) (r + 1))) := P5.out.below hb; replace hB := hB.trans (hb.mono hB.size); clear hr hb)
              | (go_at_call 15; refine (same_is (Src.row HL.out) P7.out.srcAt e5.out (by omega) _ _).mono ?_; rintro e v7 ⟨rfl, hb⟩; have H8 : Hid (Que v7 w.heap.size (r + 1) (fr v (j + 1) (r + 1))) := H7.out.below hb; have P8 : Hid (Part w.heap.size v7 (.slice (some ⟨b2, off2, none⟩) (r + 1) cap2) (fr v (j + 1) (r + 1))) := P7.out.below hb; replace hB := hB.trans (hb.mono hB.size); clear hb))
            go_roundg g
            case measure => omega
            case rel =>
              obtain ⟨_, _, _, e, hc⟩ := P8.out.spot e5.out (by omega)
              simp only [Value.slice.injEq] at e
              exact ⟨j + 1, b2, off2, cap2, by omega, by go_num, rfl, by omega, H8, P8, hB⟩
          · have HT : Hid (∀ w', Part w.heap.size w' (.slice (some ⟨b1, o1, none⟩) (r + 1) c1) (y :: fr v (j + 1) r) → Part w.heap.size w' (.slice (some ⟨b1, o1 + 1, none⟩) r (c1 - 1)) (fr v (j + 1) r)) := fun w' h => by have := h.tail; rw [if_neg hcap] at this; simpa using this
            go_wp2_with (first
              | (go_at_call 10; clear H4; refine (put_is H3.out z f4.out f5.out).mono ?_; rintro e v4 ⟨rfl, hr, hb⟩; have H5 : Hid (Que v4 w.heap.size (r + 1) (fr v (j + 1) (r + 1))) := hr; replace HP : Hid (Part w.heap.size v4 (.slice (some ⟨b1, o1, none⟩) (r + 1) c1) (y :: fr v (j + 1) r)) := HP.out.one H3.out hb; have PT : Hid (Part w.heap.size v4 (.slice (some ⟨b1, o1 + 1, none⟩) r (c1 - 1)) (fr v (j + 1) r)) := HT.out _ HP.out; replace hB := hB.trans (one_below hb (Nat.le_refl _) hB.size); clear hr hb)
              | (go_at_call 10; refine (put_is HA.out v f1.out (f2.out v)).mono ?_; rintro e v1 ⟨rfl, hr, hb⟩; have H1 : Hid (Que v1 w.heap.size (r + 1) (y :: fr v (j + 1) r)) := hr; replace HP : Hid (Part w.heap.size v1 (.slice (some ⟨b1, o1, none⟩) (r + 1) c1) (y :: fr v (j + 1) r)) := HP.out.one HA.out hb; replace hB := hB.trans (one_below hb (Nat.le_refl _) hB.size); clear hr hb HA)
              | (go_at_call 11; refine (push_is H1.out v f1.out (f3.out v)).mono ?_; rintro e v2 ⟨rfl, hr, hb⟩; have H2 : Hid (Que v2 w.heap.size (r + 1) (y :: fr v (j + 1) r)) := hr; replace HP : Hid (Part w.heap.size v2 (.slice (some ⟨b1, o1, none⟩) (r + 1) c1) (y :: fr v (j + 1) r)) := HP.out.one H1.out hb; replace hB := hB.trans (one_below hb (Nat.le_refl _) hB.size); clear hr hb H1)
              | (go_at_call 8; refine (take_is H2.out (x := y) (e := 0) (ys := fr v (j + 1) r) rfl (takeE_cons _ _) rfl).mono ?_; rintro e v3 ⟨rfl, hr, hb⟩; have H3 : Hid (Que v3 w.heap.size (r + 1) (fr v (j + 1) r)) := hr; replace HP : Hid (Part w.heap.size v3 (.slice (some ⟨b1, o1, none⟩) (r + 1) c1) (y :: fr v (j + 1) r)) := HP.out.one H2.out hb; have ky := HP.out.first; have H4 := True.intro; replace hB := hB.trans (one_below hb (Nat.le_refl _) hB.size); clear hr hb H2)
              | (at_builtin; refine part_is rfl _ _ rfl rfl (v := .slice (some ⟨b1, o1 + 1, none⟩) r (c1 - 1)) (z := z) rfl rfl (PT.out.below (alloc_below v4 _)) e4.out e3.out (by omega) (by rw [alloc_size]; have := hB.size; omega) (by rw [cell_of (alloc_at v4 _)]; rfl) ?_; intro b2 off2 cap2 v5 hp3 hb3; have P5 : Hid (Part w.heap.size v5 (.slice (some ⟨b2, off2, none⟩) (r + 1) cap2) (fr v (j + 1) (r + 1))) := hp3; have H6 : Hid (Que v5 w.heap.size (r + 1) (fr v (j + 1) (r + 1))) := (H5.out.below (alloc_below v4 _)).part (PT.out.below (alloc_below v4 _)) hb3.out; replace hB := hB.trans (((alloc_below v4 _).mono hB.size).trans ((PT.out.below (alloc_below v4 _)).low (by rw [alloc_size]; have := hB.size; omega) hb3.out)); clear hp3 hb3)
              | (go_at_call 12; refine (list_is H6.out e5.out).mono ?_; rintro e v6 ⟨rfl, hr, hb⟩; have HL : Hid (Row v6 v5.heap.size (fr v (j + 1) (r + 1))) := hr; have H7 : Hid (Que v6 w.heap.size (r + 1) (fr v (j + 1) (r + 1))) := H6.out.below hb; have P7 : Hid (Part w.heap.size v6 (.slice (some ⟨b2, off2, none⟩) (r + 1) cap2) (fr v (j + 1) (r + 1))) := P5.out.below hb; replace hB := hB.trans (hb.mono hB.size); clear hr hb)
              | (go_at_call 15; refine (same_is (Src.row HL.out) P7.out.srcAt e5.out (by omega) _ _).mono ?_; rintro e v7 ⟨rfl, hb⟩; have H8 : Hid (Que v7 w.heap.size (r + 1) (fr v (j + 1) (r + 1))) := H7.out.below hb; have P8 : Hid (Part w.heap.size v7 (.slice (some ⟨b2, off2, none⟩) (r + 1) cap2) (fr v (j + 1) (r + 1))) := P7.out.below hb; replace hB := hB.trans (hb.mono hB.size); clear hb))
            go_roundg g
            case measure => omega
            case rel =>
              obtain ⟨_, _, _, e, hc⟩ := P8.out.spot e5.out (by omega)
              simp only [Value.slice.injEq] at e
              exact ⟨j + 1, b2, off2, cap2, by omega, by go_num, rfl, by omega, H8, P8, hB⟩
end Go.Proofs.Ytpbmnifnmnbojaa
