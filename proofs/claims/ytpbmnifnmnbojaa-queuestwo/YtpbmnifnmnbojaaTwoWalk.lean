/- 'QueuesTwo' walked: two queues that get the same are the same; what one of them gets then, the other one does not. -/
import Derived.Test.YtpbmnifnmnbojaaSlices
namespace Go.Proofs.Ytpbmnifnmnbojaa
open Go Go.RowKit
set_option maxRecDepth 100000
set_option linter.unusedVariables false
set_option maxHeartbeats 4000000 in
theorem two_any {w : World} {sp : Option Addr} {L : List Int} (hs : WSrc w.heap.size w sp L) (hl : L.length ≤ maxLen) (cap : Nat) (v : Int) :
    Calls Try.prog 7 #[.slice sp L.length cap, .int .u32 v] w fun e w' => e = .returned (.bool true) ∧ Below w.heap.size w w' := by
  unfold maxLen at hl
  obtain ⟨q, hq⟩ : ∃ q, L.length = q := ⟨_, rfl⟩
  rw [hq] at hl ⊢
  have HQ : Hid (L.length = q) := hq
  have HS : Hid (WSrc w.heap.size w sp L) := hs
  clear hq hs
  by_cases hbig : 32 < q
  · go_enter Try.func7, Try.ntmps7
    go_wp2_with (first
      | (go_at_call 13; clear M1; refine (alive_any _).mono ?_; rintro e w2 ⟨rfl, hb2⟩)
      | (go_at_call 13; refine (alive_any _).mono ?_; rintro e w1 ⟨rfl, hB⟩; have M1 := True.intro))
    go_ret
    exact ⟨rfl, hB.trans (hb2.mono hB.size)⟩
  · go_enter Try.func7, Try.ntmps7
    go_wp2_with (first
      | (go_at_call 13; refine (alive_any _).mono ?_; rintro e w1 ⟨rfl, hB⟩)
      | (go_at_call 14; clear M1; refine (new_is 33 (by decide) (by decide)).mono ?_; rintro e w3 ⟨rfl, hr, hb⟩; have HA : Hid (Que w3 w1.heap.size 33 (L.take 0)) := HA0.out.below hb; have HB : Hid (Que w3 w2.heap.size 33 (L.take 0)) := hr; have hB2 := hB.size; replace hB := hB.trans (hb.mono hB.size); clear hr hb HA0)
      | (go_at_call 14; refine (new_is 33 (by decide) (by decide)).mono ?_; rintro e w2 ⟨rfl, hr, hb⟩; have HA0 : Hid (Que w2 w1.heap.size 33 (L.take 0)) := hr; have hB1 := hB.size; have h12 := hr.lt; replace hB := hB.trans (hb.mono hB.size); have M1 := True.intro; clear hr hb))
    obtain ⟨p1, hp1⟩ : ∃ p1, w1.heap.size = p1 := ⟨_, rfl⟩
    obtain ⟨p2, hp2⟩ : ∃ p2, w2.heap.size = p2 := ⟨_, rfl⟩
    rw [hp1] at HA h12 hB1 ⊢
    rw [hp2] at HB h12 hB2 ⊢
    clear hp1 hp2
    have hne : p1 ≠ p2 := by omega
    have hne' := Ne.symm hne
    go_loopg [9] q (fun g s9 wx => ∃ i : Nat, i + g = q ∧ s9 = .int .i64 i ∧ Hid (Que wx p1 33 (L.take i)) ∧ Hid (Que wx p2 33 (L.take i)) ∧ Below w.heap.size w wx)
    case atStart => exact ⟨0, by omega, rfl, HA, HB, hB⟩
    case round =>
      clear HA HB hB
      obtain ⟨i, hig, rfl, HA, HB, hB⟩ := hrel
      cases gk with
      | succ g =>
        have hlt : (i : Int) < q := by omega
        obtain ⟨b, off, rfl, hbB, hc⟩ := HS.out.spot (by have := HQ.out; omega)
        have C : Hid (∀ w', Below w.heap.size w w' → w'.cell? ⟨b, off + i, none⟩ = some (.int .u32 (L.getD i 0))) := fun w' h' => by rw [h'.cell (p := ⟨b, off + i, none⟩) hbB]; exact hc i (by have := HQ.out; omega)
        have kz := C.out _ hB
        obtain ⟨e1, e2⟩ := add_next (us := L) (n := 33) (i := i) (by have := HQ.out; omega) (by omega)
        have HC : Hid (∀ w' p, Que w' p 33 (L.take i) → Calls Try.prog 10 #[.pointer (some ⟨p, 0, none⟩), .int .u32 (L.getD i 0)] w' fun r w'' => r = .returned (.int .i64 0) ∧ Que w'' p 33 (L.take (i + 1)) ∧ Buts [p] w' w'') := fun w' p h => put_is h _ e1 e2
        clear e1 e2 hc
        generalize L.getD i 0 = z at *
        go_wp2_with (first
          | (go_at_call 10; clear M1; refine (HC.out _ _ HB.out).mono ?_; rintro e w5 ⟨rfl, hr, hb⟩; have HB5 : Hid (Que w5 p2 33 (L.take (i + 1))) := hr; have HA5 : Hid (Que w5 p1 33 (L.take (i + 1))) := HA4.out.buts hb (by simpa using hne); replace hB := hB.trans (one_below hb (by omega) hB.size); clear hr hb)
          | (go_at_call 10; refine (HC.out _ _ HA.out).mono ?_; rintro e w4 ⟨rfl, hr, hb⟩; have HA4 : Hid (Que w4 p1 33 (L.take (i + 1))) := hr; replace HB : Hid (Que w4 p2 33 (L.take i)) := HB.out.buts hb (by simpa using hne'); replace hB := hB.trans (one_below hb (by omega) hB.size); have kz4 := C.out _ hB; have M1 := True.intro; clear hr hb))
        go_roundg g
        case measure => omega
        case rel => exact ⟨i + 1, by omega, by go_num, HA5, HB5, hB⟩
      | zero =>
        obtain rfl : i = q := by omega
        have hlt : ¬ ((i : Int) < i) := by omega
        have hT : L.take i = L := List.take_of_length_le (by have := HQ.out; omega)
        rw [hT] at HA HB
        clear hT
        have e1 : Hid (addE L 33 = 0) := addE_ok (by have := HQ.out; omega)
        have e2 : Hid (pushL L 33 v = v :: L) := pushL_ok (by have := HQ.out; omega)
        have e3 : Hid ((v :: L).length = i + 1) := by show _ = _; simp [HQ.out]
        have hcase : i = 0 ∨ ¬ i + 1 = 1 := by omega
        rcases hcase with h0 | h0
        · subst h0
          go_wp2_with (first
            | (go_at_call 12; clear M1; clear M2; refine (list_is HB.out HQ.out).mono ?_; rintro e v5 ⟨rfl, hr, hb⟩; have HL5 : Hid (Row v5 v4.heap.size L) := hr; replace HX : Hid (Row v5 v3.heap.size (v :: L)) := HX.out.below hb; replace HB : Hid (Que v5 p2 33 L) := HB.out.below hb; replace hB := hB.trans (hb.mono hB.size); clear hr hb)
            | (go_at_call 12; clear M1; refine (list_is HA3.out e3.out).mono ?_; rintro e v4 ⟨rfl, hr, hb⟩; have HX : Hid (Row v4 v3.heap.size (v :: L)) := hr; replace HB : Hid (Que v4 p2 33 L) := HB.out.below hb; replace hB := hB.trans (hb.mono hB.size); have M1 := True.intro; have M2 := True.intro; clear hr hb)
            | (go_at_call 12; refine (list_is HB1.out HQ.out).mono ?_; rintro e v2 ⟨rfl, hr, hb⟩; have HL2 : Hid (Row v2 v1.heap.size L) := hr; replace HL1 : Hid (Row v2 wr.heap.size L) := HL1.out.below hb; replace HA1 : Hid (Que v2 p1 33 L) := HA1.out.below hb; have HB : Hid (Que v2 p2 33 L) := HB1.out.below hb; replace hB := hB.trans (hb.mono hB.size); clear hr hb HB1)
            | (go_at_call 12; refine (list_is HA.out HQ.out).mono ?_; rintro e v1 ⟨rfl, hr, hb⟩; have HL1 : Hid (Row v1 wr.heap.size L) := hr; have HA1 : Hid (Que v1 p1 33 L) := HA.out.below hb; have HB1 : Hid (Que v1 p2 33 L) := HB.out.below hb; replace hB := hB.trans (hb.mono hB.size); clear hr hb HA HB)
            | (go_at_call 15; clear HL5; refine (same_is (HT.out _) ((HS.out.below hB).src) HQ.out (by omega) _ _).mono ?_; rintro e v7 ⟨rfl, hb⟩; replace hB := hB.trans (hb.mono hB.size); clear hb)
            | (go_at_call 15; refine (same_is (Src.row HL5.out) ((HS.out.below hB).src) HQ.out (by omega) _ _).mono ?_; rintro e v6 ⟨rfl, hb⟩; replace hB := hB.trans (hb.mono hB.size); replace HX : Hid (Row v6 v3.heap.size (v :: L)) := HX.out.below hb; have HT : Hid (∀ sp, Src v6 sp L) := (fun sp hz => absurd hz (by have := HQ.out; omega)); have kx := HX.out.cell 0 (by simp); rw [List.getD_cons_zero] at kx; clear hb)
            | (go_at_call 15; refine (same_is (Src.row HL1.out) (Src.row HL2.out) HQ.out (by omega) _ _).mono ?_; rintro e v2b ⟨rfl, hb⟩; replace hB := hB.trans (hb.mono hB.size); replace HA1 : Hid (Que v2b p1 33 L) := HA1.out.below hb; replace HB : Hid (Que v2b p2 33 L) := HB.out.below hb; clear hb HL1 HL2)
            | (go_at_call 11; refine (push_is HA1.out v e1.out e2.out).mono ?_; rintro e v3 ⟨rfl, hr, hb⟩; have HA3 : Hid (Que v3 p1 33 (v :: L)) := hr; replace HB : Hid (Que v3 p2 33 L) := HB.out.buts hb (by simpa using hne'); replace hB := hB.trans (one_below hb (by omega) hB.size); have M1 := True.intro; clear hr hb HA1))
          go_ret
          exact ⟨rfl, hB⟩
        · go_wp2_with (first
            | (go_at_call 12; clear M1; clear M2; refine (list_is HB.out HQ.out).mono ?_; rintro e v5 ⟨rfl, hr, hb⟩; have HL5 : Hid (Row v5 v4.heap.size L) := hr; replace HX : Hid (Row v5 v3.heap.size (v :: L)) := HX.out.below hb; replace HB : Hid (Que v5 p2 33 L) := HB.out.below hb; replace hB := hB.trans (hb.mono hB.size); clear hr hb)
            | (go_at_call 12; clear M1; refine (list_is HA3.out e3.out).mono ?_; rintro e v4 ⟨rfl, hr, hb⟩; have HX : Hid (Row v4 v3.heap.size (v :: L)) := hr; replace HB : Hid (Que v4 p2 33 L) := HB.out.below hb; replace hB := hB.trans (hb.mono hB.size); have M1 := True.intro; have M2 := True.intro; clear hr hb)
            | (go_at_call 12; refine (list_is HB1.out HQ.out).mono ?_; rintro e v2 ⟨rfl, hr, hb⟩; have HL2 : Hid (Row v2 v1.heap.size L) := hr; replace HL1 : Hid (Row v2 wr.heap.size L) := HL1.out.below hb; replace HA1 : Hid (Que v2 p1 33 L) := HA1.out.below hb; have HB : Hid (Que v2 p2 33 L) := HB1.out.below hb; replace hB := hB.trans (hb.mono hB.size); clear hr hb HB1)
            | (go_at_call 12; refine (list_is HA.out HQ.out).mono ?_; rintro e v1 ⟨rfl, hr, hb⟩; have HL1 : Hid (Row v1 wr.heap.size L) := hr; have HA1 : Hid (Que v1 p1 33 L) := HA.out.below hb; have HB1 : Hid (Que v1 p2 33 L) := HB.out.below hb; replace hB := hB.trans (hb.mono hB.size); clear hr hb HA HB)
            | (go_at_call 15; clear HL5; refine (same_is HT.out ((HS.out.below hB).src) HQ.out (by omega) _ _).mono ?_; rintro e v7 ⟨rfl, hb⟩; replace hB := hB.trans (hb.mono hB.size); clear hb)
            | (go_at_call 15; refine (same_is (Src.row HL5.out) ((HS.out.below hB).src) HQ.out (by omega) _ _).mono ?_; rintro e v6 ⟨rfl, hb⟩; replace hB := hB.trans (hb.mono hB.size); replace HX : Hid (Row v6 v3.heap.size (v :: L)) := HX.out.below hb; have HT : Hid (Src v6 (some ⟨v3.heap.size, 1, none⟩) L) := (by have := (Src.row HX.out).drop 1 (by simp); exact this); have kx := HX.out.cell 0 (by simp); rw [List.getD_cons_zero] at kx; clear hb)
            | (go_at_call 15; refine (same_is (Src.row HL1.out) (Src.row HL2.out) HQ.out (by omega) _ _).mono ?_; rintro e v2b ⟨rfl, hb⟩; replace hB := hB.trans (hb.mono hB.size); replace HA1 : Hid (Que v2b p1 33 L) := HA1.out.below hb; replace HB : Hid (Que v2b p2 33 L) := HB.out.below hb; clear hb HL1 HL2)
            | (go_at_call 11; refine (push_is HA1.out v e1.out e2.out).mono ?_; rintro e v3 ⟨rfl, hr, hb⟩; have HA3 : Hid (Que v3 p1 33 (v :: L)) := hr; replace HB : Hid (Que v3 p2 33 L) := HB.out.buts hb (by simpa using hne'); replace hB := hB.trans (one_below hb (by omega) hB.size); have M1 := True.intro; clear hr hb HA1))
          go_ret
          exact ⟨rfl, hB⟩
end Go.Proofs.Ytpbmnifnmnbojaa
