/- 'QueuesEnds' walked: what is pushed is taken at once, and what was there ahead stays as it was. -/
import Derived.Test.YtpbmnifnmnbojaaSlices
namespace Go.Proofs.Ytpbmnifnmnbojaa
open Go Go.RowKit
set_option maxRecDepth 100000
set_option linter.unusedVariables false
set_option maxHeartbeats 4000000 in
theorem ends_any {w : World} {sp tp : Option Addr} {L M : List Int} (hs : WSrc w.heap.size w sp L) (hl : L.length ≤ maxLen) (cap : Nat) (hs2 : WSrc w.heap.size w tp M) (hl2 : M.length ≤ maxLen) (cap2 : Nat) :
    Calls Try.prog 6 #[.slice sp L.length cap, .slice tp M.length cap2] w fun e w' => e = .returned (.bool true) ∧ Below w.heap.size w w' := by
  unfold maxLen at hl hl2
  obtain ⟨q, hq⟩ : ∃ q, L.length = q := ⟨_, rfl⟩
  obtain ⟨r, hr⟩ : ∃ r, M.length = r := ⟨_, rfl⟩
  rw [hq] at hl ⊢
  rw [hr] at hl2 ⊢
  have HQ : Hid (L.length = q) := hq
  have HR : Hid (M.length = r) := hr
  have HS : Hid (WSrc w.heap.size w sp L) := hs
  have HS2 : Hid (WSrc w.heap.size w tp M) := hs2
  clear hq hs hr hs2
  by_cases hbig : 63 < q
  · go_enter Try.func6, Try.ntmps6
    go_wp2_with (first
      | (go_at_call 13; clear M1; refine (alive_any _).mono ?_; rintro e w2 ⟨rfl, hb2⟩)
      | (go_at_call 13; refine (alive_any _).mono ?_; rintro e w1 ⟨rfl, hB⟩; have M1 := True.intro))
    go_ret
    exact ⟨rfl, hB.trans (hb2.mono hB.size)⟩
  · by_cases hbig2 : 100 < r
    · go_enter Try.func6, Try.ntmps6
      go_wp2_with (first
        | (go_at_call 13; clear M1; refine (alive_any _).mono ?_; rintro e w2 ⟨rfl, hb2⟩)
        | (go_at_call 13; refine (alive_any _).mono ?_; rintro e w1 ⟨rfl, hB⟩; have M1 := True.intro))
      go_ret
      exact ⟨rfl, hB.trans (hb2.mono hB.size)⟩
    · go_enter Try.func6, Try.ntmps6
      go_wp2_with (first
        | (go_at_call 13; refine (alive_any _).mono ?_; rintro e w1 ⟨rfl, hB⟩)
        | (go_at_call 14; refine (new_is 64 (by decide) (by decide)).mono ?_; rintro e w2 ⟨rfl, hr, hb⟩; have HA : Hid (Que w2 w1.heap.size 64 (L.take 0)) := hr; have hB1 := hB.size; replace hB := hB.trans (hb.mono hB.size); clear hr hb))
      obtain ⟨p, hp⟩ : ∃ p, w1.heap.size = p := ⟨_, rfl⟩
      rw [hp] at HA hB1 ⊢
      clear hp
      go_loopg [7] q (fun g s7 wx => ∃ i : Nat, i + g = q ∧ s7 = .int .i64 i ∧ Hid (Que wx p 64 (L.take i)) ∧ Below w.heap.size w wx)
      case atStart => exact ⟨0, by omega, rfl, HA, hB⟩
      case round =>
        clear HA hB
        obtain ⟨i, hig, rfl, HA, hB⟩ := hrel
        cases gk with
        | succ g =>
          have hlt : (i : Int) < q := by omega
          obtain ⟨b, off, rfl, hbB, hc⟩ := (HS.out.below hB).spot (by have := HQ.out; omega)
          have kz := hc i (by have := HQ.out; omega)
          obtain ⟨e1, e2⟩ := add_next (us := L) (n := 64) (i := i) (by have := HQ.out; omega) (by omega)
          have HC := put_is HA.out _ e1 e2
          clear e1 e2 hc
          generalize L.getD i 0 = z at *
          go_wp2_with (first
            | (go_at_call 10; refine HC.mono ?_; rintro e w4 ⟨rfl, hr, hb⟩; have HA4 : Hid (Que w4 p 64 (L.take (i + 1))) := hr; replace hB := hB.trans (one_below hb (by omega) hB.size); clear hr hb))
          go_roundg g
          case measure => omega
          case rel => exact ⟨i + 1, by omega, by go_num, HA4, hB⟩
        | zero =>
          obtain rfl : i = q := by omega
          have hlt : ¬ ((i : Int) < i) := by omega
          have hT : L.take i = L := List.take_of_length_le (by have := HQ.out; omega)
          rw [hT] at HA
          clear hT
          go_wp2
          go_loopg [8] r (fun g s8 wx => ∃ j : Nat, j + g = r ∧ s8 = .int .i64 j ∧ Hid (Que wx p 64 L) ∧ Below w.heap.size w wx)
          case atStart => exact ⟨0, by omega, rfl, HA, hB⟩
          case round =>
            clear HA hB
            obtain ⟨j, hjg, rfl, HA, hB⟩ := hrel
            cases gk with
            | zero =>
              obtain rfl : j = r := by omega
              have hlt2 : ¬ ((j : Int) < j) := by omega
              go_wp2
              go_ret
              exact ⟨rfl, hB⟩
            | succ g =>
              have hlt2 : (j : Int) < r := by omega
              obtain ⟨b, off, rfl, hbB, hc⟩ := HS2.out.spot (by have := HR.out; omega)
              have C : Hid (∀ w', Below w.heap.size w w' → w'.cell? ⟨b, off + j, none⟩ = some (.int .u32 (M.getD j 0))) := fun w' h' => by rw [h'.cell (p := ⟨b, off + j, none⟩) hbB]; exact hc j (by have := HR.out; omega)
              have kz := C.out _ hB
              have e1 : Hid (addE L 64 = 0) := addE_ok (by have := HQ.out; omega)
              have e2 : Hid (pushL L 64 (M.getD j 0) = M.getD j 0 :: L) := pushL_ok (by have := HQ.out; omega)
              clear hc
              generalize M.getD j 0 = z at *
              go_wp2_with (first
                | (go_at_call 11; refine (push_is HA.out z e1.out e2.out).mono ?_; rintro e v1 ⟨rfl, hr, hb⟩; have H1 : Hid (Que v1 p 64 (z :: L)) := hr; replace hB := hB.trans (one_below hb (by omega) hB.size); clear hr hb HA)
                | (go_at_call 8; refine (take_is H1.out (x := z) (e := 0) (ys := L) rfl (takeE_cons _ _) rfl).mono ?_; rintro e v2 ⟨rfl, hr, hb⟩; have H2 : Hid (Que v2 p 64 L) := hr; replace hB := hB.trans (one_below hb (by omega) hB.size); have kz2 := C.out _ hB; clear hr hb H1)
                | (go_at_call 12; refine (list_is H2.out HQ.out).mono ?_; rintro e v3 ⟨rfl, hr, hb⟩; have HL : Hid (Row v3 v2.heap.size L) := hr; have H3 : Hid (Que v3 p 64 L) := H2.out.below hb; replace hB := hB.trans (hb.mono hB.size); clear hr hb H2)
                | (go_at_call 15; refine (same_is (Src.row HL.out) ((HS.out.below hB).src) HQ.out (by omega) _ _).mono ?_; rintro e v4 ⟨rfl, hb⟩; have H4 : Hid (Que v4 p 64 L) := H3.out.below hb; replace hB := hB.trans (hb.mono hB.size); clear hb HL H3))
              go_roundg g
              case measure => omega
              case rel => exact ⟨j + 1, by omega, by go_num, H4, hB⟩
end Go.Proofs.Ytpbmnifnmnbojaa
