/- The document's own Circle. -/
import Derived.Test.YtcjjaofmicegfaaTwin
namespace Go.Proofs.Ytcjjaofmicegfaa
open Go Go.RowKit
set_option maxRecDepth 100000
set_option linter.unusedVariables false
set_option linter.unusedSimpArgs false
set_option maxHeartbeats 8000000 in
theorem kcircle_is {w : World} {sp : Option Addr} {ws : List Int} (hs : Src w sp ws) {n : Nat} (hn : ws.length = n) (hl : n ≤ 1000) (c : Nat) {who whom : Int} {b : Bool} (hb : b = true ↔ Circ ws who whom) :
    Calls Try.prog 9 #[.slice sp n c, .int .i64 who, .int .i64 whom] w fun e w' => e = .returned (.bool b) ∧ w = w' := by
  have HB : Hid (b = true ↔ Circ ws who whom) := hb
  have HN : Hid (ws.length = n) := hn
  have HS : Hid (0 < n → ∃ b1 o1, sp = some ⟨b1, o1, none⟩ ∧ Hid (∀ i, i < n → w.cell? ⟨b1, o1 + i, none⟩ = some (.int .i64 (ws.getD i 0)))) := by
    show 0 < n → _
    subst hn; exact hs.get
  clear hs hn hb
  go_enter Try.func9, Try.ntmps9
  go_wp2
  go_loopg [7] n (fun g s7 wx => ∃ i : Nat, i + g = n ∧ s7 = .int .i64 i ∧ w = wx ∧ Hid (∀ j, j < i → -1 ≤ ws.getD j 0 ∧ ws.getD j 0 < n))
  case atStart => exact ⟨0, by omega, rfl, rfl, fun j hj => by omega⟩
  case round =>
    obtain ⟨i, hig, rfl, rfl, HJ⟩ := hrel
    cases gk with
    | succ g =>
      have hlt : (i : Int) < n := by omega
      obtain ⟨b1, o1, rfl, C1⟩ := HS.out (by omega)
      have k1 := C1.out i (by omega)
      obtain ⟨z, hz⟩ : ∃ z, ws.getD i 0 = z := ⟨_, rfl⟩
      rw [hz] at k1
      have HZ : Hid (ws.getD i 0 = z) := hz
      clear hz C1
      by_cases a1 : z < -1
      · have hbt : b = false := by
          cases hbb : b
          · rfl
          · have := (HB.out.1 hbb).2.2.1 i (by rw [HN.out]; omega); rw [HZ.out] at this; omega
        subst hbt
        go_wp2
        go_ret
        exact ⟨rfl, rfl⟩
      · by_cases a2 : z < n
        · have a3 : ¬ ((n : Int) ≤ z) := by omega
          have HZZ : Hid (-1 ≤ z ∧ z < n) := ⟨by omega, a2⟩
          clear a2
          go_wp2
          go_roundg g
          case measure => omega
          case rel => exact ⟨i + 1, by omega, by go_num, rfl, fun j hj => by
            rcases Nat.lt_or_ge j i with h | h
            · exact HJ.out j h
            · obtain rfl : j = i := by omega
              rw [HZ.out]; exact HZZ.out⟩
        · have a3 : (n : Int) ≤ z := by omega
          have hbt : b = false := by
            cases hbb : b
            · rfl
            · have := (HB.out.1 hbb).2.2.1 i (by rw [HN.out]; omega); rw [HZ.out, HN.out] at this; omega
          subst hbt
          clear a2
          go_wp2
          go_ret
          exact ⟨rfl, rfl⟩
    | zero =>
      obtain rfl : i = n := by omega
      have hlt : ¬ ((i : Int) < i) := by omega
      have HP : Hid (Plc ws) := fun j hj => by rw [HN.out] at hj ⊢; exact HJ.out j hj
      clear HJ hig
      by_cases h1 : 0 ≤ who ∧ who < i
      · by_cases h2 : 0 ≤ whom ∧ whom < i
        · have a1 : ¬ (who < 0) := by omega
          have a2 : ¬ ((i : Int) ≤ who) := by omega
          have a3 : ¬ (whom < 0) := by omega
          have a4 : ¬ ((i : Int) ≤ whom) := by omega
          have H1 : Hid (0 ≤ who ∧ who < i) := h1
          have H2 : Hid (0 ≤ whom ∧ whom < i) := h2
          clear h1 h2
          go_wp2
          go_loopg [8, 9] (i + 1) (fun g s8 s9 wx => ∃ k : Nat, k + g = i + 1 ∧ s9 = .int .i64 k ∧ s8 = .int .i64 (ch ws whom k) ∧ w = wx ∧ Hid (∀ j, j < k → ch ws whom j ≠ who))
          case atStart => exact ⟨0, by omega, rfl, rfl, rfl, fun j hj => by omega⟩
          case round =>
            obtain ⟨k, hkg, rfl, rfl, rfl, HJ⟩ := hrel
            have HC : Hid (-1 ≤ ch ws whom k ∧ ch ws whom k < i) := by have := ch_pl HP.out (a := whom) (by have := H2.out; omega) (by have := H2.out; have := HN.out; omega) k; rwa [HN.out] at this
            cases gk with
            | zero =>
              obtain rfl : k = i + 1 := by omega
              have hbt : b = false := by
                cases hbb : b
                · rfl
                · obtain ⟨_, _, _, q, hq, e⟩ := HB.out.1 hbb
                  exact absurd e (HJ.out q (by have := HN.out; omega))
              subst hbt
              generalize ch ws whom (i + 1) = y at *
              have hle : ¬ ((((i + 1 : Nat)) : Int) ≤ i) := by omega
              go_wp2
              go_ret
              exact ⟨rfl, rfl⟩
            | succ g =>
              have hle : (k : Int) ≤ i := by omega
              by_cases hneg : ch ws whom k < 0
              · have hbt : b = false := by
                  cases hbb : b
                  · rfl
                  · obtain ⟨_, _, _, q, hq, e⟩ := HB.out.1 hbb
                    rcases Nat.lt_or_ge q k with h | h
                    · exact absurd e (HJ.out q h)
                    · have := ch_pos (ws := ws) (a := whom) h (by rw [e]; exact H1.out.1)
                      omega
                subst hbt
                generalize ch ws whom k = y at *
                go_wp2
                go_ret
                exact ⟨rfl, rfl⟩
              · obtain ⟨q, hq⟩ : ∃ q : Nat, ch ws whom k = (q : Int) := ⟨(ch ws whom k).toNat, by omega⟩
                have HQ : Hid (ch ws whom k = (q : Int)) := hq
                have HNX : Hid (ch ws whom (k + 1) = ws.getD q 0) := by show nx ws _ = _; rw [hq, nx_at]
                have hc := HC.out
                rw [hq] at hc
                rw [hq]
                have b1 : ¬ ((q : Int) < 0) := by omega
                have b2 : (q : Int) < i := hc.2
                have b3 : (0 : Int) ≤ q := by omega
                obtain ⟨b1, o1, rfl, C1⟩ := HS.out (by omega)
                have k1 := C1.out q (by omega)
                clear hq hneg C1 hc
                by_cases hqw : (q : Int) = who
                · have hbt : b = true := HB.out.2 ⟨by have := H1.out; rwa [HN.out], by have := H2.out; rwa [HN.out], HP.out, short HP.out H2.out.1 (by have := H2.out; have := HN.out; omega) H1.out.1 k (by rw [HQ.out]; exact hqw)⟩
                  subst hbt
                  subst hqw
                  clear HQ
                  go_wp2
                  go_ret
                  exact ⟨rfl, rfl⟩
                · have e1 : ((q : Int) == who) = false := by simpa using hqw
                  have HQW : Hid ((q : Int) ≠ who) := hqw
                  clear hqw
                  generalize ws.getD q 0 = y at *
                  go_wp2
                  go_roundg g
                  case measure => omega
                  case rel => exact ⟨k + 1, by omega, by go_num, by rw [HNX.out], rfl, fun j hj => by
                    rcases Nat.lt_or_ge j k with h | h
                    · exact HJ.out j h
                    · obtain rfl : j = k := by omega
                      rw [HQ.out]; exact HQW.out⟩
        · have hbt : b = false := by
            cases hbb : b
            · rfl
            · have := (HB.out.1 hbb).2.1; rw [HN.out] at this; exact absurd this h2
          subst hbt
          have a1 : ¬ (who < 0) := by omega
          have a2 : ¬ ((i : Int) ≤ who) := by omega
          by_cases a3 : whom < 0
          · clear h1 h2
            go_wp2
            go_ret
            exact ⟨rfl, rfl⟩
          · have a4 : (i : Int) ≤ whom := by omega
            clear h1 h2
            go_wp2
            go_ret
            exact ⟨rfl, rfl⟩
      · have hbt : b = false := by
          cases hbb : b
          · rfl
          · have := (HB.out.1 hbb).1; rw [HN.out] at this; exact absurd this h1
        subst hbt
        by_cases a1 : who < 0
        · clear h1
          go_wp2
          go_ret
          exact ⟨rfl, rfl⟩
        · have a2 : (i : Int) ≤ who := by omega
          clear h1
          go_wp2
          go_ret
          exact ⟨rfl, rfl⟩
end Go.Proofs.Ytcjjaofmicegfaa
