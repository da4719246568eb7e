/- The document's own Ranks. -/
import Derived.Test.YtcjjaofmicegfaaDoorTwin
namespace Go.Proofs.YtcjjaofmicegfaaDoor
open Go Go.RowKit
set_option maxRecDepth 100000
set_option linter.unusedVariables false
set_option linter.unusedSimpArgs false
set_option maxHeartbeats 16000000 in
theorem kranks_no {w : World} {sp sq : Option Addr} {bs ws : List Int} (hs : Src w sp bs) (ht : Src w sq ws) (hl : bs.length ≤ 1000000) (hm : ws.length ≤ 1000000) (hv : ¬ Val bs ws) (c d : Nat) :
    Calls Tryd.prog 7 #[.slice sp bs.length c, .slice sq ws.length d] w fun e w' => e = .returned (.tuple #[.slice none 0 0, .int .i64 1]) ∧ w = w' := by
  rw [val_iff] at hv
  by_cases h1 : bs.length = ws.length
  · by_cases h2 : bs.length ≤ 256
    · have a1 : ¬ ((256 : Int) < bs.length) := by omega
      have HEX : Hid (∃ i, i < bs.length ∧ ¬ ((0 ≤ bs.getD i 0 ∧ bs.getD i 0 ≤ 31) ∧ (-1 ≤ ws.getD i 0 ∧ ws.getD i 0 < bs.length) ∧ ws.getD i 0 ≠ (i : Int))) := by
        refine Classical.byContradiction fun hno => hv ⟨h1, h2, fun i hi => ?_, fun i hi => ?_, fun i hi => ?_⟩
        · exact Classical.byContradiction fun hn => hno ⟨i, hi, fun h => hn h.1⟩
        · exact fun e => hno ⟨i, by omega, fun h => h.2.2 e⟩
        · exact Classical.byContradiction fun hn => hno ⟨i, by omega, fun h => hn (by rw [← h1]; exact h.2.1)⟩
      have HS : Hid (Src w sp bs) := hs
      have HT : Hid (Src w sq ws) := ht
      rw [← h1]
      have HM : Hid (ws.length = bs.length) := h1.symm
      obtain ⟨n, hn⟩ : ∃ n, bs.length = n := ⟨_, rfl⟩
      have HN : Hid (bs.length = n) := hn
      rw [hn] at a1 h2 HEX HM ⊢
      clear hs ht hv h1 hl hm hn
      obtain ⟨q, hq⟩ := HEX.out
      have HQ : Hid (¬ ((0 ≤ bs.getD q 0 ∧ bs.getD q 0 ≤ 31) ∧ (-1 ≤ ws.getD q 0 ∧ ws.getD q 0 < n) ∧ ws.getD q 0 ≠ (q : Int))) := hq.2
      have hqn := hq.1
      clear hq HEX
      obtain ⟨b1, o1, rfl, C1⟩ := HS.out.get (by rw [HN.out]; omega)
      obtain ⟨b2, o2, rfl, C2⟩ := HT.out.get (by rw [HM.out]; omega)
      go_enter Tryd.func7, Tryd.ntmps7
      go_wp2
      go_loopg [6] n (fun g s6 wx => ∃ i : Nat, i + g = n ∧ i ≤ q ∧ s6 = .int .i64 i ∧ w = wx)
      case atStart => exact ⟨0, by omega, by omega, rfl, rfl⟩
      case round =>
        obtain ⟨i, hig, hiq, rfl, rfl⟩ := hrel
        have hlt : (i : Int) < n := by omega
        have k1 := C1.out i (by rw [HN.out]; omega)
        have k2 := C2.out i (by rw [HM.out]; omega)
        have HX : Hid (i = q → ¬ ((0 ≤ bs.getD i 0 ∧ bs.getD i 0 ≤ 31) ∧ (-1 ≤ ws.getD i 0 ∧ ws.getD i 0 < n) ∧ ws.getD i 0 ≠ (i : Int))) := fun e => by subst e; exact HQ.out
        generalize bs.getD i 0 = x at *
        generalize ws.getD i 0 = y at *
        by_cases e1 : x < 0
        · go_wp2
          go_ret2
          exact ⟨rfl, rfl⟩
        by_cases e2 : 31 < x
        · go_wp2
          go_ret2
          exact ⟨rfl, rfl⟩
        by_cases e3 : y < -1
        · go_wp2
          go_ret2
          exact ⟨rfl, rfl⟩
        by_cases e4 : (n : Int) ≤ y
        · go_wp2
          go_ret2
          exact ⟨rfl, rfl⟩
        by_cases e5 : y = (i : Int)
        · have e6 : (y == (i : Int)) = true := by simpa using e5
          clear e5
          go_wp2
          go_ret2
          exact ⟨rfl, rfl⟩
        · have e6 : (y == (i : Int)) = false := by simpa using e5
          have hne : i ≠ q := fun e => HX.out e ⟨⟨by omega, by omega⟩, ⟨by omega, by omega⟩, e5⟩
          clear e5
          go_wp2
          go_roundg (n - (i + 1))
          case measure => omega
          case rel => exact ⟨i + 1, by omega, by omega, by go_num, rfl⟩
    · have a1 : (256 : Int) < bs.length := by omega
      clear hs ht hv h2
      rw [← h1]
      clear h1 hm
      generalize bs.length = n at *
      go_enter Tryd.func7, Tryd.ntmps7
      go_wp2
      go_ret2
      exact ⟨rfl, rfl⟩
  · have a1 : ((bs.length : Int) != (ws.length : Int)) = true := by simpa using fun h => h1 (by omega)
    clear hs ht hv h1
    generalize bs.length = n at *
    generalize ws.length = m at *
    go_enter Tryd.func7, Tryd.ntmps7
    go_wp2
    go_ret2
    exact ⟨rfl, rfl⟩
set_option maxHeartbeats 16000000 in
theorem kranks_yes {w : World} {sp sq : Option Addr} {bs ws : List Int} (hs : Src w sp bs) (ht : Src w sq ws) (hv : Val bs ws) (h0 : 0 < bs.length) (c d : Nat) :
    Calls Tryd.prog 7 #[.slice sp bs.length c, .slice sq ws.length d] w fun e w' => ∃ v l, e = .returned (.tuple #[v, .int .i64 0]) ∧ Lst bs ws l ∧ w'.ownsRow w.heap.size 3 1 v bs.length (l.map (Value.int .i64)) ∧ Below w.heap.size w w' := by
  obtain ⟨i0, hi, hz0, hz1, hz2⟩ := info_parts' infoW
  have HV : Hid (Val bs ws) := hv
  have hfew := hv.few
  have HS : Hid (Src w sp bs) := hs
  have HT : Hid (Src w sq ws) := ht
  have HM : Hid (ws.length = bs.length) := hv.len.symm
  rw [← hv.len]
  obtain ⟨b1, o1, rfl, C1⟩ := hs.get h0
  obtain ⟨b2, o2, rfl, C2⟩ := ht.get (by rw [← hv.len]; exact h0)
  clear hs ht hv
  obtain ⟨n, hn⟩ : ∃ n, bs.length = n := ⟨_, rfl⟩
  have HN : Hid (bs.length = n) := hn
  rw [hn] at HM hfew h0 ⊢
  clear hn
  obtain ⟨B, hB0⟩ : ∃ B, w.heap.size = B := ⟨_, rfl⟩
  have HB0 : Hid (w.heap.size = B) := hB0
  rw [hB0]
  clear hB0
  have a1 : ¬ ((256 : Int) < n) := by omega
  go_enter Tryd.func7, Tryd.ntmps7
  go_wp2
  go_loopg [6] n (fun g s6 wx => ∃ i : Nat, i + g = n ∧ s6 = .int .i64 i ∧ w = wx)
  case atStart => exact ⟨0, by omega, rfl, rfl⟩
  case round =>
    obtain ⟨i, hig, rfl, rfl⟩ := hrel
    cases gk with
    | succ g =>
      have hlt : (i : Int) < n := by omega
      have k1 := C1.out i (by rw [HN.out]; omega)
      have k2 := C2.out i (by rw [HM.out]; omega)
      have e1 := HV.out.rank i (by rw [HN.out]; omega)
      have e2 := HV.out.plc i (by rw [HM.out]; omega)
      have e3 := HV.out.oth i (by rw [HM.out]; omega)
      rw [HM.out] at e2
      generalize bs.getD i 0 = x at *
      generalize ws.getD i 0 = y at *
      have f1 : ¬ (x < 0) := by omega
      have f2 : ¬ (31 < x) := by omega
      have f3 : ¬ (y < -1) := by omega
      have f4 : ¬ ((n : Int) ≤ y) := by omega
      have f5 : (y == (i : Int)) = false := by simpa using e3
      clear e1 e2 e3
      go_wp2
      go_roundg g
      case measure => omega
      case rel => exact ⟨i + 1, by omega, by go_num, rfl⟩
    | zero =>
      obtain rfl : i = n := by omega
      have hlt : ¬ ((i : Int) < i) := by omega
      clear C1
      go_upto_block 2 with (at_builtin; refine wpList_append_own _ rfl _ _ 22 rfl w.heap.size 3 i0 (.int .i64 0) 1 8 Tryd.underlying22 hi hz0 hz1 hz2 rfl (by decide) _ _ _ rfl (World.ownsRow_nil w _ _ _) ⟨b1, o1, none⟩ i c (bs.map (Value.int .i64)) rfl (by simp [HN.out]) (HS.out.news (Below.refl _ _)) (num_one bs) (by simp only [maxLen]; omega) (by omega) (Nat.le_refl _) ?_; intro v' w2 hown' hgrow _; obtain ⟨g1, c1, rfl, _⟩ := owns_spot hown' (by omega); have HG : Hid (w.grownBy w2 none) := hgrow; have HO3 : Hid (w2.ownsRow w.heap.size 3 1 (.slice (some ⟨g1, 0, none⟩) (0 + i) c1) (0 + i) ([] ++ bs.map (Value.int .i64))) := hown'; clear hown' hgrow)
      have HO1 : Hid (w2.ownsRow B 3 1 (.slice (some ⟨g1, 0, none⟩) i c1) i (bs.map (Value.int .i64))) := by have := HO3.out; rw [Nat.zero_add, List.nil_append, HB0.out] at this; exact this
      have HB1 : Hid (Below B w w2) := by have := (Buts.grown HG.out).below (B := w.heap.size) (fun x hx => by simp at hx) (Nat.le_refl _); rwa [HB0.out] at this
      clear HO3 HG
      go_wp2
      go_loopg [8] (slack bs + 1) (fun gk s8 wx => ∃ (l : List Int) (t : Bool), s8 = .bool t ∧ gk = (if t = true then slack l + 1 else 0) ∧ Hid (Mid bs ws l) ∧ Hid (t = false → Shut ws l) ∧ Hid (wx.ownsRow B 3 1 (.slice (some ⟨g1, 0, none⟩) i c1) i (l.map (Value.int .i64))) ∧ Hid (Below B w wx))
      case atStart => exact ⟨bs, true, rfl, rfl, Mid.start bs ws, fun h => (by cases h), HO1, HB1⟩
      case round =>
        clear HO1 HB1
        obtain ⟨l, t, rfl, hg, HMD, HSH, HO, HW⟩ := hrel
        cases t with
        | false =>
          have HSH2 : Hid (Shut ws l) := HSH.out rfl
          clear HSH
          go_wp2
          go_ret2
          exact ⟨_, l, rfl, ⟨HMD.out, HSH2.out⟩, HO.out, HW.out⟩
        | true =>
          clear HSH
          rw [if_pos rfl] at hg
          go_wp2
          go_loopg [8, 9] i (fun g2 s8 s9 wx => ∃ (k : Nat) (l' : List Int) (t : Bool), k + g2 = i ∧ s9 = .int .i64 k ∧ s8 = .bool t ∧ Hid (Mid bs ws l') ∧ Hid (t = true → slack l' < slack l) ∧ Hid (t = false → l' = l ∧ ∀ j : Nat, j < k → 0 ≤ ws.getD j 0 → l.getD j 0 ≤ l.getD (ws.getD j 0).toNat 0) ∧ Hid (wx.ownsRow B 3 1 (.slice (some ⟨g1, 0, none⟩) i c1) i (l'.map (Value.int .i64))) ∧ Hid (Below B w wx))
          case atStart => exact ⟨0, l, false, by omega, rfl, rfl, HMD, fun h => (by cases h), fun _ => ⟨rfl, fun j hj => by omega⟩, HO, HW⟩
          case round =>
            clear HO HW HMD
            obtain ⟨k, l', t, hkg, rfl, rfl, HMD, HTT, HTF, HO, HW⟩ := hrel
            rename_i gq
            cases gk with
            | zero =>
              obtain rfl : k = i := by omega
              have hltk : ¬ ((k : Int) < k) := by omega
              cases t with
              | true =>
                have HTT2 : Hid (slack l' < slack l) := HTT.out rfl
                clear HTT HTF
                go_wp2
                go_roundg (slack l' + 1)
                case measure => have := HTT2.out; omega
                case rel => exact ⟨l', true, rfl, rfl, HMD, fun h => (by cases h), HO, HW⟩
              | false =>
                have HTF2 : Hid (Shut ws l') := by
                  obtain ⟨e, h⟩ := HTF.out rfl
                  show Shut ws l'
                  rw [e]
                  exact fun j hj h0 => h j (by have := HM.out; omega) h0
                clear HTT HTF
                go_wp2
                go_roundg 0
                case measure => omega
                case rel => exact ⟨l', false, rfl, rfl, HMD, fun _ => HTF2.out, HO, HW⟩
            | succ g2 =>
              have hltk : (k : Int) < i := by omega
              have hbw : Below w.heap.size w wr := by have := HW.out; rwa [HB0.out]
              have k1 := (hbw.cell (p := ⟨b2, o2 + k, none⟩) (cell_lt (C2.out k (by rw [HM.out]; omega)))).trans (C2.out k (by rw [HM.out]; omega))
              have hll : l'.length = i := by rw [HMD.out.len, HN.out]
              have k2 : wr.cell? ⟨g1, k, none⟩ = some (.int .i64 (l'.getD k 0)) := by rw [HO.out.cellAt k (by omega)]; simp [hll, show k < i by omega]
              have hpl := HV.out.plc k (by rw [HM.out]; omega)
              rw [HM.out] at hpl
              obtain ⟨z, hz⟩ : ∃ z, ws.getD k 0 = z := ⟨_, rfl⟩
              rw [hz] at k1 hpl
              have HZ : Hid (ws.getD k 0 = z) := hz
              have hsz := hbw.size
              clear hz hbw
              rcases Int.lt_or_le z 0 with hz0 | hz0
              · have d1 : decide ((0 : Int) ≤ z) = false := decide_eq_false (by omega)
                have HZN : Hid (z < 0) := hz0
                clear hz0 hpl hll
                go_wp2
                go_quiet ((fail))
                go_wp2
                go_roundg g2
                case measure => omega
                case rel => exact ⟨k + 1, l', t, by omega, by go_num, rfl, HMD, HTT, fun h => ⟨(HTF.out h).1, fun j hj h0 => by
                  rcases Nat.lt_or_ge j k with h' | h'
                  · exact (HTF.out h).2 j h' h0
                  · obtain rfl : j = k := by omega
                    rw [HZ.out] at h0; have := HZN.out; omega⟩, owns_below HO.out (below_drewN _ _), HW.out.trans ((below_drewN _ _).mono (by have := HB0.out; omega))⟩
              · obtain ⟨j, hj⟩ : ∃ j : Nat, z = (j : Int) := ⟨z.toNat, by omega⟩
                subst hj
                have hji : (j : Int) < i := hpl.2
                have hj0 : ¬ ((j : Int) < 0) := by omega
                have d1 : decide ((0 : Int) ≤ (j : Int)) = true := decide_eq_true (by omega)
                have k3 : wr.cell? ⟨g1, j, none⟩ = some (.int .i64 (l'.getD j 0)) := by rw [HO.out.cellAt j (by omega)]; simp [hll, show j < i by omega]
                by_cases hlt2 : l'.getD j 0 < l'.getD k 0
                · have HL2 : Hid (l'.getD j 0 < l'.getD k 0) := hlt2
                  have f1 : wr.frozen? ⟨g1, j, none⟩ = false := owns_free HO.out j
                  obtain ⟨x, hx⟩ : ∃ x, l'.getD k 0 = x := ⟨_, rfl⟩
                  obtain ⟨y, hy⟩ : ∃ y, l'.getD j 0 = y := ⟨_, rfl⟩
                  rw [hx] at hlt2 k2
                  rw [hy] at hlt2 k3
                  have HX : Hid (l'.getD k 0 = x) := hx
                  have hdl : decide (y < x) = true := decide_eq_true hlt2
                  have HX31 : Hid (x ≤ 31) := by have := HMD.out.in HV.out (i := k) (by rw [HN.out]; omega); rw [HX.out] at this; exact this.2
                  have HSL : Hid (slack (l'.set j x) < slack l') := slack_set l' j x (by rw [HMD.out.len, HN.out]; omega) (by have := HL2.out; rwa [HX.out] at this) HX31.out
                  have HMS : Hid (Mid bs ws (l'.set j x)) := by have := HMD.out.raise (i := k) (j := j) (by rw [HN.out]; omega) HZ.out HL2.out; rw [HX.out] at this; exact this
                  have HLE : Hid (slack l' ≤ slack l) := by
                    cases t with
                    | true => exact Nat.le_of_lt (HTT.out rfl)
                    | false => show _ ≤ _; rw [(HTF.out rfl).1]; exact Nat.le_refl _
                  clear hx hy hll hpl hz0
                  go_wp2
                  go_quiet ((fail))
                  go_wp2
                  go_region
                  all_goals
                    go_wp2
                    go_roundg g2
                    case measure => omega
                    case rel =>
                      refine ⟨k + 1, l'.set j x, true, by omega, by go_num, rfl, HMS, fun _ => Nat.lt_of_lt_of_le HSL.out HLE.out, fun h => (by cases h), ?_, ?_⟩
                      · have := ((owns_below HO.out (below_drewN wr (nq + 1))).stored j (.int .i64 x)).1
                        rw [num_set] at this
                        exact this
                      · exact (HW.out.trans ((below_drewN wr (nq + 1)).mono (by have := HB0.out; omega))).setCell (p := ⟨g1, j, none⟩) (HO.out.lt g1 rfl).1 _
                · have HL2 : Hid (¬ l'.getD j 0 < l'.getD k 0) := hlt2
                  obtain ⟨x, hx⟩ : ∃ x, l'.getD k 0 = x := ⟨_, rfl⟩
                  obtain ⟨y, hy⟩ : ∃ y, l'.getD j 0 = y := ⟨_, rfl⟩
                  rw [hx] at hlt2 k2
                  rw [hy] at hlt2 k3
                  have hdl : decide (y < x) = false := decide_eq_false hlt2
                  clear hx hy hll hpl hz0
                  go_wp2
                  go_quiet ((fail))
                  go_wp2
                  go_roundg g2
                  case measure => omega
                  case rel => exact ⟨k + 1, l', t, by omega, by go_num, rfl, HMD, HTT, fun h => ⟨(HTF.out h).1, fun j' hj' h0 => by
                    rcases Nat.lt_or_ge j' k with h' | h'
                    · exact (HTF.out h).2 j' h' h0
                    · obtain rfl : j' = k := by omega
                      have h2 := HL2.out
                      rw [(HTF.out h).1] at h2
                      rw [HZ.out]
                      have e : ((j : Int)).toNat = j := rfl
                      rw [e]; omega⟩, owns_below HO.out (below_drewN _ _), HW.out.trans ((below_drewN _ _).mono (by have := HB0.out; omega))⟩
theorem lst_nil : Lst [] [] [] := ⟨⟨rfl, fun i hi => absurd hi (by simp), fun i hi => absurd hi (by simp)⟩, fun i hi => absurd hi (by simp)⟩
set_option maxHeartbeats 4000000 in
theorem kranks_zero {w : World} {sp sq : Option Addr} (c d : Nat) :
    Calls Tryd.prog 7 #[.slice sp 0 c, .slice sq 0 d] w fun e w' => e = .returned (.tuple #[.slice none 0 0, .int .i64 0]) ∧ Below w.heap.size w w' := by
  go_enter Tryd.func7, Tryd.ntmps7
  go_wp2
  refine wp_loop_rounds 1 ?_
  rw [rounds_succ]
  rcases sp with _ | ad
  · go_wp2
    refine wp_loop_rounds 2 ?_
    rw [rounds_succ]
    go_wp2
    refine wp_loop_rounds 1 ?_
    rw [rounds_succ]
    go_wp2
    rw [rounds_succ]
    go_wp2
    go_ret2
    exact ⟨rfl, Below.refl _ _⟩
  · go_wp2
    refine wp_loop_rounds 2 ?_
    rw [rounds_succ]
    go_wp2
    refine wp_loop_rounds 1 ?_
    rw [rounds_succ]
    go_wp2
    rw [rounds_succ]
    go_wp2
    go_ret2
    exact ⟨rfl, Below.refl _ _⟩
/-- the document's ranks -/
theorem kranks_lst {w : World} {sp sq : Option Addr} {bs ws : List Int} (hs : Src w sp bs) (ht : Src w sq ws) (hv : Val bs ws) {n m c d : Nat} (hn : bs.length = n) (hm : ws.length = m) :
    Calls Tryd.prog 7 #[.slice sp n c, .slice sq m d] w fun e w' => ∃ l s1 c1, e = .returned (.tuple #[.slice s1 n c1, .int .i64 0]) ∧ Lst bs ws l ∧ Ls w.heap.size w' s1 n c1 l ∧ Below w.heap.size w w' := by
  subst hn hm
  by_cases h0 : 0 < bs.length
  · refine (kranks_yes hs ht hv h0 c d).mono ?_
    rintro e w' ⟨v, l, rfl, hl, ho, hb⟩
    have hlen := hl.mid.len
    rw [← hlen] at ho
    obtain ⟨s1, c1, rfl, _⟩ := Src.own ho
    rw [hlen] at ho ⊢
    exact ⟨l, s1, c1, rfl, hl, ⟨hlen, ho⟩, hb⟩
  · have e1 : bs = [] := List.eq_nil_of_length_eq_zero (by omega)
    have e2 : ws = [] := List.eq_nil_of_length_eq_zero (by have := hv.len; omega)
    subst e1 e2
    refine (kranks_zero c d).mono ?_
    rintro e w' ⟨rfl, hb⟩
    exact ⟨[], none, 0, rfl, lst_nil, ⟨rfl, World.ownsRow_nil _ _ _ _⟩, hb⟩
theorem kranks_at {w : World} {sp sq : Option Addr} {bs ws l : List Int} (hs : Src w sp bs) (ht : Src w sq ws) (hv : Val bs ws) (hl : Lst bs ws l) {n m c d : Nat} (hn : bs.length = n) (hm : ws.length = m) :
    Calls Tryd.prog 7 #[.slice sp n c, .slice sq m d] w fun e w' => ∃ s1 c1, e = .returned (.tuple #[.slice s1 n c1, .int .i64 0]) ∧ Ls w.heap.size w' s1 n c1 l ∧ Below w.heap.size w w' := by
  refine (kranks_lst hs ht hv hn hm).mono ?_
  rintro e w' ⟨l', s1, c1, rfl, hl', h1, h2⟩
  rw [hl'.same hv hl] at h1
  exact ⟨s1, c1, rfl, h1, h2⟩
end Go.Proofs.YtcjjaofmicegfaaDoor
