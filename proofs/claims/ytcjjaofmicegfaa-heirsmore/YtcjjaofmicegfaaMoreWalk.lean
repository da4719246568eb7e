/- HeirsMore: with one more who waits no rank is less; only those that are waited for have more. -/
import Derived.Test.YtcjjaofmicegfaaArgs
namespace Go.Proofs.Ytcjjaofmicegfaa
open Go Go.RowKit
set_option maxRecDepth 100000
set_option linter.unusedVariables false
set_option linter.unusedSimpArgs false
theorem Ls.stored {B : Nat} {w : World} {g n cap : Nat} {zs : List Int} (h : Ls B w (some ⟨g, 0, none⟩) n cap zs) (i : Nat) (v : Int) : Ls B (w.setCell ⟨g, i, none⟩ (.int .i64 v)) (some ⟨g, 0, none⟩) n cap (zs.set i v) := by
  obtain ⟨h1, h2⟩ := h
  have := (h2.stored i (.int .i64 v)).1
  rw [num_set] at this
  exact ⟨by rw [List.length_set]; exact h1, this⟩
set_option maxHeartbeats 16000000 in
theorem more_law {w : World} {sp sq : Option Addr} {bs ws : List Int} (hs : Src w sp bs) (ht : Src w sq ws) (hl : bs.length ≤ maxLen) (hm : ws.length ≤ maxLen) (c d : Nat) (who whom : Int) (hw1 : 0 ≤ who ∧ who ≤ 255) (hw2 : 0 ≤ whom ∧ whom ≤ 255) :
    Calls Try.prog 5 #[.agg #[.slice sp bs.length c, .slice sq ws.length d, .int .u8 who, .int .u8 whom]] w fun e w' => e = .returned (.bool true) ∧ Below w.heap.size w w' := by
  unfold maxLen at hl hm
  obtain ⟨B, hB0⟩ : ∃ B, w.heap.size = B := ⟨_, rfl⟩
  have HB0 : Hid (w.heap.size = B) := hB0
  obtain ⟨a, rfl⟩ : ∃ a : Nat, who = (a : Int) := ⟨who.toNat, by omega⟩
  obtain ⟨b, rfl⟩ : ∃ b : Nat, whom = (b : Int) := ⟨whom.toNat, by omega⟩
  obtain ⟨w0, hw0⟩ : ∃ w0, w.alloc (.cells #[.slice sp bs.length c, .slice sq ws.length d, .int .u8 (a : Int), .int .u8 (b : Int)] 31) = w0 := ⟨_, rfl⟩
  have hb0 : Below B w w0 := by rw [← hw0, ← hB0]; exact alloc_below _ _
  have hz0 : w0.heap.size = B + 1 := by rw [← hw0, ← hB0]; exact alloc_size _ _
  have M : Far B w w0 := ⟨hb0, by omega⟩
  have hat : w0.heap[B]? = some (.cells #[.slice sp bs.length c, .slice sq ws.length d, .int .u8 (a : Int), .int .u8 (b : Int)] 31 (0, 0)) := by rw [← hw0, ← hB0]; exact alloc_at _ _
  have x0 := cell_of (i := 0) hat
  have x1 := cell_of (i := 1) hat
  have x2 := cell_of (i := 2) hat
  have x3 := cell_of (i := 3) hat
  simp only [List.getElem?_toArray, List.getElem?_cons_zero, List.getElem?_cons_succ] at x0 x1 x2 x3
  have hs0 := hs.below (w' := w0) (by rwa [hB0])
  have ht0 := ht.below (w' := w0) (by rwa [hB0])
  by_cases hv : Val bs ws
  · have HR := ranks_lst (c := c) (d := d) hs0 ht0 hv rfl hv.len.symm
    have hfew := hv.few
    have HV : Hid (Val bs ws) := hv
    have HS : Hid (Src w0 sp bs) := hs0
    have HT : Hid (Src w0 sq ws) := ht0
    have HM : Hid (ws.length = bs.length) := hv.len.symm
    rw [← hv.len] at hw0 x1 ⊢
    rw [hB0]
    clear hv hs ht hs0 ht0 hm hl hat hb0
    obtain ⟨n, hn⟩ : ∃ n, bs.length = n := ⟨_, rfl⟩
    have HN : Hid (bs.length = n) := hn
    rw [hn] at HR hfew HM hw0 x0 x1 ⊢
    clear hn
    by_cases hn2 : n < 2
    · have a1 : (n : Int) < 2 := by omega
      go_enter Try.func5, Try.ntmps5
      go_wp2_with (first
        | (go_at_call 11; refine HR.mono ?_; rintro e w1 ⟨l, s1, c1, rfl, hl, l1, m1⟩; replace M := M.low m1; clear hl l1 m1 hw0 hB0)
        | (go_at_call 6; refine (lives_any _).mono ?_; rintro e w4 ⟨rfl, m4⟩; replace M := M.low m4; clear m4))
      go_ret
      exact ⟨rfl, M.low'⟩
    · have a1 : ¬ ((n : Int) < 2) := by omega
      have a2 : ((n : Int) == 0) = false := by simp; omega
      have a3 : (n == 0) = false := by simp; omega
      obtain ⟨i, hi⟩ : ∃ i, a % n = i := ⟨_, rfl⟩
      obtain ⟨k, hk⟩ : ∃ k, b % n = k := ⟨_, rfl⟩
      have t1 : Int.tmod (a : Int) (n : Int) = (i : Int) := by rw [← hi]; exact (Int.ofNat_tmod a n).symm
      have t2 : Int.tmod (b : Int) (n : Int) = (k : Int) := by rw [← hk]; exact (Int.ofNat_tmod b n).symm
      have hin : i < n := by rw [← hi]; exact Nat.mod_lt _ (by omega)
      have hkn : k < n := by rw [← hk]; exact Nat.mod_lt _ (by omega)
      clear hi hk
      by_cases hik : i = k
      · subst hik
        go_enter Try.func5, Try.ntmps5
        go_wp2_with (first
          | (go_at_call 11; refine HR.mono ?_; rintro e w1 ⟨l, s1, c1, rfl, hl, l1, m1⟩; have hx := l1.1; replace M := M.low m1; clear hl m1 hw0 hx l1 hB0)
          | (go_at_call 6; refine (lives_any _).mono ?_; rintro e w4 ⟨rfl, m4⟩; replace M := M.low m4; clear m4))
        go_ret
        exact ⟨rfl, M.low'⟩
      · have e1 : ((i : Int) == (k : Int)) = false := by simpa using fun h => hik (by omega)
        obtain ⟨b2, o2, rfl, C2⟩ := HT.out.get (by rw [HM.out]; omega)
        have hb2 : b2 < w0.heap.size := cell_lt (C2.out i (by rw [HM.out]; omega))
        have HC2 : Hid (w0.cell? ⟨b2, o2 + i, none⟩ = some (.int .i64 (ws.getD i 0))) := C2.out i (by rw [HM.out]; omega)
        obtain ⟨z, hz⟩ : ∃ z, ws.getD i 0 = z := ⟨_, rfl⟩
        rw [hz] at HC2
        have HZ : Hid (ws.getD i 0 = z) := hz
        have hin' : (i : Int) < n := by omega
        have hkn' : (k : Int) < n := by omega
        have HIK : Hid (i ≠ k) := hik
        clear C2 hz hik
        by_cases hz0 : 0 ≤ z
        · go_enter Try.func5, Try.ntmps5
          go_wp2_with (first
            | (go_at_call 11; refine HR.mono ?_; rintro e w1 ⟨l, s1, c1, rfl, hl, l1, m1⟩; have y1 := (m1.cell (p := ⟨b2, o2 + i, none⟩) hb2).trans HC2.out; replace M := M.low m1; clear hl m1 hw0 l1 hB0)
            | (go_at_call 6; refine (lives_any _).mono ?_; rintro e w4 ⟨rfl, m4⟩; replace M := M.low m4; clear m4))
          go_ret
          exact ⟨rfl, M.low'⟩
        · obtain ⟨i0, hi0, hq0, hq1, hq2⟩ := info_parts' infoW
          have HZ0 : Hid (z < 0) := by show z < 0; omega
          have hzz : ¬ ((0 : Int) ≤ z) := hz0
          clear hz0
          have HVM : Hid (Val bs (ws.set i (k : Int))) := HV.out.more (by rw [HM.out]; exact hin) (by rw [HM.out]; exact hkn) HIK.out
          go_enter Try.func5, Try.ntmps5
          go_upto_region 12 with (go_at_call 11; refine HR.mono ?_; rintro e w1 ⟨l, s1, c1, rfl, hl, l1, m1⟩; have y1 := (m1.cell (p := ⟨b2, o2 + i, none⟩) hb2).trans HC2.out; have HT1 : Hid (Src w1 (some ⟨b2, o2, none⟩) ws) := HT.out.below m1; have HL : Hid (Lst bs ws l) := hl; have L1 : Hid (Ls B w1 s1 n c1 l) := l1.base M.le; have M1 : Hid (Below w0.heap.size w0 w1) := m1; replace M := M.low m1; clear hl l1 m1 hw0 hB0 x0 x1 x2 x3)
          go_upto_region 13 with (at_builtin; refine wpList_append_own _ rfl _ _ 22 rfl w1.heap.size 3 i0 (.int .i64 0) 1 8 Try.underlying22 hi0 hq0 hq1 hq2 rfl (by decide) _ _ _ rfl (World.ownsRow_nil w1 _ _ _) ⟨b2, o2, none⟩ n d (ws.map (Value.int .i64)) rfl (by simp [HM.out]) (HT1.out.news (Below.refl _ _)) (num_one ws) (by simp only [maxLen]; omega) (by omega) (Nat.le_refl _) ?_; intro v' w2 hown' hgrow _; obtain ⟨g, c2, rfl, _⟩ := owns_spot hown' (by omega); have HG : Hid (w1.grownBy w2 none) := hgrow; have HO3 : Hid (w2.ownsRow w1.heap.size 3 1 (.slice (some ⟨g, 0, none⟩) (0 + n) c2) (0 + n) ([] ++ ws.map (Value.int .i64))) := hown'; clear hown' hgrow)
          have HO4 : Hid (w2.ownsRow w1.heap.size 3 1 (.slice (some ⟨g, 0, none⟩) n c2) n (ws.map (Value.int .i64))) := by have := HO3.out; rwa [Nat.zero_add, List.nil_append] at this
          have hf := owns_free HO4.out i
          have hcg : w2.cell? ⟨g, i, none⟩ = some (.int .i64 z) := by rw [HO4.out.cellAt i (by omega), ← HZ.out]; simp [HM.out, hin]
          go_upto_region 14 with fail
          have hgl := HO4.out.lt g rfl
          have LM : Hid (Ls B (w2.setCell ⟨g, i, none⟩ (.int .i64 (k : Int))) (some ⟨g, 0, none⟩) n c2 (ws.set i (k : Int))) := (Ls.stored ⟨HM.out, HO4.out⟩ i (k : Int)).base M.le
          have hb4 : Below w1.heap.size w1 (w2.setCell ⟨g, i, none⟩ (.int .i64 (k : Int))) := ((Buts.grown HG.out).below (B := w1.heap.size) (fun x hx => by simp at hx) (Nat.le_refl _)).setCell (p := ⟨g, i, none⟩) hgl.1 _
          have L1c : Hid (Ls B (w2.setCell ⟨g, i, none⟩ (.int .i64 (k : Int))) s1 n c1 l) := L1.out.below hb4
          have M0 : Hid (Below w0.heap.size w0 (w2.setCell ⟨g, i, none⟩ (.int .i64 (k : Int)))) := M1.out.trans (hb4.mono M1.out.size)
          replace M := M.low hb4
          clear L1 M1 hb4 hgl hf hcg HG HO3 HO4 HT1 y1
          generalize w2.setCell ⟨g, i, none⟩ (.int .i64 (k : Int)) = w4 at *
          go_wp2_with (first
            | (go_at_call 11; refine (ranks_lst (c := c) (d := c2) (HS.out.below M0.out) LM.out.src HVM.out HN.out LM.out.1).mono ?_; rintro e w5 ⟨l3, s3, c3, rfl, hl3, l3', m3⟩; have HL3 : Hid (Lst bs (ws.set i (k : Int)) l3) := hl3; have L3 : Hid (Ls B w5 s3 n c3 l3) := l3'.base M.le; have L1b : Hid (Ls B w5 s1 n c1 l) := L1c.out.below m3; have LMb : Hid (Ls B w5 (some ⟨g, 0, none⟩) n c2 (ws.set i (k : Int))) := LM.out.below m3; replace M := M.low m3; clear hl3 l3' m3 L1c LM M0))
          go_loopg [14] n (fun gg s14 wx => ∃ p : Nat, p + gg = n ∧ s14 = .int .i64 p ∧ Hid (Ls B wx s1 n c1 l) ∧ Hid (Ls B wx s3 n c3 l3) ∧ Hid (Ls B wx (some ⟨g, 0, none⟩) n c2 (ws.set i (k : Int))) ∧ Far B w wx)
          case atStart => exact ⟨0, by omega, rfl, L1b, L3, LMb, M⟩
          case round =>
            clear L1b L3 LMb M HR
            obtain ⟨p, hpg, rfl, L1, L3, LM, M⟩ := hrel
            cases gk with
            | zero =>
              have hlt : ¬ ((p : Int) < n) := by omega
              go_wp2_with (first | (go_at_call 6; refine (lives_any _).mono ?_; rintro e w6 ⟨rfl, m6⟩; replace M := M.low m6; clear m6))
              go_ret
              exact ⟨rfl, M.low'⟩
            | succ g' =>
              have hlt : (p : Int) < n := by omega
              obtain ⟨ga, rfl⟩ := L1.out.spot (by omega)
              obtain ⟨gb, rfl⟩ := L3.out.spot (by omega)
              have k1 := L1.out.cell (i := p) (by omega)
              have k2 := L3.out.cell (i := p) (by omega)
              have hle := more_le HV.out (i := i) (k := k) (by rw [HM.out]; exact hin) (by rw [HM.out]; exact hkn) HIK.out (by rw [HZ.out]; exact HZ0.out) HL.out HL3.out (n := p) (by rw [HN.out]; omega)
              have HWH : Hid (l.getD p 0 < l3.getD p 0 → Circ (ws.set i (k : Int)) p i) := fun h => more_who HV.out (by rw [HM.out]; exact hin) (by rw [HM.out]; exact hkn) HIK.out HL.out HL3.out (by rw [HN.out]; omega) h
              generalize l.getD p 0 = x at *
              generalize l3.getD p 0 = y at *
              have d1 : decide (y < x) = false := decide_eq_false (by omega)
              by_cases hxy : x < y
              · have d2 : decide (x < y) = true := decide_eq_true hxy
                have HC := circle_at (w := wr.drewN 1) (c := c2) (m := n) (b := true) (who := (p : Int)) (whom := (i : Int)) (LM.out.below (below_drewN wr 1)).src LM.out.1 (by omega) (by simp; exact HWH.out hxy)
                clear hxy hle
                go_wp2
                go_region_held3 (fun w' => w'.cell? ⟨ga, p, none⟩ = some (.int .i64 x) ∧ w'.cell? ⟨gb, p, none⟩ = some (.int .i64 y)) (go_keep) (first
                  | (go_at_call 8; refine HC.mono ?_; rintro e w7 ⟨rfl, m7⟩; have m8 : Below wr.heap.size wr w7 := (below_drewN wr 1).trans m7; have L1d : Hid (Ls B w7 (some ⟨ga, 0, none⟩) n c1 l) := L1.out.below m8; have L3d : Hid (Ls B w7 (some ⟨gb, 0, none⟩) n c3 l3) := L3.out.below m8; have LMd : Hid (Ls B w7 (some ⟨g, 0, none⟩) n c2 (ws.set i (k : Int))) := LM.out.below m8; have M7 : Far B w w7 := M.low m8; have kk1 : w7.cell? ⟨ga, p, none⟩ = some (.int .i64 x) := (m8.cell (p := ⟨ga, p, none⟩) (cell_lt k1)).trans k1; have kk2 : w7.cell? ⟨gb, p, none⟩ = some (.int .i64 y) := (m8.cell (p := ⟨gb, p, none⟩) (cell_lt k2)).trans k2; clear m7 m8 HC))
                all_goals
                  go_wp2
                  go_roundg g'
                  case measure => omega
                  case rel => exact ⟨p + 1, by omega, by go_num, L1d, L3d, LMd, M7⟩
              · have d2 : decide (x < y) = false := decide_eq_false hxy
                clear hxy hle
                go_wp2
                go_quiet ((fail))
                go_wp2
                go_roundg g'
                case measure => omega
                case rel => exact ⟨p + 1, by omega, by go_num, L1.out.below (below_drewN _ _), L3.out.below (below_drewN _ _), LM.out.below (below_drewN _ _), M.low (below_drewN _ _)⟩
  · have HR := ranks_no hs0 ht0 hl hm hv c d
    rw [hB0]
    clear hv hs ht hs0 ht0 hat hb0
    generalize bs.length = n at *
    generalize ws.length = m at *
    go_enter Try.func5, Try.ntmps5
    go_wp2_with (first
      | (go_at_call 11; refine HR.mono ?_; rintro e w1 ⟨rfl, rfl⟩; clear hw0 hB0)
      | (go_at_call 6; refine (lives_any _).mono ?_; rintro e w4 ⟨rfl, m4⟩; replace M := M.low m4; clear m4))
    go_ret
    exact ⟨rfl, M.low'⟩
end Go.Proofs.Ytcjjaofmicegfaa
