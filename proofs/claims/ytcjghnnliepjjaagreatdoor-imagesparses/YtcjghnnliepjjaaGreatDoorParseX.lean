/- The image of lines, by the program's own function: Parse. -/
import Derived.Test.YtcjghnnliepjjaaGreatDoorParsePure
namespace Go.Proofs.YtcjghnnliepjjaaGreatDoor
open Go Go.RowKit
set_option maxRecDepth 100000
set_option linter.unusedVariables false
theorem src_own {w : World} {B n s : Nat} {t : TypeId} {sp : Option Addr} {c : Nat} {zs : List Int} (h : w.ownsRow B t s (.slice sp n c) n (byt zs)) : Src w sp zs := by
  obtain ⟨sp', c', e, hs, _⟩ := Src.own h
  simp only [Value.slice.injEq, true_and] at e
  rw [e.1]
  exact hs
/-- at the beginning -/
theorem RS.new {w w1 : World} {L5 : Nat} (hb : Below (w.heap.size + 1 + 1) ((w.alloc (.cells #[.int .i64 0, .slice none 0 0, .slice none 0 0] 25)).alloc (.cells #[.int .i64 0, .slice none 0 0, .slice none 0 0] 25)) w1)
    (e0 : w1.heap[w.heap.size + 1 + 1]? = some (.cells #[.pointer (some ⟨w.heap.size + 1, 0, none⟩)] 77 (0, 0))) (e1 : w1.heap[w.heap.size + 1 + 1 + 1]? = some (.cells #[.pointer (some ⟨w.heap.size + 1, 0, none⟩)] 77 (0, 0))) (e2 : w1.heap[w.heap.size + 1 + 1 + 2]? = some (.cells #[.bool false] 4 (0, 0))) (e3 : w1.heap[w.heap.size + 1 + 1 + 3]? = some (.map (ents (w.heap.size + 1 + 1 + 1) (w.heap.size + 1 + 1 + 2)) 2)) (e5 : w1.heap[L5]? = some (.cells #[.map (some (w.heap.size + 1 + 1 + 3))] 141 (0, 0))) (hl : w.heap.size + 1 + 1 + 3 < L5) :
    RS w1 w1.heap.size (w.heap.size + 1) (w.heap.size + 1 + 1) (w.heap.size + 1 + 1 + 1) (w.heap.size + 1 + 1 + 2) (w.heap.size + 1 + 1 + 3) L5 im0 := by
  have hg : w1.heap[w.heap.size + 1]? = some (.cells #[.int .i64 0, .slice none 0 0, .slice none 0 0] 25 (0, 0)) := by
    rw [hb.block _ (by omega), show w.heap.size + 1 = (w.alloc (.cells #[.int .i64 0, .slice none 0 0, .slice none 0 0] 25)).heap.size by rw [alloc_size]]
    exact alloc_at _ _
  refine ⟨⟨none, 0, none, 0, hg, World.ownsRow_nil _ _ _ _, World.ownsRow_nil _ _ _ _⟩, e0, e1, e2, e3, e5, ⟨by omega, by omega, by omega, by omega, hl, at_lt e5, Nat.le_refl _⟩, rfl, Bs.nil, Bs.nil⟩
/-- what holds at each line -/
structure PI (w wx : World) (s t : ByteArray) (i g : Nat) (m : Im) (B L5 : Nat) : Prop where
  all : i + t.size ≤ s.size
  fuel : t.size ≤ g
  dl : m.ds.length + t.size ≤ s.size
  kl : m.k + t.size ≤ s.size
  eq : parseI s.size im0 0 s.data.toList = parseI g m i t.data.toList
  rs : RS wx B (w.heap.size + 1) (w.heap.size + 1 + 1) (w.heap.size + 1 + 1 + 1) (w.heap.size + 1 + 1 + 2) (w.heap.size + 1 + 1 + 3) L5 m
  res : wx.heap[w.heap.size]? = some (.cells #[.int .i64 0, .slice none 0 0, .slice none 0 0] 25 (0, 0))
  bel : Below w.heap.size w wx
theorem PR.not {w W : World} {m : Im} (h : okI m.n m.ds m.cs m.k = false) (hb : Below w.heap.size w W) : PR w W (.returned (.tuple #[.agg #[.int .i64 0, .slice none 0 0, .slice none 0 0], .int .i64 0, .int .i64 1])) (.inr m) := by
  refine ⟨?_, hb⟩
  rw [if_neg (by rw [h]; decide)]
theorem PR.yes {w w2 W : World} {m : Im} {dp cp : Option Addr} {dc cc B : Nat} (h : okI m.n m.ds m.cs m.k = true) (hb : Below w.heap.size w W) (hR : w.heap.size < B) (h1 : w2.ownsRow B 5 1 (.slice dp m.ds.length dc) m.ds.length (byt m.ds)) (h2 : w2.ownsRow B 64 4 (.slice cp m.k cc) m.k (byt m.cs)) (hW : Buts [w.heap.size] w2 W) (q1 : m.cs.length = 4 * m.k) (q2 : Bs m.ds) (q3 : Bs m.cs) :
    PR w W (.returned (.tuple #[.agg #[.int .i64 m.n, .slice dp m.ds.length dc, .slice cp m.k cc], .int .i64 0, .int .i64 0])) (.inr m) := by
  refine ⟨?_, hb⟩
  rw [if_pos h]
  exact ⟨_, _, rfl, owns_base (owns_buts h1 hW fun g hg => by have := (h1.lt g hg).1; simp; omega) (Nat.le_of_lt hR), owns_base (owns_buts h2 hW fun g hg => by have := (h2.lt g hg).1; simp; omega) (Nat.le_of_lt hR), q1, q2, q3⟩
set_option maxHeartbeats 8000000 in
theorem Parse_all {w : World} (hE : Env3 w) (s : ByteArray) (hs : s.size ≤ 1000000) :
    Calls Tryz.prog 24 #[.string s] w fun e w' => PR w w' e (parseI s.size im0 0 s.data.toList) := by
  have cL := lineReader_any (w.heap.size + 1) ((w.alloc (.cells #[.int .i64 0, .slice none 0 0, .slice none 0 0] 25)).alloc (.cells #[.int .i64 0, .slice none 0 0, .slice none 0 0] 25))
  rw [alloc_size, alloc_size] at cL
  have HE : Hid (Env3 w) := hE
  have hR : ((w.alloc (.cells #[.int .i64 0, .slice none 0 0, .slice none 0 0] 25)).alloc (.cells #[.int .i64 0, .slice none 0 0, .slice none 0 0] 25)).heap[w.heap.size]? = some (.cells #[.int .i64 0, .slice none 0 0, .slice none 0 0] 25 (0, 0)) := by
    rw [(alloc_below _ _).block _ (by rw [alloc_size]; omega)]; exact alloc_at w _
  clear hE
  go_enter Tryz.func24, Tryz.ntmps24
  go_wp2_with (go_at_call 68; refine cL.mono ?_; rintro e w1 ⟨L5, rfl, e0, e1, e2, e3, e5, hl5, hb⟩)
  have R1 := RS.new hb e0 e1 e2 e3 e5 hl5
  have r1 : w1.heap[w.heap.size]? = some (.cells #[.int .i64 0, .slice none 0 0, .slice none 0 0] 25 (0, 0)) := (hb.block _ (by omega)).trans hR
  have B1 : Hid (Below w.heap.size w w1) := on1 (on1 (alloc_below _ _) (alloc_below _ _)) (by rw [alloc_size, alloc_size]; exact hb)
  have HR1 : Hid (RS w1 w1.heap.size (w.heap.size + 1) (w.heap.size + 1 + 1) (w.heap.size + 1 + 1 + 1) (w.heap.size + 1 + 1 + 2) (w.heap.size + 1 + 1 + 3) L5 im0) := R1
  have Hr1 : Hid (w1.heap[w.heap.size]? = some (.cells #[.int .i64 0, .slice none 0 0, .slice none 0 0] 25 (0, 0))) := r1
  clear cL hR hb e0 e1 e2 e3 e5 hl5 R1 r1
  go_loopg [3, 7] s.size (fun g s3 s7 wx => ∃ (i : Nat) (t : ByteArray) (m : Im), s3 = .int .i64 (i : Nat) ∧ s7 = .string t ∧ Hid (PI w wx s t i g m w1.heap.size L5))
  case atStart => exact ⟨0, s, im0, rfl, rfl, ⟨by omega, by omega, by show 0 + s.size ≤ _; omega, by show 0 + s.size ≤ _; omega, rfl, HR1.out, Hr1.out, B1.out⟩⟩
  case round =>
    clear HR1 Hr1 B1
    obtain ⟨i, t, m, rfl, rfl, HI⟩ := hrel
    by_cases h0 : t.data.toList = []
    · obtain rfl : t = ⟨#[]⟩ := by
        obtain ⟨d⟩ := t
        congr 1
        exact Array.toList_inj.1 h0
      have hP : parseI s.size im0 0 s.data.toList = .inr m := HI.out.eq.trans (parse_end _ _ _)
      have HP : Hid (parseI s.size im0 0 s.data.toList = .inr m) := hP
      obtain ⟨dp, dc, cp, cc, hg, r1, r2⟩ := HI.out.rs.rows
      have g0 : wr.cell? ⟨w.heap.size + 1, 0, none⟩ = some (.int .i64 m.n) := by rw [cell_of hg]; rfl
      have g1 : wr.cell? ⟨w.heap.size + 1, 1, none⟩ = some (.slice dp m.ds.length dc) := by rw [cell_of hg]; rfl
      have g2 : wr.cell? ⟨w.heap.size + 1, 2, none⟩ = some (.slice cp m.k cc) := by rw [cell_of hg]; rfl
      have cC := Check_img (size := m.n) (HE.out.on HI.out.bel).two.env (⟨src_own r1, src_own r2, HI.out.rs.len, HI.out.rs.db, HI.out.rs.cb⟩ : Img wr dp m.ds cp m.cs m.k) dc cc
      have a0 : wr.cell? ⟨w.heap.size, 0, none⟩ = some (.int .i64 0) := by rw [cell_of HI.out.res]; rfl
      have a1 : wr.cell? ⟨w.heap.size, 1, none⟩ = some (.slice none 0 0) := by rw [cell_of HI.out.res]; rfl
      have a2 : wr.cell? ⟨w.heap.size, 2, none⟩ = some (.slice none 0 0) := by rw [cell_of HI.out.res]; rfl
      have af := free_of HI.out.res
      have HG : Hid (wr.heap[w.heap.size + 1]? = some (.cells #[.int .i64 m.n, .slice dp m.ds.length dc, .slice cp m.k cc] 25 (0, 0))) := hg
      have Hr1 : Hid (wr.ownsRow w1.heap.size 5 1 (.slice dp m.ds.length dc) m.ds.length (byt m.ds)) := r1
      have Hr2 : Hid (wr.ownsRow w1.heap.size 64 4 (.slice cp m.k cc) m.k (byt m.cs)) := r2
      clear hP h0 hg r1 r2
      have hzw := HI.out.rs.ord
      cases hok : okI m.n m.ds m.cs m.k with
      | false =>
        rw [hok] at cC
        go_wp2_with (go_at_call 12; refine cC.mono ?_; rintro e w2 ⟨rfl, hb2⟩; have A0 := ((bcell hb2).1 _ _ (cell_lt a0)).trans a0; have A1 := ((bcell hb2).1 _ _ (cell_lt a0)).trans a1; have A2 := ((bcell hb2).1 _ _ (cell_lt a0)).trans a2; have AF := fun i => ((bcell hb2).2 _ i (cell_lt a0)).trans (af i))
        obtain ⟨W, hW, f0, f1, f2, fb⟩ := fin_set (a := .int .i64 0) (b := .slice none 0 0) (c := .slice none 0 0) (on1 HI.out.bel hb2) (Nat.le_refl _) A0 A1 A2
        rw [← hW]
        refine bodyPost_ret (v := .tuple #[.agg #[.int .i64 0, .slice none 0 0, .slice none 0 0], .int .i64 0, .int .i64 1]) (by simp [results, Tryz.results24, go_sem, f0, f1, f2]) rfl ?_
        rw [HP.out]
        exact PR.not hok fb
      | true =>
        rw [hok] at cC
        go_wp2_with (go_at_call 12; refine cC.mono ?_; rintro e w2 ⟨rfl, hb2⟩; have A0 := ((bcell hb2).1 _ _ (cell_lt a0)).trans a0; have A1 := ((bcell hb2).1 _ _ (cell_lt a0)).trans a1; have A2 := ((bcell hb2).1 _ _ (cell_lt a0)).trans a2; have AF := fun i => ((bcell hb2).2 _ i (cell_lt a0)).trans (af i); have E0 := ((bcell hb2).1 _ _ (cell_lt g0)).trans g0; have E1 := ((bcell hb2).1 _ _ (cell_lt g0)).trans g1; have E2 := ((bcell hb2).1 _ _ (cell_lt g0)).trans g2)
        obtain ⟨W, hW, f0, f1, f2, fb⟩ := fin_set (a := .int .i64 m.n) (b := .slice dp m.ds.length dc) (c := .slice cp m.k cc) (on1 HI.out.bel hb2) (Nat.le_refl _) A0 A1 A2
        have hbt : Buts [w.heap.size] w2 W := by rw [hW]; exact three_buts _ _ _
        rw [← hW]
        refine bodyPost_ret (v := .tuple #[.agg #[.int .i64 m.n, .slice dp m.ds.length dc, .slice cp m.k cc], .int .i64 0, .int .i64 0]) (by simp [results, Tryz.results24, go_sem, f0, f1, f2]) rfl ?_
        rw [HP.out]
        exact PR.yes hok fb (by omega) (owns_below Hr1.out hb2) (owns_below Hr2.out hb2) hbt HI.out.rs.len HI.out.rs.db HI.out.rs.cb
    · have hemp : t.toList.isEmpty = false := by
        rw [ByteArray.toList_eq]
        simpa using h0
      have htp : 0 < t.size := by rw [size_data]; exact List.length_pos_iff.2 h0
      cases gk with
      | zero => exact absurd HI.out.fuel (by omega)
      | succ g =>
        have hib : i ≤ 1000000 := by have := HI.out.all; omega
        obtain ⟨mx, hmx⟩ := (HE.out.on HI.out.bel).num
        have cC := Tryz.strings_Cut t ⟨#[10]⟩ mx wr (by have := HI.out.all; omega) hmx
        have hcl := cut_less (l := t.data.toList) (sep := [10]) h0 (by decide)
        have hpe := HI.out.eq
        rw [parseI, if_neg h0] at hpe
        obtain ⟨q1, q2, q3, hq⟩ : ∃ q1 q2 q3, Lib.cut t.data.toList [10] = (q1, q2, q3) := ⟨_, _, _, rfl⟩
        rw [show (⟨#[10]⟩ : ByteArray).data.toList = [10] from rfl, hq] at cC
        rw [hq, ← size_data] at hcl
        rw [hq] at hpe
        simp only at cC hcl hpe
        have cI := isIdle_any ⟨q1.toArray⟩
        rw [show (⟨q1.toArray⟩ : ByteArray).data.toList = q1 from rfl] at cI
        have hs2 : (⟨q2.toArray⟩ : ByteArray).size = q2.length := by show q2.toArray.size = _; simp
        have cX : ∀ W, RS W w1.heap.size (w.heap.size + 1) (w.heap.size + 1 + 1) (w.heap.size + 1 + 1 + 1) (w.heap.size + 1 + 1 + 2) (w.heap.size + 1 + 1 + 3) L5 m → Env3 W → _ := fun W hW hEW => line_any hW hEW (by have := HI.out.dl; omega) (by have := HI.out.kl; omega) q1 (by have := HI.out.all; omega)
        cases hid : idle q1 with
        | true =>
          rw [hid] at cI
          rw [hid, if_pos rfl] at hpe
          have HPE : Hid (parseI s.size im0 0 s.data.toList = parseI g m (i + 1) q2) := hpe
          clear hpe hmx
          go_wp2_with (first
            | (go_at_call 69; refine cC.mono ?_; rintro e w2 ⟨rfl, nd, hw2⟩; have hb2 : Below wr.heap.size wr w2 := (by rw [hw2]; exact below_drewN _ _); clear hw2)
            | (go_at_call 70; refine (cI _).mono ?_; rintro e w3 ⟨rfl, h3⟩; obtain rfl := h3.symm))
          go_roundg g
          case measure => omega
          case rel => exact ⟨i + 1, ⟨q2.toArray⟩, m, by go_num, rfl, ⟨by rw [hs2]; have := HI.out.all; omega, by rw [hs2]; have := HI.out.fuel; omega, by rw [hs2]; have := HI.out.dl; omega, by rw [hs2]; have := HI.out.kl; omega, HPE.out, HI.out.rs.on hb2, (hb2.block _ (at_lt HI.out.res)).trans HI.out.res, on1 HI.out.bel hb2⟩⟩
        | false =>
          rw [hid] at cI
          rw [hid, if_neg (by decide)] at hpe
          cases hln : lineI m q1 with
          | none =>
            rw [hln] at cX hpe
            simp only [RL] at cX hpe
            have HPE : Hid (parseI s.size im0 0 s.data.toList = .inl i) := hpe
            have hwl := HI.out.rs.ord
            clear hpe hmx
            go_wp2_with (first
              | (go_at_call 69; refine cC.mono ?_; rintro e w2 ⟨rfl, nd, hw2⟩; have hb2 : Below wr.heap.size wr w2 := (by rw [hw2]; exact below_drewN _ _); clear hw2)
              | (go_at_call 70; refine (cI _).mono ?_; rintro e w3 ⟨rfl, h3⟩; obtain rfl := h3.symm)
              | (go_at_call 99; refine (cX _ (HI.out.rs.on hb2) (HE.out.on (on1 HI.out.bel hb2))).mono ?_; rintro e w4 ⟨rfl, hb4⟩; have hres := (hb4.block w.heap.size (by omega)).trans ((hb2.block _ (at_lt HI.out.res)).trans HI.out.res); have a0 : w4.cell? ⟨w.heap.size, 0, none⟩ = some (.int .i64 0) := (by rw [cell_of hres]; rfl); have a1 : w4.cell? ⟨w.heap.size, 1, none⟩ = some (.slice none 0 0) := (by rw [cell_of hres]; rfl); have a2 : w4.cell? ⟨w.heap.size, 2, none⟩ = some (.slice none 0 0) := (by rw [cell_of hres]; rfl); have af := free_of hres))
            obtain ⟨W, hW, f0, f1, f2, fb⟩ := fin_set (a := .int .i64 0) (b := .slice none 0 0) (c := .slice none 0 0) ((on1 HI.out.bel hb2).trans (hb4.mono (by omega))) (Nat.le_refl _) a0 a1 a2
            rw [← hW]
            refine bodyPost_ret (v := .tuple #[.agg #[.int .i64 0, .slice none 0 0, .slice none 0 0], .int .i64 (i : Nat), .int .i64 14]) (by simp [results, Tryz.results24, go_sem, f0, f1, f2]) rfl ?_
            rw [HPE.out]
            exact ⟨rfl, fb⟩
          | some m' =>
            rw [hln] at cX hpe
            simp only [RL] at cX hpe
            have HPE : Hid (parseI s.size im0 0 s.data.toList = parseI g m' (i + 1) q2) := hpe
            have hll := line_len hln
            have hwl := HI.out.rs.ord
            clear hpe hmx
            go_wp2_with (first
              | (go_at_call 69; refine cC.mono ?_; rintro e w2 ⟨rfl, nd, hw2⟩; have hb2 : Below wr.heap.size wr w2 := (by rw [hw2]; exact below_drewN _ _); clear hw2)
              | (go_at_call 70; refine (cI _).mono ?_; rintro e w3 ⟨rfl, h3⟩; obtain rfl := h3.symm)
              | (go_at_call 99; refine (cX _ (HI.out.rs.on hb2) (HE.out.on (on1 HI.out.bel hb2))).mono ?_; rintro e w4 ⟨rfl, R4, hb4⟩))
            go_roundg g
            case measure => omega
            case rel => exact ⟨i + 1, ⟨q2.toArray⟩, m', by go_num, rfl, ⟨by rw [hs2]; have := HI.out.all; omega, by rw [hs2]; have := HI.out.fuel; omega, by rw [hs2]; have := HI.out.dl; omega, by rw [hs2]; have := HI.out.kl; omega, HPE.out, R4, (hb4.block w.heap.size (by omega)).trans ((hb2.block _ (at_lt HI.out.res)).trans HI.out.res), (on1 HI.out.bel hb2).trans (hb4.mono (by omega))⟩⟩
end Go.Proofs.YtcjghnnliepjjaaGreatDoor
