/- 'ImagesOdd', walked. -/
import Derived.Test.YtcjghnnliepjjaaGreatDoorOddP
namespace Go.Proofs.YtcjghnnliepjjaaGreatDoor
open Go Go.RowKit
set_option maxRecDepth 100000
set_option linter.unusedVariables false
set_option linter.unusedSimpArgs false
set_option maxHeartbeats 4000000 in
theorem iodd_no {w : World} (hE : Env3 w) {n : Int} {sp cp : Option Addr} {ds cs : List Int} {dc k kc : Nat} (h : ImgA w sp ds dc cp cs k kc) (hno : 300 < ds.length ∨ 100 < k ∨ okI n ds cs k = false) (a0 b0 : Int) :
    Calls Tryz.prog 7 #[.agg #[.int .i64 n, .slice sp ds.length dc, .slice cp k kc], .int .u8 a0, .int .u8 b0] w fun e w' => e = .returned (.bool true) ∧ Below w.heap.size w w' := by
  have cA : ∀ W, Below w.heap.size w W → _ := fun W hW => alive_any W (hE.on hW)
  have cK : ∀ W, Below w.heap.size w W → _ := fun W hW => Check_img (size := n) (hE.on hW).two.env (h.i.on hW) dc kc
  have hb0 : Below w.heap.size w (w.alloc (.cells #[.int .i64 n, .slice sp ds.length dc, .slice cp k kc] 25)) := alloc_below _ _
  have X : Box (w.alloc (.cells #[.int .i64 n, .slice sp ds.length dc, .slice cp k kc] 25)) w.heap.size (.int .i64 n) (.slice sp ds.length dc) (.slice cp k kc) := Box.new w _ _ _ _
  have hs0 := alloc_size w (.cells #[.int .i64 n, .slice sp ds.length dc, .slice cp k kc] 25)
  clear hE h
  by_cases h1 : 300 < ds.length
  · have h1I : (300 : Int) < ds.length := by omega
    clear cK hno
    generalize ds.length = dl at *
    have M0 := True.intro
    go_enter Tryz.func7, Tryz.ntmps7
    go_wp2_with (first
      | (clear M0; go_at_call 26; refine (cA _ hb0).mono ?_; rintro e w1 ⟨rfl, hb1⟩; have B1 : Hid (Below w.heap.size w w1) := on1 hb0 hb1; have X1 := X.on hb1; have x1 := X1.c1; have x2 := X1.c2)
      | (go_at_call 26; refine (cA _ B1.out).mono ?_; rintro e w2 ⟨rfl, hb2⟩; have B2 : Hid (Below w.heap.size w w2) := on1 B1.out hb2))
    go_ret
    exact ⟨rfl, B2.out⟩
  · have h1I : ¬ ((300 : Int) < ds.length) := by omega
    by_cases h2 : 100 < k
    · have h2I : (100 : Int) < k := by omega
      clear cK hno
      generalize ds.length = dl at *
      have M0 := True.intro
      go_enter Tryz.func7, Tryz.ntmps7
      go_wp2_with (first
        | (clear M0; go_at_call 26; refine (cA _ hb0).mono ?_; rintro e w1 ⟨rfl, hb1⟩; have B1 : Hid (Below w.heap.size w w1) := on1 hb0 hb1; have X1 := X.on hb1; have x1 := X1.c1; have x2 := X1.c2)
        | (go_at_call 26; refine (cA _ B1.out).mono ?_; rintro e w2 ⟨rfl, hb2⟩; have B2 : Hid (Below w.heap.size w w2) := on1 B1.out hb2))
      go_ret
      exact ⟨rfl, B2.out⟩
    · have h2I : ¬ ((100 : Int) < k) := by omega
      have h3 : okI n ds cs k = false := by rcases hno with a | a | a <;> first | omega | exact a
      rw [h3] at cK
      clear hno
      have M0 := True.intro
      go_enter Tryz.func7, Tryz.ntmps7
      go_wp2_with (first
        | (clear M0; go_at_call 26; refine (cA _ hb0).mono ?_; rintro e w1 ⟨rfl, hb1⟩; have B1 : Hid (Below w.heap.size w w1) := on1 hb0 hb1; have X1 := X.on hb1; have x0 := X1.c0; have x1 := X1.c1; have x2 := X1.c2)
        | (go_at_call 12; refine (cK _ B1.out).mono ?_; rintro e w3 ⟨rfl, hb3⟩; have B3 : Hid (Below w.heap.size w w3) := on1 B1.out hb3)
        | (go_at_call 26; refine (cA _ B3.out).mono ?_; rintro e w2 ⟨rfl, hb2⟩; have B2 : Hid (Below w.heap.size w w2) := on1 B3.out hb2))
      go_ret
      exact ⟨rfl, B2.out⟩
theorem parse_odd {W : World} (hE : Env3 W) (s : ByteArray) (hs : s.size ≤ 1000000) {k : Nat} (hp : parseI s.size im0 0 s.data.toList = .inl k) :
    Calls Tryz.prog 24 #[.string s] W fun e w' => e = .returned (.tuple #[.agg #[.int .i64 0, .slice none 0 0, .slice none 0 0], .int .i64 (k : Nat), .int .i64 14]) ∧ Below W.heap.size W w' := by
  refine (Parse_all hE s hs).mono fun e w' h => ?_
  rw [hp] at h
  exact h
set_option maxHeartbeats 16000000 in
theorem iodd_yes {w : World} (hE : Env3 w) {u : Nat} {sp cp : Option Addr} {ds cs : List Int} {dc k kc : Nat} (h : ImgA w sp ds dc cp cs k kc) (hd : ds.length ≤ 300) (hk : k ≤ 100) (hok : okI (u : Nat) ds cs k = true) (m0 b0 : Nat) (hm0 : m0 ≤ 255) (hb255 : b0 ≤ 255) :
    Calls Tryz.prog 7 #[.agg #[.int .i64 (u : Nat), .slice sp ds.length dc, .slice cp k kc], .int .u8 (m0 : Nat), .int .u8 (b0 : Nat)] w fun e w' => e = .returned (.bool true) ∧ Below w.heap.size w w' := by
  have HE3 : Hid (∀ W, Below w.heap.size w W → Env3 W) := fun W hW => hE.on hW
  have cA : Hid (∀ W, Below w.heap.size w W → _) := fun W hW => alive_any W (hE.on hW)
  have cK0 : ∀ W, Below w.heap.size w W → _ := fun W hW => Check_img (size := (u : Nat)) (hE.on hW).two.env (h.i.on hW) dc kc
  rw [hok] at cK0
  have cK : Hid (∀ W, Below w.heap.size w W → _) := cK0
  obtain ⟨⟨_, hu, _, _⟩, hmay⟩ := (okI_iff _ _ _ _).1 hok
  have hu4 : u ≤ 4096 := by omega
  have hMay : MayC cs k := fun t ht => (mayAll_iff cs k).1 hmay t ht
  obtain ⟨c, hc⟩ : ∃ c, many1 ds.length 16 = c := ⟨_, rfl⟩
  have cL0 : ∀ W, Below w.heap.size w W → _ := fun W hW => lines_any (w := W) (many := 16) (h.on hW) (hE.on hW).two.env hu4 hd hk (by decide) (by decide) hMay
  obtain ⟨l0, hl0⟩ : ∃ l0, lnP u ds cs k 16 c = l0 := ⟨_, rfl⟩
  rw [hc, hl0] at cL0
  obtain ⟨L, hL⟩ : ∃ L, 1 + c + k = L := ⟨_, rfl⟩
  have hll : l0.length = L := by rw [← hl0, lnP_len]; exact hL
  rw [hL] at cL0
  have hc300 : c ≤ 300 := by
    rcases Nat.eq_zero_or_pos c with h | h
    · omega
    · have h1 := many1_lo (len := ds.length) (many := 16) (by decide) (t := c - 1) (by rw [hc]; omega)
      omega
  have hL401 : L ≤ 401 := by omega
  have hL0 : 0 < L := by omega
  have HLG : Hid (LG l0 L u ds cs k) := by
    refine ⟨hll, ?_, ?_, ?_⟩
    · rw [← hl0]
      exact run_lnP (by omega) h.i.db h.i.cb (by decide) (fun t ht => many1_lo (by decide) (by rw [hc]; exact ht)) (by rw [← hc]; exact many1_hi (by decide)) h.i.len hMay
    · rw [← hl0]; exact clean_lnP h.i.db h.i.cb hMay
    · rw [← hl0]; exact sht_lnP hu4 h.i.cb (by decide) hMay
  have HL0 : Hid (l0.length = L) := hll
  obtain ⟨dl, hdl⟩ : ∃ dl, ds.length = dl := ⟨_, rfl⟩
  obtain ⟨L1, hL1⟩ : ∃ L1, L + 1 = L1 := ⟨_, rfl⟩
  obtain ⟨q, hq⟩ : ∃ q, m0 % L1 = q := ⟨_, rfl⟩
  obtain ⟨j, hj⟩ : ∃ j, b0 % 14 = j := ⟨_, rfl⟩
  have hj14 : j < 14 := by omega
  have hqL : q ≤ L := by have := Nat.mod_lt m0 (y := L1) (by omega); omega
  have t1 : (L : Int) + 1 = (L1 : Int) := by omega
  have t2 : Int.tmod (m0 : Int) (L1 : Int) = (q : Int) := by rw [← hq]; exact (Int.ofNat_tmod m0 L1).symm
  have t3 : Int.tmod (b0 : Int) 14 = (j : Int) := by rw [← hj]; exact (Int.ofNat_tmod b0 14).symm
  have hLz : ((L1 : Int) == 0) = false := by simp; omega
  have hLz2 : (L1 == 0) = false := by simp; omega
  have hj14I : (j : Int) < 14 := by omega
  obtain ⟨od, hod⟩ : ∃ od, odL.getD j [] = od := ⟨_, rfl⟩
  have HOD : Hid (odL.getD j [] = od) := hod
  have hocell := od_cell j hj14
  rw [hod] at hocell
  obtain ⟨so, hso⟩ : ∃ so, mk od = so := ⟨_, rfl⟩
  have HSO : Hid (mk od = so) := hso
  rw [hso] at hocell
  have zo : so.size ≤ 16 := by rw [← hso, mk_size, ← hod]; exact od_size j hj14
  have HZO : Hid (od.length ≤ 16) := by show _ ≤ _; rw [← hod]; exact od_size j hj14
  have HCELL : Hid (∀ W : World, (W.alloc (.cells #[.string ⟨#[115, 105, 122, 101]⟩, .string ⟨#[100, 97, 116, 97, 32]⟩, .string ⟨#[100, 97, 116, 97, 32, 48]⟩, .string ⟨#[100, 97, 116, 97, 32, 48, 71]⟩, .string ⟨#[100, 97, 116, 97, 32, 65, 66]⟩, .string ⟨#[110, 111, 112, 32]⟩, .string ⟨#[32, 110, 111, 112]⟩, .string ⟨#[97, 100, 100, 32, 114, 49, 32, 114, 50]⟩, .string ⟨#[115, 105, 122, 101, 32, 48, 49]⟩, .string ⟨#[115, 105, 122, 101, 32, 50, 49, 52, 55, 52, 56, 51, 54, 52, 56]⟩, .string ⟨#[115, 105, 122, 101, 32, 45, 49]⟩, .string ⟨#[83, 105, 122, 101, 32, 49]⟩, .string ⟨#[100, 97, 116, 97, 32, 48, 48, 32, 48, 48]⟩, .string ⟨#[97, 115, 107, 32, 48]⟩] 9)).cell? ⟨W.heap.size, j, none⟩ = some (.string so)) := fun W => by rw [cell_of (alloc_at W _)]; exact hocell
  have HPAR : Hid (∀ f, q + 1 ≤ f → parseI f im0 0 (oT l0 od q L1 ++ od) = .inl q) := fun f hf => by
    have := oT_parse HLG.out hqL hj14 f hf
    rw [hod, hL1] at this
    exact this
  have HL1 : Hid (L + 1 = L1) := hL1
  have hb0 : Below w.heap.size w (w.alloc (.cells #[.int .i64 (u : Nat), .slice sp dl dc, .slice cp k kc] 25)) := alloc_below _ _
  have X : Box (w.alloc (.cells #[.int .i64 (u : Nat), .slice sp dl dc, .slice cp k kc] 25)) w.heap.size (.int .i64 (u : Nat)) (.slice sp dl dc) (.slice cp k kc) := Box.new w _ _ _ _
  rw [hdl] at cK cL0 hd ⊢
  have cL : Hid (∀ W, Below w.heap.size w W → _) := cL0
  have h1I : ¬ ((300 : Int) < dl) := by omega
  have h2I : ¬ ((100 : Int) < k) := by omega
  have hL1b : L1 ≤ 402 := by omega
  clear hE h hok hmay hMay hl0 hll hc hL hdl cK0 cL0 hu hq hj hod hso hL1
  go_enter Tryz.func7, Tryz.ntmps7
  go_wp2_with (first
    | (go_at_call 26; refine (cA.out _ hb0).mono ?_; rintro e w1 ⟨rfl, hb1⟩; have B1 : Hid (Below w.heap.size w w1) := on1 hb0 hb1; have X1 := X.on hb1; have x0 := X1.c0; have x1 := X1.c1; have x2 := X1.c2; clear hb1)
    | (go_at_call 12; refine (cK.out _ B1.out).mono ?_; rintro e w2 ⟨rfl, hb2⟩; have B2 : Hid (Below w.heap.size w w2) := on1 B1.out hb2; have X2 := X1.on hb2; have z0 := X2.c0; have z1 := X2.c1; have z2 := X2.c2; clear hb2)
    | (go_at_call 27; refine (cL.out _ B2.out).mono ?_; rintro e w3 ⟨v3, rfl, o3, hb3⟩; obtain ⟨g3, c3, rfl, hc3, hcm3, r3⟩ := row_at o3 HL0.out hL0; have HR3 : Hid (LRow w3 g3 L l0) := r3; have B3 : Hid (Below w.heap.size w w3) := on1 B2.out hb3; have hoc := HCELL.out w3; clear o3 r3 hb3))
  have BW : Hid (Below w.heap.size w (w3.alloc (.cells #[.string ⟨#[115, 105, 122, 101]⟩, .string ⟨#[100, 97, 116, 97, 32]⟩, .string ⟨#[100, 97, 116, 97, 32, 48]⟩, .string ⟨#[100, 97, 116, 97, 32, 48, 71]⟩, .string ⟨#[100, 97, 116, 97, 32, 65, 66]⟩, .string ⟨#[110, 111, 112, 32]⟩, .string ⟨#[32, 110, 111, 112]⟩, .string ⟨#[97, 100, 100, 32, 114, 49, 32, 114, 50]⟩, .string ⟨#[115, 105, 122, 101, 32, 48, 49]⟩, .string ⟨#[115, 105, 122, 101, 32, 50, 49, 52, 55, 52, 56, 51, 54, 52, 56]⟩, .string ⟨#[115, 105, 122, 101, 32, 45, 49]⟩, .string ⟨#[83, 105, 122, 101, 32, 49]⟩, .string ⟨#[100, 97, 116, 97, 32, 48, 48, 32, 48, 48]⟩, .string ⟨#[97, 115, 107, 32, 48]⟩] 9)) ∧ LRow (w3.alloc (.cells #[.string ⟨#[115, 105, 122, 101]⟩, .string ⟨#[100, 97, 116, 97, 32]⟩, .string ⟨#[100, 97, 116, 97, 32, 48]⟩, .string ⟨#[100, 97, 116, 97, 32, 48, 71]⟩, .string ⟨#[100, 97, 116, 97, 32, 65, 66]⟩, .string ⟨#[110, 111, 112, 32]⟩, .string ⟨#[32, 110, 111, 112]⟩, .string ⟨#[97, 100, 100, 32, 114, 49, 32, 114, 50]⟩, .string ⟨#[115, 105, 122, 101, 32, 48, 49]⟩, .string ⟨#[115, 105, 122, 101, 32, 50, 49, 52, 55, 52, 56, 51, 54, 52, 56]⟩, .string ⟨#[115, 105, 122, 101, 32, 45, 49]⟩, .string ⟨#[83, 105, 122, 101, 32, 49]⟩, .string ⟨#[100, 97, 116, 97, 32, 48, 48, 32, 48, 48]⟩, .string ⟨#[97, 115, 107, 32, 48]⟩] 9)) g3 L l0) := ⟨on1 B3.out (alloc_below _ _), HR3.out.on (alloc_below _ _)⟩
  clear hoc hocell HCELL x0 x1 x2 z0 z1 z2 X X1 X2 hb0 HR3 B3
  generalize w3.alloc (.cells #[.string ⟨#[115, 105, 122, 101]⟩, .string ⟨#[100, 97, 116, 97, 32]⟩, .string ⟨#[100, 97, 116, 97, 32, 48]⟩, .string ⟨#[100, 97, 116, 97, 32, 48, 71]⟩, .string ⟨#[100, 97, 116, 97, 32, 65, 66]⟩, .string ⟨#[110, 111, 112, 32]⟩, .string ⟨#[32, 110, 111, 112]⟩, .string ⟨#[97, 100, 100, 32, 114, 49, 32, 114, 50]⟩, .string ⟨#[115, 105, 122, 101, 32, 48, 49]⟩, .string ⟨#[115, 105, 122, 101, 32, 50, 49, 52, 55, 52, 56, 51, 54, 52, 56]⟩, .string ⟨#[115, 105, 122, 101, 32, 45, 49]⟩, .string ⟨#[83, 105, 122, 101, 32, 49]⟩, .string ⟨#[100, 97, 116, 97, 32, 48, 48, 32, 48, 48]⟩, .string ⟨#[97, 115, 107, 32, 48]⟩] 9) = w4 at *
  go_loopg [10, 11] L1 (fun gk s10 s11 wx => ∃ (i : Nat) (sa : ByteArray), i + gk = L1 ∧ s11 = .int .i64 (i : Int) ∧ s10 = .string sa ∧ Hid (sa = mk (oT l0 od q i)) ∧ w4 = wx)
  case atStart => exact ⟨0, _, by omega, rfl, rfl, by show _ = _; rw [oT_zero]; rfl, rfl⟩
  case round =>
    obtain ⟨i, sa, hig, rfl, rfl, HS, rfl⟩ := hrel
    have za : sa.size ≤ 90000 := by
      have h1 := oT_len HLG.out.sht HZO.out q i
      have h2 := HLG.out.len
      rw [HS.out, mk_size]
      omega
    cases gk with
    | zero =>
      obtain rfl : i = L1 := by omega
      have hlt : ¬ ((i : Int) ≤ (L : Int)) := by omega
      obtain ⟨e1, y1, r1, E1⟩ := add_ok sa so 90000 16 za zo (by decide) (by decide)
      have e1m : e1 = mk (oT l0 od q i ++ od) := by rw [E1.out, HS.out, ← HSO.out, ba_mk]
      have HP : Hid (Calls Tryz.prog 24 #[.string e1] w4 fun e w' => e = .returned (.tuple #[.agg #[.int .i64 0, .slice none 0 0, .slice none 0 0], .int .i64 (q : Nat), .int .i64 14]) ∧ Below w4.heap.size w4 w') := by
        refine parse_odd (HE3.out w4 BW.out.1) e1 (by omega) ?_
        have hlen : q + 1 ≤ (oT l0 od q i ++ od).length := by
          have h1 : q ≤ (aT (l0.take q)).length := by
            have := aT_ge (l0.take q)
            rw [List.length_take, HLG.out.len] at this
            omega
          have h2 : aT (l0.take q) ++ (od ++ [10]) ++ aT ((l0.take i).drop q) = oT l0 od q i := by unfold oT; rw [if_neg (by omega)]
          rw [← h2]
          simp only [List.length_append, List.length_cons, List.length_nil]
          omega
        rw [e1m, mk_size, mk_data]
        exact HPAR.out _ hlen
      have hqq : ((q : Int) == (q : Int)) = true := by simp
      clear e1m za y1
      go_wp2_with (first | (go_at_call 24; refine HP.out.mono ?_; rintro e w5 ⟨rfl, hb5⟩; have B5 : Hid (Below w.heap.size w w5) := on1 BW.out.1 hb5; clear hb5))
      go_ret
      exact ⟨rfl, on1 B5.out (alloc_below _ _)⟩
    | succ g' =>
      have hlt : (i : Int) ≤ (L : Int) := by omega
      by_cases hiL : i < L
      · have hiLI : (i : Int) < (L : Int) := by omega
        have hil : i < l0.length := by rw [HLG.out.len]; omega
        have cl := BW.out.2.2 i hiL
        obtain ⟨x, hx⟩ : ∃ x, mk (l0.getD i []) = x := ⟨_, rfl⟩
        have HX : Hid (mk (l0.getD i []) = x) := hx
        rw [hx] at cl
        have zx : x.size ≤ 100 := by rw [← hx, mk_size]; exact HLG.out.sht.at i
        by_cases hiq : i = q
        · subst hiq
          obtain ⟨e1, y1, r1, E1⟩ := add_ok sa so 90000 16 za zo (by decide) (by decide)
          obtain ⟨e2, y2, r2, E2⟩ := add_ok e1 ⟨#[10]⟩ 90016 1 y1 (by decide) (by decide) (by decide)
          obtain ⟨e3, y3, r3, E3⟩ := add_ok e2 x 90017 100 y2 zx (by decide) (by decide)
          obtain ⟨e4, y4, r4, E4⟩ := add_ok e3 ⟨#[10]⟩ 90117 1 y3 (by decide) (by decide) (by decide)
          have HA : Hid (e4 = mk (oT l0 od i (i + 1))) := by
            show _ = _
            rw [E4.out, E3.out, E2.out, E1.out, HS.out, ← HX.out, ← HSO.out, oT_mid hil]
            show mk _ ++ mk _ ++ mk [10] ++ mk _ ++ mk [10] = _
            rw [ba_mk, ba_mk, ba_mk, ba_mk]
          clear hx zx za y1 y2 y3 y4 E1 E2 E3 E4
          go_wp2
          go_roundg g'
          case measure => omega
          case rel => exact ⟨i + 1, e4, by omega, by go_num, rfl, HA, rfl⟩
        · obtain ⟨e1, y1, r1, E1⟩ := add_ok sa x 90000 100 za zx (by decide) (by decide)
          obtain ⟨e2, y2, r2, E2⟩ := add_ok e1 ⟨#[10]⟩ 90100 1 y1 (by decide) (by decide) (by decide)
          have HA : Hid (e2 = mk (oT l0 od q (i + 1))) := by
            show _ = _
            have hh : oT l0 od q (i + 1) = oT l0 od q i ++ l0.getD i [] ++ [10] := by
              rcases Nat.lt_or_gt_of_ne hiq with hh | hh
              · exact oT_low hh hil
              · exact oT_high hh hil
            rw [E2.out, E1.out, HS.out, ← HX.out, hh]
            show mk _ ++ mk _ ++ mk [10] = _
            rw [ba_mk, ba_mk]
          have q1 : ((i : Int) == (q : Int)) = false := by simp; omega
          have q2 : (i == q) = false := by simpa using hiq
          clear hx zx za y1 y2 E1 E2
          go_wp2
          go_roundg g'
          case measure => omega
          case rel => exact ⟨i + 1, e2, by omega, by go_num, rfl, HA, rfl⟩
      · have hiLI : ¬ ((i : Int) < (L : Int)) := by omega
        have hil : i = l0.length := by rw [HLG.out.len]; omega
        by_cases hiq : i = q
        · subst hiq
          obtain ⟨e1, y1, r1, E1⟩ := add_ok sa so 90000 16 za zo (by decide) (by decide)
          obtain ⟨e2, y2, r2, E2⟩ := add_ok e1 ⟨#[10]⟩ 90016 1 y1 (by decide) (by decide) (by decide)
          have HA : Hid (e2 = mk (oT l0 od i (i + 1))) := by
            show _ = _
            rw [E2.out, E1.out, HS.out, ← HSO.out, oT_end hil]
            show mk _ ++ mk _ ++ mk [10] = _
            rw [ba_mk, ba_mk]
          clear za y1 y2 E1 E2 hil
          go_wp2
          go_roundg g'
          case measure => omega
          case rel => exact ⟨i + 1, e2, by omega, by go_num, rfl, HA, rfl⟩
        · have HA : Hid (sa = mk (oT l0 od q (i + 1))) := by
            show _ = _
            rw [HS.out, oT_last (by omega) hil]
          have q1 : ((i : Int) == (q : Int)) = false := by simp; omega
          have q2 : (i == q) = false := by simpa using hiq
          clear za hil
          go_wp2
          go_roundg g'
          case measure => omega
          case rel => exact ⟨i + 1, sa, by omega, by go_num, rfl, HA, rfl⟩
/-- 'ImagesOdd', for every image and every two bytes -/
theorem iodd_any {w : World} (hE : Env3 w) {n : Int} {sp cp : Option Addr} {ds cs : List Int} {dc k kc : Nat} (h : ImgA w sp ds dc cp cs k kc) (a0 b0 : Int) (ha : 0 ≤ a0 ∧ a0 ≤ 255) (hb : 0 ≤ b0 ∧ b0 ≤ 255) :
    Calls Tryz.prog 7 #[.agg #[.int .i64 n, .slice sp ds.length dc, .slice cp k kc], .int .u8 a0, .int .u8 b0] w fun e w' => e = .returned (.bool true) ∧ Below w.heap.size w w' := by
  by_cases hno : 300 < ds.length ∨ 100 < k ∨ okI n ds cs k = false
  · exact iodd_no hE h hno a0 b0
  · have hok : okI n ds cs k = true := by
      cases ho : okI n ds cs k with
      | true => rfl
      | false => exact absurd (Or.inr (Or.inr ho)) hno
    have hd : ds.length ≤ 300 := by omega
    have hk : k ≤ 100 := by omega
    have h0 : 0 ≤ n := by
      obtain ⟨⟨h0, _⟩, _⟩ := (okI_iff _ _ _ _).1 hok
      omega
    obtain ⟨u, rfl⟩ := Int.eq_ofNat_of_zero_le h0
    obtain ⟨m0, rfl⟩ := Int.eq_ofNat_of_zero_le ha.1
    obtain ⟨b1, rfl⟩ := Int.eq_ofNat_of_zero_le hb.1
    exact iodd_yes hE h hd hk hok m0 b1 (by omega) (by omega)
end Go.Proofs.YtcjghnnliepjjaaGreatDoor
