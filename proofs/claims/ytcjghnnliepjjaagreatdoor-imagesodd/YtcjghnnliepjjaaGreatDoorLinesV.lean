/- 'ImagesLines', walked. -/
import Derived.Test.YtcjghnnliepjjaaGreatDoorLinesR
namespace Go.Proofs.YtcjghnnliepjjaaGreatDoor
open Go Go.RowKit
set_option maxRecDepth 100000
set_option linter.unusedVariables false
set_option linter.unusedSimpArgs false
theorem parse_img {W : World} (hE : Env3 W) (s : ByteArray) (hs : s.size ≤ 1000000) {u : Nat} {ds cs : List Int} {k : Nat} (hp : parseI s.size im0 0 s.data.toList = .inr ⟨u, true, ds, cs, k⟩) (ho : okI u ds cs k = true) :
    Calls Tryz.prog 24 #[.string s] W fun e w' => ∃ dp dc cp kc, e = .returned (.tuple #[.agg #[.int .i64 (u : Nat), .slice dp ds.length dc, .slice cp k kc], .int .i64 0, .int .i64 0]) ∧ Img w' dp ds cp cs k ∧ Below W.heap.size W w' := by
  refine (Parse_all hE s hs).mono fun e w' h => ?_
  rw [hp] at h
  obtain ⟨h1, hb⟩ := h
  simp only at h1
  rw [if_pos ho] at h1
  obtain ⟨vd, vc, he, od, oc, hl, b1, b2⟩ := h1
  obtain ⟨dp, dc, rfl, _⟩ := owns_form od
  obtain ⟨cp, kc, rfl, _⟩ := owns_form oc
  exact ⟨dp, dc, cp, kc, he, ⟨src_own od, src_own oc, hl, b1, b2⟩, hb⟩
/-- a row of lines that is read -/
def LRow (w : World) (g L : Nat) (ls : List (List UInt8)) : Prop := g < w.heap.size ∧ ∀ i, i < L → w.cell? ⟨g, i, none⟩ = some (.string (mk (ls.getD i [])))
theorem LRow.on {w w' : World} {g L : Nat} {ls : List (List UInt8)} (h : LRow w g L ls) (hb : Below w.heap.size w w') : LRow w' g L ls := ⟨Nat.lt_of_lt_of_le h.1 hb.size, fun i hi => ((bcell hb).1 _ _ h.1).trans (h.2 i hi)⟩
theorem row_at {w : World} {B n : Nat} {v : Value} {ls : List (List UInt8)} (h : w.ownsRow B 9 1 v n (sv ls)) (hn : ls.length = n) (h0 : 0 < n) : ∃ g cap, v = .slice (some ⟨g, 0, none⟩) n cap ∧ n ≤ cap ∧ cap ≤ maxLen ∧ LRow w g n ls := by
  subst hn
  rcases h.2 with ⟨_, h1⟩ | ⟨g, cap, cur, rfl, hg, hh, hc, hm, _⟩
  · omega
  · refine ⟨g, cap, rfl, hc, hm, (Array.getElem?_eq_some_iff.1 hh).1, fun i hi => ?_⟩
    rw [h.cellAt i (by omega)]
    simp [sv, hi]
/-- lines that make an image, whatever stands first -/
structure LG (ls : List (List UInt8)) (L u : Nat) (ds cs : List Int) (k : Nat) : Prop where
  len : ls.length = L
  run : runI im0 ls = some ⟨u, true, ds, cs, k⟩
  cln : ∀ l ∈ ls, Clean l
  sht : Sht ls
theorem lg_a {ls : List (List UInt8)} {L u : Nat} {ds cs : List Int} {k : Nat} (h : LG ls L u ds cs k) (hL : L ≤ 401) : (mk (aT ls)).size ≤ 1000000 ∧ parseI (mk (aT ls)).size im0 0 (mk (aT ls)).data.toList = .inr ⟨u, true, ds, cs, k⟩ := by
  have h1 := aT_len h.sht
  have h2 := aT_ge ls
  have h3 := h.len
  rw [mk_size, mk_data]
  exact ⟨by omega, parse_aT ls im0 _ 0 _ h.cln h.run h2⟩
theorem lg_b {ls : List (List UInt8)} {L u : Nat} {ds cs : List Int} {k : Nat} (h : LG ls L u ds cs k) (hL : L ≤ 401) : (mk (bT ls)).size ≤ 1000000 ∧ parseI (mk (bT ls)).size im0 0 (mk (bT ls)).data.toList = .inr ⟨u, true, ds, cs, k⟩ := by
  have h1 := bP_len h.sht ls.length (Nat.le_refl _)
  have h2 := bT_ge ls
  have h3 := h.len
  rw [bP_all] at h1
  rw [mk_size, mk_data]
  exact ⟨by omega, parse_bT ls im0 _ 0 _ h.cln h.run h2⟩
theorem add_ok (a b : ByteArray) (n m : Nat) (ha : a.size ≤ n) (hb : b.size ≤ m) (hn : n ≤ 1000000) (hm : m ≤ 1000000) : ∃ c : ByteArray, c.size ≤ n + m ∧ (∀ W : World, (Op.stringOp .add a b).run Tryz.prog W = .ok (.string c) W) ∧ Hid (c = a ++ b) :=
  ⟨a ++ b, by rw [ByteArray.size_append]; omega, fun W => run_string_add_sum W a b (by omega), rfl⟩

/-- lines behind lines of one's own, as one step of a region that draws its order -/
theorem step_strs {ops : Array Oper} {o : Oper} {a : Act} {W : World} {K : Act → World → Prop} {Q : Exit → Act → World → Prop} {E : Prop} (hgd : o.guard = none) (s x : Operand)
    (ho : o.op = .call { callee := .builtin .append, args := #[s, x], argTypes := #[53, 53] }) (base : Nat) (v : Value) (n : Nat) (xs0 : List (List UInt8)) (hs : a.eval s = v) (hown : W.ownsRow base 9 1 v n (sv xs0))
    (ad : Addr) (m c : Nat) (news : List (List UInt8)) (hx : a.eval x = .slice (some ad) m c) (hm : news.length = m) (N : Nat) (hN : n + m = N) (hlim : N ≤ 1000)
    (hc : ∀ j l, news[j]? = some l → W.cell? (ad.add j) = some (.string (mk l))) (hb : base ≤ W.heap.size)
    (h : ∀ sp cap w', w'.ownsRow base 9 1 (.slice sp N cap) N (sv (xs0 ++ news)) → Below base W w' → (v.ownBlock = none → Below W.heap.size W w') → K (a.put o.dst (.slice sp N cap)) w') :
    if Region.wanted o (yielded ops a.tmps) = true then Oper.wp Tryz.prog o a W K Q else E := by
  obtain ⟨i0, hi, hz0, hz1, hz2⟩ := info_parts infoS
  subst hN hm
  have hw : Region.wanted o (yielded ops a.tmps) = true := by simp [Region.wanted, hgd]
  rw [if_pos hw]
  obtain ⟨v', w', hr, h2, h3, h4⟩ := run_append_own (P := Tryz.prog) W base 53 o.type 9 i0 _ 1 16 Tryz.underlying53 hi hz0 hz1 hz2 rfl (by decide) v n (sv xs0) hown ad news.length c (sv news) (by simp [sv]) (fun j u hj => by
    obtain ⟨l, hl, rfl⟩ := Option.map_eq_some_iff.1 (by rwa [sv, List.getElem?_map] at hj)
    exact hc j l hl) (fun u hu => by
    obtain ⟨l, _, rfl⟩ := List.mem_map.1 hu
    rfl) (by simp only [maxLen]; omega) (by omega) hb
  have e : sv xs0 ++ sv news = sv (xs0 ++ news) := by simp [sv]
  rw [e] at h2
  obtain ⟨sp, cap, rfl, _⟩ := own_form9 h2
  unfold Oper.wp execOp
  simp only [ho, resolve, invoke, builtin, Sem.run_bind, Sem.run_pure, Result.andThen_ok, List.map_toArray, List.map_cons, List.map_nil, hs, hx, hr]
  exact h sp cap w' h2 ((Below.refl base W).grown h3 hb fun j ej => (hown.lt j ej).1) fun hn => (Below.refl _ W).grown h3 (Nat.le_refl _) fun j ej => by rw [hn] at ej; cases ej
theorem str_add (g k j : Nat) : (⟨g, k, none⟩ : Addr).add j = ⟨g, k + j, none⟩ := by unfold Addr.add; split <;> simp_all
theorem rest_at {w : World} {g L cap M : Nat} {ls : List (List UInt8)} (h : LRow w g L ls) (hl : ls.length = L) (hM : M + 1 = L) (hc : L ≤ cap) :
    ∃ AD : Addr, (if cap = 1 then some (⟨g, 0, none⟩ : Addr) else some ⟨g, 1, none⟩) = some AD ∧ ∀ w1, Below w.heap.size w w1 → ∀ j l, ls.tail[j]? = some l → w1.cell? (AD.add j) = some (.string (mk l)) := by
  have hj : ∀ j l, ls.tail[j]? = some l → j < M ∧ ls.getD (1 + j) [] = l := fun j l hj => by
    have hlt : j < ls.tail.length := (List.getElem?_eq_some_iff.1 hj).1
    rw [List.length_tail, hl] at hlt
    refine ⟨by omega, ?_⟩
    rw [List.getElem?_tail] at hj
    rw [List.getD_eq_getElem?_getD, Nat.add_comm 1 j, hj]
    rfl
  by_cases hcj : cap = 1
  · refine ⟨⟨g, 0, none⟩, by rw [if_pos hcj], fun w1 _ j l h1 => ?_⟩
    have := (hj j l h1).1
    omega
  · refine ⟨⟨g, 1, none⟩, by rw [if_neg hcj], fun w1 hb j l h1 => ?_⟩
    obtain ⟨h2, h3⟩ := hj j l h1
    rw [str_add, ((h.on hb).2 (1 + j) (by omega)), h3]
theorem one_str (W : World) (l : List UInt8) : ∀ j x, [l][j]? = some x → (W.alloc (.cells #[.string (mk l)] 9)).cell? ((⟨W.heap.size, 0, none⟩ : Addr).add j) = some (.string (mk x)) := fun j x hj => by
  rw [str_add, Nat.zero_add, cell_of (alloc_at W _)]
  rcases j with _ | j
  · simp only [List.getElem?_cons_zero, Option.some.injEq] at hj
    subst hj
    rfl
  · simp at hj
set_option maxHeartbeats 16000000 in
theorem ilines_first {w : World} (hE : Env3 w) {u : Nat} {sp cp : Option Addr} {ds cs : List Int} {dc k kc : Nat} (h : ImgA w sp ds dc cp cs k kc) (hd : ds.length ≤ 300) (hk : k ≤ 100) (hok : okI (u : Nat) ds cs k = true) (m0 : Nat) (hm0 : m0 ≤ 255) :
    Calls Tryz.prog 6 #[.agg #[.int .i64 (u : Nat), .slice sp ds.length dc, .slice cp k kc], .int .u8 (m0 : Nat), .bool false] w fun e w' => e = .returned (.bool true) ∧ Below w.heap.size w w' := by
  have HE3 : Hid (∀ W, Below w.heap.size w W → Env3 W) := fun W hW => hE.on hW
  have cA : Hid (∀ W, Below w.heap.size w W → _) := fun W hW => alive_any W (hE.on hW)
  have cK0 : ∀ W, Below w.heap.size w W → _ := fun W hW => Check_img (size := (u : Nat)) (hE.on hW).two.env (h.i.on hW) dc kc
  rw [hok] at cK0
  have cK : Hid (∀ W, Below w.heap.size w W → _) := cK0
  obtain ⟨⟨_, hu, _, _⟩, hmay⟩ := (okI_iff _ _ _ _).1 hok
  have hu4 : u ≤ 4096 := by omega
  have hMay : MayC cs k := fun t ht => (mayAll_iff cs k).1 hmay t ht
  obtain ⟨r, hr⟩ : ∃ r, m0 % 40 = r := ⟨_, rfl⟩
  have hr40 : r < 40 := by omega
  obtain ⟨m, hm⟩ : ∃ m, 1 + r = m := ⟨_, rfl⟩
  have hm40 : 0 < m ∧ m ≤ 40 := by omega
  have t1 : Int.tmod (m0 : Int) 40 = (r : Int) := by rw [← hr]; exact (Int.ofNat_tmod m0 40).symm
  have t2 : (1 : Int) + (r : Int) = (m : Int) := by omega
  obtain ⟨c, hc⟩ : ∃ c, many1 ds.length m = c := ⟨_, rfl⟩
  have cL0 : ∀ W, Below w.heap.size w W → _ := fun W hW => lines_any (w := W) (many := m) (h.on hW) (hE.on hW).two.env hu4 hd hk hm40.1 hm40.2 hMay
  obtain ⟨l0, hl0⟩ : ∃ l0, lnP u ds cs k m c = l0 := ⟨_, rfl⟩
  rw [hc, hl0] at cL0
  obtain ⟨L, hL⟩ : ∃ L, 1 + c + k = L := ⟨_, rfl⟩
  have hll : l0.length = L := by rw [← hl0, lnP_len]; exact hL
  rw [hL] at cL0
  have hc300 : c ≤ 300 := by
    rcases Nat.eq_zero_or_pos c with h | h
    · omega
    · have h1 := many1_lo (len := ds.length) hm40.1 (t := c - 1) (by rw [hc]; omega)
      have h2 : (c - 1) * 1 ≤ (c - 1) * m := Nat.mul_le_mul_left _ hm40.1
      omega
  have hL401 : L ≤ 401 := by omega
  have hL0 : 0 < L := by omega
  have HLG : Hid (LG l0 L u ds cs k) := by
    refine ⟨hll, ?_, ?_, ?_⟩
    · rw [← hl0]
      exact run_lnP (by omega) h.i.db h.i.cb hm40.1 (fun t ht => many1_lo hm40.1 (by rw [hc]; exact ht)) (by rw [← hc]; exact many1_hi hm40.1) h.i.len hMay
    · rw [← hl0]; exact clean_lnP h.i.db h.i.cb hMay
    · rw [← hl0]; exact sht_lnP hu4 h.i.cb hm40.2 hMay
  have HL0 : Hid (l0.length = L) := hll
  have HOK : Hid (okI (u : Nat) ds cs k = true) := hok
  have HI : Hid (ImgA w sp ds dc cp cs k kc) := h
  obtain ⟨dl, hdl⟩ : ∃ dl, ds.length = dl := ⟨_, rfl⟩
  have HDL : Hid (ds.length = dl) := hdl
  obtain ⟨s1, hs1⟩ : ∃ s1, dl + r = s1 := ⟨_, rfl⟩
  obtain ⟨c1, hc1⟩ : ∃ c1, 1 + c = c1 := ⟨_, rfl⟩
  have t3 : (dl : Int) + (r : Int) = (s1 : Int) := by omega
  have t4 : Int.tdiv (s1 : Int) (m : Int) = (c : Int) := by
    rw [← Int.ofNat_tdiv]
    unfold many1 at hc
    rw [← hc, hdl, ← hs1, show r = m - 1 by omega]
  have t5 : (1 : Int) + (c : Int) = (c1 : Int) := by omega
  have t6 : (c1 : Int) + (k : Int) = (L : Int) := by omega
  have hmz : ((m : Int) == 0) = false := by simp; omega
  have hmz2 : (m == 0) = false := by simp; omega
  have hLL : ((L : Int) == (L : Int)) = true := by simp
  have hb0 : Below w.heap.size w (w.alloc (.cells #[.int .i64 (u : Nat), .slice sp dl dc, .slice cp k kc] 25)) := alloc_below _ _
  have X : Box (w.alloc (.cells #[.int .i64 (u : Nat), .slice sp dl dc, .slice cp k kc] 25)) w.heap.size (.int .i64 (u : Nat)) (.slice sp dl dc) (.slice cp k kc) := Box.new w _ _ _ _
  rw [hdl] at cK cL0 hd ⊢
  have cL : Hid (∀ W, Below w.heap.size w W → _) := cL0
  have h1I : ¬ ((300 : Int) < dl) := by omega
  have h2I : ¬ ((100 : Int) < k) := by omega
  have hs340 : s1 ≤ 340 := by omega
  have hc1l : c1 ≤ 301 := by omega
  clear hE h hok hmay hMay hl0 hll hm hr hc hL hdl hs1 hc1 cK0 cL0 hu
  go_enter Tryz.func6, Tryz.ntmps6
  go_wp2_with (first
    | (go_at_call 26; refine (cA.out _ hb0).mono ?_; rintro e w1 ⟨rfl, hb1⟩; have B1 : Hid (Below w.heap.size w w1) := on1 hb0 hb1; have X1 := X.on hb1; have x0 := X1.c0; have x1 := X1.c1; have x2 := X1.c2; clear hb1)
    | (go_at_call 12; refine (cK.out _ B1.out).mono ?_; rintro e w2 ⟨rfl, hb2⟩; have B2 : Hid (Below w.heap.size w w2) := on1 B1.out hb2; have X2 := X1.on hb2; have z0 := X2.c0; have z1 := X2.c1; have z2 := X2.c2; clear hb2)
    | (go_at_call 27; refine (cL.out _ B2.out).mono ?_; rintro e w3 ⟨v3, rfl, o3, hb3⟩; obtain ⟨g3, c3, rfl, hc3, hcm3, r3⟩ := row_at o3 HL0.out hL0; have HR3 : Hid (LRow w3 g3 L l0) := r3; have B3 : Hid (Below w.heap.size w w3) := on1 B2.out hb3; have HX3 : Hid (Box w3 w.heap.size (.int .i64 (u : Nat)) (.slice sp dl dc) (.slice cp k kc)) := X2.on hb3; clear o3 r3 hb3))
  have HROW : Hid (LRow w3 g3 L l0) := HR3
  go_loopg [8, 9, 10] L (fun gk s8 s9 s10 wx => ∃ (i : Nat) (sa sb : ByteArray), i + gk = L ∧ s10 = .int .i64 (i : Int) ∧ s8 = .string sa ∧ s9 = .string sb ∧ Hid (sa = mk (aT (l0.take i)) ∧ sb = mk (bP l0 i)) ∧ Hid (Below w3.heap.size w3 wx))
  case atStart => exact ⟨0, _, _, by omega, rfl, rfl, rfl, ⟨rfl, by rw [bP_zero (by rw [HLG.out.len]; exact hL0)]; rfl⟩, Below.refl _ _⟩
  case round =>
    obtain ⟨i, sa, sb, hig, rfl, rfl, rfl, HS, HB⟩ := hrel
    have hrow := HROW.out.on HB.out
    cases gk with
    | succ g' =>
      have hlt : (i : Int) < L := by omega
      have hil : i < l0.length := by rw [HLG.out.len]; omega
      have cl := hrow.2 i (by omega)
      obtain ⟨x, hx⟩ : ∃ x, mk (l0.getD i []) = x := ⟨_, rfl⟩
      have HX : Hid (mk (l0.getD i []) = x) := hx
      rw [hx] at cl
      have zx : x.size ≤ 100 := by rw [← hx, mk_size]; exact HLG.out.sht.at i
      have za : sa.size ≤ 50000 := by
        have h1 := aT_len (ls := l0.take i) (fun l hl => HLG.out.sht l (List.mem_of_mem_take hl))
        rw [HS.out.1, mk_size]
        have h2 : (l0.take i).length ≤ 401 := by rw [List.length_take]; omega
        omega
      have zb : sb.size ≤ 90000 := by
        have h1 := bP_len HLG.out.sht i (by omega)
        have h2 := HLG.out.len
        rw [HS.out.2, mk_size]
        omega
      obtain ⟨e1, y1, r1, E1⟩ := add_ok sa x 50000 100 za zx (by decide) (by decide)
      obtain ⟨e2, y2, r2, E2⟩ := add_ok e1 ⟨#[10]⟩ 50100 1 y1 (by decide) (by decide) (by decide)
      obtain ⟨f1, v1, q1, F1⟩ := add_ok sb ⟨#[35, 32]⟩ 90000 2 zb (by decide) (by decide) (by decide)
      obtain ⟨f2, v2, q2, F2⟩ := add_ok f1 x 90002 100 v1 zx (by decide) (by decide)
      obtain ⟨f3, v3, q3, F3⟩ := add_ok f2 ⟨#[10, 10]⟩ 90102 2 v2 (by decide) (by decide) (by decide)
      obtain ⟨f4, v4, q4, F4⟩ := add_ok f3 x 90104 100 v3 zx (by decide) (by decide)
      obtain ⟨f5, v5, q5, F5⟩ := add_ok f4 ⟨#[10]⟩ 90204 1 v4 (by decide) (by decide) (by decide)
      have HA1 : Hid (e2 = mk (aT (l0.take (i + 1)))) := by
        show _ = _
        rw [E2.out, E1.out, HS.out.1, ← HX.out, aT_take l0 hil]
        show mk _ ++ mk _ ++ mk [10] = _
        rw [ba_mk, ba_mk]
      have HF4 : Hid (f4 = mk (bP l0 i ++ cm (l0.getD i []))) := by
        show _ = _
        rw [F4.out, F3.out, F2.out, F1.out, HS.out.2, ← HX.out]
        show mk _ ++ mk [35, 32] ++ mk _ ++ mk [10, 10] ++ mk _ = _
        rw [ba_mk, ba_mk, ba_mk, ba_mk]
        refine congrArg mk ?_
        simp [cm]
      have HF5 : Hid (f5 = mk (bP l0 i ++ cm (l0.getD i []) ++ [10])) := by
        show _ = _
        rw [F5.out, HF4.out]
        show mk _ ++ mk [10] = _
        rw [ba_mk]
      clear hx hrow zx za zb y1 y2 v1 v2 v3 v4 v5 E1 E2 F1 F2 F3 F4 F5
      by_cases hn : i + 1 < L
      · have hnI : (i : Int) + 1 < L := by omega
        have HB2 : Hid (f5 = mk (bP l0 (i + 1))) := by show _ = _; rw [HF5.out, bP_next (by rw [HLG.out.len]; exact hn)]
        go_wp2
        go_quiet ((fail))
        go_wp2
        go_roundg g'
        case measure => omega
        case rel => exact ⟨i + 1, e2, f5, by omega, by go_num, rfl, rfl, ⟨HA1.out, HB2.out⟩, HB.out.trans ((below_drewN wr nq).mono HB.out.size)⟩
      · have hnI : ¬ (i : Int) + 1 < L := by omega
        have HB2 : Hid (f4 = mk (bP l0 (i + 1))) := by show _ = _; rw [HF4.out, bP_last (by rw [HLG.out.len]; omega)]
        go_wp2
        go_quiet ((fail))
        go_wp2
        go_roundg g'
        case measure => omega
        case rel => exact ⟨i + 1, e2, f4, by omega, by go_num, rfl, rfl, ⟨HA1.out, HB2.out⟩, HB.out.trans ((below_drewN wr nq).mono HB.out.size)⟩
    | zero =>
      obtain rfl : i = L := by omega
      have hlt : ¬ ((i : Int) < i) := by omega
      have hLs := HLG.out.len
      have esa : sa = mk (aT l0) := by rw [HS.out.1, List.take_of_length_le (by omega)]
      have esb : sb = mk (bT l0) := by rw [HS.out.2, ← hLs, bP_all]
      have hpa := lg_a HLG.out hL401
      have hpb := lg_b HLG.out hL401
      rw [← esa] at hpa
      rw [← esb] at hpb
      have HP1 : Hid (∀ W, Below w.heap.size w W → Calls Tryz.prog 24 #[.string sa] W fun e w' => ∃ dp dc cp kc, e = .returned (.tuple #[.agg #[.int .i64 (u : Nat), .slice dp dl dc, .slice cp k kc], .int .i64 0, .int .i64 0]) ∧ Img w' dp ds cp cs k ∧ Below W.heap.size W w') := fun W hW => by
        have := parse_img (HE3.out W hW) sa hpa.1 hpa.2 HOK.out
        rw [HDL.out] at this
        exact this
      have HP2 : Hid (∀ W, Below w.heap.size w W → Calls Tryz.prog 24 #[.string sb] W fun e w' => ∃ dp dc cp kc, e = .returned (.tuple #[.agg #[.int .i64 (u : Nat), .slice dp dl dc, .slice cp k kc], .int .i64 0, .int .i64 0]) ∧ Img w' dp ds cp cs k ∧ Below W.heap.size W w') := fun W hW => by
        have := parse_img (HE3.out W hW) sb hpb.1 hpb.2 HOK.out
        rw [HDL.out] at this
        exact this
      have HSM : Hid (∀ (W : World) (dp cp' : Option Addr) (dc' kc' : Nat), Img W dp ds cp' cs k → Img W sp ds cp cs k → Calls Tryz.prog 22 #[.agg #[.int .i64 (u : Nat), .slice dp dl dc', .slice cp' k kc'], .agg #[.int .i64 (u : Nat), .slice sp dl dc, .slice cp k kc]] W fun e w' => e = .returned (.bool true) ∧ Below W.heap.size W w') := fun W dp cp' dc' kc' h1 h2 => by
        have := sameM_any (n := (u : Nat)) (n' := (u : Nat)) h1 h2 (by have := HDL.out; omega) (by have := HDL.out; omega) (by omega) (by omega) dc' dc kc' kc
        rw [HDL.out, (sameB_iff (u : Nat) (u : Nat) ds ds cs cs).2 ⟨rfl, rfl, rfl⟩] at this
        exact this
      have B4 : Hid (Below w.heap.size w wr) := on1 B3.out ( HB.out)
      have HX4 : Hid (Box wr w.heap.size (.int .i64 (u : Nat)) (.slice sp dl dc) (.slice cp k kc)) := HX3.out.on ( HB.out)
      clear hLs esa esb hpa hpb hrow HS HROW HLG HR3 HB x0 x1 x2 z0 z1 z2 X X1 X2
      go_wp2_with (first
        | (go_at_call 22; refine (HSM.out _ _ _ _ _ (J7.out.1) (J7.out.2)).mono ?_; rintro e w8 ⟨rfl, hb8⟩; have X8 := HX7.out.on hb8; have n0 := X8.c0; have n1 := X8.c1; have n2 := X8.c2; have B8 : Hid (Below w.heap.size w w8) := on1 B7.out hb8; clear hb8)
        | (go_at_call 22; refine (HSM.out _ _ _ _ _ (J6.out.1.on (alloc_below _ _)) (J6.out.2.2.on (alloc_below _ _))).mono ?_; rintro e w7 ⟨rfl, hb7⟩; have J7 : Hid (Img w7 d6 ds c6 cs k ∧ Img w7 sp ds cp cs k) := ⟨(J6.out.2.1.on (alloc_below _ _)).on hb7, (J6.out.2.2.on (alloc_below _ _)).on hb7⟩; have X7 := (HX6.out.on (alloc_below _ _)).on hb7; have HX7 : Hid (Box w7 w.heap.size (.int .i64 (u : Nat)) (.slice sp dl dc) (.slice cp k kc)) := X7; have Y7 : Box w7 w6.heap.size (.int .i64 (u : Nat)) (.slice d6 dl dc6) (.slice c6 k kc6) := (Box.new w6 _ _ _ _).on hb7; have o0 := X7.c0; have o1 := X7.c1; have o2 := X7.c2; have o3 := Y7.c0; have o4 := Y7.c1; have o5 := Y7.c2; have B7 : Hid (Below w.heap.size w w7) := on1 (on1 B6.out (alloc_below _ _)) hb7; clear hb7)
        | (go_at_call 24; refine (HP2.out _ (on1 B5.out (alloc_below _ _))).mono ?_; rintro e w6 ⟨d6, dc6, c6, kc6, rfl, i6, hb6⟩; have J6 : Hid (Img w6 d5 ds c5 cs k ∧ Img w6 d6 ds c6 cs k ∧ Img w6 sp ds cp cs k) := ⟨(J5.out.1.on (alloc_below _ _)).on hb6, i6, (J5.out.2.on (alloc_below _ _)).on hb6⟩; have X6 := (HX5.out.on (alloc_below _ _)).on hb6; have HX6 : Hid (Box w6 w.heap.size (.int .i64 (u : Nat)) (.slice sp dl dc) (.slice cp k kc)) := X6; have Y6 : Box w6 w5.heap.size (.int .i64 (u : Nat)) (.slice d5 dl dc5) (.slice c5 k kc5) := (Box.new w5 _ _ _ _).on hb6; have y0 := X6.c0; have y1 := X6.c1; have y2 := X6.c2; have y3 := Y6.c0; have y4 := Y6.c1; have y5 := Y6.c2; have l1 := cell_lt y0; have l2 := cell_lt y3; have B6 : Hid (Below w.heap.size w w6) := on1 (on1 B5.out (alloc_below _ _)) hb6; clear i6 hb6)
        | (go_at_call 24; refine (HP1.out _ B4.out).mono ?_; rintro e w5 ⟨d5, dc5, c5, kc5, rfl, i5, hb5⟩; have J5 : Hid (Img w5 d5 ds c5 cs k ∧ Img w5 sp ds cp cs k) := ⟨i5, (HI.out.i.on B4.out).on hb5⟩; have HX5 : Hid (Box w5 w.heap.size (.int .i64 (u : Nat)) (.slice sp dl dc) (.slice cp k kc)) := HX4.out.on hb5; have B5 : Hid (Below w.heap.size w w5) := on1 B4.out hb5; clear i5 hb5))
      go_ret
      exact ⟨rfl, B8.out⟩
set_option maxHeartbeats 16000000 in
theorem ilines_last {w : World} (hE : Env3 w) {u : Nat} {sp cp : Option Addr} {ds cs : List Int} {dc k kc : Nat} (h : ImgA w sp ds dc cp cs k kc) (hd : ds.length ≤ 300) (hk : k ≤ 100) (hok : okI (u : Nat) ds cs k = true) (m0 : Nat) (hm0 : m0 ≤ 255) :
    Calls Tryz.prog 6 #[.agg #[.int .i64 (u : Nat), .slice sp ds.length dc, .slice cp k kc], .int .u8 (m0 : Nat), .bool true] w fun e w' => e = .returned (.bool true) ∧ Below w.heap.size w w' := by
  have HE3 : Hid (∀ W, Below w.heap.size w W → Env3 W) := fun W hW => hE.on hW
  have cA : Hid (∀ W, Below w.heap.size w W → _) := fun W hW => alive_any W (hE.on hW)
  have cK0 : ∀ W, Below w.heap.size w W → _ := fun W hW => Check_img (size := (u : Nat)) (hE.on hW).two.env (h.i.on hW) dc kc
  rw [hok] at cK0
  have cK : Hid (∀ W, Below w.heap.size w W → _) := cK0
  obtain ⟨⟨_, hu, _, _⟩, hmay⟩ := (okI_iff _ _ _ _).1 hok
  have hu4 : u ≤ 4096 := by omega
  have hMay : MayC cs k := fun t ht => (mayAll_iff cs k).1 hmay t ht
  obtain ⟨r, hr⟩ : ∃ r, m0 % 40 = r := ⟨_, rfl⟩
  have hr40 : r < 40 := by omega
  obtain ⟨m, hm⟩ : ∃ m, 1 + r = m := ⟨_, rfl⟩
  have hm40 : 0 < m ∧ m ≤ 40 := by omega
  have t1 : Int.tmod (m0 : Int) 40 = (r : Int) := by rw [← hr]; exact (Int.ofNat_tmod m0 40).symm
  have t2 : (1 : Int) + (r : Int) = (m : Int) := by omega
  obtain ⟨c, hc⟩ : ∃ c, many1 ds.length m = c := ⟨_, rfl⟩
  have cL0 : ∀ W, Below w.heap.size w W → _ := fun W hW => lines_any (w := W) (many := m) (h.on hW) (hE.on hW).two.env hu4 hd hk hm40.1 hm40.2 hMay
  obtain ⟨l0, hl0⟩ : ∃ l0, lnP u ds cs k m c = l0 := ⟨_, rfl⟩
  rw [hc, hl0] at cL0
  obtain ⟨L, hL⟩ : ∃ L, 1 + c + k = L := ⟨_, rfl⟩
  have hll : l0.length = L := by rw [← hl0, lnP_len]; exact hL
  rw [hL] at cL0
  have hc300 : c ≤ 300 := by
    rcases Nat.eq_zero_or_pos c with h | h
    · omega
    · have h1 := many1_lo (len := ds.length) hm40.1 (t := c - 1) (by rw [hc]; omega)
      have h2 : (c - 1) * 1 ≤ (c - 1) * m := Nat.mul_le_mul_left _ hm40.1
      omega
  have hL401 : L ≤ 401 := by omega
  have hL0 : 0 < L := by omega
  obtain ⟨lR, hlR⟩ : ∃ lR, lnR u ds cs k m c = lR := ⟨_, rfl⟩
  obtain ⟨M, hM⟩ : ∃ M, M + 1 = L := ⟨L - 1, by omega⟩
  have hRt : lR = l0.tail ++ [l0.getD 0 []] := by
    rw [← hlR, lnR_of, hl0]
    cases l0 with
    | nil => simp at hll; omega
    | cons a r => rfl
  have HRT : Hid (lR = l0.tail ++ [l0.getD 0 []]) := hRt
  have HM : Hid (M + 1 = L) := hM
  have hM400 : M ≤ 400 := by omega
  have HLG : Hid (LG lR L u ds cs k) := by
    refine ⟨by rw [hRt, List.length_append, List.length_tail, hll]; simp; omega, ?_, ?_, ?_⟩
    · rw [← hlR]
      exact run_lnR (by omega) h.i.db h.i.cb hm40.1 (fun t ht => many1_lo hm40.1 (by rw [hc]; exact ht)) (by rw [← hc]; exact many1_hi hm40.1) h.i.len hMay
    · rw [← hlR]; exact clean_lnR h.i.db h.i.cb hMay
    · rw [← hlR]; exact sht_lnR hu4 h.i.cb hm40.2 hMay
  have HL0 : Hid (l0.length = L) := hll
  have HOK : Hid (okI (u : Nat) ds cs k = true) := hok
  have HI : Hid (ImgA w sp ds dc cp cs k kc) := h
  obtain ⟨dl, hdl⟩ : ∃ dl, ds.length = dl := ⟨_, rfl⟩
  have HDL : Hid (ds.length = dl) := hdl
  obtain ⟨s1, hs1⟩ : ∃ s1, dl + r = s1 := ⟨_, rfl⟩
  obtain ⟨c1, hc1⟩ : ∃ c1, 1 + c = c1 := ⟨_, rfl⟩
  have t3 : (dl : Int) + (r : Int) = (s1 : Int) := by omega
  have t4 : Int.tdiv (s1 : Int) (m : Int) = (c : Int) := by
    rw [← Int.ofNat_tdiv]
    unfold many1 at hc
    rw [← hc, hdl, ← hs1, show r = m - 1 by omega]
  have t5 : (1 : Int) + (c : Int) = (c1 : Int) := by omega
  have t6 : (c1 : Int) + (k : Int) = (L : Int) := by omega
  have hmz : ((m : Int) == 0) = false := by simp; omega
  have hmz2 : (m == 0) = false := by simp; omega
  have hLL : ((L : Int) == (L : Int)) = true := by simp
  have hb0 : Below w.heap.size w (w.alloc (.cells #[.int .i64 (u : Nat), .slice sp dl dc, .slice cp k kc] 25)) := alloc_below _ _
  have X : Box (w.alloc (.cells #[.int .i64 (u : Nat), .slice sp dl dc, .slice cp k kc] 25)) w.heap.size (.int .i64 (u : Nat)) (.slice sp dl dc) (.slice cp k kc) := Box.new w _ _ _ _
  rw [hdl] at cK cL0 hd ⊢
  have cL : Hid (∀ W, Below w.heap.size w W → _) := cL0
  have h1I : ¬ ((300 : Int) < dl) := by omega
  have h2I : ¬ ((100 : Int) < k) := by omega
  have hs340 : s1 ≤ 340 := by omega
  have hc1l : c1 ≤ 301 := by omega
  clear hE h hok hmay hMay hl0 hll hm hr hc hL hdl hs1 hc1 cK0 cL0 hu
  go_enter Tryz.func6, Tryz.ntmps6
  go_wp2_with (first
    | (go_at_call 26; refine (cA.out _ hb0).mono ?_; rintro e w1 ⟨rfl, hb1⟩; have B1 : Hid (Below w.heap.size w w1) := on1 hb0 hb1; have X1 := X.on hb1; have x0 := X1.c0; have x1 := X1.c1; have x2 := X1.c2; clear hb1)
    | (go_at_call 12; refine (cK.out _ B1.out).mono ?_; rintro e w2 ⟨rfl, hb2⟩; have B2 : Hid (Below w.heap.size w w2) := on1 B1.out hb2; have X2 := X1.on hb2; have z0 := X2.c0; have z1 := X2.c1; have z2 := X2.c2; clear hb2)
    | (go_at_call 27; refine (cL.out _ B2.out).mono ?_; rintro e w3 ⟨v3, rfl, o3, hb3⟩; obtain ⟨g3, c3, rfl, hc3, hcm3, r3⟩ := row_at o3 HL0.out hL0; have HR3 : Hid (LRow w3 g3 L l0) := r3; have B3 : Hid (Below w.heap.size w w3) := on1 B2.out hb3; have HX3 : Hid (Box w3 w.heap.size (.int .i64 (u : Nat)) (.slice sp dl dc) (.slice cp k kc)) := X2.on hb3; clear o3 r3 hb3))
  obtain ⟨AD, hA, hAD⟩ := rest_at HR3.out HL0.out HM.out hc3
  have HAD : Hid (∀ w1, Below w3.heap.size w3 w1 → ∀ j l, l0.tail[j]? = some l → w1.cell? (AD.add j) = some (.string (mk l))) := hAD
  have HT : Hid (l0.tail.length = M) := by show _ = _; rw [List.length_tail, HL0.out]; have := HM.out; omega
  have hf := HR3.out.2 0 hL0
  have hg3 := HR3.out.1
  have HF1 : Hid (∀ W, Below w3.heap.size w3 W → W.cell? ⟨g3, 0, none⟩ = some (.string (mk (l0.getD 0 [])))) := fun W hW => ((bcell hW).1 _ _ HR3.out.1).trans (HR3.out.2 0 hL0)
  have hML : L - 1 = M := by have := HM.out; omega
  have h1L : (1 : Int) ≤ (L : Int) := by omega
  have h0L : (0 : Int) < (L : Int) := by omega
  have hc3I : (L : Int) ≤ (c3 : Int) := by omega
  have hd0 : Below w3.heap.size w3 w3.drew := (Below.refl _ w3).drew
  have hd1 : Below w3.heap.size w3 (w3.alloc (.cells #[.string (mk (l0.getD 0 []))] 9)).drew := (alloc_below w3 _).drew
  simp only [maxLen] at hcm3
  clear hAD x0 x1 x2 z0 z1 z2 X X1 X2
  go_region_law (first
    | (refine step_strs rfl (.tmp 47) (.tmp 51) rfl w3.heap.size (.slice s1 M c1') M ([] ++ l0.tail) (by go_simp) H1.out.1 ⟨w3.heap.size, 0, none⟩ 1 1 [l0.getD 0 []] (by go_simp) rfl L HM.out (by omega) HONE.out H1.out.2.size ?_; intro s2 c2' w4 ho4 hb4 _; have H4 : Hid (w4.ownsRow w3.heap.size 9 1 (.slice s2 L c2') L (sv (([] ++ l0.tail) ++ [l0.getD 0 []])) ∧ Below w3.heap.size w3 w4) := ⟨ho4, H1.out.2.trans hb4⟩; clear ho4 hb4 HONE)
    | (refine step_strs rfl (.tmp 47) (.tmp 51) rfl w3.heap.size (.slice s1 M c1') M ([] ++ l0.tail) (by go_simp) (H1.out.1.alloc _) ⟨w1'.heap.size, 0, none⟩ 1 1 [l0.getD 0 []] (by go_simp) rfl L HM.out (by omega) (one_str w1' (l0.getD 0 [])) (Nat.le_trans H1.out.2.size (alloc_below w1' _).size) ?_; intro s2 c2' w4 ho4 hb4 _; have H4 : Hid (w4.ownsRow w3.heap.size 9 1 (.slice s2 L c2') L (sv (([] ++ l0.tail) ++ [l0.getD 0 []])) ∧ Below w3.heap.size w3 w4) := ⟨ho4, (H1.out.2.trans ((alloc_below w1' _).mono H1.out.2.size)).trans hb4⟩; clear ho4 hb4)
    | (refine step_strs rfl (.const (.slice none 0 0)) (.tmp 46) rfl w3.heap.size (.slice none 0 0) 0 [] rfl (World.ownsRow_nil _ _ _ _) AD M (c3 - 1) l0.tail (by go_simp) HT.out M (Nat.zero_add M) (by omega) (HAD.out ((w3.alloc (.cells #[.string (mk (l0.getD 0 []))] 9)).drew) hd1) hd1.size ?_; intro s1 c1' w1' ho1 hb1' hbb; have H1 : Hid (w1'.ownsRow w3.heap.size 9 1 (.slice s1 M c1') M (sv ([] ++ l0.tail)) ∧ Below w3.heap.size w3 w1') := ⟨ho1, hd1.trans hb1'⟩; have HONE : Hid (∀ j x, [l0.getD 0 []][j]? = some x → w1'.cell? ((⟨w3.heap.size, 0, none⟩ : Addr).add j) = some (.string (mk x))) := (fun j x hj => by rw [str_add, (hbb rfl).cell (p := ⟨w3.heap.size, 0 + j, none⟩) (by show _ < (w3.alloc (.cells #[.string (mk (l0.getD 0 []))] 9)).heap.size; rw [alloc_size]; exact Nat.lt_succ_self _), ← str_add]; exact one_str w3 (l0.getD 0 []) j x hj); clear ho1 hb1' hbb)
    | (refine step_strs rfl (.const (.slice none 0 0)) (.tmp 46) rfl w3.heap.size (.slice none 0 0) 0 [] rfl (World.ownsRow_nil _ _ _ _) AD M (c3 - 1) l0.tail (by go_simp) HT.out M (Nat.zero_add M) (by omega) (HAD.out w3.drew hd0) hd0.size ?_; intro s1 c1' w1' ho1 hb1' hbb; have H1 : Hid (w1'.ownsRow w3.heap.size 9 1 (.slice s1 M c1') M (sv ([] ++ l0.tail)) ∧ Below w3.heap.size w3 w1') := ⟨ho1, hd0.trans hb1'⟩; have k1 := HF1.out w1' (hd0.trans hb1'); clear ho1 hb1' hbb))
  all_goals
    have H5 : Hid (w4.ownsRow w3.heap.size 9 1 (.slice s2 L c2') L (sv lR)) := by have := H4.out.1; rw [List.nil_append, ← HRT.out] at this; exact this
    obtain ⟨g4, c4, e4, _, _, r4⟩ := row_at H5.out HLG.out.len hL0
    simp only [Value.slice.injEq] at e4
    obtain ⟨es4, _, ec4⟩ := e4
    subst es4 ec4
    have HROW : Hid (LRow w4 g4 L lR) := r4
    have BL : Hid (Below w.heap.size w w4) := on1 B3.out H4.out.2
    have HXL : Hid (Box w4 w.heap.size (.int .i64 (u : Nat)) (.slice sp dl dc) (.slice cp k kc)) := HX3.out.on H4.out.2
    clear H4 H5 r4 hf
    go_wp2
    go_loopg [8, 9, 10] L (fun gk s8 s9 s10 wx => ∃ (i : Nat) (sa sb : ByteArray), i + gk = L ∧ s10 = .int .i64 (i : Int) ∧ s8 = .string sa ∧ s9 = .string sb ∧ Hid (sa = mk (aT (lR.take i)) ∧ sb = mk (bP lR i)) ∧ Hid (Below w4.heap.size w4 wx))
    case atStart => exact ⟨0, _, _, by omega, rfl, rfl, rfl, ⟨rfl, by rw [bP_zero (by rw [HLG.out.len]; exact hL0)]; rfl⟩, Below.refl _ _⟩
    case round =>
      obtain ⟨i, sa, sb, hig, rfl, rfl, rfl, HS, HB⟩ := hrel
      have hrow := HROW.out.on HB.out
      cases gk with
      | succ g' =>
        have hlt : (i : Int) < L := by omega
        have hil : i < lR.length := by rw [HLG.out.len]; omega
        have cl := hrow.2 i (by omega)
        obtain ⟨x, hx⟩ : ∃ x, mk (lR.getD i []) = x := ⟨_, rfl⟩
        have HX : Hid (mk (lR.getD i []) = x) := hx
        rw [hx] at cl
        have zx : x.size ≤ 100 := by rw [← hx, mk_size]; exact HLG.out.sht.at i
        have za : sa.size ≤ 50000 := by
          have h1 := aT_len (ls := lR.take i) (fun l hl => HLG.out.sht l (List.mem_of_mem_take hl))
          rw [HS.out.1, mk_size]
          have h2 : (lR.take i).length ≤ 401 := by rw [List.length_take]; omega
          omega
        have zb : sb.size ≤ 90000 := by
          have h1 := bP_len HLG.out.sht i (by omega)
          have h2 := HLG.out.len
          rw [HS.out.2, mk_size]
          omega
        obtain ⟨e1, y1, r1, E1⟩ := add_ok sa x 50000 100 za zx (by decide) (by decide)
        obtain ⟨e2, y2, r2, E2⟩ := add_ok e1 ⟨#[10]⟩ 50100 1 y1 (by decide) (by decide) (by decide)
        obtain ⟨f1, v1, q1, F1⟩ := add_ok sb ⟨#[35, 32]⟩ 90000 2 zb (by decide) (by decide) (by decide)
        obtain ⟨f2, v2, q2, F2⟩ := add_ok f1 x 90002 100 v1 zx (by decide) (by decide)
        obtain ⟨f3, v3, q3, F3⟩ := add_ok f2 ⟨#[10, 10]⟩ 90102 2 v2 (by decide) (by decide) (by decide)
        obtain ⟨f4, v4, q4, F4⟩ := add_ok f3 x 90104 100 v3 zx (by decide) (by decide)
        obtain ⟨f5, v5, q5, F5⟩ := add_ok f4 ⟨#[10]⟩ 90204 1 v4 (by decide) (by decide) (by decide)
        have HA1 : Hid (e2 = mk (aT (lR.take (i + 1)))) := by
          show _ = _
          rw [E2.out, E1.out, HS.out.1, ← HX.out, aT_take lR hil]
          show mk _ ++ mk _ ++ mk [10] = _
          rw [ba_mk, ba_mk]
        have HF4 : Hid (f4 = mk (bP lR i ++ cm (lR.getD i []))) := by
          show _ = _
          rw [F4.out, F3.out, F2.out, F1.out, HS.out.2, ← HX.out]
          show mk _ ++ mk [35, 32] ++ mk _ ++ mk [10, 10] ++ mk _ = _
          rw [ba_mk, ba_mk, ba_mk, ba_mk]
          refine congrArg mk ?_
          simp [cm]
        have HF5 : Hid (f5 = mk (bP lR i ++ cm (lR.getD i []) ++ [10])) := by
          show _ = _
          rw [F5.out, HF4.out]
          show mk _ ++ mk [10] = _
          rw [ba_mk]
        clear hx hrow zx za zb y1 y2 v1 v2 v3 v4 v5 E1 E2 F1 F2 F3 F4 F5
        by_cases hn : i + 1 < L
        · have hnI : (i : Int) + 1 < L := by omega
          have HB2 : Hid (f5 = mk (bP lR (i + 1))) := by show _ = _; rw [HF5.out, bP_next (by rw [HLG.out.len]; exact hn)]
          go_wp2
          go_quiet ((fail))
          go_wp2
          go_roundg g'
          case measure => omega
          case rel => exact ⟨i + 1, e2, f5, by omega, by go_num, rfl, rfl, ⟨HA1.out, HB2.out⟩, HB.out.trans ((below_drewN wr nq).mono HB.out.size)⟩
        · have hnI : ¬ (i : Int) + 1 < L := by omega
          have HB2 : Hid (f4 = mk (bP lR (i + 1))) := by show _ = _; rw [HF4.out, bP_last (by rw [HLG.out.len]; omega)]
          go_wp2
          go_quiet ((fail))
          go_wp2
          go_roundg g'
          case measure => omega
          case rel => exact ⟨i + 1, e2, f4, by omega, by go_num, rfl, rfl, ⟨HA1.out, HB2.out⟩, HB.out.trans ((below_drewN wr nq).mono HB.out.size)⟩
      | zero =>
        obtain rfl : i = L := by omega
        have hlt : ¬ ((i : Int) < i) := by omega
        have hLs := HLG.out.len
        have esa : sa = mk (aT lR) := by rw [HS.out.1, List.take_of_length_le (by omega)]
        have esb : sb = mk (bT lR) := by rw [HS.out.2, ← hLs, bP_all]
        have hpa := lg_a HLG.out hL401
        have hpb := lg_b HLG.out hL401
        rw [← esa] at hpa
        rw [← esb] at hpb
        have HP1 : Hid (∀ W, Below w.heap.size w W → Calls Tryz.prog 24 #[.string sa] W fun e w' => ∃ dp dc cp kc, e = .returned (.tuple #[.agg #[.int .i64 (u : Nat), .slice dp dl dc, .slice cp k kc], .int .i64 0, .int .i64 0]) ∧ Img w' dp ds cp cs k ∧ Below W.heap.size W w') := fun W hW => by
          have := parse_img (HE3.out W hW) sa hpa.1 hpa.2 HOK.out
          rw [HDL.out] at this
          exact this
        have HP2 : Hid (∀ W, Below w.heap.size w W → Calls Tryz.prog 24 #[.string sb] W fun e w' => ∃ dp dc cp kc, e = .returned (.tuple #[.agg #[.int .i64 (u : Nat), .slice dp dl dc, .slice cp k kc], .int .i64 0, .int .i64 0]) ∧ Img w' dp ds cp cs k ∧ Below W.heap.size W w') := fun W hW => by
          have := parse_img (HE3.out W hW) sb hpb.1 hpb.2 HOK.out
          rw [HDL.out] at this
          exact this
        have HSM : Hid (∀ (W : World) (dp cp' : Option Addr) (dc' kc' : Nat), Img W dp ds cp' cs k → Img W sp ds cp cs k → Calls Tryz.prog 22 #[.agg #[.int .i64 (u : Nat), .slice dp dl dc', .slice cp' k kc'], .agg #[.int .i64 (u : Nat), .slice sp dl dc, .slice cp k kc]] W fun e w' => e = .returned (.bool true) ∧ Below W.heap.size W w') := fun W dp cp' dc' kc' h1 h2 => by
          have := sameM_any (n := (u : Nat)) (n' := (u : Nat)) h1 h2 (by have := HDL.out; omega) (by have := HDL.out; omega) (by omega) (by omega) dc' dc kc' kc
          rw [HDL.out, (sameB_iff (u : Nat) (u : Nat) ds ds cs cs).2 ⟨rfl, rfl, rfl⟩] at this
          exact this
        have B4 : Hid (Below w.heap.size w wr) := on1 BL.out ( HB.out)
        have HX4 : Hid (Box wr w.heap.size (.int .i64 (u : Nat)) (.slice sp dl dc) (.slice cp k kc)) := HXL.out.on ( HB.out)
        clear hLs esa esb hpa hpb hrow HS HROW HLG HR3 HB
        go_wp2_with (first
          | (go_at_call 22; refine (HSM.out _ _ _ _ _ (J7.out.1) (J7.out.2)).mono ?_; rintro e w8 ⟨rfl, hb8⟩; have X8 := HX7.out.on hb8; have n0 := X8.c0; have n1 := X8.c1; have n2 := X8.c2; have B8 : Hid (Below w.heap.size w w8) := on1 B7.out hb8; clear hb8)
          | (go_at_call 22; refine (HSM.out _ _ _ _ _ (J6.out.1.on (alloc_below _ _)) (J6.out.2.2.on (alloc_below _ _))).mono ?_; rintro e w7 ⟨rfl, hb7⟩; have J7 : Hid (Img w7 d6 ds c6 cs k ∧ Img w7 sp ds cp cs k) := ⟨(J6.out.2.1.on (alloc_below _ _)).on hb7, (J6.out.2.2.on (alloc_below _ _)).on hb7⟩; have X7 := (HX6.out.on (alloc_below _ _)).on hb7; have HX7 : Hid (Box w7 w.heap.size (.int .i64 (u : Nat)) (.slice sp dl dc) (.slice cp k kc)) := X7; have Y7 : Box w7 w6.heap.size (.int .i64 (u : Nat)) (.slice d6 dl dc6) (.slice c6 k kc6) := (Box.new w6 _ _ _ _).on hb7; have o0 := X7.c0; have o1 := X7.c1; have o2 := X7.c2; have o3 := Y7.c0; have o4 := Y7.c1; have o5 := Y7.c2; have B7 : Hid (Below w.heap.size w w7) := on1 (on1 B6.out (alloc_below _ _)) hb7; clear hb7)
          | (go_at_call 24; refine (HP2.out _ (on1 B5.out (alloc_below _ _))).mono ?_; rintro e w6 ⟨d6, dc6, c6, kc6, rfl, i6, hb6⟩; have J6 : Hid (Img w6 d5 ds c5 cs k ∧ Img w6 d6 ds c6 cs k ∧ Img w6 sp ds cp cs k) := ⟨(J5.out.1.on (alloc_below _ _)).on hb6, i6, (J5.out.2.on (alloc_below _ _)).on hb6⟩; have X6 := (HX5.out.on (alloc_below _ _)).on hb6; have HX6 : Hid (Box w6 w.heap.size (.int .i64 (u : Nat)) (.slice sp dl dc) (.slice cp k kc)) := X6; have Y6 : Box w6 w5.heap.size (.int .i64 (u : Nat)) (.slice d5 dl dc5) (.slice c5 k kc5) := (Box.new w5 _ _ _ _).on hb6; have y0 := X6.c0; have y1 := X6.c1; have y2 := X6.c2; have y3 := Y6.c0; have y4 := Y6.c1; have y5 := Y6.c2; have l1 := cell_lt y0; have l2 := cell_lt y3; have B6 : Hid (Below w.heap.size w w6) := on1 (on1 B5.out (alloc_below _ _)) hb6; clear i6 hb6)
          | (go_at_call 24; refine (HP1.out _ B4.out).mono ?_; rintro e w5 ⟨d5, dc5, c5, kc5, rfl, i5, hb5⟩; have J5 : Hid (Img w5 d5 ds c5 cs k ∧ Img w5 sp ds cp cs k) := ⟨i5, (HI.out.i.on B4.out).on hb5⟩; have HX5 : Hid (Box w5 w.heap.size (.int .i64 (u : Nat)) (.slice sp dl dc) (.slice cp k kc)) := HX4.out.on hb5; have B5 : Hid (Below w.heap.size w w5) := on1 B4.out hb5; clear i5 hb5))
        go_ret
        exact ⟨rfl, B8.out⟩
/-- 'ImagesLines', for every image, every byte, and either way -/
theorem ilines_any {w : World} (hE : Env3 w) {n : Int} {sp cp : Option Addr} {ds cs : List Int} {dc k kc : Nat} (h : ImgA w sp ds dc cp cs k kc) (many : Int) (hm : 0 ≤ many ∧ many ≤ 255) (last : Bool) :
    Calls Tryz.prog 6 #[.agg #[.int .i64 n, .slice sp ds.length dc, .slice cp k kc], .int .u8 many, .bool last] w fun e w' => e = .returned (.bool true) ∧ Below w.heap.size w w' := by
  by_cases hno : 300 < ds.length ∨ 100 < k ∨ okI n ds cs k = false
  · exact ilines_no hE h hno many last
  · have hok : okI n ds cs k = true := by
      cases ho : okI n ds cs k with
      | true => rfl
      | false => exact absurd (Or.inr (Or.inr ho)) hno
    have hd : ds.length ≤ 300 := by omega
    have hk : k ≤ 100 := by omega
    have h0 : 0 ≤ n := by
      obtain ⟨⟨h0, _⟩, _⟩ := (okI_iff _ _ _ _).1 hok
      omega
    obtain ⟨u, rfl⟩ := Int.eq_ofNat_of_zero_le h0
    obtain ⟨m0, rfl⟩ := Int.eq_ofNat_of_zero_le hm.1
    cases last with
    | false => exact ilines_first hE h hd hk hok m0 (by omega)
    | true => exact ilines_last hE h hd hk hok m0 (by omega)
end Go.Proofs.YtcjghnnliepjjaaGreatDoor
