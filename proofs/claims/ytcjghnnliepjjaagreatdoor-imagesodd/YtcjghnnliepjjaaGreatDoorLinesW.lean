/- An image's lines, as the statements' own function writes them. -/
import Derived.Test.YtcjghnnliepjjaaGreatDoorLDig
import Derived.Test.YtcjghnnliepjjaaGreatDoorBoxes
namespace Go.Proofs.YtcjghnnliepjjaaGreatDoor
open Go Go.RowKit
set_option maxRecDepth 100000
set_option linter.unusedVariables false
set_option linter.unusedSimpArgs false
def sv (ls : List (List UInt8)) : List Value := ls.map fun l => Value.string (mk l)
theorem sv_snoc (ls : List (List UInt8)) (l : List UInt8) : sv (ls ++ [l]) = sv ls ++ [.string (mk l)] := by simp [sv]
theorem infoS : (Tryz.prog.info? 9).map (fun i => (i.zero, i.size, i.bytes)) = some (some (.string ⟨#[]⟩), 1, 16) := by kernel_rfl
theorem hex_at (k : Nat) (h : k < 16) : hexB.extract k (k + 1) = mk [hexL.getD k 0] := by
  have : ∀ k : Fin 16, (hexB.extract k.val (k.val + 1)).data.toList = [hexL.getD k.val 0] := by decide +kernel
  rw [← data_mk (hexB.extract k (k + 1)), this ⟨k, h⟩]
theorem sl_hex (n : Nat) (h : n < 16) (W : World) : (Instr.slice 9 (.string ⟨#[48, 49, 50, 51, 52, 53, 54, 55, 56, 57, 97, 98, 99, 100, 101, 102]⟩) (some (.int .u8 n)) (some (.int .u8 ((n : Int) + 1))) none).run Tryz.prog W = .ok (.string (mk [hexL.getD n 0])) W := by
  have := run_slice_string (P := Tryz.prog) (w := W) 9 hexB .u8 .u8 n ((n : Int) + 1) Tryz.underlying9 (by omega) (by omega) (by have : hexB.size = 16 := rfl; omega)
  rw [Int.toNat_natCast, show ((n : Int) + 1).toNat = n + 1 by omega, hex_at n h] at this
  exact this
theorem row1 (w : World) (x : Value) (hx : x.oneCell' = true) : (w.alloc (.cells #[x] 9)).ownsRow w.heap.size 9 1 (.slice (some ⟨w.heap.size, 0, none⟩) 1 1) 1 [x] :=
  ⟨rfl, Or.inr ⟨w.heap.size, 1, #[x], rfl, Nat.le_refl _, alloc_at w _, Nat.le_refl _, by decide, rfl, rfl⟩⟩
theorem hxs_take (bs : List Int) {t : Nat} (h : t < bs.length) : hxs (bs.take (t + 1)) = hxs (bs.take t) ++ hx2 (bs.getD t 0) := by
  unfold hxs
  rw [List.take_succ_eq_append_getElem h, List.flatMap_append]
  simp [h]
theorem hxs_len : ∀ bs : List Int, (hxs bs).length = 2 * bs.length
  | [] => rfl
  | b :: bs => by
    show (hx2 b ++ hxs bs).length = _
    rw [List.length_append, hxs_len bs]
    simp [hx2]
    omega
theorem owns_drewN {w : World} {B : Nat} {e : TypeId} {s : Nat} {v : Value} {n : Nat} {xs : List Value} (h : w.ownsRow B e s v n xs) : ∀ k, (w.drewN k).ownsRow B e s v n xs
  | 0 => h
  | k + 1 => owns_drewN h k
theorem own_form9 {w : World} {B n : Nat} {v : Value} {xs : List Value} (h : w.ownsRow B 9 1 v n xs) : ∃ sp cap, v = .slice sp n cap ∧ True := by
  rcases h.2 with ⟨rfl, rfl⟩ | ⟨g, cap, cur, rfl, _⟩
  · exact ⟨none, 0, rfl, trivial⟩
  · exact ⟨_, cap, rfl, trivial⟩
theorem owns_base9 {w : World} {B B' n : Nat} {v : Value} {xs : List Value} (h : w.ownsRow B' 9 1 v n xs) (hb : B ≤ B') : w.ownsRow B 9 1 v n xs := by
  obtain ⟨h1, h2⟩ := h
  refine ⟨h1, ?_⟩
  rcases h2 with h2 | ⟨g, cap, cur, rfl, hg, r⟩
  · exact Or.inl h2
  · exact Or.inr ⟨g, cap, cur, rfl, by omega, r⟩
theorem owns_on {w w' : World} {B : Nat} {e : TypeId} {s : Nat} {v : Value} {n : Nat} {xs : List Value} (h : w.ownsRow B e s v n xs) (hb : Below w.heap.size w w') : w'.ownsRow B e s v n xs := by
  obtain ⟨h1, h2⟩ := h
  refine ⟨h1, ?_⟩
  rcases h2 with h2 | ⟨g, cap, cur, rfl, hg, hh, r⟩
  · exact Or.inl h2
  · exact Or.inr ⟨g, cap, cur, rfl, hg, (hb.block g (Array.getElem?_eq_some_iff.1 hh).1).trans hh, r⟩
theorem chk_len (ds : List Int) (many j : Nat) : (chk ds many j).length = min many (ds.length - j * many) := by simp [chk]
theorem chk_at (ds : List Int) (many j t : Nat) (h : t < (chk ds many j).length) : (chk ds many j).getD t 0 = ds.getD (j * many + t) 0 := by
  rw [chk_len] at h
  simp only [chk, List.getD_eq_getElem?_getD]
  rw [List.getElem?_take, if_pos (by omega), List.getElem?_drop]
set_option maxHeartbeats 16000000 in
theorem lines_any {w : World} {sp cp : Option Addr} {ds cs : List Int} {dc k kc u many : Nat} (hI : ImgA w sp ds dc cp cs k kc) (he : Env w) (hu : u ≤ 4096) (hd : ds.length ≤ 300) (hk : k ≤ 100) (hm0 : 0 < many) (hm1 : many ≤ 40) (hc : MayC cs k) :
    Calls Tryz.prog 27 #[.agg #[.int .i64 (u : Nat), .slice sp ds.length dc, .slice cp k kc], .int .i64 (many : Nat)] w fun e w' => ∃ v, e = .returned v ∧ w'.ownsRow w.heap.size 9 1 v (1 + many1 ds.length many + k) (sv (lnP u ds cs k many (many1 ds.length many))) ∧ Below w.heap.size w w' := by
  obtain ⟨i0, hi, hz0, hz1, hz2⟩ := info_parts infoS
  have HI : Hid (ImgA w sp ds dc cp cs k kc) := hI
  have HE : Hid (Env w) := he
  have HC : Hid (MayC cs k) := hc
  have hB1 := alloc_below w (.cells #[.int .i64 (u : Nat), .slice sp ds.length dc, .slice cp k kc] 25)
  have hX := Box.new w (.int .i64 (u : Nat)) (.slice sp ds.length dc) (.slice cp k kc) 25
  have hs1 := alloc_size w (.cells #[.int .i64 (u : Nat), .slice sp ds.length dc, .slice cp k kc] 25)
  obtain ⟨w1, hw1⟩ : ∃ w1, w.alloc (.cells #[.int .i64 (u : Nat), .slice sp ds.length dc, .slice cp k kc] 25) = w1 := ⟨_, rfl⟩
  rw [hw1] at hB1 hX hs1
  have x0 := hX.c0
  have hD := dig_any u (by omega)
  have hdl := dec_lt20 u (by omega)
  have hsz : (mk (Lib.decDigits u)).size ≤ 100 := by rw [mk_size]; omega
  have HSZ : Hid (⟨#[115, 105, 122, 101, 32]⟩ ++ mk (Lib.decDigits u) = mk (szL u)) := by
    show _ = _
    have : (⟨#[115, 105, 122, 101, 32]⟩ : ByteArray) = mk [115, 105, 122, 101, 32] := rfl
    rw [this, ba_mk]
    rfl
  generalize mk (Lib.decDigits u) = dg at *
  clear hI he hc
  obtain ⟨c, hcc⟩ : ∃ c, many1 ds.length many = c := ⟨_, rfl⟩
  have HC0 : Hid (∀ t, t < c → t * many < ds.length) := fun t ht => many1_lo hm0 (by rw [hcc]; exact ht)
  have HC1 : Hid (ds.length ≤ c * many) := by show _ ≤ _; rw [← hcc]; exact many1_hi hm0
  have hc300 : c ≤ 300 := by
    rcases Nat.eq_zero_or_pos c with h | h
    · omega
    · have h1 := HC0.out (c - 1) (by omega)
      have h2 : (c - 1) * 1 ≤ (c - 1) * many := Nat.mul_le_mul_left _ hm0
      omega
  rw [hcc]
  have HDC : Hid (∀ W, Below w1.heap.size w1 W → ∀ i, i < ds.length → ∃ b off, sp = some ⟨b, off, none⟩ ∧ W.cell? ⟨b, off + i, none⟩ = some (.int .u8 (ds.getD i 0))) := fun W hb i hi => by
    obtain ⟨b, off, e, hcell⟩ := (HI.out.i.d.below hB1) (by omega)
    exact ⟨b, off, e, (hb.cell (p := ⟨b, off + i, none⟩) (cell_lt (hcell i hi))).trans (hcell i hi)⟩
  obtain ⟨dl, hdl2⟩ : ∃ dl, ds.length = dl := ⟨_, rfl⟩
  have HDL : Hid (ds.length = dl) := hdl2
  rw [hdl2] at HC0 HC1 hd hX hw1 HDC ⊢
  clear hcc hdl2
  go_enter Tryz.func27, Tryz.ntmps27
  go_wp2_with (first | (go_at_call 75; refine (hD _).mono ?_; rintro e wx ⟨rfl, hwx⟩; obtain rfl := hwx.symm))
  have HR1 : Hid ((w1.alloc (.cells #[.string (⟨#[115, 105, 122, 101, 32]⟩ ++ dg)] 9)).ownsRow w1.heap.size 9 1 (.slice (some ⟨w1.heap.size, 0, none⟩) 1 1) (1 + 0) (sv (szL u :: dls ds many 0))) := by
    have := row1 w1 (.string (⟨#[115, 105, 122, 101, 32]⟩ ++ dg)) rfl
    rw [HSZ.out] at this ⊢
    exact this
  have hB2 := alloc_below w1 (.cells #[.string (⟨#[115, 105, 122, 101, 32]⟩ ++ dg)] 9)
  go_loopg [5, 6] c (fun g s5 s6 wx => ∃ j : Nat, j + g = c ∧ s6 = .int .i64 ((j * many : Nat) : Int) ∧ Hid (wx.ownsRow w1.heap.size 9 1 s5 (1 + j) (sv (szL u :: dls ds many j))) ∧ Below w1.heap.size w1 wx)
  case atStart => exact ⟨0, by omega, by simp, by rw [← hs1]; exact HR1, hB2⟩
  case round =>
    clear HR1 hB2
    obtain ⟨j, hjg, rfl, HO, hB⟩ := hrel
    have hX2 := hX.on hB
    have x1 := hX2.c1
    have x2 := hX2.c2
    cases gk with
    | zero =>
      obtain rfl : j = c := by omega
      have hlt : ¬ (((j * many : Nat) : Int) < dl) := by have := HC1.out; omega
      have HO0 : Hid (wr.ownsRow w1.heap.size 9 1 u5 (1 + j + 0) (sv (szL u :: (dls ds many j ++ cls cs 0)))) := by
        have := HO.out
        show wr.ownsRow w1.heap.size 9 1 u5 (1 + j + 0) (sv (szL u :: (dls ds many j ++ cls cs 0)))
        simpa [cls] using this
      clear HO
      have HCC : Hid (∀ W, Below w1.heap.size w1 W → ∀ t, t < k → ∃ b off, cp = some ⟨b, off, none⟩ ∧ W.cell? ⟨b, off + t * 4, none⟩ = some (.int .u8 (cs.getD (4 * t) 0)) ∧ W.cell? ⟨b, off + t * 4 + 1, none⟩ = some (.int .u8 (cs.getD (4 * t + 1) 0)) ∧ W.cell? ⟨b, off + t * 4 + 2, none⟩ = some (.int .u8 (cs.getD (4 * t + 2) 0)) ∧ W.cell? ⟨b, off + t * 4 + 3, none⟩ = some (.int .u8 (cs.getD (4 * t + 3) 0))) := fun W hb t ht => by
        have hl4 := HI.out.i.len
        obtain ⟨b, off, e, hcell⟩ := (HI.out.i.c.below hB1) (by omega)
        have g : ∀ i, i < cs.length → W.cell? ⟨b, off + i, none⟩ = some (.int .u8 (cs.getD i 0)) := fun i hi => (hb.cell (p := ⟨b, off + i, none⟩) (cell_lt (hcell i hi))).trans (hcell i hi)
        refine ⟨b, off, e, ?_, ?_, ?_, ?_⟩
        · have := g (4 * t) (by omega); rwa [Nat.mul_comm 4 t] at this ⊢
        · have := g (4 * t + 1) (by omega)
          rw [Nat.mul_comm 4 t] at this ⊢
          rw [← Nat.add_assoc] at this
          exact this
        · have := g (4 * t + 2) (by omega)
          rw [Nat.mul_comm 4 t] at this ⊢
          rw [← Nat.add_assoc] at this
          exact this
        · have := g (4 * t + 3) (by omega)
          rw [Nat.mul_comm 4 t] at this ⊢
          rw [← Nat.add_assoc] at this
          exact this
      go_wp2
      generalize wr = wr0 at *
      go_loopg [5, 10] k (fun g3 s5 s10 wx => ∃ t : Nat, t + g3 = k ∧ s10 = .int .i64 (t : Int) ∧ Hid (wx.ownsRow w1.heap.size 9 1 s5 (1 + j + t) (sv (szL u :: (dls ds many j ++ cls cs t)))) ∧ Below w1.heap.size w1 wx)
      case atStart => exact ⟨0, by omega, rfl, HO0, hB⟩
      case round =>
        clear HO0 hB
        obtain ⟨t, htg, rfl, HO, hB⟩ := hrel
        have hX3 := hX.on hB
        have x3 := hX3.c2
        cases gk with
        | zero =>
          obtain rfl : t = k := by omega
          have hlt3 : ¬ ((t : Int) < t) := by omega
          obtain ⟨sp5, c5, rfl, _⟩ := own_form9 HO.out
          go_wp2
          go_ret
          have ho := HO.out
          refine ⟨_, rfl, ?_, hB1.trans (hB.mono hB1.size)⟩
          exact owns_base9 ho hB1.size
        | succ g3 =>
          have hlt3 : (t : Int) < k := by omega
          have htk : t < k := by omega
          obtain ⟨b, off, hcp, y0, y1, y2, y3⟩ := HCC.out _ hB t htk
          subst hcp
          have ha : byte (cs.getD (4 * t + 1) 0) := HI.out.i.cb.at _
          have hb : byte (cs.getD (4 * t + 2) 0) := HI.out.i.cb.at _
          have hc : byte (cs.getD (4 * t + 3) 0) := HI.out.i.cb.at _
          have ho : byte (cs.getD (4 * t) 0) := HI.out.i.cb.at _
          have hmy := HC.out t htk
          have HSN : Hid (sv (szL u :: (dls ds many j ++ cls cs (t + 1))) = sv (szL u :: (dls ds many j ++ cls cs t)) ++ [.string (mk (cdl cs t))]) := by
            show _ = _
            rw [cls_succ, ← List.append_assoc, ← List.cons_append, sv_snoc]
          have HTX : Hid (text (cs.getD (4 * t) 0).toNat (cs.getD (4 * t + 1) 0) (cs.getD (4 * t + 2) 0) (cs.getD (4 * t + 3) 0) = mk (cdl cs t)) := by
            show _ = _
            unfold cdl coL
            rw [data_mk]
          obtain ⟨o, hoo⟩ := Int.eq_ofNat_of_zero_le ho.1
          have hwt : IntKind.i64.wrap ((t : Int) + 1) = (t : Int) + 1 := by rw [IntKind.wrap_i64]; omega
          rw [hoo] at y0 hmy HTX
          rw [Int.toNat_natCast] at hmy HTX
          have hT := Text_yes o (by have := ho.2; omega) _ _ _ wr (HE.out.on (hB1.trans (hB.mono hB1.size))) ha hb hc hmy (parts_plain o _ _ _ ha hb hc hmy).2 (by have := text_size o _ _ _ ha hb hc hmy; omega)
          rw [HTX.out] at hT
          clear ha hb hc ho hmy hoo HTX
          generalize cs.getD (4 * t + 1) 0 = a1 at *
          generalize cs.getD (4 * t + 2) 0 = a2 at *
          generalize cs.getD (4 * t + 3) 0 = a3 at *
          obtain ⟨ss, hss⟩ : ∃ ss, mk (cdl cs t) = ss := ⟨_, rfl⟩
          rw [hss] at hT HSN
          clear hss
          go_wp2_with (first
            | (go_at_call 76; refine hT.mono ?_; rintro e w2 ⟨rfl, m2⟩; have HB2 : Hid (Below w1.heap.size w1 w2) := hB.trans (m2.mono hB.size); have HO2 : Hid (w2.ownsRow w1.heap.size 9 1 u5 (1 + j + t) (sv (szL u :: (dls ds many j ++ cls cs t)))) := owns_on HO.out m2; have hsq : w1.heap.size ≤ w2.heap.size := HB2.out.size; clear m2)
            | (at_builtin; refine wpList_append_own _ rfl _ _ 53 rfl w1.heap.size 9 i0 (.string ⟨#[]⟩) 1 16 Tryz.underlying53 hi hz0 hz1 hz2 rfl (by decide) _ _ _ rfl (HO2.out.alloc _) ⟨w2.heap.size, 0, none⟩ 1 1 [.string ss] rfl rfl (cell_one_new _ _ _) (by simp [Value.oneCell']) (by simp only [maxLen]; omega) (by omega) (by simp; omega) ?_; intro v' w3 hown' hgrow _; have ho3 : w3.ownsRow w1.heap.size 9 1 v' (1 + j + (t + 1)) (sv (szL u :: (dls ds many j ++ cls cs (t + 1)))) := (by rw [HSN.out]; simpa [Nat.add_assoc] using hown'); have HO3 : Hid (w3.ownsRow w1.heap.size 9 1 v' (1 + j + (t + 1)) (sv (szL u :: (dls ds many j ++ cls cs (t + 1))))) := ho3; have HB3 : Hid (Below w1.heap.size w1 w3) := (HB2.out.trans ((alloc_below w2 _).mono hsq)).trans ((Below.refl _ _).grown hgrow (by simp; omega) (fun j ej => (HO2.out.lt j ej).1)); clear ho3 hown' hgrow))
          go_roundg g3
          case measure => omega
          case rel => exact ⟨t + 1, by omega, by go_num, HO3, HB3.out⟩
    | succ g =>
      have hjc : j < c := by omega
      have hjd := HC0.out j hjc
      obtain ⟨i, hi2⟩ : ∃ i, j * many = i := ⟨_, rfl⟩
      have HIJ : Hid (j * many = i) := hi2
      rw [hi2] at hjd
      simp only [hi2]
      have hlt : (i : Int) < dl := by omega
      obtain ⟨cl, hcl⟩ : ∃ cl, (chk ds many j).length = cl := ⟨_, rfl⟩
      have HCL : Hid ((chk ds many j).length = cl) := hcl
      have hclv : cl = min many (dl - i) := by rw [← hcl, chk_len, HDL.out, hi2]
      have HCV : Hid (cl = min many (dl - i)) := hclv
      have hcv1 : cl ≤ many ∧ i + cl ≤ dl ∧ (cl < many → i + cl = dl) := by omega
      clear hcl hi2 hclv
      have HS0 : Hid ((⟨#[100, 97, 116, 97, 32]⟩ : ByteArray) = mk ([100, 97, 116, 97, 32] ++ hxs ((chk ds many j).take 0))) := rfl
      have hwm : IntKind.i64.wrap ((i : Int) + (many : Int)) = (i : Int) + (many : Int) := by rw [IntKind.wrap_i64]; omega
      obtain ⟨s0, hs0⟩ : ∃ s0, mk ([100, 97, 116, 97, 32] ++ hxs ((chk ds many j).take 0)) = s0 := ⟨_, rfl⟩
      have hs00 : (⟨#[100, 97, 116, 97, 32]⟩ : ByteArray) = s0 := HS0.out.trans hs0
      have HS00 : Hid (mk ([100, 97, 116, 97, 32] ++ hxs ((chk ds many j).take 0)) = s0) := hs0
      clear hs0
      go_wp2
      generalize wr = wr0 at *
      go_loopg [7, 8] cl (fun g2 s7 s8 wx => ∃ t : Nat, t + g2 = cl ∧ s8 = .int .i64 ((i : Int) + (t : Int)) ∧ s7 = .string (mk ([100, 97, 116, 97, 32] ++ hxs ((chk ds many j).take t))) ∧ Hid (∃ nq, wx = wr0.drewN nq))
      case atStart =>
        refine ⟨0, by omega, by simp, ?_, ⟨0, rfl⟩⟩
        rw [HS00.out, hs00]
      case round =>
        obtain ⟨t, htg, rfl, rfl, HQ⟩ := hrel
        have hwt : IntKind.i64.wrap ((i : Int) + (t : Int) + 1) = (i : Int) + (t : Int) + 1 := by rw [IntKind.wrap_i64]; omega
        have hBq : Hid (Below w1.heap.size w1 wr) := by
          obtain ⟨nq, e⟩ := HQ.out
          rw [e]
          exact hB.trans ((below_drewN _ nq).mono hB.size)
        cases gk with
        | zero =>
          obtain rfl : t = cl := by omega
          have HDA : Hid (mk ([100, 97, 116, 97, 32] ++ hxs ((chk ds many j).take t)) = mk (daL (chk ds many j))) := by
            show _ = _
            rw [List.take_of_length_le (by rw [HCL.out]; exact Nat.le_refl _)]
            simp [daL]
          have HO2 : Hid (wr.ownsRow w1.heap.size 9 1 u5 (1 + j) (sv (szL u :: dls ds many j))) := by
            obtain ⟨nq, e⟩ := HQ.out
            show wr.ownsRow w1.heap.size 9 1 u5 (1 + j) (sv (szL u :: dls ds many j))
            rw [e]
            exact (owns_drewN HO.out nq)
          have HI6 : Hid (((i : Int) + (many : Int)) = (((j + 1) * many : Nat) : Int)) := by
            show _ = _
            have := HIJ.out
            rw [Nat.add_mul, Nat.one_mul, this]
            omega
          have hxx := (hX.on hBq.out).c1
          have hsq : w1.heap.size ≤ wr.heap.size := hBq.out.size
          have HSN : Hid (sv (szL u :: dls ds many (j + 1)) = sv (szL u :: dls ds many j) ++ [.string (mk (daL (chk ds many j)))]) := by
            show _ = _
            rw [dls_succ, ← List.cons_append, sv_snoc]
          obtain ⟨ss, hss⟩ : ∃ ss, mk ([100, 97, 116, 97, 32] ++ hxs ((chk ds many j).take t)) = ss := ⟨_, rfl⟩
          rw [hss] at HDA
          simp only [hss]
          clear hss
          by_cases hA : (i : Int) + (t : Int) < dl
          · have hA2 : ¬ ((i : Int) + (t : Int) < (i : Int) + (many : Int)) := by omega
            go_wp2_with (first
              | (at_builtin; refine wpList_append_own _ rfl _ _ 53 rfl w1.heap.size 9 i0 (.string ⟨#[]⟩) 1 16 Tryz.underlying53 hi hz0 hz1 hz2 rfl (by decide) _ _ _ rfl (HO2.out.alloc _) ⟨wr.heap.size, 0, none⟩ 1 1 [.string ss] rfl rfl (cell_one_new _ _ _) (by simp [Value.oneCell']) (by simp only [maxLen]; omega) (by omega) (by simp; omega) ?_; intro v' w3 hown' hgrow _; have ho3 : w3.ownsRow w1.heap.size 9 1 v' (1 + (j + 1)) (sv (szL u :: dls ds many (j + 1))) := (by rw [HSN.out, ← HDA.out]; simpa [Nat.add_assoc] using hown'); have HO3 : Hid (w3.ownsRow w1.heap.size 9 1 v' (1 + (j + 1)) (sv (szL u :: dls ds many (j + 1)))) := ho3; clear ho3; have HB3 : Hid (Below w1.heap.size w1 w3) := (hBq.out.trans ((alloc_below wr _).mono hsq)).trans ((Below.refl _ _).grown hgrow (by simp; omega) (fun j ej => (HO2.out.lt j ej).1)); clear hown' hgrow))
            go_roundg g
            case measure => omega
            case rel => exact ⟨j + 1, by omega, by rw [HI6.out], HO3, HB3.out⟩
          · go_wp2_with (first
              | (at_builtin; refine wpList_append_own _ rfl _ _ 53 rfl w1.heap.size 9 i0 (.string ⟨#[]⟩) 1 16 Tryz.underlying53 hi hz0 hz1 hz2 rfl (by decide) _ _ _ rfl (HO2.out.alloc _) ⟨wr.heap.size, 0, none⟩ 1 1 [.string ss] rfl rfl (cell_one_new _ _ _) (by simp [Value.oneCell']) (by simp only [maxLen]; omega) (by omega) (by simp; omega) ?_; intro v' w3 hown' hgrow _; have ho3 : w3.ownsRow w1.heap.size 9 1 v' (1 + (j + 1)) (sv (szL u :: dls ds many (j + 1))) := (by rw [HSN.out, ← HDA.out]; simpa [Nat.add_assoc] using hown'); have HO3 : Hid (w3.ownsRow w1.heap.size 9 1 v' (1 + (j + 1)) (sv (szL u :: dls ds many (j + 1)))) := ho3; clear ho3; have HB3 : Hid (Below w1.heap.size w1 w3) := (hBq.out.trans ((alloc_below wr _).mono hsq)).trans ((Below.refl _ _).grown hgrow (by simp; omega) (fun j ej => (HO2.out.lt j ej).1)); clear hown' hgrow))
            go_roundg g
            case measure => omega
            case rel => exact ⟨j + 1, by omega, by rw [HI6.out], HO3, HB3.out⟩
        | succ g2 =>
          have htc : t < cl := by omega
          have h1 : (i : Int) + (t : Int) < dl := by omega
          have h2 : (i : Int) + (t : Int) < (i : Int) + (many : Int) := by omega
          obtain ⟨b, off, hsp, hcell⟩ := HDC.out _ hBq.out (i + t) (by omega)
          subst hsp
          have hby : byte (ds.getD (i + t) 0) := HI.out.i.db.at (i + t)
          have HCA : Hid ((chk ds many j).getD t 0 = ds.getD (i + t) 0) := by
            show _ = _
            rw [chk_at ds many j t (by rw [HCL.out]; exact htc), HIJ.out]
          obtain ⟨bn, hbn⟩ := Int.eq_ofNat_of_zero_le hby.1
          have hb256 : bn < 256 := by have := hby.2; omega
          rw [hbn] at hcell HCA
          clear hby hbn
          have hxx := (hX.on hBq.out).c1
          have hT := hxs_take (chk ds many j) (t := t) (by rw [HCL.out]; exact htc)
          have e1 : Int.tdiv (bn : Int) 16 = ((bn / 16 : Nat) : Int) := (Int.ofNat_tdiv bn 16).symm
          have e2 : Int.tmod (bn : Int) 16 = ((bn % 16 : Nat) : Int) := (Int.ofNat_tmod bn 16).symm
          have q1 := sl_hex (bn / 16) (by omega)
          have q2 := sl_hex (bn % 16) (Nat.mod_lt _ (by decide))
          have HN : Hid (mk ([100, 97, 116, 97, 32] ++ hxs ((chk ds many j).take t)) ++ mk [hexL.getD (bn / 16) 0] ++ mk [hexL.getD (bn % 16) 0] = mk ([100, 97, 116, 97, 32] ++ hxs ((chk ds many j).take (t + 1)))) := by
            show _ = _
            rw [ba_mk, ba_mk, hT, HCA.out]
            unfold hx2
            have a1 : ((bn : Int) / 16).toNat = bn / 16 := by omega
            have a2 : ((bn : Int) % 16).toNat = bn % 16 := by omega
            rw [a1, a2]
            simp
          have hz1 : (mk [hexL.getD (bn / 16) 0]).size = 1 := rfl
          have hz2 : (mk [hexL.getD (bn % 16) 0]).size = 1 := rfl
          have hzs : (mk ([100, 97, 116, 97, 32] ++ hxs ((chk ds many j).take t))).size ≤ 200 := by
            rw [mk_size, List.length_append, hxs_len, List.length_take]
            simp
            omega
          obtain ⟨q, hq⟩ : ∃ q, bn / 16 = q := ⟨_, rfl⟩
          obtain ⟨r, hr⟩ : ∃ r, bn % 16 = r := ⟨_, rfl⟩
          have hq16 : q < 16 := by omega
          have hr16 : r < 16 := by omega
          rw [hq] at e1 q1 HN hz1
          rw [hr] at e2 q2 HN hz2
          have k1 : IntKind.u8.wrap ((q : Int) + 1) = (q : Int) + 1 := by rw [IntKind.wrap_u8]; omega
          have k2 : IntKind.u8.wrap ((r : Int) + 1) = (r : Int) + 1 := by rw [IntKind.wrap_u8]; omega
          clear hq hr hT
          generalize mk [hexL.getD q 0] = h1s at *
          generalize mk [hexL.getD r 0] = h2s at *
          obtain ⟨ss, hss⟩ : ∃ ss, mk ([100, 97, 116, 97, 32] ++ hxs ((chk ds many j).take t)) = ss := ⟨_, rfl⟩
          rw [hss] at HN hzs
          simp only [hss]
          clear hss
          have HQ2 : Hid (∀ n, ∃ nq, wr.drewN n = wr0.drewN nq) := fun n => by
            obtain ⟨nq, e⟩ := HQ.out
            rw [e, World.drewN_drewN]
            exact ⟨_, rfl⟩
          go_wp2
          go_quiet ((fail))
          go_wp2
          go_roundg g2
          case measure => omega
          case rel =>
            refine ⟨t + 1, by omega, ?_, by rw [HN.out], HQ2.out _⟩
            refine congrArg (Value.int IntKind.i64) ?_
            omega
end Go.Proofs.YtcjghnnliepjjaaGreatDoor
