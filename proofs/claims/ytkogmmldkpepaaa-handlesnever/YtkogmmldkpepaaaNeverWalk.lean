/- 'HandlesNever' walked: a handle that was dropped never is one again; no handle is made twice. -/
import Derived.Test.YtkogmmldkpepaaaNever
namespace Go.Proofs.Ytkogmmldkpepaaa
open Go Go.RowKit
set_option maxRecDepth 100000
set_option linter.unusedVariables false
theorem Src.word {w : World} {sp : Option Addr} {T : List Nat} (h : Src w sp (ints T)) {k : Nat} (hk : k < T.length) : ∃ b off, sp = some ⟨b, off, none⟩ ∧ w.cell? ⟨b, off + k, none⟩ = some (.int .u32 ((T.getD k 0 : Nat) : Int)) := by
  obtain ⟨b, off, e, hc⟩ := h (by rw [ints_len]; omega)
  exact ⟨b, off, e, by rw [hc k (by rw [ints_len]; exact hk), ints_get]⟩
theorem setcell1 (w : World) (a : Addr) (y x : Value) (t : TypeId) : ∀ j u, ([x] : List Value)[j]? = some u → ((w.setCell a y).alloc (.cells #[x] t)).cell? ((⟨w.heap.size, 0, none⟩ : Addr).add j) = some u := by
  have hs : (w.setCell a y).heap.size = w.heap.size := by simp [World.setCell]
  rw [← hs]
  exact cell1 _ _ _
set_option maxHeartbeats 16000000 in
theorem never_any {w : World} {sp : Option Addr} {zs : List Int} (most : Int) (hmost : 0 ≤ most ∧ most ≤ 255) (hs : BSrc w.heap.size w sp zs) (hl : zs.length ≤ maxLen) (cap : Nat) :
    Calls Try.prog 4 #[.int .u8 most, .slice sp zs.length cap] w fun e w' => e = .returned (.bool true) ∧ Below w.heap.size w w' := by
  obtain ⟨i0, hi, hz0, hz1, hz2⟩ := info_parts infoW
  obtain ⟨t, rfl⟩ := Int.eq_ofNat_of_zero_le hmost.1
  obtain ⟨N, hN⟩ : ∃ N, 1 + t = N := ⟨_, rfl⟩
  have hNI : (1 : Int) + (t : Int) = (N : Int) := by omega
  have hN1 : 1 ≤ N := by omega
  have hN2 : N ≤ 256 := by omega
  have ht : t ≤ 255 := by omega
  clear hN hmost
  unfold maxLen at hl
  obtain ⟨n, hn⟩ : ∃ n, zs.length = n := ⟨_, rfl⟩
  have HZ : Hid (zs.length = n) := hn
  have HS : Hid (BSrc w.heap.size w sp zs) := hs
  rw [hn] at hl ⊢
  clear hs hn
  by_cases hbig : 150 < n
  · go_enter Try.func4, Try.ntmps4
    go_wp2_with (first
      | (go_at_call 12; have HM := hA1; refine (alive_any _).mono ?_; rintro e w2 ⟨rfl, hb⟩; have hB2 : Below w.heap.size w w2 := hA1.trans (hb.mono hA1.size); clear hb)
      | (go_at_call 12; refine (alive_any _).mono ?_; rintro e w1 ⟨rfl, hA1⟩))
    go_ret
    exact ⟨rfl, hB2⟩
  · go_enter Try.func4, Try.ntmps4
    go_wp2_with (first
      | (go_at_call 12; refine (alive_any _).mono ?_; rintro e w1 ⟨rfl, hb⟩; have HA : Hid (Below w.heap.size w w1) := hb; clear hb)
      | (go_at_call 13; refine (nw_is N hN1 hN2).mono ?_; rintro e w2 ⟨rfl, hr, hb⟩; have HN0 : Hid (Nv w2.heap.size w2 w1.heap.size N 0 none0 (.slice none 0 0) (.slice none 0 0) [] []) := ⟨⟨hr, World.ownsRow_nil _ _ _ _, World.ownsRow_nil _ _ _ _, fun g hg => (by simp [Value.ownBlock] at hg), hr.lt, Nat.le_refl _⟩, Nev.zero N⟩; have HB : Hid (Below w.heap.size w w2) := HA.out.trans (hb.mono HA.out.size); have hp : w.heap.size ≤ w1.heap.size := HA.out.size; have hBB : w.heap.size ≤ w2.heap.size := HB.out.size; clear hr hb))
    generalize w1.heap.size = p at *
    go_loopg [7, 8, 9] n (fun g s7 s8 s9 wx => ∃ (i : Nat) (s : Slots) (T G : List Nat), i + g = n ∧ s9 = .int .i64 i ∧ Hid (Nv w2.heap.size wx p N i s s7 s8 T G) ∧ Hid (Below w.heap.size w wx))
    case atStart => exact ⟨0, none0, [], [], by omega, rfl, HN0, HB⟩
    case round =>
      clear HN0 HB HA
      generalize w2.heap.size = B at *
      obtain ⟨wo, rfl⟩ : ∃ wo, wo = wr := ⟨wr, rfl⟩
      obtain ⟨i, s, T, G, hig, rfl, HN, HB⟩ := hrel
      obtain ⟨sp7, c7, rfl, hs7⟩ := HN.out.mem.there.src
      obtain ⟨sp8, c8, rfl, hs8⟩ := HN.out.mem.gone.src
      have HS7 : Hid (Src wo sp7 (ints T)) := hs7
      have HS8 : Hid (Src wo sp8 (ints G)) := hs8
      obtain ⟨m, hm⟩ : ∃ m, T.length = m := ⟨_, rfl⟩
      obtain ⟨l, hlG⟩ : ∃ l, G.length = l := ⟨_, rfl⟩
      have HM : Hid (T.length = m) := hm
      have HL : Hid (G.length = l) := hlG
      have hm150 : m ≤ i := by rw [← hm]; exact HN.out.nev.lT
      have hl150 : l ≤ i := by rw [← hlG]; exact HN.out.nev.lG
      rw [hm, hlG] at HN
      rw [hm, hlG]
      clear hs7 hs8 hm hlG
      cases gk with
      | zero =>
        obtain rfl : n = i := by omega
        have hlt : ¬ ((n : Int) < n) := by omega
        have HT1 : Hid (T.length = tk N s) := HN.out.nev.len
        go_wp2
        go_loopg [16] l (fun q s16 wx => ∃ k : Nat, k + q = l ∧ s16 = .int .i64 k ∧ Hid (Nv B wx p N n s (.slice sp7 m c7) (.slice sp8 l c8) T G) ∧ Hid (Below w.heap.size w wx))
        case atStart => exact ⟨0, by omega, rfl, HN, HB⟩
        case round =>
          clear HN HB HS7 HS8
          obtain ⟨k, hkq, rfl, HN, HB⟩ := hrel
          cases gk with
          | zero =>
            obtain rfl : l = k := by omega
            have hkl : ¬ ((l : Int) < l) := by omega
            go_wp2
            go_loopg [19] m (fun q s19 wx => ∃ k : Nat, k + q = m ∧ s19 = .int .i64 k ∧ Hid (Nv B wx p N n s (.slice sp7 m c7) (.slice sp8 l c8) T G) ∧ Hid (Below w.heap.size w wx))
            case atStart => exact ⟨0, by omega, rfl, HN, HB⟩
            case round =>
              clear HN HB
              obtain ⟨k, hkq, rfl, HN, HB⟩ := hrel
              cases gk with
              | zero =>
                have hkm : ¬ ((k : Int) < m) := by omega
                have HC : Hid ((listL N s).length = m) := by have h1 := HT1.out; have h2 := HM.out; unfold tk at h1; show _ = _; omega
                go_wp2_with (first
                  | (go_at_call 11; refine (told_is HN.out.mem.tab HC.out).mono ?_; rintro e w5 ⟨tp, tc, rfl, ht5, hb⟩; have HB5 : Hid (Below w.heap.size w w5) := HB.out.trans (hb.mono HB.out.size); clear ht5 hb))
                go_ret
                exact ⟨rfl, HB5.out⟩
              | succ q =>
                have hkm : (k : Int) < m := by omega
                obtain ⟨b2, off2, rfl, ku⟩ := HN.out.mem.there.at.word (k := k) (by have := HM.out; omega)
                have P1 : Hid (placeE s (T.getD k 0) = 0) := HN.out.nev.inT k (by have := HM.out; omega)
                have P2 : Hid (T.getD k 0 ≤ 4294967295) := HN.out.nev.wT k (by have := HM.out; omega)
                generalize T.getD k 0 = x at *
                go_wp2_with (first
                  | (go_at_call 9; refine (pl_is HN.out.mem.tab x P2.out rfl P1.out).mono ?_; rintro e w5 ⟨rfl, hb⟩; have HN5 : Hid (Nv B w5 p N n s (.slice (some ⟨b2, off2, none⟩) m c7) (.slice sp8 l c8) T G) := HN.out.below hb; have HB5 : Hid (Below w.heap.size w w5) := HB.out.trans (hb.mono HB.out.size); clear hb))
                go_roundg q
                case measure => omega
                case rel => exact ⟨k + 1, by omega, by go_num, HN5, HB5⟩
          | succ q =>
            have hkl : (k : Int) < l := by omega
            obtain ⟨b2, off2, rfl, ku⟩ := HN.out.mem.gone.at.word (k := k) (by have := HL.out; omega)
            have P1 : Hid (placeE s (G.getD k 0) = 6) := HN.out.nev.inG k (by have := HL.out; omega)
            have P2 : Hid (G.getD k 0 ≤ 4294967295) := HN.out.nev.wG k (by have := HL.out; omega)
            have HNV : Hid (Nev N n s T G) := HN.out.nev
            generalize G.getD k 0 = x at *
            go_wp2_with (first
              | (go_at_call 9; refine (pl_is HN.out.mem.tab x P2.out (placeP_no P1.out (by decide)) P1.out).mono ?_; rintro e w5 ⟨rfl, hb⟩; have HN5 : Hid (Nv B w5 p N n s (.slice sp7 m c7) (.slice (some ⟨b2, off2, none⟩) l c8) T G) := HN.out.below hb; have ku5 := (hb.cell (p := ⟨b2, off2 + k, none⟩) (cell_lt ku)).trans ku; have HB5 : Hid (Below w.heap.size w w5) := HB.out.trans (hb.mono HB.out.size); clear hb)
              | (go_at_call 10; refine (dr_is HN5.out.mem.tab x P2.out P1.out).mono ?_; rintro e w6 ⟨rfl, hr, hb⟩; rw [dropS_no (by rw [P1.out]; decide)] at hr; have HN6 : Hid (Nv B w6 p N n s (.slice sp7 m c7) (.slice (some ⟨b2, off2, none⟩) l c8) T G) := ⟨HN5.out.mem.setTab hb hr, HNV.out⟩; have HB6 : Hid (Below w.heap.size w w6) := HB5.out.trans (one_below hb hp HB5.out.size); clear hr hb))
            go_roundg q
            case measure => omega
            case rel => exact ⟨k + 1, by omega, by go_num, HN6, HB6⟩
      | succ g =>
        have hlt : (i : Int) < n := by omega
        obtain ⟨b, off, rfl, hbl, hc⟩ := (HS.out.below HB.out).spot (by have := HZ.out; omega)
        have hzc := hc i (by have := HZ.out; omega)
        have hzb := HS.out.at i
        obtain ⟨z, hz⟩ := Int.eq_ofNat_of_zero_le hzb.1
        rw [hz] at hzc hzb
        clear hc hz
        have e1 : Int.tmod (z : Int) 2 = ((z % 2 : Nat) : Int) := rfl
        have e2 : Int.tdiv (z : Int) 2 = ((z / 2 : Nat) : Int) := rfl
        have hzh : z / 2 ≤ 127 := by omega
        by_cases q0 : z % 2 = 0 ∨ m = 0
        · have hq : (((z % 2 : Nat) : Int) == 0) = true ∨ ((((z % 2 : Nat) : Int) == 0) = false ∧ ((m : Int) == 0) = true) := by
            by_cases q1 : z % 2 = 0
            · exact Or.inl (by simp; omega)
            · exact Or.inr ⟨by simp; omega, by simp; omega⟩
          clear q0
          generalize z % 2 = z2 at *
          by_cases hf : fr N s < N
          · have M2 : Hid (makeE N s = 0) := if_pos hf
            have HV : Hid (Nev N (i + 1) (makeS N s) (T ++ [makeH N s]) G) := HN.out.nev.make HN.out.mem.tab.good hN2 hf
            have HTn : Hid (∀ k, k < T.length → T.getD k 0 ≠ makeH N s) := fun k hk e => by have h1 := HN.out.nev.inT k hk; rw [e, make_was hN2 hf] at h1; cases h1
            have HGn : Hid (∀ k, k < G.length → G.getD k 0 ≠ makeH N s) := fun k hk e => by have h1 := HN.out.nev.inG k hk; rw [e, make_was hN2 hf] at h1; cases h1
            obtain ⟨x, hx⟩ : ∃ x, makeH N s = x := ⟨_, rfl⟩
            have HX : Hid (makeH N s = x) := hx
            rw [hx] at HV HTn HGn
            clear hx hf
            rcases hq with hq | ⟨hq, hq2⟩
            all_goals
              go_wp2_with (first
                | (go_at_call 8; refine (mk_is HN.out.mem.tab HX.out M2.out).mono ?_; rintro e w3 ⟨rfl, hr, hb⟩; have HM3 : Hid (Nm B w3 p N (makeS N s) (.slice sp7 m c7) (.slice sp8 l c8) T G) := HN.out.mem.setTab hb hr; have HB3 : Hid (Below w.heap.size w w3) := HB.out.trans (one_below hb hp HB.out.size); clear hr hb))
              go_loopg [12] m (fun q s12 wx => ∃ k : Nat, k + q = m ∧ s12 = .int .i64 k ∧ w3 = wx)
              case atStart => exact ⟨0, by omega, rfl, rfl⟩
              case round =>
                obtain ⟨k, hkq, rfl, rfl⟩ := hrel
                cases gk with
                | succ q =>
                  have hkm : (k : Int) < m := by omega
                  obtain ⟨b2, off2, rfl, ku⟩ := HM3.out.there.at.word (k := k) (by have := HM.out; omega)
                  have hne : (((T.getD k 0 : Nat) : Int) == (x : Int)) = false := by have := HTn.out k (by have := HM.out; omega); exact beq_eq_false_iff_ne.2 (by omega)
                  generalize T.getD k 0 = y at *
                  go_wp2
                  go_roundg q
                  case measure => omega
                  case rel => exact ⟨k + 1, by omega, by go_num, rfl⟩
                | zero =>
                  have hkm : ¬ ((k : Int) < m) := by omega
                  go_wp2
                  go_loopg [13] l (fun q s13 wx => ∃ k : Nat, k + q = l ∧ s13 = .int .i64 k ∧ w3 = wx)
                  case atStart => exact ⟨0, by omega, rfl, rfl⟩
                  case round =>
                    clear hkm hkq
                    obtain ⟨k2, hkq, rfl, rfl⟩ := hrel
                    cases gk with
                    | succ q =>
                      have hkm : (k2 : Int) < l := by omega
                      obtain ⟨b2, off2, rfl, ku⟩ := HM3.out.gone.at.word (k := k2) (by have := HL.out; omega)
                      have hne : (((G.getD k2 0 : Nat) : Int) == (x : Int)) = false := by have := HGn.out k2 (by have := HL.out; omega); exact beq_eq_false_iff_ne.2 (by omega)
                      generalize G.getD k2 0 = y at *
                      go_wp2
                      go_roundg q
                      case measure => omega
                      case rel => exact ⟨k2 + 1, by omega, by go_num, rfl⟩
                    | zero =>
                      have hkm : ¬ ((k2 : Int) < l) := by omega
                      have HO : Hid (w3.ownsRow B 22 1 (.slice sp7 m c7) m (wrd (ints T))) := HM3.out.there.row HM.out
                      have hbs := HM3.out.base
                      go_wp2_with (first
                        | (at_builtin; refine wpList_append_own_at _ rfl _ _ 36 rfl B 22 i0 (.int .u32 0) 1 4 Try.underlying36 hi hz0 hz1 hz2 rfl (by decide) (.slice sp7 m c7) m (wrd (ints T)) rfl (HO.out.alloc _) ⟨w3.heap.size, 0, none⟩ 1 1 [.int .u32 (x : Nat)] rfl rfl (cell1 w3 _ _) (by simp [Value.oneCell']) (by simp only [maxLen]; omega) (by omega) (by rw [alloc_size]; omega) ?_; intro v' w4 hown' hgrow _ hat; have HN4 : Hid (Nv B w4 p N (i + 1) (makeS N s) v' (.slice sp8 l c8) (T ++ [x]) G) := ⟨HM3.out.addT hgrow (by rw [HM.out]; exact hown') hat, HV.out⟩; have HB4 : Hid (Below w.heap.size w w4) := (HB3.out.trans (((alloc_below w3 _).mono HB3.out.size).trans ((Buts.grown hgrow).below (fun y hy => (by have := (HO.out.lt y (by simpa using hy)).1; omega)) (by have := HB3.out.size; rw [alloc_size]; omega)))); clear hown' hgrow hat))
                      go_roundg g
                      case measure => omega
                      case rel => exact ⟨i + 1, _, _, _, by omega, by go_num, HN4, HB4⟩
          · have M2 : Hid (makeE N s = 3) := if_neg hf
            have M1 : Hid (makeH N s = 0) := if_neg hf
            have HV : Hid (Nev N (i + 1) (makeS N s) T G) := HN.out.nev.full hf
            have hmN : m = N := by rw [← HM.out, HN.out.nev.len]; exact full_tk HN.out.nev.young (by omega) hf
            have hmN' : ((m : Int) == (N : Int)) = true := by simp; omega
            clear hf hmN
            rcases hq with hq | ⟨hq, hq2⟩
            · go_wp2_with (first
                | (go_at_call 8; refine (mk_is HN.out.mem.tab M1.out M2.out).mono ?_; rintro e w3 ⟨rfl, hr, hb⟩; have HN3 : Hid (Nv B w3 p N (i + 1) (makeS N s) (.slice sp7 m c7) (.slice sp8 l c8) T G) := ⟨HN.out.mem.setTab hb hr, HV.out⟩; have HB3 : Hid (Below w.heap.size w w3) := HB.out.trans (one_below hb hp HB.out.size); clear hr hb))
              go_roundg g
              case measure => omega
              case rel => exact ⟨i + 1, _, _, _, by omega, by go_num, HN3, HB3⟩
            · exfalso
              simp at hmN' hq2
              omega
        · have hq : (((z % 2 : Nat) : Int) == 0) = false := by simp; omega
          have hq2 : ((m : Int) == 0) = false := by simp; omega
          have hm0 : 0 < m := by omega
          clear q0
          generalize z % 2 = z2 at *
          generalize z / 2 = zh at *
          obtain ⟨g7, c7', e7, hc7, hcm⟩ := owns_spot HN.out.mem.there (by have := HM.out; omega)
          simp only [Value.slice.injEq] at e7
          obtain ⟨rfl, hx7, rfl⟩ := e7
          clear hx7
          have e3 : Int.tmod (zh : Int) (m : Int) = ((zh % m : Nat) : Int) := rfl
          have hj : zh % m < m := Nat.mod_lt _ hm0
          have hjI : ((zh % m : Nat) : Int) < m := by omega
          generalize zh % m = k at *
          obtain ⟨m1, hm1⟩ : ∃ m1, m = m1 + 1 := ⟨m - 1, by omega⟩
          have HM1 : Hid (m = m1 + 1) := hm1
          have hmI : (m : Int) - 1 = (m1 : Int) := by omega
          have hm1I : (m1 : Int) < m := by omega
          have hm1c : m1 ≤ c7 := by have := HM.out; omega
          have hm1m : m1 ≤ m := by omega
          clear hm1
          have HV : Hid (Nev N (i + 1) (dropS s (T.getD k 0)) (left T k) (G ++ [T.getD k 0])) := HN.out.nev.drop HN.out.mem.tab.good k (by have := HM.out; omega)
          have P1 : Hid (placeE s (T.getD k 0) = 0) := HN.out.nev.inT k (by have := HM.out; omega)
          have P2 : Hid (T.getD k 0 ≤ 4294967295) := HN.out.nev.wT k (by have := HM.out; omega)
          have HW : Hid (∀ (wx : World) (sx : Slots), Nm B wx p N sx (.slice (some ⟨g7, 0, none⟩) m c7) (.slice sp8 l c8) T G → ∀ y, y < m → wx.cell? ⟨g7, y, none⟩ = some (.int .u32 ((T.getD y 0 : Nat) : Int))) := fun wx sx hx y hy => by
            obtain ⟨b2, off2, e, ku⟩ := hx.there.at.word (k := y) (by have := HM.out; omega)
            simp only [Option.some.injEq, Addr.mk.injEq, and_true] at e
            rw [← e.1, ← e.2, Nat.zero_add] at ku
            exact ku
          have kx := HW.out _ _ HN.out.mem k hj
          have HXL : Hid (∀ wx sx, Nm B wx p N sx (.slice (some ⟨g7, 0, none⟩) m c7) (.slice sp8 l c8) T G → Nm B (wx.setCell ⟨g7, k, none⟩ (.int .u32 ((T.getD m1 0 : Nat) : Int))) p N sx (.slice (some ⟨g7, 0, none⟩) m1 c7) (.slice sp8 l c8) (left T k) G) := fun wx sx hx => hx.left HM.out HM1.out
          have HW1 : Hid (∀ (wx : World) (sx : Slots), Nm B wx p N sx (.slice (some ⟨g7, 0, none⟩) m c7) (.slice sp8 l c8) T G → wx.cell? ⟨g7, m1, none⟩ = some (.int .u32 ((T.getD m1 0 : Nat) : Int))) := fun wx sx hx => HW.out wx sx hx m1 (by omega)
          have HW0 : Hid (∀ (wx : World) (sx : Slots), Nm B wx p N sx (.slice (some ⟨g7, 0, none⟩) m c7) (.slice sp8 l c8) T G → wx.cell? ⟨g7, k, none⟩ = some (.int .u32 ((T.getD k 0 : Nat) : Int))) := fun wx sx hx => HW.out wx sx hx k hj
          clear HW
          generalize T.getD k 0 = x at *
          generalize T.getD m1 0 = y at *
          go_wp2_with (first
            | (go_at_call 10; refine (dr_is HN.out.mem.tab x P2.out P1.out).mono ?_; rintro e w3 ⟨rfl, hr, hb⟩; have HM3 : Hid (Nm B w3 p N (dropS s x) (.slice (some ⟨g7, 0, none⟩) m c7) (.slice sp8 l c8) T G) := HN.out.mem.setTab hb hr; have HB3 : Hid (Below w.heap.size w w3) := HB.out.trans (one_below hb hp HB.out.size); have kx3 := HW0.out _ _ HM3.out; have ky3 := HW1.out _ _ HM3.out; have kf3 := HM3.out.there.row HM.out |>.frozenAt k; have HM4 : Hid (Nm B (w3.setCell ⟨g7, k, none⟩ (.int .u32 (y : Nat))) p N (dropS s x) (.slice (some ⟨g7, 0, none⟩) m1 c7) (.slice sp8 l c8) (left T k) G) := HXL.out _ _ HM3.out; have HB4 : Hid (Below w.heap.size w (w3.setCell ⟨g7, k, none⟩ (.int .u32 (y : Nat)))) := HB3.out.trans ((Buts.cell w3 g7 k (.int .u32 (y : Nat))).below (fun b hb => (by simp only [List.mem_singleton] at hb; subst hb; have := (HM3.out.there.lt b rfl).1; omega)) HB3.out.size); have HO : Hid ((w3.setCell ⟨g7, k, none⟩ (.int .u32 (y : Nat))).ownsRow B 22 1 (.slice sp8 l c8) l (wrd (ints G))) := HM4.out.gone.row HL.out; have hbs := HM4.out.base; have HC1 : Hid (∀ j u, ([.int .u32 (x : Nat)] : List Value)[j]? = some u → ((w3.setCell ⟨g7, k, none⟩ (.int .u32 (y : Nat))).alloc (.cells #[.int .u32 (x : Nat)] 22)).cell? ((⟨w3.heap.size, 0, none⟩ : Addr).add j) = some u) := setcell1 w3 _ _ _ _; clear hr hb)
            | (at_builtin; refine wpList_append_own_at _ rfl _ _ 36 rfl B 22 i0 (.int .u32 0) 1 4 Try.underlying36 hi hz0 hz1 hz2 rfl (by decide) (.slice sp8 l c8) l (wrd (ints G)) rfl (HO.out.alloc _) ⟨w3.heap.size, 0, none⟩ 1 1 [.int .u32 (x : Nat)] rfl rfl HC1.out (by simp [Value.oneCell']) (by simp only [maxLen]; omega) (by omega) (by rw [alloc_size]; omega) ?_; intro v' w5 hown' hgrow _ hat; have HN5 : Hid (Nv B w5 p N (i + 1) (dropS s x) (.slice (some ⟨g7, 0, none⟩) m1 c7) v' (left T k) (G ++ [x])) := ⟨HM4.out.addG hgrow (by rw [HL.out]; exact hown') hat, HV.out⟩; have HB5 : Hid (Below w.heap.size w w5) := (HB4.out.trans (((alloc_below _ _).mono HB4.out.size).trans ((Buts.grown hgrow).below (fun y hy => (by have := (HO.out.lt y (by simpa using hy)).1; omega)) (by have := HB4.out.size; rw [alloc_size]; omega)))); clear hown' hgrow hat))
          go_roundg g
          case measure => omega
          case rel => exact ⟨i + 1, _, _, _, by omega, by go_num, HN5, HB5⟩
end Go.Proofs.Ytkogmmldkpepaaa
