/- 'grow' walked: each list is grown by 40 marks. -/
import Derived.Test.YtciafjmljmeimaaDoorGrow
namespace Go.Proofs.YtciafjmljmeimaaDoor
open Go Go.RowKit
set_option maxRecDepth 100000
set_option linter.unusedVariables false
theorem rep_snoc (n : Nat) (x : Value) : List.replicate n x ++ [x] = List.replicate (n + 1) x := (List.replicate_succ' ..).symm
/-- one more mark -/
theorem more_end {B : Nat} {w0 wx wy w' : World} {e V : Value} {g cap n k : Nat} {x : Value} (hrow : wx.ownsRow B 3 1 V (n + k) (List.replicate (n + k) x)) (hV : Buts e.ownBlock.toList w0 wx) (hr : Rd wx e n x) (hloc : ∀ g, V.ownBlock = some g → e.ownBlock = some g ∨ w0.heap.size ≤ g) (hlt : ∀ g, e.ownBlock = some g → g < w0.heap.size)
    (hy : Below wx.heap.size wx wy) (ho : w'.ownsRow B 3 1 (.slice (some ⟨g, 0, none⟩) (n + k + 1) cap) (n + k + 1) (List.replicate (n + k) x ++ [x])) (hg : (V.ownBlock = some g ∧ Buts [g] wy w') ∨ (g = wy.heap.size ∧ Below wy.heap.size wy w')) :
    w'.ownsRow B 3 1 (.slice (some ⟨g, 0, none⟩) (n + (k + 1)) cap) (n + (k + 1)) (List.replicate (n + (k + 1)) x) ∧ Buts e.ownBlock.toList w0 w' ∧ Rd w' e n x ∧ (∀ g', (Value.slice (some ⟨g, 0, none⟩) (n + (k + 1)) cap).ownBlock = some g' → e.ownBlock = some g' ∨ w0.heap.size ≤ g') := by
  rw [rep_snoc] at ho
  have hwy : Buts e.ownBlock.toList w0 wy := hV.trans (Buts.of hy)
  have hry : Rd wy e n x := hr.buts (l := []) (Buts.of hy) (fun _ _ _ _ _ => by simp)
  refine ⟨ho, ?_⟩
  rcases hg with ⟨h1, h2⟩ | ⟨h1, h2⟩
  · have hl := hloc g h1
    by_cases he : e.ownBlock = some g
    · refine ⟨hwy.trans (h2.mono (by simp [he])), ?_, fun g' hg' => Or.inl (by have h : g = g' := (by simpa [Value.ownBlock] using hg'); rw [← h]; exact he)⟩
      obtain ⟨sp, c, rfl, hc⟩ := hry
      refine ⟨sp, c, rfl, fun hn => ?_⟩
      obtain ⟨g0, cur, rfl, hh, hq⟩ := hc hn
      have e0 : g0 = g := by simpa [Value.ownBlock] using he
      subst e0
      obtain ⟨sp2, c2, e2, h3⟩ := Rd.of ho
      obtain ⟨g2, cur2, e3, hh2, hq2⟩ := h3 (by omega)
      simp only [Value.slice.injEq] at e2
      have e4 := e2.1.trans e3
      simp only [Option.some.injEq, Addr.mk.injEq, and_true] at e4
      rw [← e4] at hh2
      exact ⟨_, cur2, rfl, hh2, fun q hq' => hq2 q (by omega)⟩
    · have hge : w0.heap.size ≤ g := by
        rcases hl with h | h
        · exact absurd h he
        · exact h
      refine ⟨?_, hry.buts h2 (fun g' cur _ hg' _ hm => ?_), fun g' hg' => Or.inr (by have h : g = g' := (by simpa [Value.ownBlock] using hg'); omega)⟩
      · exact ⟨h2.os.trans hwy.os, h2.tape.trans hwy.tape, h2.output.trans hwy.output, Nat.le_trans hwy.size h2.size, fun j hj hm => (h2.block j (Nat.lt_of_lt_of_le hj hwy.size) (by simp; omega)).trans (hwy.block j hj hm)⟩
      · have : g' = g := by simpa using hm
        rw [this] at hg'
        exact he hg'
  · refine ⟨hwy.trans (Buts.of h2), hry.buts (l := []) (Buts.of h2) (fun _ _ _ _ _ => by simp), fun g' hg' => Or.inr ?_⟩
    have : g = g' := by simpa [Value.ownBlock] using hg'
    have := hwy.size
    omega
set_option maxHeartbeats 4000000 in
theorem grow_any {B : Nat} {w : World} {K : Nat} {n : Int} {v : Value} {E : List Ent} (hb : Bk B w K n v E) (hl : Gl B w E 0) :
    Calls Tryd.prog 38 #[.pointer (some ⟨K, 0, none⟩)] w fun e w' => e = .returned (.tuple #[]) ∧ ∃ F : List Ent, F.length = E.length ∧ Bk B w' K n v F ∧ Gl B w' F E.length ∧ Below B w w' := by
  have HB : Hid (Bk B w K n v E) := hb
  have HL : Hid (Gl B w E 0) := hl
  clear hb hl
  have hf := HB.out.few
  obtain ⟨m, hm⟩ : ∃ m, E.length = m := ⟨_, rfl⟩
  rw [hm] at hf ⊢
  have HM : Hid (E.length = m) := hm
  clear hm
  go_enter Tryd.func38, Tryd.ntmps38
  go_wp2
  go_loopg [2] m (fun gk s2 wx => ∃ (i : Nat) (F : List Ent), i + gk = m ∧ s2 = .int .i64 i ∧ Hid (F.length = m) ∧ Hid (Bk B wx K n v F) ∧ Hid (Gl B wx F i) ∧ Below B w wx)
  case atStart => exact ⟨0, E, by omega, rfl, HM, HB, HL, Below.refl _ _⟩
  case round =>
    clear HB HL HM
    obtain ⟨i, F, hig, rfl, HM, HB, HL, hU⟩ := hrel
    have ch : wr.cell? ⟨K, 3, none⟩ = some v := by rw [cell_of HB.out.head]; rfl
    cases gk with
    | zero =>
      obtain ⟨sp, cap, hv, -, -, -⟩ := own_form HB.out.row
      rw [HM.out] at hv
      subst hv
      have hlt : ¬ ((i : Int) < m) := by omega
      go_wp2
      go_end0
      obtain rfl : i = m := by omega
      exact ⟨rfl, F, HM.out, HB.out, HL.out, hU⟩
    | succ g' =>
      have hlt : (i : Int) < m := by omega
      obtain ⟨e, he⟩ : ∃ e, F[i]? = some e := ⟨_, List.getElem?_eq_getElem (by rw [HM.out]; omega)⟩
      obtain ⟨H, cap, hv, hcap, c0, c1, c2⟩ := HB.out.spot he
      have ho := HL.out.own i e (Nat.le_refl _) he
      have hlen := HL.out.len i e he
      have hnum := HL.out.num i e he
      obtain ⟨sp, ec, hev, hsp, hsp2, hmx⟩ := own_form ho
      have HE : Hid (F[i]? = some e) := he
      clear he
      obtain ⟨la, lb, lc, hlong⟩ := HB.out.lng i e HE.out
      obtain ⟨ev, el, elong, enum⟩ := e
      simp only at hev hlong c0 c1 c2 ho hlen hnum hsp hmx
      subst hev hlong
      rw [HM.out] at hv hcap
      subst hv
      have hlt2 := HB.out.row.lt H rfl
      have hA := alloc_at wr (.cells #[.slice sp el ec, .slice la lb lc, .int .i64 enum] 76)
      have hb1 := alloc_below wr (.cells #[.slice sp el ec, .slice la lb lc, .int .i64 enum] 76)
      have hne : ∀ g, (Value.slice sp el ec).ownBlock = some g → g < wr.heap.size := fun g e => (ho.lt g e).2
      have hNB : B ≤ wr.heap.size := Nat.le_trans HB.out.base (Nat.le_of_lt (at_lt HB.out.head))
      have hKl := at_lt HB.out.head
      go_wp2
      have HO : Hid (wr.ownsRow B 3 1 (.slice sp el ec) el (List.replicate el (.int .i64 (mk enum)))) := ho
      clear ho c0 c1 c2 ch
      have H1 : Hid (Below wr.heap.size wr (wr.alloc (.cells #[.slice sp el ec, .slice la lb lc, .int .i64 enum] 76))) := hb1
      have HA : Hid ((wr.alloc (.cells #[.slice sp el ec, .slice la lb lc, .int .i64 enum] 76)).heap[wr.heap.size]? = some (.cells #[.slice sp el ec, .slice la lb lc, .int .i64 enum] 76 (0, 0))) := hA
      clear hb1 hA
      generalize wr.alloc (.cells #[.slice sp el ec, .slice la lb lc, .int .i64 enum] 76) = w0 at *
      have hsz := H1.out.size
      obtain ⟨N, hN⟩ : ∃ N, wr.heap.size = N := ⟨_, rfl⟩
      rw [hN] at hne HA hsz hNB hKl hlt2
      rw [hN]
      have HN : Hid (wr.heap.size = N) := hN
      clear hN
      have hnH : H ∉ (Value.slice sp el ec).ownBlock.toList := fun hm => own_ne HO.out (by simpa using hm) HB.out.row rfl (by decide) rfl
      have hnK : K ∉ (Value.slice sp el ec).ownBlock.toList := fun hm => block_ne HO.out (by simpa using hm) HB.out.head (by decide) rfl
      have hNn : N ∉ (Value.slice sp el ec).ownBlock.toList := fun hm => by have := hne N (by simpa using hm); omega
      go_loopg [4, 5] 40 (fun gk s4 s5 wx => ∃ (k : Nat) (sp' : Option Addr) (cp : Nat), k + gk = 40 ∧ s5 = .int .i64 k ∧ s4 = .slice sp' (el + k) cp ∧ Hid (wx.ownsRow B 3 1 (.slice sp' (el + k) cp) (el + k) (List.replicate (el + k) (.int .i64 (mk enum)))) ∧ Buts (Value.slice sp el ec).ownBlock.toList w0 wx ∧ Hid (Rd wx (.slice sp el ec) el (.int .i64 (mk enum))) ∧ Hid (∀ g, (Value.slice sp' (el + k) cp).ownBlock = some g → (Value.slice sp el ec).ownBlock = some g ∨ w0.heap.size ≤ g))
      case atStart =>
        have h0 := owns_of (w' := w0) HO.out (fun g hg => H1.out.block g (HO.out.lt g hg).2)
        exact ⟨0, sp, ec, by omega, rfl, rfl, h0, Buts.refl _ _, Rd.of h0, fun g hg => Or.inl hg⟩
      case round =>
        obtain ⟨k, sp', cp, hkg, rfl, rfl, HV, hV, HR, HC⟩ := hrel
        have hNl : N < w0.heap.size := at_lt HA.out
        have hh := (hV.block N hNl hNn).trans HA.out
        have d2 := cell_of (i := 2) hh
        simp only [List.getElem?_toArray, List.getElem?_cons_zero, List.getElem?_cons_succ] at d2
        cases gk with
        | zero =>
          obtain rfl : k = 40 := by omega
          have hbw := (hV.block K (by omega) hnK).trans ((H1.out.block K (by rw [HN.out]; exact hKl)).trans HB.out.head)
          have ch := cell_of (i := 3) hbw
          have ch' : wr.cell? ⟨K, 3, none⟩ = some (.slice (some ⟨H, 0, none⟩) m cap) := by rw [ch]; rfl
          clear ch
          have hrw := owns_buts (owns_of (w' := w0) HB.out.row (fun g hg => H1.out.block g (HB.out.row.lt g hg).2)) hV (fun g hg => by have : H = g := (by simpa [Value.ownBlock] using hg); rw [← this]; exact hnH)
          have hcc := flat_at F i _ HE.out 1 (by omega)
          have c1 : wr.cell? ⟨H, i * 3 + 1, none⟩ = some (.slice la lb lc) := by
            rw [HM.out] at hrw
            rw [hrw.cellAt (i * 3 + 1) (by omega)]; exact hcc
          have f1 : wr.frozen? ⟨H, i * 3 + 1, none⟩ = false := by
            rw [HM.out] at hrw
            exact hrw.frozenAt _
          have hbF := HB.out
          have HF : Hid _ := grow_end (by have := HB.out; rwa [← HM.out] at this) HL.out HE.out H1.out hV HV.out HR.out HC.out
          clear hcc hrw hbw hbF
          rw [HM.out] at HF
          go_wp2
          go_roundg g'
          case measure => omega
          case rel => exact ⟨i + 1, _, by omega, by go_num, by show _ = _; rw [List.length_set]; exact HM.out, HF.out.1, HF.out.2.1, hU.trans HF.out.2.2⟩
        | succ g2 =>
          have hA2 := alloc_at wr (.cells #[.int .i64 (mk enum)] 3)
          have hb2 := alloc_below wr (.cells #[.int .i64 (mk enum)] 3)
          have hc2 : (wr.alloc (.cells #[.int .i64 (mk enum)] 3)).cell? ⟨wr.heap.size, 0, none⟩ = some (.int .i64 (mk enum)) := by rw [cell_of hA2]; rfl
          have HV2 : Hid _ := owns_of (w' := wr.alloc (.cells #[.int .i64 (mk enum)] 3)) HV.out (fun g hg => hb2.block g (HV.out.lt g hg).2)
          have hbs : B ≤ (wr.alloc (.cells #[.int .i64 (mk enum)] 3)).heap.size := by have := hb2.size; have := hV.size; omega
          go_wp2_with (first
            | (go_at_call 60; refine (mark_any _ hnum _).mono ?_; rintro e w' ⟨rfl, rfl⟩)
            | (at_builtin; refine wpList_gapp2 rfl (.tmp 28) (.tmp 32) rfl rfl rfl rfl HV2.out hc2 rfl (by omega) hbs ?_; intro g5 cap5 w5 HO5 HG5))
          go_roundg g2
          case measure => omega
          case rel =>
            have hq := more_end HV.out hV HR.out HC.out (fun g hg => by have := hne g hg; omega) hb2 HO5.out HG5.out
            exact ⟨k + 1, _, _, by omega, by go_num, rfl, hq.1, hq.2.1, hq.2.2.1, hq.2.2.2⟩
end Go.Proofs.YtciafjmljmeimaaDoor
