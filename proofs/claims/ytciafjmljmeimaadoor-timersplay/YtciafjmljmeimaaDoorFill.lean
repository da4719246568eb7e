/- All lists of a book are filled with their marks. -/
import Derived.Test.YtciafjmljmeimaaDoorBook
import Derived.Deep.RegionWith
import Derived.Deep.CutRange
namespace Go.Proofs.YtciafjmljmeimaaDoor
open Go Go.RowKit
set_option maxRecDepth 100000
set_option linter.unusedVariables false
theorem fill_set (m : Value) (ys : List Value) (k : Nat) (h : k < ys.length) : (List.replicate k m ++ ys.drop k).set k m = List.replicate (k + 1) m ++ ys.drop (k + 1) := by
  rw [List.set_append_right _ _ (by simp), List.drop_eq_getElem_cons h, List.length_replicate, Nat.sub_self, List.set_cons_zero, List.replicate_succ', List.append_assoc, List.singleton_append]
theorem fill_end {B : Nat} {wr w0 wx : World} {K : Nat} {n : Int} {v : Value} {E : List Ent} {i : Nat} {e : Ent} (hb : Bk B wr K n v E) (hl : Lists B wr E i) (he : E[i]? = some e) (h1 : Below wr.heap.size wr w0) (hV : Buts e.v.ownBlock.toList w0 wx) (ho : wx.ownsRow B 3 1 e.v e.len (List.replicate e.len (.int .i64 (mk e.num)))) :
    Bk B wx K n v E ∧ Lists B wx E (i + 1) ∧ Buts (blks E) wr wx := by
  have hu : Buts e.v.ownBlock.toList wr wx := (Buts.of h1).trans hV
  obtain ⟨ys, hy, -⟩ := hl.own i e he
  refine ⟨hb.buts hu ?_ ?_, ⟨?_, hl.sep, hl.num, hl.len⟩, hu.mono (blks_mem he)⟩
  · intro hm
    exact block_ne hy (by simpa using hm) hb.head (by decide) rfl
  · intro g hg hm
    exact own_ne hy (by simpa using hm) hb.row hg (by decide) rfl
  · intro j f hf
    by_cases hj : j = i
    · subst hj
      rw [he] at hf
      cases hf
      exact ⟨_, ho, fun _ => rfl⟩
    · obtain ⟨zs, hz, hc⟩ := hl.own j f hf
      refine ⟨zs, owns_buts hz hu (fun g hg hm => hl.sep j i f e hj hf he g hg (by simpa using hm)), fun h => hc (by omega)⟩
set_option maxHeartbeats 4000000 in
theorem fill_any {B : Nat} {w : World} {K : Nat} {n : Int} {v : Value} {E : List Ent} (hb : Bk B w K n v E) (hl : Lists B w E 0) :
    Calls Tryd.prog 30 #[.pointer (some ⟨K, 0, none⟩)] w fun e w' => e = .returned (.tuple #[]) ∧ Bk B w' K n v E ∧ Lists B w' E E.length ∧ Buts (blks E) w w' := by
  have HB : Hid (Bk B w K n v E) := hb
  have HL : Hid (Lists B w E 0) := hl
  clear hb hl
  have hf := HB.out.few
  go_enter Tryd.func30, Tryd.ntmps30
  go_wp2
  go_loopg [2] E.length (fun gk s2 wx => ∃ i : Nat, i + gk = E.length ∧ s2 = .int .i64 i ∧ Hid (Bk B wx K n v E) ∧ Hid (Lists B wx E i) ∧ Buts (blks E) w wx)
  case atStart => exact ⟨0, by omega, rfl, HB, HL, Buts.refl _ _⟩
  case round =>
    clear HB HL
    obtain ⟨i, hig, rfl, HB, HL, hU⟩ := hrel
    have ch : wr.cell? ⟨K, 3, none⟩ = some v := by rw [cell_of HB.out.head]; rfl
    cases gk with
    | zero =>
      obtain ⟨sp, cap, rfl, -, -, -⟩ := own_form HB.out.row
      have hlt : ¬ ((i : Int) < E.length) := by omega
      go_wp2
      go_end0
      obtain rfl : i = E.length := by omega
      exact ⟨rfl, HB.out, HL.out, hU⟩
    | succ g' =>
      have hlt : (i : Int) < E.length := by omega
      obtain ⟨e, he⟩ : ∃ e, E[i]? = some e := ⟨_, List.getElem?_eq_getElem (by omega)⟩
      obtain ⟨H, cap, rfl, hcap, c0, c1, c2⟩ := HB.out.spot he
      obtain ⟨ys, ho, -⟩ := HL.out.own i e he
      have hlen := HL.out.len i e he
      have hnum := HL.out.num i e he
      obtain ⟨sp, ec, hv, hsp, hsp2, hmx⟩ := own_form ho
      have HE : Hid (E[i]? = some e) := he
      clear he
      obtain ⟨la, lb, lc, hlong⟩ := HB.out.lng i e HE.out
      obtain ⟨ev, el, elong, enum⟩ := e
      simp only at hv hlong c0 c1 c2 ho hlen hnum hsp hmx
      subst hv hlong
      have hlt2 := HB.out.row.lt H rfl
      have hA := alloc_at wr (.cells #[.slice sp el ec, .slice la lb lc, .int .i64 enum] 76)
      have hb1 := alloc_below wr (.cells #[.slice sp el ec, .slice la lb lc, .int .i64 enum] 76)
      have hne : ∀ g, sp = some ⟨g, 0, none⟩ → g < wr.heap.size := fun g e => (ho.lt g (by rw [e]; rfl)).2
      go_wp2
      have HO : Hid (wr.ownsRow B 3 1 (.slice sp el ec) el ys) := ho
      have hyl : ys.length = el := by have := ho.1; omega
      have HY : Hid (ys.length = el) := hyl
      clear ho c0 c1 c2 ch hyl
      have H1 : Hid (Below wr.heap.size wr (wr.alloc (.cells #[.slice sp el ec, .slice la lb lc, .int .i64 enum] 76))) := hb1
      have HA : Hid ((wr.alloc (.cells #[.slice sp el ec, .slice la lb lc, .int .i64 enum] 76)).heap[wr.heap.size]? = some (.cells #[.slice sp el ec, .slice la lb lc, .int .i64 enum] 76 (0, 0))) := hA
      clear hb1 hA
      generalize wr.alloc (.cells #[.slice sp el ec, .slice la lb lc, .int .i64 enum] 76) = w0 at *
      obtain ⟨N, hN⟩ : ∃ N, wr.heap.size = N := ⟨_, rfl⟩
      rw [hN] at hne HA
      rw [hN]
      have HN : Hid (wr.heap.size = N) := hN
      clear hN
      go_loopg [4] el (fun gk s4 wx => ∃ k : Nat, k + gk = el ∧ s4 = .int .i64 k ∧ Buts (Value.slice sp el ec).ownBlock.toList w0 wx ∧ Hid (wx.ownsRow B 3 1 (.slice sp el ec) el (List.replicate k (.int .i64 (mk enum)) ++ ys.drop k)))
      case atStart => exact ⟨0, by omega, rfl, Buts.refl _ _, by show World.ownsRow _ _ _ _ _ _ _; simpa using owns_of HO.out (fun g hg => H1.out.block g (HO.out.lt g hg).2)⟩
      case round =>
        obtain ⟨k, hkg, rfl, hV, HR⟩ := hrel
        have hNl : N < w0.heap.size := at_lt HA.out
        have hNn : N ∉ (Value.slice sp el ec).ownBlock.toList := by
          intro hm
          rcases hsp2 with rfl | ⟨g, rfl, -⟩
          · simp [Value.ownBlock] at hm
          · have : N = g := by simpa [Value.ownBlock] using hm
            have := hne g rfl
            omega
        have hh := (hV.block N hNl hNn).trans HA.out
        have d0 := cell_of (i := 0) hh
        have d2 := cell_of (i := 2) hh
        simp only [List.getElem?_toArray, List.getElem?_cons_zero, List.getElem?_cons_succ] at d0 d2
        cases gk with
        | zero =>
          obtain rfl : k = el := by omega
          have HF : Hid _ := fill_end HB.out HL.out HE.out H1.out hV (by have := HR.out; rwa [List.drop_of_length_le (by rw [HY.out]; omega), List.append_nil] at this)
          go_wp2
          go_roundg g'
          case measure => omega
          case rel => exact ⟨i + 1, by omega, by go_num, HF.out.1, HF.out.2.1, hU.trans HF.out.2.2⟩
        | succ g2 =>
          obtain ⟨g, rfl⟩ := hsp (by omega)
          have hkl : k < (List.replicate k (Value.int .i64 (mk enum)) ++ ys.drop k).length := by simp [HY.out]; omega
          have k1 := HR.out.cellAt k (by omega)
          rw [List.getElem?_eq_getElem hkl] at k1
          have k2 := HR.out.frozenAt k
          have HS : Hid ((wr.setCell ⟨g, k, none⟩ (.int .i64 (mk enum))).ownsRow B 3 1 (.slice (some ⟨g, 0, none⟩) el ec) el (List.replicate (k + 1) (.int .i64 (mk enum)) ++ ys.drop (k + 1))) := by
            have := (HR.out.stored k (.int .i64 (mk enum))).1
            rwa [fill_set _ _ _ (by rw [HY.out]; omega)] at this
          have hlt3 : (k : Int) < el := by omega
          generalize (List.replicate k (Value.int .i64 (mk enum)) ++ ys.drop k)[k] = y at *
          go_wp2
          go_region_with (first | (go_at_call 60; refine (mark_any _ hnum _).mono ?_; rintro e w' ⟨rfl, rfl⟩))
          all_goals
            go_wp2
            go_roundg g2
            case measure => omega
            case rel => exact ⟨k + 1, by omega, by go_num, (hV.trans ((Buts.cell wr g k _).mono (by simp [Value.ownBlock]))).drew, owns_of HS.out (fun _ _ => rfl)⟩
end Go.Proofs.YtciafjmljmeimaaDoor
