/- 'look' walked: each list, and each longer one, has its own mark everywhere. -/
import Derived.Test.YtciafjmljmeimaaDoorGrowWalk
import Derived.Deep.QuietTactic
import Derived.BigQuiet
namespace Go.Proofs.YtciafjmljmeimaaDoor
open Go Go.RowKit
set_option maxRecDepth 100000
set_option linter.unusedVariables false
theorem Rd.below {w w' : World} {v : Value} {n : Nat} {x : Value} (h : Rd w v n x) (hb : Below w.heap.size w w') : Rd w' v n x := h.buts (l := []) (Buts.of hb) (fun _ _ _ _ _ => by simp)
theorem Rd.form {w : World} {v : Value} {n : Nat} {x : Value} (h : Rd w v n x) : ∃ sp cap, v = .slice sp n cap ∧ ∀ q, q < n → ∃ g, sp = some ⟨g, 0, none⟩ ∧ w.cell? ⟨g, q, none⟩ = some x := by
  obtain ⟨sp, cap, rfl, hc⟩ := h
  refine ⟨sp, cap, rfl, fun q hq => ?_⟩
  obtain ⟨g, cur, rfl, hh, hx⟩ := hc (by omega)
  exact ⟨g, rfl, by rw [cell_of hh]; exact hx q hq⟩
set_option maxHeartbeats 4000000 in
theorem look_any {B : Nat} {w : World} {K : Nat} {n : Int} {v : Value} {E : List Ent} (hb : Bk B w K n v E) (hl : Gl B w E E.length) :
    Calls Tryd.prog 46 #[.pointer (some ⟨K, 0, none⟩)] w fun e w' => e = .returned (.bool true) ∧ Below w.heap.size w w' := by
  have HB : Hid (Bk B w K n v E) := hb
  have HL : Hid (Gl B w E E.length) := hl
  clear hb hl
  have hf := HB.out.few
  obtain ⟨m, hm⟩ : ∃ m, E.length = m := ⟨_, rfl⟩
  rw [hm] at hf
  have HM : Hid (E.length = m) := hm
  clear hm
  go_enter Tryd.func46, Tryd.ntmps46
  go_wp2
  go_loopg [3] m (fun gk s3 wx => ∃ i : Nat, i + gk = m ∧ s3 = .int .i64 i ∧ Below w.heap.size w wx)
  case atStart => exact ⟨0, by omega, rfl, Below.refl _ _⟩
  case round =>
    obtain ⟨i, hig, rfl, hU⟩ := hrel
    have HBr : Hid (Bk B wr K n v E) := HB.out.buts (l := []) (Buts.of hU) (by simp) (fun _ _ => by simp)
    have ch : wr.cell? ⟨K, 3, none⟩ = some v := by rw [cell_of HBr.out.head]; rfl
    cases gk with
    | zero =>
      obtain ⟨sp, cap, hv, -, -, -⟩ := own_form HB.out.row
      rw [HM.out] at hv
      subst hv
      have hlt : ¬ ((i : Int) < m) := by omega
      go_wp2
      go_ret
      exact ⟨rfl, hU⟩
    | succ g' =>
      have hlt : (i : Int) < m := by omega
      obtain ⟨e, he⟩ : ∃ e, E[i]? = some e := ⟨_, List.getElem?_eq_getElem (by rw [HM.out]; omega)⟩
      obtain ⟨H, cap, hv, hcap, c0, c1, c2⟩ := HBr.out.spot he
      have hlen := HL.out.len i e he
      have hnum := HL.out.num i e he
      have R1 := (HL.out.rdv i e (by rw [HM.out]; omega) he).below hU
      have R2 := (HL.out.rdl i e (by rw [HM.out]; omega) he).below hU
      obtain ⟨sp, ec, hev, -⟩ := R1.form
      obtain ⟨la, lc, hlong, -⟩ := R2.form
      have HE : Hid (E[i]? = some e) := he
      clear he
      obtain ⟨ev, el, elong, enum⟩ := e
      simp only at hev hlong c0 c1 c2 hlen hnum R1 R2
      subst hev hlong
      rw [HM.out] at hv hcap
      subst hv
      have HR1 : Hid (Rd wr (.slice sp el ec) el (.int .i64 (mk enum))) := R1
      have HR2 : Hid (Rd wr (.slice la (el + 40) lc) (el + 40) (.int .i64 (mk enum))) := R2
      clear R1 R2
      have hlt2 := HBr.out.row.lt H rfl
      have hA := alloc_at wr (.cells #[.slice sp el ec, .slice la (el + 40) lc, .int .i64 enum] 76)
      have hb1 := alloc_below wr (.cells #[.slice sp el ec, .slice la (el + 40) lc, .int .i64 enum] 76)
      go_wp2
      have HA : Hid ((wr.alloc (.cells #[.slice sp el ec, .slice la (el + 40) lc, .int .i64 enum] 76)).heap[wr.heap.size]? = some (.cells #[.slice sp el ec, .slice la (el + 40) lc, .int .i64 enum] 76 (0, 0))) := hA
      have H1 : Hid (Below wr.heap.size wr (wr.alloc (.cells #[.slice sp el ec, .slice la (el + 40) lc, .int .i64 enum] 76))) := hb1
      clear hb1 hA c0 c1 c2 ch
      generalize wr.alloc (.cells #[.slice sp el ec, .slice la (el + 40) lc, .int .i64 enum] 76) = w0 at *
      have HR1' : Hid (Rd w0 (.slice sp el ec) el (.int .i64 (mk enum))) := HR1.out.below H1.out
      have HR2' : Hid (Rd w0 (.slice la (el + 40) lc) (el + 40) (.int .i64 (mk enum))) := HR2.out.below H1.out
      have HU0 : Hid (Below w.heap.size w w0) := hU.trans (H1.out.mono hU.size)
      clear HR1 HR2 hU HBr
      generalize wr.heap.size = N at *
      have hNl : N < w0.heap.size := at_lt HA.out
      go_loopg [5] (el + 40) (fun gk s5 wx => ∃ k : Nat, k + gk = el + 40 ∧ s5 = .int .i64 k ∧ Below w0.heap.size w0 wx)
      case atStart => exact ⟨0, by omega, rfl, Below.refl _ _⟩
      case round =>
        obtain ⟨k, hkg, rfl, hV⟩ := hrel
        have hh := (hV.block N hNl).trans HA.out
        have d0 := cell_of (i := 0) hh
        have d1 := cell_of (i := 1) hh
        have d2 := cell_of (i := 2) hh
        simp only [List.getElem?_toArray, List.getElem?_cons_zero, List.getElem?_cons_succ] at d0 d1 d2
        cases gk with
        | zero =>
          obtain rfl : k = el + 40 := by omega
          have hU2 : Below w.heap.size w wr := HU0.out.trans (hV.mono HU0.out.size)
          go_wp2
          go_roundg g'
          case measure => omega
          case rel => exact ⟨i + 1, by omega, by go_num, hU2⟩
        | succ g2 =>
          obtain ⟨sa, ca, ea, fa⟩ := (HR2'.out.below hV).form
          obtain ⟨ga, rfl, ka⟩ := fa k (by omega)
          simp only [Value.slice.injEq] at ea
          obtain ⟨rfl, -, rfl⟩ := ea
          clear fa
          have hlt3 : (k : Int) < el + 40 := by omega
          by_cases hk : k < el
          · obtain ⟨sb, cb, eb, fb⟩ := (HR1'.out.below hV).form
            obtain ⟨gb, rfl, kb⟩ := fb k hk
            simp only [Value.slice.injEq] at eb
            obtain ⟨rfl, -, rfl⟩ := eb
            clear fb
            have dk : decide ((k : Int) < el) = true := by simpa using hk
            go_wp2
            go_quiet ((go_at_call 68; exact Calls.quiet_of_same (is_yes _ hnum _)))
            go_wp2
            go_roundg g2
            case measure => omega
            case rel => exact ⟨k + 1, by omega, by go_num, hV.trans ((below_drewN _ _).mono hV.size)⟩
          · have dk : decide ((k : Int) < el) = false := by simpa using hk
            go_wp2
            go_quiet ((go_at_call 68; exact Calls.quiet_of_same (is_yes _ hnum _)))
            go_wp2
            go_roundg g2
            case measure => omega
            case rel => exact ⟨k + 1, by omega, by go_num, hV.trans ((below_drewN _ _).mono hV.size)⟩
end Go.Proofs.YtciafjmljmeimaaDoor
