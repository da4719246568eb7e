/- The document's own list: Tick. -/
import Derived.Test.YtdifgjioaikchaaDoorRefDo
import Derived.Test.YtdifgjioaikchaaDoorGrow
namespace Go.Proofs.YtdifgjioaikchaaDoor
open Go Go.RowKit
set_option maxRecDepth 100000
set_option linter.unusedVariables false
set_option linter.unusedSimpArgs false
theorem take_snoc {ys : List (Int × Int)} {i : Nat} (hi : i < ys.length) : ys.take (i + 1) = ys.take i ++ [ys.getD i (0, 0)] := by
  rw [List.take_add_one, List.getElem?_eq_getElem hi, List.getD_eq_getElem?_getD, List.getElem?_eq_getElem hi]
  rfl
theorem woke_yes {ys : List (Int × Int)} {y : Int × Int} (h : y.2 = 1) : woke (ys ++ [y]) = woke ys ++ [y.1] ∧ rest (ys ++ [y]) = rest ys := by simp [woke, rest, h]
theorem woke_no {ys : List (Int × Int)} {y : Int × Int} (h : y.2 ≠ 1) : woke (ys ++ [y]) = woke ys ∧ rest (ys ++ [y]) = rest ys ++ [(y.1, y.2 - 1)] := by simp [woke, rest, h, dec]
theorem app_buts {w w' : World} {v : Value} {g : Nat} (h : (v.ownBlock = some g ∧ Buts [g] w w') ∨ (g = w.heap.size ∧ Below w.heap.size w w')) : Buts v.ownBlock.toList w w' := by
  rcases h with ⟨e, h⟩ | ⟨_, h⟩
  · rw [e]; exact h
  · exact Buts.of h
set_option maxHeartbeats 4000000 in
theorem rtick_is {B : Nat} {w : World} {q : Nat} {v : Value} {ys : List (Int × Int)} (h : Ref B w q v ys) (hB : B ≤ w.heap.size) :
    Calls Tryd.prog 13 #[.pointer (some ⟨q, 0, none⟩)] w fun e w' => ∃ us uc, e = .returned (.slice us (woke ys).length uc) ∧ w'.ownsRow w.heap.size 3 1 (.slice us (woke ys).length uc) (woke ys).length (num (woke ys)) ∧ RN B w w' q v (rest ys) := by
  have HL : Hid (Ref B w q v ys) := h
  obtain ⟨sp, g, cap, hv, hsp, hgl, hc1, hc2, hcs⟩ := h.seq
  subst hv
  have hlk := h.lnk
  have hlen := h.len
  have hql := at_lt h.head
  have HG : Hid (Good ys) := h.good
  have HCS : Hid (∀ k, k < ys.length → w.cell? ⟨g, k * 2, none⟩ = some (.int .i64 (ys.getD k (0, 0)).1) ∧ w.cell? ⟨g, k * 2 + 1, none⟩ = some (.int .i64 (ys.getD k (0, 0)).2)) := hcs
  have HB : Hid (B ≤ w.heap.size) := hB
  clear h hcs hc1 hc2 hB
  obtain ⟨n, hn⟩ : ∃ n, ys.length = n := ⟨_, rfl⟩
  rw [hn] at hlk hlen hsp HCS HL
  rw [hn]
  have HN : Hid (ys.length = n) := hn
  clear hn
  go_enter Tryd.func13, Tryd.ntmps13
  go_wp2
  go_loopg [3, 4, 5] n (fun gk s3 s4 s5 wx => ∃ (i : Nat) (us rs : Option Addr) (un uc rn rc : Nat), i + gk = n ∧ s3 = .slice us un uc ∧ s4 = .slice rs rn rc ∧ s5 = .int .i64 i ∧ Hid (wx.ownsRow w.heap.size 3 1 (.slice us un uc) (woke (ys.take i)).length (num (woke (ys.take i)))) ∧ Hid (OwnS w.heap.size wx (.slice rs rn rc) (rest (ys.take i))) ∧ Hid (Below w.heap.size w wx))
  case atStart => exact ⟨0, none, none, 0, 0, 0, 0, by omega, rfl, rfl, rfl, World.ownsRow_nil _ _ _ _, World.ownsRow_nil _ _ _ _, Below.refl _ _⟩
  case round =>
    obtain ⟨i, us, rs, un, uc, rn, rc, hig, rfl, rfl, rfl, HU, HR, HBl⟩ := hrel
    have hlk' := (HBl.out.cell (p := ⟨q, 0, none⟩) hql).trans hlk
    clear hlk
    cases gk with
    | zero =>
      obtain rfl : i = n := by omega
      have hlt : ¬ ((i : Int) < i) := by omega
      have hfr : wr.frozen? ⟨q, 0, none⟩ = false := by
        have := (HBl.out.block q hql).trans HL.out.head
        simp [World.frozen?, this]
      go_wp2
      go_ret
      have e : ys.take i = ys := List.take_of_length_le (by rw [HN.out]; omega)
      have hu := HU.out
      have hr := HR.out
      rw [e] at hu hr
      have hun : un = (woke ys).length := by
        obtain ⟨sp', c', e', _⟩ := own_form hu
        simp only [Value.slice.injEq] at e'
        exact e'.2.1
      subst hun
      have hbt := HL.out.lay (owns_base hr HB.out) (Buts.of HBl.out) (by have := rest_len ys; have := HL.out.len; omega) HG.out.rest (fun g' hg' => Or.inr (hr.lt' hg').1)
      refine ⟨us, uc, rfl, ?_, hbt⟩
      refine owns_buts hu (Buts.cell _ _ _ _) (fun g' hg' hm => ?_)
      obtain rfl : g' = q := by simpa using hm
      have := (hu.lt g' hg').1
      omega
    | succ g' =>
      have hlt : (i : Int) < n := by omega
      have hin : i < n := by omega
      obtain rfl := hsp (by omega)
      obtain ⟨c0, c1⟩ := HCS.out i hin
      have d0 := (HBl.out.cell (p := ⟨g, i * 2, none⟩) hgl).trans c0
      have d1 := (HBl.out.cell (p := ⟨g, i * 2 + 1, none⟩) hgl).trans c1
      have hT := take_snoc (ys := ys) (i := i) (by rw [HN.out]; exact hin)
      have hmem : ys.getD i (0, 0) ∈ ys := getD_mem (by rw [HN.out]; exact hin)
      have hlo := HG.out.lo _ hmem
      have hhi := HG.out.hi _ hmem
      obtain ⟨⟨a, z⟩, hy⟩ : ∃ y, ys.getD i (0, 0) = y := ⟨_, rfl⟩
      rw [hy] at d0 d1 hT hlo hhi
      simp only at d0 d1 hlo hhi
      have HTT : Hid (ys.take (i + 1) = ys.take i ++ [(a, z)]) := hT
      clear hT hmem hy c0 c1 hsp
      have hwz : IntKind.i64.wrap (z - 1) = z - 1 := by rw [IntKind.wrap_i64]; omega
      have hwl : (woke (ys.take i)).length + 1 ≤ 2000000 := by have h1 := woke_len (ys.take i); have h2 := HN.out; simp only [List.length_take] at h1; omega
      have hrl : rn ≤ 1000 ∧ rn = (rest (ys.take i)).length := by
        have h1 := rest_len (ys.take i)
        have h2 := HN.out
        obtain ⟨sp', c', e', _⟩ := HR.out.form
        simp only [Value.slice.injEq] at e'
        simp only [List.length_take] at h1
        exact ⟨by omega, e'.2.1⟩
      have HWL : Hid ((woke (ys.take i)).length + 1 ≤ 2000000) := hwl
      have HRL : Hid (rn ≤ 1000 ∧ rn = (rest (ys.take i)).length) := hrl
      clear hwl hrl
      obtain ⟨X, hX⟩ : ∃ X, wr.heap.size = X := ⟨_, rfl⟩
      by_cases h1 : z = 1
      · subst h1
        have hb1 := alloc_below wr (.cells #[.int .i64 a, .int .i64 0] 60)
        have hb2 := hb1.trans ((alloc_below (wr.alloc (.cells #[.int .i64 a, .int .i64 0] 60)) (.cells #[.int .i64 a] 3)).mono hb1.size)
        have hc := alloc_at (wr.alloc (.cells #[.int .i64 a, .int .i64 0] 60)) (.cells #[.int .i64 a] 3)
        rw [alloc_size, hX] at hc
        have HCC : Hid (((wr.alloc (.cells #[.int .i64 a, .int .i64 0] 60)).alloc (.cells #[.int .i64 a] 3)).cell? ⟨X + 1, 0, none⟩ = some (.int .i64 a)) := by show _ = _; rw [cell_of hc]; rfl
        have HU2 : Hid (((wr.alloc (.cells #[.int .i64 a, .int .i64 0] 60)).alloc (.cells #[.int .i64 a] 3)).ownsRow w.heap.size 3 1 (.slice us un uc) (woke (ys.take i)).length (num (woke (ys.take i)))) := owns_buts (l := []) HU.out (Buts.of hb2) (fun _ _ => by simp)
        have HR2 : Hid (OwnS w.heap.size ((wr.alloc (.cells #[.int .i64 a, .int .i64 0] 60)).alloc (.cells #[.int .i64 a] 3)) (.slice rs rn rc) (rest (ys.take i))) := HR.out.below hb2
        have HB2 : Hid (Below w.heap.size w ((wr.alloc (.cells #[.int .i64 a, .int .i64 0] 60)).alloc (.cells #[.int .i64 a] 3))) := HBl.out.trans (hb2.mono HBl.out.size)
        clear hb1 hb2 hc
        go_wp2_with (at_builtin; refine wpList_gapp2 (B := w.heap.size) rfl (.tmp 30) (.tmp 33) rfl rfl rfl rfl HU2.out HCC.out rfl HWL.out HB2.out.size ?_; intro g5 c5 w5 HO5 HG5)
        have hbb : Buts (Value.slice us un uc).ownBlock.toList _ w5 := app_buts HG5.out
        go_roundg g'
        case measure => omega
        case rel =>
          obtain ⟨e1, e2⟩ := woke_yes (ys := ys.take i) (y := (a, 1)) rfl
          refine ⟨i + 1, _, _, _, _, _, _, by omega, rfl, rfl, by go_num, ?_, ?_, HB2.out.trans (hbb.below (fun x hx => (HU2.out.lt x (by simpa using hx)).1) HB2.out.size)⟩
          · show World.ownsRow _ _ _ _ _ _ _
            rw [HTT.out, e1, List.length_append]
            have := HO5.out
            simpa [num] using this
          · show OwnS _ _ _ _
            rw [HTT.out, e2]
            exact HR2.out.buts hbb (fun x hx hm => own_ne HR2.out hx HU2.out (H := x) (by simpa using hm) (by decide) rfl)
      · have h1' : ¬ (z - 1 = 0) := by omega
        have hb1 := alloc_below wr (.cells #[.int .i64 a, .int .i64 (z - 1)] 60)
        have hb2 := hb1.trans ((alloc_below (wr.alloc (.cells #[.int .i64 a, .int .i64 (z - 1)] 60)) (.cells #[.int .i64 a, .int .i64 (z - 1)] 60)).mono hb1.size)
        have hc := alloc_at (wr.alloc (.cells #[.int .i64 a, .int .i64 (z - 1)] 60)) (.cells #[.int .i64 a, .int .i64 (z - 1)] 60)
        rw [alloc_size, hX] at hc
        have HCC : Hid (Arg ((wr.alloc (.cells #[.int .i64 a, .int .i64 (z - 1)] 60)).alloc (.cells #[.int .i64 a, .int .i64 (z - 1)] 60)) (X + 1) (a, z - 1)) := ⟨_, hc⟩
        have HU2 : Hid (((wr.alloc (.cells #[.int .i64 a, .int .i64 (z - 1)] 60)).alloc (.cells #[.int .i64 a, .int .i64 (z - 1)] 60)).ownsRow w.heap.size 3 1 (.slice us un uc) (woke (ys.take i)).length (num (woke (ys.take i)))) := owns_buts (l := []) HU.out (Buts.of hb2) (fun _ _ => by simp)
        have HR2 : Hid (OwnS w.heap.size ((wr.alloc (.cells #[.int .i64 a, .int .i64 (z - 1)] 60)).alloc (.cells #[.int .i64 a, .int .i64 (z - 1)] 60)) (.slice rs rn rc) (rest (ys.take i))) := HR.out.below hb2
        have HB2 : Hid (Below w.heap.size w ((wr.alloc (.cells #[.int .i64 a, .int .i64 (z - 1)] 60)).alloc (.cells #[.int .i64 a, .int .i64 (z - 1)] 60))) := HBl.out.trans (hb2.mono HBl.out.size)
        clear hb1 hb2 hc
        go_wp2_with (at_builtin; refine wpList_sapp (B := w.heap.size) rfl (.tmp 35) (.tmp 37) rfl rfl rfl HR2.out HRL.out.2 HRL.out.1 HCC.out HB2.out.size ?_; intro g5 c5 w5 HO5 HB5 HG5)
        have hbb : Buts (Value.slice rs rn rc).ownBlock.toList _ w5 := HB5.out
        go_roundg g'
        case measure => omega
        case rel =>
          obtain ⟨e1, e2⟩ := woke_no (ys := ys.take i) (y := (a, z)) h1
          refine ⟨i + 1, _, _, _, _, _, _, by omega, rfl, rfl, by go_num, ?_, ?_, HB2.out.trans (hbb.below (fun x hx => (HR2.out.lt' (g := x) (by simpa using hx)).1) HB2.out.size)⟩
          · show World.ownsRow _ _ _ _ _ _ _
            rw [HTT.out, e1]
            exact owns_buts HU2.out hbb (fun x hx hm => own_ne HU2.out hx HR2.out (H := x) (by simpa using hm) (by decide) rfl)
          · show OwnS _ _ _ _
            rw [HTT.out, e2]
            exact HO5.out
end Go.Proofs.YtdifgjioaikchaaDoor
