/- What the program asks of lists first: ranks, places, others. A clone of a list. -/
import Derived.Test.YtcjjaofmicegfaaDoorMem
import Derived.Laws.Cover3
import Derived.ArgAppend
namespace Go.Proofs.YtcjjaofmicegfaaDoor
open Go Go.RowKit
set_option maxRecDepth 100000
set_option linter.unusedVariables false
set_option linter.unusedSimpArgs false
/-- all are ranks -/
def Rks (bs : List Int) : Prop := ∀ i, i < bs.length → 0 ≤ bs.getD i 0 ∧ bs.getD i 0 ≤ 31
/-- nobody waits for themselves -/
def Oth (ws : List Int) : Prop := ∀ i, i < ws.length → ws.getD i 0 ≠ (i : Int)
theorem isPlace_any (sp : Option Addr) (n c : Nat) (r : Int) (hn : n ≤ 140737488355328) (w : World) : Calls Tryd.prog 41 #[.slice sp n c, .int .i64 r] w fun e w' => e = .returned (.bool (decide (0 ≤ r ∧ r < n))) ∧ w = w' := by
  go_enter Tryd.func41, Tryd.ntmps41
  go_wp2
  all_goals
    go_ret
    refine ⟨?_, rfl⟩
    simp
    try omega
theorem isPlace_is {sp : Option Addr} {n c : Nat} {r : Int} (hn : n ≤ 140737488355328) {b : Bool} (hb : b = true ↔ 0 ≤ r ∧ r < n) (w : World) : Calls Tryd.prog 41 #[.slice sp n c, .int .i64 r] w fun e w' => e = .returned (.bool b) ∧ w = w' := by
  have := isPlace_any sp n c r hn w
  have e : b = decide (0 ≤ r ∧ r < n) := by rw [Bool.eq_iff_iff, hb]; simp
  rw [e]; exact this
theorem Src.get {w : World} {sp : Option Addr} {zs : List Int} (h : Src w sp zs) (h0 : 0 < zs.length) : ∃ b off, sp = some ⟨b, off, none⟩ ∧ Hid (∀ i, i < zs.length → w.cell? ⟨b, off + i, none⟩ = some (.int .i64 (zs.getD i 0))) := h h0
theorem areRanks_is {w : World} {sp : Option Addr} {zs : List Int} (hs : Src w sp zs) (hl : zs.length ≤ 1000000) (c : Nat) {b : Bool} (hb : b = true ↔ Rks zs) :
    Calls Tryd.prog 13 #[.slice sp zs.length c] w fun e w' => e = .returned (.bool b) ∧ w = w' := by
  have HT : Hid ((∀ i, i < zs.length → 0 ≤ zs.getD i 0 ∧ zs.getD i 0 ≤ 31) → b = true) := fun h => hb.2 h
  have HF : Hid (∀ i, i < zs.length → ¬ (0 ≤ zs.getD i 0 ∧ zs.getD i 0 ≤ 31) → b = false) := fun i hi h => by
    cases hbb : b
    · rfl
    · exact absurd (hb.1 hbb i hi) h
  clear hb
  by_cases h0 : zs.length = 0
  · rw [h0]
    have hbt := HT.out fun i hi => by omega
    subst hbt
    clear hs hl h0 HT HF
    go_enter Tryd.func13, Tryd.ntmps13
    go_wp2
    refine wp_loop_rounds 1 ?_
    rw [rounds_succ]
    go_wp2
    go_ret
    exact ⟨rfl, rfl⟩
  · obtain ⟨b1, o1, rfl, C1⟩ := hs.get (by omega)
    clear hs h0
    generalize zs.length = n at *
    go_enter Tryd.func13, Tryd.ntmps13
    go_wp2
    go_loopg [7] n (fun g s7 wx => ∃ i : Nat, i + g = n ∧ s7 = .int .i64 i ∧ w = wx ∧ Hid (∀ j, j < i → 0 ≤ zs.getD j 0 ∧ zs.getD j 0 ≤ 31))
    case atStart => exact ⟨0, by omega, rfl, rfl, fun j hj => by omega⟩
    case round =>
      obtain ⟨i, hig, rfl, rfl, HJ⟩ := hrel
      cases gk with
      | zero =>
        obtain rfl : i = n := by omega
        have hlt : ¬ ((i : Int) < i) := by omega
        have hbt := HT.out HJ.out
        subst hbt
        go_wp2
        go_ret
        exact ⟨rfl, rfl⟩
      | succ g =>
        have hlt : (i : Int) < n := by omega
        have k1 := C1.out i (by omega)
        have HF1 := HF.out i (by omega)
        have HE : Hid (∃ z, zs.getD i 0 = z) := ⟨_, rfl⟩
        obtain ⟨z, hz⟩ := HE.out
        rw [hz] at k1 HF1
        have HZ : Hid (zs.getD i 0 = z) := hz
        clear hz HE
        by_cases hzz : 0 ≤ z ∧ z ≤ 31
        · have a1 : ¬ (z < 0) := by omega
          have a2 : ¬ (31 < z) := by omega
          clear HF1 hzz
          go_wp2
          go_roundg g
          case measure => omega
          case rel => exact ⟨i + 1, by omega, by go_num, rfl, fun j hj => by
            rcases Nat.lt_or_ge j i with h | h
            · exact HJ.out j h
            · obtain rfl : j = i := by omega
              rw [HZ.out]; omega⟩
        · have hbt := HF1 hzz
          subst hbt
          by_cases a1 : z < 0
          · clear HF1 hzz
            go_wp2
            go_ret
            exact ⟨rfl, rfl⟩
          · have a2 : 31 < z := by omega
            clear HF1 hzz
            go_wp2
            go_ret
            exact ⟨rfl, rfl⟩
theorem arePlaces_is {w : World} {sp : Option Addr} {zs : List Int} (hs : Src w sp zs) (hl : zs.length ≤ 140737488355328) (c : Nat) {b : Bool} (hb : b = true ↔ Plc zs) :
    Calls Tryd.prog 42 #[.slice sp zs.length c] w fun e w' => e = .returned (.bool b) ∧ w = w' := by
  have HT : Hid ((∀ i, i < zs.length → -1 ≤ zs.getD i 0 ∧ zs.getD i 0 < zs.length) → b = true) := fun h => hb.2 h
  have HF : Hid (∀ i, i < zs.length → ¬ (-1 ≤ zs.getD i 0 ∧ zs.getD i 0 < zs.length) → b = false) := fun i hi h => by
    cases hbb : b
    · rfl
    · exact absurd (hb.1 hbb i hi) h
  clear hb
  by_cases h0 : zs.length = 0
  · rw [h0]
    have hbt := HT.out fun i hi => by omega
    subst hbt
    clear hs hl h0 HT HF
    go_enter Tryd.func42, Tryd.ntmps42
    go_wp2
    refine wp_loop_rounds 1 ?_
    rw [rounds_succ]
    go_wp2
    go_ret
    exact ⟨rfl, rfl⟩
  · obtain ⟨b1, o1, rfl, C1⟩ := hs.get (by omega)
    clear hs h0
    generalize zs.length = n at *
    go_enter Tryd.func42, Tryd.ntmps42
    go_wp2
    go_loopg [7] n (fun g s7 wx => ∃ i : Nat, i + g = n ∧ s7 = .int .i64 i ∧ w = wx ∧ Hid (∀ j, j < i → -1 ≤ zs.getD j 0 ∧ zs.getD j 0 < n))
    case atStart => exact ⟨0, by omega, rfl, rfl, fun j hj => by omega⟩
    case round =>
      obtain ⟨i, hig, rfl, rfl, HJ⟩ := hrel
      cases gk with
      | zero =>
        obtain rfl : i = n := by omega
        have hlt : ¬ ((i : Int) < i) := by omega
        have hbt := HT.out HJ.out
        subst hbt
        go_wp2
        go_ret
        exact ⟨rfl, rfl⟩
      | succ g =>
        have hlt : (i : Int) < n := by omega
        have k1 := C1.out i (by omega)
        have HF1 := HF.out i (by omega)
        have HE : Hid (∃ z, zs.getD i 0 = z) := ⟨_, rfl⟩
        obtain ⟨z, hz⟩ := HE.out
        rw [hz] at k1 HF1
        have HZ : Hid (zs.getD i 0 = z) := hz
        clear hz HE
        by_cases hzz : -1 ≤ z ∧ z < n
        · clear HF1
          have HG : Hid (-1 ≤ z ∧ z < n) := hzz
          by_cases a1 : z = -1
          · subst a1
            clear hzz
            go_wp2
            go_roundg g
            case measure => omega
            case rel => exact ⟨i + 1, by omega, by go_num, rfl, fun j hj => by
              rcases Nat.lt_or_ge j i with h | h
              · exact HJ.out j h
              · obtain rfl : j = i := by omega
                rw [HZ.out]; exact HG.out⟩
          · have hP := isPlace_is (sp := some ⟨b1, o1, none⟩) (n := n) (c := c) (r := z) (b := true) (by omega) (by simp; omega) w
            clear hzz
            go_wp2_with (first | (go_at_call 41; refine hP.mono ?_; rintro e wx ⟨rfl, rfl⟩))
            go_roundg g
            case measure => omega
            case rel => exact ⟨i + 1, by omega, by go_num, rfl, fun j hj => by
              rcases Nat.lt_or_ge j i with h | h
              · exact HJ.out j h
              · obtain rfl : j = i := by omega
                rw [HZ.out]; exact HG.out⟩
        · have hbt := HF1 hzz
          subst hbt
          have a1 : ¬ (z = -1) := by omega
          have hP := isPlace_is (sp := some ⟨b1, o1, none⟩) (n := n) (c := c) (r := z) (b := false) (by omega) (by simp; omega) w
          clear HF1 hzz
          go_wp2_with (first | (go_at_call 41; refine hP.mono ?_; rintro e wx ⟨rfl, rfl⟩))
          go_ret
          exact ⟨rfl, rfl⟩
theorem areOthers_is {w : World} {sp : Option Addr} {zs : List Int} (hs : Src w sp zs) (hl : zs.length ≤ 140737488355328) (c : Nat) {b : Bool} (hb : b = true ↔ (Oth zs ∧ Plc zs)) :
    Calls Tryd.prog 14 #[.slice sp zs.length c] w fun e w' => e = .returned (.bool b) ∧ w = w' := by
  have HP : Hid ((∀ i, i < zs.length → zs.getD i 0 ≠ (i : Int)) → Calls Tryd.prog 42 #[.slice sp zs.length c] w fun e w' => e = .returned (.bool b) ∧ w = w') := fun h => arePlaces_is hs hl c ⟨fun k => (hb.1 k).2, fun k => hb.2 ⟨h, k⟩⟩
  have HF : Hid (∀ i, i < zs.length → zs.getD i 0 = (i : Int) → b = false) := fun i hi h => by
    cases hbb : b
    · rfl
    · exact absurd h ((hb.1 hbb).1 i hi)
  clear hb
  by_cases h0 : zs.length = 0
  · have hP := HP.out fun i hi => by omega
    rw [h0] at hP ⊢
    clear hs hl h0 HP HF
    go_enter Tryd.func14, Tryd.ntmps14
    go_wp2
    refine wp_loop_rounds 1 ?_
    rw [rounds_succ]
    go_wp2_with (first | (go_at_call 42; refine hP.mono ?_; rintro e wx ⟨rfl, rfl⟩))
    go_ret
    exact ⟨rfl, rfl⟩
  · obtain ⟨b1, o1, rfl, C1⟩ := hs.get (by omega)
    clear hs h0
    generalize zs.length = n at *
    go_enter Tryd.func14, Tryd.ntmps14
    go_wp2
    go_loopg [7] n (fun g s7 wx => ∃ i : Nat, i + g = n ∧ s7 = .int .i64 i ∧ w = wx ∧ Hid (∀ j, j < i → zs.getD j 0 ≠ (j : Int)))
    case atStart => exact ⟨0, by omega, rfl, rfl, fun j hj => by omega⟩
    case round =>
      obtain ⟨i, hig, rfl, rfl, HJ⟩ := hrel
      cases gk with
      | zero =>
        obtain rfl : i = n := by omega
        have hlt : ¬ ((i : Int) < i) := by omega
        have hP := HP.out HJ.out
        go_wp2_with (first | (go_at_call 42; refine hP.mono ?_; rintro e wx ⟨rfl, rfl⟩))
        go_ret
        exact ⟨rfl, rfl⟩
      | succ g =>
        have hlt : (i : Int) < n := by omega
        have k1 := C1.out i (by omega)
        have HF1 := HF.out i (by omega)
        have HE : Hid (∃ z, zs.getD i 0 = z) := ⟨_, rfl⟩
        obtain ⟨z, hz⟩ := HE.out
        rw [hz] at k1 HF1
        have HZ : Hid (zs.getD i 0 = z) := hz
        clear hz HE
        by_cases hzz : z = (i : Int)
        · have hbt := HF1 hzz
          subst hbt hzz
          clear HF1
          go_wp2
          go_ret
          exact ⟨rfl, rfl⟩
        · clear HF1
          have a1 : (z == (i : Int)) = false := by simpa using hzz
          have HZZ : Hid (z ≠ (i : Int)) := hzz
          go_wp2
          go_roundg g
          case measure => omega
          case rel => exact ⟨i + 1, by omega, by go_num, rfl, fun j hj => by
            rcases Nat.lt_or_ge j i with h | h
            · exact HJ.out j h
            · obtain rfl : j = i := by omega
              rw [HZ.out]; exact HZZ.out⟩
theorem info_parts' {P : Program} {t : TypeId} {v : Value} {s b : Nat} (h : (P.info? t).map (fun i => (i.zero, i.size, i.bytes)) = some (some v, s, b)) : ∃ i, P.info? t = some i ∧ i.zero = some v ∧ i.size = s ∧ i.bytes = b := by
  obtain ⟨i, hi, he⟩ := Option.map_eq_some_iff.1 h
  exact ⟨i, hi, by simpa using congrArg Prod.fst he, by simpa using congrArg (fun x => x.2.1) he, by simpa using congrArg (fun x => x.2.2) he⟩
theorem infoW : (Tryd.prog.info? 3).map (fun i => (i.zero, i.size, i.bytes)) = some (some (.int .i64 0), 1, 8) := by kernel_rfl
theorem eql_nil (w : World) (a : Option Addr) (l c : Nat) : (binOp .eql 22 (.slice a l c) (.slice none 0 0)).run Tryd.prog w = .ok (.bool a.isNone) w := by
  simp [binOp, run_equal_slice_nil w 22 3 a l c Tryd.underlying22]
theorem add_at (b o j : Nat) : (⟨b, o, none⟩ : Addr).add j = ⟨b, o + j, none⟩ := by unfold Addr.add; split <;> simp_all
theorem num_one (zs : List Int) : ∀ u ∈ zs.map (Value.int .i64), u.oneCell' = true := by
  intro u hu
  obtain ⟨z, _, rfl⟩ := List.mem_map.1 hu
  rfl
theorem Src.news {w w' : World} {a : Addr} {zs : List Int} (h : Src w (some a) zs) (hb : Below w.heap.size w w') : ∀ j u, (zs.map (Value.int .i64))[j]? = some u → w'.cell? (a.add j) = some u := by
  intro j u hj
  have hl : j < zs.length := by
    have := (List.getElem?_eq_some_iff.1 hj).1
    simpa using this
  obtain ⟨b, o, e, hc⟩ := h.below hb (by omega)
  cases e
  rw [add_at, hc j hl, ← hj]
  simp [hl]
section
attribute [local go_sem] eql_nil
theorem clone_any {w : World} {sp : Option Addr} {zs : List Int} (hs : Src w sp zs) (hl : zs.length ≤ 1000000) (c : Nat) :
    Calls Tryd.prog 15 #[.slice sp zs.length c] w fun e w' => ∃ v, e = .returned v ∧ w'.ownsRow w.heap.size 3 1 v zs.length (zs.map (Value.int .i64)) ∧ Below w.heap.size w w' := by
  obtain ⟨i0, hi, hz0, hz1, hz2⟩ := info_parts' infoW
  rcases sp with _ | ad
  · have h0 : zs = [] := by
      rcases zs with _ | ⟨z, zs⟩
      · rfl
      · obtain ⟨b, o, e, _⟩ := hs (by simp)
        cases e
    subst h0
    go_enter Tryd.func15, Tryd.ntmps15
    go_wp2
    go_ret
    exact ⟨_, rfl, World.ownsRow_nil _ _ _ _, Below.refl _ _⟩
  · have HS : Hid (Src w (some ad) zs) := hs
    obtain ⟨n, hn⟩ : ∃ n, zs.length = n := ⟨_, rfl⟩
    have HN : Hid (zs.length = n) := hn
    rw [hn] at hl ⊢
    clear hs hn
    go_enter Tryd.func15, Tryd.ntmps15
    go_wp2_with (first
        | (at_builtin; refine wpList_append_own _ rfl _ _ 22 rfl w.heap.size 3 i0 (.int .i64 0) 1 8 Tryd.underlying22 hi hz0 hz1 hz2 rfl (by decide) _ _ _ rfl (World.ownsRow_made w #[] 0 (Nat.le_refl _) (by simp) rfl) ad n c (zs.map (Value.int .i64)) rfl (by simp [HN.out]) (HS.out.news (alloc_below w _)) (num_one zs) (by simp only [maxLen]; omega) (by omega) (by rw [alloc_size]; omega) ?_; intro v' w1 hown' hgrow _; have HG : Hid ((w.alloc (.cells #[] 3)).grownBy w1 (some w.heap.size)) := hgrow; have HO3 : Hid (w1.ownsRow w.heap.size 3 1 v' (0 + n) ([] ++ zs.map (Value.int .i64))) := hown'; clear hown' hgrow))
    go_ret
    refine ⟨_, rfl, ?_, ?_⟩
    · have := HO3.out
      rwa [Nat.zero_add, List.nil_append] at this
    · exact (alloc_below w _).trans ((Buts.grown HG.out).below (fun x hx => by simp at hx; omega) (by rw [alloc_size]; omega))
end
end Go.Proofs.YtcjjaofmicegfaaDoor
