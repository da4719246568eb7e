/- What 'removeAt' and 'all' do. -/
import Derived.Test.YtjhpiecbolmleaaGreatDoorRing
namespace Go.Proofs.YtjhpiecbolmleaaGreatDoor
open Go Go.RowKit
set_option maxRecDepth 100000
set_option linter.unusedVariables false
theorem slot_raw {w : World} {p g n f m : Nat} {ys : List Int} (h : Raw w p g n f m ys) (hf : f < n) (hn : n ≤ 1024) (i : Nat) (hi : i ≤ n) (s : Nat) (hs : sl n f i = s) :
    Calls Tryz.prog 100 #[.pointer (some ⟨p, 0, none⟩), .int .i64 i] w fun e w' => e = .returned (.int .i64 (s : Nat)) ∧ Raw w' p g n f m ys ∧ Below w.heap.size w w' :=
  (slot_any h hf hn i hi).mono fun e w' ⟨he, k, hk⟩ => by subst hk hs; exact ⟨he, h.drew k, below_drewN _ _⟩
theorem slot_next {w : World} {p g n f m : Nat} {ys : List Int} (h : Raw w p g n f m ys) (hf : f < n) (hn : n ≤ 1024) (i : Nat) (hi : i + 1 ≤ n) (s : Nat) (hs : sl n f (i + 1) = s) {v : Int} (hv : v = (i : Int) + 1) :
    Calls Tryz.prog 100 #[.pointer (some ⟨p, 0, none⟩), .int .i64 v] w fun e w' => e = .returned (.int .i64 (s : Nat)) ∧ Raw w' p g n f m ys ∧ Below w.heap.size w w' :=
  by subst hv; exact slot_raw h hf hn (i + 1) hi s hs
set_option maxHeartbeats 2000000 in
theorem removeAt_any {w : World} {p g n f m : Nat} {ys xs : List Int} (h : Raw w p g n f xs.length ys) (hf : f < n) (hn : n ≤ 1024) (hx : xs.length ≤ n) (hh : Holds n f ys xs) (k : Nat) (hm : xs.length = m + 1) (hk : k ≤ m) :
    Calls Tryz.prog 92 #[.pointer (some ⟨p, 0, none⟩), .int .i64 k] w fun e w' => e = .returned (.tuple #[]) ∧ (∃ ys', Raw w' p g n f m ys' ∧ Holds n f ys' (xs.eraseIdx k)) ∧ Buts [p, g] w w' := by
  have HM : Hid (xs.length = m + 1) := hm
  rw [hm] at h hx
  have c2 := h.c2
  have cf := h.fp 2
  have HV : Hid (Moved n f ys xs k k) := hh.moved k
  have R0 : Hid (Raw (w.setCell ⟨p, 2, none⟩ (.int .i64 m)) p g n f m ys) := h.setMany m
  have B0 : Hid (Buts [p, g] w (w.setCell ⟨p, 2, none⟩ (.int .i64 m))) := (Buts.cell _ _ _ _).mono (by simp)
  clear h hh hm
  go_enter Tryz.func92, Tryz.ntmps92
  go_wp2
  generalize w.setCell ⟨p, 2, none⟩ (.int .i64 m) = w0 at *
  go_loopg [1] (m - k) (fun q s1 wx => ∃ (j : Nat) (zs : List Int), j + q = m ∧ k ≤ j ∧ s1 = .int .i64 j ∧ Hid (Raw wx p g n f m zs) ∧ Hid (Moved n f zs xs k j) ∧ Hid (Buts [p, g] w wx))
  case atStart => exact ⟨k, ys, by omega, by omega, rfl, R0, HV, B0⟩
  case round =>
    clear R0 HV B0 c2 cf
    obtain ⟨j, zs, hjq, hkj, rfl, HR, HV, HB⟩ := hrel
    have c2 := HR.out.c2
    cases gk with
    | zero =>
      have hlt : ¬ ((j : Int) < m) := by omega
      go_wp2
      go_end0
      exact ⟨rfl, ⟨zs, HR.out, HV.out.end (by have := HM.out; omega) hkj⟩, HB.out⟩
    | succ q =>
      have hlt : (j : Int) < m := by omega
      have hlen : Hid (zs.length = n) := HR.out.len
      have hs0 := sl_lt hf (show j ≤ n by omega)
      have hs1 := sl_lt hf (show j + 1 ≤ n by omega)
      have hne : sl n f j ≠ sl n f (j + 1) := fun e => by have := sl_inj hf (by omega) (by omega) e; omega
      have hne' := Ne.symm hne
      have HN : Hid (Moved n f (zs.set (sl n f j) (zs.getD (sl n f (j + 1)) 0)) xs k (j + 1)) := HV.out.next hkj (by have := HM.out; omega) hlen.out hf (by have := HM.out; omega)
      have E0 : Hid (∃ s, sl n f j = s) := ⟨_, rfl⟩
      have S0 : Hid (sl n f j = sl n f j) := rfl
      have S1 : Hid (sl n f (j + 1) = sl n f (j + 1)) := rfl
      generalize hg0 : sl n f j = s0 at hs0 hne hne' HN
      generalize hg1 : sl n f (j + 1) = s1 at hs1 hne hne' HN
      have G0 : Hid (sl n f j = s0) := hg0
      have G1 : Hid (sl n f (j + 1) = s1) := hg1
      clear hg0 hg1 S0 S1 E0
      have hs0I : (s0 : Int) < n := by omega
      have hs1I : (s1 : Int) < n := by omega
      have HWR : Hid (IntKind.i64.wrap ((j : Int) + 1) = (j : Int) + 1) := by show _ = _; rw [IntKind.wrap_i64]; omega
      have hpg := HR.out.ne
      have hgp := Ne.symm hpg
      have HD : Hid (Raw wr.drew p g n f m zs) := HR.out.drew1
      have BD : Hid (Buts [p, g] w wr.drew) := HB.out.drew
      have d0 := HR.out.c0
      have d1 := HR.out.row.cell s1 (by have := hlen.out; omega)
      have y0 : Hid (zs.getD s1 0 = zs.getD s1 0) := rfl
      generalize hy : zs.getD s1 0 = y at d1 HN
      have HY : Hid (zs.getD s1 0 = y) := hy
      clear hy y0
      have HK5 : ∀ w2, Raw w2 p g n f m zs → (w2.setCell ⟨g, s0, none⟩ (.int .i64 y)).cell? ⟨g, s1, none⟩ = some (.int .i64 y) := fun w2 hr => by
        rw [(hr.setSlot s0 y).row.cell s1 (by rw [List.length_set]; have := hlen.out; omega), getD_set (by have := hlen.out; omega), if_neg hne', HY.out]
      go_wp2
      go_region_held3 (fun w' => w'.cell? ⟨p, 0, none⟩ = some (.slice (some ⟨g, 0, none⟩) n n) ∧ w'.cell? ⟨g, s1, none⟩ = some (.int .i64 y)) (go_keep) (first
        | (go_at_call_of 100 (Value.int IntKind.i64 (j : Int)); refine (slot_raw R1.out hf hn j (by omega) s0 G0.out).mono ?_; rintro e w2 ⟨rfl, hr, hb⟩; have R2 : Hid (Raw w2 p g n f m zs) := hr; have B2 : Hid (Buts [p, g] w w2) := B1.out.trans (Buts.of hb); have k0 := R2.out.c0; have k1 := R2.out.row.cell s1 (by have := hlen.out; omega); rw [HY.out] at k1; have k5 := HK5 w2 hr; have kg := R2.out.row.cell s0 (by have := hlen.out; omega); have kf := R2.out.fg s0; clear hr hb)
        | (go_at_call 100; refine (slot_next R1.out hf hn j (by omega) s1 G1.out HWR.out).mono ?_; rintro e w2 ⟨rfl, hr, hb⟩; have R2 : Hid (Raw w2 p g n f m zs) := hr; have B2 : Hid (Buts [p, g] w w2) := B1.out.trans (Buts.of hb); have k0 := R2.out.c0; have k1 := R2.out.row.cell s1 (by have := hlen.out; omega); rw [HY.out] at k1; have k5 := HK5 w2 hr; have kg := R2.out.row.cell s0 (by have := hlen.out; omega); have kf := R2.out.fg s0; clear hr hb)
        | (go_at_call_of 100 (Value.int IntKind.i64 (j : Int)); refine (slot_raw HD.out hf hn j (by omega) s0 G0.out).mono ?_; rintro e w1 ⟨rfl, hr, hb⟩; have R1 : Hid (Raw w1 p g n f m zs) := hr; have B1 : Hid (Buts [p, g] w w1) := BD.out.trans (Buts.of hb); have k0 := R1.out.c0; have k1 := R1.out.row.cell s1 (by have := hlen.out; omega); rw [HY.out] at k1; clear hr hb)
        | (go_at_call 100; refine (slot_next HD.out hf hn j (by omega) s1 G1.out HWR.out).mono ?_; rintro e w1 ⟨rfl, hr, hb⟩; have R1 : Hid (Raw w1 p g n f m zs) := hr; have B1 : Hid (Buts [p, g] w w1) := BD.out.trans (Buts.of hb); have k0 := R1.out.c0; have k1 := R1.out.row.cell s1 (by have := hlen.out; omega); rw [HY.out] at k1; clear hr hb))
      all_goals
        have R3 : Hid (Raw (w2.setCell ⟨g, s0, none⟩ (.int .i64 y)) p g n f m (zs.set s0 y)) := R2.out.setSlot s0 y
        have B3 : Hid (Buts [p, g] w (w2.setCell ⟨g, s0, none⟩ (.int .i64 y))) := B2.out.trans ((Buts.cell _ _ _ _).mono (by simp))
        generalize w2.setCell ⟨g, s0, none⟩ (.int .i64 y) = w3 at *
        go_wp2
        go_roundg q
        case measure => omega
        case rel => exact ⟨j + 1, zs.set s0 y, by omega, by omega, by go_num, R3, HN, B3⟩
theorem made_zero (n : Nat) : madeCells (Value.int .i64 0).cells n = (num (List.replicate n 0)).toArray := by
  apply Array.ext_getElem?
  intro i
  by_cases hi : i < n
  · simp [madeCells, Value.cells, num, hi, Nat.mod_one]
  · simp [madeCells, Value.cells, num, hi]
theorem infoW : (Tryz.prog.info? 3).map (fun i => (i.zero, i.size, i.bytes)) = some (some (.int .i64 0), 1, 8) := by kernel_rfl
/-- a new row of noughts -/
theorem make_row (w : World) (l c : Nat) (hl : l ≤ c) (hc : c ≤ 1000000) :
    (Instr.makeSlice 45 (.int .i64 l) (.int .i64 c)).run Tryz.prog w = .ok (.slice (some ⟨w.heap.size, 0, none⟩) l c) (w.alloc (.cells (num (List.replicate c 0)).toArray 3)) := by
  obtain ⟨i, hi, he⟩ := Option.map_eq_some_iff.1 infoW
  have h1 : i.zero = some (.int .i64 0) := by simpa using congrArg Prod.fst he
  have h2 : i.size = 1 := by simpa using congrArg (fun x => x.2.1) he
  have h3 : i.bytes = 8 := by simpa using congrArg (fun x => x.2.2) he
  have := run_make w 45 3 i (.int .i64 0) Tryz.underlying45 hi h1 .i64 .i64 l c (by omega) (by omega) (by rw [h3]; omega) (by omega)
  rw [this, h2, Nat.mul_one, made_zero]
  simp
theorem own_row {w : World} {B g : Nat} {xs : List Int} (h : Row w g xs) (hb : B ≤ g) (hl : xs.length ≤ 1000000) : w.ownsRow B 3 1 (.slice (some ⟨g, 0, none⟩) xs.length xs.length) xs.length (xs.map (Value.int .i64)) := by
  refine ⟨by simp, Or.inr ⟨g, xs.length, _, rfl, hb, h, Nat.le_refl _, by simp only [maxLen]; omega, by simp [num], ?_⟩⟩
  simp [num, List.take_of_length_le]
theorem Row.buts {w w' : World} {g : Nat} {xs : List Int} {l : List Nat} (h : Row w g xs) (hb : Buts l w w') (hg : g ∉ l) : Row w' g xs := (hb.block g h.lt hg).trans h
theorem Row.below {w w' : World} {g : Nat} {xs : List Int} (h : Row w g xs) (hb : Below w.heap.size w w') : Row w' g xs := (hb.block g h.lt).trans h
/-- so many of a list, noughts behind them -/
def upto (xs : List Int) (i : Nat) : List Int := xs.take i ++ List.replicate (xs.length - i) 0
theorem upto_len {xs : List Int} {i : Nat} (hi : i ≤ xs.length) : (upto xs i).length = xs.length := by simp [upto]; omega
theorem upto_zero (xs : List Int) : upto xs 0 = List.replicate xs.length 0 := by simp [upto]
theorem upto_all (xs : List Int) : upto xs xs.length = xs := by simp [upto]
theorem upto_next {xs : List Int} {i : Nat} (hi : i < xs.length) : (upto xs i).set i (xs.getD i 0) = upto xs (i + 1) := by
  apply List.ext_getElem?
  intro j
  have hl := upto_len (Nat.le_of_lt hi)
  have hl' := upto_len (show i + 1 ≤ xs.length by omega)
  by_cases hj : j < xs.length
  · rw [List.getElem?_set]
    by_cases e : i = j
    · subst e
      rw [if_pos rfl, if_pos (by omega)]
      simp only [upto]
      rw [List.getElem?_append_left (by simp; omega), List.getElem?_take_of_lt (by omega)]
      simp [hi]
    · rw [if_neg e]
      simp only [upto]
      by_cases c : j < i
      · rw [List.getElem?_append_left (by simp; omega), List.getElem?_append_left (by simp; omega), List.getElem?_take_of_lt c, List.getElem?_take_of_lt (by omega)]
      · rw [List.getElem?_append_right (by simp; omega), List.getElem?_append_right (by simp; omega)]
        simp only [List.length_take]
        rw [List.getElem?_replicate, List.getElem?_replicate, if_pos (by omega), if_pos (by omega)]
  · rw [List.getElem?_eq_none (by rw [List.length_set]; omega), List.getElem?_eq_none (by omega)]
set_option maxHeartbeats 2000000 in
theorem all_any {w : World} {p g n f : Nat} {ys xs : List Int} (h : Raw w p g n f xs.length ys) (hf : f < n) (hn : n ≤ 1024) (hx : xs.length ≤ n) (hh : Holds n f ys xs) :
    Calls Tryz.prog 93 #[.pointer (some ⟨p, 0, none⟩)] w fun e w' => e = .returned (.slice (some ⟨w.heap.size, 0, none⟩) xs.length xs.length) ∧ Row w' w.heap.size xs ∧ Below w.heap.size w w' := by
  have HH : Hid (Holds n f ys xs) := hh
  have HY : Hid (ys.length = n) := h.len
  have hmk := make_row w xs.length xs.length (Nat.le_refl _) (by omega)
  have hp := at_lt h.head
  have hgl := h.row.lt
  have HA : Hid (Row (w.alloc (.cells (num (List.replicate xs.length 0)).toArray 3)) w.heap.size (upto xs 0)) := by
    have : Row (w.alloc (.cells (num (List.replicate xs.length 0)).toArray 3)) w.heap.size (List.replicate xs.length 0) := alloc_at w _
    rw [← upto_zero] at this; exact this
  have HB : Hid (Below w.heap.size w (w.alloc (.cells (num (List.replicate xs.length 0)).toArray 3))) := alloc_below w _
  have HR : Hid (Raw w p g n f xs.length ys) := h
  have c2 := h.c2
  have hsz := alloc_size w (.cells (num (List.replicate xs.length 0)).toArray 3)
  have HSZ : Hid ((w.alloc (.cells (num (List.replicate xs.length 0)).toArray 3)).heap.size = w.heap.size + 1) := hsz
  obtain ⟨m, hm⟩ : ∃ m, xs.length = m := ⟨_, rfl⟩
  have HM : Hid (xs.length = m) := hm
  rw [hm] at c2 hmk hx HR HA HB HSZ ⊢
  clear h hh hm hsz
  obtain ⟨t, ht⟩ : ∃ t, w.heap.size = t := ⟨_, rfl⟩
  have HT : Hid (w.heap.size = t) := ht
  rw [ht] at HA HB hp hgl HSZ
  go_enter Tryz.func93, Tryz.ntmps93
  go_wp2
  clear ht hmk
  generalize w.alloc (.cells (num (List.replicate m 0)).toArray 3) = w0 at *
  go_loopg [12] m (fun q s12 wx => ∃ i : Nat, i + q = m ∧ s12 = .int .i64 i ∧ Hid (Row wx t (upto xs i)) ∧ Hid (Below t w wx))
  case atStart => exact ⟨0, by omega, rfl, HA, HB⟩
  case round =>
    clear HA HB HSZ
    obtain ⟨i, hiq, rfl, HA, HB⟩ := hrel
    cases gk with
    | zero =>
      have hlt : ¬ ((i : Int) < m) := by omega
      go_wp2
      go_ret
      rw [HT.out]
      refine ⟨rfl, ?_, HB.out⟩
      have := HA.out
      rwa [show i = xs.length by have := HM.out; omega, upto_all] at this
    | succ q =>
      have hlt : (i : Int) < m := by omega
      have HRx : Hid (Raw wr p g n f m ys) := by
        have hb := HB.out
        exact ⟨(hb.block p hp).trans HR.out.head, (hb.block g hgl).trans HR.out.row, HY.out⟩
      have HD : Hid (Raw wr.drew p g n f m ys) := HRx.out.drew1
      have hs0 := sl_lt hf (show i ≤ n by omega)
      have hs0I : ((sl n f i : Nat) : Int) < n := by omega
      have hsx : Hid (ys.getD (sl n f i) 0 = xs.getD i 0) := HH.out i (by have := HM.out; omega)
      have HN : Hid ((upto xs i).set i (xs.getD i 0) = upto xs (i + 1)) := upto_next (by have := HM.out; omega)
      have HL : Hid ((upto xs i).length = m) := by have := upto_len (xs := xs) (i := i) (by have := HM.out; omega); rw [HM.out] at this; exact this
      generalize hg0 : sl n f i = s0 at hs0 hs0I hsx
      have G0 : Hid (sl n f i = s0) := hg0
      clear hg0
      have htg : t ≠ g := by omega
      have htp : t ≠ p := by omega
      have hgt := Ne.symm htg
      have hpt := Ne.symm htp
      have d0 := HRx.out.c0
      have d1 := HRx.out.row.cell s0 (by have := HY.out; omega)
      rw [hsx.out] at d1
      generalize xs.getD i 0 = y at *
      go_wp2
      go_region_held3 (fun w' => w'.cell? ⟨p, 0, none⟩ = some (.slice (some ⟨g, 0, none⟩) n n) ∧ w'.cell? ⟨g, s0, none⟩ = some (.int .i64 y)) (go_keep) (first
        | (go_at_call 100; refine (slot_raw HD.out hf hn i (by omega) s0 G0.out).mono ?_; rintro e w1 ⟨rfl, hr, hb⟩; have R1 : Hid (Raw w1 p g n f m ys) := hr; have A1 : Hid (Row w1 t (upto xs i)) := ((HA.out).below (drew_below wr)).below hb; have B1 : Hid (Below t w w1) := (HB.out.drew).trans (hb.mono (by have := HB.out.size; have := HT.out; show t ≤ wr.heap.size; omega)); have k0 := R1.out.c0; have k1 := R1.out.row.cell s0 (by have := HY.out; omega); rw [hsx.out] at k1; have kg := A1.out.cell i (by have := HL.out; omega); have kf := A1.out.free i; clear hr hb))
      all_goals
        have A2 : Hid (Row (w1.setCell ⟨t, i, none⟩ (.int .i64 y)) t (upto xs (i + 1))) := by have := A1.out.set i y; rw [HN.out] at this; exact this
        have B2 : Hid (Below t w (w1.setCell ⟨t, i, none⟩ (.int .i64 y))) := B1.out.trans ((Buts.cell w1 t i (.int .i64 y)).below (by simp) (Nat.le_of_lt A1.out.lt))
        generalize w1.setCell ⟨t, i, none⟩ (.int .i64 y) = w3 at *
        go_wp2
        go_roundg q
        case measure => omega
        case rel => exact ⟨i + 1, by omega, by go_num, A2, B2⟩
set_option maxHeartbeats 1000000 in
theorem new_yes {w : World} (n : Nat) (h1 : 1 ≤ n) (hn : n ≤ 1024) :
    Calls Tryz.prog 21 #[.int .i64 n] w fun e w' => e = .returned (.tuple #[.pointer (some ⟨w.heap.size + 1, 0, none⟩), .int .i64 0]) ∧ Ring w' (w.heap.size + 1) w.heap.size n [] ∧ Below w.heap.size w w' := by
  have a1 : ¬ (n : Int) < 1 := by omega
  have a2 : ¬ (1024 : Int) < n := by omega
  have hmk := make_row w n n (Nat.le_refl _) (by omega)
  have HA : Hid (Row (w.alloc (.cells (num (List.replicate n 0)).toArray 3)) w.heap.size (List.replicate n 0)) := alloc_at w _
  have HB : Hid (Below w.heap.size w (w.alloc (.cells (num (List.replicate n 0)).toArray 3))) := alloc_below w _
  have hsz := alloc_size w (.cells (num (List.replicate n 0)).toArray 3)
  go_enter Tryz.func21, Tryz.ntmps21
  go_wp2
  go_ret2
  generalize w.alloc (.cells (num (List.replicate n 0)).toArray 3) = w0 at *
  refine ⟨by simp, ⟨⟨0, _, by omega, ⟨?_, ((HA.out).below (alloc_below w0 _)), by simp⟩, Holds.nil _ _ _⟩, h1, hn, by simp⟩, HB.out.trans ((alloc_below w0 _).mono HB.out.size)⟩
  rw [← hsz]
  exact alloc_at w0 _
theorem new_no {w : World} (n : Int) (h : n < 1 ∨ 1024 < n) :
    Calls Tryz.prog 21 #[.int .i64 n] w fun e w' => e = .returned (.tuple #[.pointer none, .int .i64 1]) ∧ w' = w := by
  by_cases h1 : n < 1
  · go_enter Tryz.func21, Tryz.ntmps21
    go_wp2
    go_ret2
    exact ⟨rfl, rfl⟩
  · have h2 : 1024 < n := by omega
    go_enter Tryz.func21, Tryz.ntmps21
    go_wp2
    go_ret2
    exact ⟨rfl, rfl⟩
end Go.Proofs.YtjhpiecbolmleaaGreatDoor
