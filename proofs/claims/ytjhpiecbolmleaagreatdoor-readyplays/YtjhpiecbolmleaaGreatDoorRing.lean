/- What the functions of package rings answer, for every ring in memory and every number; what they make in memory is new, and what they set is the ring's own. -/
import Derived.Test.YtjhpiecbolmleaaGreatDoorMem
namespace Go.Proofs.YtjhpiecbolmleaaGreatDoor
open Go Go.RowKit
set_option maxRecDepth 100000
set_option linter.unusedVariables false
theorem slot_any {w : World} {p g n f m : Nat} {ys : List Int} (h : Raw w p g n f m ys) (hf : f < n) (hn : n ≤ 1024) (i : Nat) (hi : i ≤ n) :
    Calls Tryz.prog 100 #[.pointer (some ⟨p, 0, none⟩), .int .i64 i] w fun e w' => e = .returned (.int .i64 (sl n f i : Nat)) ∧ ∃ k, w' = w.drewN k := by
  have c0 := h.c0
  have c1 := h.c1
  have hs := sl_tmod hf hi
  have hl := sl_lt hf hi
  have hz : ((n : Int) == 0) = false := by simp; omega
  clear h
  generalize sl n f i = s at *
  go_enter Tryz.func100, Tryz.ntmps100
  go_wp2
  go_quiet ((fail))
  go_wp2
  go_ret
  exact ⟨rfl, _, rfl⟩
theorem there_yes {w : World} {p g n f m : Nat} {ys : List Int} (h : Raw w p g n f m ys) (h1 : 1 ≤ n) :
    Calls Tryz.prog 90 #[.pointer (some ⟨p, 0, none⟩)] w fun e w' => e = .returned (.bool true) ∧ w' = w := by
  have c0 := h.c0
  have hz : decide (0 < n) = true := decide_eq_true (by omega)
  clear h
  go_enter Tryz.func90, Tryz.ntmps90
  go_wp2
  go_ret
  exact ⟨rfl, rfl⟩
theorem there_nil {w : World} :
    Calls Tryz.prog 90 #[.pointer none] w fun e w' => e = .returned (.bool false) ∧ w' = w := by
  go_enter Tryz.func90, Tryz.ntmps90
  go_wp2
  go_ret
  exact ⟨rfl, rfl⟩
theorem there_zero {w : World} {p : Nat} (h0 : w.cell? ⟨p, 0, none⟩ = some (.slice none 0 0)) :
    Calls Tryz.prog 90 #[.pointer (some ⟨p, 0, none⟩)] w fun e w' => e = .returned (.bool false) ∧ w' = w := by
  go_enter Tryz.func90, Tryz.ntmps90
  go_wp2
  go_ret
  exact ⟨rfl, rfl⟩
theorem isFull_any {w : World} {p g n f m : Nat} {ys : List Int} (h : Raw w p g n f m ys) (b : Bool) (hb : ((m : Int) == (n : Int)) = b) :
    Calls Tryz.prog 99 #[.pointer (some ⟨p, 0, none⟩)] w fun e w' => e = .returned (.bool b) ∧ ∃ k, w' = w.drewN k := by
  have c0 := h.c0
  have c2 := h.c2
  clear h
  go_enter Tryz.func99, Tryz.ntmps99
  go_wp2
  go_quiet ((fail))
  go_wp2
  go_ret
  exact ⟨rfl, _, rfl⟩
theorem Raw.below {w w' : World} {p g n f m : Nat} {ys : List Int} (h : Raw w p g n f m ys) (hb : Below w.heap.size w w') : Raw w' p g n f m ys :=
  h.buts (l := []) (Buts.of hb) (by simp) (by simp)
theorem Raw.drew {w : World} {p g n f m : Nat} {ys : List Int} (h : Raw w p g n f m ys) (k : Nat) : Raw (w.drewN k) p g n f m ys := h.below (below_drewN _ _)
theorem hasSome_any {w : World} {p g n f m : Nat} {ys : List Int} (h : Raw w p g n f m ys) (h1 : 1 ≤ n) (e : Int) (he : e = if m = 0 then 11 else 0) :
    Calls Tryz.prog 88 #[.pointer (some ⟨p, 0, none⟩)] w fun r w' => r = .returned (.int .i64 e) ∧ w' = w := by
  have c2 := h.c2
  subst he
  by_cases hm : m = 0
  · subst hm
    go_enter Tryz.func88, Tryz.ntmps88
    go_wp2_with (go_at_call 90; refine (there_yes h h1).mono ?_; rintro e wx ⟨rfl, rfl⟩)
    go_ret
    exact ⟨rfl, rfl⟩
  · have hz : ((m : Int) == 0) = false := by simp; omega
    go_enter Tryz.func88, Tryz.ntmps88
    go_wp2_with (go_at_call 90; refine (there_yes h h1).mono ?_; rintro e wx ⟨rfl, rfl⟩)
    go_ret
    exact ⟨rfl, rfl⟩
theorem hasSome_nil {w : World} :
    Calls Tryz.prog 88 #[.pointer none] w fun r w' => r = .returned (.int .i64 2) ∧ w' = w := by
  go_enter Tryz.func88, Tryz.ntmps88
  go_wp2_with (go_at_call 90; refine there_nil.mono ?_; rintro e wx ⟨rfl, rfl⟩)
  go_ret
  exact ⟨rfl, rfl⟩
theorem hasSome_zero {w : World} {p : Nat} (h0 : w.cell? ⟨p, 0, none⟩ = some (.slice none 0 0)) :
    Calls Tryz.prog 88 #[.pointer (some ⟨p, 0, none⟩)] w fun r w' => r = .returned (.int .i64 2) ∧ w' = w := by
  go_enter Tryz.func88, Tryz.ntmps88
  go_wp2_with (go_at_call 90; refine (there_zero h0).mono ?_; rintro e wx ⟨rfl, rfl⟩)
  go_ret
  exact ⟨rfl, rfl⟩
set_option maxHeartbeats 1000000 in
/-- the first place of a number, as the program seeks it -/
theorem placeOf_any {w : World} {p g n f : Nat} {ys xs : List Int} (h : Raw w p g n f xs.length ys) (hf : f < n) (hn : n ≤ 1024) (hx : xs.length ≤ n) (hh : Holds n f ys xs) (z : Int) (k : Nat) (b : Bool)
    (hk : k ≤ xs.length) (hlow : ∀ j, j < k → xs.getD j 0 ≠ z) (hb : b = true → k < xs.length ∧ xs.getD k 0 = z) (hb' : b = false → k = xs.length) :
    Calls Tryz.prog 91 #[.pointer (some ⟨p, 0, none⟩), .int .i64 z] w fun e w' => e = .returned (.tuple #[.int .i64 (if b then (k : Int) else 0), .bool b]) ∧ ∃ j, w' = w.drewN j := by
  have HH : Hid (Holds n f ys xs) := hh
  have HL : Hid (∀ j, j < k → xs.getD j 0 ≠ z) := hlow
  have HB : Hid (b = true → k < xs.length ∧ xs.getD k 0 = z) := hb
  have HB' : Hid (b = false → k = xs.length) := hb'
  have HR : Hid (Raw w p g n f xs.length ys) := h
  have HY : Hid (ys.length = n) := h.len
  obtain ⟨m, hm⟩ : ∃ m, xs.length = m := ⟨_, rfl⟩
  have HM : Hid (xs.length = m) := hm
  have c2 := h.c2
  rw [hm] at c2 hk hx HR HB HB'
  clear h hh hlow hb hb' hm
  go_enter Tryz.func91, Tryz.ntmps91
  go_wp2
  go_loopg [11] m (fun g s11 wx => ∃ i : Nat, i + g = m ∧ i ≤ k ∧ s11 = .int .i64 i ∧ ∃ j, wx = w.drewN j)
  case atStart => exact ⟨0, by omega, by omega, rfl, 0, rfl⟩
  case round =>
    obtain ⟨i, hig, hik, rfl, jd, hwr⟩ := hrel
    have HR' : Hid (Raw wr p g n f m ys) := by rw [hwr]; exact HR.out.drew jd
    have HW : Hid (wr = w.drewN jd) := hwr
    clear hwr
    cases gk with
    | zero =>
      have hlt : ¬ ((i : Int) < m) := by omega
      have hbf : b = false := by
        cases b
        · rfl
        · have := HB.out rfl; omega
      subst hbf
      go_wp2
      go_ret2
      exact ⟨rfl, jd, HW.out⟩
    | succ q =>
      have hlt : (i : Int) < m := by omega
      have d0 := HR'.out.c0
      have hsl := sl_lt hf (show i ≤ n by omega)
      have ds := HR'.out.row.cell (sl n f i) (by have := HY.out; omega)
      have hsx : Hid (ys.getD (sl n f i) 0 = xs.getD i 0) := HH.out i (by have := HM.out; omega)
      rw [hsx.out] at ds
      have hslI : ((sl n f i : Nat) : Int) < n := by omega
      have hC := fun q => slot_any (HR'.out.drew q) hf hn i (by omega)
      clear hsx
      generalize sl n f i = s at *
      by_cases e : i = k
      · have hbt : b = true := by
          cases b
          · have := HB'.out rfl; omega
          · rfl
        subst hbt e
        have hz : xs.getD i 0 = z := (HB.out rfl).2
        rw [hz] at ds
        clear hz
        go_wp2
        go_quiet ((go_at_call 100; exact Calls.quiet_of (hC _)))
        go_wp2
        go_ret2
        exact ⟨rfl, _, by rw [HW.out, World.drewN_drewN]⟩
      · have hz : (xs.getD i 0 == z) = false := by have := HL.out i (by omega); simpa using this
        generalize xs.getD i 0 = y at *
        go_wp2
        go_quiet ((go_at_call 100; exact Calls.quiet_of (hC _)))
        go_wp2
        go_roundg q
        case measure => omega
        case rel => exact ⟨i + 1, by omega, by omega, by go_num, _, by rw [HW.out, World.drewN_drewN]⟩
theorem Raw.drew1 {w : World} {p g n f m : Nat} {ys : List Int} (h : Raw w p g n f m ys) : Raw w.drew p g n f m ys := h.drew 1
theorem drew_below (w : World) : Below w.heap.size w w.drew := below_drewN w 1
set_option maxHeartbeats 1000000 in
theorem addLast_any {w : World} {p g n f m : Nat} {ys : List Int} (h : Raw w p g n f m ys) (hf : f < n) (hn : n ≤ 1024) (hm : m < n) (z : Int) :
    Calls Tryz.prog 87 #[.pointer (some ⟨p, 0, none⟩), .int .i64 z] w fun e w' => e = .returned (.tuple #[]) ∧ Raw w' p g n f (m + 1) (ys.set (sl n f m) z) ∧ Buts [p, g] w w' := by
  have hd := h.drew1
  have hC := slot_any hd hf hn m (by omega)
  have d0 := hd.c0
  have d2 := hd.c2
  have hsl := sl_lt hf (show m ≤ n by omega)
  have hslI : ((sl n f m : Nat) : Int) < n := by omega
  have hlen := h.len
  have hpg := h.ne
  have hgp := Ne.symm h.ne
  have HS : Hid (∀ k, Raw (w.drew.drewN k) p g n f m ys) := fun k => hd.drew k
  have HW : Hid (∀ k, Buts [p, g] w (w.drew.drewN k)) := fun k => Buts.of ((drew_below w).trans ((below_drewN w.drew k).mono (drew_below w).size))
  clear h hd
  generalize sl n f m = s at *
  go_enter Tryz.func87, Tryz.ntmps87
  go_wp2
  go_region_held3 (fun w' => w'.cell? ⟨p, 0, none⟩ = some (.slice (some ⟨g, 0, none⟩) n n) ∧ w'.cell? ⟨p, 2, none⟩ = some (.int .i64 m)) (go_keep) (first | (go_at_call 100; refine hC.mono ?_; rintro e wx ⟨rfl, kq, hwx⟩; have R1 : Hid (Raw wx p g n f m ys) := (by rw [hwx]; exact HS.out kq); have B1 : Hid (Buts [p, g] w wx) := (by rw [hwx]; exact HW.out kq); have k0 := R1.out.c0; have k2 := R1.out.c2; have kg := R1.out.row.cell s (by omega); have kf := R1.out.fg s; clear hwx))
  all_goals
    have R2 : Hid (Raw (wx.setCell ⟨g, s, none⟩ (.int .i64 z)) p g n f m (ys.set s z)) := R1.out.setSlot s z
    have B2 : Hid (Buts [p, g] w (wx.setCell ⟨g, s, none⟩ (.int .i64 z))) := B1.out.trans ((Buts.cell _ _ _ _).mono (by simp))
    generalize wx.setCell ⟨g, s, none⟩ (.int .i64 z) = w2 at *
    have q2 := R2.out.c2
    have qf := R2.out.fp 2
    go_wp2
    go_end0
    exact ⟨rfl, R2.out.setMany (m + 1), B2.out.trans ((Buts.cell _ _ _ _).mono (by simp))⟩
set_option maxHeartbeats 1000000 in
theorem addFirst_any {w : World} {p g n f m : Nat} {ys : List Int} (h : Raw w p g n f m ys) (hf : f < n) (hn : n ≤ 1024) (hm : m < n) (z : Int) :
    Calls Tryz.prog 95 #[.pointer (some ⟨p, 0, none⟩), .int .i64 z] w fun e w' => e = .returned (.tuple #[]) ∧ Raw w' p g n (sl n f (n - 1)) (m + 1) (ys.set (sl n f (n - 1)) z) ∧ Buts [p, g] w w' := by
  have hC := slot_any h hf hn (n - 1) (by omega)
  rw [show ((n - 1 : Nat) : Int) = (n : Int) - 1 by omega] at hC
  have c0 := h.c0
  have hsl := sl_lt hf (show n - 1 ≤ n by omega)
  have hslI : ((sl n f (n - 1) : Nat) : Int) < n := by omega
  have hlen := h.len
  have hpg := h.ne
  have hgp := Ne.symm h.ne
  have HS : Hid (∀ k, Raw (w.drewN k) p g n f m ys) := fun k => h.drew k
  have HW : Hid (∀ k, Buts [p, g] w (w.drewN k)) := fun k => Buts.of (below_drewN w k)
  clear h
  generalize sl n f (n - 1) = s at *
  go_enter Tryz.func95, Tryz.ntmps95
  go_wp2_with (first | (go_at_call 100; refine hC.mono ?_; rintro e wx ⟨rfl, kq, hwx⟩; have R1 : Hid (Raw wx p g n f m ys) := (by rw [hwx]; exact HS.out kq); have B1 : Hid (Buts [p, g] w wx) := (by rw [hwx]; exact HW.out kq); have k1 := R1.out.c1; have kf := R1.out.fp 1; clear hwx))
  have R2 : Hid (Raw (wx.setCell ⟨p, 1, none⟩ (.int .i64 s)) p g n s m ys) := R1.out.setFirst s
  have B2 : Hid (Buts [p, g] w (wx.setCell ⟨p, 1, none⟩ (.int .i64 s))) := B1.out.trans ((Buts.cell _ _ _ _).mono (by simp))
  generalize wx.setCell ⟨p, 1, none⟩ (.int .i64 s) = w2 at *
  have d0 := R2.out.c0
  have d1 := R2.out.c1
  have dg := R2.out.row.cell s (by omega)
  have df := R2.out.fg s
  go_region_held3 (fun w' => w'.cell? ⟨p, 0, none⟩ = some (.slice (some ⟨g, 0, none⟩) n n) ∧ w'.cell? ⟨p, 1, none⟩ = some (.int .i64 s)) (go_keep) (fail)
  all_goals
    have R3 : Hid (Raw (w2.setCell ⟨g, s, none⟩ (.int .i64 z)).drew p g n s m (ys.set s z)) := (R2.out.setSlot s z).drew1
    have B3 : Hid (Buts [p, g] w (w2.setCell ⟨g, s, none⟩ (.int .i64 z)).drew) := (B2.out.trans ((Buts.cell _ _ _ _).mono (by simp))).drew
    generalize (w2.setCell ⟨g, s, none⟩ (.int .i64 z)).drew = w3 at *
    have q2 := R3.out.c2
    have qf := R3.out.fp 2
    go_wp2
    go_end0
    exact ⟨rfl, R3.out.setMany (m + 1), B3.out.trans ((Buts.cell _ _ _ _).mono (by simp))⟩
set_option maxHeartbeats 1000000 in
theorem takeFirst_any {w : World} {p g n f m : Nat} {ys : List Int} (h : Raw w p g n f (m + 1) ys) (hf : f < n) (hn : n ≤ 1024) (hm : m < n) :
    Calls Tryz.prog 89 #[.pointer (some ⟨p, 0, none⟩)] w fun e w' => e = .returned (.int .i64 (ys.getD f 0)) ∧ Raw w' p g n (sl n f 1) m ys ∧ Buts [p, g] w w' := by
  have c0 := h.c0
  have c1 := h.c1
  have cg := h.row.cell f (by have := h.len; omega)
  have hfI : (f : Int) < n := by omega
  have hC := fun k => slot_any (h.drew k) hf hn 1 (by omega)
  have HS : Hid (∀ k, Raw (w.drewN k) p g n f (m + 1) ys) := fun k => h.drew k
  have HW : Hid (∀ k, Buts [p, g] w (w.drewN k)) := fun k => Buts.of (below_drewN w k)
  clear h
  generalize ys.getD f 0 = y at *
  generalize sl n f 1 = s at *
  go_enter Tryz.func89, Tryz.ntmps89
  go_wp2
  go_quiet ((fail))
  go_wp2_with (first | (go_at_call 100; refine (hC _).mono ?_; rintro e wx ⟨rfl, kq, hwx⟩; rw [World.drewN_drewN] at hwx; have R1 : Hid (Raw wx p g n f (m + 1) ys) := (by rw [hwx]; exact HS.out _); have B1 : Hid (Buts [p, g] w wx) := (by rw [hwx]; exact HW.out _); have k1 := R1.out.c1; have kf := R1.out.fp 1; have R2 : Hid (Raw (wx.setCell ⟨p, 1, none⟩ (.int .i64 s)) p g n s (m + 1) ys) := R1.out.setFirst s; have B2 : Hid (Buts [p, g] w (wx.setCell ⟨p, 1, none⟩ (.int .i64 s))) := B1.out.trans ((Buts.cell _ _ _ _).mono (by simp)); have q2 := R2.out.c2; have qf := R2.out.fp 2; clear hwx))
  go_ret
  exact ⟨rfl, R2.out.setMany m, B2.out.trans ((Buts.cell _ _ _ _).mono (by simp))⟩
end Go.Proofs.YtjhpiecbolmleaaGreatDoor
