/- What 'All' and 'Left' answer: how many blocks were theirs, and are free then; how many are free. -/
import Derived.Test.YteicnekoogmmmaaGreatDoorPAlloc
namespace Go.Proofs.YteicnekoogmmmaaGreatDoor.Pl
open Go Go.RowKit
set_option maxRecDepth 100000
set_option linter.unusedVariables false
/-- how many are this one -/
def cnt (x : Int) (l : List Int) : Nat := l.countP (fun z => z == x)
/-- all that are this one are 0 -/
def clr (x : Int) (l : List Int) : List Int := l.map fun z => if z = x then 0 else z
/-- whether it is this one -/
def hit (z x : Int) : Nat := if z = x then 1 else 0
theorem hit_yes (x : Int) : hit x x = 1 := by simp [hit]
theorem hit_no {z x : Int} (h : z ≠ x) : hit z x = 0 := by simp [hit, h]
theorem cnt_snoc (x : Int) (l : List Int) (z : Int) : cnt x (l ++ [z]) = cnt x l + hit z x := by
  simp [cnt, hit, List.countP_append, List.countP_cons]
theorem cnt_le (x : Int) (l : List Int) : cnt x l ≤ l.length := List.countP_le_length
theorem clr_len (x : Int) (l : List Int) : (clr x l).length = l.length := by simp [clr]
theorem take_snoc (l : List Int) (i : Nat) (h : i < l.length) : l.take (i + 1) = l.take i ++ [l.getD i 0] := by
  rw [List.take_succ_eq_append_getElem h]; simp [h]
theorem drop_cons (l : List Int) (i : Nat) (h : i < l.length) : l.drop i = l.getD i 0 :: l.drop (i + 1) := by
  rw [List.drop_eq_getElem_cons h]; simp [h]
/-- so far -/
def mid (x : Int) (l : List Int) (i : Nat) : List Int := clr x (l.take i) ++ l.drop i
theorem mid_zero (x : Int) (l : List Int) : mid x l 0 = l := by simp [mid, clr]
theorem mid_all (x : Int) (l : List Int) (n : Nat) (h : l.length = n) : mid x l n = clr x l := by subst h; simp [mid]
theorem mid_len (x : Int) (l : List Int) (i : Nat) : (mid x l i).length = l.length := by simp [mid, clr]; omega
theorem mid_at (x : Int) (l : List Int) (i : Nat) (h : i < l.length) : (mid x l i).getD i 0 = l.getD i 0 := by
  have hl : (clr x (l.take i)).length = i := by rw [clr_len]; simp; omega
  rw [mid, drop_cons l i h]
  simp only [List.getD_eq_getElem?_getD]
  rw [List.getElem?_append_right (by omega), hl, Nat.sub_self]
  simp
theorem mid_hit (x : Int) (l : List Int) (i : Nat) (h : i < l.length) (e : l.getD i 0 = x) : (mid x l i).set i 0 = mid x l (i + 1) := by
  have hl : (clr x (l.take i)).length = i := by rw [clr_len]; simp; omega
  rw [mid, mid, drop_cons l i h, take_snoc l i h, List.set_append_right _ _ (by omega), hl, Nat.sub_self, List.set_cons_zero]
  simp only [clr, List.map_append, List.map_cons, List.map_nil, if_pos e, List.append_assoc, List.cons_append, List.nil_append]
theorem mid_miss (x : Int) (l : List Int) (i : Nat) (h : i < l.length) (e : l.getD i 0 ≠ x) : mid x l (i + 1) = mid x l i := by
  rw [mid, mid, drop_cons l i h, take_snoc l i h]
  simp only [clr, List.map_append, List.map_cons, List.map_nil, if_neg e, List.append_assoc, List.cons_append, List.nil_append]
theorem isW_clr {l : List Int} (h : isW l) (x : Int) : isW (clr x l) := by
  intro z hz
  obtain ⟨y, hy, rfl⟩ := List.mem_map.1 hz
  split
  · exact ⟨by decide, by decide⟩
  · exact h y hy
theorem clr_at (x : Int) (l : List Int) (i : Nat) : (clr x l).getD i 0 = if l.getD i 0 = x then 0 else l.getD i 0 := by
  by_cases h : i < l.length
  · simp [clr, h]
  · simp [clr, Nat.le_of_not_lt h]
theorem cLeft_any {w : World} {p i b1 : Nat} {z c : Int} (hc : w.cell? ⟨p, 1 + i, none⟩ = some (.int .u32 z)) (h1 : One w b1 3 (.int .i64 c)) (hcc : 0 ≤ c ∧ c ≤ 1000) :
    Calls Tryz.prog 85 #[.int .i64 i, .pointer (some ⟨p, 1 + i, none⟩), .pointer (some ⟨b1, 0, none⟩)] w fun e w' => e = .returned (.bool true) ∧ One w' b1 3 (.int .i64 (c + (hit z 0 : Nat))) ∧ Buts [b1] w w' := by
  have d1 := h1.cell
  have f1 := h1.free
  by_cases hz : z = 0
  · subst hz
    have q := h1.set (.int .i64 (c + 1))
    go_enter Tryz.func85, Tryz.ntmps85
    go_wp2
    go_ret
    exact ⟨rfl, by rw [hit_yes]; exact q, Buts.cell _ _ _ _⟩
  · have hz' : (z == 0) = false := by simpa using hz
    go_enter Tryz.func85, Tryz.ntmps85
    go_wp2
    go_ret
    exact ⟨rfl, by rw [hit_no hz]; simpa using h1, Buts.refl _ _⟩
theorem left_any {w : World} {p n : Nat} {zs : List Int} (h : Pool w p n zs) :
    Calls Tryz.prog 59 #[.pointer (some ⟨p, 0, none⟩)] w fun e w' => e = .returned (.int .i64 (cnt 0 zs : Nat)) ∧ Below w.heap.size w w' := by
  have hb := alloc_below w (.cells #[.int .i64 0] 3)
  have o1 := One.new w 3 (.int .i64 0)
  have hP := h.below hb
  have hz := h.len
  have hn := h.hi
  have hlt := h.lt
  have HC := each_left (w := w.alloc (.cells #[.int .i64 0] 3)) (p := p) (n := n) (.pointer (some ⟨w.heap.size, 0, none⟩)) (fun j wx => One wx w.heap.size 3 (.int .i64 (cnt 0 (zs.take j) : Nat)) ∧ Buts [w.heap.size] (w.alloc (.cells #[.int .i64 0] 3)) wx) h.lo h.hi hP.many ⟨o1, Buts.refl _ _⟩ (by
    rintro j wx hj ⟨ho, hbx⟩
    have hPx : Pool wx p n zs := hP.same (hbx.block p hP.lt (by simp; omega))
    have hcl := cnt_le 0 (zs.take j)
    refine (cLeft_any (hPx.cell j hj) ho (by simp at hcl; omega)).mono ?_
    rintro e w' ⟨he, ho', hb'⟩
    refine ⟨he, ?_, hbx.trans hb'⟩
    rw [take_snoc zs j (by omega), cnt_snoc]
    exact ho')
  rw [List.take_of_length_le (by omega)] at HC
  clear o1 hP h
  go_enter Tryz.func59, Tryz.ntmps59
  go_wp2_with (go_at_call 79; refine HC.mono ?_; rintro e w4 ⟨rfl, o2, hB⟩; have d2 := o2.cell)
  go_ret
  exact ⟨rfl, hb.trans (hB.below (by simp) hb.size)⟩
theorem left_nil {w : World} :
    Calls Tryz.prog 59 #[.pointer none] w fun e w' => e = .returned (.int .i64 0) ∧ Below w.heap.size w w' := by
  have hb := alloc_below w (.cells #[.int .i64 0] 3)
  go_enter Tryz.func59, Tryz.ntmps59
  go_wp2_with (go_at_call 79; refine (each_nil _).mono ?_; rintro e w4 ⟨rfl, rfl⟩)
  go_ret
  exact ⟨rfl, hb⟩
theorem left_zero {w : World} {p : Nat} (h0 : w.cell? ⟨p, 0, none⟩ = some (.int .i64 0)) (hp : p < w.heap.size) :
    Calls Tryz.prog 59 #[.pointer (some ⟨p, 0, none⟩)] w fun e w' => e = .returned (.int .i64 0) ∧ Below w.heap.size w w' := by
  have hb := alloc_below w (.cells #[.int .i64 0] 3)
  have h1 := (hb.cell (p := ⟨p, 0, none⟩) hp).trans h0
  go_enter Tryz.func59, Tryz.ntmps59
  go_wp2_with (go_at_call 79; refine (each_zero _ h1).mono ?_; rintro e w4 ⟨rfl, rfl⟩)
  go_ret
  exact ⟨rfl, hb⟩
theorem cAll_any {w : World} {p n i b1 b2 : Nat} {zs : List Int} {who c : Int} (hp : Pool w p n zs) (hi : i < n) (h1 : One w b1 23 (.int .u32 who)) (h2 : One w b2 3 (.int .i64 c)) (n1 : p ≠ b1) (n2 : p ≠ b2) (hcc : 0 ≤ c ∧ c ≤ 1000) :
    Calls Tryz.prog 80 #[.int .i64 i, .pointer (some ⟨p, 1 + i, none⟩), .pointer (some ⟨b1, 0, none⟩), .pointer (some ⟨b2, 0, none⟩)] w fun e w' => e = .returned (.bool true) ∧ Pool w' p n (if zs.getD i 0 = who then zs.set i 0 else zs) ∧ One w' b2 3 (.int .i64 (c + (hit (zs.getD i 0) who : Nat))) ∧ Buts [p, b2] w w' := by
  have hc := hp.cell i hi
  have c1 := h1.cell
  by_cases hz : zs.getD i 0 = who
  · rw [if_pos hz, hz, hit_yes]
    rw [hz] at hc
    clear hz
    go_enter Tryz.func80, Tryz.ntmps80
    go_wp2
    go_quiet ((fail))
    have hd := below_drewN w nq
    have P0 := hp.below hd
    have o2 := h2.below hd
    clear hp h1 h2 hc c1
    generalize w.drewN nq = w0 at *
    have hc := P0.cell i hi
    have hf := P0.free (1 + i)
    have P1 := P0.set hi (v := 0) (by omega)
    have q2 := o2.other (k := 1 + i) (.int .u32 0) (Ne.symm n2)
    have B1 := Buts.cell w0 p (1 + i) (.int .u32 0)
    generalize zs.getD i 0 = z at *
    generalize hw1 : w0.setCell ⟨p, 1 + i, none⟩ (.int .u32 0) = w1 at *
    have P2 := P1.other (k := 0) (.int .i64 (c + 1)) n2
    have r2 := q2.set (.int .i64 (c + 1))
    have B2 := Buts.cell w1 b2 0 (.int .i64 (c + 1))
    have d2 := q2.cell
    have e2 := q2.free
    have HB : Hid (Buts [p, b2] w (w1.setCell ⟨b2, 0, none⟩ (.int .i64 (c + 1)))) := ((Buts.of hd).trans (B1.mono (by simp))).trans (B2.mono (by simp))
    clear P0 o2 B1 B2 P1 q2
    go_wp2
    go_ret
    exact ⟨rfl, P2, r2, HB.out⟩
  · rw [if_neg hz, hit_no hz]
    have hz' : (zs.getD i 0 == who) = false := by simpa using hz
    generalize zs.getD i 0 = z at *
    go_enter Tryz.func80, Tryz.ntmps80
    go_wp2
    go_quiet ((fail))
    go_wp2
    go_ret
    exact ⟨rfl, hp.below (below_drewN _ _), by simpa using h2.below (below_drewN _ _), Buts.of (below_drewN _ _)⟩
theorem all_any {w : World} {p n : Nat} {zs : List Int} (h : Pool w p n zs) (who : Int) (hw : 0 < who) :
    Calls Tryz.prog 54 #[.pointer (some ⟨p, 0, none⟩), .int .u32 who] w fun e w' => e = .returned (.int .i64 (cnt who zs : Nat)) ∧ Pool w' p n (clr who zs) ∧ But p w w' := by
  have hwz : (who == 0) = false := by simp; omega
  have hz := h.len
  have hn := h.hi
  have hlt := h.lt
  have hlo := h.lo
  have hb := alloc_below w (.cells #[.int .u32 who] 23)
  have o1 := One.new w 23 (.int .u32 who)
  have s1 := alloc_size w (.cells #[.int .u32 who] 23)
  have HK : Hid (Below w.heap.size w ((w.alloc (.cells #[.int .u32 who] 23)).alloc (.cells #[.int .i64 0] 3)) ∧ One ((w.alloc (.cells #[.int .u32 who] 23)).alloc (.cells #[.int .i64 0] 3)) w.heap.size 23 (.int .u32 who) ∧ One ((w.alloc (.cells #[.int .u32 who] 23)).alloc (.cells #[.int .i64 0] 3)) (w.heap.size + 1) 3 (.int .i64 0)) := by
    generalize w.alloc (.cells #[.int .u32 who] 23) = wa at *
    have hb2 := alloc_below wa (.cells #[.int .i64 0] 3)
    have o2 := One.new wa 3 (.int .i64 0)
    rw [s1] at o2
    exact ⟨hb.trans (hb2.mono hb.size), o1.below hb2, o2⟩
  have c1 := o1.cell
  clear o1 s1 hb
  have HC : Hid (Calls Tryz.prog 79 #[.pointer (some ⟨p, 0, none⟩), .func (.func 80) #[] #[.pointer (some ⟨w.heap.size, 0, none⟩), .pointer (some ⟨w.heap.size + 1, 0, none⟩)]] ((w.alloc (.cells #[.int .u32 who] 23)).alloc (.cells #[.int .i64 0] 3)) fun e w' => e = .returned (.tuple #[]) ∧ Pool w' p n (clr who zs) ∧ One w' (w.heap.size + 1) 3 (.int .i64 (cnt who zs : Nat)) ∧ But p w w') := by
    obtain ⟨hb, o1, o2⟩ := HK.out
    generalize (w.alloc (.cells #[.int .u32 who] 23)).alloc (.cells #[.int .i64 0] 3) = w0 at *
    have hP := h.below hb
    refine (each_all (w := w0) (p := p) (n := n) _ _ (fun j wx => Pool wx p n (mid who zs j) ∧ One wx (w.heap.size + 1) 3 (.int .i64 (cnt who (zs.take j) : Nat)) ∧ Buts [p, w.heap.size + 1] w0 wx) hlo hn hP.many ⟨by rw [mid_zero]; exact hP, o2, Buts.refl _ _⟩ ?_).mono ?_
    · rintro j wx hj ⟨hPx, ho, hbx⟩
      have hcl := cnt_le who (zs.take j)
      have o1x : One wx w.heap.size 23 (.int .u32 who) := (hbx.block _ o1.lt (by simp; omega)).trans o1
      refine (cAll_any hPx hj o1x ho (by omega) (by omega) (by simp at hcl; omega)).mono ?_
      rintro e w' ⟨he, hp', ho', hb'⟩
      rw [mid_at who zs j (by omega)] at hp' ho'
      refine ⟨he, ?_, ?_, hbx.trans hb'⟩
      · by_cases hh : zs.getD j 0 = who
        · rw [if_pos hh, mid_hit who zs j (by omega) hh] at hp'
          exact hp'
        · rw [if_neg hh, ← mid_miss who zs j (by omega) hh] at hp'
          exact hp'
      · rw [take_snoc zs j (by omega), cnt_snoc]
        exact ho'
    · rintro e w' ⟨rfl, hp', ho', hb'⟩
      rw [mid_all who zs n hz] at hp'
      rw [List.take_of_length_le (by omega)] at ho'
      exact ⟨rfl, hp', ho', hb'.below_of hb (by simp)⟩
  clear HK
  go_enter Tryz.func54, Tryz.ntmps54
  go_wp2_with (go_at_call 79; refine HC.out.mono ?_; rintro e w4 ⟨rfl, P4, o2, hB⟩; have d2 := o2.cell)
  go_ret
  exact ⟨rfl, P4, hB⟩
theorem all_nobody {w : World} (p : Option Addr) :
    Calls Tryz.prog 54 #[.pointer p, .int .u32 0] w fun e w' => e = .returned (.int .i64 0) ∧ Below w.heap.size w w' := by
  have hb := alloc_below w (.cells #[.int .u32 0] 23)
  go_enter Tryz.func54, Tryz.ntmps54
  go_wp2
  go_ret
  exact ⟨rfl, hb⟩
theorem two_below (w : World) (o q : Obj) : Below w.heap.size w ((w.alloc o).alloc q) :=
  (alloc_below w o).trans ((alloc_below _ q).mono (alloc_below w o).size)
theorem all_nil {w : World} (who : Int) :
    Calls Tryz.prog 54 #[.pointer none, .int .u32 who] w fun e w' => e = .returned (.int .i64 0) ∧ Below w.heap.size w w' := by
  by_cases hw : who = 0
  · subst hw
    exact all_nobody none
  · have hwz : (who == 0) = false := by simpa using hw
    have hb := two_below w (.cells #[.int .u32 who] 23) (.cells #[.int .i64 0] 3)
    go_enter Tryz.func54, Tryz.ntmps54
    go_wp2_with (go_at_call 79; refine (each_nil _).mono ?_; rintro e w4 ⟨rfl, rfl⟩)
    go_ret
    exact ⟨rfl, hb⟩
theorem all_zero {w : World} {p : Nat} (h0 : w.cell? ⟨p, 0, none⟩ = some (.int .i64 0)) (hp : p < w.heap.size) (who : Int) :
    Calls Tryz.prog 54 #[.pointer (some ⟨p, 0, none⟩), .int .u32 who] w fun e w' => e = .returned (.int .i64 0) ∧ Below w.heap.size w w' := by
  by_cases hw : who = 0
  · subst hw
    exact all_nobody _
  · have hwz : (who == 0) = false := by simpa using hw
    have hb := two_below w (.cells #[.int .u32 who] 23) (.cells #[.int .i64 0] 3)
    have h1 := (hb.cell (p := ⟨p, 0, none⟩) hp).trans h0
    go_enter Tryz.func54, Tryz.ntmps54
    go_wp2_with (go_at_call 79; refine (each_zero _ h1).mono ?_; rintro e w4 ⟨rfl, rfl⟩)
    go_ret
    exact ⟨rfl, hb⟩
end Go.Proofs.YteicnekoogmmmaaGreatDoor.Pl
