/- 'Apart' walked: lists that are rows of their own are apart. The other kinds have no list here. -/
import Derived.Test.YtciafjmljmeimaaDoorLookWalk
namespace Go.Proofs.YtciafjmljmeimaaDoor
open Go Go.RowKit
set_option maxRecDepth 100000
set_option linter.unusedVariables false
theorem fill_none1 {w : World} {K : Nat} (h : w.cell? ⟨K, 1, none⟩ = some (.slice none 0 0)) : Calls Tryd.prog 28 #[.pointer (some ⟨K, 0, none⟩)] w fun e w' => e = .returned (.tuple #[]) ∧ w' = w := by
  go_enter Tryd.func28, Tryd.ntmps28
  go_wp2
  refine wp_loop_rounds 1 ?_
  rw [rounds_succ]
  go_wp2
  go_end0
  exact ⟨rfl, rfl⟩
theorem grow_none1 {w : World} {K : Nat} (h : w.cell? ⟨K, 1, none⟩ = some (.slice none 0 0)) : Calls Tryd.prog 36 #[.pointer (some ⟨K, 0, none⟩)] w fun e w' => e = .returned (.tuple #[]) ∧ w' = w := by
  go_enter Tryd.func36, Tryd.ntmps36
  go_wp2
  refine wp_loop_rounds 1 ?_
  rw [rounds_succ]
  go_wp2
  go_end0
  exact ⟨rfl, rfl⟩
theorem look_none1 {w : World} {K : Nat} (h : w.cell? ⟨K, 1, none⟩ = some (.slice none 0 0)) : Calls Tryd.prog 44 #[.pointer (some ⟨K, 0, none⟩)] w fun e w' => e = .returned (.bool true) ∧ w' = w := by
  go_enter Tryd.func44, Tryd.ntmps44
  go_wp2
  refine wp_loop_rounds 1 ?_
  rw [rounds_succ]
  go_wp2
  go_ret
  exact ⟨rfl, rfl⟩
theorem fill_none2 {w : World} {K : Nat} (h : w.cell? ⟨K, 2, none⟩ = some (.slice none 0 0)) : Calls Tryd.prog 29 #[.pointer (some ⟨K, 0, none⟩)] w fun e w' => e = .returned (.tuple #[]) ∧ w' = w := by
  go_enter Tryd.func29, Tryd.ntmps29
  go_wp2
  refine wp_loop_rounds 1 ?_
  rw [rounds_succ]
  go_wp2
  go_end0
  exact ⟨rfl, rfl⟩
theorem grow_none2 {w : World} {K : Nat} (h : w.cell? ⟨K, 2, none⟩ = some (.slice none 0 0)) : Calls Tryd.prog 37 #[.pointer (some ⟨K, 0, none⟩)] w fun e w' => e = .returned (.tuple #[]) ∧ w' = w := by
  go_enter Tryd.func37, Tryd.ntmps37
  go_wp2
  refine wp_loop_rounds 1 ?_
  rw [rounds_succ]
  go_wp2
  go_end0
  exact ⟨rfl, rfl⟩
theorem look_none2 {w : World} {K : Nat} (h : w.cell? ⟨K, 2, none⟩ = some (.slice none 0 0)) : Calls Tryd.prog 45 #[.pointer (some ⟨K, 0, none⟩)] w fun e w' => e = .returned (.bool true) ∧ w' = w := by
  go_enter Tryd.func45, Tryd.ntmps45
  go_wp2
  refine wp_loop_rounds 1 ?_
  rw [rounds_succ]
  go_wp2
  go_ret
  exact ⟨rfl, rfl⟩
theorem fill_none4 {w : World} {K : Nat} (h : w.cell? ⟨K, 4, none⟩ = some (.slice none 0 0)) : Calls Tryd.prog 31 #[.pointer (some ⟨K, 0, none⟩)] w fun e w' => e = .returned (.tuple #[]) ∧ w' = w := by
  go_enter Tryd.func31, Tryd.ntmps31
  go_wp2
  refine wp_loop_rounds 1 ?_
  rw [rounds_succ]
  go_wp2
  go_end0
  exact ⟨rfl, rfl⟩
theorem grow_none4 {w : World} {K : Nat} (h : w.cell? ⟨K, 4, none⟩ = some (.slice none 0 0)) : Calls Tryd.prog 39 #[.pointer (some ⟨K, 0, none⟩)] w fun e w' => e = .returned (.tuple #[]) ∧ w' = w := by
  go_enter Tryd.func39, Tryd.ntmps39
  go_wp2
  refine wp_loop_rounds 1 ?_
  rw [rounds_succ]
  go_wp2
  go_end0
  exact ⟨rfl, rfl⟩
theorem look_none4 {w : World} {K : Nat} (h : w.cell? ⟨K, 4, none⟩ = some (.slice none 0 0)) : Calls Tryd.prog 47 #[.pointer (some ⟨K, 0, none⟩)] w fun e w' => e = .returned (.bool true) ∧ w' = w := by
  go_enter Tryd.func47, Tryd.ntmps47
  go_wp2
  refine wp_loop_rounds 1 ?_
  rw [rounds_succ]
  go_wp2
  go_ret
  exact ⟨rfl, rfl⟩
theorem fill_none5 {w : World} {K : Nat} (h : w.cell? ⟨K, 5, none⟩ = some (.slice none 0 0)) : Calls Tryd.prog 32 #[.pointer (some ⟨K, 0, none⟩)] w fun e w' => e = .returned (.tuple #[]) ∧ w' = w := by
  go_enter Tryd.func32, Tryd.ntmps32
  go_wp2
  refine wp_loop_rounds 1 ?_
  rw [rounds_succ]
  go_wp2
  go_end0
  exact ⟨rfl, rfl⟩
theorem grow_none5 {w : World} {K : Nat} (h : w.cell? ⟨K, 5, none⟩ = some (.slice none 0 0)) : Calls Tryd.prog 40 #[.pointer (some ⟨K, 0, none⟩)] w fun e w' => e = .returned (.tuple #[]) ∧ w' = w := by
  go_enter Tryd.func40, Tryd.ntmps40
  go_wp2
  refine wp_loop_rounds 1 ?_
  rw [rounds_succ]
  go_wp2
  go_end0
  exact ⟨rfl, rfl⟩
theorem look_none5 {w : World} {K : Nat} (h : w.cell? ⟨K, 5, none⟩ = some (.slice none 0 0)) : Calls Tryd.prog 48 #[.pointer (some ⟨K, 0, none⟩)] w fun e w' => e = .returned (.bool true) ∧ w' = w := by
  go_enter Tryd.func48, Tryd.ntmps48
  go_wp2
  refine wp_loop_rounds 1 ?_
  rw [rounds_succ]
  go_wp2
  go_ret
  exact ⟨rfl, rfl⟩
theorem fill_none6 {w : World} {K : Nat} (h : w.cell? ⟨K, 6, none⟩ = some (.slice none 0 0)) : Calls Tryd.prog 33 #[.pointer (some ⟨K, 0, none⟩)] w fun e w' => e = .returned (.tuple #[]) ∧ w' = w := by
  go_enter Tryd.func33, Tryd.ntmps33
  go_wp2
  refine wp_loop_rounds 1 ?_
  rw [rounds_succ]
  go_wp2
  go_end0
  exact ⟨rfl, rfl⟩
theorem grow_none6 {w : World} {K : Nat} (h : w.cell? ⟨K, 6, none⟩ = some (.slice none 0 0)) : Calls Tryd.prog 41 #[.pointer (some ⟨K, 0, none⟩)] w fun e w' => e = .returned (.tuple #[]) ∧ w' = w := by
  go_enter Tryd.func41, Tryd.ntmps41
  go_wp2
  refine wp_loop_rounds 1 ?_
  rw [rounds_succ]
  go_wp2
  go_end0
  exact ⟨rfl, rfl⟩
theorem look_none6 {w : World} {K : Nat} (h : w.cell? ⟨K, 6, none⟩ = some (.slice none 0 0)) : Calls Tryd.prog 49 #[.pointer (some ⟨K, 0, none⟩)] w fun e w' => e = .returned (.bool true) ∧ w' = w := by
  go_enter Tryd.func49, Tryd.ntmps49
  go_wp2
  refine wp_loop_rounds 1 ?_
  rw [rounds_succ]
  go_wp2
  go_ret
  exact ⟨rfl, rfl⟩
theorem fill_none7 {w : World} {K : Nat} (h : w.cell? ⟨K, 7, none⟩ = some (.slice none 0 0)) : Calls Tryd.prog 34 #[.pointer (some ⟨K, 0, none⟩)] w fun e w' => e = .returned (.tuple #[]) ∧ w' = w := by
  go_enter Tryd.func34, Tryd.ntmps34
  go_wp2
  refine wp_loop_rounds 1 ?_
  rw [rounds_succ]
  go_wp2
  go_end0
  exact ⟨rfl, rfl⟩
theorem grow_none7 {w : World} {K : Nat} (h : w.cell? ⟨K, 7, none⟩ = some (.slice none 0 0)) : Calls Tryd.prog 42 #[.pointer (some ⟨K, 0, none⟩)] w fun e w' => e = .returned (.tuple #[]) ∧ w' = w := by
  go_enter Tryd.func42, Tryd.ntmps42
  go_wp2
  refine wp_loop_rounds 1 ?_
  rw [rounds_succ]
  go_wp2
  go_end0
  exact ⟨rfl, rfl⟩
theorem look_none7 {w : World} {K : Nat} (h : w.cell? ⟨K, 7, none⟩ = some (.slice none 0 0)) : Calls Tryd.prog 50 #[.pointer (some ⟨K, 0, none⟩)] w fun e w' => e = .returned (.bool true) ∧ w' = w := by
  go_enter Tryd.func50, Tryd.ntmps50
  go_wp2
  refine wp_loop_rounds 1 ?_
  rw [rounds_succ]
  go_wp2
  go_ret
  exact ⟨rfl, rfl⟩
theorem fill_none8 {w : World} {K : Nat} (h : w.cell? ⟨K, 8, none⟩ = some (.slice none 0 0)) : Calls Tryd.prog 35 #[.pointer (some ⟨K, 0, none⟩)] w fun e w' => e = .returned (.tuple #[]) ∧ w' = w := by
  go_enter Tryd.func35, Tryd.ntmps35
  go_wp2
  refine wp_loop_rounds 1 ?_
  rw [rounds_succ]
  go_wp2
  go_end0
  exact ⟨rfl, rfl⟩
theorem grow_none8 {w : World} {K : Nat} (h : w.cell? ⟨K, 8, none⟩ = some (.slice none 0 0)) : Calls Tryd.prog 43 #[.pointer (some ⟨K, 0, none⟩)] w fun e w' => e = .returned (.tuple #[]) ∧ w' = w := by
  go_enter Tryd.func43, Tryd.ntmps43
  go_wp2
  refine wp_loop_rounds 1 ?_
  rw [rounds_succ]
  go_wp2
  go_end0
  exact ⟨rfl, rfl⟩
theorem look_none8 {w : World} {K : Nat} (h : w.cell? ⟨K, 8, none⟩ = some (.slice none 0 0)) : Calls Tryd.prog 51 #[.pointer (some ⟨K, 0, none⟩)] w fun e w' => e = .returned (.bool true) ∧ w' = w := by
  go_enter Tryd.func51, Tryd.ntmps51
  go_wp2
  refine wp_loop_rounds 1 ?_
  rw [rounds_succ]
  go_wp2
  go_ret
  exact ⟨rfl, rfl⟩
theorem book_put {B : Nat} {w : World} {K : Nat} {n : Int} {v : Value} {E : List Ent} (hb : Bk B w K n v E) (hE : E.length + 1 ≤ 1000) (hn : n + 1 ≤ 1000) (sp : Option Addr) (len cap : Nat) :
    Calls Tryd.prog 14 #[.pointer (some ⟨K, 0, none⟩), .slice sp len cap] w fun e w' => e = .returned (.tuple #[]) ∧ ∃ v', Bk B w' K (n + 1) v' (E ++ [⟨.slice sp len cap, len, .slice none 0 0, n + 1⟩]) ∧ Buts (K :: v.ownBlock.toList) w w' := by
  go_enter Tryd.func14, Tryd.ntmps14
  go_wp2_with (go_at_call 26; refine (keep_any hb hE hn sp len cap).mono ?_; rintro e w' ⟨rfl, h⟩)
  go_end0
  exact ⟨rfl, h⟩
theorem Bk.others {B : Nat} {w : World} {K : Nat} {n : Int} {v : Value} {E : List Ent} (h : Bk B w K n v E) : w.cell? ⟨K, 1, none⟩ = some (.slice none 0 0) ∧ w.cell? ⟨K, 2, none⟩ = some (.slice none 0 0) ∧ w.cell? ⟨K, 4, none⟩ = some (.slice none 0 0) ∧ w.cell? ⟨K, 5, none⟩ = some (.slice none 0 0) ∧ w.cell? ⟨K, 6, none⟩ = some (.slice none 0 0) ∧ w.cell? ⟨K, 7, none⟩ = some (.slice none 0 0) ∧ w.cell? ⟨K, 8, none⟩ = some (.slice none 0 0) := by
  have hc := fun i => cell_of (i := i) h.head
  exact ⟨by rw [hc]; rfl, by rw [hc]; rfl, by rw [hc]; rfl, by rw [hc]; rfl, by rw [hc]; rfl, by rw [hc]; rfl, by rw [hc]; rfl⟩
set_option maxHeartbeats 4000000 in
theorem apart_yes {B : Nat} {w : World} {K : Nat} {n : Int} {v : Value} {E : List Ent} (hb : Bk B w K n v E) (hl : Lists B w E 0) :
    Calls Tryd.prog 17 #[.pointer (some ⟨K, 0, none⟩)] w fun e w' => e = .returned (.bool true) ∧ Below B w w' := by
  have hB : Below B w w := Below.refl _ _
  have hbl : ∀ x ∈ blks E, B ≤ x := by
    intro x hx
    obtain ⟨e, he, hx⟩ := List.mem_flatMap.1 hx
    obtain ⟨j, hj⟩ := List.getElem?_of_mem he
    obtain ⟨ys, ho, -⟩ := hl.own j e hj
    exact (ho.lt x (by simpa using hx)).1
  have hBw : B ≤ w.heap.size := Nat.le_trans hb.base (Nat.le_of_lt (at_lt hb.head))
  have HB : Hid (Bk B w K n v E) := hb
  have HL : Hid (Lists B w E 0) := hl
  obtain ⟨o1, o2, o4, o5, o6, o7, o8⟩ := hb.others
  clear hb hl
  go_enter Tryd.func17, Tryd.ntmps17
  go_wp2_with (first
    | (go_at_call 30; refine (fill_any HB.out HL.out).mono ?_; rintro e w1 ⟨rfl, hb, hl1, hu1⟩; replace hB : Below B w w1 := hu1.below hbl hBw; clear HB HL; have HB : Hid (Bk B w1 K n v E) := hb; have HG : Hid (Gl B w1 E 0) := Gl.start hl1; obtain ⟨o1, o2, o4, o5, o6, o7, o8⟩ := hb.others; clear hb hl1 hu1)
    | (go_at_call 38; refine (grow_any HB.out HG.out).mono ?_; rintro e w2 ⟨rfl, F, hF, hb, hg2, hu2⟩; replace hB : Below B w w2 := hB.trans hu2; clear HB HG; rw [← hF] at hg2; have HB : Hid (Bk B w2 K n v F) := hb; have HG : Hid (Gl B w2 F F.length) := hg2; obtain ⟨o1, o2, o4, o5, o6, o7, o8⟩ := hb.others; clear hb hg2 hu2 hF)
    | (go_at_call 46; refine (look_any HB.out HG.out).mono ?_; rintro e w3 ⟨rfl, hu3⟩; replace hB := hB.trans (hu3.mono (Nat.le_trans hBw hB.size)); have hb := HB.out.buts (l := []) (Buts.of hu3) (by simp) (fun _ _ => by simp); obtain ⟨o1, o2, o4, o5, o6, o7, o8⟩ := hb.others; clear hb hu3)
    | (go_at_call 28; refine (fill_none1 o1).mono ?_; rintro e wx ⟨rfl, hwx⟩; obtain rfl := hwx.symm)
    | (go_at_call 36; refine (grow_none1 o1).mono ?_; rintro e wx ⟨rfl, hwx⟩; obtain rfl := hwx.symm)
    | (go_at_call 44; refine (look_none1 o1).mono ?_; rintro e wx ⟨rfl, hwx⟩; obtain rfl := hwx.symm)
    | (go_at_call 29; refine (fill_none2 o2).mono ?_; rintro e wx ⟨rfl, hwx⟩; obtain rfl := hwx.symm)
    | (go_at_call 37; refine (grow_none2 o2).mono ?_; rintro e wx ⟨rfl, hwx⟩; obtain rfl := hwx.symm)
    | (go_at_call 45; refine (look_none2 o2).mono ?_; rintro e wx ⟨rfl, hwx⟩; obtain rfl := hwx.symm)
    | (go_at_call 31; refine (fill_none4 o4).mono ?_; rintro e wx ⟨rfl, hwx⟩; obtain rfl := hwx.symm)
    | (go_at_call 39; refine (grow_none4 o4).mono ?_; rintro e wx ⟨rfl, hwx⟩; obtain rfl := hwx.symm)
    | (go_at_call 47; refine (look_none4 o4).mono ?_; rintro e wx ⟨rfl, hwx⟩; obtain rfl := hwx.symm)
    | (go_at_call 32; refine (fill_none5 o5).mono ?_; rintro e wx ⟨rfl, hwx⟩; obtain rfl := hwx.symm)
    | (go_at_call 40; refine (grow_none5 o5).mono ?_; rintro e wx ⟨rfl, hwx⟩; obtain rfl := hwx.symm)
    | (go_at_call 48; refine (look_none5 o5).mono ?_; rintro e wx ⟨rfl, hwx⟩; obtain rfl := hwx.symm)
    | (go_at_call 33; refine (fill_none6 o6).mono ?_; rintro e wx ⟨rfl, hwx⟩; obtain rfl := hwx.symm)
    | (go_at_call 41; refine (grow_none6 o6).mono ?_; rintro e wx ⟨rfl, hwx⟩; obtain rfl := hwx.symm)
    | (go_at_call 49; refine (look_none6 o6).mono ?_; rintro e wx ⟨rfl, hwx⟩; obtain rfl := hwx.symm)
    | (go_at_call 34; refine (fill_none7 o7).mono ?_; rintro e wx ⟨rfl, hwx⟩; obtain rfl := hwx.symm)
    | (go_at_call 42; refine (grow_none7 o7).mono ?_; rintro e wx ⟨rfl, hwx⟩; obtain rfl := hwx.symm)
    | (go_at_call 50; refine (look_none7 o7).mono ?_; rintro e wx ⟨rfl, hwx⟩; obtain rfl := hwx.symm)
    | (go_at_call 35; refine (fill_none8 o8).mono ?_; rintro e wx ⟨rfl, hwx⟩; obtain rfl := hwx.symm)
    | (go_at_call 43; refine (grow_none8 o8).mono ?_; rintro e wx ⟨rfl, hwx⟩; obtain rfl := hwx.symm)
    | (go_at_call 51; refine (look_none8 o8).mono ?_; rintro e wx ⟨rfl, hwx⟩; obtain rfl := hwx.symm))
  go_ret
  exact ⟨rfl, hB⟩
end Go.Proofs.YtciafjmljmeimaaDoor
