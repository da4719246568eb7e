/- Answers, registers, the console; a new core: each call by its contract. -/
import Derived.Test.YtomccgodfimaiaaGreatDoorCTop
import Derived.Laws.BytesString
import Derived.Laws.Cells
namespace Go.Proofs.YtomccgodfimaiaaGreatDoor
open Go Go.RowKit
set_option maxRecDepth 100000
set_option linter.all false
/-- behind an answer -/
def ansC (c : Cr) (e v : Int) : Cr := { c with rs := (c.rs.set 0 (IntKind.u32.wrap e)).set 1 v, asked := false }
set_option maxHeartbeats 2000000 in
theorem Answer_yes {w : World} {G : Kp} {cv : Value} {c : Cr} (h : CM w G cv c) (hq : c.asked = true) (n v : Int) (hv : Un.num v) :
    Calls Tryz.prog 17 #[.pointer (some ⟨G.p, 0, none⟩), .int .i64 n, .int .u32 v] w fun e w' => e = .returned (.int .i64 0) ∧ CM w' G cv (ansC c n v) ∧ Buts [G.p] w w' := by
  have hT := isThere_any h
  have c12 := h.c12
  rw [hq] at c12
  have f12 := h.fz 12
  have r0 := h.r 0 (by omega)
  have r1 := h.r 1 (by omega)
  have f0 := h.fz 0
  have f1 := h.fz 1
  have hw : Un.num (IntKind.u32.wrap n) := by unfold Un.num; rw [IntKind.wrap_u32]; omega
  have H : Hid (CM w G cv c) := h
  have HW : Hid (Un.num (IntKind.u32.wrap n)) := hw
  have HV : Hid (Un.num v) := hv
  clear h hw hv
  go_enter Tryz.func17, Tryz.ntmps17
  go_wp2_with (go_at_call 39; refine hT.mono ?_; rintro e w2 ⟨rfl, rfl⟩)
  go_region
  go_wp2
  go_ret
  refine ⟨rfl, ?_, ?_⟩
  · have h1 := H.out.setR 0 (by omega) HW.out
    have h2 := h1.setR 1 (by omega) HV.out
    exact (h2.setAsk false).drew
  · exact (((Buts.cell _ G.p 0 _).trans (Buts.cell _ G.p 1 _)).trans (Buts.cell _ G.p 12 _)).drew
theorem Answer_no {w : World} {G : Kp} {cv : Value} {c : Cr} (h : CM w G cv c) (hq : c.asked = false) (n v : Int) :
    Calls Tryz.prog 17 #[.pointer (some ⟨G.p, 0, none⟩), .int .i64 n, .int .u32 v] w fun e w' => e = .returned (.int .i64 7) ∧ w' = w := by
  have hT := isThere_any h
  have c12 := h.c12
  rw [hq] at c12
  clear h
  go_enter Tryz.func17, Tryz.ntmps17
  go_wp2_with (go_at_call 39; refine hT.mono ?_; rintro e w2 ⟨rfl, rfl⟩)
  go_ret
  exact ⟨rfl, rfl⟩
theorem Answer_nil (w : World) (n v : Int) :
    Calls Tryz.prog 17 #[.pointer none, .int .i64 n, .int .u32 v] w fun e w' => e = .returned (.int .i64 2) ∧ w' = w := by
  have hT := isThere_nil w
  go_enter Tryz.func17, Tryz.ntmps17
  go_wp2_with (go_at_call 39; refine hT.mono ?_; rintro e w2 ⟨rfl, rfl⟩)
  go_ret
  exact ⟨rfl, rfl⟩
/-- the registers, as they are told -/
def regsV (rs : List Int) : Value := .agg #[.int .u32 (rs.getD 0 0), .int .u32 (rs.getD 1 0), .int .u32 (rs.getD 2 0), .int .u32 (rs.getD 3 0), .int .u32 (rs.getD 4 0), .int .u32 (rs.getD 5 0), .int .u32 (rs.getD 6 0), .int .u32 (rs.getD 7 0)]
set_option maxHeartbeats 2000000 in
theorem Regs_any {w : World} {G : Kp} {cv : Value} {c : Cr} (h : CM w G cv c) :
    Calls Tryz.prog 19 #[.pointer (some ⟨G.p, 0, none⟩)] w fun e w' => e = .returned (regsV c.rs) ∧ Below w.heap.size w w' := by
  have b1 := alloc_below w (.cells #[.int .u32 0, .int .u32 0, .int .u32 0, .int .u32 0, .int .u32 0, .int .u32 0, .int .u32 0, .int .u32 0] 46)
  have h1 := h.below b1
  have hT := isThere_any h1
  have r0 := h1.r 0 (by omega)
  have r1 := h1.r 1 (by omega)
  have r2 := h1.r 2 (by omega)
  have r3 := h1.r 3 (by omega)
  have r4 := h1.r 4 (by omega)
  have r5 := h1.r 5 (by omega)
  have r6 := h1.r 6 (by omega)
  have r7 := h1.r 7 (by omega)
  have HB : Hid (Below w.heap.size w (w.alloc (.cells #[.int .u32 0, .int .u32 0, .int .u32 0, .int .u32 0, .int .u32 0, .int .u32 0, .int .u32 0, .int .u32 0] 46))) := b1
  unfold regsV
  clear h h1 b1
  generalize c.rs.getD 0 0 = v0 at *
  generalize c.rs.getD 1 0 = v1 at *
  generalize c.rs.getD 2 0 = v2 at *
  generalize c.rs.getD 3 0 = v3 at *
  generalize c.rs.getD 4 0 = v4 at *
  generalize c.rs.getD 5 0 = v5 at *
  generalize c.rs.getD 6 0 = v6 at *
  generalize c.rs.getD 7 0 = v7 at *
  go_enter Tryz.func19, Tryz.ntmps19
  go_wp2_with (go_at_call 39; refine hT.mono ?_; rintro e w2 ⟨rfl, rfl⟩)
  refine bodyPost_ret (results_cell_row (g := w.heap.size) rfl _ _ _ _ _ (d := _) rfl (alloc_at w _) Tryz.underlying46 rfl (by kernel_rfl)) rfl ?_
  exact ⟨rfl, alloc_below w _⟩
/-- bytes as a text -/
def str (l : List Int) : ByteArray := l.foldl (fun r n => r.push (UInt8.ofNat n.toNat)) ByteArray.empty
theorem conv_str {w : World} {sp : Option Addr} {l : List Int} (h : Src w sp l) (cap : Nat) (hn : sp = none → l = []) : (convert 22 9 (.slice sp l.length cap)).run Tryz.prog w = .ok (.string (str l)) w := by
  rw [run_convert_bytes_string w 22 9 5 sp l.length cap Tryz.underlying22 Tryz.underlying5 Tryz.underlying9]
  rcases sp with _ | ad
  · obtain rfl := hn rfl
    simp [Conv.bytesToString, str]
  · by_cases hz : 0 < l.length
    · obtain ⟨b, off, e, hc⟩ := h hz
      obtain rfl := Option.some.inj e
      refine run_bytesToString w _ _ _ _ ?_
      have := run_loadCells_list (P := Tryz.prog) (w := w) ⟨b, off, none⟩ (l.map (Value.int .u8)) (fun j v hj => byt_news (fun _ => ⟨b, off, rfl, hc⟩) j v hj)
      simpa using this
    · have : l = [] := List.eq_nil_of_length_eq_zero (by omega)
      subst this
      refine run_bytesToString w _ _ _ [] ?_
      have := run_loadCells_list (P := Tryz.prog) (w := w) ad [] (fun j v hj => by simp at hj)
      simpa using this
theorem Part.str {w : World} {v : Value} {l : List Int} (h : Part w v l) : (convert 22 9 v).run Tryz.prog w = .ok (.string (str l)) w := by
  obtain ⟨sp, cap, rfl, hs⟩ := h.src
  refine conv_str hs cap (fun e => ?_)
  subst e
  rcases l with _ | ⟨z, zs⟩
  · rfl
  · obtain ⟨b, off, e, _⟩ := hs (by simp)
    cases e
theorem Console_any {w : World} {G : Kp} {cv : Value} {c : Cr} (h : CM w G cv c) :
    Calls Tryz.prog 22 #[.pointer (some ⟨G.p, 0, none⟩)] w fun e w' => e = .returned (.string (str c.con)) ∧ w' = w := by
  have hT := isThere_any h
  have c11 := h.c11
  have hs := h.con.str
  clear h
  go_enter Tryz.func22, Tryz.ntmps22
  go_wp2_with (go_at_call 39; refine hT.mono ?_; rintro e w2 ⟨rfl, rfl⟩)
  go_ret
  exact ⟨rfl, rfl⟩
end Go.Proofs.YtomccgodfimaiaaGreatDoor
