/- What reads a line: closures, in a map by their first word, as they lie in memory. -/
import Derived.Test.YtcjghnnliepjjaaGreatDoorHexW
namespace Go.Proofs.YtcjghnnliepjjaaGreatDoor
open Go Go.RowKit
set_option maxRecDepth 100000
set_option linter.unusedVariables false
theorem uMap : Tryz.prog.underlying 141 = some (.map 9 52) := Tryz.underlying141
theorem ins_str {w : World} {b : Nat} {es : Array MapEntry} {clock : Nat} (hb : w.heap[b]? = some (.map es clock)) (k : ByteArray) (v : Value) (hk : Instr.findNow .string (.string k) es.toList 0 = some none) :
    (Instr.mapUpdate 141 (.map (some b)) (.string k) v).run Tryz.prog w = .ok () (putBlock w b (.map (es.push { key := .string k, val := v, born := clock }) (clock + 1))) := by
  have hc : (Instr.checkKey false 10000 9 (.string k)).run Tryz.prog w = .ok () w := MapKept.run_checkKey Tryz.underlying9 (k := .string k) (by simp [MapKept.IsKey]) false 9999
  simp [Instr.mapUpdate, run_underlying uMap, MapKept.run_getObj_map hb, hc, MapKept.run_findKey Tryz.underlying9 hk, MapKept.run_setObj_map _ hb, Result.andThen, putBlock]
theorem look_yes {w : World} {b : Nat} {es : Array MapEntry} {clock : Nat} (hb : w.heap[b]? = some (.map es clock)) (k : ByteArray) (i : Nat) (v : Value) (hk : Instr.findNow .string (.string k) es.toList 0 = some (some (i, v))) :
    (Instr.lookup 141 (.map (some b)) (.string k) true).run Tryz.prog w = .ok (.tuple #[v, .bool true]) w := by
  have hc : ∀ e, (Instr.checkKey e 10000 9 (.string k)).run Tryz.prog w = .ok () w := fun e => MapKept.run_checkKey Tryz.underlying9 (k := .string k) (by simp [MapKept.IsKey]) e 9999
  simp [Instr.lookup, run_underlying uMap, MapKept.run_getObj_map hb, hc, MapKept.run_findKey Tryz.underlying9 hk, Result.andThen]
theorem look_no {w : World} {b : Nat} {es : Array MapEntry} {clock : Nat} (hb : w.heap[b]? = some (.map es clock)) (k : ByteArray) (hk : Instr.findNow .string (.string k) es.toList 0 = some none) :
    (Instr.lookup 141 (.map (some b)) (.string k) true).run Tryz.prog w = .ok (.tuple #[.nilFunc, .bool false]) w := by
  have hc : ∀ e, (Instr.checkKey e 10000 9 (.string k)).run Tryz.prog w = .ok () w := fun e => MapKept.run_checkKey Tryz.underlying9 (k := .string k) (by simp [MapKept.IsKey]) e 9999
  simp [Instr.lookup, run_underlying uMap, MapKept.run_getObj_map hb, hc, MapKept.run_findKey Tryz.underlying9 hk, Tryz.zeroValue52, Result.andThen]
def sizeW : ByteArray := ⟨#[115, 105, 122, 101]⟩
def dataW : ByteArray := ⟨#[100, 97, 116, 97]⟩
def pt (n : Nat) : Value := .pointer (some ⟨n, 0, none⟩)
/-- the map's entries -/
def ents (L2 L3 : Nat) : Array MapEntry := #[{ key := .string sizeW, val := .func (.func 112) #[] #[.pointer (some ⟨L3, 0, none⟩), .pointer (some ⟨L2, 0, none⟩)], born := 0 }, { key := .string dataW, val := .func (.func 114) #[] #[.pointer (some ⟨L2, 0, none⟩)], born := 1 }]
set_option maxHeartbeats 2000000 in
theorem readers_any (G : Nat) (w : World) : Calls Tryz.prog 98 #[.pointer (some ⟨G, 0, none⟩)] w fun e w' => e = .returned (.map (some (w.heap.size + 2))) ∧ w'.heap[w.heap.size]? = some (.cells #[.pointer (some ⟨G, 0, none⟩)] 77 (0, 0)) ∧ w'.heap[w.heap.size + 1]? = some (.cells #[.bool false] 4 (0, 0)) ∧ w'.heap[w.heap.size + 2]? = some (.map (ents w.heap.size (w.heap.size + 1)) 2) ∧ Below w.heap.size w w' := by
  have hmm := @run_makeMap Tryz.prog
  go_enter Tryz.func98, Tryz.ntmps98
  go_wp2
  obtain ⟨W, hW⟩ : ∃ W, W = ((w.alloc (.cells #[.pointer (some ⟨G, 0, none⟩)] 77)).alloc (.cells #[.bool false] 4)).alloc (.map #[] 0) := ⟨_, rfl⟩
  have s1 := alloc_size w (.cells #[.pointer (some ⟨G, 0, none⟩)] 77)
  have s2 := alloc_size (w.alloc (.cells #[.pointer (some ⟨G, 0, none⟩)] 77)) (.cells #[.bool false] 4)
  have b1 := alloc_below w (.cells #[.pointer (some ⟨G, 0, none⟩)] 77)
  have b2 := alloc_below (w.alloc (.cells #[.pointer (some ⟨G, 0, none⟩)] 77)) (.cells #[.bool false] 4)
  have b3 := alloc_below ((w.alloc (.cells #[.pointer (some ⟨G, 0, none⟩)] 77)).alloc (.cells #[.bool false] 4)) (.map #[] 0)
  have e0 : W.heap[w.heap.size]? = some (.cells #[.pointer (some ⟨G, 0, none⟩)] 77 (0, 0)) := by rw [hW, b3.block _ (by omega), b2.block _ (by omega)]; exact alloc_at w _
  have e1 : W.heap[w.heap.size + 1]? = some (.cells #[.bool false] 4 (0, 0)) := by rw [hW, b3.block _ (by omega), ← s1]; exact alloc_at _ _
  have e2 : W.heap[w.heap.size + 2]? = some (.map #[] 0) := by rw [hW, show w.heap.size + 2 = ((w.alloc (.cells #[.pointer (some ⟨G, 0, none⟩)] 77)).alloc (.cells #[.bool false] 4)).heap.size by omega]; exact alloc_at _ _
  have hb : Below w.heap.size w W := by rw [hW]; exact on1 (on1 b1 b2) b3
  have hz : w.heap.size + 2 < W.heap.size := at_lt e2
  rw [← hW]
  clear hW s1 s2 b1 b2 b3 hmm
  rw [ins_str (b := w.heap.size + 1 + 1) e2 _ _ rfl]
  go_wp2
  have e3 := putBlock_at (w := W) (b := w.heap.size + 1 + 1) (o := .map #[{ key := .string ⟨#[115, 105, 122, 101]⟩, val := .func (.func 112) #[] #[.pointer (some ⟨w.heap.size + 1, 0, none⟩), .pointer (some ⟨w.heap.size, 0, none⟩)], born := 0 }] 1) hz
  rw [ins_str (b := w.heap.size + 1 + 1) e3 _ _ rfl]
  go_wp2
  go_ret
  refine ⟨rfl, ?_, ?_, ?_, (hb.trans (putBlock_below (by omega))).trans (putBlock_below (by omega))⟩
  · rw [putBlock_other (by omega), putBlock_other (by omega)]; exact e0
  · rw [putBlock_other (by omega), putBlock_other (by omega)]; exact e1
  · rw [putBlock_at (by rw [putBlock_size]; exact hz)]; rfl
set_option maxHeartbeats 2000000 in
theorem lineReader_any (G : Nat) (w : World) : Calls Tryz.prog 68 #[.pointer (some ⟨G, 0, none⟩)] w fun e w' => ∃ L5, e = .returned (.func (.func 99) #[] #[.pointer (some ⟨L5, 0, none⟩), .pointer (some ⟨w.heap.size, 0, none⟩)]) ∧ w'.heap[w.heap.size]? = some (.cells #[.pointer (some ⟨G, 0, none⟩)] 77 (0, 0)) ∧ w'.heap[w.heap.size + 1]? = some (.cells #[.pointer (some ⟨G, 0, none⟩)] 77 (0, 0)) ∧ w'.heap[w.heap.size + 2]? = some (.cells #[.bool false] 4 (0, 0)) ∧ w'.heap[w.heap.size + 3]? = some (.map (ents (w.heap.size + 1) (w.heap.size + 2)) 2) ∧ w'.heap[L5]? = some (.cells #[.map (some (w.heap.size + 3))] 141 (0, 0)) ∧ w.heap.size + 3 < L5 ∧ Below w.heap.size w w' := by
  have cR := readers_any G (w.alloc (.cells #[.pointer (some ⟨G, 0, none⟩)] 77))
  rw [alloc_size] at cR
  go_enter Tryz.func68, Tryz.ntmps68
  go_wp2_with (go_at_call 98; refine cR.mono ?_; rintro e w1 ⟨rfl, e1, e2, e3, hb⟩)
  go_ret
  have hb' : Below (w.alloc (.cells #[.pointer (some ⟨G, 0, none⟩)] 77)).heap.size (w.alloc (.cells #[.pointer (some ⟨G, 0, none⟩)] 77)) w1 := by rw [alloc_size]; exact hb
  have e0 : w1.heap[w.heap.size]? = some (.cells #[.pointer (some ⟨G, 0, none⟩)] 77 (0, 0)) := (hb.block _ (by omega)).trans (alloc_at w _)
  have bA := alloc_below w1 (.cells #[.map (some (w.heap.size + 1 + 2))] 141)
  exact ⟨_, rfl, (bA.block _ (at_lt e0)).trans e0, (bA.block _ (at_lt e1)).trans e1, (bA.block _ (at_lt e2)).trans e2, (bA.block _ (at_lt e3)).trans e3, alloc_at _ _, at_lt e3, on1 (two_allocs hb') bA⟩
end Go.Proofs.YtcjghnnliepjjaaGreatDoor
