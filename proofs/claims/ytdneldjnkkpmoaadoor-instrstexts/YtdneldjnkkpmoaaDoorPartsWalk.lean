/- The document's own cutting: the parts between all blanks. -/
import Derived.Test.YtdneldjnkkpmoaaDoorDigitsNum
import Derived.Test.YtdneldjnkkpmoaaDoorPartsPure
import Derived.Deep.RegionWith
import Derived.Deep.DeepCutAuto
import Derived.Maps.AppendAt
import Derived.OwnWalk
namespace Go.Proofs.YtdneldjnkkpmoaaDoor
open Go Go.RowKit
set_option maxRecDepth 100000
set_option linter.unusedVariables false
theorem own_ge {w : World} {base gp n size : Nat} {e : TypeId} {v : Value} {xs : List Value} (h : w.ownsRow base e size v n xs) (hg : v.ownBlock = some gp) : base ≤ gp ∧ gp < w.heap.size := by
  refine ⟨?_, own_lt h hg⟩
  rcases h.2 with ⟨h2, _⟩ | ⟨g, cap, cur, hv, a1, a2, a3⟩
  · subst h2; cases hg
  · subst hv
    simp only [Value.ownBlock, Option.some.injEq] at hg
    omega
theorem jn_grow (ps : List (List UInt8)) (x : List UInt8) (c : UInt8) : jn (ps ++ [x ++ [c]]) = jn (ps ++ [x]) ++ [c] := by
  cases ps with
  | nil => rw [List.nil_append, List.nil_append, jn_one, jn_one]
  | cons y r => rw [jn_snoc _ _ (by simp), jn_snoc _ _ (by simp)]; simp
def pcs (ps : List (List UInt8)) : List Value := ps.map fun x => .string (mk x)
theorem cut_mk (s : ByteArray) (p k : Nat) : s.extract p k = mk ((s.data.toList.take k).drop p) := by
  rw [← data_mk (s.extract p k)]
  congr 1
  rw [ByteArray.data_extract, Array.toList_extract, List.extract_eq_take_drop, List.drop_take]
theorem sl_any (s : ByteArray) (p k : Nat) (h : p ≤ k) (hk : k ≤ s.size) (W : World) : (Instr.slice 9 (.string s) (some (.int .i64 p)) (some (.int .i64 k)) none).run Tryd.prog W = .ok (.string (mk ((s.data.toList.take k).drop p))) W := by
  have := run_slice_string (P := Tryd.prog) (w := W) 9 s .i64 .i64 p k Tryd.underlying9 (by omega) (by omega) (by omega)
  rw [Int.toNat_natCast, Int.toNat_natCast, cut_mk] at this
  exact this
set_option maxHeartbeats 2000000 in
theorem parts_any (s : ByteArray) (hs : s.size ≤ 1048576) (w : World) :
    Calls Tryd.prog 28 #[.string s] w fun e w' => ∃ v, e = .returned v ∧ Below w.heap.size w w' ∧ ∃ ps, w'.ownsRow w.heap.size 9 1 v ps.length (pcs ps) ∧ ps.length ≤ s.size + 1 ∧ ps ≠ [] ∧ (∀ x ∈ ps, (32 : UInt8) ∉ x) ∧ jn ps = s.data.toList := by
  obtain ⟨i0, hi, hz0, hz1, hz2⟩ := info_parts info9
  go_enter Tryd.func28, Tryd.ntmps28
  go_wp2
  go_loopg [3, 4, 5] (s.size + 1) (fun g l fr i wx => ∃ (ps : List (List UInt8)) (p k : Nat), k + g = s.size + 1 ∧ i = .int .i64 k ∧ fr = .int .i64 p ∧ wx.ownsRow w.heap.size 9 1 l ps.length (pcs ps) ∧ Below w.heap.size w wx ∧ ps.length ≤ k ∧
    Hid (∀ x ∈ ps, (32 : UInt8) ∉ x) ∧ Hid (k ≤ s.size → p ≤ k ∧ jn (ps ++ [(s.data.toList.take k).drop p]) = s.data.toList.take k ∧ (32 : UInt8) ∉ (s.data.toList.take k).drop p) ∧ Hid (k = s.size + 1 → ps ≠ [] ∧ jn ps = s.data.toList))
  case atStart =>
    refine ⟨[], 0, 0, by omega, rfl, rfl, ⟨rfl, Or.inl ⟨rfl, rfl⟩⟩, Below.refl _ _, Nat.zero_le _, ?_, ?_, ?_⟩
    · intro x hx; cases hx
    · intro _; exact ⟨Nat.le_refl _, by simp [jn_one], by simp⟩
    · intro e; omega
  case round =>
    obtain ⟨ps, p, k, hkg, rfl, rfl, hown, hB, hpk, HP, HA, HZ⟩ := hrel
    by_cases hlast : k ≤ s.size
    · obtain ⟨hpk', hjn0, hpl0⟩ := HA.out hlast
      have HJ : Hid (jn (ps ++ [(s.data.toList.take k).drop p]) = s.data.toList.take k ∧ (32 : UInt8) ∉ (s.data.toList.take k).drop p) := ⟨hjn0, hpl0⟩
      clear hjn0 hpl0
      have hsl := sl_any s p k hpk' hlast
      obtain ⟨g, rfl⟩ : ∃ g, gk = g + 1 := ⟨gk - 1, by omega⟩
      have hlz : (k : Int) ≤ (s.size : Int) := by omega
      have hwz : w.heap.size ≤ wr.heap.size := hB.size
      by_cases hno : k < s.size ∧ s.data.toList[k]? ≠ some 32
      · obtain ⟨hlt, hn⟩ := hno
        have HN : Hid (s.data.toList[k]? ≠ some 32) := hn
        have h32 : ((s[k].toNat : Int) == 32) = false := by
          rw [beq_eq_false_iff_ne]
          intro e
          refine hn ?_
          rw [byte_at s k hlt]
          exact congrArg some (UInt8.toNat_inj.1 (by have h : s[k].toNat = 32 := (by omega); rw [h]; rfl))
        have hne : ¬ ((k : Int) = (s.size : Int)) := by omega
        clear hn
        go_wp2
        go_roundg g
        case measure => omega
        case rel =>
          refine ⟨ps, p, k + 1, by omega, by go_num, rfl, hown, hB, by omega, HP, ?_, ?_⟩
          · intro _
            have e : (s.data.toList.take (k + 1)).drop p = (s.data.toList.take k).drop p ++ [s[k]] := by
              rw [take_next s k hlt, List.drop_append_of_le_length (by rw [List.length_take, ← size_data]; omega)]
            refine ⟨by omega, ?_, ?_⟩
            · rw [e, jn_grow, HJ.out.1, take_next s k hlt]
            · rw [e]
              intro h
              rcases List.mem_append.1 h with h | h
              · exact HJ.out.2 h
              · exact HN.out (by rw [byte_at s k hlt, ← List.mem_singleton.1 h])
          · intro e; omega
      · have hcase : k = s.size ∨ (k < s.size ∧ s.data.toList[k]? = some 32) := by
          by_cases h1 : k < s.size
          · exact Or.inr ⟨h1, Classical.byContradiction fun e => hno ⟨h1, e⟩⟩
          · exact Or.inl (by omega)
        clear hno
        generalize hx : (s.data.toList.take k).drop p = x at HJ hsl
        clear hx
        have HK : Hid (jn (ps ++ [x]) = s.data.toList.take k ∧ ∀ y ∈ ps ++ [x], (32 : UInt8) ∉ y) := by
          refine ⟨HJ.out.1, ?_⟩
          intro y hy
          rcases List.mem_append.1 hy with hy | hy
          · exact HP.out y hy
          · rw [List.mem_singleton.1 hy]; exact HJ.out.2
        clear HA HZ HJ HP
        have HW : Hid (∀ (o : Obj) (v' : Value) (w3 : World), w3.ownsRow w.heap.size 9 1 v' (ps.length + 1) (pcs ps ++ [.string (mk x)]) → (wr.alloc o).grownBy w3 u3.ownBlock →
            Below w.heap.size w w3 ∧ w3.ownsRow w.heap.size 9 1 v' (ps ++ [x]).length (pcs (ps ++ [x]))) := by
          intro o v' w3 h1 h2
          refine ⟨(hB.alloc hwz o).grown h2 (by rw [alloc_size]; omega) (fun q e => (own_ge hown e).1), ?_⟩
          have e1 : pcs (ps ++ [x]) = pcs ps ++ [.string (mk x)] := by simp [pcs]
          have e2 : (ps ++ [x]).length = ps.length + 1 := by simp
          rw [e1, e2]
          exact h1
        rcases hcase with rfl | ⟨hlt, hc⟩
        · have hle : ps.length ≤ 1048576 := by omega
          go_wp2_with (at_builtin; refine wpList_append_own_at _ rfl _ _ 44 rfl w.heap.size 9 i0 (.string ⟨#[]⟩) 1 16 Tryd.underlying44 hi hz0 hz1 hz2 rfl (by decide) u3 _ _ rfl (hown.alloc _) ⟨wr.heap.size, 0, none⟩ 1 1 [.string (mk x)] rfl rfl (cell_one_new _ _ _) (fun x hx => by simp at hx; subst hx; rfl) (by unfold maxLen; omega) (by omega) (by simp; omega) ?_; intro v' w3 hown' hgrow hnil hloc; clear hnil hloc)
          all_goals
            go_roundg g
            case measure => omega
            case rel =>
              obtain ⟨b1, b2⟩ := HW.out _ _ _ hown' hgrow
              refine ⟨ps ++ [x], s.size + 1, s.size + 1, by omega, by go_num, by go_num, b2, b1, by simp; omega, HK.out.2, ?_, ?_⟩
              · intro e; omega
              · intro _
                refine ⟨by simp, ?_⟩
                rw [HK.out.1, size_data s, List.take_length]
        · have hle : ps.length ≤ 1048576 := by omega
          have HC : Hid (s.data.toList[k]? = some 32) := hc
          have h32 : (s[k].toNat : Int) = 32 := by
            rw [byte_at s k hlt] at hc
            rw [Option.some.inj hc]; rfl
          have hne : ¬ ((k : Int) = (s.size : Int)) := by omega
          clear hc
          go_wp2_with (at_builtin; refine wpList_append_own_at _ rfl _ _ 44 rfl w.heap.size 9 i0 (.string ⟨#[]⟩) 1 16 Tryd.underlying44 hi hz0 hz1 hz2 rfl (by decide) u3 _ _ rfl (hown.alloc _) ⟨wr.heap.size, 0, none⟩ 1 1 [.string (mk x)] rfl rfl (cell_one_new _ _ _) (fun x hx => by simp at hx; subst hx; rfl) (by unfold maxLen; omega) (by omega) (by simp; omega) ?_; intro v' w3 hown' hgrow hnil hloc; clear hnil hloc)
          all_goals
            go_roundg g
            case measure => omega
            case rel =>
              obtain ⟨b1, b2⟩ := HW.out _ _ _ hown' hgrow
              have ez : (s.data.toList.take (k + 1)).drop (k + 1) = [] := by rw [List.drop_take]; simp
              have e3 : s.data.toList.take (k + 1) = s.data.toList.take k ++ [32] := by rw [List.take_add_one, HC.out]; rfl
              refine ⟨ps ++ [x], k + 1, k + 1, by omega, by go_num, by go_num, b2, b1, by simp; omega, HK.out.2, ?_, ?_⟩
              · intro _
                refine ⟨Nat.le_refl _, ?_, by rw [ez]; simp⟩
                rw [ez, jn_snoc _ _ (by simp), HK.out.1, e3]
              · intro e; omega
    · obtain rfl : k = s.size + 1 := by omega
      have hlz : ¬ (((s.size + 1 : Nat) : Int) ≤ (s.size : Int)) := by omega
      obtain ⟨z1, z2⟩ := HZ.out rfl
      clear HZ HA
      go_wp2
      go_ret
      exact ⟨_, rfl, hB, ps, hown, hpk, z1, HP.out, z2⟩
end Go.Proofs.YtdneldjnkkpmoaaDoor
