/- The document's own list: All. -/
import Derived.Test.YtdifgjioaikchaaDoorRefTick
import Derived.Test.YtdifgjioaikchaaDoorRefPure
namespace Go.Proofs.YtdifgjioaikchaaDoor
open Go Go.RowKit
set_option maxRecDepth 100000
set_option linter.unusedVariables false
set_option linter.unusedSimpArgs false
def bls (bs : List Bool) : List Value := bs.map Value.bool
theorem bls_at {bs : List Bool} {i : Nat} (h : i < bs.length) : (bls bs)[i]? = some (.bool (bs.getD i false)) := by simp [bls, h]
theorem infoB : (Tryd.prog.info? 4).map (fun i => (i.zero, i.size, i.bytes)) = some (some (.bool false), 1, 1) := by kernel_rfl
theorem made_false (n : Nat) : madeCells (Value.bool false).cells n = (bls (List.replicate n false)).toArray := by
  apply Array.ext_getElem?
  intro i
  by_cases hi : i < n
  · simp [madeCells, Value.cells, bls, hi, Nat.mod_one]
  · simp [madeCells, Value.cells, bls, hi]
theorem make_bools (w : World) (l : Nat) (hc : l ≤ 1000000) :
    (Instr.makeSlice 65 (.int .i64 l) (.int .i64 l)).run Tryd.prog w = .ok (.slice (some ⟨w.heap.size, 0, none⟩) l l) (w.alloc (.cells (bls (List.replicate l false)).toArray 4)) := by
  obtain ⟨i, hi, he⟩ := Option.map_eq_some_iff.1 infoB
  have h1 : i.zero = some (.bool false) := by simpa using congrArg Prod.fst he
  have h2 : i.size = 1 := by simpa using congrArg (fun x => x.2.1) he
  have h3 : i.bytes = 1 := by simpa using congrArg (fun x => x.2.2) he
  have := run_make w 65 4 i (.bool false) Tryd.underlying65 hi h1 .i64 .i64 l l (by omega) (by omega) (by rw [h3]; omega) (by omega)
  rw [this, h2, Nat.mul_one, made_false]
  simp
theorem getD_fst {ys : List (Int × Int)} {i : Nat} (h : i < ys.length) : (ys.map Prod.fst).getD i 0 = (ys.getD i (0, 0)).1 := by simp [h]
theorem step_take {L S : List (Int × Int)} {y : Int × Int} {i : Nat} (h : L = L.take i ++ y :: S) (hi : i < L.length) : L.take (i + 1) = L.take i ++ [y] ∧ L = L.take (i + 1) ++ S := by
  have hl : (L.take i).length = i := by rw [List.length_take]; omega
  have hy : L[i]? = some y := by
    rw [h, List.getElem?_append_right (by rw [hl]; omega), hl]
    simp
  have e : L.take (i + 1) = L.take i ++ [y] := by rw [List.take_add_one, hy]; rfl
  refine ⟨e, ?_⟩
  rw [e, List.append_assoc]
  exact h
set_option maxHeartbeats 8000000 in
theorem rall_is {B : Nat} {w : World} {q : Nat} {v : Value} {ys : List (Int × Int)} (h : Ref B w q v ys) :
    Calls Tryd.prog 16 #[.pointer (some ⟨q, 0, none⟩)] w fun e w' => ∃ us uc, e = .returned (.slice us ys.length uc) ∧ w'.ownsRow w.heap.size 3 1 (.slice us ys.length uc) ys.length (num (allOf ys)) ∧ Below w.heap.size w w' := by
  obtain ⟨sp, g, cap, hv, hsp, hgl, hc1, hc2, hcs⟩ := h.seq
  subst hv
  have hlk := h.lnk
  have hlen := h.len
  have hql := at_lt h.head
  have HCS : Hid (∀ k, k < ys.length → w.cell? ⟨g, k * 2, none⟩ = some (.int .i64 (ys.getD k (0, 0)).1) ∧ w.cell? ⟨g, k * 2 + 1, none⟩ = some (.int .i64 (ys.getD k (0, 0)).2)) := hcs
  clear h hcs hc1 hc2
  obtain ⟨n, hn⟩ : ∃ n, ys.length = n := ⟨_, rfl⟩
  rw [hn] at hlk hlen hsp HCS
  rw [hn]
  have HN : Hid (ys.length = n) := hn
  clear hn
  have hmk := make_bools w n (by omega)
  have hba := alloc_below w (.cells (bls (List.replicate n false)).toArray 4)
  have HT0 : Hid ((w.alloc (.cells (bls (List.replicate n false)).toArray 4)).heap[w.heap.size]? = some (.cells (bls (List.replicate n false)).toArray 4 (0, 0))) := alloc_at w _
  have HB0 : Hid (Below w.heap.size w (w.alloc (.cells (bls (List.replicate n false)).toArray 4))) := hba
  have hlk0 := (hba.cell (p := ⟨q, 0, none⟩) hql).trans hlk
  clear hba
  go_enter Tryd.func16, Tryd.ntmps16
  go_wp2
  clear hmk hlk0
  obtain ⟨T, hT⟩ : ∃ T, w.heap.size = T := ⟨_, rfl⟩
  rw [hT] at HT0
  rw [hT]
  have HT' : Hid (w.heap.size = T) := hT
  clear hT
  go_loopg [3, 18] n (fun gk s3 s18 wx => ∃ (i : Nat) (bs : List Bool) (us : Option Addr) (un uc : Nat), i + gk = n ∧ s3 = .slice us un uc ∧ s18 = .int .i64 i ∧ Hid (wx.heap[T]? = some (.cells (bls bs).toArray 4 (0, 0))) ∧ Hid (bs.length = n) ∧ Hid (srt ys = (srt ys).take i ++ srt (lft bs ys)) ∧ Hid (wx.ownsRow w.heap.size 3 1 (.slice us un uc) i (num ((allOf ys).take i))) ∧ Hid (Below w.heap.size w wx))
  case atStart => exact ⟨0, List.replicate n false, none, 0, 0, by omega, rfl, rfl, HT0, by show _ = _; simp, by show _ = _; rw [← HN.out, lft_none]; simp, World.ownsRow_nil _ _ _ _, HB0⟩
  case round =>
    obtain ⟨i, bs, us, un, uc, hig, rfl, rfl, HTR, HBS, HSR, HU, HBl⟩ := hrel
    clear HT0 HB0
    have hlk' := (HBl.out.cell (p := ⟨q, 0, none⟩) hql).trans hlk
    cases gk with
    | zero =>
      obtain rfl : i = n := by omega
      have hlt : ¬ ((i : Int) < i) := by omega
      go_wp2
      go_ret
      have hu := HU.out
      rw [List.take_of_length_le (by rw [allOf_len, HN.out]; omega)] at hu
      have hun : un = i := by
        obtain ⟨sp', c', e', _⟩ := own_form hu
        simp only [Value.slice.injEq] at e'
        exact e'.2.1
      subst hun
      exact ⟨us, uc, rfl, hu, HBl.out⟩
    | succ g' =>
      have hlt : (i : Int) < n := by omega
      have hin : i < n := by omega
      obtain rfl := hsp (by omega)
      have hne : lft bs ys ≠ [] := fun e => by
        have h1 := congrArg List.length HSR.out
        rw [e, List.length_append, List.length_take, srt_len, srt_len, HN.out] at h1
        simp only [List.length_nil] at h1
        omega
      have HNE : Hid (lft bs ys ≠ []) := hne
      clear hne hsp
      go_wp2
      generalize wr = W1 at *
      go_loopg [5, 6] n (fun gk s5 s6 wx => ∃ (j : Nat) (x : Int), j + gk = n ∧ s5 = .int .i64 x ∧ s6 = .int .i64 j ∧ Hid (Least bs ys j x) ∧ Hid (Below W1.heap.size W1 wx))
      case atStart => exact ⟨0, -1, by omega, rfl, rfl, Least.start bs ys, Below.refl _ _⟩
      case round =>
        obtain ⟨j, x, hjg, rfl, rfl, HLS, HBI⟩ := hrel
        have hW := HBl.out.trans (HBI.out.mono HBl.out.size)
        have HW : Hid (Below w.heap.size w wr) := hW
        have hlkj := (hW.cell (p := ⟨q, 0, none⟩) hql).trans hlk
        have hTr : wr.heap[T]? = some (.cells (bls bs).toArray 4 (0, 0)) := (HBI.out.block T (at_lt HTR.out)).trans HTR.out
        have HTR2 : Hid (wr.heap[T]? = some (.cells (bls bs).toArray 4 (0, 0))) := hTr
        cases gk with
        | zero =>
          obtain rfl : j = n := by omega
          have hjlt : ¬ ((j : Int) < j) := by omega
          obtain ⟨m, rfl, hm, hs⟩ := (show Least bs ys ys.length x by rw [HN.out]; exact HLS.out).next (by rw [HBS.out, HN.out]) HNE.out
          have hmj : m < j := by rw [← HN.out]; exact hm
          have hm1 : (m : Int) < j := by omega
          have tc : wr.cell? ⟨T, m, none⟩ = some (.bool (bs.getD m false)) := by
            rw [cell_of hTr]
            have := bls_at (bs := bs) (i := m) (by rw [HBS.out]; exact hmj)
            simpa using this
          have tf : wr.frozen? ⟨T, m, none⟩ = false := by simp [World.frozen?, hTr]
          have d0 := (hW.cell (p := ⟨g, m * 2, none⟩) hgl).trans (HCS.out m hmj).1
          obtain ⟨⟨a, z⟩, hy⟩ : ∃ y, ys.getD m (0, 0) = y := ⟨_, rfl⟩
          rw [hy] at d0 hs
          simp only at d0
          have hTq : q < T := by rw [← HT'.out]; exact hql
          have hTg : g < T := by rw [← HT'.out]; exact hgl
          have hTw : T < wr.heap.size := at_lt hTr
          have hbs : Buts [T] wr (wr.setCell ⟨T, m, none⟩ (.bool true)) := Buts.cell _ _ _ _
          have hbT := hbs.below (B := T) (by simp) (by omega)
          have k0 := (hbT.cell (p := ⟨q, 0, none⟩) hTq).trans hlkj
          have k1 := (hbT.cell (p := ⟨g, m * 2, none⟩) hTg).trans d0
          have HTS : Hid ((wr.setCell ⟨T, m, none⟩ (.bool true)).heap[T]? = some (.cells (bls (bs.set m true)).toArray 4 (0, 0))) := by
            show _ = _
            rw [set_block hTr m (.bool true)]
            simp [bls, List.map_set]
          have hsz : (wr.setCell ⟨T, m, none⟩ (.bool true)).heap.size = wr.heap.size := by simp [World.setCell]
          obtain ⟨X, hX⟩ : ∃ X, wr.heap.size = X := ⟨_, rfl⟩
          have hb3 := alloc_below (wr.setCell ⟨T, m, none⟩ (.bool true)) (.cells #[.int .i64 a] 3)
          have hc3 := alloc_at (wr.setCell ⟨T, m, none⟩ (.bool true)) (.cells #[.int .i64 a] 3)
          rw [hsz, hX] at hc3
          have hown1 : wr.ownsRow w.heap.size 3 1 (.slice us un uc) i (num ((allOf ys).take i)) := owns_below HU.out HBI.out
          have hown2 := owns_buts hown1 hbs (fun x hx => by
            have := block_ne hown1 hx hTr (by decide)
            simpa using this)
          have HCC : Hid (((wr.setCell ⟨T, m, none⟩ (.bool true)).alloc (.cells #[.int .i64 a] 3)).cell? ⟨X, 0, none⟩ = some (.int .i64 a)) := by show _ = _; rw [cell_of hc3]; rfl
          have HU2 : Hid (((wr.setCell ⟨T, m, none⟩ (.bool true)).alloc (.cells #[.int .i64 a] 3)).ownsRow w.heap.size 3 1 (.slice us un uc) i (num ((allOf ys).take i))) := owns_below hown2 hb3
          have HTS2 : Hid (((wr.setCell ⟨T, m, none⟩ (.bool true)).alloc (.cells #[.int .i64 a] 3)).heap[T]? = some (.cells (bls (bs.set m true)).toArray 4 (0, 0))) := (hb3.block T (by rw [hsz]; exact hTw)).trans HTS.out
          have hbw : Below w.heap.size w (wr.setCell ⟨T, m, none⟩ (.bool true)) := hW.trans (by rw [HT'.out]; exact hbT)
          have HB2 : Hid (Below w.heap.size w ((wr.setCell ⟨T, m, none⟩ (.bool true)).alloc (.cells #[.int .i64 a] 3))) := hbw.trans (hb3.mono hbw.size)
          have hi1 : i + 1 ≤ 2000000 := by omega
          have HS : Hid (srt (lft bs ys) = (a, z) :: srt (lft (bs.set m true) ys)) := hs
          clear hs hy hown1 hown2 hc3 hb3 hbw hbT hbs hW hTr hlk' HTS d0 hm
          go_wp2_with (at_builtin; refine wpList_gapp2 (B := w.heap.size) rfl (.tmp 61) (.tmp 70) rfl rfl rfl rfl HU2.out HCC.out rfl hi1 HB2.out.size ?_; intro g5 c5 w5 HO5 HG5)
          have hbb : Buts (Value.slice us un uc).ownBlock.toList _ w5 := app_buts HG5.out
          go_roundg g'
          case measure => omega
          case rel =>
            have h1 := HSR.out
            rw [HS.out] at h1
            obtain ⟨e1, e2⟩ := step_take h1 (by rw [srt_len, HN.out]; exact hin)
            refine ⟨i + 1, bs.set m true, _, _, _, by omega, rfl, by go_num, ?_, ?_, ?_, ?_, HB2.out.trans (hbb.below (fun x hx => (HU2.out.lt x (by simpa using hx)).1) HB2.out.size)⟩
            · exact (hbb.block T (at_lt HTS2.out) (fun hmm => block_ne HU2.out (by simpa using hmm) HTS2.out (by decide) rfl)).trans HTS2.out
            · show _ = _
              rw [List.length_set]; exact HBS.out
            · exact e2
            · show World.ownsRow _ _ _ _ _ _ _
              have e3 : (allOf ys).take (i + 1) = (allOf ys).take i ++ [a] := by
                unfold allOf
                rw [← List.map_take, ← List.map_take, e1, List.map_append]
                rfl
              rw [e3]
              have := HO5.out
              simpa [num] using this
        | succ g'' =>
          have hjlt : (j : Int) < n := by omega
          have hjn : j < n := by omega
          have tc : wr.cell? ⟨T, j, none⟩ = some (.bool (bs.getD j false)) := by
            rw [cell_of hTr]
            have := bls_at (bs := bs) (i := j) (by rw [HBS.out]; exact hjn)
            simpa using this
          have dz := (hW.cell (p := ⟨g, j * 2 + 1, none⟩) hgl).trans (HCS.out j hjn).2
          obtain ⟨z, hz⟩ : ∃ z, (ys.getD j (0, 0)).2 = z := ⟨_, rfl⟩
          rw [hz] at dz
          have HZ : Hid ((ys.getD j (0, 0)).2 = z) := hz
          clear hz hTr hW hlk'
          by_cases hb : bs.getD j false = true
          · have HLN : Hid (Least bs ys (j + 1) x) := HLS.out.told hb
            rw [hb] at tc
            clear hb
            go_wp2
            go_quiet ((fail))
            go_wp2
            go_roundg g''
            case measure => omega
            case rel => exact ⟨j + 1, x, by omega, rfl, by go_num, HLN, HBI.out.trans ((below_drewN _ _).mono HBI.out.size)⟩
          · have hbf : bs.getD j false = false := by simpa using hb
            rw [hbf] at tc
            clear hb
            by_cases hx0 : x < 0
            · have HLN : Hid (Least bs ys (j + 1) j) := HLS.out.first hx0 hbf
              clear hbf
              go_wp2
              go_quiet ((fail))
              go_wp2
              go_roundg g''
              case measure => omega
              case rel => exact ⟨j + 1, j, by omega, rfl, by go_num, HLN, HBI.out.trans ((below_drewN _ _).mono HBI.out.size)⟩
            · obtain ⟨m, rfl⟩ := Int.eq_ofNat_of_zero_le (a := x) (by omega)
              have hmj : m < j := by
                rcases HLS.out with ⟨e, _⟩ | ⟨j', e, h, _⟩
                · omega
                · omega
              have hm1 : (m : Int) < n := by omega
              have dm := (HW.out.cell (p := ⟨g, m * 2 + 1, none⟩) hgl).trans (HCS.out m (by omega)).2
              obtain ⟨z2, hz2⟩ : ∃ z2, (ys.getD m (0, 0)).2 = z2 := ⟨_, rfl⟩
              rw [hz2] at dm
              by_cases hzz : z < z2
              · have HLN : Hid (Least bs ys (j + 1) j) := HLS.out.less hbf (by rw [HZ.out, hz2]; exact hzz)
                clear hbf hz2
                go_wp2
                go_quiet ((fail))
                go_wp2
                go_roundg g''
                case measure => omega
                case rel => exact ⟨j + 1, j, by omega, rfl, by go_num, HLN, HBI.out.trans ((below_drewN _ _).mono HBI.out.size)⟩
              · have HLN : Hid (Least bs ys (j + 1) m) := HLS.out.not (by rw [HZ.out, hz2]; exact hzz)
                clear hbf hz2
                go_wp2
                go_quiet ((fail))
                go_wp2
                go_roundg g''
                case measure => omega
                case rel => exact ⟨j + 1, m, by omega, rfl, by go_num, HLN, HBI.out.trans ((below_drewN _ _).mono HBI.out.size)⟩
end Go.Proofs.YtdifgjioaikchaaDoor
