/- 'unlike' tells unlike numbers; 'filled' makes a ring of them. -/
import Derived.Test.YtppookpacdheaaaSeen
namespace Go.Proofs.Ytppookpacdheaaa
open Go Go.RowKit
set_option maxRecDepth 100000
set_option linter.unusedVariables false
/-- unlike numbers of one byte, so many at most -/
structure Unl (us : List Int) (i : Nat) : Prop where
  good : Good us
  top : ∀ u ∈ us, u ≤ 255
  few : us.length ≤ i
  some : 0 < i → 0 < us.length
theorem Unl.zero : Unl [] 0 := ⟨Good.nil, fun u h => absurd h (by simp), by simp, by omega⟩
theorem Unl.has {us : List Int} {i : Nat} {z : Int} (h : Unl us i) (hz : z ∈ us) : Unl us (i + 1) :=
  ⟨h.good, h.top, Nat.le_succ_of_le h.few, fun _ => List.length_pos_of_mem hz⟩
theorem Unl.add {us : List Int} {i : Nat} {z : Int} (h : Unl us i) (hz : z ∉ us) (h0 : 0 ≤ z) (h1 : z ≤ 255) : Unl (us ++ [z]) (i + 1) := by
  refine ⟨⟨nodup_snoc h.good.1 hz, fun x hx => ?_⟩, fun x hx => ?_, by have := h.few; simp; omega, by simp⟩
  · rcases List.mem_append.1 hx with hx | hx
    · exact h.good.2 x hx
    · simp at hx; omega
  · rcases List.mem_append.1 hx with hx | hx
    · exact h.top x hx
    · simp at hx; omega
theorem take_mem {us : List Int} {z : Int} {k : Nat} (hk : k < us.length) : z ∈ us.take (k + 1) ↔ z ∈ us.take k ∨ us.getD k 0 = z := by
  have ht : us.take (k + 1) = us.take k ++ [us[k]] := by rw [List.take_add_one]; simp [hk]
  have hg : us.getD k 0 = us[k] := by simp [hk]
  rw [ht, hg, List.mem_append, List.mem_singleton, eq_comm (a := z)]
theorem info_parts {P : Program} {t : TypeId} {v : Value} {s b : Nat} (h : (P.info? t).map (fun i => (i.zero, i.size, i.bytes)) = some (some v, s, b)) : ∃ i, P.info? t = some i ∧ i.zero = some v ∧ i.size = s ∧ i.bytes = b := by
  obtain ⟨i, hi, he⟩ := Option.map_eq_some_iff.1 h
  exact ⟨i, hi, by simpa using congrArg Prod.fst he, by simpa using congrArg (fun x => x.2.1) he, by simpa using congrArg (fun x => x.2.2) he⟩
set_option maxHeartbeats 4000000 in
theorem unlike_any {w : World} {sp : Option Addr} {zs : List Int} {n : Nat} (hs : BSrc w.heap.size w sp zs) (hn : zs.length = n) (hl : n ≤ 200) (cap : Nat) :
    Calls Try.prog 15 #[.slice sp n cap] w fun e w' => ∃ us v, e = .returned v ∧ w'.ownsRow w.heap.size 3 1 v us.length (us.map (Value.int .i64)) ∧ Unl us n ∧ Below w.heap.size w w' := by
  obtain ⟨i0, hi, hz0, hz1, hz2⟩ := info_parts infoW
  have HS : Hid (BSrc w.heap.size w sp zs) := hs
  have HN : Hid (zs.length = n) := hn
  clear hs hn
  go_enter Try.func15, Try.ntmps15
  go_wp2
  go_loopg [3, 4] n (fun g s3 s4 wx => ∃ (i : Nat) (us : List Int), i + g = n ∧ s4 = .int .i64 i ∧ Hid (wx.ownsRow w.heap.size 3 1 s3 us.length (us.map (Value.int .i64))) ∧ Hid (Unl us i) ∧ Below w.heap.size w wx)
  case atStart => exact ⟨0, [], by omega, rfl, World.ownsRow_nil _ _ _ _, Unl.zero, Below.refl _ _⟩
  case round =>
    obtain ⟨wo, rfl⟩ : ∃ wo, wo = wr := ⟨wr, rfl⟩
    obtain ⟨i, us, hig, rfl, HO, HU, hB⟩ := hrel
    obtain ⟨sp2, cap2, rfl, hs2⟩ := Src.own HO.out
    have HS2 : Hid (Src wo sp2 us) := hs2
    have hfew := HU.out.few
    obtain ⟨m, hm⟩ : ∃ m, us.length = m := ⟨_, rfl⟩
    have HM : Hid (us.length = m) := hm
    rw [hm] at HO hfew ⊢
    clear hs2 hm
    cases gk with
    | zero =>
      obtain rfl : i = n := by omega
      have hlt : ¬ ((i : Int) < i) := by omega
      go_wp2
      go_ret
      exact ⟨us, _, rfl, by rw [HM.out]; exact HO.out, HU.out, hB⟩
    | succ g =>
      have hlt : (i : Int) < n := by omega
      obtain ⟨b, off, rfl, hbl, hc⟩ := HS.out.spot (by have := HN.out; omega)
      have hzc := hc i (by have := HN.out; omega)
      have hzb := HS.out.at i
      have HZ : Hid (w.cell? ⟨b, off + i, none⟩ = some (.int .u8 (zs.getD i 0))) := hzc
      clear hc hzc
      generalize zs.getD i 0 = z at *
      go_wp2
      go_loopg [5, 6] m (fun q s5 s6 wx => ∃ k : Nat, k + q = m ∧ s5 = .bool (decide (z ∈ us.take k)) ∧ s6 = .int .i64 k ∧ Hid (∃ j, wx = wo.drewN j))
      case atStart => exact ⟨0, by omega, by simp, rfl, 0, rfl⟩
      case round =>
        obtain ⟨k, hkq, rfl, rfl, HD⟩ := hrel
        have HB : Hid (Below wo.heap.size wo wr) := by obtain ⟨j, hj⟩ := HD.out; rw [hj]; exact below_drewN _ _
        have hBq : Below w.heap.size w wr := hB.trans (HB.out.mono hB.size)
        have kz := (hBq.cell (p := ⟨b, off + i, none⟩) hbl).trans HZ.out
        cases gk with
        | zero =>
          have hkm : ¬ ((k : Int) < m) := by omega
          have he : decide (z ∈ us.take k) = decide (z ∈ us) := by rw [List.take_of_length_le (by have := HM.out; omega)]
          rw [he]
          have HO2 : Hid (wr.ownsRow w.heap.size 3 1 (.slice sp2 m cap2) m (us.map (Value.int .i64))) := owns_below HO.out HB.out
          clear he HB
          by_cases hz : z ∈ us
          · have hz' : decide (z ∈ us) = true := decide_eq_true hz
            rw [hz']
            have HU2 : Hid (Unl us (i + 1)) := HU.out.has hz
            clear hz hz'
            go_wp2
            go_roundg g
            case measure => omega
            case rel => exact ⟨i + 1, us, by omega, by go_num, by rw [HM.out]; exact HO2, HU2, hBq⟩
          · have hz' : decide (z ∈ us) = false := decide_eq_false hz
            rw [hz']
            have HU2 : Hid (Unl (us ++ [z]) (i + 1)) := HU.out.add hz hzb.1 hzb.2
            clear hz hz'
            go_wp2_with (first
              | (at_builtin; refine wpList_append_own _ rfl _ _ 23 rfl w.heap.size 3 i0 (.int .i64 0) 1 8 Try.underlying23 hi hz0 hz1 hz2 rfl (by decide) _ _ _ rfl (HO2.out.alloc _) ⟨wr.heap.size, 0, none⟩ 1 1 [.int .i64 z] rfl rfl (cell1 wr _ _) (by simp [Value.oneCell']) (by simp only [maxLen]; omega) (by omega) (by have := hBq.size; rw [alloc_size]; omega) ?_; intro v' w1 hown' hgrow _; have HG : Hid ((wr.alloc (.cells #[.int .i64 z] 3)).grownBy w1 (Value.slice sp2 m cap2).ownBlock) := hgrow; have HO3 : Hid (w1.ownsRow w.heap.size 3 1 v' (m + 1) (us.map (Value.int .i64) ++ [.int .i64 z])) := hown'; clear hown' hgrow))
            go_roundg g
            case measure => omega
            case rel =>
              refine ⟨i + 1, us ++ [z], by omega, by go_num, ?_, HU2, ?_⟩
              · have := HO3.out
                show World.ownsRow _ _ _ _ _ _ _
                rw [List.length_append, HM.out, List.map_append]; exact this
              · exact hBq.trans (((alloc_below wr _).mono hBq.size).trans ((Buts.grown HG.out).below (fun x hx => (HO2.out.lt x (by simpa using hx)).1) (by have := hBq.size; rw [alloc_size]; omega)))
        | succ q =>
          have hkm : (k : Int) < m := by omega
          have HT : Hid (z ∈ us.take (k + 1) ↔ z ∈ us.take k ∨ us.getD k 0 = z) := take_mem (by have := HM.out; omega)
          obtain ⟨b2, off2, rfl, hc2⟩ := HS2.out (by have := HM.out; omega)
          have ku := (HB.out.cell (p := ⟨b2, off2 + k, none⟩) (cell_lt (hc2 k (by have := HM.out; omega)))).trans (hc2 k (by have := HM.out; omega))
          clear hc2
          generalize us.getD k 0 = u at *
          by_cases hz : z ∈ us.take k
          · have hz' : decide (z ∈ us.take k) = true := decide_eq_true hz
            rw [hz']
            have hz2' : Hid (decide (z ∈ us.take (k + 1)) = true) := decide_eq_true (HT.out.2 (Or.inl hz))
            clear hz hz'
            go_wp2
            go_quiet ((fail))
            go_wp2
            go_roundg q
            case measure => omega
            case rel => exact ⟨k + 1, by omega, by rw [hz2'.out], by go_num, by obtain ⟨j, hj⟩ := HD.out; exact ⟨_, by rw [hj, World.drewN_drewN]⟩⟩
          · have hz' : decide (z ∈ us.take k) = false := decide_eq_false hz
            rw [hz']
            by_cases hu : u = z
            · subst hu
              have hz2' : Hid (decide (u ∈ us.take (k + 1)) = true) := decide_eq_true (HT.out.2 (Or.inr rfl))
              clear hz hz'
              go_wp2
              go_quiet ((fail))
              go_wp2
              go_roundg q
              case measure => omega
              case rel => exact ⟨k + 1, by omega, by rw [hz2'.out], by go_num, by obtain ⟨j, hj⟩ := HD.out; exact ⟨_, by rw [hj, World.drewN_drewN]⟩⟩
            · have hz2' : Hid (decide (z ∈ us.take (k + 1)) = false) := decide_eq_false (fun h => by rcases HT.out.1 h with h | h; exact hz h; exact hu h)
              have hu' : (u == z) = false := by simpa using hu
              clear hz hz' hu
              go_wp2
              go_quiet ((fail))
              go_wp2
              go_roundg q
              case measure => omega
              case rel => exact ⟨k + 1, by omega, by rw [hz2'.out], by go_num, by obtain ⟨j, hj⟩ := HD.out; exact ⟨_, by rw [hj, World.drewN_drewN]⟩⟩
theorem take_snoc {us : List Int} {i : Nat} (hi : i < us.length) : us.take (i + 1) = us.take i ++ [us.getD i 0] := by
  rw [List.take_add_one]; simp [hi]
theorem not_before {us : List Int} {i : Nat} (h : us.Nodup) (hi : i < us.length) : us.getD i 0 ∉ us.take i := by
  intro hm
  obtain ⟨j, hj, e⟩ := List.getElem_of_mem hm
  have hj' : j < i := by simp at hj; omega
  have : us.getD j 0 = us.getD i 0 := by
    rw [← e]; simp [show j < us.length by omega]
  have := nodup_at h (by omega) hi this
  omega
theorem add_next {us : List Int} {i n : Nat} (h : Good us) (hi : i < us.length) (hn : i < n) : addE (us.take i) n (us.getD i 0) = 0 ∧ putL (us.take i) n (us.getD i 0) = us.take (i + 1) := by
  have h0 := h.2 _ (getD_mem hi)
  have he : addE (us.take i) n (us.getD i 0) = 0 := addE_ok (by omega) (not_before h.1 hi) (by simp; omega)
  exact ⟨he, by unfold putL; rw [if_pos he, take_snoc hi]⟩
set_option maxHeartbeats 2000000 in
theorem filled_any {w : World} {sp : Option Addr} {us : List Int} {m : Nat} (hs : Src w sp us) (hm : us.length = m) (hg : Good us) (more : Nat) (h1 : 1 ≤ m + more) (h2 : m + more ≤ 1024) (cap : Nat) :
    Calls Try.prog 16 #[.slice sp m cap, .int .i64 more] w fun e w' => ∃ p, e = .returned (.pointer (some ⟨p, 0, none⟩)) ∧ ∃ g, Ring w' p g (m + more) us ∧ w.heap.size ≤ p ∧ w.heap.size ≤ g ∧ Below w.heap.size w w' := by
  have HS : Hid (Src w sp us) := hs
  have HM : Hid (us.length = m) := hm
  have HG : Hid (Good us) := hg
  obtain ⟨N, hN⟩ : ∃ N, m + more = N := ⟨_, rfl⟩
  have HN : Hid ((m : Int) + (more : Int) = (N : Int)) := by show _ = _; omega
  have hNI : IntKind.i64.wrap ((m : Int) + (more : Int)) = (N : Int) := by rw [HN.out, IntKind.wrap_i64]; omega
  have hC := new_yes (w := w) N (by omega) (by omega)
  have hmN : m ≤ N := by omega
  rw [hN] at h1 h2 ⊢
  clear hs hm hg hN
  go_enter Try.func16, Try.ntmps16
  go_wp2_with (first | (go_at_call 18; refine hC.mono ?_; rintro e w1 ⟨rfl, hr, hB⟩; have H1 : Hid (Ring w1 (w.heap.size + 1) w.heap.size N (us.take 0)) := hr; clear hr))
  go_loopg [7] m (fun q s7 wx => ∃ i : Nat, i + q = m ∧ s7 = .int .i64 i ∧ Hid (Ring wx (w.heap.size + 1) w.heap.size N (us.take i)) ∧ Below w.heap.size w wx)
  case atStart => exact ⟨0, by omega, rfl, H1, hB⟩
  case round =>
    clear H1 hB
    obtain ⟨i, hiq, rfl, HR, hB⟩ := hrel
    cases gk with
    | zero =>
      obtain rfl : i = m := by omega
      have hlt : ¬ ((i : Int) < i) := by omega
      go_wp2
      go_ret
      refine ⟨w.heap.size + 1, rfl, w.heap.size, ?_, by omega, by omega, hB⟩
      have := HR.out
      rwa [List.take_of_length_le (by have := HM.out; omega)] at this
    | succ q =>
      have hlt : (i : Int) < m := by omega
      obtain ⟨b, off, rfl, hc⟩ := HS.out (by have := HM.out; omega)
      have kz := (hB.cell (p := ⟨b, off + i, none⟩) (cell_lt (hc i (by have := HM.out; omega)))).trans (hc i (by have := HM.out; omega))
      obtain ⟨ha, hp⟩ := add_next (n := N) HG.out (i := i) (by have := HM.out; omega) (by omega)
      have HC : Hid (∀ w', Ring w' (w.heap.size + 1) w.heap.size N (us.take i) → Calls Try.prog 9 #[.pointer (some ⟨w.heap.size + 1, 0, none⟩), .int .i64 (us.getD i 0)] w' fun r w'' => r = .returned (.int .i64 0) ∧ Ring w'' (w.heap.size + 1) w.heap.size N (us.take (i + 1)) ∧ Buts [w.heap.size + 1, w.heap.size] w' w'') := fun w' h' => put_is h' _ ha hp
      clear hc ha hp
      generalize us.getD i 0 = z at *
      go_wp2_with (first | (go_at_call 9; refine (HC.out _ HR.out).mono ?_; rintro e w2 ⟨rfl, hr, hb⟩; have H2 : Hid (Ring w2 (w.heap.size + 1) w.heap.size N (us.take (i + 1))) := hr; replace hB := hB.trans (two_below hb (by omega) (by omega) hB.size); clear hr hb))
      go_roundg q
      case measure => omega
      case rel => exact ⟨i + 1, by omega, by go_num, H2, hB⟩
end Go.Proofs.Ytppookpacdheaaa
