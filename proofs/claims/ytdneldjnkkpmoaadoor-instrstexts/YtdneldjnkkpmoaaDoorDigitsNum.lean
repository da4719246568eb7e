/- The document's own digits and numbers. -/
import Derived.Test.YtdneldjnkkpmoaaDoorTextsPure
import Derived.Test.YtdneldjnkkpmoaaDoorKeep
import Derived.Test.YtdneldjnkkpmoaaDoorRef
import Derived.Laws.Strings2
import Derived.Deep.QuietTactic
import Derived.BigQuiet
import Derived.Deep.CutRange
namespace Go.Proofs.YtdneldjnkkpmoaaDoor
open Go Go.RowKit
set_option maxRecDepth 100000
set_option linter.unusedVariables false
def tens : ByteArray := ⟨#[48, 49, 50, 51, 52, 53, 54, 55, 56, 57]⟩
theorem ten_at (k : Nat) (h : k < 10) : tens.extract k (k + 1) = mk [UInt8.ofNat (48 + k)] := by
  have : ∀ k : Fin 10, (tens.extract k.val (k.val + 1)).data.toList = [UInt8.ofNat (48 + k.val)] := by decide +kernel
  rw [← data_mk (tens.extract k (k + 1)), this ⟨k, h⟩]
theorem ba_mk (a b : List UInt8) : mk a ++ mk b = mk (a ++ b) := by rw [← data_mk (mk a ++ mk b), ba_append, mk_data, mk_data]
theorem sl_ten (n : Nat) (h : n < 10) (W : World) : (Instr.slice 9 (.string ⟨#[48, 49, 50, 51, 52, 53, 54, 55, 56, 57]⟩) (some (.int .i64 n)) (some (.int .i64 ((n : Int) + 1))) none).run Tryd.prog W = .ok (.string (mk [UInt8.ofNat (48 + n)])) W := by
  have := run_slice_string (P := Tryd.prog) (w := W) 9 tens .i64 .i64 n ((n : Int) + 1) Tryd.underlying9 (by omega) (by omega) (by have : tens.size = 10 := rfl; omega)
  rw [Int.toNat_natCast, show ((n : Int) + 1).toNat = n + 1 by omega, ten_at n h] at this
  exact this
set_option maxHeartbeats 1000000 in
theorem digits_any (n : Nat) (hn : n ≤ 100000) : ∀ w : World, Calls Tryd.prog 25 #[.int .i64 n] w fun e w' => e = .returned (.string (mk (Lib.decDigits n))) ∧ Below w.heap.size w w' := by
  induction n using Nat.strongRecOn with
  | _ n ih =>
    intro w
    by_cases h : n < 10
    · have hsl := sl_ten n h
      have hx : Hid (Lib.decDigits n = [UInt8.ofNat (48 + n)]) := decDigits_small n h
      rw [hx.out]
      clear hx ih
      generalize mk [UInt8.ofNat (48 + n)] = es at *
      go_enter Tryd.func25, Tryd.ntmps25
      go_wp2
      go_ret
      exact ⟨rfl, Below.refl _ _⟩
    · have hsl := sl_ten (n % 10) (by omega)
      have hd : (n : Int) / 10 = ((n / 10 : Nat) : Int) := by omega
      have hm : (n : Int) % 10 = ((n % 10 : Nat) : Int) := by omega
      have hI := ih (n / 10) (by omega) (by omega)
      have hx : Hid (mk (Lib.decDigits (n / 10)) ++ mk [UInt8.ofNat (48 + n % 10)] = mk (Lib.decDigits n)) := by show _ = _; rw [decDigits_big n h, ba_mk]
      have hz : (mk (Lib.decDigits (n / 10))).size ≤ 100 := by
        rw [mk_size]
        by_cases h5 : n / 10 < 100000
        · have := decDigits_len (n / 10) h5; omega
        · omega
      have hz1 : (mk [UInt8.ofNat (48 + n % 10)]).size = 1 := rfl
      generalize hdd : mk (Lib.decDigits (n / 10)) = ds at *
      generalize hee : mk [UInt8.ofNat (48 + n % 10)] = es at *
      obtain ⟨q, hq⟩ : ∃ q, n / 10 = q := ⟨_, rfl⟩
      obtain ⟨r, hr⟩ : ∃ r, n % 10 = r := ⟨_, rfl⟩
      rw [hq] at hI hd
      rw [hr] at hsl hm
      clear hq hr hdd hee ih
      go_enter Tryd.func25, Tryd.ntmps25
      go_wp2
      refine wp_region_calm (by kernel_rfl) (by kernel_rfl) ?_
      repeat (go_big_quiet_step (first | (go_at_call 25; exact calm_call (hI _))))
      refine wpQuiet_nil ?_
      intro w3 hb3
      go_wp2
      go_ret
      exact ⟨by show Ending.returned (.string (ds ++ es)) = _; rw [hx.out], hb3⟩
theorem byte_at (s : ByteArray) (k : Nat) (h : k < s.size) : s.data.toList[k]? = some s[k] := by
  rw [Array.getElem?_toList]; exact Array.getElem?_eq_getElem h
theorem take_next (s : ByteArray) (k : Nat) (h : k < s.size) : s.data.toList.take (k + 1) = s.data.toList.take k ++ [s[k]] := by
  rw [List.take_add_one, byte_at s k h]; rfl
theorem ret_i {a b : Int} (h : a = b) : Ending.returned (.int .i64 a) = .returned (.int .i64 b) := by rw [h]
set_option maxHeartbeats 2000000 in
theorem number_any (s : ByteArray) (hs : s.size ≤ 1048576) (most : Int) (hm : 0 ≤ most ∧ most ≤ 65535) (w : World) :
    Calls Tryd.prog 40 #[.string s, .int .i64 most] w fun e w' => e = .returned (.int .i64 (numb s.data.toList most)) ∧ w' = w := by
  have hsd := size_data s
  by_cases h0 : s.size = 0
  · have e : s.data.toList = [] := List.eq_nil_of_length_eq_zero (by omega)
    have hn : Hid (numb s.data.toList most = -1) := by show _ = _; unfold numb; rw [if_pos (Or.inl e)]
    rw [hn.out]
    have he : s = ⟨#[]⟩ := by rw [← data_mk s, e]; rfl
    subst he
    clear e hsd hn
    go_enter Tryd.func40, Tryd.ntmps40
    go_wp2
    go_ret
    exact ⟨rfl, rfl⟩
  · have hq : (s.toList == ([] : List UInt8)) = false := by
      rw [beq_eq_false_iff_ne, Lib.toList_data]
      intro e
      rw [e] at hsd
      exact h0 hsd
    by_cases h10 : 10 < s.size
    · have hn : Hid (numb s.data.toList most = -1) := by show _ = _; unfold numb; rw [if_pos (Or.inr (Or.inl (by omega)))]
      rw [hn.out]
      clear hsd hn
      go_enter Tryd.func40, Tryd.ntmps40
      go_wp2
      go_ret
      exact ⟨rfl, rfl⟩
    · have hpos : 0 < s.size := by omega
      obtain ⟨z, hz⟩ : ∃ z, s[0]'hpos = z := ⟨_, rfl⟩
      have hhd : s.data.toList.head? = some z := by rw [List.head?_eq_getElem?, byte_at s 0 hpos, hz]
      by_cases h48 : 1 < s.size ∧ z = 48
      · have hn : Hid (numb s.data.toList most = -1) := by show _ = _; unfold numb; rw [if_pos (Or.inr (Or.inr (Or.inl ⟨by omega, by rw [hhd, h48.2]⟩)))]
        rw [hn.out]
        have hz48 : ((s[0]'hpos).toNat : Int) = 48 := by rw [hz, h48.2]; rfl
        have h1s := h48.1
        clear hsd hn hhd hz h48
        go_enter Tryd.func40, Tryd.ntmps40
        go_wp2
        go_ret
        exact ⟨rfl, rfl⟩
      · have hloop : ∀ w : World, Calls Tryd.prog 40 #[.string s, .int .i64 most] w fun e w' => e = .returned (.int .i64 (numb s.data.toList most)) ∧ w' = w := by
          intro w
          have HB : ∀ k, Hid (digs (s.data.toList.take k) → k ≤ s.size → nb (s.data.toList.take k) < 10000000000) := by
            intro k hd hk
            have h1 := nb_bound _ hd
            have h2 : (s.data.toList.take k).length ≤ 10 := by rw [List.length_take]; omega
            have h3 := Nat.pow_le_pow_right (show 0 < 10 by omega) h2
            omega
          have HD : Hid (¬ digs s.data.toList → numb s.data.toList most = -1) := fun h => by unfold numb; rw [if_pos (Or.inr (Or.inr (Or.inr (Or.inl h))))]
          have HE : Hid (digs s.data.toList → numb s.data.toList most = if most < nb s.data.toList then -1 else (nb s.data.toList : Int)) := fun h => by
            unfold numb
            by_cases hmo : most < nb s.data.toList
            · rw [if_pos hmo, if_pos (Or.inr (Or.inr (Or.inr (Or.inr hmo))))]
            · rw [if_neg hmo, if_neg]
              intro hh
              rcases hh with hh | hh | hh | hh | hh
              · rw [hh] at hsd; exact h0 hsd
              · omega
              · rw [hhd] at hh
                exact h48 ⟨by omega, Option.some.inj hh.2⟩
              · exact hh h
              · exact hmo hh
          have hcase : (s.size = 1) ∨ (1 < s.size ∧ (((s[0]'hpos).toNat : Int) == 48) = false) := by
            by_cases h1 : 1 < s.size
            · right
              refine ⟨h1, ?_⟩
              rw [beq_eq_false_iff_ne, hz]
              intro e
              exact h48 ⟨h1, UInt8.toNat_inj.1 (by have h : z.toNat = 48 := (by omega); rw [h]; rfl)⟩
            · left; omega
          clear hsd hhd h48 hz
          rcases hcase with h1 | ⟨h1, hz2⟩
          all_goals
            go_enter Tryd.func40, Tryd.ntmps40
            go_wp2
            go_loop [5, 6] (fun n i => ∃ k : Nat, k ≤ s.size ∧ i = .int .i64 k ∧ n = .int .i64 (nb (s.data.toList.take k) : Nat) ∧ Hid (digs (s.data.toList.take k))) (fun _ i => s.size - (intOf i).toNat)
            case atStart => exact ⟨0, Nat.zero_le _, rfl, rfl, by intro c hc; simp at hc⟩
            case round =>
              obtain ⟨k, hk, rfl, rfl, HG⟩ := hrel
              have hb := (HB k).out HG.out hk
              by_cases hlt : k < s.size
              · have HT : Hid (nb (s.data.toList.take (k + 1)) = 10 * nb (s.data.toList.take k) + (s[k].toNat - 48)) := by show _ = _; rw [take_next s k hlt, nb_snoc]
                have HG2 : Hid (48 ≤ s[k].toNat ∧ s[k].toNat ≤ 57 → digs (s.data.toList.take (k + 1))) := by
                  intro hc
                  rw [take_next s k hlt]
                  intro c hm
                  rcases List.mem_append.1 hm with hm | hm
                  · exact HG.out c hm
                  · rw [List.mem_singleton.1 hm]; exact hc
                have HX : Hid (¬ (48 ≤ s[k].toNat ∧ s[k].toNat ≤ 57) → numb s.data.toList most = -1) := by
                  intro hc
                  exact HD.out (fun h => hc (h _ (List.mem_of_getElem? (byte_at s k hlt))))
                have hbyte : s[k].toNat ≤ 255 := by have := UInt8.toNat_lt s[k]; omega
                generalize nb (s.data.toList.take k) = m at *
                by_cases hd : 48 ≤ s[k].toNat
                · by_cases hd2 : s[k].toNat ≤ 57
                  · have hi1 : (48 : Int) ≤ s[k].toNat := by omega
                    have hi2 : (s[k].toNat : Int) ≤ 57 := by omega
                    go_wp2
                    go_round
                    case rel => exact ⟨k + 1, by omega, by go_num, by rw [HT.out]; go_num, HG2.out ⟨hd, hd2⟩⟩
                    case measure => simp [intOf]; omega
                  · have HN : Hid (numb s.data.toList most = -1) := HX.out (fun h => hd2 h.2)
                    have hi1 : (48 : Int) ≤ s[k].toNat := by omega
                    have hi2 : ¬ (s[k].toNat : Int) ≤ 57 := by omega
                    go_wp2
                    try rw [Exit.noGoto_ret]
                    go_ret
                    exact ⟨ret_i (by rw [HN.out]), rfl⟩
                · have HN : Hid (numb s.data.toList most = -1) := HX.out (fun h => hd h.1)
                  have hi1 : ¬ (48 : Int) ≤ s[k].toNat := by omega
                  go_wp2
                  try rw [Exit.noGoto_ret]
                  go_ret
                  exact ⟨ret_i (by rw [HN.out]), rfl⟩
              · obtain rfl : k = s.size := by omega
                have HA : Hid (s.data.toList.take s.size = s.data.toList) := by show _ = _; rw [size_data s, List.take_length]
                rw [HA.out] at hb HG
                have HN := HE.out HG.out
                by_cases hmo : most < nb s.data.toList
                · rw [if_pos hmo] at HN
                  have HN' : Hid _ := HN
                  clear HN
                  rw [HA.out]
                  go_wp2
                  go_ret
                  exact ⟨ret_i (by rw [HN'.out]), rfl⟩
                · rw [if_neg hmo] at HN
                  have HN' : Hid _ := HN
                  clear HN
                  rw [HA.out]
                  go_wp2
                  go_ret
                  exact ⟨ret_i (by rw [HN'.out]), rfl⟩
        exact hloop w
end Go.Proofs.YtdneldjnkkpmoaaDoor
