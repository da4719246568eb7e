/- 'InstrsNumbers': numbers by their digits, and the walk. -/
import Derived.Test.YtdneldjnkkpmoaaDoorKeep
namespace Go.Proofs.YtdneldjnkkpmoaaDoor
open Go Go.RowKit
set_option maxRecDepth 100000
set_option linter.unusedVariables false
set_option linter.unusedSimpArgs false
theorem dec_dig (n : Nat) (h : n ≤ 4294967295) : dec (Lib.decDigits n) = some (n : Int) := by
  rw [← Lib.itoa_nonneg]; exact dec_itoa _ (by omega) (by omega)
theorem dec_minus (n : Nat) (h1 : 1 ≤ n) (h : n ≤ 4294967295) : dec (45 :: Lib.decDigits n) = some (-(n : Int)) := by
  rw [← Lib.itoa_neg n h1]; exact dec_itoa _ (by omega) (by omega)
theorem dec_zero : dec (45 :: Lib.decDigits 0) = none := by
  rw [decDigits_small 0 (by decide)]; decide +kernel
theorem rd_plain (k : Nat) (hk : k ≠ 1) (x : List UInt8) (v : Int) (hd : dec x = some v) : rd k x = if kLeast k ≤ v ∧ v ≤ kMost k then some v else none := by
  have h := rd_eq k x
  rw [mark_one, if_neg hk, List.nil_append, hd] at h
  exact h
theorem rd_none (k : Nat) (hk : k ≠ 1) (x : List UInt8) (hd : dec x = none) : rd k x = none := by
  have h := rd_eq k x
  rw [mark_one, if_neg hk, List.nil_append, hd] at h
  exact h
theorem prs_of (w : List UInt8) (ts : List ByteArray) (o : Nat) (ks : List Nat) (ho : opOf w = some o) (hk : ksOf o = ks) (hl : ks.length = ts.length) : prs (mk w :: ts) = (rdAll ks ts []).map fun l => (o, pad l) := by
  rw [prs, mk_data, ho]
  simp only
  rw [hk, if_pos hl]
theorem no_blank_dig (n : Nat) : (32 : UInt8) ∉ Lib.decDigits n := fun h => absurd (decDigits_mem n 32 h).1 (by decide)
theorem mk_append (a b : List UInt8) : mk a ++ mk b = mk (a ++ b) := by rw [← data_mk (mk a ++ mk b), ba_append]; rfl
theorem cutA (D : List UInt8) (hD : (32 : UInt8) ∉ D) : prs (splitP ((⟨#[115, 101, 116, 32, 114, 51, 32]⟩ : ByteArray) ++ mk D)) = (rd 4 D).map fun v => (1, pad ([] ++ [3] ++ kBytes 4 v)) := by
  have e : (⟨#[115, 101, 116, 32, 114, 51, 32]⟩ : ByteArray) ++ mk D = mk (jn [[115, 101, 116], [114, 51], D]) := by
    show mk [115, 101, 116, 32, 114, 51, 32] ++ mk D = _
    rw [mk_append]
    congr 1
    simp [jn_two, jn_one]
  have h45 : (32 : UInt8) ∉ (45 :: D) := fun h => by
    rcases List.mem_cons.1 h with h | h
    · exact absurd h (by decide)
    · exact hD h
  rw [e, splitP_jn _ (by simp) (by
    intro w hw
    simp only [List.mem_cons, List.not_mem_nil, or_false] at hw
    rcases hw with rfl | rfl | rfl
    · decide
    · decide
    · exact hD) (by simp)]
  show prs (mk [115, 101, 116] :: [mk [114, 51], mk D]) = _
  rw [prs_of [115, 101, 116] _ 1 [1, 4] (by decide +kernel) (by decide +kernel) rfl]
  have r3 : rd 1 [114, 51] = some 3 := by decide +kernel
  simp only [rdAll, mk_data, r3]
  have kb1 : kBytes 1 1 = [1] := by decide
  have kb2 : kBytes 1 2 = [2] := by decide
  have kb3 : kBytes 1 3 = [3] := by decide
  cases rd 4 D <;> simp [kb1, kb2, kb3]
theorem cutB (D : List UInt8) (hD : (32 : UInt8) ∉ D) : prs (splitP ((⟨#[103, 111, 32]⟩ : ByteArray) ++ mk D)) = (rd 4 D).map fun v => (19, pad ([] ++ kBytes 4 v)) := by
  have e : (⟨#[103, 111, 32]⟩ : ByteArray) ++ mk D = mk (jn [[103, 111], D]) := by
    show mk [103, 111, 32] ++ mk D = _
    rw [mk_append]
    congr 1
    simp [jn_two, jn_one]
  have h45 : (32 : UInt8) ∉ (45 :: D) := fun h => by
    rcases List.mem_cons.1 h with h | h
    · exact absurd h (by decide)
    · exact hD h
  rw [e, splitP_jn _ (by simp) (by
    intro w hw
    simp only [List.mem_cons, List.not_mem_nil, or_false] at hw
    rcases hw with rfl | rfl
    · decide
    · exact hD) (by simp)]
  show prs (mk [103, 111] :: [mk D]) = _
  rw [prs_of [103, 111] _ 19 [4] (by decide +kernel) (by decide +kernel) rfl]
  simp only [rdAll, mk_data]
  have kb1 : kBytes 1 1 = [1] := by decide
  have kb2 : kBytes 1 2 = [2] := by decide
  have kb3 : kBytes 1 3 = [3] := by decide
  cases rd 4 D <;> simp [kb1, kb2, kb3]
theorem cutC (D : List UInt8) (hD : (32 : UInt8) ∉ D) : prs (splitP ((⟨#[112, 117, 116, 32, 114, 49, 32, 114, 50, 32]⟩ : ByteArray) ++ mk D)) = (rd 2 D).map fun v => (14, pad ([] ++ [1] ++ [2] ++ kBytes 2 v)) := by
  have e : (⟨#[112, 117, 116, 32, 114, 49, 32, 114, 50, 32]⟩ : ByteArray) ++ mk D = mk (jn [[112, 117, 116], [114, 49], [114, 50], D]) := by
    show mk [112, 117, 116, 32, 114, 49, 32, 114, 50, 32] ++ mk D = _
    rw [mk_append]
    congr 1
    simp [jn_two, jn_one]
  have h45 : (32 : UInt8) ∉ (45 :: D) := fun h => by
    rcases List.mem_cons.1 h with h | h
    · exact absurd h (by decide)
    · exact hD h
  rw [e, splitP_jn _ (by simp) (by
    intro w hw
    simp only [List.mem_cons, List.not_mem_nil, or_false] at hw
    rcases hw with rfl | rfl | rfl | rfl
    · decide
    · decide
    · decide
    · exact hD) (by simp)]
  show prs (mk [112, 117, 116] :: [mk [114, 49], mk [114, 50], mk D]) = _
  rw [prs_of [112, 117, 116] _ 14 [1, 1, 2] (by decide +kernel) (by decide +kernel) rfl]
  have r1 : rd 1 [114, 49] = some 1 := by decide +kernel
  have r2 : rd 1 [114, 50] = some 2 := by decide +kernel
  simp only [rdAll, mk_data, r1, r2]
  have kb1 : kBytes 1 1 = [1] := by decide
  have kb2 : kBytes 1 2 = [2] := by decide
  have kb3 : kBytes 1 3 = [3] := by decide
  cases rd 2 D <;> simp [kb1, kb2, kb3]
theorem cutD (D : List UInt8) (hD : (32 : UInt8) ∉ D) : prs (splitP ((⟨#[108, 101, 115, 115, 32, 114, 49, 32, 114, 50, 32]⟩ : ByteArray) ++ mk D)) = (rd 3 D).map fun v => (17, pad ([] ++ [1] ++ [2] ++ kBytes 3 v)) := by
  have e : (⟨#[108, 101, 115, 115, 32, 114, 49, 32, 114, 50, 32]⟩ : ByteArray) ++ mk D = mk (jn [[108, 101, 115, 115], [114, 49], [114, 50], D]) := by
    show mk [108, 101, 115, 115, 32, 114, 49, 32, 114, 50, 32] ++ mk D = _
    rw [mk_append]
    congr 1
    simp [jn_two, jn_one]
  have h45 : (32 : UInt8) ∉ (45 :: D) := fun h => by
    rcases List.mem_cons.1 h with h | h
    · exact absurd h (by decide)
    · exact hD h
  rw [e, splitP_jn _ (by simp) (by
    intro w hw
    simp only [List.mem_cons, List.not_mem_nil, or_false] at hw
    rcases hw with rfl | rfl | rfl | rfl
    · decide
    · decide
    · decide
    · exact hD) (by simp)]
  show prs (mk [108, 101, 115, 115] :: [mk [114, 49], mk [114, 50], mk D]) = _
  rw [prs_of [108, 101, 115, 115] _ 17 [1, 1, 3] (by decide +kernel) (by decide +kernel) rfl]
  have r1 : rd 1 [114, 49] = some 1 := by decide +kernel
  have r2 : rd 1 [114, 50] = some 2 := by decide +kernel
  simp only [rdAll, mk_data, r1, r2]
  have kb1 : kBytes 1 1 = [1] := by decide
  have kb2 : kBytes 1 2 = [2] := by decide
  have kb3 : kBytes 1 3 = [3] := by decide
  cases rd 3 D <;> simp [kb1, kb2, kb3]
theorem cutF (D : List UInt8) (hD : (32 : UInt8) ∉ D) : prs (splitP ((⟨#[108, 101, 115, 115, 32, 114, 49, 32, 114, 50, 32, 45]⟩ : ByteArray) ++ mk D)) = (rd 3 (45 :: D)).map fun v => (17, pad ([] ++ [1] ++ [2] ++ kBytes 3 v)) := by
  have e : (⟨#[108, 101, 115, 115, 32, 114, 49, 32, 114, 50, 32, 45]⟩ : ByteArray) ++ mk D = mk (jn [[108, 101, 115, 115], [114, 49], [114, 50], (45 :: D)]) := by
    show mk [108, 101, 115, 115, 32, 114, 49, 32, 114, 50, 32, 45] ++ mk D = _
    rw [mk_append]
    congr 1
    simp [jn_two, jn_one]
  have h45 : (32 : UInt8) ∉ (45 :: D) := fun h => by
    rcases List.mem_cons.1 h with h | h
    · exact absurd h (by decide)
    · exact hD h
  rw [e, splitP_jn _ (by simp) (by
    intro w hw
    simp only [List.mem_cons, List.not_mem_nil, or_false] at hw
    rcases hw with rfl | rfl | rfl | rfl
    · decide
    · decide
    · decide
    · exact h45) (by simp)]
  show prs (mk [108, 101, 115, 115] :: [mk [114, 49], mk [114, 50], mk (45 :: D)]) = _
  rw [prs_of [108, 101, 115, 115] _ 17 [1, 1, 3] (by decide +kernel) (by decide +kernel) rfl]
  have r1 : rd 1 [114, 49] = some 1 := by decide +kernel
  have r2 : rd 1 [114, 50] = some 2 := by decide +kernel
  simp only [rdAll, mk_data, r1, r2]
  have kb1 : kBytes 1 1 = [1] := by decide
  have kb2 : kBytes 1 2 = [2] := by decide
  have kb3 : kBytes 1 3 = [3] := by decide
  cases rd 3 (45 :: D) <;> simp [kb1, kb2, kb3]
/-- what is answered for a number that may be so far -/
theorem res4 (n : Nat) (h : n ≤ 4294967295) : rd 4 (Lib.decDigits n) = if n ≤ 65535 then some (n : Int) else none := by
  rw [rd_plain 4 (by decide) _ _ (dec_dig n h), show kLeast 4 = 0 from rfl, show kMost 4 = 65535 from rfl]
  by_cases hn : n ≤ 65535
  · rw [if_pos ⟨by omega, by omega⟩, if_pos hn]
  · rw [if_neg (by omega), if_neg hn]
theorem res2 (n : Nat) (h : n ≤ 4294967295) : rd 2 (Lib.decDigits n) = if n ≤ 255 then some (n : Int) else none := by
  rw [rd_plain 2 (by decide) _ _ (dec_dig n h), show kLeast 2 = 0 from rfl, show kMost 2 = 255 from rfl]
  by_cases hn : n ≤ 255
  · rw [if_pos ⟨by omega, by omega⟩, if_pos hn]
  · rw [if_neg (by omega), if_neg hn]
theorem res3 (n : Nat) (h : n ≤ 4294967295) : rd 3 (Lib.decDigits n) = if n ≤ 127 then some (n : Int) else none := by
  rw [rd_plain 3 (by decide) _ _ (dec_dig n h), show kLeast 3 = -128 from rfl, show kMost 3 = 127 from rfl]
  by_cases hn : n ≤ 127
  · rw [if_pos ⟨by omega, by omega⟩, if_pos hn]
  · rw [if_neg (by omega), if_neg hn]
theorem resm (n : Nat) (h : n ≤ 4294967295) : rd 3 (45 :: Lib.decDigits n) = if 1 ≤ n ∧ n ≤ 128 then some (-(n : Int)) else none := by
  by_cases h1 : 1 ≤ n
  · rw [rd_plain 3 (by decide) _ _ (dec_minus n h1 h), show kLeast 3 = -128 from rfl, show kMost 3 = 127 from rfl]
    by_cases hn : n ≤ 128
    · rw [if_pos ⟨by omega, by omega⟩, if_pos ⟨h1, hn⟩]
    · rw [if_neg (by omega), if_neg (by omega)]
  · obtain rfl : n = 0 := by omega
    rw [rd_none 3 (by decide) _ dec_zero, if_neg (by omega)]
theorem slice_dig (k : Nat) (hk : k < 10) (W : World) : (Instr.slice 9 (.string ⟨#[48, 49, 50, 51, 52, 53, 54, 55, 56, 57]⟩) (some (.int .u32 k)) (some (.int .u32 ((k : Int) + 1))) none).run Tryd.prog W = .ok (.string (mk [UInt8.ofNat (48 + k)])) W := by
  have h : k = 0 ∨ k = 1 ∨ k = 2 ∨ k = 3 ∨ k = 4 ∨ k = 5 ∨ k = 6 ∨ k = 7 ∨ k = 8 ∨ k = 9 := by omega
  clear hk
  rcases h with rfl | rfl | rfl | rfl | rfl | rfl | rfl | rfl | rfl | rfl <;> rfl
theorem add_str (x y : ByteArray) (h : x.size + y.size ≤ 1000) (W : World) : (Op.stringOp .add x y).run Tryd.prog W = .ok (.string (x ++ y)) W :=
  run_string_add_sum W _ _ (by omega)
end Go.Proofs.YtdneldjnkkpmoaaDoor

