/- An instruction that may be is read from its text again, and what is read is written as it was: by plain lists. -/
import Derived.Test.YtcjghnnliepjjaaGreatDoorParse
import Derived.Test.YtcjghnnliepjjaaGreatDoorLists
namespace Go.Proofs.YtcjghnnliepjjaaGreatDoor
open Go Go.RowKit
set_option maxRecDepth 100000
set_option linter.unusedSimpArgs false
set_option linter.unusedVariables false
def mk (l : List UInt8) : ByteArray := ⟨l.toArray⟩
theorem mk_data (l : List UInt8) : (mk l).data.toList = l := rfl
theorem data_mk (s : ByteArray) : mk s.data.toList = s := by cases s; simp [mk]
theorem mk_size (l : List UInt8) : (mk l).size = l.length := by simp [mk, ByteArray.size]
theorem ba_append (a b : ByteArray) : (a ++ b).data.toList = a.data.toList ++ b.data.toList := by simp [ByteArray.data_append]
theorem size_data (s : ByteArray) : s.size = s.data.toList.length := by rw [Array.length_toList]; rfl
theorem kText_data (k : Nat) (a b : Int) : (kText k a b).data.toList = (kMark k).data.toList ++ Lib.itoa (kNum k a b) := by
  unfold kText; rw [ba_append]
theorem mark_one (k : Nat) : (kMark k).data.toList = if k = 1 then [114] else [] := by unfold kMark; split <;> rfl
theorem dec_itoa (n : Int) (h0 : -1000000000000000000 ≤ n) (h1 : n ≤ 1000000000000000000) : dec (Lib.itoa n) = some n := by
  unfold dec; rw [atoi_itoa n h0 h1]; simp
theorem dec_some {l : List UInt8} {n : Int} (h : dec l = some n) : l = Lib.itoa n := by
  unfold dec at h
  split at h
  · split at h
    · rename_i e; obtain rfl := Option.some.inj h; exact e.symm
    · cases h
  · cases h
theorem bd_k (k : Nat) : -128 ≤ kLeast k ∧ kMost k ≤ 65535 := by
  unfold kLeast kMost; constructor <;> (repeat' split) <;> omega
theorem rd_eq (k : Nat) (x : List UInt8) : rd k ((kMark k).data.toList ++ x) = match dec x with
    | some v => if kLeast k ≤ v ∧ v ≤ kMost k then some v else none
    | none => none := by
  have hp : Lib.hasPrefix ((kMark k).data.toList ++ x) (kMark k).data.toList = true := by
    unfold Lib.hasPrefix; rw [List.isPrefixOf_iff_prefix]; exact List.prefix_append _ _
  have ht : Lib.trimPrefix ((kMark k).data.toList ++ x) (kMark k).data.toList = x := by
    unfold Lib.trimPrefix; rw [if_pos hp]; simp
  unfold rd
  rw [if_pos hp, ht]
  cases dec x <;> rfl
theorem rd_itoa (k : Nat) (n : Int) (h0 : kLeast k ≤ n) (h1 : n ≤ kMost k) : rd k ((kMark k).data.toList ++ Lib.itoa n) = some n := by
  have hb := bd_k k
  rw [rd_eq, dec_itoa n (by omega) (by omega)]
  simp [h0, h1]
theorem rd_some {k : Nat} {t : List UInt8} {n : Int} (h : rd k t = some n) : t = (kMark k).data.toList ++ Lib.itoa n ∧ kLeast k ≤ n ∧ n ≤ kMost k := by
  by_cases hp : Lib.hasPrefix t (kMark k).data.toList = true
  · obtain ⟨x, rfl⟩ : ∃ x, (kMark k).data.toList ++ x = t := by
      unfold Lib.hasPrefix at hp; rw [List.isPrefixOf_iff_prefix] at hp; exact hp
    rw [rd_eq] at h
    cases hd : dec x with
    | none => rw [hd] at h; cases h
    | some v =>
      rw [hd] at h
      simp only at h
      split at h
      · rename_i hv
        obtain rfl := Option.some.inj h
        exact ⟨by rw [← dec_some hd], hv.1, hv.2⟩
      · cases h
  · unfold rd at h; rw [if_neg hp] at h; cases h
theorem kNum_four (a b : Int) : kNum 4 a b = a * 256 + b := rfl
theorem kNum_one (k : Nat) (h : k ≠ 4) (a b : Int) : kNum k a b = num1 (kMost k) a := by unfold kNum; rw [if_neg h]
theorem bytes_num (k : Nat) (h1 : 1 ≤ k) (h5 : k ≤ 5) (a b : Int) (ha : byte a) (hb : byte b) : kBytes k (kNum k a b) = if k = 4 then [a, b] else [a] := by
  unfold byte at ha hb
  obtain rfl | rfl | rfl | rfl | rfl : k = 1 ∨ k = 2 ∨ k = 3 ∨ k = 4 ∨ k = 5 := by omega
  all_goals simp only [kBytes, kNum, num1, kMost]
  all_goals simp
  all_goals first
    | (constructor <;> omega)
    | (split <;> omega)
theorem num_bytes (k : Nat) (h1 : 1 ≤ k) (h5 : k ≤ 5) (n z : Int) (h0 : kLeast k ≤ n) (hm : n ≤ kMost k) : (if k = 4 then kNum k (n / 256) (n % 256) else kNum k (n % 256) z) = n := by
  obtain rfl | rfl | rfl | rfl | rfl : k = 1 ∨ k = 2 ∨ k = 3 ∨ k = 4 ∨ k = 5 := by omega
  all_goals simp [kNum, num1, kMost, kLeast] at *
  all_goals first
    | omega
    | (split <;> omega)
theorem bytes_byte (k : Nat) (n : Int) (h0 : kLeast k ≤ n) (hm : n ≤ kMost k) : ∀ x ∈ kBytes k n, byte x := by
  have hb := bd_k k
  intro x hx
  unfold kBytes at hx
  split at hx
  · rename_i h4
    subst h4
    have : kLeast 4 = 0 := rfl
    simp at hx
    unfold byte
    rcases hx with rfl | rfl <;> omega
  · simp at hx
    unfold byte
    subst hx
    omega
theorem no_blank_text (k : Nat) (a b : Int) : (32 : UInt8) ∉ (kText k a b).data.toList := by
  rw [kText_data, mark_one]
  intro h
  rcases List.mem_append.1 h with h | h
  · split at h
    · simp at h
    · cases h
  · exact no_blank_itoa _ h
theorem text_short (k : Nat) (a b : Int) (h : kOk k a b = true) : (kText k a b).data.toList.length ≤ 7 := by
  have hb := bd_k k
  unfold kOk at h
  simp only [Bool.and_eq_true, decide_eq_true_iff] at h
  have := itoa_len (kNum k a b) (by omega) (by omega)
  rw [kText_data, mark_one, List.length_append]
  split <;> simp <;> omega
/-- what is written of some bytes is read as these bytes -/
theorem fw : ∀ (ks : List Nat) (bs : List Int) (acc : List ByteArray) (accI : List Int), fit ks bs.length → (∀ b ∈ bs, byte b) → (wrt ks bs acc).1 = true →
    ∃ ts l, (wrt ks bs acc).2 = acc ++ ts ∧ ts.length = ks.length ∧ rdAll ks ts accI = some (accI ++ l) ∧ l ++ List.replicate (bs.length - l.length) 0 = bs ∧ l.length ≤ bs.length ∧ (∀ t ∈ ts, (32 : UInt8) ∉ t.data.toList ∧ t.data.toList.length ≤ 7)
  | [], bs, acc, accI, _, _, h => by
    refine ⟨[], [], by simp [wrt], rfl, by simp [rdAll], ?_, by simp, by simp⟩
    simp only [wrt, Bool.not_eq_true', List.any_eq_false, decide_eq_true_iff, ne_eq, Decidable.not_not] at h
    rw [List.nil_append]
    symm
    rw [List.eq_replicate_iff]
    exact ⟨by simp, h⟩
  | k :: ks, bs, acc, accI, hf, hb, h => by
    obtain ⟨k1, k5, hsz, hf'⟩ := hf
    by_cases hk : kOk k (bs.getD 0 0) (bs.getD 1 0) = true
    · rw [wrt, if_pos hk] at h ⊢
      have hk' := hk
      unfold kOk at hk'
      simp only [Bool.and_eq_true, decide_eq_true_iff] at hk'
      have hrd : rd k (kText k (bs.getD 0 0) (bs.getD 1 0)).data.toList = some (kNum k (bs.getD 0 0) (bs.getD 1 0)) := by
        rw [kText_data]; exact rd_itoa k _ hk'.1 hk'.2
      have hgb : ∀ i, byte (bs.getD i 0) := fun i => by
        rw [List.getD_eq_getElem?_getD]
        cases hi : bs[i]? with
        | none => exact ⟨by decide, by decide⟩
        | some x => exact hb x (List.mem_of_getElem? hi)
      have hby := bytes_num k k1 k5 (bs.getD 0 0) (bs.getD 1 0) (hgb 0) (hgb 1)
      obtain ⟨ts, l, e1, e2, e3, e4, e5, e6⟩ := fw ks (bs.drop (kSz k)) (acc ++ [kText k (bs.getD 0 0) (bs.getD 1 0)]) (accI ++ kBytes k (kNum k (bs.getD 0 0) (bs.getD 1 0))) (by rw [List.length_drop]; exact hf') (fun b hb' => hb b (List.mem_of_mem_drop hb')) h
      have hcut : kBytes k (kNum k (bs.getD 0 0) (bs.getD 1 0)) ++ bs.drop (kSz k) = bs := by
        rw [hby]
        unfold kSz at hsz ⊢
        split
        · rename_i h4
          rw [if_pos h4] at hsz
          match bs, hsz with
          | x :: y :: r, _ => simp
        · rename_i h4
          rw [if_neg h4] at hsz
          match bs, hsz with
          | x :: r, _ => simp
      refine ⟨kText k (bs.getD 0 0) (bs.getD 1 0) :: ts, kBytes k (kNum k (bs.getD 0 0) (bs.getD 1 0)) ++ l, by rw [e1]; simp, by simp [e2], ?_, ?_, ?_, ?_⟩
      · rw [rdAll, hrd]
        simp only
        rw [e3, List.append_assoc]
      · have hlen : (kBytes k (kNum k (bs.getD 0 0) (bs.getD 1 0)) ++ bs.drop (kSz k)).length = bs.length := by rw [hcut]
        rw [List.length_append] at hlen
        rw [List.length_append, List.append_assoc, show bs.length - ((kBytes k (kNum k (bs.getD 0 0) (bs.getD 1 0))).length + l.length) = (bs.drop (kSz k)).length - l.length by omega, e4, hcut]
      · have hlen : (kBytes k (kNum k (bs.getD 0 0) (bs.getD 1 0)) ++ bs.drop (kSz k)).length = bs.length := by rw [hcut]
        rw [List.length_append] at hlen ⊢
        omega
      · intro t ht
        rcases List.mem_cons.1 ht with rfl | ht
        · exact ⟨no_blank_text _ _ _, text_short _ _ _ hk⟩
        · exact e6 t ht
    · rw [wrt, if_neg hk] at h
      cases h
/-- what is read of some texts is written as these texts -/
theorem bw : ∀ (ks : List Nat) (m : Nat) (ts : List ByteArray) (accI l : List Int), fit ks m → rdAll ks ts accI = some l →
    ∃ d, l = accI ++ d ∧ d.length ≤ m ∧ (∀ b ∈ d, byte b) ∧ ∀ (z : Nat) (accW : List ByteArray), wrt ks (d ++ List.replicate z 0) accW = (true, accW ++ ts)
  | [], m, ts, accI, l, _, h => by
    cases ts with
    | nil =>
      simp only [rdAll, Option.some.injEq] at h
      exact ⟨[], by simp [h], by simp, by simp, fun z acc => by simp [wrt]⟩
    | cons t ts => simp [rdAll] at h
  | k :: ks, m, ts, accI, l, hf, h => by
    obtain ⟨k1, k5, hsz, hf'⟩ := hf
    cases ts with
    | nil => simp [rdAll] at h
    | cons t ts =>
      rw [rdAll] at h
      cases hr : rd k t.data.toList with
      | none => rw [hr] at h; cases h
      | some n =>
        rw [hr] at h
        simp only at h
        obtain ⟨ht, h0, h1⟩ := rd_some hr
        obtain ⟨d, e1, e2, e3, e4⟩ := bw ks (m - kSz k) ts (accI ++ kBytes k n) l hf' h
        refine ⟨kBytes k n ++ d, by rw [e1, List.append_assoc], by rw [List.length_append, kBytes_length]; omega, ?_, ?_⟩
        · intro b hb
          rcases List.mem_append.1 hb with hb | hb
          · exact bytes_byte k n h0 h1 b hb
          · exact e3 b hb
        · intro z accW
          obtain ⟨q, hq1, hq2, hq3⟩ : ∃ q, kNum k ((kBytes k n ++ d ++ List.replicate z 0).getD 0 0) ((kBytes k n ++ d ++ List.replicate z 0).getD 1 0) = q ∧ q = n ∧ (kBytes k n ++ d ++ List.replicate z 0).drop (kSz k) = d ++ List.replicate z 0 := by
            refine ⟨_, rfl, ?_, ?_⟩
            · have hn := fun z' => num_bytes k k1 k5 n z' h0 h1
              unfold kBytes
              split
              · rename_i h4; have := hn 0; rw [if_pos h4] at this; simpa using this
              · rename_i h4; have := hn ((d ++ List.replicate z 0).getD 0 0); rw [if_neg h4] at this
                simpa using this
            · rw [List.append_assoc, ← kBytes_length k n]; simp
          have hok : kOk k ((kBytes k n ++ d ++ List.replicate z 0).getD 0 0) ((kBytes k n ++ d ++ List.replicate z 0).getD 1 0) = true := by
            unfold kOk; rw [hq1, hq2]; simp [h0, h1]
          have htx : kText k ((kBytes k n ++ d ++ List.replicate z 0).getD 0 0) ((kBytes k n ++ d ++ List.replicate z 0).getD 1 0) = t := by
            rw [← data_mk (kText k _ _), kText_data, hq1, hq2, ← ht, data_mk]
          rw [wrt, if_pos hok, hq3, htx, e4]
          simp
theorem opOf_word (o : Nat) (h : o < 23) : opOf (fWord o).data.toList = some o := by
  have : ∀ o : Fin 23, opOf (fWord o.val).data.toList = some o.val := by decide +kernel
  exact this ⟨o, h⟩
theorem opIdx_some (l : List UInt8) : ∀ (ws : List ByteArray) (i o : Nat), opIdx l i ws = some o → ∃ j w, o = i + j ∧ ws[j]? = some w ∧ w.data.toList = l
  | [], i, o, h => by simp [opIdx] at h
  | w :: ws, i, o, h => by
    rw [opIdx] at h
    split at h
    · rename_i e
      obtain rfl := Option.some.inj h
      exact ⟨0, w, rfl, rfl, e⟩
    · obtain ⟨j, w', e1, e2, e3⟩ := opIdx_some l ws (i + 1) o h
      exact ⟨j + 1, w', by omega, by simpa using e2, e3⟩
theorem opOf_some {l : List UInt8} {o : Nat} (h : opOf l = some o) : o < 23 ∧ (fWord o).data.toList = l := by
  obtain ⟨j, w, e1, e2, e3⟩ := opIdx_some l fWords 0 o h
  obtain rfl : o = j := by omega
  have hl := (List.getElem?_eq_some_iff.1 e2).1
  refine ⟨hl, ?_⟩
  unfold fWord
  rw [List.getD_eq_getElem?_getD, e2]
  exact e3
theorem word_plain (o : Nat) (h : o < 23) : (32 : UInt8) ∉ (fWord o).data.toList ∧ (fWord o).data.toList.length ≤ 7 := by
  have : ∀ o : Fin 23, (32 : UInt8) ∉ (fWord o.val).data.toList ∧ (fWord o.val).data.toList.length ≤ 7 := by decide +kernel
  exact this ⟨o, h⟩
theorem ks_short (o : Nat) (h : o < 23) : (ksOf o).length ≤ 3 := by
  have : ∀ o : Fin 23, (ksOf o.val).length ≤ 3 := by decide +kernel
  exact this ⟨o, h⟩
theorem splitP_ct (s : ByteArray) : splitP s = (ct (min 5 (s.size + 1) - 1) s.data.toList).map mk := by
  have h := Lib.splitB_data sp 0 (min 5 (s.size + 1) - 1) s
  have e : sp.data.toList = [32] := rfl
  rw [e] at h
  unfold splitP ct
  rw [← h, List.map_map]
  have : (mk ∘ fun x : ByteArray => x.data.toList) = id := by funext x; exact data_mk x
  rw [this, List.map_id]
/-- words that are joined are cut apart again -/
theorem splitP_jn (ws : List (List UInt8)) (h0 : ws ≠ []) (hb : ∀ w ∈ ws, (32 : UInt8) ∉ w) (h5 : ws.length ≤ 5) : splitP (mk (jn ws)) = ws.map mk := by
  rw [splitP_ct, mk_data, mk_size, ct_jn ws _ h0 hb]
  have := jn_length ws
  omega
theorem jn_splitP (s : ByteArray) : mk (jn ((splitP s).map (·.data.toList))) = s := by
  rw [splitP_ct, List.map_map]
  have : ((fun x : ByteArray => x.data.toList) ∘ mk) = id := by funext x; rfl
  rw [this, List.map_id, jn_ct, data_mk]
theorem text_jn (o : Nat) (a b c : Int) : text o a b c = mk (jn ((parts o a b c).map (·.data.toList))) := rfl
theorem map_data_mk (l : List ByteArray) : (l.map (·.data.toList)).map mk = l := by
  rw [List.map_map]
  have : (mk ∘ fun x : ByteArray => x.data.toList) = id := by funext x; exact data_mk x
  rw [this, List.map_id]
/-- the parts of an instruction that may be: its word, and its fields' texts, which are read again -/
theorem parts_of (o : Nat) (a b c : Int) (ha : byte a) (hb : byte b) (hc : byte c) (hm : may o a b c = true) :
    ∃ ts, o < 23 ∧ parts o a b c = fWord o :: ts ∧ ts.length = (ksOf o).length ∧ (∃ l, rdAll (ksOf o) ts [] = some l ∧ pad l = [a, b, c]) ∧ (∀ t ∈ ts, (32 : UInt8) ∉ t.data.toList ∧ t.data.toList.length ≤ 7) := by
  unfold may at hm
  rw [Bool.and_eq_true, decide_eq_true_iff] at hm
  obtain ⟨ho, hw⟩ := hm
  obtain ⟨ts, l, e1, e2, e3, e4, e5, e6⟩ := fw (ksOf o) [a, b, c] [fWord o] [] (fit_all o ho) (by simp [ha, hb, hc]) hw
  refine ⟨ts, ho, by unfold parts; rw [e1]; rfl, e2, ⟨l, by rw [e3]; rfl, ?_⟩, e6⟩
  unfold pad
  exact e4
theorem joined_len : ∀ (ws : List (List UInt8)), (∀ w ∈ ws, w.length ≤ 7) → (jn ws).length ≤ 8 * ws.length
  | [], _ => by simp [jn, Lib.join, List.intercalate]
  | [w], h => by rw [jn_one]; have := h w (List.mem_cons_self ..); simp; omega
  | w :: x :: ws, h => by
    have h1 := joined_len (x :: ws) (fun y hy => h y (List.mem_cons_of_mem _ hy))
    have h2 := h w (List.mem_cons_self ..)
    rw [jn_two]
    simp only [List.length_append, List.length_cons] at h1 ⊢
    omega
theorem parts_plain (o : Nat) (a b c : Int) (ha : byte a) (hb : byte b) (hc : byte c) (hm : may o a b c = true) :
    (∀ w ∈ (parts o a b c).map (·.data.toList), (32 : UInt8) ∉ w ∧ w.length ≤ 7) ∧ 1 ≤ (parts o a b c).length ∧ (parts o a b c).length ≤ 4 := by
  obtain ⟨ts, ho, e1, e2, _, e4⟩ := parts_of o a b c ha hb hc hm
  have hk := ks_short o ho
  rw [e1]
  refine ⟨?_, by simp, by simp; omega⟩
  intro w hw
  rw [List.map_cons] at hw
  rcases List.mem_cons.1 hw with rfl | hw
  · exact word_plain o ho
  · obtain ⟨t, ht, rfl⟩ := List.mem_map.1 hw
    exact e4 t ht
theorem text_size (o : Nat) (a b c : Int) (ha : byte a) (hb : byte b) (hc : byte c) (hm : may o a b c = true) : (text o a b c).size ≤ 32 := by
  obtain ⟨h1, h2, h3⟩ := parts_plain o a b c ha hb hc hm
  rw [text_jn, mk_size]
  have := joined_len _ (fun w hw => (h1 w hw).2)
  rw [List.length_map] at this
  omega
/-- an instruction that may be is read from its text -/
theorem parse_text (o : Nat) (a b c : Int) (ha : byte a) (hb : byte b) (hc : byte c) (hm : may o a b c = true) : prs (splitP (text o a b c)) = some (o, [a, b, c]) := by
  obtain ⟨h1, h2, h3⟩ := parts_plain o a b c ha hb hc hm
  obtain ⟨ts, ho, e1, e2, ⟨l, e3, e5⟩, e4⟩ := parts_of o a b c ha hb hc hm
  rw [text_jn, splitP_jn _ (by rw [e1]; simp) (fun w hw => (h1 w hw).1) (by rw [List.length_map]; omega), map_data_mk, e1, prs, opOf_word o ho]
  simp only
  rw [if_pos e2.symm, e3, Option.map_some, e5]
/-- what is read may be, and is written as it was -/
theorem text_parse (s : ByteArray) (o : Nat) (l : List Int) (h : prs (splitP s) = some (o, l)) :
    ∃ a b c, l = [a, b, c] ∧ o < 23 ∧ byte a ∧ byte b ∧ byte c ∧ may o a b c = true ∧ text o a b c = s := by
  cases hs : splitP s with
  | nil => rw [hs] at h; cases h
  | cons w ts =>
    rw [hs, prs] at h
    cases hw : opOf w.data.toList with
    | none => rw [hw] at h; cases h
    | some o' =>
      rw [hw] at h
      simp only at h
      split at h
      · rename_i hlen
        cases hr : rdAll (ksOf o') ts [] with
        | none => rw [hr] at h; cases h
        | some l' =>
          rw [hr, Option.map_some] at h
          have he := Option.some.inj h
          injection he with he1 he2
          subst he1
          obtain ⟨ho, hwd⟩ := opOf_some hw
          obtain ⟨d, d1, d2, d3, d4⟩ := bw (ksOf o') 3 ts [] l' (fit_all o' ho) hr
          rw [List.nil_append] at d1
          subst d1
          have hp : l.length = 3 := by rw [← he2]; unfold pad; rw [List.length_append, List.length_replicate]; omega
          have hby : ∀ b ∈ l, byte b := by
            intro b hb
            rw [← he2] at hb
            unfold pad at hb
            rcases List.mem_append.1 hb with hb | hb
            · exact d3 b hb
            · rw [List.mem_replicate] at hb; rw [hb.2]; exact ⟨by decide, by decide⟩
          match l, hp with
          | [a, b, c], _ =>
            have hwr := d4 (3 - l'.length) [fWord o']
            unfold pad at he2
            rw [he2] at hwr
            refine ⟨a, b, c, rfl, ho, hby a (by simp), hby b (by simp), hby c (by simp), ?_, ?_⟩
            · unfold may; rw [hwr]; simp [ho]
            · rw [text_jn]
              unfold parts
              rw [hwr]
              have : fWord o' = w := by rw [← data_mk (fWord o'), hwd, data_mk]
              show mk (jn (([fWord o'] ++ ts).map (·.data.toList))) = s
              rw [this, List.singleton_append, ← hs]
              exact jn_splitP s
      · cases h
/-- two that may be are written alike just if they are the same -/
theorem text_inj (o a b c o' a' b' c' : _) (ha : byte a) (hb : byte b) (hc : byte c) (ha' : byte a') (hb' : byte b') (hc' : byte c') (hm : may o a b c = true) (hm' : may o' a' b' c' = true) (h : text o a b c = text o' a' b' c') :
    o = o' ∧ a = a' ∧ b = b' ∧ c = c' := by
  have h1 := parse_text o a b c ha hb hc hm
  have h2 := parse_text o' a' b' c' ha' hb' hc' hm'
  rw [h, h2] at h1
  simp at h1
  simp [h1]
end Go.Proofs.YtcjghnnliepjjaaGreatDoor
