/- An instruction's text, and the instruction of a text. -/
import Derived.Test.YtcjghnnliepjjaaGreatDoorRead
namespace Go.Proofs.YtcjghnnliepjjaaGreatDoor
open Go Go.RowKit
set_option maxRecDepth 100000
def sp : ByteArray := ⟨#[32]⟩
/-- a text's parts, five at the most -/
def splitP (s : ByteArray) : List ByteArray := Lib.splitB sp 0 (min 5 (s.size + 1) - 1) s
theorem split_ne : ∀ (k : Nat) (s : ByteArray), Lib.splitB sp 0 k s ≠ []
  | 0, s => by simp [Lib.splitB]
  | k + 1, s => by unfold Lib.splitB; split <;> simp
theorem split_size : ∀ (k : Nat) (s x : ByteArray), x ∈ Lib.splitB sp 0 k s → x.size ≤ s.size
  | 0, s, x, h => by simp [Lib.splitB] at h; rw [h]; exact Nat.le_refl _
  | k + 1, s, x, h => by
    unfold Lib.splitB at h
    split at h
    · simp at h; rw [h]; exact Nat.le_refl _
    · simp only [List.mem_cons] at h
      rcases h with h | h
      · rw [h, ByteArray.size_extract]; omega
      · have := split_size k _ x h
        rw [ByteArray.size_extract] at this
        omega
theorem split_length : ∀ (k : Nat) (s : ByteArray), (Lib.splitB sp 0 k s).length ≤ k + 1
  | 0, s => by simp [Lib.splitB]
  | k + 1, s => by
    unfold Lib.splitB
    split
    · simp
    · have := split_length k (s.extract ((Lib.indexB s sp).toNat + sp.size) s.size); simp only [List.length_cons]; omega
/-- what 'Parse' answers -/
def pv : Option (Nat × List Int) → Value
  | some (o, l) => .tuple #[.agg #[.int .u8 o, .int .u8 (l.getD 0 0), .int .u8 (l.getD 1 0), .int .u8 (l.getD 2 0)], .int .i64 0]
  | none => .tuple #[.agg #[.int .u8 0, .int .u8 0, .int .u8 0, .int .u8 0], .int .i64 14]
theorem cellsOf_at {l : List ByteArray} {n i : Nat} {x : ByteArray} (h : l[i]? = some x) : (Lib.cellsOf l n)[i]? = some (.string x) := by
  have hi := (List.getElem?_eq_some_iff.1 h).1
  unfold Lib.cellsOf
  rw [List.getElem?_toArray, List.getElem?_append_left (by simpa using hi), List.getElem?_map, h]
  rfl
/-- what all calls of package instrs find in memory, with the library's own number -/
structure Env3 (w : World) : Prop where
  two : Env2 w
  num : ∃ m, w.cell? ⟨1, 0, none⟩ = some (.int .i64 m)
theorem Env3.on {w w' : World} (h : Env3 w) (hb : Below w.heap.size w w') : Env3 w' := ⟨h.two.on hb, by
  obtain ⟨m, e⟩ := h.num
  exact ⟨m, by rw [(bcell hb).1 _ _ (by have := h.two.errs.lt; omega)]; exact e⟩⟩
theorem opIdx_lt (l : List UInt8) : ∀ (ws : List ByteArray) (i o : Nat), opIdx l i ws = some o → o < i + ws.length
  | [], _, _, h => by simp [opIdx] at h
  | w :: ws, i, o, h => by
    simp only [opIdx] at h
    split at h
    · injection h with h; simp only [List.length_cons]; omega
    · have := opIdx_lt l ws (i + 1) o h; simp only [List.length_cons]; omega
theorem opOf_lt {l : List UInt8} {o : Nat} (h : opOf l = some o) : o < 23 := by
  have := opIdx_lt l fWords 0 o h
  have h23 : fWords.length = 23 := rfl
  omega
theorem read_any (P0 cap : Nat) (l : List ByteArray) (hl : l ≠ []) (hcap : l.length ≤ cap) (hcap5 : cap ≤ 5) (hc1 : opOf (l.headD ⟨#[]⟩).data.toList ≠ none → 1 < cap) (w : World) (hE : Env2 w) (hP : P0 < w.heap.size)
    (hcs : ∀ (i : Nat) (x : ByteArray), l[i]? = some x → w.cell? ⟨P0, i, none⟩ = some (.string x)) (hts : ∀ x ∈ l, x.size ≤ 281474976710656) :
    Calls Tryz.prog 116 #[.slice (some ⟨P0, 0, none⟩) l.length cap] w fun e w' => Below w.heap.size w w' ∧
      e = .returned (match prs l with | some (o, l) => .tuple #[.agg #[.int .u8 o, .int .u8 (l.getD 0 0), .int .u8 (l.getD 1 0), .int .u8 (l.getD 2 0)], .bool true] | none => .tuple #[.agg #[.int .u8 0, .int .u8 0, .int .u8 0, .int .u8 0], .bool false]) := by
  match l, hl with
  | p0 :: ts, _ =>
    cases ho : opOf p0.data.toList with
    | none =>
      refine (read_word P0 cap p0 ts w hE hP (hcs 0 p0 rfl) ho).mono ?_
      rintro e w' ⟨rfl, hb⟩
      exact ⟨hb, by simp [prs, ho]⟩
    | some o =>
      have h23 : o < 23 := opOf_lt ho
      refine (read_some P0 cap o h23 p0 ts hcap hcap5 (hc1 (by simp [ho])) w hE hP (hcs 0 p0 rfl) (fun i x h => by rw [Nat.add_comm]; exact hcs (i + 1) x (by simpa using h)) (fun x hx => hts x (List.mem_cons_of_mem _ hx)) ho).mono ?_
      rintro e w' ⟨hb, rfl⟩
      refine ⟨hb, ?_⟩
      simp only [prs, ho, rdRes]
      split
      · cases rdAll (ksOf o) ts [] <;> rfl
      · rfl
set_option maxHeartbeats 1000000 in
theorem Parse_any (s : ByteArray) (hs : s.size < 4294967281) (w : World) (hE : Env3 w) :
    Calls Tryz.prog 100 #[.string s] w fun e w' => Below w.heap.size w w' ∧ e = .returned (pv (prs (splitP s))) := by
  obtain ⟨m, hm⟩ := hE.num
  have hlt := hE.two.errs.lt
  have HE : Hid (Env3 w) := hE
  clear hE
  have hne := split_ne (min 5 (s.size + 1) - 1) s
  have hsz := split_size (min 5 (s.size + 1) - 1) s
  have hln := split_length (min 5 (s.size + 1) - 1) s
  have cSp := fun (W : World) (hW : W.cell? ⟨1, 0, none⟩ = some (.int .i64 m)) => Tryz.strings_SplitN s sp 5 m W hs hW (by decide) (by decide) (by decide)
  have HP : Hid (prs (splitP s) = prs (Lib.splitB sp 0 (min 5 (s.size + 1) - 1) s)) := rfl
  generalize hL : Lib.splitB sp 0 (min 5 (s.size + 1) - 1) s = L at hne hsz hln cSp HP
  have hc1 : opOf (L.headD ⟨#[]⟩).data.toList ≠ none → 1 < min 5 (s.size + 1) := by
    intro h
    rcases Nat.lt_or_ge 1 (min 5 (s.size + 1)) with h2 | h2
    · exact h2
    · have h0 : s.size = 0 := by omega
      exfalso
      apply h
      rw [← hL, h0]
      simp only [Nat.min_def]
      have : s.data.toList = [] := by
        have h3 : s.data.toList.length = 0 := h0
        exact List.eq_nil_of_length_eq_zero h3
      show opOf s.data.toList = none
      rw [this]
      rfl
  generalize hcapd : min 5 (s.size + 1) = cap at hln cSp hc1
  have hcap5 : cap ≤ 5 := by omega
  have hcap1 : 1 ≤ cap := by omega
  clear hL
  have hcR := fun (W : World) (hW : Env2 W) (hc : ∀ (i : Nat) (x : ByteArray), L[i]? = some x → (W.alloc (.cells (Lib.cellsOf L cap) 9)).cell? ⟨W.heap.size, i, none⟩ = some (.string x)) =>
    read_any W.heap.size cap L hne (by omega) hcap5 hc1 (W.alloc (.cells (Lib.cellsOf L cap) 9)) (hW.on ((Below.refl _ _).alloc (Nat.le_refl _) _)) (by simp) hc (fun x hx => by have := hsz x hx; omega)
  have HCR : Hid (∀ (W : World) (_ : Env2 W), Calls Tryz.prog 116 #[.slice (some ⟨W.heap.size, 0, none⟩) L.length cap] (W.alloc (.cells (Lib.cellsOf L cap) 9)) fun e w' => Below (W.alloc (.cells (Lib.cellsOf L cap) 9)).heap.size (W.alloc (.cells (Lib.cellsOf L cap) 9)) w' ∧
      e = .returned (match prs L with | some (o, l) => .tuple #[.agg #[.int .u8 o, .int .u8 (l.getD 0 0), .int .u8 (l.getD 1 0), .int .u8 (l.getD 2 0)], .bool true] | none => .tuple #[.agg #[.int .u8 0, .int .u8 0, .int .u8 0, .int .u8 0], .bool false])) :=
    fun W hW => hcR W hW (fun i x hx => by simp [go_sem, cellsOf_at hx])
  clear hcR hsz hln hne hc1
  have hEa : Env3 (w.alloc (.cells #[.int .u8 0, .int .u8 0, .int .u8 0, .int .u8 0] 64)) := HE.out.on ((Below.refl _ _).alloc (Nat.le_refl _) _)
  have hma : (w.alloc (.cells #[.int .u8 0, .int .u8 0, .int .u8 0, .int .u8 0] 64)).cell? ⟨1, 0, none⟩ = some (.int .i64 m) := by rw [(bcell ((Below.refl w.heap.size w).alloc (Nat.le_refl _) _)).1 _ _ (by omega)]; exact hm
  have cR := HCR.out _ hEa.two
  have cS := cSp _ hma
  rw [alloc_size] at cR
  simp only [alloc_size] at cS
  clear cSp HCR hEa hma
  cases hp : prs L with
  | none =>
    rw [hp] at cR
    have HQ : Hid (prs L = none) := hp
    clear hp
    go_enter Tryz.func100, Tryz.ntmps100
    go_wp2_with (first
      | (go_at_call 117; refine cS.mono ?_; rintro e w1 ⟨rfl, rfl⟩)
      | (go_at_call 116; refine cR.mono ?_; rintro e w2 ⟨hb2, rfl⟩; have q1 := (bcell hb2).1; have q2 := (bcell hb2).2; have zz : w.heap.size < w2.heap.size := (by have := hb2.size; simp at this; omega)))
    have y0 : w2.cell? ⟨w.heap.size, 0, none⟩ = some (.int .u8 0) := by rw [q1 _ _ (by simp; omega)]; simp [go_sem]
    have y1 : w2.cell? ⟨w.heap.size, 1, none⟩ = some (.int .u8 0) := by rw [q1 _ _ (by simp; omega)]; simp [go_sem]
    have y2 : w2.cell? ⟨w.heap.size, 2, none⟩ = some (.int .u8 0) := by rw [q1 _ _ (by simp; omega)]; simp [go_sem]
    have y3 : w2.cell? ⟨w.heap.size, 3, none⟩ = some (.int .u8 0) := by rw [q1 _ _ (by simp; omega)]; simp [go_sem]
    have HB2 : Hid (Below w.heap.size w w2) := (((Below.refl _ _).alloc (Nat.le_refl _) _).alloc (by simp) _).trans (hb2.mono (by simp; omega))
    refine bodyPost_ret (v := .tuple #[.agg #[.int .u8 0, .int .u8 0, .int .u8 0, .int .u8 0], .int .i64 14]) (by simp [results, Tryz.results100, go_sem, y0, y1, y2, y3, zz]) rfl ⟨?_, by rw [HP.out, HQ.out]; rfl⟩
    exact ((((HB2.out.setCell (Nat.le_refl _) _).setCell (Nat.le_refl _) _).setCell (Nat.le_refl _) _).setCell (Nat.le_refl _) _).alloc (by simp only [setCell_size]; omega) _
  | some q =>
    obtain ⟨o, l⟩ := q
    rw [hp] at cR
    have HQ : Hid (prs L = some (o, l)) := hp
    clear hp
    simp only at cR
    generalize h0 : l.getD 0 0 = b0 at cR
    generalize h1 : l.getD 1 0 = b1 at cR
    generalize h2 : l.getD 2 0 = b2 at cR
    have H0 : Hid (l.getD 0 0 = b0) := h0
    have H1 : Hid (l.getD 1 0 = b1) := h1
    have H2 : Hid (l.getD 2 0 = b2) := h2
    clear h0 h1 h2
    go_enter Tryz.func100, Tryz.ntmps100
    go_wp2_with (first
      | (go_at_call 117; refine cS.mono ?_; rintro e w1 ⟨rfl, rfl⟩)
      | (go_at_call 116; refine cR.mono ?_; rintro e w2 ⟨hb2, rfl⟩; have q1 := (bcell hb2).1; have q2 := (bcell hb2).2; have zz : w.heap.size < w2.heap.size := (by have := hb2.size; simp at this; omega)))
    have y0 : w2.cell? ⟨w.heap.size, 0, none⟩ = some (.int .u8 0) := by rw [q1 _ _ (by simp; omega)]; simp [go_sem]
    have y1 : w2.cell? ⟨w.heap.size, 1, none⟩ = some (.int .u8 0) := by rw [q1 _ _ (by simp; omega)]; simp [go_sem]
    have y2 : w2.cell? ⟨w.heap.size, 2, none⟩ = some (.int .u8 0) := by rw [q1 _ _ (by simp; omega)]; simp [go_sem]
    have y3 : w2.cell? ⟨w.heap.size, 3, none⟩ = some (.int .u8 0) := by rw [q1 _ _ (by simp; omega)]; simp [go_sem]
    have HB2 : Hid (Below w.heap.size w w2) := (((Below.refl _ _).alloc (Nat.le_refl _) _).alloc (by simp) _).trans (hb2.mono (by simp; omega))
    refine bodyPost_ret (v := .tuple #[.agg #[.int .u8 o, .int .u8 b0, .int .u8 b1, .int .u8 b2], .int .i64 0]) (by simp [results, Tryz.results100, go_sem, y0, y1, y2, y3, zz]) rfl ⟨?_, by rw [HP.out, HQ.out]; simp only [pv, H0.out, H1.out, H2.out]⟩
    exact ((((HB2.out.setCell (Nat.le_refl _) _).setCell (Nat.le_refl _) _).setCell (Nat.le_refl _) _).setCell (Nat.le_refl _) _).alloc (by simp only [setCell_size]; omega) _
theorem own_slice {w : World} {base n : Nat} {v : Value} {xs : List Value} (h : w.ownsRow base 9 1 v n xs) (hn : 1 ≤ n) : ∃ g cap, v = .slice (some ⟨g, 0, none⟩) n cap ∧ n ≤ cap ∧ g < w.heap.size := by
  rcases h.2 with ⟨_, h0⟩ | ⟨g, cap, cur, hv, _, hg, hnc, _⟩
  · omega
  · refine ⟨g, cap, hv, hnc, ?_⟩
    rcases Nat.lt_or_ge g w.heap.size with h | h
    · exact h
    · rw [Array.getElem?_eq_none h] at hg; cases hg
/-- an instruction as it is written -/
def text (o : Nat) (a b c : Int) : ByteArray := ⟨(Lib.join ((parts o a b c).map (·.data.toList)) sp.data.toList).toArray⟩
set_option maxHeartbeats 1000000 in
theorem Text_no (o : Nat) (h255 : o ≤ 255) (a b c : Int) (w : World) (he : Env w) (ha : byte a) (hb : byte b) (hc : byte c) (hm : may o a b c = false) :
    Calls Tryz.prog 76 #[.agg #[.int .u8 o, .int .u8 a, .int .u8 b, .int .u8 c]] w fun e w' => e = .returned (.tuple #[.string ⟨#[]⟩, .int .i64 1]) ∧ Below w.heap.size w w' := by
  have HE : Hid (Env w) := he
  clear he
  go_enter Tryz.func76, Tryz.ntmps76
  go_wp2_with (go_at_call 77; refine (written_any _ h255 _ _ _ _ (HE.out.on ((Below.refl _ _).alloc (Nat.le_refl _) _)) ha hb hc).mono ?_; rintro e w' ⟨v, rfl, hb2, _⟩)
  go_ret2
  exact ⟨rfl, ((Below.refl _ _).alloc (Nat.le_refl _) _).trans (hb2.mono (by simp))⟩
set_option maxHeartbeats 1000000 in
theorem Text_yes (o : Nat) (h255 : o ≤ 255) (a b c : Int) (w : World) (he : Env w) (ha : byte a) (hb : byte b) (hc : byte c) (hm : may o a b c = true) (hp : 1 ≤ (parts o a b c).length ∧ (parts o a b c).length ≤ 4) (hl : (text o a b c).size ≤ 1000) :
    Calls Tryz.prog 76 #[.agg #[.int .u8 o, .int .u8 a, .int .u8 b, .int .u8 c]] w fun e w' => e = .returned (.tuple #[.string (text o a b c), .int .i64 0]) ∧ Below w.heap.size w w' := by
  have HE : Hid (Env w) := he
  clear he
  have hcap : ∀ (g cap : Nat) (W : World), W.ownsRow w.heap.size 9 1 (.slice (some ⟨g, 0, none⟩) (parts o a b c).length cap) (parts o a b c).length (strs (parts o a b c)) → (parts o a b c).length ≤ cap → g < W.heap.size →
      Calls Tryz.prog 106 #[.slice (some ⟨g, 0, none⟩) (parts o a b c).length cap, .string ⟨#[32]⟩] W fun e w' => e = .returned (.string (text o a b c)) ∧ Below W.heap.size W w' := fun g cap W hown hc hg => by
    refine Tryz.strings_Join g 0 cap (parts o a b c) sp W ?_ hg (by omega) hc ?_
    · intro j x hx
      have := hown.cellAt j (by have := (List.getElem?_eq_some_iff.1 hx).1; omega)
      rw [Nat.zero_add, this]
      unfold strs
      rw [List.getElem?_map, hx]
      rfl
    · have : (text o a b c).size = (Lib.join ((parts o a b c).map (·.data.toList)) sp.data.toList).length := by unfold text; exact List.size_toArray ..
      omega
  generalize text o a b c = T at hcap hl ⊢
  have cW := written_any o h255 a b c (w.alloc (.cells #[.int .u8 o, .int .u8 a, .int .u8 b, .int .u8 c] 64)) (HE.out.on ((Below.refl _ _).alloc (Nat.le_refl _) _)) ha hb hc
  rw [hm] at cW
  generalize parts o a b c = L at hcap cW hp
  go_enter Tryz.func76, Tryz.ntmps76
  go_wp2_with (first
    | (go_at_call 77; refine cW.mono ?_; rintro e w1 ⟨v, rfl, hb2, hown0⟩; have hown := hown0 rfl; clear hown0; obtain ⟨g, cap, rfl, hcp, hgl⟩ := own_slice hown hp.1)
    | (go_at_call 106; refine (hcap g cap w1 (own_base hown (by rw [alloc_size]; omega)) hcp hgl).mono ?_; rintro e w2 ⟨rfl, hb3⟩))
  go_ret2
  exact ⟨rfl, (((Below.refl _ _).alloc (Nat.le_refl _) _).trans (hb2.mono (by simp))).trans (hb3.mono (by have := hb2.size; simp at this; omega))⟩
end Go.Proofs.YtcjghnnliepjjaaGreatDoor
