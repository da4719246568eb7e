/- HeirsRanks: the ranks are the document's, in new memory; nothing is changed. -/
import Derived.Test.YtcjjaofmicegfaaDoorKRank
import Derived.Test.YtcjjaofmicegfaaDoorArgs
import Derived.Test.YtcjjaofmicegfaaDoorApart
namespace Go.Proofs.YtcjjaofmicegfaaDoor
open Go Go.RowKit
set_option maxRecDepth 100000
set_option linter.unusedVariables false
set_option linter.unusedSimpArgs false
theorem lst_of {bs ws : List Int} (hv : Val bs ws) : ∀ (k : Nat) (l : List Int), slack l = k → Mid bs ws l → ∃ l, Lst bs ws l := by
  intro k
  induction k using Nat.strongRecOn with
  | ind k ih =>
    intro l hk hM
    by_cases hs : Shut ws l
    · exact ⟨l, hM, hs⟩
    · obtain ⟨i, hi⟩ := Classical.not_forall.1 hs
      obtain ⟨hi1, hi⟩ := Classical.not_imp.1 hi
      obtain ⟨hi2, hi3⟩ := Classical.not_imp.1 hi
      have hl := hv.len
      have hp := hv.plc i hi1
      obtain ⟨j, hj⟩ : ∃ j : Nat, ws.getD i 0 = (j : Int) := ⟨(ws.getD i 0).toNat, by omega⟩
      rw [hj] at hi3 hp
      have e : ((j : Int)).toNat = j := rfl
      rw [e] at hi3
      have hlt : l.getD j 0 < l.getD i 0 := by omega
      have h31 := (hM.in hv (i := i) (by omega)).2
      exact ih _ (by rw [← hk]; exact slack_set l j _ (by rw [hM.len]; omega) hlt h31) _ rfl (hM.raise (by omega) hj hlt)
theorem lst_ex {bs ws : List Int} (hv : Val bs ws) : ∃ l, Lst bs ws l := lst_of hv _ bs rfl (Mid.start bs ws)
/-- both answers, told at once -/
structure Both (bs ws zs : List Int) (er : Int) (n m q : Nat) : Prop where
  len : zs.length = q
  few : q ≤ 1000
  one : ∀ {w : World} {sp sq : Option Addr} {c d : Nat}, Src w sp bs → Src w sq ws → Calls Tryd.prog 6 #[.slice sp n c, .slice sq m d] w fun e w' => ∃ s1 c1, e = .returned (.tuple #[.slice s1 q c1, .int .i64 er]) ∧ Ls w.heap.size w' s1 q c1 zs ∧ Below w.heap.size w w'
  two : ∀ {w : World} {sp sq : Option Addr} {c d : Nat}, Src w sp bs → Src w sq ws → Calls Tryd.prog 7 #[.slice sp n c, .slice sq m d] w fun e w' => ∃ s1 c1, e = .returned (.tuple #[.slice s1 q c1, .int .i64 er]) ∧ Ls w.heap.size w' s1 q c1 zs ∧ Below w.heap.size w w'
theorem both_any (bs ws : List Int) {n m : Nat} (hn : bs.length = n) (hm : ws.length = m) (hl : n ≤ 1000) (hk : m ≤ 1000) : ∃ (zs : List Int) (er : Int) (q : Nat), Both bs ws zs er n m q := by
  subst hn hm
  by_cases hv : Val bs ws
  · obtain ⟨l, hL⟩ := lst_ex hv
    exact ⟨l, 0, bs.length, hL.mid.len, hl, fun hs ht => ranks_at hs ht hv hL rfl rfl, fun hs ht => kranks_at hs ht hv hL rfl rfl⟩
  · refine ⟨[], 1, 0, rfl, by omega, fun hs ht => ?_, fun hs ht => ?_⟩
    · refine (ranks_no hs ht (by omega) (by omega) hv _ _).mono ?_
      rintro e w' ⟨rfl, rfl⟩
      exact ⟨none, 0, rfl, ⟨rfl, World.ownsRow_nil _ _ _ _⟩, Below.refl _ _⟩
    · refine (kranks_no hs ht (by omega) (by omega) hv _ _).mono ?_
      rintro e w' ⟨rfl, rfl⟩
      exact ⟨none, 0, rfl, ⟨rfl, World.ownsRow_nil _ _ _ _⟩, Below.refl _ _⟩
/-- a twin is a list of its own -/
theorem row_ls {B : Nat} {w : World} {g n : Nat} {zs : List Int} {z : Int} (h : Row w g (zs ++ [z])) (hg : B ≤ g) (hn : zs.length = n) (hl : n ≤ 1000) : Ls B w (some ⟨g, 0, none⟩) n (n + 1) zs := by
  refine ⟨hn, by simp [hn], .inr ⟨g, n + 1, _, rfl, hg, h, by omega, by unfold maxLen; omega, by simp [num, hn], ?_⟩⟩
  simp [num, ← hn]
theorem Bk.start {w : World} {B : Nat} (hB : B ≤ w.heap.size) : Bk B (w.alloc (.cells (bk 0 (.slice none 0 0)) 38)) w.heap.size 0 (.slice none 0 0) [] :=
  ⟨alloc_at w _, World.ownsRow_nil _ _ _ _, fun H h => by simp [Value.ownBlock] at h, hB, by simp, by omega, fun j e he => by simp at he⟩
theorem snoc_cases {E : List Ent} {x e : Ent} {j : Nat} (h : (E ++ [x])[j]? = some e) : (j < E.length ∧ E[j]? = some e) ∨ (j = E.length ∧ e = x) := by
  rcases Nat.lt_or_ge j E.length with hj | hj
  · rw [List.getElem?_append_left hj] at h
    exact Or.inl ⟨hj, h⟩
  · rw [List.getElem?_append_right hj] at h
    rcases hk : j - E.length with _ | k
    · rw [hk] at h
      simp only [List.getElem?_cons_zero, Option.some.injEq] at h
      exact Or.inr ⟨by omega, h.symm⟩
    · rw [hk] at h
      simp at h
/-- a list that is told is none of those that are kept -/
def Fresh (E : List Ent) (x : Value) : Prop := ∀ (j : Nat) (e : Ent), E[j]? = some e → ∀ g, e.v.ownBlock = some g → x.ownBlock ≠ some g
theorem Fresh.nil (x : Value) : Fresh [] x := fun j e he => by simp at he
theorem Fresh.snoc {E : List Ent} {x : Value} {y : Ent} (h : Fresh E x) (hy : ∀ g, y.v.ownBlock = some g → x.ownBlock ≠ some g) : Fresh (E ++ [y]) x := fun j e he => by
  rcases snoc_cases he with ⟨_, he'⟩ | ⟨_, rfl⟩
  · exact h j e he'
  · exact hy
/-- a book, and its lists -/
structure BS (B : Nat) (w wx : World) (K nb : Nat) (v : Value) (E : List Ent) : Prop where
  book : Bk B wx K nb v E
  lists : Lists B wx E 0
  far : Far B w wx
  many : E.length = nb
theorem BS.row {B : Nat} {w wx w' : World} {K nb : Nat} {v : Value} {E : List Ent} (H : BS B w wx K nb v E) (hu : Buts (K :: v.ownBlock.toList) wx w') {B' m : Nat} {x : Value} {ys : List Value} (hx : wx.ownsRow B' 3 1 x m ys) : w'.ownsRow B' 3 1 x m ys :=
  owns_of hx fun g' hg' => hu.block g' (hx.lt g' hg').2 fun hm => by
    rcases List.mem_cons.1 hm with e | hm
    · exact block_ne hx hg' H.book.head (by decide) e
    · exact own_ne hx hg' H.book.row (by simpa using hm) (by decide) rfl
theorem BS.put {B : Nat} {w wx w' : World} {K nb : Nat} {v v' : Value} {E : List Ent} {sp : Option Addr} {m cap : Nat} {zs : List Value} (H : BS B w wx K nb v E) (hn : nb + 1 ≤ 1000) (hm : m ≤ 1024)
    (ho : wx.ownsRow B 3 1 (.slice sp m cap) m zs) (hf : Fresh E (.slice sp m cap))
    (hk : Bk B w' K ((nb : Int) + 1) v' (E ++ [⟨.slice sp m cap, m, .slice none 0 0, (nb : Int) + 1⟩])) (hu : Buts (K :: v.ownBlock.toList) wx w') :
    BS B w w' K (nb + 1) v' (E ++ [⟨.slice sp m cap, m, .slice none 0 0, (nb : Int) + 1⟩]) := by
  have hKs := H.book.base
  have hmem : ∀ {x : Nat}, x ∈ K :: v.ownBlock.toList → B ≤ x := by
    intro x hx
    rcases List.mem_cons.1 hx with e | hx
    · omega
    · exact (H.book.row.lt x (by simpa using hx)).1
  have hE := H.many
  refine ⟨?_, ?_, ⟨H.far.low'.trans (hu.below (fun x hx => hmem hx) H.far.le), Nat.le_trans H.far.le hu.size⟩, by rw [List.length_append, List.length_singleton, hE]⟩
  · have e : ((nb + 1 : Nat) : Int) = (nb : Int) + 1 := by omega
    rw [e]; exact hk
  · refine ⟨?_, ?_, ?_, ?_⟩
    · intro j e he
      rcases snoc_cases he with ⟨_, he'⟩ | ⟨_, rfl⟩
      · obtain ⟨ys, h1, h2⟩ := H.lists.own j e he'
        exact ⟨ys, H.row hu h1, h2⟩
      · exact ⟨_, H.row hu ho, fun h => by omega⟩
    · intro j k e f hjk he hf' g' hg' hg2
      rcases snoc_cases he with ⟨_, he'⟩ | ⟨rfl, rfl⟩
      · rcases snoc_cases hf' with ⟨_, hf2⟩ | ⟨rfl, rfl⟩
        · exact H.lists.sep j k e f hjk he' hf2 g' hg' hg2
        · exact hf j e he' g' hg' hg2
      · rcases snoc_cases hf' with ⟨_, hf2⟩ | ⟨rfl, rfl⟩
        · exact hf k f hf2 g' hg2 hg'
        · exact hjk rfl
    · intro j e he
      rcases snoc_cases he with ⟨_, he'⟩ | ⟨_, rfl⟩
      · exact H.lists.num j e he'
      · simp only; omega
    · intro j e he
      rcases snoc_cases he with ⟨_, he'⟩ | ⟨_, rfl⟩
      · exact H.lists.len j e he'
      · simp only; omega
theorem bs_put {B : Nat} {w wx : World} {K nb : Nat} {v : Value} {E : List Ent} (H : BS B w wx K nb v E) {sp : Option Addr} {m cap : Nat} {zs : List Value} (hn : nb + 1 ≤ 1000) (hm : m ≤ 1024) (ho : wx.ownsRow B 3 1 (.slice sp m cap) m zs) (hf : Fresh E (.slice sp m cap)) :
    Calls Tryd.prog 10 #[.pointer (some ⟨K, 0, none⟩), .slice sp m cap] wx fun e w' => e = .returned (.tuple #[]) ∧ (∃ v', BS B w w' K (nb + 1) v' (E ++ [⟨.slice sp m cap, m, .slice none 0 0, (nb : Int) + 1⟩])) ∧ (∀ {B' m : Nat} {x : Value} {ys : List Value}, wx.ownsRow B' 3 1 x m ys → w'.ownsRow B' 3 1 x m ys) := by
  have hE := H.many
  refine (book_put H.book (by omega) (by omega) sp m cap).mono ?_
  rintro e w' ⟨rfl, v', hk, hu⟩
  exact ⟨rfl, ⟨v', H.put hn hm ho hf hk hu⟩, fun hx => H.row hu hx⟩
set_option maxHeartbeats 16000000 in
theorem ranks_law {w : World} {sp sq : Option Addr} {bs ws : List Int} (hs : Src w sp bs) (ht : Src w sq ws) (hl : bs.length ≤ maxLen) (hm : ws.length ≤ maxLen) (c d : Nat) :
    Calls Tryd.prog 3 #[.slice sp bs.length c, .slice sq ws.length d] w fun e w' => e = .returned (.bool true) ∧ Below w.heap.size w w' := by
  unfold maxLen at hl hm
  obtain ⟨n, hn⟩ : ∃ n, bs.length = n := ⟨_, rfl⟩
  obtain ⟨m, hm2⟩ : ∃ m, ws.length = m := ⟨_, rfl⟩
  rw [hn] at hl ⊢
  rw [hm2] at hm ⊢
  have HN : Hid (bs.length = n) := hn
  have HM : Hid (ws.length = m) := hm2
  have HS : Hid (Src w sp bs) := hs
  have HT : Hid (Src w sq ws) := ht
  clear hn hm2 hs ht
  obtain ⟨B, hB0⟩ : ∃ B, w.heap.size = B := ⟨_, rfl⟩
  have HB0 : Hid (w.heap.size = B) := hB0
  have M : Far B w w := Far.refl hB0
  by_cases hbig : 1000 < n ∨ 1000 < m
  · rw [hB0]
    clear hB0
    by_cases h1 : 1000 < n
    · have hb2 : (1000 : Int) < n := by omega
      go_enter Tryd.func3, Tryd.ntmps3
      go_wp2_with (first | (go_at_call 4; refine (lives_any _).mono ?_; rintro e w1 ⟨rfl, m1⟩; replace M := M.low m1; clear m1))
      go_ret
      exact ⟨rfl, M.low'⟩
    · have hb2 : ¬ ((1000 : Int) < n) := by omega
      have hb3 : (1000 : Int) < m := by omega
      clear hbig h1
      go_enter Tryd.func3, Tryd.ntmps3
      go_wp2_with (first | (go_at_call 4; refine (lives_any _).mono ?_; rintro e w1 ⟨rfl, m1⟩; replace M := M.low m1; clear m1))
      go_ret
      exact ⟨rfl, M.low'⟩
  · have hn1 : n ≤ 1000 := by omega
    have hm1 : m ≤ 1000 := by omega
    have hb2 : ¬ ((1000 : Int) < n) := by omega
    have hb3 : ¬ ((1000 : Int) < m) := by omega
    obtain ⟨zs, er, q, hb⟩ := both_any bs ws HN.out HM.out hn1 hm1
    have HB : Hid (Both bs ws zs er n m q) := hb
    have hq := hb.few
    have hT := twin_any HS.out HN.out (by omega) c
    rw [hB0] at hT ⊢
    clear hB0 hbig hb
    go_enter Tryd.func3, Tryd.ntmps3
    go_upto_region 9 with (first
      | (go_at_call 5; have := Z1; refine (twin_any (HT.out.below (by have := M.low'; rwa [HB0.out])) HM.out (by omega) d).mono ?_; rintro e w2 ⟨d2, rfl, ⟨r2, rfl⟩, m2⟩; have S1 := R1.out.lt; have R1b : Hid (Row w2 B (bs ++ [77])) := R1.out.below m2; have R2 : Hid (Row w2 w1.heap.size (ws ++ [77])) := r2; replace M := M.low m2; clear r2 m2 R1 Z1)
      | (go_at_call 5; refine hT.mono ?_; rintro e w1 ⟨d1, rfl, ⟨r1, rfl⟩, m1⟩; have R1 : Hid (Row w1 B (bs ++ [77])) := r1; replace M : Far B w w1 := ⟨m1, by have := m1.size; have := HB0.out; omega⟩; have Z1 := True.intro; clear r1 m1 hT)
      | (go_at_call 6; refine (HB.out.one (src_twin R1b.out) (src_twin R2.out)).mono ?_; rintro e w3 ⟨s3, c3, rfl, l3, m3⟩; have S2 := R2.out.lt; have L3 : Hid (Ls w2.heap.size w3 s3 q c3 zs) := l3; have R1c : Hid (Row w3 B (bs ++ [77])) := R1b.out.below m3; have R2c : Hid (Row w3 w1.heap.size (ws ++ [77])) := R2.out.below m3; have M2 := M.le; replace M := M.low m3; clear l3 m3 R1b R2)
      | (go_at_call 7; refine (HB.out.two (HS.out.below (by have := M.low'; rwa [HB0.out])) (HT.out.below (by have := M.low'; rwa [HB0.out]))).mono ?_; rintro e w4 ⟨s4, c4, rfl, l4, m4⟩; have L4 : Hid (Ls w3.heap.size w4 s4 q c4 zs ∧ Ls w2.heap.size w4 s3 q c3 zs) := ⟨l4, L3.out.below m4⟩; have R4 : Hid (Row w4 B (bs ++ [77]) ∧ Row w4 w1.heap.size (ws ++ [77])) := ⟨R1c.out.below m4, R2c.out.below m4⟩; replace M := M.low m4; clear l4 m4 R1c R2c L3)
      | (go_at_call 8; refine (same_is L4.out.2.src L4.out.1.src HB.out.len (by omega) _ _).mono ?_; rintro e w5 ⟨rfl, m5⟩; have L5 : Hid (Ls w2.heap.size w5 s3 q c3 zs) := L4.out.2.below m5; have R5 : Hid (Row w5 B (bs ++ [77]) ∧ Row w5 w1.heap.size (ws ++ [77])) := ⟨R4.out.1.below m5, R4.out.2.below m5⟩; replace M := M.low m5; clear m5 R4 L4)
      | (go_at_call 9; have := Z2; refine (left_any R6.out.2 (HT.out.below (by have := M.low'; rwa [HB0.out])) HM.out (by omega) _).mono ?_; rintro e w7 ⟨rfl, m7⟩; have L7 : Hid (Ls w2.heap.size w7 s3 q c3 zs) := L6.out.below m7; have R7 : Hid (Row w7 B (bs ++ [77]) ∧ Row w7 w1.heap.size (ws ++ [77])) := ⟨R6.out.1.below m7, R6.out.2.below m7⟩; replace M := M.low m7; clear m7 R6 L6 Z2)
      | (go_at_call 9; refine (left_any R5.out.1 (HS.out.below (by have := M.low'; rwa [HB0.out])) HN.out (by omega) _).mono ?_; rintro e w6 ⟨rfl, m6⟩; have L6 : Hid (Ls w2.heap.size w6 s3 q c3 zs) := L5.out.below m6; have R6 : Hid (Row w6 B (bs ++ [77]) ∧ Row w6 w1.heap.size (ws ++ [77])) := ⟨R5.out.1.below m6, R5.out.2.below m6⟩; replace M := M.low m6; have Z2 := True.intro; clear m6 R5 L5))
    go_upto_region 10 with fail
    have hbA := alloc_below w7 (.cells (bk 0 (.slice none 0 0)) 38)
    have H0 : Hid (BS B w (w7.alloc (.cells (bk 0 (.slice none 0 0)) 38)) w7.heap.size 0 (.slice none 0 0) []) := ⟨Bk.start M.le, ⟨fun j e he => by simp at he, fun j k e f _ he => by simp at he, fun j e he => by simp at he, fun j e he => by simp at he⟩, M.low hbA, rfl⟩
    have Q1 : Hid (Ls B (w7.alloc (.cells (bk 0 (.slice none 0 0)) 38)) (some ⟨B, 0, none⟩) n (n + 1) bs) := row_ls (R7.out.1.below hbA) (Nat.le_refl _) HN.out hn1
    have Q2 : Hid (Ls B (w7.alloc (.cells (bk 0 (.slice none 0 0)) 38)) (some ⟨w1.heap.size, 0, none⟩) m (m + 1) ws) := row_ls (R7.out.2.below hbA) (by omega) HM.out hm1
    have Q3 : Hid (Ls B (w7.alloc (.cells (bk 0 (.slice none 0 0)) 38)) s3 q c3 zs) := (L7.out.below hbA).base M2
    have F12 : Hid (∀ g, (Value.slice (some ⟨B, 0, none⟩) n (n + 1)).ownBlock = some g → (Value.slice (some ⟨w1.heap.size, 0, none⟩) m (m + 1)).ownBlock ≠ some g) := fun g h1 h2 => by
      have e1 : B = g := by simpa [Value.ownBlock] using h1
      have e2 : w1.heap.size = g := by simpa [Value.ownBlock] using h2
      omega
    have F13 : Hid (∀ g, (Value.slice (some ⟨B, 0, none⟩) n (n + 1)).ownBlock = some g → (Value.slice s3 q c3).ownBlock ≠ some g) := fun g h1 h2 => by
      have e1 : B = g := by simpa [Value.ownBlock] using h1
      have e2 := (L7.out.2.lt g h2).1
      omega
    have F23 : Hid (∀ g, (Value.slice (some ⟨w1.heap.size, 0, none⟩) m (m + 1)).ownBlock = some g → (Value.slice s3 q c3).ownBlock ≠ some g) := fun g h1 h2 => by
      have e1 : w1.heap.size = g := by simpa [Value.ownBlock] using h1
      have e2 := (L7.out.2.lt g h2).1
      omega
    rw [show (#[Value.int IntKind.i64 0, Value.slice none 0 0, Value.slice none 0 0, Value.slice none 0 0, Value.slice none 0 0, Value.slice none 0 0, Value.slice none 0 0, Value.slice none 0 0, Value.slice none 0 0] : Array Value) = bk 0 (.slice none 0 0) from rfl]
    clear hbA M R7 L7
    generalize w7.alloc (.cells (bk 0 (.slice none 0 0)) 38) = w8 at *
    generalize w7.heap.size = K at *
    generalize w1.heap.size = g2 at *
    go_wp2_with (first
      | (go_at_call 10; have := Z3; obtain ⟨E2, v2, h2, f3⟩ := H2.out; refine (bs_put h2 (by omega) (by omega) Q3b.out.2 f3).mono ?_; rintro e w11 ⟨rfl, ⟨v3, h3⟩, keep⟩; have H3 : Hid (∃ E3 v3, BS B w w11 K 3 v3 E3) := ⟨_, _, h3⟩; clear h3 keep h2 f3 H2 Z3)
      | (go_at_call 10; have := Z2; obtain ⟨E1, v1, h1, f2, f3⟩ := H1.out; refine (bs_put h1 (by omega) (by omega) Q2b.out.2 f2).mono ?_; rintro e w10 ⟨rfl, ⟨v2, h2⟩, keep⟩; have H2 : Hid (∃ E2 v2, BS B w w10 K 2 v2 E2 ∧ Fresh E2 (.slice s3 q c3)) := ⟨_, _, h2, f3.snoc F23.out⟩; have Q3b : Hid (Ls B w10 s3 q c3 zs) := ⟨Q3a.out.1, keep Q3a.out.2⟩; have Z3 := True.intro; clear h2 keep h1 f2 f3 H1 Z2 Q2b Q3a)
      | (go_at_call 10; refine (bs_put H0.out (by omega) (by omega) Q1.out.2 (Fresh.nil _)).mono ?_; rintro e w9 ⟨rfl, ⟨v1, h1⟩, keep⟩; have H1 : Hid (∃ E1 v1, BS B w w9 K 1 v1 E1 ∧ Fresh E1 (.slice (some ⟨g2, 0, none⟩) m (m + 1)) ∧ Fresh E1 (.slice s3 q c3)) := ⟨_, _, h1, (Fresh.nil _).snoc F12.out, (Fresh.nil _).snoc F13.out⟩; have Q2b : Hid (Ls B w9 (some ⟨g2, 0, none⟩) m (m + 1) ws) := ⟨Q2.out.1, keep Q2.out.2⟩; have Q3a : Hid (Ls B w9 s3 q c3 zs) := ⟨Q3.out.1, keep Q3.out.2⟩; have Z2 := True.intro; clear h1 keep H0 Q1 Q2 Q3)
      | (go_at_call 11; obtain ⟨E3, v3, h3⟩ := H3.out; refine (apart_yes h3.book h3.lists).mono ?_; rintro e w12 ⟨rfl, m12⟩; have M : Far B w w12 := ⟨h3.far.low'.trans m12, Nat.le_trans h3.far.le m12.size⟩; clear m12 h3 H3)
      | (go_at_call 4; refine (lives_any _).mono ?_; rintro e w13 ⟨rfl, m13⟩; replace M := M.low m13; clear m13))
    go_ret
    exact ⟨rfl, M.low'⟩
end Go.Proofs.YtcjjaofmicegfaaDoor
