/- The document's own queue, as it lies in memory, and what its functions answer and leave behind. -/
import Derived.Test.YtpbmnifnmnbojaaDoorPart
namespace Go.Proofs.YtpbmnifnmnbojaaDoor
open Go Go.RowKit
set_option maxRecDepth 100000
set_option linter.unusedVariables false
/-- the document's own queue at block q -/
structure Ref (B : Nat) (w : World) (q n : Nat) (v : Value) (xs : List Int) : Prop where
  head : w.heap[q]? = some (.cells #[v, .int .i64 n] 58 (0, 0))
  part : Part B w v xs
  lo : 1 ≤ n
  hi : n ≤ 64
  len : xs.length ≤ n
  low : B ≤ q
theorem Ref.buts {B : Nat} {w w' : World} {q n : Nat} {v : Value} {xs : List Int} {l : List Nat} (h : Ref B w q n v xs) (hb : Buts l w w') (hq : q ∉ l) (hl : ∀ g, v.ownBlock = some g → g ∉ l) : Ref B w' q n v xs :=
  ⟨(hb.block q (at_lt h.head) hq).trans h.head, h.part.buts hb hl, h.lo, h.hi, h.len, h.low⟩
theorem Ref.below {B : Nat} {w w' : World} {q n : Nat} {v : Value} {xs : List Int} (h : Ref B w q n v xs) (hb : Below w.heap.size w w') : Ref B w' q n v xs :=
  h.buts (l := []) (Buts.of hb) (by simp) (fun _ _ => by simp)
theorem Ref.ne {B : Nat} {w : World} {q n : Nat} {v : Value} {xs : List Int} (h : Ref B w q n v xs) {g : Nat} (hg : v.ownBlock = some g) : q ≠ g := by
  rintro rfl
  obtain ⟨_, _, cur, hc⟩ := h.part.lt hg
  rw [h.head] at hc
  simp at hc
/-- what a call of such a queue leaves behind -/
def Next (B : Nat) (w w' : World) (q n : Nat) (v : Value) (ys : List Int) : Prop := ∃ v', Ref B w' q n v' ys ∧ Buts (q :: v.ownBlock.toList) w w' ∧ ∀ g, v'.ownBlock = some g → v.ownBlock = some g ∨ w.heap.size ≤ g
theorem Ref.next {B : Nat} {w w' : World} {q n : Nat} {v : Value} {xs : List Int} (h : Ref B w q n v xs) (hb : Below w.heap.size w w') : Next B w w' q n v xs :=
  ⟨v, h.below hb, Buts.of hb, fun g hg => Or.inl hg⟩
theorem Ref.set {B : Nat} {w w2 : World} {q n : Nat} {v v' : Value} {xs ys : List Int} (h : Ref B w q n v xs) (hp : Part B w2 v' ys) (hb : Buts (q :: v.ownBlock.toList) w w2) (hh : w2.heap[q]? = some (.cells #[v, .int .i64 n] 58 (0, 0))) (hl : ys.length ≤ n) (hne : ∀ g, v'.ownBlock = some g → v.ownBlock = some g ∨ w.heap.size ≤ g) :
    Next B w (w2.setCell ⟨q, 0, none⟩ v') q n v ys := by
  refine ⟨v', ⟨?_, ?_, h.lo, h.hi, hl, h.low⟩, hb.trans ((Buts.cell _ _ _ _).mono (by simp)), hne⟩
  · have hlt := at_lt hh
    have hv := (Array.getElem?_eq_some_iff.1 hh).2
    unfold World.setCell
    rw [Array.getElem?_eq_getElem (by simpa using hlt), Array.getElem_modify]
    simp [hv]
  · refine hp.buts (Buts.cell _ _ _ _) (fun g hg hm => ?_)
    obtain rfl : g = q := by simpa using hm
    obtain ⟨_, _, cur, hc⟩ := hp.lt hg
    rw [hh] at hc
    simp at hc
theorem Ref.c1 {B : Nat} {w : World} {q n : Nat} {v : Value} {xs : List Int} (h : Ref B w q n v xs) : w.cell? ⟨q, 1, none⟩ = some (.int .i64 n) := by rw [cell_of h.head]; rfl
theorem Ref.c0 {B : Nat} {w : World} {q n : Nat} {v : Value} {xs : List Int} (h : Ref B w q n v xs) : w.cell? ⟨q, 0, none⟩ = some v := by rw [cell_of h.head]; rfl
theorem Ref.free {B : Nat} {w : World} {q n : Nat} {v : Value} {xs : List Int} (h : Ref B w q n v xs) (i : Nat) : w.frozen? ⟨q, i, none⟩ = false := by simp [World.frozen?, h.head]
theorem rnew_yes {w : World} (n : Nat) (h1 : 1 ≤ n) (hn : n ≤ 64) :
    Calls Tryd.prog 5 #[.int .i64 n] w fun e w' => e = .returned (.tuple #[.pointer (some ⟨w.heap.size, 0, none⟩), .int .i64 0]) ∧ Ref w.heap.size w' w.heap.size n (.slice none 0 0) [] ∧ Below w.heap.size w w' := by
  have a1 : ¬ (n : Int) < 1 := by omega
  have a2 : ¬ (64 : Int) < n := by omega
  go_enter Tryd.func5, Tryd.ntmps5
  go_wp2
  go_ret2
  exact ⟨rfl, ⟨alloc_at w _, Or.inl ⟨rfl, rfl⟩, h1, hn, by simp, Nat.le_refl _⟩, alloc_below w _⟩
theorem rnew_no {w : World} (n : Int) (h : n < 1 ∨ 64 < n) :
    Calls Tryd.prog 5 #[.int .i64 n] w fun e w' => e = .returned (.tuple #[.pointer none, .int .i64 1]) ∧ w = w' := by
  by_cases h1 : n < 1
  · go_enter Tryd.func5, Tryd.ntmps5
    go_wp2
    go_ret2
    exact ⟨rfl, rfl⟩
  · have h2 : 64 < n := by omega
    go_enter Tryd.func5, Tryd.ntmps5
    go_wp2
    go_ret2
    exact ⟨rfl, rfl⟩
set_option maxHeartbeats 1000000 in
/-- the list that is told is memory of its own -/
theorem rlist_any {B : Nat} {w : World} {q n : Nat} {v : Value} {xs : List Int} (h : Ref B w q n v xs) :
    Calls Tryd.prog 16 #[.pointer (some ⟨q, 0, none⟩)] w fun e w' => ∃ sp cap, e = .returned (.slice sp xs.length cap) ∧ Src w' sp xs ∧ Below w.heap.size w w' := by
  have c0 := h.c0
  have hmx : xs.length ≤ 64 := Nat.le_trans h.len h.hi
  obtain ⟨i0, hi, hz0, hz1, hz2⟩ := info_parts infoW
  rcases h.part with ⟨rfl, rfl⟩ | ⟨b, off, cap, cur, rfl, hB, hh, hc, hsz, hx⟩
  · clear h
    go_enter Tryd.func16, Tryd.ntmps16
    go_wp2
    go_ret
    exact ⟨none, 0, rfl, fun h => by simp at h, Below.refl _ _⟩
  · have HN : Hid (∀ j u, (xs.map (Value.int .u32))[j]? = some u → w.cell? ((⟨b, off, none⟩ : Addr).add j) = some u) := src_news (fun _ => ⟨b, off, rfl, fun i hi => by rw [cell_of hh]; exact hx i hi⟩)
    have D1 : Hid ((xs.map (Value.int .u32)).length = xs.length * 1) := by show _ = _; simp
    clear h hh hx hsz hB
    obtain ⟨m, hm⟩ : ∃ m, xs.length = m := ⟨_, rfl⟩
    have HM : Hid (xs.length = m) := hm
    rw [hm] at c0 D1 hmx hc ⊢
    clear hm
    go_enter Tryd.func16, Tryd.ntmps16
    go_wp2_with (first
      | (at_builtin; refine wpList_append_own _ rfl _ _ 46 rfl w.heap.size 40 i0 (.int .u32 0) 1 4 Tryd.underlying46 hi hz0 hz1 hz2 rfl (by decide) (.slice none 0 0) 0 [] rfl (World.ownsRow_nil _ _ _ _) ⟨b, off, none⟩ m cap (xs.map (Value.int .u32)) rfl D1.out HN.out (ints_one _) (by simp only [maxLen]; omega) (by omega) (Nat.le_refl _) ?_; intro v' w1 ho hg _; rw [Nat.zero_add, List.nil_append, ← HM.out] at ho; obtain ⟨sp1, c1, rfl, hs1⟩ := Src.own ho; have HS : Hid (Src w1 sp1 xs) := hs1; have HB : Hid (Below w.heap.size w w1) := (Buts.grown hg).below (fun x hx => (by simp [Value.ownBlock] at hx)) (Nat.le_refl _); rw [HM.out]; clear ho hg hs1))
    go_ret
    exact ⟨sp1, ⟨c1, rfl⟩, HS.out, HB.out⟩
theorem Ref.drew {B : Nat} {w : World} {q n : Nat} {v : Value} {xs : List Int} (h : Ref B w q n v xs) (k : Nat) : Ref B (w.drewN k) q n v xs := h.below (below_drewN _ _)
theorem Next.from {B : Nat} {w w1 w' : World} {q n : Nat} {v : Value} {ys : List Int} (h : Next B w1 w' q n v ys) (hb : Below w.heap.size w w1) : Next B w w' q n v ys := by
  obtain ⟨v', h1, h2, h3⟩ := h
  refine ⟨v', h1, (Buts.of hb).trans h2, fun g hg => ?_⟩
  rcases h3 g hg with h | h
  · exact Or.inl h
  · exact Or.inr (Nat.le_trans hb.size h)
/-- a new one-cell row, an append behind the ring's own slice, and the store -/
theorem Ref.added {B : Nat} {w w2 : World} {q n b off cap m : Nat} {v : Value} {xs : List Int} {z : Int} (h : Ref B w q n v xs) (hlt : xs.length < n)
    (hp : Part B w2 (.slice (some ⟨b, off, none⟩) m cap) (xs ++ [z])) (hb : Buts v.ownBlock.toList (w.alloc (.cells #[.int .u32 z] 40)) w2) (hat : v.ownBlock = some b ∨ (w.alloc (.cells #[.int .u32 z] 40)).heap.size ≤ b) :
    w2.heap[q]? = some (.cells #[v, .int .i64 n] 58 (0, 0)) ∧ Next B w (w2.setCell ⟨q, 0, none⟩ (.slice (some ⟨b, off, none⟩) m cap)) q n v (xs ++ [z]) := by
  have hba := alloc_below w (.cells #[.int .u32 z] 40)
  have hqa := h.below hba
  have hq : w2.heap[q]? = some (.cells #[v, .int .i64 n] 58 (0, 0)) := by
    rw [hb.block q (at_lt hqa.head) (fun hm => h.ne (g := q) (by simpa using hm) rfl)]; exact hqa.head
  refine ⟨hq, h.set hp (((Buts.of hba).trans hb).mono (fun x hx => List.mem_cons_of_mem _ hx)) hq (by simp; omega) (fun g hg => ?_)⟩
  obtain rfl : b = g := by simpa [Value.ownBlock] using hg
  rcases hat with h1 | h1
  · exact Or.inl h1
  · right; rw [alloc_size] at h1; omega
theorem lit_own (w : World) (z : Int) : (w.alloc (.cells #[.int .u32 z] 40)).ownsRow w.heap.size 40 1 (.slice (some ⟨w.heap.size, 0, none⟩) 1 1) 1 [.int .u32 z] := by
  have h : Row (w.alloc (.cells #[.int .u32 z] 40)) w.heap.size [z] := alloc_at w _
  exact own_row h (Nat.le_refl _) (by simp)
/-- a new row is the ring's own from now on -/
theorem Ref.fresh {B : Nat} {w w2 : World} {q n : Nat} {v v' : Value} {xs ys : List Int} (h : Ref B w q n v xs) (hB : B ≤ w.heap.size) (hb : Below w.heap.size w w2) (ho : w2.ownsRow w.heap.size 40 1 v' ys.length (ys.map (Value.int .u32))) (hl : ys.length ≤ n) :
    w2.heap[q]? = some (.cells #[v, .int .i64 n] 58 (0, 0)) ∧ Next B w (w2.setCell ⟨q, 0, none⟩ v') q n v ys := by
  have hq := (h.below hb).head
  exact ⟨hq, h.set (Part.own (owns_base ho hB)) (Buts.of hb) hq hl (fun g hg => Or.inr (ho.lt g hg).1)⟩
/-- the ring's slice without its first one -/
theorem Ref.took {B : Nat} {w : World} {q n b off cap m : Nat} {x : Int} {xs : List Int} {u : Value} (h : Ref B w q n (.slice (some ⟨b, off, none⟩) m cap) (x :: xs)) (hu : u = .slice (if cap = 1 then some ⟨b, off, none⟩ else some ⟨b, off + 1, none⟩) (m - 1) (cap - 1)) :
    Next B w (w.setCell ⟨q, 0, none⟩ u) q n (.slice (some ⟨b, off, none⟩) m cap) xs := by
  subst hu
  have hl := h.len
  refine h.set h.part.tail (Buts.refl _ _) h.head (by simp at hl; omega) (fun g hg => Or.inl ?_)
  split at hg
  · exact hg
  · exact hg
set_option maxHeartbeats 2000000 in
theorem rput_any {B : Nat} {w : World} {q n : Nat} {v : Value} {xs : List Int} (h : Ref B w q n v xs) (hB : B ≤ w.heap.size) (z : Int) :
    Calls Tryd.prog 7 #[.pointer (some ⟨q, 0, none⟩), .int .u32 z] w fun e w' => e = .returned (.int .i64 (addE xs n)) ∧ Next B w w' q n v (putL xs n z) := by
  have HR : Hid (Ref B w q n v xs) := h
  have hmx : xs.length ≤ 64 := Nat.le_trans h.len h.hi
  have hle := h.len
  obtain ⟨sp, cap, rfl, hs⟩ := h.part.src
  have c0 := h.c0
  have c1 := h.c1
  by_cases e0 : xs.length = n
  · rw [addE_full e0, putL_full e0]
    have hF : ((xs.length : Int) == (n : Int)) = true := by simp; omega
    clear h hs e0 hle
    generalize xs.length = m at *
    go_enter Tryd.func7, Tryd.ntmps7
    go_wp2
    go_quiet ((fail))
    go_wp2
    go_ret
    exact ⟨rfl, HR.out.next (below_drewN _ _)⟩
  · rw [addE_ok e0, putL_ok e0]
    have hF : ((xs.length : Int) == (n : Int)) = false := by simp; omega
    have hlt : xs.length < n := by omega
    obtain ⟨m, hm⟩ : ∃ m, xs.length = m := ⟨_, rfl⟩
    have HM : Hid (xs.length = m) := hm
    rw [hm] at HR hlt hF c0 ⊢
    clear h hs hm hle e0
    go_enter Tryd.func7, Tryd.ntmps7
    go_wp2
    go_quiet ((fail))
    obtain ⟨w1, hw1⟩ : ∃ w1, w1 = w.drewN nq := ⟨_, rfl⟩
    rw [← hw1]
    have H1 : Hid (Ref B w1 q n (.slice sp m cap) xs) := by rw [hw1]; exact HR.out.drew _
    have B1 : Hid (Below w.heap.size w w1) := by rw [hw1]; exact below_drewN _ _
    have HBB : Hid (B ≤ w1.heap.size) := Nat.le_trans hB B1.out.size
    clear hw1 c0 c1
    have c0 := H1.out.c0
    go_wp2_with (first
      | (at_builtin; refine wpList_part rfl _ _ rfl rfl (v := .slice sp m cap) (z := z) rfl rfl (H1.out.below (alloc_below w1 _)).part (by omega) (by rw [alloc_size]; have := HBB.out; omega) (by rw [cell_of (alloc_at w1 _)]; rfl) ?_; intro b2 off2 cap2 w2 hp2 hb2 hat2; obtain ⟨hq2, hn2⟩ := H1.out.added (by have := HM.out; omega) hp2.out hb2.out hat2.out; have HN : Hid (Next B w1 (w2.setCell ⟨q, 0, none⟩ (.slice (some ⟨b2, off2, none⟩) (xs.length + 1) cap2)) q n (.slice sp m cap) (xs ++ [z])) := hn2; have f2 : w2.frozen? ⟨q, 0, none⟩ = false := (by simp [World.frozen?, hq2]); have k2 : w2.cell? ⟨q, 0, none⟩ = some (.slice sp m cap) := (by rw [cell_of hq2]; rfl); clear hn2 hq2))
    go_ret
    exact ⟨rfl, HN.out.from B1.out⟩
set_option maxHeartbeats 2000000 in
theorem rpush_any {B : Nat} {w : World} {q n : Nat} {v : Value} {xs : List Int} (h : Ref B w q n v xs) (hB : B ≤ w.heap.size) (z : Int) :
    Calls Tryd.prog 9 #[.pointer (some ⟨q, 0, none⟩), .int .u32 z] w fun e w' => e = .returned (.int .i64 (addE xs n)) ∧ Next B w w' q n v (pushL xs n z) := by
  have HR : Hid (Ref B w q n v xs) := h
  have hmx : xs.length ≤ 64 := Nat.le_trans h.len h.hi
  have hle := h.len
  have c0 := h.c0
  have c1 := h.c1
  obtain ⟨i0, hi, hz0, hz1, hz2⟩ := info_parts infoW
  by_cases e0 : xs.length = n
  · rw [addE_full e0, pushL_full e0]
    obtain ⟨sp, cap, rfl, hs⟩ := h.part.src
    have hF : ((xs.length : Int) == (n : Int)) = true := by simp; omega
    clear h hs e0 hle
    generalize xs.length = m at *
    go_enter Tryd.func9, Tryd.ntmps9
    go_wp2
    go_quiet ((fail))
    go_wp2
    go_ret
    exact ⟨rfl, HR.out.next (below_drewN _ _)⟩
  · rw [addE_ok e0, pushL_ok e0]
    have hF : ((xs.length : Int) == (n : Int)) = false := by simp; omega
    have hlt : xs.length < n := by omega
    rcases h.part with ⟨rfl, rfl⟩ | ⟨b, off, cap, cur, rfl, hBb, hh, hc, hsz, hx⟩
    · have hF0 : ((0 : Int) == (n : Int)) = false := by simpa using hF
      clear h e0 hle hF
      go_enter Tryd.func9, Tryd.ntmps9
      go_wp2
      go_quiet ((fail))
      obtain ⟨w1, hw1⟩ : ∃ w1, w1 = w.drewN nq := ⟨_, rfl⟩
      rw [← hw1]
      have H1 : Hid (Ref B w1 q n (.slice none 0 0) []) := by rw [hw1]; exact HR.out.drew _
      have B1 : Hid (Below w.heap.size w w1) := by rw [hw1]; exact below_drewN _ _
      have HBB : Hid (B ≤ w1.heap.size) := Nat.le_trans hB B1.out.size
      have HF : Hid ((w1.alloc (.cells #[.int .u32 z] 40)).heap[q]? = some (.cells #[.slice none 0 0, .int .i64 n] 58 (0, 0)) ∧ Next B w1 ((w1.alloc (.cells #[.int .u32 z] 40)).setCell ⟨q, 0, none⟩ (.slice (some ⟨w1.heap.size, 0, none⟩) 1 1)) q n (.slice none 0 0) [z]) := H1.out.fresh HBB.out (alloc_below w1 _) (ys := [z]) (lit_own w1 z) (by simp only [List.length_nil] at hlt; simp only [List.length_cons, List.length_nil]; omega)
      have c0 : (w1.alloc (.cells #[.int .u32 z] 40)).cell? ⟨q, 0, none⟩ = some (.slice none 0 0) := by rw [cell_of HF.out.1]; rfl
      have f0 : (w1.alloc (.cells #[.int .u32 z] 40)).frozen? ⟨q, 0, none⟩ = false := by simp [World.frozen?, HF.out.1]
      clear hw1
      go_wp2
      go_ret
      exact ⟨rfl, HF.out.2.from B1.out⟩
    · have HX : Hid (Src w (some ⟨b, off, none⟩) xs) := fun _ => ⟨b, off, rfl, fun i hi => by rw [cell_of hh]; exact hx i hi⟩
      have D1 : Hid ((xs.map (Value.int .u32)).length = xs.length * 1) := by show _ = _; simp
      obtain ⟨m, hm⟩ : ∃ m, xs.length = m := ⟨_, rfl⟩
      have HM : Hid (xs.length = m) := hm
      rw [hm] at HR hlt hmx D1 hc hF c0 ⊢
      clear h e0 hm hh hx hsz hBb hle
      go_enter Tryd.func9, Tryd.ntmps9
      go_wp2
      go_quiet ((fail))
      obtain ⟨w1, hw1⟩ : ∃ w1, w1 = w.drewN nq := ⟨_, rfl⟩
      rw [← hw1]
      have H1 : Hid (Ref B w1 q n (.slice (some ⟨b, off, none⟩) m cap) xs) := by rw [hw1]; exact HR.out.drew _
      have B1 : Hid (Below w.heap.size w w1) := by rw [hw1]; exact below_drewN _ _
      have HBB : Hid (B ≤ w1.heap.size) := Nat.le_trans hB B1.out.size
      have X1 : Hid (∀ j u, (xs.map (Value.int .u32))[j]? = some u → (w1.alloc (.cells #[.int .u32 z] 40)).cell? ((⟨b, off, none⟩ : Addr).add j) = some u) := src_news ((HX.out.below B1.out).below (alloc_below w1 _))
      clear c0 c1 hw1
      have c0 := (H1.out.below (alloc_below w1 (.cells #[.int .u32 z] 40))).c0
      have O1 : Hid ((w1.alloc (.cells #[.int .u32 z] 40)).ownsRow w1.heap.size 40 1 (.slice (some ⟨w1.heap.size, 0, none⟩) 1 1) 1 [.int .u32 z]) := lit_own w1 z
      go_wp2_with (first
        | (at_builtin; refine wpList_append_own _ rfl _ _ 46 rfl w1.heap.size 40 i0 (.int .u32 0) 1 4 Tryd.underlying46 hi hz0 hz1 hz2 rfl (by decide) (.slice (some ⟨w1.heap.size, 0, none⟩) 1 1) 1 [.int .u32 z] rfl O1.out ⟨b, off, none⟩ m cap (xs.map (Value.int .u32)) rfl D1.out X1.out (ints_one _) (by simp only [maxLen]; omega) (by omega) (by rw [alloc_size]; omega) ?_; intro v' w2 ho hg _; obtain ⟨g2, c2, rfl, _⟩ := owns_spot ho (by omega); have hb2 : Below w1.heap.size w1 w2 := (alloc_below w1 _).trans ((Buts.grown hg).below (fun x hx => (O1.out.lt x (by simpa [Value.ownBlock, eq_comm] using hx)).1) (by rw [alloc_size]; omega)); have HF : Hid (w2.heap[q]? = some (.cells #[.slice (some ⟨b, off, none⟩) m cap, .int .i64 n] 58 (0, 0)) ∧ Next B w1 (w2.setCell ⟨q, 0, none⟩ (.slice (some ⟨g2, 0, none⟩) (1 + m) c2)) q n (.slice (some ⟨b, off, none⟩) m cap) (z :: xs)) := H1.out.fresh HBB.out hb2 (by rw [show (z :: xs).length = 1 + m by rw [List.length_cons, HM.out]; omega]; exact ho) (by rw [List.length_cons, HM.out]; omega); have k2 : w2.cell? ⟨q, 0, none⟩ = some (.slice (some ⟨b, off, none⟩) m cap) := (by rw [cell_of HF.out.1]; rfl); have f2 : w2.frozen? ⟨q, 0, none⟩ = false := (by simp [World.frozen?, HF.out.1]); clear ho hg hb2))
      go_ret
      exact ⟨rfl, HF.out.2.from B1.out⟩
theorem rpeek_any {B : Nat} {w : World} {q n : Nat} {v : Value} {xs : List Int} (h : Ref B w q n v xs) :
    Calls Tryd.prog 13 #[.pointer (some ⟨q, 0, none⟩)] w fun e w' => e = .returned (.tuple #[.int .u32 (xs.headD 0), .int .i64 (takeE xs)]) ∧ w = w' := by
  have c0 := h.c0
  obtain ⟨sp, cap, rfl, hs⟩ := h.part.src
  rcases xs with _ | ⟨x, xs⟩
  · rw [takeE_nil]
    rw [List.length_nil] at c0
    clear h hs
    go_enter Tryd.func13, Tryd.ntmps13
    go_wp2
    go_ret2
    exact ⟨rfl, rfl⟩
  · rw [takeE_cons]
    obtain ⟨b, off, rfl, hc⟩ := hs (by simp)
    have kz := hc 0 (by simp)
    rw [Nat.add_zero, List.getD_cons_zero] at kz
    have hm1 : 0 < (x :: xs).length := by simp
    generalize (x :: xs).length = m at *
    have hmz : ((m : Int) == 0) = false := by simp; omega
    have hm0I : (0 : Int) < m := by omega
    clear h hc hs
    go_enter Tryd.func13, Tryd.ntmps13
    go_wp2
    go_ret2
    exact ⟨rfl, rfl⟩
set_option maxHeartbeats 1000000 in
theorem rtake_any {B : Nat} {w : World} {q n : Nat} {v : Value} {xs : List Int} (h : Ref B w q n v xs) :
    Calls Tryd.prog 11 #[.pointer (some ⟨q, 0, none⟩)] w fun e w' => e = .returned (.tuple #[.int .u32 (xs.headD 0), .int .i64 (takeE xs)]) ∧ Next B w w' q n v xs.tail := by
  have hP := rpeek_any h
  have HR : Hid (Ref B w q n v xs) := h
  have c0 := h.c0
  have f0 := h.free 0
  rcases xs with _ | ⟨x, xs⟩
  · rw [takeE_nil] at hP ⊢
    clear h
    go_enter Tryd.func11, Tryd.ntmps11
    go_wp2_with (first | (go_at_call 13; refine hP.mono ?_; rintro e wx ⟨rfl, rfl⟩))
    go_ret2
    exact ⟨rfl, HR.out.next (Below.refl _ _)⟩
  · rw [takeE_cons] at hP ⊢
    rcases h.part with ⟨_, e⟩ | ⟨b, off, cap, cur, rfl, hBb, hh, hc, hsz, hx⟩
    · cases e
    · have hmx : (x :: xs).length ≤ 64 := Nat.le_trans h.len h.hi
      obtain ⟨m, hm⟩ : ∃ m, (x :: xs).length = m := ⟨_, rfl⟩
      have hm1 : 1 ≤ m := by rw [← hm]; simp
      rw [hm] at c0 HR hc hmx ⊢
      have hm1I : (1 : Int) ≤ m := by omega
      clear h hh hx hsz hm
      by_cases h1 : cap = 1
      · subst h1
        obtain rfl : m = 1 := by omega
        have HN : Hid (Next B w (w.setCell ⟨q, 0, none⟩ (.slice (some ⟨b, off, none⟩) 0 0)) q n (.slice (some ⟨b, off, none⟩) 1 1) xs) := HR.out.took (by simp)
        go_enter Tryd.func11, Tryd.ntmps11
        go_wp2_with (first | (go_at_call 13; refine hP.mono ?_; rintro e wx ⟨rfl, rfl⟩))
        go_ret2
        exact ⟨rfl, HN.out⟩
      · have HN : Hid (Next B w (w.setCell ⟨q, 0, none⟩ (.slice (some ⟨b, off + 1, none⟩) (m - 1) (cap - 1))) q n (.slice (some ⟨b, off, none⟩) m cap) xs) := HR.out.took (by rw [if_neg h1])
        go_enter Tryd.func11, Tryd.ntmps11
        go_wp2_with (first | (go_at_call 13; refine hP.mono ?_; rintro e wx ⟨rfl, rfl⟩))
        go_ret2
        exact ⟨rfl, HN.out⟩
end Go.Proofs.YtpbmnifnmnbojaaDoor
