/- What the functions of the document's own ring leave behind. -/
import Derived.Test.YtppookpacdheaaaDoorRefWalk
namespace Go.Proofs.YtppookpacdheaaaDoor
open Go Go.RowKit
set_option maxRecDepth 100000
set_option linter.unusedVariables false
theorem Ref.drew {B : Nat} {w : World} {q n : Nat} {v : Value} {xs : List Int} (h : Ref B w q n v xs) (k : Nat) : Ref B (w.drewN k) q n v xs := h.below (below_drewN _ _)
theorem Next.from {B : Nat} {w w1 w' : World} {q n : Nat} {v : Value} {ys : List Int} (h : Next B w1 w' q n v ys) (hb : Below w.heap.size w w1) : Next B w w' q n v ys := by
  obtain ⟨v', h1, h2, h3⟩ := h
  refine ⟨v', h1, (Buts.of hb).trans h2, fun g hg => ?_⟩
  rcases h3 g hg with h | h
  · exact Or.inl h
  · exact Or.inr (Nat.le_trans hb.size h)
/-- a new one-cell row, an append behind the ring's own slice, and the store -/
theorem Ref.added {B : Nat} {w w2 : World} {q n b off cap m : Nat} {v : Value} {xs : List Int} {z : Int} (h : Ref B w q n v xs) (hlt : xs.length < n)
    (hp : Part B w2 (.slice (some ⟨b, off, none⟩) m cap) (xs ++ [z])) (hb : Buts v.ownBlock.toList (w.alloc (.cells #[.int .i64 z] 3)) w2) (hat : v.ownBlock = some b ∨ (w.alloc (.cells #[.int .i64 z] 3)).heap.size ≤ b) :
    w2.heap[q]? = some (.cells #[v, .int .i64 n] 57 (0, 0)) ∧ Next B w (w2.setCell ⟨q, 0, none⟩ (.slice (some ⟨b, off, none⟩) m cap)) q n v (xs ++ [z]) := by
  have hba := alloc_below w (.cells #[.int .i64 z] 3)
  have hqa := h.below hba
  have hq : w2.heap[q]? = some (.cells #[v, .int .i64 n] 57 (0, 0)) := by
    rw [hb.block q (at_lt hqa.head) (fun hm => h.ne (g := q) (by simpa using hm) rfl)]; exact hqa.head
  refine ⟨hq, h.set hp (((Buts.of hba).trans hb).mono (fun x hx => List.mem_cons_of_mem _ hx)) hq (by simp; omega) (fun g hg => ?_)⟩
  obtain rfl : b = g := by simpa [Value.ownBlock] using hg
  rcases hat with h1 | h1
  · exact Or.inl h1
  · right; rw [alloc_size] at h1; omega
set_option maxHeartbeats 2000000 in
theorem rput_any {B : Nat} {w : World} {q n : Nat} {v : Value} {xs : List Int} (h : Ref B w q n v xs) (hB : B ≤ w.heap.size) (z : Int) :
    Calls Tryd.prog 7 #[.pointer (some ⟨q, 0, none⟩), .int .i64 z] w fun e w' => e = .returned (.int .i64 (addE xs n z)) ∧ Next B w w' q n v (putL xs n z) := by
  have hC := rmay_any h z
  have HR : Hid (Ref B w q n v xs) := h
  by_cases e0 : addE xs n z = 0
  · have hlt := addE_lt e0 h.len
    have HE : Hid (putL xs n z = xs ++ [z]) := by show _ = _; unfold putL; rw [if_pos e0]
    have hmx : xs.length ≤ 1024 := Nat.le_trans h.len h.hi
    rw [e0] at hC ⊢
    obtain ⟨sp, cap, rfl, hs⟩ := h.part.src
    obtain ⟨m, hm⟩ : ∃ m, xs.length = m := ⟨_, rfl⟩
    have HM : Hid (xs.length = m) := hm
    rw [hm] at HR hlt ⊢
    clear h e0 hs hm
    go_enter Tryd.func7, Tryd.ntmps7
    go_wp2_with (first
      | (go_at_call 23; refine hC.mono ?_; rintro e w1 ⟨rfl, kq, hwx⟩; have H1 : Hid (Ref B w1 q n (.slice sp m cap) xs) := (by rw [hwx]; exact HR.out.drew kq); have B1 : Hid (Below w.heap.size w w1) := (by rw [hwx]; exact below_drewN _ _); have HBB : Hid (B ≤ w1.heap.size) := Nat.le_trans hB B1.out.size; have c0 := H1.out.c0; clear hwx)
      | (at_builtin; refine wpList_part rfl _ _ rfl rfl (v := .slice sp m cap) (z := z) rfl rfl (H1.out.below (alloc_below w1 _)).part (by omega) (by rw [alloc_size]; have := HBB.out; omega) (by rw [cell_of (alloc_at w1 _)]; rfl) ?_; intro b2 off2 cap2 w2 hp2 hb2 hat2; obtain ⟨hq2, hn2⟩ := H1.out.added (by have := HM.out; omega) hp2.out hb2.out hat2.out; have HN : Hid (Next B w1 (w2.setCell ⟨q, 0, none⟩ (.slice (some ⟨b2, off2, none⟩) (xs.length + 1) cap2)) q n (.slice sp m cap) (xs ++ [z])) := hn2; have f2 : w2.frozen? ⟨q, 0, none⟩ = false := (by simp [World.frozen?, hq2]); have k2 : w2.cell? ⟨q, 0, none⟩ = some (.slice sp m cap) := (by rw [cell_of hq2]; rfl); clear hn2 hq2))
    go_ret
    refine ⟨rfl, ?_⟩
    rw [HE.out]
    exact HN.out.from B1.out
  · have e1 : (addE xs n z == 0) = false := by simpa using e0
    have HE : Hid (putL xs n z = xs) := by show _ = _; unfold putL; rw [if_neg e0]
    clear h
    generalize addE xs n z = y at *
    go_enter Tryd.func7, Tryd.ntmps7
    go_wp2_with (first
      | (go_at_call 23; refine hC.mono ?_; rintro e w1 ⟨rfl, kq, hwx⟩; have B1 : Hid (Below w.heap.size w w1) := (by rw [hwx]; exact below_drewN _ _); clear hwx))
    go_ret
    refine ⟨rfl, ?_⟩
    rw [HE.out]
    exact HR.out.next B1.out
theorem lit_own (w : World) (z : Int) : (w.alloc (.cells #[.int .i64 z] 3)).ownsRow w.heap.size 3 1 (.slice (some ⟨w.heap.size, 0, none⟩) 1 1) 1 [.int .i64 z] := by
  have h : Row (w.alloc (.cells #[.int .i64 z] 3)) w.heap.size [z] := alloc_at w _
  exact own_row h (Nat.le_refl _) (by simp)
/-- a new row is the ring's own from now on -/
theorem Ref.fresh {B : Nat} {w w2 : World} {q n : Nat} {v v' : Value} {xs ys : List Int} (h : Ref B w q n v xs) (hB : B ≤ w.heap.size) (hb : Below w.heap.size w w2) (ho : w2.ownsRow w.heap.size 3 1 v' ys.length (ys.map (Value.int .i64))) (hl : ys.length ≤ n) :
    w2.heap[q]? = some (.cells #[v, .int .i64 n] 57 (0, 0)) ∧ Next B w (w2.setCell ⟨q, 0, none⟩ v') q n v ys := by
  have hq := (h.below hb).head
  exact ⟨hq, h.set (Part.own (owns_base ho hB)) (Buts.of hb) hq hl (fun g hg => Or.inr (ho.lt g hg).1)⟩
theorem Next.trans {B : Nat} {w w1 w2 : World} {q n : Nat} {v v1 : Value} {ys : List Int} (hu : Buts (q :: v.ownBlock.toList) w w1) (hv : ∀ g, v1.ownBlock = some g → v.ownBlock = some g ∨ w.heap.size ≤ g) (k : Next B w1 w2 q n v1 ys) : Next B w w2 q n v ys := by
  obtain ⟨v', h1, h2, h3⟩ := k
  refine ⟨v', h1, ⟨h2.os.trans hu.os, h2.tape.trans hu.tape, h2.output.trans hu.output, Nat.le_trans hu.size h2.size, fun i hi hm => ?_⟩, fun g hg => ?_⟩
  · rw [h2.block i (Nat.lt_of_lt_of_le hi hu.size) ?_, hu.block i hi hm]
    intro hm2
    rcases List.mem_cons.1 hm2 with e | hm2
    · exact hm (by rw [e]; simp)
    · rcases hv i (by simpa using hm2) with e | e
      · exact hm (List.mem_cons_of_mem _ (by simpa using e))
      · omega
  · rcases h3 g hg with e | e
    · exact hv g e
    · exact Or.inr (Nat.le_trans hu.size e)
set_option maxHeartbeats 2000000 in
theorem rpush_any {B : Nat} {w : World} {q n : Nat} {v : Value} {xs : List Int} (h : Ref B w q n v xs) (hB : B ≤ w.heap.size) (z : Int) :
    Calls Tryd.prog 9 #[.pointer (some ⟨q, 0, none⟩), .int .i64 z] w fun e w' => e = .returned (.int .i64 (addE xs n z)) ∧ Next B w w' q n v (pushL xs n z) := by
  have hC := rmay_any h z
  have HR : Hid (Ref B w q n v xs) := h
  by_cases e0 : addE xs n z = 0
  · have hlt := addE_lt e0 h.len
    have HE : Hid (pushL xs n z = z :: xs) := by show _ = _; unfold pushL; rw [if_pos e0]
    have hmx : xs.length ≤ 1024 := Nat.le_trans h.len h.hi
    obtain ⟨i0, hi, hz0, hz1, hz2⟩ := info_parts infoW
    rw [e0] at hC ⊢
    rcases h.part with ⟨rfl, rfl⟩ | ⟨b, off, cap, cur, rfl, hBb, hh, hc, hsz, hx⟩
    · clear h e0
      go_enter Tryd.func9, Tryd.ntmps9
      go_wp2_with (first
        | (go_at_call 23; refine hC.mono ?_; rintro e w1 ⟨rfl, kq, hwx⟩; have H1 : Hid (Ref B w1 q n (.slice none 0 0) []) := (by rw [hwx]; exact HR.out.drew kq); have B1 : Hid (Below w.heap.size w w1) := (by rw [hwx]; exact below_drewN _ _); have HBB : Hid (B ≤ w1.heap.size) := Nat.le_trans hB B1.out.size; have HF : Hid ((w1.alloc (.cells #[.int .i64 z] 3)).heap[q]? = some (.cells #[.slice none 0 0, .int .i64 n] 57 (0, 0)) ∧ Next B w1 ((w1.alloc (.cells #[.int .i64 z] 3)).setCell ⟨q, 0, none⟩ (.slice (some ⟨w1.heap.size, 0, none⟩) 1 1)) q n (.slice none 0 0) [z]) := H1.out.fresh HBB.out (alloc_below w1 _) (ys := [z]) (lit_own w1 z) (by simp only [List.length_nil] at hlt; simp only [List.length_cons, List.length_nil]; omega); have c0 : (w1.alloc (.cells #[.int .i64 z] 3)).cell? ⟨q, 0, none⟩ = some (.slice none 0 0) := (by rw [cell_of HF.out.1]; rfl); have f0 : (w1.alloc (.cells #[.int .i64 z] 3)).frozen? ⟨q, 0, none⟩ = false := (by simp [World.frozen?, HF.out.1]); clear hwx))
      go_ret
      refine ⟨rfl, ?_⟩
      rw [HE.out]
      exact HF.out.2.from B1.out
    · have HX : Hid (Src w (some ⟨b, off, none⟩) xs) := fun _ => ⟨b, off, rfl, fun i hi => by rw [cell_of hh]; exact hx i hi⟩
      have D1 : Hid ((xs.map (Value.int .i64)).length = xs.length * 1) := by show _ = _; simp
      obtain ⟨m, hm⟩ : ∃ m, xs.length = m := ⟨_, rfl⟩
      have HM : Hid (xs.length = m) := hm
      rw [hm] at HR hlt hmx D1 hc ⊢
      clear h e0 hm hh hx hsz hBb
      go_enter Tryd.func9, Tryd.ntmps9
      go_wp2_with (first
        | (go_at_call 23; refine hC.mono ?_; rintro e w1 ⟨rfl, kq, hwx⟩; have H1 : Hid (Ref B w1 q n (.slice (some ⟨b, off, none⟩) m cap) xs) := (by rw [hwx]; exact HR.out.drew kq); have B1 : Hid (Below w.heap.size w w1) := (by rw [hwx]; exact below_drewN _ _); have HBB : Hid (B ≤ w1.heap.size) := Nat.le_trans hB B1.out.size; have X1 : Hid (∀ j u, (xs.map (Value.int .i64))[j]? = some u → (w1.alloc (.cells #[.int .i64 z] 3)).cell? ((⟨b, off, none⟩ : Addr).add j) = some u) := src_news ((HX.out.below B1.out).below (alloc_below w1 _)); have c0 := (H1.out.below (alloc_below w1 (.cells #[.int .i64 z] 3))).c0; have O1 : Hid ((w1.alloc (.cells #[.int .i64 z] 3)).ownsRow w1.heap.size 3 1 (.slice (some ⟨w1.heap.size, 0, none⟩) 1 1) 1 [.int .i64 z]) := lit_own w1 z; clear hwx)
        | (at_builtin; refine wpList_append_own _ rfl _ _ 46 rfl w1.heap.size 3 i0 (.int .i64 0) 1 8 Tryd.underlying46 hi hz0 hz1 hz2 rfl (by decide) (.slice (some ⟨w1.heap.size, 0, none⟩) 1 1) 1 [.int .i64 z] rfl O1.out ⟨b, off, none⟩ m cap (xs.map (Value.int .i64)) rfl D1.out X1.out (ints_one _) (by simp only [maxLen]; omega) (by omega) (by rw [alloc_size]; omega) ?_; intro v' w2 ho hg _; obtain ⟨g2, c2, rfl, _⟩ := owns_spot ho (by omega); have hb2 : Below w1.heap.size w1 w2 := (alloc_below w1 _).trans ((Buts.grown hg).below (fun x hx => (O1.out.lt x (by simpa [Value.ownBlock, eq_comm] using hx)).1) (by rw [alloc_size]; omega)); have HF : Hid (w2.heap[q]? = some (.cells #[.slice (some ⟨b, off, none⟩) m cap, .int .i64 n] 57 (0, 0)) ∧ Next B w1 (w2.setCell ⟨q, 0, none⟩ (.slice (some ⟨g2, 0, none⟩) (1 + m) c2)) q n (.slice (some ⟨b, off, none⟩) m cap) (z :: xs)) := H1.out.fresh HBB.out hb2 (by rw [show (z :: xs).length = 1 + m by rw [List.length_cons, HM.out]; omega]; exact ho) (by rw [List.length_cons, HM.out]; omega); have k2 : w2.cell? ⟨q, 0, none⟩ = some (.slice (some ⟨b, off, none⟩) m cap) := (by rw [cell_of HF.out.1]; rfl); have f2 : w2.frozen? ⟨q, 0, none⟩ = false := (by simp [World.frozen?, HF.out.1]); clear ho hg hb2))
      go_ret
      refine ⟨rfl, ?_⟩
      rw [HE.out]
      exact HF.out.2.from B1.out
  · have e1 : (addE xs n z == 0) = false := by simpa using e0
    have HE : Hid (pushL xs n z = xs) := by show _ = _; unfold pushL; rw [if_neg e0]
    clear h
    generalize addE xs n z = y at *
    go_enter Tryd.func9, Tryd.ntmps9
    go_wp2_with (first
      | (go_at_call 23; refine hC.mono ?_; rintro e w1 ⟨rfl, kq, hwx⟩; have B1 : Hid (Below w.heap.size w w1) := (by rw [hwx]; exact below_drewN _ _); clear hwx))
    go_ret
    refine ⟨rfl, ?_⟩
    rw [HE.out]
    exact HR.out.next B1.out
/-- the ring's slice without its first one -/
theorem Ref.took {B : Nat} {w : World} {q n b off cap m : Nat} {x : Int} {xs : List Int} {u : Value} (h : Ref B w q n (.slice (some ⟨b, off, none⟩) m cap) (x :: xs)) (hu : u = .slice (if cap = 1 then some ⟨b, off, none⟩ else some ⟨b, off + 1, none⟩) (m - 1) (cap - 1)) :
    Next B w (w.setCell ⟨q, 0, none⟩ u) q n (.slice (some ⟨b, off, none⟩) m cap) xs := by
  subst hu
  have hl := h.len
  refine h.set h.part.tail (Buts.refl _ _) h.head (by simp at hl; omega) (fun g hg => Or.inl ?_)
  split at hg
  · exact hg
  · exact hg
set_option maxHeartbeats 1000000 in
theorem rtake_any {B : Nat} {w : World} {q n : Nat} {v : Value} {xs : List Int} (h : Ref B w q n v xs) :
    Calls Tryd.prog 11 #[.pointer (some ⟨q, 0, none⟩)] w fun e w' => e = .returned (.tuple #[.int .i64 (xs.headD 0), .int .i64 (takeE xs)]) ∧ Next B w w' q n v xs.tail := by
  have HR : Hid (Ref B w q n v xs) := h
  have c0 := h.c0
  have f0 := h.free 0
  rcases xs with _ | ⟨x, xs⟩
  · rw [takeE_nil]
    obtain ⟨sp, cap, rfl, hs⟩ := h.part.src
    rw [List.length_nil] at c0
    clear h hs
    go_enter Tryd.func11, Tryd.ntmps11
    go_wp2
    go_ret2
    exact ⟨rfl, HR.out.next (Below.refl _ _)⟩
  · rw [takeE_cons]
    rcases h.part with ⟨_, e⟩ | ⟨b, off, cap, cur, rfl, hBb, hh, hc, hsz, hx⟩
    · cases e
    · have hx0 : w.cell? ⟨b, off, none⟩ = some (.int .i64 x) := by rw [cell_of hh]; simpa using hx 0 (by simp)
      have hmx : (x :: xs).length ≤ 1024 := Nat.le_trans h.len h.hi
      obtain ⟨m, hm⟩ : ∃ m, (x :: xs).length = m := ⟨_, rfl⟩
      have hm1 : 1 ≤ m := by rw [← hm]; simp
      rw [hm] at c0 HR hc hmx ⊢
      have hmz : ((m : Int) == 0) = false := by simp; omega
      have hm1I : (1 : Int) ≤ m := by omega
      have hm0I : (0 : Int) < m := by omega
      clear h hh hx hsz hm
      by_cases h1 : cap = 1
      · subst h1
        obtain rfl : m = 1 := by omega
        have HN : Hid (Next B w (w.setCell ⟨q, 0, none⟩ (.slice (some ⟨b, off, none⟩) 0 0)) q n (.slice (some ⟨b, off, none⟩) 1 1) xs) := HR.out.took (by simp)
        go_enter Tryd.func11, Tryd.ntmps11
        go_wp2
        go_ret2
        exact ⟨rfl, HN.out⟩
      · have HN : Hid (Next B w (w.setCell ⟨q, 0, none⟩ (.slice (some ⟨b, off + 1, none⟩) (m - 1) (cap - 1))) q n (.slice (some ⟨b, off, none⟩) m cap) xs) := HR.out.took (by rw [if_neg h1])
        go_enter Tryd.func11, Tryd.ntmps11
        go_wp2
        go_ret2
        exact ⟨rfl, HN.out⟩
set_option maxHeartbeats 1000000 in
theorem rturn_any {B : Nat} {w : World} {q n : Nat} {v : Value} {xs : List Int} (h : Ref B w q n v xs) (hB : B ≤ w.heap.size) :
    Calls Tryd.prog 15 #[.pointer (some ⟨q, 0, none⟩)] w fun e w' => e = .returned (.int .i64 (takeE xs)) ∧ Next B w w' q n v (turnL xs) := by
  have hT := rtake_any h
  have hl := h.len
  have hhi := h.hi
  clear h
  rcases xs with _ | ⟨x, xs⟩
  · rw [takeE_nil] at hT ⊢
    go_enter Tryd.func15, Tryd.ntmps15
    go_wp2_with (first | (go_at_call 11; refine hT.mono ?_; rintro e w1 ⟨rfl, hn⟩; have HN : Hid (Next B w w1 q n v []) := hn; clear hn))
    go_ret
    exact ⟨rfl, HN.out⟩
  · rw [takeE_cons] at hT ⊢
    rw [List.length_cons] at hl
    go_enter Tryd.func15, Tryd.ntmps15
    go_wp2_with (first
      | (go_at_call 11; refine hT.mono ?_; rintro e w1 ⟨rfl, hn⟩; obtain ⟨v1, hr1, hu1, hv1⟩ := hn; obtain ⟨sp, cap, rfl, hs⟩ := hr1.part.src; have H1 : Hid (Ref B w1 q n (.slice sp xs.length cap) xs) := hr1; have HU : Hid (Buts (q :: v.ownBlock.toList) w w1) := hu1; have HV : Hid (∀ g, (Value.slice sp xs.length cap).ownBlock = some g → v.ownBlock = some g ∨ w.heap.size ≤ g) := hv1; have c0 := hr1.c0; clear hr1 hu1 hv1 hs)
      | (at_builtin; refine wpList_part rfl _ _ rfl rfl (v := .slice sp xs.length cap) (z := x) rfl rfl (H1.out.below (alloc_below w1 _)).part (by omega) (by rw [alloc_size]; have := HU.out.size; omega) (by rw [cell_of (alloc_at w1 _)]; rfl) ?_; intro b2 off2 cap2 w2 hp2 hb2 hat2; obtain ⟨hq2, hn2⟩ := H1.out.added (by omega) hp2.out hb2.out hat2.out; have HN : Hid (Next B w1 (w2.setCell ⟨q, 0, none⟩ (.slice (some ⟨b2, off2, none⟩) (xs.length + 1) cap2)) q n (.slice sp xs.length cap) (xs ++ [x])) := hn2; have f2 : w2.frozen? ⟨q, 0, none⟩ = false := (by simp [World.frozen?, hq2]); have k2 : w2.cell? ⟨q, 0, none⟩ = some (.slice sp xs.length cap) := (by rw [cell_of hq2]; rfl); clear hn2 hq2))
    go_ret
    exact ⟨rfl, Next.trans HU.out HV.out (by simpa [turnL] using HN.out)⟩
end Go.Proofs.YtppookpacdheaaaDoor
