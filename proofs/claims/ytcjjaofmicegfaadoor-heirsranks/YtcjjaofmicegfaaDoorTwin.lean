/- The statements' own twin of numbers: a row of its own, with a number 77 behind it; whether it is still what it was. -/
import Derived.Test.YtcjjaofmicegfaaDoorSeen
namespace Go.Proofs.YtcjjaofmicegfaaDoor
open Go Go.RowKit
set_option maxRecDepth 100000
set_option linter.unusedVariables false
set_option linter.unusedSimpArgs false
theorem Row.below {w w' : World} {g : Nat} {xs : List Int} (h : Row w g xs) (hb : Below w.heap.size w w') : Row w' g xs := (hb.block g h.lt).trans h
theorem num_take (zs : List Int) (k : Nat) : (num zs).take k = num (zs.take k) := by simp [num, List.map_take]
theorem num_drop (zs : List Int) (k : Nat) : (num zs).drop k = num (zs.drop k) := by simp [num, List.map_drop]
theorem num_app (xs ys : List Int) : num (xs ++ ys) = num xs ++ num ys := by simp [num]
theorem src_news {w : World} {a : Addr} {zs : List Int} (h : Src w (some a) zs) : ∀ j u, (num zs)[j]? = some u → w.cell? (a.add j) = some u := h.news (Below.refl _ _)
theorem Src.one (w : World) (z : Int) : Src (w.alloc (.cells #[.int .i64 z] 3)) (some ⟨w.heap.size, 0, none⟩) [z] := fun _ =>
  ⟨w.heap.size, 0, rfl, fun i hi => by
    rw [cell_of (alloc_at w _)]
    rcases i with _ | i
    · rfl
    · simp at hi⟩
theorem made_zero (n : Nat) : madeCells (Value.int .i64 0).cells n = (num (List.replicate n 0)).toArray := by
  apply Array.ext_getElem?
  intro i
  by_cases hi : i < n
  · simp [madeCells, Value.cells, num, hi, Nat.mod_one]
  · simp [madeCells, Value.cells, num, hi]
theorem make_zero (w : World) (l c : Nat) (hl : l ≤ c) (hc : c ≤ 1000000) :
    (Instr.makeSlice 22 (.int .i64 l) (.int .i64 c)).run Tryd.prog w = .ok (.slice (some ⟨w.heap.size, 0, none⟩) l c) (w.alloc (.cells (num (List.replicate c 0)).toArray 3)) := by
  obtain ⟨i, hi, h1, h2, h3⟩ := info_parts' infoW
  have := run_make w 22 3 i (.int .i64 0) Tryd.underlying22 hi h1 .i64 .i64 l c (by omega) (by omega) (by rw [h3]; omega) (by omega)
  rw [this, h2, Nat.mul_one, made_zero]
  simp
/-- a nume put behind others where there is room, at the call -/
theorem wpList_room {w : World} {ops : Array Oper} {rest : List Oper} {o : Oper} {a : Act} {Q : Exit → Act → World → Prop} (hgd : o.guard = none) (s x : Operand)
    (ho : o.op = .call { callee := .builtin .append, args := #[s, x], argTypes := #[22, 22] }) (hty : o.type = 22) {g l cap b : Nat} {cur : List Int} {z : Int} (hse : a.eval s = .slice (some ⟨g, 0, none⟩) l cap) (hx : a.eval x = .slice (some ⟨b, 0, none⟩) 1 1)
    (hg : Row w g cur) (hc : cur.length = cap) (hb : Src w (some ⟨b, 0, none⟩) [z]) (hl : l + 1 ≤ cap)
    (h : ∀ w', Hid (Row w' g (cur.set l z)) → Hid (Buts [g] w w') → wpList Tryd.prog ops Q rest (a.put o.dst (.slice (some ⟨g, 0, none⟩) (l + 1) cap)) w') : wpList Tryd.prog ops Q (o :: rest) a w := by
  refine wpList_plain hgd fun K hK => ?_
  obtain ⟨i, hi, h1, h2, h3⟩ := info_parts' infoW
  have hr := run_append_room (P := Tryd.prog) w 22 22 3 i Tryd.underlying22 hi g l cap (num cur).toArray hg ⟨b, 0, none⟩ 1 1 [.int .i64 z] (by rw [h2]; rfl) (src_news hb) (num_one [z]) hl (by simp [h2, num_len]; omega)
  unfold Oper.wp execOp
  simp only [ho, resolve, invoke, builtin, Sem.run_bind, Sem.run_pure, Result.andThen_ok, List.map_toArray, List.map_cons, List.map_nil, hse, hx]
  rw [hty, hr]
  refine hK _ _ (h _ ?_ ⟨rfl, rfl, rfl, by simp [World.setRow], fun k hk hk2 => setRow_other w g k _ (by simpa using hk2)⟩)
  show Row _ _ _
  unfold Row
  rw [setRow_heap w g _ _ 3 (0, 0) hg]
  congr 2
  have e : List.take (l * i.size) (num cur).toArray.toList ++ [Value.int .i64 z] ++ List.drop (l * i.size + [Value.int .i64 z].length) (num cur).toArray.toList = num (cur.set l z) := by
    rw [h2, Nat.mul_one]
    show (num cur).take l ++ [Value.int .i64 z] ++ (num cur).drop (l + 1) = _
    rw [num_take, num_drop, show [Value.int .i64 z] = num [z] from rfl, ← num_app, ← num_app]
    congr 1
    rw [List.set_eq_take_append_cons_drop, if_pos (by omega)]
    simp
  rw [e]
theorem take_set (zs : List Int) (n i : Nat) (hi : i < zs.length) (hn : zs.length = n) : (zs.take i ++ List.replicate (n + 1 - i) 0).set i (zs.getD i 0) = zs.take (i + 1) ++ List.replicate (n + 1 - (i + 1)) 0 := by
  rw [List.set_append_right _ _ (by simp; omega), show i - (zs.take i).length = 0 by simp; omega, show n + 1 - i = (n - i) + 1 by omega, List.replicate_succ, List.set_cons_zero, List.take_succ_eq_append_getElem hi, show n + 1 - (i + 1) = n - i by omega, List.append_assoc, List.singleton_append, show zs.getD i 0 = zs[i] by simp [hi]]
theorem end_set (zs : List Int) (n : Nat) (hn : zs.length = n) : (zs.take n ++ List.replicate (n + 1 - n) 0).set n 77 = zs ++ [77] := by
  rw [← hn, List.take_length, show zs.length + 1 - zs.length = 1 by omega]
  simp
set_option maxHeartbeats 2000000 in
theorem twin_any {w : World} {n : Nat} {sp : Option Addr} {zs : List Int} (hs : Src w sp zs) (hn : zs.length = n) (hl : n ≤ 100000) (c : Nat) :
    Calls Tryd.prog 5 #[.slice sp n c] w fun e w' => ∃ d, e = .returned (.slice (some ⟨w.heap.size, 0, none⟩) n d) ∧ (Row w' w.heap.size (zs ++ [77]) ∧ d = n + 1) ∧ Below w.heap.size w w' := by
  have hmk : (Instr.makeSlice 22 (.int .i64 0) (.int .i64 ((n : Int) + 1))).run Tryd.prog w = .ok (.slice (some ⟨w.heap.size, 0, none⟩) 0 (n + 1)) (w.alloc (.cells (num (List.replicate (n + 1) 0)).toArray 3)) := make_zero w 0 (n + 1) (by omega) (by omega)
  have hB := alloc_below w (.cells (num (List.replicate (n + 1) 0)).toArray 3)
  have hA : Row (w.alloc (.cells (num (List.replicate (n + 1) 0)).toArray 3)) w.heap.size (List.replicate (n + 1) 0) := alloc_at w _
  have HN : Hid (zs.length = n) := hn
  have HS : Hid (Src w sp zs) := hs
  clear hn hs
  generalize w.alloc (.cells (num (List.replicate (n + 1) 0)).toArray 3) = w1 at *
  go_enter Tryd.func5, Tryd.ntmps5
  go_wp2
  go_loopg [3, 4] n (fun g s3 s4 wx => ∃ i : Nat, i + g = n ∧ s4 = .int .i64 i ∧ s3 = .slice (some ⟨w.heap.size, 0, none⟩) i (n + 1) ∧ Below w.heap.size w wx ∧ Hid (Row wx w.heap.size (zs.take i ++ List.replicate (n + 1 - i) 0)))
  case atStart => exact ⟨0, by omega, rfl, rfl, hB, hA⟩
  case round =>
    clear hB hA hmk
    obtain ⟨i, hig, rfl, rfl, hB, HR⟩ := hrel
    cases gk with
    | zero =>
      obtain rfl : i = n := by omega
      have hb2 := alloc_below wr (.cells #[.int .i64 77] 3)
      have hr2 := HR.out.below hb2
      have hls := hB.size
      have HL : Hid ((zs.take i ++ List.replicate (i + 1 - i) 0).length = i + 1) := by show _ = _; simp [HN.out]
      have hlt : ¬ ((i : Int) < i) := by omega
      go_wp2_with (at_builtin; refine wpList_room rfl (.tmp 22) (.tmp 23) rfl rfl rfl rfl hr2 HL.out (Src.one _ _) (Nat.le_refl _) ?_; intro w3 HR3 hb3)
      go_ret
      refine ⟨_, rfl, ⟨?_, rfl⟩, hB.trans ((hb2.mono hls).trans (hb3.out.below (by simp) (by have := hb2.size; omega)))⟩
      have := HR3.out
      rwa [end_set zs i HN.out] at this
    | succ g =>
      have hlt : (i : Int) < n := by omega
      obtain ⟨b1, o1, rfl, c1⟩ := HS.out (by rw [HN.out]; omega)
      have hci := (hB.cell (p := ⟨b1, o1 + i, none⟩) (cell_lt (c1 i (by rw [HN.out]; omega)))).trans (c1 i (by rw [HN.out]; omega))
      clear c1
      have HT : Hid ((zs.take i ++ List.replicate (n + 1 - i) 0).set i (zs.getD i 0) = zs.take (i + 1) ++ List.replicate (n + 1 - (i + 1)) 0) := take_set zs n i (by rw [HN.out]; omega) HN.out
      generalize zs.getD i 0 = zi at *
      have hb2 := alloc_below wr (.cells #[.int .i64 zi] 3)
      have hr2 := HR.out.below hb2
      have hls := hB.size
      have HL : Hid ((zs.take i ++ List.replicate (n + 1 - i) 0).length = n + 1) := by show _ = _; simp [HN.out]; omega
      go_wp2_with (at_builtin; refine wpList_room rfl (.tmp 15) (.tmp 20) rfl rfl rfl rfl hr2 HL.out (Src.one _ _) (by omega) ?_; intro w3 HR3 hb3)
      go_roundg g
      case measure => omega
      case rel => exact ⟨i + 1, by omega, by go_num, rfl, hB.trans ((hb2.mono hls).trans (hb3.out.below (by simp) (by have := hb2.size; omega))), by show Row _ _ _; rw [← HT.out]; exact HR3.out⟩
theorem row_at {w : World} {g : Nat} {zs : List Int} {i : Nat} (h : Row w g zs) (hi : i < zs.length) : w.cell? ⟨g, i, none⟩ = some (.int .i64 (zs.getD i 0)) := by
  rw [cell_of h]
  simpa using num_at zs i hi
theorem end_at (zs ys : List Int) (z : Int) {n : Nat} (h : zs.length = n) : (zs ++ z :: ys).getD n 0 = z := by
  subst h
  simp
theorem app_at {xs ys : List Int} {i : Nat} (h : i < xs.length) : (xs ++ ys).getD i 0 = xs.getD i 0 := by
  simp [List.getElem?_append_left h]
set_option maxHeartbeats 4000000 in
theorem left_any {w : World} {sp : Option Addr} {zs : List Int} {O n : Nat} (ht : Row w O (zs ++ [77])) (hs : Src w sp zs) (hn : zs.length = n) (hl : n ≤ 100000) (c : Nat) :
    Calls Tryd.prog 9 #[.slice (some ⟨O, 0, none⟩) n (n + 1), .slice sp n c] w fun e w' => e = .returned (.bool true) ∧ Below w.heap.size w w' := by
  have HS : Hid (Src w sp zs) := hs
  have HT : Hid (Row w O (zs ++ [77])) := ht
  have HN : Hid (zs.length = n) := hn
  have hcap : ¬ ((n : Int) + 1 ≤ n) := by omega
  clear hs ht hn
  go_enter Tryd.func9, Tryd.ntmps9
  go_wp2
  go_loopg [5] n (fun g s5 wx => ∃ i : Nat, i + g = n ∧ s5 = .int .i64 i ∧ Below w.heap.size w wx)
  case atStart => exact ⟨0, by omega, rfl, Below.refl _ _⟩
  case round =>
    obtain ⟨i, hig, rfl, hB⟩ := hrel
    cases gk with
    | zero =>
      have hlt : ¬ ((i : Int) < n) := by omega
      have he := row_at (HT.out.below hB) (i := n) (by simp [HN.out])
      rw [end_at zs [] 77 HN.out] at he
      clear hig
      go_wp2
      go_ret
      exact ⟨rfl, hB⟩
    | succ g =>
      have hlt : (i : Int) < n := by omega
      obtain ⟨b1, o1, rfl, c1⟩ := HS.out (by rw [HN.out]; omega)
      have k1 := (hB.cell (p := ⟨b1, o1 + i, none⟩) (cell_lt (c1 i (by rw [HN.out]; omega)))).trans (c1 i (by rw [HN.out]; omega))
      have k2 := row_at (HT.out.below hB) (i := i) (by simp [HN.out]; omega)
      rw [app_at (xs := zs) (by have := HN.out; omega)] at k2
      clear c1
      generalize zs.getD i 0 = z at *
      go_wp2
      go_quiet ((fail))
      go_wp2
      go_roundg g
      case measure => omega
      case rel => exact ⟨i + 1, by omega, by go_num, hB.trans ((below_drewN _ _).mono hB.size)⟩
theorem src_twin {w : World} {g : Nat} {zs ys : List Int} (h : Row w g (zs ++ ys)) : Src w (some ⟨g, 0, none⟩) zs := fun _ =>
  ⟨g, 0, rfl, fun i hi => by
    rw [Nat.zero_add, h.cell i (by simp; omega), app_at hi]⟩
end Go.Proofs.YtcjjaofmicegfaaDoor
