/- A task's line: the code's answer. -/
import Derived.Test.YtnoadpgnefncjaaDoorChk
import Derived.Test.YtnoadpgnefncjaaDoorDig
import Derived.Test.YtnoadpgnefncjaaDoorShelfP
namespace Go.Proofs.YtnoadpgnefncjaaDoor
open Go Go.RowKit
set_option maxRecDepth 100000
set_option linter.unusedVariables false
set_option linter.unusedSimpArgs false
theorem owns_of {w w' : World} {B : Nat} {e : TypeId} {s : Nat} {v : Value} {n : Nat} {xs : List Value} (h : w.ownsRow B e s v n xs) (hb : ∀ g, v.ownBlock = some g → w'.heap[g]? = w.heap[g]?) : w'.ownsRow B e s v n xs := by
  obtain ⟨h1, h2⟩ := h
  refine ⟨h1, ?_⟩
  rcases h2 with h2 | ⟨g, cap, cur, rfl, hg, hh, r⟩
  · exact Or.inl h2
  · exact Or.inr ⟨g, cap, cur, rfl, hg, by rw [hb g rfl]; exact hh, r⟩
theorem owns_below {w w' : World} {B m s : Nat} {t : TypeId} {v : Value} {xs : List Value} (h : w.ownsRow B t s v m xs) (hb : Below w.heap.size w w') : w'.ownsRow B t s v m xs :=
  owns_of h fun g hg => hb.block g (h.lt g hg).2
theorem owns_spot {w : World} {B : Nat} {e : TypeId} {s : Nat} {v : Value} {n : Nat} {xs : List Value} (h : w.ownsRow B e s v n xs) (hn : 0 < n) : ∃ g cap, v = .slice (some ⟨g, 0, none⟩) n cap ∧ n ≤ cap ∧ cap ≤ maxLen := by
  rcases h.2 with ⟨_, h0⟩ | ⟨g, cap, cur, rfl, _, _, hc, hm, _⟩
  · omega
  · exact ⟨g, cap, rfl, hc, hm⟩
theorem own_grown {w w' : World} {B : Nat} {e : TypeId} {s n : Nat} {v : Value} {xs : List Value} (h : w.ownsRow B e s v n xs) (hg : w.grownBy w' v.ownBlock) (hB : B ≤ w.heap.size) : Below B w w' :=
  ⟨hg.os, hg.tape, hg.output, hg.size, fun k hk => hg.block k (by omega) fun e => by have := (h.lt k e.symm).1; omega⟩
theorem owns_cell {w : World} {B : Nat} {g n c : Nat} {xs : List Value} (h : w.ownsRow B 9 1 (.slice (some ⟨g, 0, none⟩) n c) n xs) (j : Nat) (u : Value) (hj : xs[j]? = some u) : w.cell? ⟨g, j, none⟩ = some u := by
  have hl := h.1
  rcases h.2 with ⟨e, _⟩ | ⟨g', cap, cur, e, _, hh, _, _, _, ht⟩
  · cases e
  · cases e
    have hj2 : j < n := by
      rcases Nat.lt_or_ge j xs.length with a | a
      · omega
      · rw [List.getElem?_eq_none a] at hj; cases hj
    rw [← ht, List.getElem?_take, if_pos (by omega), Array.getElem?_toList] at hj
    simp [World.cell?, hh, hj]
theorem sv_one (ws : List (List UInt8)) : ∀ u ∈ sv ws, u.oneCell' = true := by
  intro u hu
  obtain ⟨x, _, rfl⟩ := List.mem_map.1 hu
  rfl
theorem sv_app (a b : List (List UInt8)) : sv (a ++ b) = sv a ++ sv b := by simp [sv]
theorem infoS : (Tryd.prog.info? 9).map (fun i => (i.zero, i.size, i.bytes)) = some (some (.string ⟨#[]⟩), 1, 16) := by kernel_rfl
theorem info_parts {P : Program} {t : TypeId} {v : Value} {s b : Nat} (h : (P.info? t).map (fun i => (i.zero, i.size, i.bytes)) = some (some v, s, b)) : ∃ i, P.info? t = some i ∧ i.zero = some v ∧ i.size = s ∧ i.bytes = b := by
  obtain ⟨i, hi, he⟩ := Option.map_eq_some_iff.1 h
  exact ⟨i, hi, by simpa using congrArg Prod.fst he, by simpa using congrArg (fun x => x.2.1) he, by simpa using congrArg (fun x => x.2.2) he⟩
/-- words put behind a row of one's own -/
theorem wpList_words {w : World} {ops : Array Oper} {rest : List Oper} {o : Oper} {a : Act} {Q : Exit → Act → World → Prop} (hgd : o.guard = none) (s x : Operand)
    (ho : o.op = .call { callee := .builtin .append, args := #[s, x], argTypes := #[43, 43] }) {B B' g n m t c : Nat} {v : Value} {xs zs : List (List UInt8)} (hse : a.eval s = v) (hx : a.eval x = .slice (some ⟨g, 0, none⟩) m c)
    (hown : w.ownsRow B 9 1 v n (sv xs)) (hz : w.ownsRow B' 9 1 (.slice (some ⟨g, 0, none⟩) m c) m (sv zs)) (ht : n + m = t) (hm : 0 < t) (hlen : t ≤ 1000) (hB : B ≤ w.heap.size)
    (h : ∀ g' c' w', Hid (w'.ownsRow B 9 1 (.slice (some ⟨g', 0, none⟩) t c') t (sv (xs ++ zs))) → Hid (Below B w w') → wpList Tryd.prog ops Q rest (a.put o.dst (.slice (some ⟨g', 0, none⟩) t c')) w') : wpList Tryd.prog ops Q (o :: rest) a w := by
  subst ht
  obtain ⟨i, hi, hzz, hs, hby⟩ := info_parts infoS
  refine wpList_append_own (w := w) hgd s x 43 ho B 9 i _ 1 16 Tryd.underlying43 hi hzz hs hby rfl (by decide) v n (sv xs) hse hown ⟨g, 0, none⟩ m c (sv zs) hx hz.1 (fun j u hj => by rw [WideShapes.add_plain, Nat.zero_add]; exact owns_cell hz j u hj) (sv_one zs) (by simp only [maxLen]; omega) (by omega) hB ?_
  intro v' w' h2 h3 h4
  obtain ⟨g', c', rfl, _⟩ := owns_spot h2 hm
  exact h g' c' w' (by show w'.ownsRow _ _ _ _ _ _; rw [sv_app]; exact h2) (own_grown hown h3 hB)
theorem sv_at (ws : List (List UInt8)) (j : Nat) (x : ByteArray) (h : (ws.map mk)[j]? = some x) : (sv ws)[j]? = some (.string x) := by
  rw [List.getElem?_map] at h
  simp only [sv, List.getElem?_map]
  cases hw : ws[j]? with
  | none => rw [hw] at h; cases h
  | some y => rw [hw] at h; simp only [Option.map_some, Option.some.injEq] at h ⊢; rw [h]
theorem map_mk (ws : List (List UInt8)) : (ws.map mk).map (·.data.toList) = ws := by
  rw [List.map_map]; exact List.map_id' ws
theorem join_any {w : World} {B g n c : Nat} {ws : List (List UInt8)} (h : w.ownsRow B 9 1 (.slice (some ⟨g, 0, none⟩) n c) n (sv ws)) (hn : 0 < n) (hl : n ≤ 1000) (hs : ∀ x ∈ ws, x.length ≤ 20) :
    Calls Tryd.prog 25 #[.slice (some ⟨g, 0, none⟩) n c, .string ⟨#[32]⟩] w fun e w' => e = .returned (.string (mk (jn ws))) ∧ Below w.heap.size w w' := by
  have e : n = (ws.map mk).length := by have := h.1; rw [sv_len] at this; simp; omega
  obtain ⟨g', c', e', hc, _⟩ := owns_spot h hn
  cases e'
  have hcl := owns_cell h
  have hlt := (h.lt g rfl).2
  have hj := jn_len ws hs
  have hwl : ws.length = n := by simp at e; exact e.symm
  subst e
  refine (Tryd.strings_Join g 0 c (ws.map mk) ⟨#[32]⟩ w (fun j x hx => by rw [Nat.zero_add]; exact hcl j _ (sv_at ws j x hx)) hlt (by omega) hc (by rw [map_mk]; show (jn ws).length ≤ _; omega)).mono ?_
  intro e w' hh
  rw [map_mk] at hh
  exact hh
theorem wds_short {h s : Int} {d : Bool} {b r wh ah av am lf an la vl aw : Int} (B : Bd h s b r wh ah av am aw lf an la vl) : ∀ x ∈ wds h s d b r wh ah av am lf an la vl, x.length ≤ 20 := by
  obtain ⟨h1, h2, h3, h4, h5, h6, h7, h8, h9, h10, h11, h12, h13⟩ := B
  intro w hw
  unfold wds wtw at hw
  have q1 := (stw_plain s).2
  have q2 := (hdw_plain d).2
  have q3 : ([45] : List UInt8).length ≤ 20 := by decide
  split at hw <;> simp only [List.mem_append, List.mem_cons, List.not_mem_nil, or_false] at hw
  · rcases hw with ((hw | hw | hw | hw | hw) | (hw | hw | hw | hw | hw)) | hw | hw | hw <;> (subst hw; first | exact q1 | exact q2 | exact itoa_len _ (by omega) (by omega))
  · rcases hw with ((hw | hw | hw | hw | hw) | hw) | hw | hw | hw <;> (subst hw; first | exact q1 | exact q2 | exact q3 | exact itoa_len _ (by omega) (by omega))
set_option maxHeartbeats 4000000 in
theorem text_no (h s : Int) (d : Bool) (b r wh ah av am aw lf an la vl : Int) (hk : ¬ Ok h s b r wh ah av am aw lf an la) (w : World) : Calls Tryd.prog 9 #[.agg #[.int .u32 h, .int .u8 s, .bool d, .int .i64 b, .int .i64 r, .int .u8 wh, .int .u32 ah, .int .u32 av, .int .u32 am, .int .i64 aw, .int .i64 lf, .int .i64 an, .int .i64 la, .int .u32 vl]] w fun e w' => e = .returned (.string (mk [])) ∧ Below w.heap.size w w' := by
  have hC := fun wx => check_any h s d b r wh ah av am aw lf an la vl wx
  rw [(okB_no h s b r wh ah av am aw lf an la).2 hk] at hC
  clear hk
  go_enter Tryd.func9, Tryd.ntmps9
  go_wp2_with (first
    | (go_at_call 7; refine (hC _).mono ?_; rintro e wx ⟨rfl, hb⟩; obtain ⟨hc, hf⟩ := bcell hb))
  go_ret
  exact ⟨rfl, ((Below.refl _ _).alloc (Nat.le_refl _) _).trans (hb.mono (by simp))⟩
set_option maxHeartbeats 8000000 in
theorem text_1 (h : Int) (d : Bool) (b r wh ah av am aw lf an la vl : Int) (hB : Bd h 1 b r wh ah av am aw lf an la vl) (hk : Ok h 1 b r wh ah av am aw lf an la) (w : World) (E : Env w) : Calls Tryd.prog 9 #[.agg #[.int .u32 h, .int .u8 1, .bool d, .int .i64 b, .int .i64 r, .int .u8 wh, .int .u32 ah, .int .u32 av, .int .u32 am, .int .i64 aw, .int .i64 lf, .int .i64 an, .int .i64 la, .int .u32 vl]] w fun e w' => e = .returned (.string (mk (jn (wds h 1 d b r wh ah av am lf an la vl)))) ∧ Below w.heap.size w w' := by
  have hC := fun wx => check_any h 1 d b r wh ah av am aw lf an la vl wx
  rw [(okB_iff h 1 b r wh ah av am aw lf an la).2 hk] at hC
  clear hk
  have HW : Hid (wds h 1 d b r wh ah av am lf an la vl = [Lib.itoa h, [114, 101, 97, 100, 121], hdw d, Lib.itoa b, Lib.itoa r] ++ [[45]] ++ [Lib.itoa an, Lib.itoa la, Lib.itoa vl]) := rfl
  have HS : Hid (∀ x ∈ wds h 1 d b r wh ah av am lf an la vl, x.length ≤ 20) := wds_short hB
  have hca := @above_cell
  have l0 : 0 < w.heap.size := E.lt
  have E1 : ∀ w', Below w.heap.size w w' → Env w' := fun w' hb => E.on hb
  have wd0 := E.wd 1 (by decide)
  rw [show (1 : Int).toNat = 1 from rfl, show mk (stw 1) = mk [114, 101, 97, 100, 121] from rfl] at wd0
  go_enter Tryd.func9, Tryd.ntmps9
  go_wp2_with (first
    | (go_at_call 7; refine (hC _).mono ?_; rintro e w1 ⟨rfl, hb⟩; obtain ⟨hc, hf⟩ := bcell hb; clear hC))
  have B1 : Hid (Below w.heap.size w w1) := ((Below.refl _ _).alloc (Nat.le_refl _) _).trans (hb.mono (by simp))
  have z1 : w.heap.size < w1.heap.size := by have := hb.size; rw [alloc_size] at this; omega
  have l1 : 0 < w1.heap.size := by omega
  have hp : ∀ g, Pow (above w1 g) := fun g => (E1 _ (B1.out.trans ((below_above w1 g).mono B1.out.size))).pow
  refine wp_calm_then 16 2 (by kernel_rfl) rfl (by kernel_rfl) ?_
  simp only [List.take_succ_cons, List.take_zero, List.drop_succ_cons, List.drop_zero]
  repeat (go_big_quiet_step (first
    | (go_at_call 20; exact calm_call (du32_any _ hB.h.1 hB.h.2 _ (hp _)))
    | (go_at_call 21; exact calm_same (held_any _ _))
    | (go_at_call_of 22 (Value.int IntKind.i64 b); exact calm_call (dint_any _ hB.b.1 hB.b.2 _ (hp _)))
    | (go_at_call_of 22 (Value.int IntKind.i64 r); exact calm_call (dint_any _ hB.r.1 hB.r.2 _ (hp _)))))
  refine wpQuiet_nil ?_
  intro w3 hb3
  clear hp
  obtain ⟨hc3, hf3⟩ := bcell hb3
  have z3 : w.heap.size < w3.heap.size := by have := hb3.size; omega
  have R1 : Hid _ := row_new w3 w1.heap.size hb3.size [Lib.itoa h, [114, 101, 97, 100, 121], hdw d, Lib.itoa b, Lib.itoa r] (by simp)
  have B3 : Hid (Below w.heap.size w w3) := B1.out.trans (hb3.mono B1.out.size)
  have E4 : ∀ w', Below w3.heap.size w3 w' → Env w' := fun w' hb => E1 _ (B3.out.trans (hb.mono B3.out.size))
  have hbR : Below w3.heap.size w3 (w3.alloc (.cells (sv [Lib.itoa h, [114, 101, 97, 100, 121], hdw d, Lib.itoa b, Lib.itoa r]).toArray 9)) := alloc_below _ _
  have HbR : Hid (Below w3.heap.size w3 (w3.alloc (.cells (sv [Lib.itoa h, [114, 101, 97, 100, 121], hdw d, Lib.itoa b, Lib.itoa r]).toArray 9))) := hbR
  clear hbR
  go_wp2_with (first
    | (go_at_call 23; refine (parts_no h 1 d b r wh ah av am aw lf an la vl (by decide) _).mono ?_; rintro e w4 ⟨⟨v2, rfl, O2⟩, hb4⟩; obtain ⟨g2, c2, rfl, hn2, hm2⟩ := owns_spot O2 (by decide))
    | (at_builtin; refine wpList_words rfl (.tmp 24) (.tmp 26) rfl (xs := [Lib.itoa h, [114, 101, 97, 100, 121], hdw d, Lib.itoa b, Lib.itoa r]) (zs := [[45]]) rfl rfl (owns_below R1.out hb4) O2 (t := 6) rfl (by decide) (by decide) (by have := hb4.size; rw [alloc_size] at this; have := hb3.size; omega) ?_; intro g5 c5 w5 O5 B5))
  have B5' : Below w1.heap.size w1 w5 := hb3.trans (((HbR.out.trans (hb4.mono (by rw [alloc_size]; omega))).mono hb3.size).trans B5.out)
  have B5w : Hid (Below w.heap.size w w5) := B1.out.trans (B5'.mono B1.out.size)
  obtain ⟨hc5, hf5⟩ := bcell B5'
  have z5 : w.heap.size < w5.heap.size := by have := B5'.size; omega
  have H15 : Hid (w1.heap.size ≤ w5.heap.size) := B5'.size
  clear R1 O2 hb4 HbR hb3 hc3 hf3 B5 B3 B5'
  have hp5 : ∀ g, Pow (above w5 g) := fun g => (E1 _ (B5w.out.trans ((below_above w5 g).mono B5w.out.size))).pow
  refine wp_calm_then1 (v := .slice (some ⟨g5, 0, none⟩) 6 c5) 9 3 (by kernel_rfl) rfl (by kernel_rfl) (by kernel_rfl) ?_ ?_ ?_
  · intro c a w hh
    exact hh
  · exact Or.inl ⟨rfl, fun w => by go_simp⟩
  simp only [List.take_succ_cons, List.take_zero, List.drop_succ_cons, List.drop_zero]
  simp only [Act.put, List.setIfInBounds_toArray, List.set_cons_succ, List.set_cons_zero]
  repeat (go_big_quiet_step (first
    | (go_at_call 22; exact calm_call (dint_any _ hB.an.1 hB.an.2 _ (hp5 _)))
    | (go_at_call 24; exact calm_call (derr_any _ hB.la.1 hB.la.2 _ (hp5 _)))
    | (go_at_call 20; exact calm_call (du32_any _ hB.vl.1 hB.vl.2 _ (hp5 _)))))
  refine wpQuiet_nil ?_
  intro w6 hb6
  clear hp5
  have R6 : Hid _ := row_new w6 w6.heap.size (Nat.le_refl _) [Lib.itoa an, Lib.itoa la, Lib.itoa vl] (by simp)
  have O6 : Hid _ := owns_below (owns_below O5.out hb6) (alloc_below w6 (.cells (sv [Lib.itoa an, Lib.itoa la, Lib.itoa vl]).toArray 9))
  have B6 : Hid (Below w.heap.size w w6) := B5w.out.trans (hb6.mono B5w.out.size)
  have z6 : Hid (w1.heap.size ≤ w6.heap.size) := Nat.le_trans H15.out hb6.size
  go_wp2_with (first
    | (at_builtin; refine wpList_words rfl (.tmp 28) (.tmp 38) rfl (zs := [Lib.itoa an, Lib.itoa la, Lib.itoa vl]) rfl rfl O6.out R6.out (t := 9) rfl (by decide) (by decide) (by have := z6.out; rw [alloc_size]; omega) ?_; intro g7 c7 w7 O7 B7)
    | (go_at_call 25; refine (join_any O7.out (by decide) (by decide) (by rw [← HW.out]; exact HS.out)).mono ?_; rintro e w8 ⟨rfl, hb8⟩))
  go_ret
  rw [HW.out]
  refine ⟨rfl, ?_⟩
  have b7 : Below w.heap.size w w7 := B6.out.trans (((alloc_below w6 _).mono B6.out.size).trans (B7.out.mono (by have := B1.out.size; omega)))
  exact b7.trans (hb8.mono b7.size)
set_option maxHeartbeats 8000000 in
theorem text_2 (h : Int) (d : Bool) (b r wh ah av am aw lf an la vl : Int) (hB : Bd h 2 b r wh ah av am aw lf an la vl) (hk : Ok h 2 b r wh ah av am aw lf an la) (w : World) (E : Env w) : Calls Tryd.prog 9 #[.agg #[.int .u32 h, .int .u8 2, .bool d, .int .i64 b, .int .i64 r, .int .u8 wh, .int .u32 ah, .int .u32 av, .int .u32 am, .int .i64 aw, .int .i64 lf, .int .i64 an, .int .i64 la, .int .u32 vl]] w fun e w' => e = .returned (.string (mk (jn (wds h 2 d b r wh ah av am lf an la vl)))) ∧ Below w.heap.size w w' := by
  have hC := fun wx => check_any h 2 d b r wh ah av am aw lf an la vl wx
  rw [(okB_iff h 2 b r wh ah av am aw lf an la).2 hk] at hC
  clear hk
  have HW : Hid (wds h 2 d b r wh ah av am lf an la vl = [Lib.itoa h, [119, 97, 105, 116, 115], hdw d, Lib.itoa b, Lib.itoa r] ++ [Lib.itoa wh, Lib.itoa ah, Lib.itoa av, Lib.itoa am, Lib.itoa lf] ++ [Lib.itoa an, Lib.itoa la, Lib.itoa vl]) := rfl
  have HS : Hid (∀ x ∈ wds h 2 d b r wh ah av am lf an la vl, x.length ≤ 20) := wds_short hB
  have hca := @above_cell
  have l0 : 0 < w.heap.size := E.lt
  have E1 : ∀ w', Below w.heap.size w w' → Env w' := fun w' hb => E.on hb
  have wd0 := E.wd 2 (by decide)
  rw [show (2 : Int).toNat = 2 from rfl, show mk (stw 2) = mk [119, 97, 105, 116, 115] from rfl] at wd0
  go_enter Tryd.func9, Tryd.ntmps9
  go_wp2_with (first
    | (go_at_call 7; refine (hC _).mono ?_; rintro e w1 ⟨rfl, hb⟩; obtain ⟨hc, hf⟩ := bcell hb; clear hC))
  have B1 : Hid (Below w.heap.size w w1) := ((Below.refl _ _).alloc (Nat.le_refl _) _).trans (hb.mono (by simp))
  have z1 : w.heap.size < w1.heap.size := by have := hb.size; rw [alloc_size] at this; omega
  have l1 : 0 < w1.heap.size := by omega
  have hp : ∀ g, Pow (above w1 g) := fun g => (E1 _ (B1.out.trans ((below_above w1 g).mono B1.out.size))).pow
  refine wp_calm_then 16 2 (by kernel_rfl) rfl (by kernel_rfl) ?_
  simp only [List.take_succ_cons, List.take_zero, List.drop_succ_cons, List.drop_zero]
  repeat (go_big_quiet_step (first
    | (go_at_call 20; exact calm_call (du32_any _ hB.h.1 hB.h.2 _ (hp _)))
    | (go_at_call 21; exact calm_same (held_any _ _))
    | (go_at_call_of 22 (Value.int IntKind.i64 b); exact calm_call (dint_any _ hB.b.1 hB.b.2 _ (hp _)))
    | (go_at_call_of 22 (Value.int IntKind.i64 r); exact calm_call (dint_any _ hB.r.1 hB.r.2 _ (hp _)))))
  refine wpQuiet_nil ?_
  intro w3 hb3
  clear hp
  obtain ⟨hc3, hf3⟩ := bcell hb3
  have z3 : w.heap.size < w3.heap.size := by have := hb3.size; omega
  have R1 : Hid _ := row_new w3 w1.heap.size hb3.size [Lib.itoa h, [119, 97, 105, 116, 115], hdw d, Lib.itoa b, Lib.itoa r] (by simp)
  have B3 : Hid (Below w.heap.size w w3) := B1.out.trans (hb3.mono B1.out.size)
  have E4 : ∀ w', Below w3.heap.size w3 w' → Env w' := fun w' hb => E1 _ (B3.out.trans (hb.mono B3.out.size))
  have hbR : Below w3.heap.size w3 (w3.alloc (.cells (sv [Lib.itoa h, [119, 97, 105, 116, 115], hdw d, Lib.itoa b, Lib.itoa r]).toArray 9)) := alloc_below _ _
  have HbR : Hid (Below w3.heap.size w3 (w3.alloc (.cells (sv [Lib.itoa h, [119, 97, 105, 116, 115], hdw d, Lib.itoa b, Lib.itoa r]).toArray 9))) := hbR
  clear hbR
  go_wp2_with (first
    | (go_at_call 23; refine (parts_yes h 2 d b r wh ah av am aw lf an la vl hB rfl _ (E4 _ HbR.out)).mono ?_; rintro e w4 ⟨⟨v2, rfl, O2⟩, hb4⟩; obtain ⟨g2, c2, rfl, hn2, hm2⟩ := owns_spot O2 (by decide))
    | (at_builtin; refine wpList_words rfl (.tmp 24) (.tmp 26) rfl (xs := [Lib.itoa h, [119, 97, 105, 116, 115], hdw d, Lib.itoa b, Lib.itoa r]) (zs := [Lib.itoa wh, Lib.itoa ah, Lib.itoa av, Lib.itoa am, Lib.itoa lf]) rfl rfl (owns_below R1.out hb4) O2 (t := 10) rfl (by decide) (by decide) (by have := hb4.size; rw [alloc_size] at this; have := hb3.size; omega) ?_; intro g5 c5 w5 O5 B5))
  have B5' : Below w1.heap.size w1 w5 := hb3.trans (((HbR.out.trans (hb4.mono (by rw [alloc_size]; omega))).mono hb3.size).trans B5.out)
  have B5w : Hid (Below w.heap.size w w5) := B1.out.trans (B5'.mono B1.out.size)
  obtain ⟨hc5, hf5⟩ := bcell B5'
  have z5 : w.heap.size < w5.heap.size := by have := B5'.size; omega
  have H15 : Hid (w1.heap.size ≤ w5.heap.size) := B5'.size
  clear R1 O2 hb4 HbR hb3 hc3 hf3 B5 B3 B5'
  have hp5 : ∀ g, Pow (above w5 g) := fun g => (E1 _ (B5w.out.trans ((below_above w5 g).mono B5w.out.size))).pow
  refine wp_calm_then1 (v := .slice (some ⟨g5, 0, none⟩) 10 c5) 9 3 (by kernel_rfl) rfl (by kernel_rfl) (by kernel_rfl) ?_ ?_ ?_
  · intro c a w hh
    exact hh
  · exact Or.inl ⟨rfl, fun w => by go_simp⟩
  simp only [List.take_succ_cons, List.take_zero, List.drop_succ_cons, List.drop_zero]
  simp only [Act.put, List.setIfInBounds_toArray, List.set_cons_succ, List.set_cons_zero]
  repeat (go_big_quiet_step (first
    | (go_at_call 22; exact calm_call (dint_any _ hB.an.1 hB.an.2 _ (hp5 _)))
    | (go_at_call 24; exact calm_call (derr_any _ hB.la.1 hB.la.2 _ (hp5 _)))
    | (go_at_call 20; exact calm_call (du32_any _ hB.vl.1 hB.vl.2 _ (hp5 _)))))
  refine wpQuiet_nil ?_
  intro w6 hb6
  clear hp5
  have R6 : Hid _ := row_new w6 w6.heap.size (Nat.le_refl _) [Lib.itoa an, Lib.itoa la, Lib.itoa vl] (by simp)
  have O6 : Hid _ := owns_below (owns_below O5.out hb6) (alloc_below w6 (.cells (sv [Lib.itoa an, Lib.itoa la, Lib.itoa vl]).toArray 9))
  have B6 : Hid (Below w.heap.size w w6) := B5w.out.trans (hb6.mono B5w.out.size)
  have z6 : Hid (w1.heap.size ≤ w6.heap.size) := Nat.le_trans H15.out hb6.size
  go_wp2_with (first
    | (at_builtin; refine wpList_words rfl (.tmp 28) (.tmp 38) rfl (zs := [Lib.itoa an, Lib.itoa la, Lib.itoa vl]) rfl rfl O6.out R6.out (t := 13) rfl (by decide) (by decide) (by have := z6.out; rw [alloc_size]; omega) ?_; intro g7 c7 w7 O7 B7)
    | (go_at_call 25; refine (join_any O7.out (by decide) (by decide) (by rw [← HW.out]; exact HS.out)).mono ?_; rintro e w8 ⟨rfl, hb8⟩))
  go_ret
  rw [HW.out]
  refine ⟨rfl, ?_⟩
  have b7 : Below w.heap.size w w7 := B6.out.trans (((alloc_below w6 _).mono B6.out.size).trans (B7.out.mono (by have := B1.out.size; omega)))
  exact b7.trans (hb8.mono b7.size)
set_option maxHeartbeats 8000000 in
theorem text_3 (h : Int) (d : Bool) (b r wh ah av am aw lf an la vl : Int) (hB : Bd h 3 b r wh ah av am aw lf an la vl) (hk : Ok h 3 b r wh ah av am aw lf an la) (w : World) (E : Env w) : Calls Tryd.prog 9 #[.agg #[.int .u32 h, .int .u8 3, .bool d, .int .i64 b, .int .i64 r, .int .u8 wh, .int .u32 ah, .int .u32 av, .int .u32 am, .int .i64 aw, .int .i64 lf, .int .i64 an, .int .i64 la, .int .u32 vl]] w fun e w' => e = .returned (.string (mk (jn (wds h 3 d b r wh ah av am lf an la vl)))) ∧ Below w.heap.size w w' := by
  have hC := fun wx => check_any h 3 d b r wh ah av am aw lf an la vl wx
  rw [(okB_iff h 3 b r wh ah av am aw lf an la).2 hk] at hC
  clear hk
  have HW : Hid (wds h 3 d b r wh ah av am lf an la vl = [Lib.itoa h, [102, 97, 117, 108, 116], hdw d, Lib.itoa b, Lib.itoa r] ++ [[45]] ++ [Lib.itoa an, Lib.itoa la, Lib.itoa vl]) := rfl
  have HS : Hid (∀ x ∈ wds h 3 d b r wh ah av am lf an la vl, x.length ≤ 20) := wds_short hB
  have hca := @above_cell
  have l0 : 0 < w.heap.size := E.lt
  have E1 : ∀ w', Below w.heap.size w w' → Env w' := fun w' hb => E.on hb
  have wd0 := E.wd 3 (by decide)
  rw [show (3 : Int).toNat = 3 from rfl, show mk (stw 3) = mk [102, 97, 117, 108, 116] from rfl] at wd0
  go_enter Tryd.func9, Tryd.ntmps9
  go_wp2_with (first
    | (go_at_call 7; refine (hC _).mono ?_; rintro e w1 ⟨rfl, hb⟩; obtain ⟨hc, hf⟩ := bcell hb; clear hC))
  have B1 : Hid (Below w.heap.size w w1) := ((Below.refl _ _).alloc (Nat.le_refl _) _).trans (hb.mono (by simp))
  have z1 : w.heap.size < w1.heap.size := by have := hb.size; rw [alloc_size] at this; omega
  have l1 : 0 < w1.heap.size := by omega
  have hp : ∀ g, Pow (above w1 g) := fun g => (E1 _ (B1.out.trans ((below_above w1 g).mono B1.out.size))).pow
  refine wp_calm_then 16 2 (by kernel_rfl) rfl (by kernel_rfl) ?_
  simp only [List.take_succ_cons, List.take_zero, List.drop_succ_cons, List.drop_zero]
  repeat (go_big_quiet_step (first
    | (go_at_call 20; exact calm_call (du32_any _ hB.h.1 hB.h.2 _ (hp _)))
    | (go_at_call 21; exact calm_same (held_any _ _))
    | (go_at_call_of 22 (Value.int IntKind.i64 b); exact calm_call (dint_any _ hB.b.1 hB.b.2 _ (hp _)))
    | (go_at_call_of 22 (Value.int IntKind.i64 r); exact calm_call (dint_any _ hB.r.1 hB.r.2 _ (hp _)))))
  refine wpQuiet_nil ?_
  intro w3 hb3
  clear hp
  obtain ⟨hc3, hf3⟩ := bcell hb3
  have z3 : w.heap.size < w3.heap.size := by have := hb3.size; omega
  have R1 : Hid _ := row_new w3 w1.heap.size hb3.size [Lib.itoa h, [102, 97, 117, 108, 116], hdw d, Lib.itoa b, Lib.itoa r] (by simp)
  have B3 : Hid (Below w.heap.size w w3) := B1.out.trans (hb3.mono B1.out.size)
  have E4 : ∀ w', Below w3.heap.size w3 w' → Env w' := fun w' hb => E1 _ (B3.out.trans (hb.mono B3.out.size))
  have hbR : Below w3.heap.size w3 (w3.alloc (.cells (sv [Lib.itoa h, [102, 97, 117, 108, 116], hdw d, Lib.itoa b, Lib.itoa r]).toArray 9)) := alloc_below _ _
  have HbR : Hid (Below w3.heap.size w3 (w3.alloc (.cells (sv [Lib.itoa h, [102, 97, 117, 108, 116], hdw d, Lib.itoa b, Lib.itoa r]).toArray 9))) := hbR
  clear hbR
  go_wp2_with (first
    | (go_at_call 23; refine (parts_no h 3 d b r wh ah av am aw lf an la vl (by decide) _).mono ?_; rintro e w4 ⟨⟨v2, rfl, O2⟩, hb4⟩; obtain ⟨g2, c2, rfl, hn2, hm2⟩ := owns_spot O2 (by decide))
    | (at_builtin; refine wpList_words rfl (.tmp 24) (.tmp 26) rfl (xs := [Lib.itoa h, [102, 97, 117, 108, 116], hdw d, Lib.itoa b, Lib.itoa r]) (zs := [[45]]) rfl rfl (owns_below R1.out hb4) O2 (t := 6) rfl (by decide) (by decide) (by have := hb4.size; rw [alloc_size] at this; have := hb3.size; omega) ?_; intro g5 c5 w5 O5 B5))
  have B5' : Below w1.heap.size w1 w5 := hb3.trans (((HbR.out.trans (hb4.mono (by rw [alloc_size]; omega))).mono hb3.size).trans B5.out)
  have B5w : Hid (Below w.heap.size w w5) := B1.out.trans (B5'.mono B1.out.size)
  obtain ⟨hc5, hf5⟩ := bcell B5'
  have z5 : w.heap.size < w5.heap.size := by have := B5'.size; omega
  have H15 : Hid (w1.heap.size ≤ w5.heap.size) := B5'.size
  clear R1 O2 hb4 HbR hb3 hc3 hf3 B5 B3 B5'
  have hp5 : ∀ g, Pow (above w5 g) := fun g => (E1 _ (B5w.out.trans ((below_above w5 g).mono B5w.out.size))).pow
  refine wp_calm_then1 (v := .slice (some ⟨g5, 0, none⟩) 6 c5) 9 3 (by kernel_rfl) rfl (by kernel_rfl) (by kernel_rfl) ?_ ?_ ?_
  · intro c a w hh
    exact hh
  · exact Or.inl ⟨rfl, fun w => by go_simp⟩
  simp only [List.take_succ_cons, List.take_zero, List.drop_succ_cons, List.drop_zero]
  simp only [Act.put, List.setIfInBounds_toArray, List.set_cons_succ, List.set_cons_zero]
  repeat (go_big_quiet_step (first
    | (go_at_call 22; exact calm_call (dint_any _ hB.an.1 hB.an.2 _ (hp5 _)))
    | (go_at_call 24; exact calm_call (derr_any _ hB.la.1 hB.la.2 _ (hp5 _)))
    | (go_at_call 20; exact calm_call (du32_any _ hB.vl.1 hB.vl.2 _ (hp5 _)))))
  refine wpQuiet_nil ?_
  intro w6 hb6
  clear hp5
  have R6 : Hid _ := row_new w6 w6.heap.size (Nat.le_refl _) [Lib.itoa an, Lib.itoa la, Lib.itoa vl] (by simp)
  have O6 : Hid _ := owns_below (owns_below O5.out hb6) (alloc_below w6 (.cells (sv [Lib.itoa an, Lib.itoa la, Lib.itoa vl]).toArray 9))
  have B6 : Hid (Below w.heap.size w w6) := B5w.out.trans (hb6.mono B5w.out.size)
  have z6 : Hid (w1.heap.size ≤ w6.heap.size) := Nat.le_trans H15.out hb6.size
  go_wp2_with (first
    | (at_builtin; refine wpList_words rfl (.tmp 28) (.tmp 38) rfl (zs := [Lib.itoa an, Lib.itoa la, Lib.itoa vl]) rfl rfl O6.out R6.out (t := 9) rfl (by decide) (by decide) (by have := z6.out; rw [alloc_size]; omega) ?_; intro g7 c7 w7 O7 B7)
    | (go_at_call 25; refine (join_any O7.out (by decide) (by decide) (by rw [← HW.out]; exact HS.out)).mono ?_; rintro e w8 ⟨rfl, hb8⟩))
  go_ret
  rw [HW.out]
  refine ⟨rfl, ?_⟩
  have b7 : Below w.heap.size w w7 := B6.out.trans (((alloc_below w6 _).mono B6.out.size).trans (B7.out.mono (by have := B1.out.size; omega)))
  exact b7.trans (hb8.mono b7.size)
theorem text_any (h s : Int) (d : Bool) (b r wh ah av am aw lf an la vl : Int) (hB : Bd h s b r wh ah av am aw lf an la vl) (w : World) (E : Env w) : Calls Tryd.prog 9 #[.agg #[.int .u32 h, .int .u8 s, .bool d, .int .i64 b, .int .i64 r, .int .u8 wh, .int .u32 ah, .int .u32 av, .int .u32 am, .int .i64 aw, .int .i64 lf, .int .i64 an, .int .i64 la, .int .u32 vl]] w fun e w' => e = .returned (.string (mk (txt h s d b r wh ah av am aw lf an la vl))) ∧ Below w.heap.size w w' := by
  unfold txt
  by_cases hk : Ok h s b r wh ah av am aw lf an la
  · rw [if_pos hk]
    rcases ok_state hk with rfl | rfl | rfl
    · exact text_1 h d b r wh ah av am aw lf an la vl hB hk w E
    · exact text_2 h d b r wh ah av am aw lf an la vl hB hk w E
    · exact text_3 h d b r wh ah av am aw lf an la vl hB hk w E
  · rw [if_neg hk]
    exact text_no h s d b r wh ah av am aw lf an la vl hk w
end Go.Proofs.YtnoadpgnefncjaaDoor
