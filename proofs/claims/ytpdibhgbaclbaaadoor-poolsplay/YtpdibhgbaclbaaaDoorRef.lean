/- The document's own answer for pools, for every pool of its in memory. -/
import Derived.Test.YtpdibhgbaclbaaaDoorMoreD
namespace Go.Proofs.YtpdibhgbaclbaaaDoor
open Go Go.RowKit
set_option maxRecDepth 100000
set_option linter.unusedVariables false
theorem ret_int {k : IntKind} {a b : Int} (h : a = b) : Ending.returned (.int k a) = .returned (.int k b) := by rw [h]
/-- the document's own pool lies at block q, its owners at h -/
structure Ref (w : World) (q h n : Nat) (zs : List Int) : Prop where
  head : w.heap[q]? = some (.cells #[.slice (some ⟨h, 0, none⟩) n n] 58 (0, 0))
  row : Row w h zs
  len : zs.length = n
  lo : 1 ≤ n
  hi : n ≤ 64
  wf : isW zs
theorem Ref.below {w w' : World} {q h n : Nat} {zs : List Int} (H : Ref w q h n zs) (hb : Below w.heap.size w w') : Ref w' q h n zs :=
  ⟨(hb.block q (at_lt H.head)).trans H.head, (hb.block h H.row.lt).trans H.row, H.len, H.lo, H.hi, H.wf⟩
theorem Ref.ne {w : World} {q h n : Nat} {zs : List Int} (H : Ref w q h n zs) : q ≠ h := by
  rintro rfl
  have h1 := H.head
  have h2 := H.row
  unfold Row at h2
  rw [h1] at h2
  simp at h2
theorem Ref.but {w w' : World} {q h n k : Nat} {zs : List Int} (H : Ref w q h n zs) (hb : But k w w') (hq : q ≠ k) (hh : h ≠ k) : Ref w' q h n zs :=
  ⟨(hb.block q (at_lt H.head) hq).trans H.head, (hb.block h H.row.lt hh).trans H.row, H.len, H.lo, H.hi, H.wf⟩
theorem Ref.cell {w : World} {q h n : Nat} {zs : List Int} (H : Ref w q h n zs) : w.cell? ⟨q, 0, none⟩ = some (.slice (some ⟨h, 0, none⟩) n n) := by rw [cell_of H.head]; rfl
theorem Ref.at {w : World} {q h n : Nat} {zs : List Int} (H : Ref w q h n zs) (i : Nat) (hi : i < n) : w.cell? ⟨h, i, none⟩ = some (.int .u32 (zs.getD i 0)) := H.row.cell i (by rw [H.len]; exact hi)
theorem Ref.free {w : World} {q h n : Nat} {zs : List Int} (H : Ref w q h n zs) (i : Nat) : w.frozen? ⟨h, i, none⟩ = false := by have := H.row; unfold Row at this; simp [World.frozen?, this]
theorem Ref.set {w : World} {q h n i : Nat} {zs : List Int} (H : Ref w q h n zs) (hi : i < n) {v : Int} (hv : 0 ≤ v ∧ v ≤ 4294967295) : Ref (w.setCell ⟨h, i, none⟩ (.int .u32 v)) q h n (zs.set i v) :=
  ⟨by rw [(But.setCell w h i _).block q (at_lt H.head) H.ne]; exact H.head, H.row.set v, by rw [List.length_set]; exact H.len, H.lo, H.hi, isW_set H.wf i hv⟩
theorem rnew_yes {w : World} (n : Nat) (s : Int) (h1 : 1 ≤ n) (hn : n ≤ 64) (hs : 1 ≤ s ∧ s ≤ 256) :
    Calls Tryd.prog 5 #[.int .i64 n, .int .i64 s] w fun e w' => ∃ q h, e = .returned (.tuple #[.pointer (some ⟨q, 0, none⟩), .int .i64 0]) ∧ Ref w' q h n (List.replicate n 0) ∧ Below w.heap.size w w' ∧ w.heap.size ≤ h ∧ w.heap.size ≤ q := by
  have a1 : ¬ (n : Int) < 1 := by omega
  have a2 : ¬ (64 : Int) < n := by omega
  have a3 : ¬ s < 1 := by omega
  have a4 : ¬ (256 : Int) < s := by omega
  have hmk := make_row w n n (Nat.le_refl _) (by omega)
  have hB := alloc_below w (.cells (wrd (List.replicate n 0)).toArray 40)
  have hA : Row (w.alloc (.cells (wrd (List.replicate n 0)).toArray 40)) w.heap.size (List.replicate n 0) := alloc_at w _
  generalize w.alloc (.cells (wrd (List.replicate n 0)).toArray 40) = w1 at *
  have hP := alloc_at w1 (.cells #[.slice (some ⟨w.heap.size, 0, none⟩) n n] 58)
  have hb2 := alloc_below w1 (.cells #[.slice (some ⟨w.heap.size, 0, none⟩) n n] 58)
  have HF : Hid (Ref (w1.alloc (.cells #[.slice (some ⟨w.heap.size, 0, none⟩) n n] 58)) w1.heap.size w.heap.size n (List.replicate n 0)) := ⟨hP, (hb2.block _ hA.lt).trans hA, by simp, h1, hn, isW_zero n⟩
  have HB : Hid (Below w.heap.size w (w1.alloc (.cells #[.slice (some ⟨w.heap.size, 0, none⟩) n n] 58))) := hB.trans (hb2.mono hB.size)
  have hs1 := hB.size
  clear hP hb2 hA hB
  go_enter Tryd.func5, Tryd.ntmps5
  go_wp2
  go_ret2
  exact ⟨_, rfl, _, HF.out, HB.out, Nat.le_refl _, hs1⟩
theorem rnew_no {w : World} (n s : Int) (h : n < 1 ∨ 64 < n ∨ s < 1 ∨ 256 < s) :
    Calls Tryd.prog 5 #[.int .i64 n, .int .i64 s] w fun e w' => e = .returned (.tuple #[.pointer none, .int .i64 1]) ∧ w' = w := by
  by_cases h1 : n < 1
  · go_enter Tryd.func5, Tryd.ntmps5
    go_wp2
    go_ret2
    exact ⟨rfl, rfl⟩
  · by_cases h2 : 64 < n
    · go_enter Tryd.func5, Tryd.ntmps5
      go_wp2
      go_ret2
      exact ⟨rfl, rfl⟩
    · by_cases h3 : s < 1
      · go_enter Tryd.func5, Tryd.ntmps5
        go_wp2
        go_ret2
        exact ⟨rfl, rfl⟩
      · have h4 : 256 < s := by omega
        go_enter Tryd.func5, Tryd.ntmps5
        go_wp2
        go_ret2
        exact ⟨rfl, rfl⟩
theorem ralloc_nobody {w : World} (q : Option Addr) :
    Calls Tryd.prog 7 #[.pointer q, .int .u32 0] w fun e w' => e = .returned (.tuple #[.int .i64 0, .int .i64 1]) ∧ w' = w := by
  go_enter Tryd.func7, Tryd.ntmps7
  go_wp2
  go_ret2
  exact ⟨rfl, rfl⟩
theorem ralloc_yes {w : World} {q h n : Nat} {zs : List Int} (H : Ref w q h n zs) (who : Int) (hw : 0 < who ∧ who ≤ 4294967295) (b : Nat) (hb : b < n) (hz : zs.getD b 0 = 0) (hmin : ∀ j, j < b → zs.getD j 0 ≠ 0) :
    Calls Tryd.prog 7 #[.pointer (some ⟨q, 0, none⟩), .int .u32 who] w fun e w' => e = .returned (.tuple #[.int .i64 b, .int .i64 0]) ∧ Ref w' q h n (zs.set b who) ∧ But h w w' := by
  have hwz : (who == 0) = false := by simp; omega
  have c0 := H.cell
  have hn := H.hi
  have HH : Hid (Ref w q h n zs) := H
  have HZ : Hid (zs.getD b 0 = 0) := hz
  have HM : Hid (∀ j, j < b → zs.getD j 0 ≠ 0) := hmin
  clear H hz hmin
  go_enter Tryd.func7, Tryd.ntmps7
  go_wp2
  go_loopg [6] b (fun g s6 wx => ∃ i : Nat, i + g = b ∧ s6 = .int .i64 i ∧ w = wx)
  case atStart => exact ⟨0, by omega, rfl, rfl⟩
  case round =>
    obtain ⟨i, hig, rfl, rfl⟩ := hrel
    have hlt : (i : Int) < n := by omega
    have ci := HH.out.at i (by omega)
    cases gk with
    | zero =>
      obtain rfl : i = b := by omega
      rw [HZ.out] at ci
      have fi := HH.out.free i
      have HS : Hid (Ref (w.setCell ⟨h, i, none⟩ (.int .u32 who)) q h n (zs.set i who)) := HH.out.set (by omega) ⟨by omega, hw.2⟩
      go_wp2
      go_ret2
      exact ⟨rfl, HS.out, But.setCell w h i _⟩
    | succ g =>
      have hz := HM.out i (by omega)
      generalize zs.getD i 0 = z at *
      have hz' : (z == 0) = false := by simpa using hz
      go_wp2
      go_roundg g
      case measure => omega
      case rel => exact ⟨i + 1, by omega, by go_num, rfl⟩
theorem ralloc_full {w : World} {q h n : Nat} {zs : List Int} (H : Ref w q h n zs) (who : Int) (hw : 0 < who ∧ who ≤ 4294967295) (hall : ∀ j, j < n → zs.getD j 0 ≠ 0) :
    Calls Tryd.prog 7 #[.pointer (some ⟨q, 0, none⟩), .int .u32 who] w fun e w' => e = .returned (.tuple #[.int .i64 0, .int .i64 11]) ∧ w' = w := by
  have hwz : (who == 0) = false := by simp; omega
  have c0 := H.cell
  have hn := H.hi
  have HH : Hid (Ref w q h n zs) := H
  have HM : Hid (∀ j, j < n → zs.getD j 0 ≠ 0) := hall
  clear H hall
  go_enter Tryd.func7, Tryd.ntmps7
  go_wp2
  go_loopg [6] n (fun g s6 wx => ∃ i : Nat, i + g = n ∧ s6 = .int .i64 i ∧ w = wx)
  case atStart => exact ⟨0, by omega, rfl, rfl⟩
  case round =>
    obtain ⟨i, hig, rfl, rfl⟩ := hrel
    cases gk with
    | zero =>
      obtain rfl : i = n := by omega
      have hlt : ¬ ((i : Int) < i) := by omega
      go_wp2
      go_ret2
      exact ⟨rfl, rfl⟩
    | succ g =>
      have hlt : (i : Int) < n := by omega
      have ci := HH.out.at i (by omega)
      have hz := HM.out i (by omega)
      generalize zs.getD i 0 = z at *
      have hz' : (z == 0) = false := by simpa using hz
      go_wp2
      go_roundg g
      case measure => omega
      case rel => exact ⟨i + 1, by omega, by go_num, rfl⟩
theorem rfree_no {w : World} {q h n : Nat} {zs : List Int} (H : Ref w q h n zs) (who b : Int) (hw : 0 ≤ who) (hb : who = 0 ∨ b < 0 ∨ (n : Int) ≤ b) :
    Calls Tryd.prog 9 #[.pointer (some ⟨q, 0, none⟩), .int .u32 who, .int .i64 b] w fun e w' => e = .returned (.int .i64 1) ∧ w' = w := by
  have c0 := H.cell
  clear H
  by_cases d0 : who = 0
  · subst d0
    go_enter Tryd.func9, Tryd.ntmps9
    go_wp2
    go_ret
    exact ⟨rfl, rfl⟩
  · have d0' : (who == 0) = false := by simpa using d0
    by_cases c1 : b < 0
    · go_enter Tryd.func9, Tryd.ntmps9
      go_wp2
      go_ret
      exact ⟨rfl, rfl⟩
    · have c2 : (n : Int) ≤ b := by omega
      go_enter Tryd.func9, Tryd.ntmps9
      go_wp2
      go_ret
      exact ⟨rfl, rfl⟩
theorem rfree_other {w : World} {q h n : Nat} {zs : List Int} (H : Ref w q h n zs) (who : Int) (b : Nat) (hw : 0 < who) (hb : b < n) (ho : zs.getD b 0 ≠ who) :
    Calls Tryd.prog 9 #[.pointer (some ⟨q, 0, none⟩), .int .u32 who, .int .i64 b] w fun e w' => e = .returned (.int .i64 13) ∧ w' = w := by
  have c0 := H.cell
  have ci := H.at b hb
  have hn := H.hi
  clear H
  generalize zs.getD b 0 = z at *
  have d0 : (who == 0) = false := by simp; omega
  have ho' : (z == who) = false := by simpa using ho
  have hb' : (b : Int) < n := by omega
  go_enter Tryd.func9, Tryd.ntmps9
  go_wp2
  go_ret
  exact ⟨rfl, rfl⟩
theorem rfree_yes {w : World} {q h n : Nat} {zs : List Int} (H : Ref w q h n zs) (who : Int) (b : Nat) (hw : 0 < who) (hb : b < n) (ho : zs.getD b 0 = who) :
    Calls Tryd.prog 9 #[.pointer (some ⟨q, 0, none⟩), .int .u32 who, .int .i64 b] w fun e w' => e = .returned (.int .i64 0) ∧ Ref w' q h n (zs.set b 0) ∧ But h w w' := by
  have c0 := H.cell
  have ci := H.at b hb
  rw [ho] at ci
  have fi := H.free b
  have hn := H.hi
  have HS : Hid (Ref (w.setCell ⟨h, b, none⟩ (.int .u32 0)) q h n (zs.set b 0)) := H.set hb (by omega)
  clear H ho
  have d0 : (who == 0) = false := by simp; omega
  have hb' : (b : Int) < n := by omega
  go_enter Tryd.func9, Tryd.ntmps9
  go_wp2
  go_ret
  exact ⟨rfl, HS.out, But.setCell w h b _⟩
theorem rall_nobody {w : World} {q h n : Nat} {zs : List Int} (H : Ref w q h n zs) :
    Calls Tryd.prog 11 #[.pointer (some ⟨q, 0, none⟩), .int .u32 0] w fun e w' => e = .returned (.int .i64 0) ∧ w' = w := by
  have c0 := H.cell
  have h1 : (0 : Int) < n := by have := H.lo; omega
  clear H
  go_enter Tryd.func11, Tryd.ntmps11
  go_wp2
  refine wp_loop_rounds 1 ?_
  rw [rounds_succ]
  go_wp2
  go_ret
  exact ⟨rfl, rfl⟩
theorem rall_any {w : World} {q h n : Nat} {zs : List Int} (H : Ref w q h n zs) (who : Int) (hw : 0 < who) :
    Calls Tryd.prog 11 #[.pointer (some ⟨q, 0, none⟩), .int .u32 who] w fun e w' => e = .returned (.int .i64 (cnt who zs : Nat)) ∧ Ref w' q h n (clr who zs) ∧ But h w w' := by
  have hwz : (who == 0) = false := by simp; omega
  have hn := H.hi
  have HL : Hid (zs.length = n) := H.len
  have HH : Hid (Ref w q h n (mid who zs 0)) := by show Ref _ _ _ _ _; rw [mid_zero]; exact H
  clear H
  go_enter Tryd.func11, Tryd.ntmps11
  go_wp2
  go_loopg [5, 6] n (fun g s5 s6 wx => ∃ i : Nat, i + g = n ∧ s6 = .int .i64 i ∧ s5 = .int .i64 (cnt who (zs.take i) : Nat) ∧ Hid (Ref wx q h n (mid who zs i)) ∧ Hid (But h w wx))
  case atStart => exact ⟨0, by omega, rfl, rfl, HH, But.of (Below.refl _ _)⟩
  case round =>
    clear HH
    obtain ⟨i, hig, rfl, rfl, HH, HB⟩ := hrel
    have c0 := HH.out.cell
    have hcl : cnt who (zs.take i) ≤ n := by have := cnt_le who (zs.take i); rw [List.length_take] at this; omega
    cases gk with
    | zero =>
      obtain rfl : i = n := by omega
      have hlt : ¬ ((i : Int) < i) := by omega
      have HE : Hid (mid who zs i = clr who zs) := mid_all who zs i HL.out
      have HC : Hid (zs.take i = zs) := List.take_of_length_le (by rw [HL.out]; omega)
      go_wp2
      go_ret
      exact ⟨ret_int (by rw [HC.out]), by rw [← HE.out]; exact HH.out, HB.out⟩
    | succ g =>
      have hlt : (i : Int) < n := by omega
      have ci := HH.out.at i (by omega)
      have fi := HH.out.free i
      rw [mid_at who zs i (by rw [HL.out]; omega)] at ci
      have HC : Hid (cnt who (zs.take (i + 1)) = cnt who (zs.take i) + hit (zs.getD i 0) who) := by show _ = _; rw [take_snoc zs i (by rw [HL.out]; omega), cnt_snoc]
      by_cases hz : zs.getD i 0 = who
      · have HS : Hid (Ref (wr.setCell ⟨h, i, none⟩ (.int .u32 0)) q h n (mid who zs (i + 1))) := by
          show Ref _ _ _ _ _
          rw [← mid_hit who zs i (by rw [HL.out]; omega) hz]
          exact HH.out.set (by omega) (by omega)
        rw [hz] at ci HC
        rw [hit_yes] at HC
        clear hz
        go_wp2
        go_roundg g
        case measure => omega
        case rel => exact ⟨i + 1, by omega, by go_num, by rw [HC.out]; rfl, HS, HB.out.trans (But.setCell _ h i _)⟩
      · have HS : Hid (Ref wr q h n (mid who zs (i + 1))) := by
          show Ref _ _ _ _ _
          rw [mid_miss who zs i (by rw [HL.out]; omega) hz]
          exact HH.out
        rw [hit_no hz] at HC
        generalize zs.getD i 0 = z at *
        have hz' : (z == who) = false := by simpa using hz
        go_wp2
        go_roundg g
        case measure => omega
        case rel => exact ⟨i + 1, by omega, by go_num, by rw [HC.out]; rfl, HS, HB⟩
theorem rleft_any {w : World} {q h n : Nat} {zs : List Int} (H : Ref w q h n zs) :
    Calls Tryd.prog 16 #[.pointer (some ⟨q, 0, none⟩)] w fun e w' => e = .returned (.int .i64 (cnt 0 zs : Nat)) ∧ w' = w := by
  have hn := H.hi
  have HL : Hid (zs.length = n) := H.len
  have HH : Hid (Ref w q h n zs) := H
  have c0 := H.cell
  clear H
  go_enter Tryd.func16, Tryd.ntmps16
  go_wp2
  go_loopg [3, 4] n (fun g s3 s4 wx => ∃ i : Nat, i + g = n ∧ s4 = .int .i64 i ∧ s3 = .int .i64 (cnt 0 (zs.take i) : Nat) ∧ w = wx)
  case atStart => exact ⟨0, by omega, rfl, rfl, rfl⟩
  case round =>
    obtain ⟨i, hig, rfl, rfl, rfl⟩ := hrel
    have hcl : cnt 0 (zs.take i) ≤ n := by have := cnt_le 0 (zs.take i); rw [List.length_take] at this; omega
    cases gk with
    | zero =>
      obtain rfl : i = n := by omega
      have hlt : ¬ ((i : Int) < i) := by omega
      have HC : Hid (zs.take i = zs) := List.take_of_length_le (by rw [HL.out]; omega)
      go_wp2
      go_ret
      exact ⟨ret_int (by rw [HC.out]), rfl⟩
    | succ g =>
      have hlt : (i : Int) < n := by omega
      have ci := HH.out.at i (by omega)
      have HC : Hid (cnt 0 (zs.take (i + 1)) = cnt 0 (zs.take i) + hit (zs.getD i 0) 0) := by show _ = _; rw [take_snoc zs i (by rw [HL.out]; omega), cnt_snoc]
      by_cases hz : zs.getD i 0 = 0
      · rw [hz] at ci HC
        rw [hit_yes] at HC
        clear hz
        go_wp2
        go_roundg g
        case measure => omega
        case rel => exact ⟨i + 1, by omega, by go_num, by rw [HC.out]; rfl, rfl⟩
      · rw [hit_no hz] at HC
        generalize zs.getD i 0 = z at *
        have hz' : (z == 0) = false := by simpa using hz
        go_wp2
        go_roundg g
        case measure => omega
        case rel => exact ⟨i + 1, by omega, by go_num, by rw [HC.out]; rfl, rfl⟩
/-- append(nil, zs...) -/
theorem app_nil {w : World} {B n : Nat} {sp : Option Addr} {zs : List Int} (hs : Src B w sp zs) (hz : 0 < n) (hn : zs.length = n) (hl : n ≤ 1000000) (c : Nat) :
    ∃ g cap w', (Builtin.append_ #[47, 47] 47 #[.slice none 0 0, .slice sp n c]).run Tryd.prog w = .ok (.slice (some ⟨g, 0, none⟩) n cap) w' ∧ w'.ownsRow w.heap.size 40 1 (.slice (some ⟨g, 0, none⟩) n cap) n (wrd zs) ∧ Below w.heap.size w w' ∧ w.heap.size ≤ g := by
  subst hn
  obtain ⟨i, hi, he⟩ := Option.map_eq_some_iff.1 infoW
  have h1 : i.zero = some (.int .u32 0) := by simpa using congrArg Prod.fst he
  have h2 : i.size = 1 := by simpa using congrArg (fun x => x.2.1) he
  have h3 : i.bytes = 4 := by simpa using congrArg (fun x => x.2.2) he
  obtain ⟨ad, rfl, hc⟩ := hs.pos (by rw [wrd_len]; exact hz)
  obtain ⟨v', w', hr, ho, hg, hne⟩ := run_append_own (P := Tryd.prog) w w.heap.size 47 47 40 i (.int .u32 0) 1 4 Tryd.underlying47 hi h1 h2 h3 rfl (by omega) (.slice none 0 0) 0 [] (World.ownsRow_nil _ _ _ _) ad zs.length c (wrd zs) (by rw [wrd_len, Nat.mul_one]) hc (wrd_one zs) (by simp only [maxLen]; omega) (by omega) (Nat.le_refl _)
  have hnn : v' ≠ .slice none 0 0 := fun e => by have := hne.1 e; omega
  have ho2 := ho.2
  rcases ho2 with ⟨e, _⟩ | ⟨g, cap, cur, rfl, hbg, _⟩
  · exact absurd e hnn
  · rw [Nat.zero_add, List.nil_append] at ho
    rw [Nat.zero_add] at hr
    exact ⟨g, cap, w', hr, ho, ⟨hg.os, hg.tape, hg.output, hg.size, fun k hk => hg.block k hk (by simp [Value.ownBlock])⟩, hbg⟩
/-- the same at the call -/
theorem wpList_app_nil {w : World} {ops : Array Oper} {rest : List Oper} {o : Oper} {a : Act} {Q : Exit → Act → World → Prop} (hgd : o.guard = none) (s x : Operand)
    (ho : o.op = .call { callee := .builtin .append, args := #[s, x], argTypes := #[47, 47] }) (hty : o.type = 47) (hse : a.eval s = .slice none 0 0) {B n c : Nat} {sp : Option Addr} {zs : List Int} (hx : a.eval x = .slice sp n c) (hs : Src B w sp zs) (hz : 0 < n) (hn : zs.length = n) (hl : n ≤ 1000000)
    (h : ∀ g cap w', w'.ownsRow w.heap.size 40 1 (.slice (some ⟨g, 0, none⟩) n cap) n (wrd zs) → Below w.heap.size w w' → w.heap.size ≤ g → wpList Tryd.prog ops Q rest (a.put o.dst (.slice (some ⟨g, 0, none⟩) n cap)) w') : wpList Tryd.prog ops Q (o :: rest) a w := by
  refine wpList_plain hgd fun K hK => ?_
  obtain ⟨g, cap, w', hr, h1, h2, h3⟩ := app_nil hs hz hn hl c
  unfold Oper.wp execOp
  rw [← hty] at hr
  simp only [ho, resolve, invoke, builtin, Sem.run_bind, Sem.run_pure, Result.andThen_ok, List.map_toArray, List.map_cons, List.map_nil, hse, hx]
  rw [hty] at hr ⊢
  rw [hr]
  exact hK _ _ (h g cap w' h1 h2 h3)
theorem rowners_any {w : World} {q h n : Nat} {zs : List Int} (H : Ref w q h n zs) :
    Calls Tryd.prog 14 #[.pointer (some ⟨q, 0, none⟩)] w fun e w' => ∃ g cap, e = .returned (.slice (some ⟨g, 0, none⟩) n cap) ∧ w'.ownsRow w.heap.size 40 1 (.slice (some ⟨g, 0, none⟩) n cap) n (wrd zs) ∧ Below w.heap.size w w' := by
  have c0 := H.cell
  have HS : Hid (Src w.heap.size w (some ⟨h, 0, none⟩) zs) := Src.row (n := 0) H.row H.wf
  have HN : Hid (zs.length = n) := H.len
  have hlo : 0 < n := H.lo
  have hhi := H.hi
  clear H
  go_enter Tryd.func14, Tryd.ntmps14
  go_wp2_with (first
    | (at_builtin; refine wpList_app_nil rfl (.const (.slice none 0 0)) (.tmp 6) rfl rfl rfl rfl HS.out hlo HN.out (by omega) ?_; intro g5 cap5 w5 ho5 hb5 hg5))
  go_ret
  exact ⟨_, _, rfl, ho5, hb5⟩
end Go.Proofs.YtpdibhgbaclbaaaDoor
