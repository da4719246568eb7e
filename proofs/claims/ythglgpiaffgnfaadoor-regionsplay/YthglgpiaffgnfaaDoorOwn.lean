/- Rows of bytes that a call makes by append; numbers and their bytes; a slice of bytes as an argument. -/
import Derived.Test.YthglgpiaffgnfaaDoorSame
import Derived.Laws.OwnMore
import Derived.Carry
import Derived.ChangeMaps5
namespace Go.Proofs.YthglgpiaffgnfaaDoor
open Go Go.RowKit
open Go.ChangeShapes Go.WideShapes Go.WideElems
set_option maxRecDepth 100000
set_option linter.unusedVariables false
theorem splice_mid {α : Type} (L cs : List α) (k : Nat) (h : k + cs.length ≤ L.length) : ((splice L k cs).drop k).take cs.length = cs := by
  unfold splice
  rw [List.drop_append_of_le_length (by simp; omega), List.drop_of_length_le (by simp; omega), List.nil_append, List.take_left]
theorem wv_bs4 (v : Int) (hv : 0 ≤ v ∧ v ≤ 4294967295) : wv (bs4 v) = v := by
  simp only [wv, bs4, List.foldl]; omega
theorem word_back (zs : List Int) (k : Nat) (v : Int) (h : k + 4 ≤ zs.length) (hv : 0 ≤ v ∧ v ≤ 4294967295) : wv (((splice zs k (bs4 v)).drop k).take 4) = v := by
  have := splice_mid zs (bs4 v) k h
  rw [show (4 : Nat) = (bs4 v).length from rfl, this, wv_bs4 v hv]
theorem word_is {w : World} {p g : Nat} {zs : List Int} (h : Reg w p g zs) (k : Nat) (hat : k + 4 ≤ zs.length) {v : Int} (hv : wv ((zs.drop k).take 4) = v) :
    Calls Tryd.prog 12 #[.pointer (some ⟨p, 0, none⟩), .int .u32 k] w fun e w' => e = .returned (.tuple #[.int .u32 v, .int .i64 0]) ∧ w' = w := by
  subst hv; exact word_yes h k hat
theorem bytes_len {w : World} {p g n : Nat} {zs : List Int} (h : Reg w p g zs) (hn : zs.length = n) :
    Calls Tryd.prog 16 #[.pointer (some ⟨p, 0, none⟩)] w fun e w' => e = .returned (.slice (some ⟨w.heap.size, 0, none⟩) n n) ∧ Row w' w.heap.size zs ∧ Below w.heap.size w w' := by
  subst hn; exact bytes_any h
theorem same_len {w : World} {B C n : Nat} {sp tp : Option Addr} {zs : List Int} (hs : Src B w sp zs) (ht : Src C w tp zs) (hn : zs.length = n) (hl : n ≤ 1000000) (c d : Nat) :
    Calls Tryd.prog 17 #[.slice sp n c, .slice tp n d] w fun e w' => e = .returned (.bool true) ∧ Below w.heap.size w w' := by
  subst hn; exact same_yes hs ht hl c d
theorem app0 (zs : List Int) : zs ++ List.replicate (zs.length - zs.length) 0 = zs := by simp
theorem new_all {w : World} {B n : Nat} {sp : Option Addr} {zs : List Int} (hs : Src B w sp zs) (hBw : B ≤ w.heap.size) (hz : zs.length = n) (hn : n ≤ 4096) (c : Nat) :
    Calls Tryd.prog 5 #[.int .i64 n, .slice sp n c] w fun e w' => ∃ p g, e = .returned (.tuple #[.pointer (some ⟨p, 0, none⟩), .int .i64 0]) ∧ Reg w' p g zs ∧ Below w.heap.size w w' ∧ w.heap.size ≤ g ∧ g < p := by
  subst hz
  have := new_yes hs hBw c zs.length hn (Nat.le_refl _)
  rwa [app0] at this
/-- append(nil, zs...) -/
theorem app_nil {w : World} {B n : Nat} {sp : Option Addr} {zs : List Int} (hs : Src B w sp zs) (hz : 0 < n) (hn : zs.length = n) (hl : n ≤ 1000000) (c : Nat) :
    ∃ g cap w', (Builtin.append_ #[22, 22] 22 #[.slice none 0 0, .slice sp n c]).run Tryd.prog w = .ok (.slice (some ⟨g, 0, none⟩) n cap) w' ∧ w'.ownsRow w.heap.size 5 1 (.slice (some ⟨g, 0, none⟩) n cap) n (byt zs) ∧ Below w.heap.size w w' ∧ w.heap.size ≤ g := by
  subst hn
  obtain ⟨i, hi, he⟩ := Option.map_eq_some_iff.1 info5
  have h1 : i.zero = some (.int .u8 0) := by simpa using congrArg Prod.fst he
  have h2 : i.size = 1 := by simpa using congrArg (fun x => x.2.1) he
  have h3 : i.bytes = 1 := by simpa using congrArg (fun x => x.2.2) he
  obtain ⟨ad, rfl, hc⟩ := hs.pos (by rw [byt_len]; exact hz)
  obtain ⟨v', w', hr, ho, hg, hne⟩ := run_append_own (P := Tryd.prog) w w.heap.size 22 22 5 i (.int .u8 0) 1 1 Tryd.underlying22 hi h1 h2 h3 rfl (by omega) (.slice none 0 0) 0 [] (World.ownsRow_nil _ _ _ _) ad zs.length c (byt zs) (by rw [byt_len, Nat.mul_one]) hc (byt_one zs) (by simp only [maxLen]; omega) (by omega) (Nat.le_refl _)
  have hnn : v' ≠ .slice none 0 0 := fun e => by have := hne.1 e; omega
  have ho2 := ho.2
  rcases ho2 with ⟨e, _⟩ | ⟨g, cap, cur, rfl, hbg, _⟩
  · exact absurd e hnn
  · rw [Nat.zero_add, List.nil_append] at ho
    rw [Nat.zero_add] at hr
    exact ⟨g, cap, w', hr, ho, ⟨hg.os, hg.tape, hg.output, hg.size, fun k hk => hg.block k hk (by simp [Value.ownBlock])⟩, hbg⟩
/-- the same at the call -/
theorem wpList_app_nil {w : World} {ops : Array Oper} {rest : List Oper} {o : Oper} {a : Act} {Q : Exit → Act → World → Prop} (hgd : o.guard = none) (s x : Operand)
    (ho : o.op = .call { callee := .builtin .append, args := #[s, x], argTypes := #[22, 22] }) (hty : o.type = 22) (hse : a.eval s = .slice none 0 0) {B n c : Nat} {sp : Option Addr} {zs : List Int} (hx : a.eval x = .slice sp n c) (hs : Src B w sp zs) (hz : 0 < n) (hn : zs.length = n) (hl : n ≤ 1000000)
    (h : ∀ g cap w', w'.ownsRow w.heap.size 5 1 (.slice (some ⟨g, 0, none⟩) n cap) n (byt zs) → Below w.heap.size w w' → w.heap.size ≤ g → wpList Tryd.prog ops Q rest (a.put o.dst (.slice (some ⟨g, 0, none⟩) n cap)) w') : wpList Tryd.prog ops Q (o :: rest) a w := by
  refine wpList_plain hgd fun K hK => ?_
  obtain ⟨g, cap, w', hr, h1, h2, h3⟩ := app_nil hs hz hn hl c
  unfold Oper.wp execOp
  rw [← hty] at hr
  simp only [ho, resolve, invoke, builtin, Sem.run_bind, Sem.run_pure, Result.andThen_ok, List.map_toArray, List.map_cons, List.map_nil, hse, hx]
  rw [hty] at hr ⊢
  rw [hr]
  exact hK _ _ (h g cap w' h1 h2 h3)
theorem own_src {w : World} {B g n cap : Nat} {zs : List Int} (ho : w.ownsRow B 5 1 (.slice (some ⟨g, 0, none⟩) n cap) n (byt zs)) (hz : isB zs) : Src w.heap.size w (some ⟨g, 0, none⟩) zs := by
  have hn : zs.length = n := by have := ho.1; rw [byt_len] at this; omega
  have hlt : g < w.heap.size := (ho.lt g rfl).2
  exact ⟨fun _ => ⟨g, 0, rfl, hlt, fun i hi => by rw [Nat.zero_add, ho.cellAt i (by omega)]; exact byt_at zs i hi⟩, hz⟩
theorem byt_set (zs : List Int) (k : Nat) (v : Int) : (byt zs).set k (.int .u8 v) = byt (zs.set k v) := by simp [byt]
theorem set4 (zs : List Int) (k : Nat) (a b c d : Int) (h : k + 4 ≤ zs.length) : (((zs.set k a).set (k + 1) b).set (k + 2) c).set (k + 3) d = splice zs k [a, b, c, d] := by
  apply List.ext_getElem
  · rw [length_splice _ _ _ h]; simp
  · intro i h1 h2
    unfold splice
    simp only [List.getElem_set, List.getElem_append, List.length_take, List.getElem_take, List.getElem_drop, List.length_cons, List.length_nil]
    by_cases c0 : i < k
    · rw [if_neg (by omega), if_neg (by omega), if_neg (by omega), if_neg (by omega), dif_pos (by omega)]
    · rw [dif_neg (by omega)]
      by_cases c1 : i < k + 4
      · rw [dif_pos (by omega)]
        have hm : min k zs.length = k := Nat.min_eq_left (by omega)
        obtain e | e | e | e : i = k ∨ i = k + 1 ∨ i = k + 2 ∨ i = k + 3 := by omega
        all_goals subst e; simp [hm]
      · rw [dif_neg (by omega), if_neg (by omega), if_neg (by omega), if_neg (by omega), if_neg (by omega)]
        congr 1
        omega
/-- a slice of bytes that came in -/
theorem open_bytes {H : Type} {enc : TypeId × Value → H} {W : World} {base : Nat} {v : Value} {d : DataW H} {p : List MemPlace}
    (hval : Value.okWide Tryd.prog W .any base 22 v) (h : DataW.Trod enc Tryd.prog W 0 (fun _ => true) true 22 v d p) :
    ∃ sp zs cap, v = .slice sp zs.length cap ∧ Src W.heap.size W sp zs ∧ zs.length ≤ maxLen := by
  obtain ⟨a0, len, cap, rfl⟩ := okWide_slice Tryd.underlying22 hval
  obtain ⟨fuel, hf⟩ := h
  rcases open_ints Tryd.underlying22 Tryd.underlying5 (by kernel_rfl) hf with ⟨hcs, hx⟩ | ⟨a, len', cap', zs, hcs, _, hl, hm, hz, hx, hcell, hwz⟩
  · simp [Value.cells] at hcs
    obtain ⟨rfl, rfl, rfl⟩ := hcs
    exact ⟨none, [], 0, rfl, Src.nil' _, by simp⟩
  · simp [Value.cells] at hcs
    obtain ⟨rfl, rfl, rfl⟩ := hcs
    simp at hz
    have hll : (zs.take len).length = len := by simp; omega
    refine ⟨some a, zs.take len, cap, by rw [hll], ⟨fun hp => ?_, fun z hz' => bounds_u8 (hwz z (List.mem_of_mem_take hz'))⟩, by rw [hll]; omega⟩
    rw [hll] at hp
    obtain ⟨b, off, rfl, hc⟩ := ints_at hcell (by omega)
    refine ⟨b, off, rfl, cell_lt (hc 0 (by omega)), fun i hi => ?_⟩
    rw [hll] at hi
    rw [hc i (by omega)]
    simp [hi]
theorem laidOut : laidOutB Tryd.prog = true := by kernel_rfl
end Go.Proofs.YthglgpiaffgnfaaDoor
