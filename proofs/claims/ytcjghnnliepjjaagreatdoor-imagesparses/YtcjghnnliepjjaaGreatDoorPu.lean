/- strconv.ParseUint at base 10 and 31 bits, by its own text. -/
import Derived.Test.YtcjghnnliepjjaaGreatDoorNum
import Derived.Laws.Strings3
import Derived.Laws.Closers25
import Derived.Laws.Closers25b
import Derived.WalkKit
import Derived.BigCall
import Derived.BigGuard
namespace Go.Proofs.YtcjghnnliepjjaaGreatDoor
open Go Go.RowKit
set_option maxRecDepth 100000
set_option linter.unusedVariables false
/-- the number of digits, at most 2147483647 -/
def n31 : Nat → List UInt8 → Option Nat
  | acc, [] => some acc
  | acc, c :: r => if 48 ≤ c.toNat ∧ c.toNat ≤ 57 ∧ acc * 10 + (c.toNat - 48) ≤ 2147483647 then n31 (acc * 10 + (c.toNat - 48)) r else none
/-- what is answered: the number, or an error of one of two kinds -/
def PU (e : Ending) : Option Nat → Prop
  | some u => e = .returned (.tuple #[.int .u64 (u : Nat), .nilIface])
  | none => ∃ x c : Int, e = .returned (.tuple #[.int .u64 x, .iface 201 (.int .i64 c)]) ∧ (c = 1 ∨ c = 2)
theorem PU.bad {e : Ending} {x c : Int} {r : Option Nat} (hr : r = none) (he : e = .returned (.tuple #[.int .u64 x, .iface 201 (.int .i64 c)])) (hc : c = 1 ∨ c = 2) : PU e r := by
  subst hr; exact ⟨x, c, he, hc⟩
theorem lower_any (c : Int) (w : World) : Calls Tryz.prog 158 #[.int .u8 c] w fun e w' => e = .returned (.int .u8 (bits .or .u8 c 32)) ∧ w' = w := by
  go_enter Tryz.func158, Tryz.ntmps158
  go_wp2
  go_ret
  exact ⟨rfl, rfl⟩
theorem bytes_below (w : World) (e : TypeId) (t : ByteArray) : Below w.heap.size w (Lib.bytesWorld w e t) :=
  ⟨rfl, rfl, rfl, by rw [Lib.bytesWorld_size]; omega, fun j hj => Lib.bytesWorld_at_old w e t j hj⟩
set_option maxHeartbeats 8000000 in
theorem iParseUint_any (t : ByteArray) (hne : t.size ≠ 0) (hmax : t.size ≤ 1000000) (w : World) :
    Calls Tryz.prog 145 #[.string t, .int .i64 10, .int .i64 31] w fun e w' => PU e (n31 0 t.data.toList) ∧ Below w.heap.size w w' := by
  have hemp : t.toList.isEmpty = false := by
    rw [← decide_eq_emptyBytes]
    exact decide_eq_false (fun h => hne (by rw [h]; rfl))
  have hcv := Lib.run_convert_string_bytes (P := Tryz.prog) w 9 22 5 t (u := .string) Tryz.underlying9 Tryz.underlying22 Tryz.underlying5
  have hB : ∀ j, j < t.size → (Lib.bytesWorld w 5 t).cell? ⟨w.heap.size, j, none⟩ = some (.int .u8 (t.data.toList.getD j 0).toNat) := fun j hj => Lib.bytesWorld_cell w 5 t j hj
  have hb := bytes_below w 5 t
  generalize Lib.bytesWorld w 5 t = W1 at *
  obtain ⟨bs, hL⟩ : ∃ bs, bs = t.data.toList := ⟨_, rfl⟩
  have hLn : bs.length = t.size := by rw [hL, Lib.size_eq]
  rw [← hL] at hB ⊢
  clear hL
  have hmv : IntKind.u64.wrap (IntKind.u64.wrap 2147483648 - 1) = 2147483647 := by
    rw [IntKind.wrap_u64, IntKind.wrap_u64]
    decide
  go_enter Tryz.func145, Tryz.ntmps145
  go_wp2
  go_loop [12, 13, 101] (fun vu vn vi => ∃ (k acc : Nat) (a : Int), vu = .bool false ∧ vn = .int .u64 a ∧ vi = .int .i64 k ∧ k ≤ t.size ∧ Hid (a = (acc : Int) ∧ acc ≤ 2147483647 ∧ n31 0 bs = n31 acc (bs.drop k)))
    (fun _ _ vi => t.size - (intOf vi).toNat)
  case atStart => exact ⟨0, 0, 0, rfl, rfl, rfl, by omega, rfl, by omega, rfl⟩
  case round =>
    obtain ⟨k, acc, a, rfl, rfl, rfl, hk, hh⟩ := hrel
    obtain ⟨ha, hacc, hdec⟩ := hh.out
    clear hh
    have a0 : 0 ≤ a := by omega
    have a1 : a ≤ 2147483647 := by omega
    by_cases hkn : k < t.size
    · have hc := hB k hkn
      have hdrop : bs.drop k = bs.getD k 0 :: bs.drop (k + 1) := by
        rw [List.drop_eq_getElem_cons (by omega : k < bs.length)]
        simp [show k < bs.length by omega]
      rw [hdrop] at hdec
      generalize bs.getD k 0 = c at hc hdec
      have hc256 : c.toNat < 256 := c.toNat_lt
      clear hB hdrop
      by_cases hdig : 48 ≤ c.toNat ∧ c.toNat ≤ 57
      · obtain ⟨hd0, hd1⟩ := hdig
        by_cases hov : acc * 10 + (c.toNat - 48) ≤ 2147483647
        · have HN : Hid (a * 10 + ((c.toNat : Int) - 48) = ((acc * 10 + (c.toNat - 48) : Nat) : Int) ∧ acc * 10 + (c.toNat - 48) ≤ 2147483647 ∧ n31 0 bs = n31 (acc * 10 + (c.toNat - 48)) (bs.drop (k + 1))) := ⟨by omega, hov, by rw [hdec, n31, if_pos ⟨hd0, hd1, hov⟩]⟩
          have iov : a * 10 + ((c.toNat : Int) - 48) ≤ 2147483647 := by omega
          clear hacc hov hdec ha
          go_wp2
          refine ⟨⟨k + 1, acc * 10 + (c.toNat - 48), a * 10 + ((c.toNat : Int) - 48), rfl, (by first | rfl | (congr 1; omega)), (by first | rfl | (congr 1; omega)), by omega, HN⟩, by simp [intOf]; omega⟩
        · have HF : Hid (n31 0 bs = none) := by show _ = _; rw [hdec, n31, if_neg (fun q => hov q.2.2)]
          have iov : 2147483647 < a * 10 + ((c.toNat : Int) - 48) := by omega
          clear hacc hov hdec ha
          go_wp2
          go_ret2
          exact ⟨PU.bad HF.out rfl (Or.inl rfl), hb⟩
      · have HF : Hid (n31 0 bs = none) := by show _ = _; rw [hdec, n31, if_neg (fun q => hdig ⟨q.1, q.2.1⟩)]
        clear hacc ha hdec
        have hv0 := bits_lo_u8 .or (c.toNat : Int) 32
        have hv1 := bits_hi_u8 .or (c.toNat : Int) 32
        have hu0 := bits_lo_u8 .or 95 32
        have hu1 := bits_hi_u8 .or 95 32
        go_wp2_with (go_at_call 158; refine (lower_any _ _).mono ?_; rintro e w' ⟨rfl, rfl⟩)
        all_goals go_ret2
        all_goals exact ⟨PU.bad HF.out rfl (Or.inr rfl), hb⟩
    · have HF : Hid (n31 0 bs = some acc) := by show _ = _; rw [hdec, List.drop_eq_nil_of_le (by omega)]; rfl
      have hkk : k = t.size := by omega
      subst hkk
      subst ha
      clear hacc a0 a1 hdec
      go_wp2
      go_ret2
      refine ⟨?_, hb⟩
      rw [HF.out]
      rfl
theorem toErr_syntax (fn s : ByteArray) (base bits : Int) (w : World) (hlim : s.size ≤ 1000000) (hE : Env3 w) :
    Calls Tryz.prog 146 #[.string fn, .string s, .int .i64 base, .int .i64 bits, .iface 201 (.int .i64 2)] w fun e w' => (∃ t p, e = .returned (.iface t p)) ∧ Below w.heap.size w w' := by
  obtain ⟨t, p, hv⟩ := hE.two.errs.syn
  exact (Any.strconv_toError_syntax (ρ := Tryz.laysC172_ren) { Tryz.laysC172 with } fn s base bits _ w (by omega) hv (Or.inr ⟨t, p, rfl⟩)).mono fun e w' ⟨N, he, _, _, hb⟩ => ⟨⟨_, _, he⟩, hb⟩
theorem toErr_range (fn s : ByteArray) (base bits : Int) (w : World) (hlim : s.size ≤ 1000000) (hE : Env3 w) :
    Calls Tryz.prog 146 #[.string fn, .string s, .int .i64 base, .int .i64 bits, .iface 201 (.int .i64 1)] w fun e w' => (∃ t p, e = .returned (.iface t p)) ∧ Below w.heap.size w w' := by
  obtain ⟨t, p, hv⟩ := hE.two.errs.rng
  exact (Any.strconv_toError_range (ρ := Tryz.laysC172_ren) { Tryz.laysC172 with } fn s base bits _ w (by omega) hv (Or.inr ⟨t, p, rfl⟩)).mono fun e w' ⟨N, he, _, _, hb⟩ => ⟨⟨_, _, he⟩, hb⟩
theorem toErr_both (fn s : ByteArray) (base bits c : Int) (w : World) (hlim : s.size ≤ 1000000) (hE : Env3 w) (hc : c = 1 ∨ c = 2) :
    Calls Tryz.prog 146 #[.string fn, .string s, .int .i64 base, .int .i64 bits, .iface 201 (.int .i64 c)] w fun e w' => (∃ t p, e = .returned (.iface t p)) ∧ Below w.heap.size w w' := by
  rcases hc with rfl | rfl
  · exact toErr_range fn s base bits w hlim hE
  · exact toErr_syntax fn s base bits w hlim hE
/-- what is answered in public -/
def PV (e : Ending) : Option Nat → Prop
  | some u => e = .returned (.tuple #[.int .u64 (u : Nat), .nilIface])
  | none => ∃ (x : Int) (t : TypeId) (p : Value), e = .returned (.tuple #[.int .u64 x, .iface t p])
/-- a number's digits; nothing is none -/
def d31 (l : List UInt8) : Option Nat := if l = [] then none else n31 0 l
/-- and none needless -/
def dec31 (l : List UInt8) : Option Nat := match d31 l with
  | some u => if Lib.decDigits u = l then some u else none
  | none => none
theorem n31_le : ∀ (l : List UInt8) (acc u : Nat), acc ≤ 2147483647 → n31 acc l = some u → u ≤ 2147483647
  | [], acc, u, h, e => by simp only [n31, Option.some.injEq] at e; omega
  | c :: r, acc, u, h, e => by
    simp only [n31] at e
    split at e
    · rename_i q; exact n31_le r _ u q.2.2 e
    · cases e
theorem d31_le {l : List UInt8} {u : Nat} (h : d31 l = some u) : u ≤ 2147483647 := by
  unfold d31 at h
  split at h
  · cases h
  · exact n31_le _ _ _ (by omega) h
set_option maxHeartbeats 2000000 in
theorem iParseUint_empty (w : World) : Calls Tryz.prog 145 #[.string ⟨#[]⟩, .int .i64 10, .int .i64 31] w fun e w' => e = .returned (.tuple #[.int .u64 0, .iface 201 (.int .i64 2)]) ∧ w' = w := by
  go_enter Tryz.func145, Tryz.ntmps145
  go_wp2
  go_ret2
  exact ⟨rfl, rfl⟩
set_option maxHeartbeats 2000000 in
theorem ParseUint_any (t : ByteArray) (hmax : t.size ≤ 1000000) (w : World) (hE : Env3 w) :
    Calls Tryz.prog 126 #[.string t, .int .i64 10, .int .i64 31] w fun e w' => PV e (d31 t.data.toList) ∧ Below w.heap.size w w' := by
  by_cases h0 : t.size = 0
  · obtain rfl : t = ⟨#[]⟩ := by
      obtain ⟨d⟩ := t
      have : d.size = 0 := h0
      rw [Array.eq_empty_of_size_eq_zero this]
    have cE := toErr_syntax ⟨#[80, 97, 114, 115, 101, 85, 105, 110, 116]⟩ ⟨#[]⟩ 10 31 w (by decide) hE
    clear hE
    go_enter Tryz.func126, Tryz.ntmps126
    go_wp2_with (first
      | (go_at_call 145; refine (iParseUint_empty _).mono ?_; rintro e w1 ⟨rfl, h1⟩; obtain rfl := h1.symm)
      | (go_at_call 146; refine cE.mono ?_; rintro e w2 ⟨⟨t, p, rfl⟩, hb⟩))
    go_ret2
    exact ⟨⟨_, _, _, rfl⟩, hb⟩
  · have hl : t.data.toList ≠ [] := fun e => h0 (by
      show t.data.size = 0
      rw [← Array.length_toList, e]; rfl)
    have cI := iParseUint_any t h0 hmax w
    unfold d31
    rw [if_neg hl]
    cases hn : n31 0 t.data.toList with
    | some u =>
      rw [hn] at cI
      simp only [PU] at cI
      clear hE hl h0
      go_enter Tryz.func126, Tryz.ntmps126
      go_wp2_with (go_at_call 145; refine cI.mono ?_; rintro e w1 ⟨rfl, hb⟩)
      go_ret2
      exact ⟨rfl, hb⟩
    | none =>
      rw [hn] at cI
      simp only [PU] at cI
      have cT := fun W (hW : Env3 W) c (hc : c = 1 ∨ c = 2) => toErr_both ⟨#[80, 97, 114, 115, 101, 85, 105, 110, 116]⟩ t 10 31 c W hmax hW hc
      have HE : Hid (Env3 w) := hE
      clear hE hl h0
      go_enter Tryz.func126, Tryz.ntmps126
      go_wp2_with (first
        | (go_at_call 145; refine cI.mono ?_; rintro e w1 ⟨⟨x, c, rfl, hc⟩, hb⟩)
        | (go_at_call 146; refine (cT _ (HE.out.on hb) _ hc).mono ?_; rintro e w2 ⟨⟨t, p, rfl⟩, hb2⟩))
      go_ret2
      exact ⟨⟨_, _, _, rfl⟩, hb.trans (hb2.mono hb.size)⟩
set_option maxHeartbeats 2000000 in
/-- a number's digits, none needless -/
theorem decN_any (t : ByteArray) (hmax : t.size ≤ 1000000) (w : World) (hE : Env3 w) :
    Calls Tryz.prog 113 #[.string t] w fun e w' => e = .returned (match dec31 t.data.toList with | some u => .tuple #[.int .i64 (u : Nat), .bool true] | none => .tuple #[.int .i64 0, .bool false]) ∧ Below w.heap.size w w' := by
  have cP := ParseUint_any t hmax w hE
  cases hd : d31 t.data.toList with
  | none =>
    rw [hd] at cP
    rw [show dec31 t.data.toList = none by unfold dec31; rw [hd]]
    simp only [PV] at cP
    clear hE hd
    go_enter Tryz.func113, Tryz.ntmps113
    go_wp2_with (go_at_call 126; refine cP.mono ?_; rintro e w1 ⟨⟨x, t', p, rfl⟩, hb⟩)
    go_ret2
    exact ⟨rfl, hb⟩
  | some u =>
    rw [hd] at cP
    simp only [PV] at cP
    have hu : u ≤ 2147483647 := d31_le hd
    have cF := fun W (hW : Pow W) => Format_any u hu W hW
    by_cases he : Lib.decDigits u = t.data.toList
    · rw [show dec31 t.data.toList = some u by unfold dec31; rw [hd]; simp [he]]
      have ht : (⟨(Lib.decDigits u).toArray⟩ : ByteArray) = t := by rw [he]
      rw [ht] at cF
      have HP : Hid (Pow w) := hE.two.env.pow
      clear hE hd he ht
      go_enter Tryz.func113, Tryz.ntmps113
      go_wp2_with (first
        | (go_at_call 126; refine cP.mono ?_; rintro e w1 ⟨rfl, hb⟩)
        | (go_at_call 127; refine (cF _ (HP.out.on hb)).mono ?_; rintro e w2 ⟨rfl, hb2⟩))
      go_ret2
      exact ⟨by go_num, hb.trans (hb2.mono hb.size)⟩
    · rw [show dec31 t.data.toList = none by unfold dec31; rw [hd]; simp [he]]
      obtain ⟨x, hx⟩ : ∃ x, (⟨(Lib.decDigits u).toArray⟩ : ByteArray) = x := ⟨_, rfl⟩
      rw [hx] at cF
      have hne : (x.toList == t.toList) = false := by
        rw [ByteArray.toList_eq, ByteArray.toList_eq, beq_eq_false_iff_ne, ← hx]
        exact he
      have HP : Hid (Pow w) := hE.two.env.pow
      clear hE hd he hx
      go_enter Tryz.func113, Tryz.ntmps113
      go_wp2_with (first
        | (go_at_call 126; refine cP.mono ?_; rintro e w1 ⟨rfl, hb⟩)
        | (go_at_call 127; refine (cF _ (HP.out.on hb)).mono ?_; rintro e w2 ⟨rfl, hb2⟩))
      go_ret2
      exact ⟨rfl, hb.trans (hb2.mono hb.size)⟩
end Go.Proofs.YtcjghnnliepjjaaGreatDoor
