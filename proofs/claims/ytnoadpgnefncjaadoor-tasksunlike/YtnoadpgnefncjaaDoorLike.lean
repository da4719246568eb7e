/- Two tasks are one, but for how long they wait. -/
import Derived.Test.YtnoadpgnefncjaaDoorChk
import Derived.Test.YtnoadpgnefncjaaDoorDig
namespace Go.Proofs.YtnoadpgnefncjaaDoor
open Go Go.RowKit
set_option maxRecDepth 100000
set_option linter.unusedVariables false
set_option linter.unusedSimpArgs false
theorem uT : Tryd.prog.underlying 29 = some (.struct (Tryd.prog.fieldsOf 29)) := by kernel_rfl
theorem uA : Tryd.prog.underlying 26 = some (.struct (Tryd.prog.fieldsOf 26)) := by kernel_rfl
instance (h s : Int) (d : Bool) (b r wh ah av am lf an la vl h' s' : Int) (d' : Bool) (b' r' wh' ah' av' am' lf' an' la' vl' : Int) : Decidable (Like h s d b r wh ah av am lf an la vl h' s' d' b' r' wh' ah' av' am' lf' an' la' vl') := by unfold Like; infer_instance
def likeB (h s : Int) (d : Bool) (b r wh ah av am lf an la vl h' s' : Int) (d' : Bool) (b' r' wh' ah' av' am' lf' an' la' vl' : Int) : Bool := decide (Like h s d b r wh ah av am lf an la vl h' s' d' b' r' wh' ah' av' am' lf' an' la' vl')
theorem eqF_cons (d : Nat) (xs ys : Array Value) (f : Field) (fs : List Field) (w : World) {a b : Value} {q p : Bool} (hn : f.name ≠ "_") (ha : (part f.type xs f.offset).run Tryd.prog w = .ok a w) (hb : (part f.type ys f.offset).run Tryd.prog w = .ok b w) (hq : (Op.equalIn d f.type a b).run Tryd.prog w = .ok q w) (hp : (Op.eqFields d xs ys fs).run Tryd.prog w = .ok p w) :
    (Op.eqFields d xs ys (f :: fs)).run Tryd.prog w = .ok (q && p) w := by
  simp only [Op.eqFields, if_pos hn, Sem.run_bind, ha, hb, hq, Result.andThen_ok]
  cases q
  · simp
  · simpa using hp
theorem eqF_nil (d : Nat) (xs ys : Array Value) (w : World) : (Op.eqFields d xs ys []).run Tryd.prog w = .ok true w := by simp [Op.eqFields]
theorem eqA (d : Nat) (wh ah av am aw wh' ah' av' am' aw' : Int) (w : World) : (Op.equalIn (d + 1 + 1) 26 (.agg #[.int .u8 wh, .int .u32 ah, .int .u32 av, .int .u32 am, .int .i64 aw]) (.agg #[.int .u8 wh', .int .u32 ah', .int .u32 av', .int .u32 am', .int .i64 aw'])).run Tryd.prog w = .ok (((wh == wh') && ((ah == ah') && ((av == av') && ((am == am') && ((aw == aw') && true)))))) w := by
  rw [run_equalIn_agg w (d + 1) 26 _ _ uA (by kernel_rfl)]
  simp only [Program.fieldsOf, Tryd.underlying26]
  refine eqF_cons _ _ _ _ _ _ (by decide) (by simp [go_sem, part]) (by simp [go_sem, part]) (run_equalIn_int w d 24 .u8 .u8 wh wh' Tryd.underlying24) ?_
  refine eqF_cons _ _ _ _ _ _ (by decide) (by simp [go_sem, part]) (by simp [go_sem, part]) (run_equalIn_int w d 22 .u32 .u32 ah ah' Tryd.underlying22) ?_
  refine eqF_cons _ _ _ _ _ _ (by decide) (by simp [go_sem, part]) (by simp [go_sem, part]) (run_equalIn_int w d 22 .u32 .u32 av av' Tryd.underlying22) ?_
  refine eqF_cons _ _ _ _ _ _ (by decide) (by simp [go_sem, part]) (by simp [go_sem, part]) (run_equalIn_int w d 22 .u32 .u32 am am' Tryd.underlying22) ?_
  refine eqF_cons _ _ _ _ _ _ (by decide) (by simp [go_sem, part]) (by simp [go_sem, part]) (run_equalIn_int w d 2 .i64 .i64 aw aw' Tryd.underlying2) ?_
  exact eqF_nil _ _ _ _
theorem eqT_run (h s : Int) (d : Bool) (b r wh ah av am lf an la vl h' s' : Int) (d' : Bool) (b' r' wh' ah' av' am' lf' an' la' vl' : Int) (w : World) : (binOp .eql 29 (.agg #[.int .u32 h, .int .u8 s, .bool d, .int .i64 b, .int .i64 r, .int .u8 wh, .int .u32 ah, .int .u32 av, .int .u32 am, .int .i64 0, .int .i64 lf, .int .i64 an, .int .i64 la, .int .u32 vl]) (.agg #[.int .u32 h', .int .u8 s', .bool d', .int .i64 b', .int .i64 r', .int .u8 wh', .int .u32 ah', .int .u32 av', .int .u32 am', .int .i64 0, .int .i64 lf', .int .i64 an', .int .i64 la', .int .u32 vl'])).run Tryd.prog w = .ok (.bool ((h == h') && ((s == s') && ((d == d') && ((b == b') && ((r == r') && (((wh == wh') && ((ah == ah') && ((av == av') && ((am == am') && (((0 : Int) == 0) && true))))) && ((lf == lf') && ((an == an') && ((la == la') && ((vl == vl') && true))))))))))) w := by
  rw [run_eql_struct, show (10000 : Nat) = 9997 + 1 + 1 + 1 from rfl, run_equalIn_agg w (9997 + 1 + 1) 29 _ _ uT (by kernel_rfl)]
  have E : (Op.eqFields (9997 + 1 + 1) #[.int .u32 h, .int .u8 s, .bool d, .int .i64 b, .int .i64 r, .int .u8 wh, .int .u32 ah, .int .u32 av, .int .u32 am, .int .i64 0, .int .i64 lf, .int .i64 an, .int .i64 la, .int .u32 vl] #[.int .u32 h', .int .u8 s', .bool d', .int .i64 b', .int .i64 r', .int .u8 wh', .int .u32 ah', .int .u32 av', .int .u32 am', .int .i64 0, .int .i64 lf', .int .i64 an', .int .i64 la', .int .u32 vl'] (Tryd.prog.fieldsOf 29).toList).run Tryd.prog w = .ok ((h == h') && ((s == s') && ((d == d') && ((b == b') && ((r == r') && (((wh == wh') && ((ah == ah') && ((av == av') && ((am == am') && (((0 : Int) == 0) && true))))) && ((lf == lf') && ((an == an') && ((la == la') && ((vl == vl') && true)))))))))) w := by
    simp only [Program.fieldsOf, Tryd.underlying29]
    refine eqF_cons _ _ _ _ _ _ (by decide) (by simp [go_sem, part]) (by simp [go_sem, part]) (run_equalIn_int w _ 22 .u32 .u32 h h' Tryd.underlying22) ?_
    refine eqF_cons _ _ _ _ _ _ (by decide) (by simp [go_sem, part]) (by simp [go_sem, part]) (run_equalIn_int w _ 23 .u8 .u8 s s' Tryd.underlying23) ?_
    refine eqF_cons _ _ _ _ _ _ (by decide) (by simp [go_sem, part]) (by simp [go_sem, part]) (run_equalIn_bool' w _ 4 d d' Tryd.underlying4) ?_
    refine eqF_cons _ _ _ _ _ _ (by decide) (by simp [go_sem, part]) (by simp [go_sem, part]) (run_equalIn_int w _ 3 .i64 .i64 b b' Tryd.underlying3) ?_
    refine eqF_cons _ _ _ _ _ _ (by decide) (by simp [go_sem, part]) (by simp [go_sem, part]) (run_equalIn_int w _ 3 .i64 .i64 r r' Tryd.underlying3) ?_
    refine eqF_cons _ _ _ _ _ _ (by decide) (by simp [go_sem, part]) (by simp [go_sem, part]) (eqA 9997 wh ah av am 0 wh' ah' av' am' 0 w) ?_
    refine eqF_cons _ _ _ _ _ _ (by decide) (by simp [go_sem, part]) (by simp [go_sem, part]) (run_equalIn_int w _ 2 .i64 .i64 lf lf' Tryd.underlying2) ?_
    refine eqF_cons _ _ _ _ _ _ (by decide) (by simp [go_sem, part]) (by simp [go_sem, part]) (run_equalIn_int w _ 3 .i64 .i64 an an' Tryd.underlying3) ?_
    refine eqF_cons _ _ _ _ _ _ (by decide) (by simp [go_sem, part]) (by simp [go_sem, part]) (run_equalIn_int w _ 27 .i64 .i64 la la' Tryd.underlying27) ?_
    refine eqF_cons _ _ _ _ _ _ (by decide) (by simp [go_sem, part]) (by simp [go_sem, part]) (run_equalIn_int w _ 22 .u32 .u32 vl vl' Tryd.underlying22) ?_
    exact eqF_nil _ _ _ _
  rw [E]
  rfl
theorem eqT (h s : Int) (d : Bool) (b r wh ah av am lf an la vl h' s' : Int) (d' : Bool) (b' r' wh' ah' av' am' lf' an' la' vl' : Int) (w : World) : (binOp .eql 29 (.agg #[.int .u32 h, .int .u8 s, .bool d, .int .i64 b, .int .i64 r, .int .u8 wh, .int .u32 ah, .int .u32 av, .int .u32 am, .int .i64 0, .int .i64 lf, .int .i64 an, .int .i64 la, .int .u32 vl]) (.agg #[.int .u32 h', .int .u8 s', .bool d', .int .i64 b', .int .i64 r', .int .u8 wh', .int .u32 ah', .int .u32 av', .int .u32 am', .int .i64 0, .int .i64 lf', .int .i64 an', .int .i64 la', .int .u32 vl'])).run Tryd.prog w = .ok (.bool (likeB h s d b r wh ah av am lf an la vl h' s' d' b' r' wh' ah' av' am' lf' an' la' vl')) w := by
  rw [eqT_run]
  congr 2
  refine hold_iff ?_
  unfold likeB
  rw [decide_eq_true_eq]
  unfold Like
  simp only [Bool.and_eq_true, beq_iff_eq, and_true, true_and, and_assoc]
set_option maxHeartbeats 4000000 in
theorem like_any (h s : Int) (d : Bool) (b r wh ah av am aw lf an la vl : Int) (h' s' : Int) (d' : Bool) (b' r' wh' ah' av' am' aw' lf' an' la' vl' : Int) (w : World) : Calls Tryd.prog 16 #[.agg #[.int .u32 h, .int .u8 s, .bool d, .int .i64 b, .int .i64 r, .int .u8 wh, .int .u32 ah, .int .u32 av, .int .u32 am, .int .i64 aw, .int .i64 lf, .int .i64 an, .int .i64 la, .int .u32 vl], .agg #[.int .u32 h', .int .u8 s', .bool d', .int .i64 b', .int .i64 r', .int .u8 wh', .int .u32 ah', .int .u32 av', .int .u32 am', .int .i64 aw', .int .i64 lf', .int .i64 an', .int .i64 la', .int .u32 vl']] w fun e w' => e = .returned (.bool (likeB h s d b r wh ah av am lf an la vl h' s' d' b' r' wh' ah' av' am' lf' an' la' vl')) ∧ Below w.heap.size w w' := by
  have EQ := eqT h s d b r wh ah av am lf an la vl h' s' d' b' r' wh' ah' av' am' lf' an' la' vl'
  generalize likeB h s d b r wh ah av am lf an la vl h' s' d' b' r' wh' ah' av' am' lf' an' la' vl' = q at *
  go_enter Tryd.func16, Tryd.ntmps16
  go_wp2
  go_ret
  refine ⟨rfl, ?_⟩
  exact ((Below.refl _ _).alloc (Nat.le_refl _) _).alloc (by simp) _
end Go.Proofs.YtnoadpgnefncjaaDoor
