/- Package kernel, proved: part KtK1. No law of the program itself. -/
import Derived.RangeFuncWrites
import Derived.Test.YtbbdndfibjdcfaaGreatKtHd1
import Derived.Test.YtbbdndfibjdcfaaGreatKtRd1
import Derived.Test.YtbbdndfibjdcfaaGreatKtWt1
import Derived.Test.YtbbdndfibjdcfaaGreatKtHr1
import Derived.Test.YtbbdndfibjdcfaaGreatKtOb2
import Derived.Test.YtbbdndfibjdcfaaGreatKtTm3
import Derived.Test.YtbbdndfibjdcfaaGreatKtA1
set_option maxRecDepth 100000
set_option linter.all false
set_option maxHeartbeats 16000000
namespace Go.Proofs.YtbbdndfibjdcfaaGreat.Ob.Tk
def MayW(w:Int):Prop:=w=2∨w=3∨w=5∨w=7∨w=8∨w=9∨w=11∨w=14
instance (w:Int):Decidable (MayW w):=by unfold MayW;infer_instance
def Blk(w t:Int):Prop:=MayW w/\t≠0
instance (w t:Int):Decidable (Blk w t):=by unfold Blk;infer_instance
def blkB(w t:Int):Bool:=decide (Blk w t)
def LeftOk(l t:Int):Prop:=(t < 0/\l < 0)∨(0<=t/\1<=l/\l<=t)
end Go.Proofs.YtbbdndfibjdcfaaGreat.Ob.Tk
namespace Go.Proofs.YtbbdndfibjdcfaaGreat.Ob
open Go Go.RowKit
open Classical in
noncomputable def newE(k a b:Int):Int:=if May k a b then 0 else 1
def newX(k a b:Int):Sx:=⟨k,a,b,if k=1∨k=4 then a.toNat else 0,0,[],if k=5 then List.replicate a.toNat 0 else []⟩
end Go.Proofs.YtbbdndfibjdcfaaGreat.Ob
namespace Go.Proofs.YtbbdndfibjdcfaaGreat
open Go Go.RowKit
theorem tA_cases(T:Ob.Sx)(who wh:Int)(av am:Nat):(Ob.Bad T who wh am/\Ob.tA T who wh av am=(0,1,T))∨(¬ Ob.Bad T who wh am/\Ob.tA T who wh av am=Ob.tX T who wh av am):=by
 unfold Ob.tA
 split
 ·exact Or.inl ⟨by assumption,rfl⟩
 ·exact Or.inr ⟨by assumption,rfl⟩
theorem addE_two(xs:List Int)(n:Nat):(xs.length=n/\Ob.ny (Ob.addE xs n)=7)∨(xs.length≠n/\Ob.ny (Ob.addE xs n)=0):=by
 unfold Ob.addE Ob.ny
 by_cases h:xs.length=n
 ·rw [if_pos h];exact Or.inl ⟨h,rfl⟩
 ·rw [if_neg h];exact Or.inr ⟨h,rfl⟩
theorem takeE_two(xs:List Int):(xs=[]/\Ob.takeE xs=11)∨(xs≠[]/\Ob.takeE xs=0):=by
 unfold Ob.takeE
 cases xs with
 | nil=>exact Or.inl ⟨rfl,rfl⟩
 | cons a l=>exact Or.inr ⟨by simp,by simp⟩
theorem ite_p{α:Type}(P:α->Prop){c:Prop}{d:Decidable c}{a b:α}(ha:c->P a)(hb:¬ c->P b):P (@ite α c d a b):=by
 split
 ·exact ha (by assumption)
 ·exact hb (by assumption)
theorem tX_elim(P:Int×Int×Ob.Sx->Prop)(T:Ob.Sx)(who wh:Int)(av am:Nat)
  (h3:wh=3->P (0,if T.n=0 then 7 else 0,{ T with n:=T.n - 1 }))
  (h4:wh=4->P (0,if(T.n:Int)=T.b then 10 else 0,{ T with n:=if(T.n:Int)=T.b then T.n else T.n+1 }))
  (h5:wh=5->P (0,if T.o=who then 13 else if T.o≠0 then 7 else 0,{ T with o:=if T.o=who then T.o else if T.o≠0 then T.o else who }))
  (h6:wh=6->P (0,if T.o=who then 0 else 13,{ T with o:=if T.o=who then 0 else T.o }))
  (h7:wh=7->P (0,Ob.ny (Ob.addE T.xs T.a.toNat),{ T with xs:=Ob.putL T.xs T.a.toNat av }))
  (h8:wh=8->P (0,Ob.ny (Ob.addE T.xs T.a.toNat),{ T with xs:=Ob.pushL T.xs T.a.toNat av }))
  (h9:wh=9->P (T.xs.headD 0,Ob.ny (Ob.takeE T.xs),{ T with xs:=T.xs.tail }))
  (h10:wh=10->P (T.xs.headD 0,Ob.takeE T.xs,T))
  (h11:wh=11->P (((Ob.awV T.n av (decide (am % 2=1)):Nat):Int),Ob.awE T.n av (decide (am % 2=1)),{ T with n:=Ob.awF T.n av (decide (am % 2=1)) (decide (2<=am)) }))
  (h12:wh=12->P (((T.n ||| av:Nat):Int),0,{ T with n:=T.n ||| av }))
  (h13:wh=13->P (((Ob.Mk.bt T.n av:Nat):Int),0,{ T with n:=Ob.Mk.bt T.n av }))
  (h14:wh=14->P (Ob.alV T.zs,Ob.alE T.zs,{ T with zs:=Ob.alL T.zs who }))
  (h15:P (0,Ob.frE T.zs who av,{ T with zs:=Ob.frL T.zs who av })):P (Ob.tX T who wh av am):=by
 unfold Ob.tX
 exact ite_p P h3 fun _=>ite_p P h4 fun _=>ite_p P h5 fun _=>ite_p P h6 fun _=>ite_p P h7 fun _=>ite_p P h8 fun _=>ite_p P h9 fun _=>ite_p P h10 fun _=>ite_p P h11 fun _=>ite_p P h12 fun _=>ite_p P h13 fun _=>ite_p P h14 fun _=>h15
theorem tX_err(T:Ob.Sx)(who wh:Int)(av am:Nat):(Ob.tX T who wh av am).2.1≠0->(Ob.tX T who wh av am).2.2=T:=by
 refine tX_elim (fun r=>r.2.1≠0->r.2.2=T) T who wh av am ?_ ?_ ?_ ?_ ?_ ?_ ?_ ?_ ?_ ?_ ?_ ?_ ?_
 ·intro _ h;dsimp only at h ⊢
  have:T.n=0:=Classical.byContradiction fun c=>h (if_neg c)
  have e:T.n - 1=T.n:=by omega
  rw [e]
 ·intro _ h;dsimp only at h ⊢
  have:(T.n:Int)=T.b:=Classical.byContradiction fun c=>h (if_neg c)
  rw [if_pos this]
 ·intro _ h;dsimp only at h ⊢
  by_cases c:T.o=who
  ·rw [if_pos c]
  ·rw [if_neg c] at h ⊢
   by_cases d:T.o≠0
   ·rw [if_pos d]
   ·rw [if_neg d] at h;exact absurd rfl h
 ·intro _ h;dsimp only at h ⊢
  by_cases c:T.o=who
  ·rw [if_pos c] at h;exact absurd rfl h
  ·rw [if_neg c]
 ·intro _ h;dsimp only at h ⊢
  rcases addE_two T.xs T.a.toNat with⟨c,_⟩ |⟨_,c⟩
  ·unfold Ob.putL;rw [if_pos c]
  ·rw [c] at h;exact absurd rfl h
 ·intro _ h;dsimp only at h ⊢
  rcases addE_two T.xs T.a.toNat with⟨c,_⟩ |⟨_,c⟩
  ·unfold Ob.pushL;rw [if_pos c]
  ·rw [c] at h;exact absurd rfl h
 ·intro _ h;dsimp only at h ⊢
  rcases takeE_two T.xs with⟨c,_⟩ |⟨_,c⟩
  ·rw [c,List.tail_nil,←c]
  ·rw [c] at h;exact absurd rfl h
 ·intro _ h;rfl
 ·intro _ h;dsimp only at h ⊢
  unfold Ob.awE at h
  unfold Ob.awF
  split at h
  ·exact absurd rfl h
  ·rename_i c;rw [if_neg c]
 ·intro _ h;exact absurd rfl h
 ·intro _ h;exact absurd rfl h
 ·intro _ h;dsimp only at h ⊢
  unfold Ob.alE at h
  unfold Ob.alL
  split at h
  ·exact absurd rfl h
  ·rename_i c;rw [if_neg c]
 ·intro h;dsimp only at h ⊢
  unfold Ob.frE at h
  unfold Ob.frL
  by_cases c:T.zs.length<=av
  ·rw [if_pos c]
  ·rw [if_neg c] at h ⊢
   by_cases d:T.zs.getD av 0=who
   ·rw [if_pos d] at h;exact absurd rfl h
   ·rw [if_neg d]
theorem try_err(T:Ob.Sx)(who wh:Int)(av am:Nat)(h:(Ob.tA T who wh av am).2.1≠0):(Ob.tA T who wh av am).2.2=T:=by
 rcases tA_cases T who wh av am with⟨_,e⟩ |⟨_,e⟩
 ·rw [e]
 ·rw [e] at h ⊢;exact tX_err T who wh av am h
theorem tX_kind(T:Ob.Sx)(who wh:Int)(av am:Nat):(Ob.tX T who wh av am).2.2.k=T.k/\(Ob.tX T who wh av am).2.2.a=T.a/\(Ob.tX T who wh av am).2.2.b=T.b:=by
 refine tX_elim (fun r=>r.2.2.k=T.k/\r.2.2.a=T.a/\r.2.2.b=T.b) T who wh av am ?_ ?_ ?_ ?_ ?_ ?_ ?_ ?_ ?_ ?_ ?_ ?_ ?_
 all_goals first | exact⟨rfl,rfl,rfl⟩ | exact fun _=>⟨rfl,rfl,rfl⟩
theorem try_kind(T:Ob.Sx)(who wh:Int)(av am:Nat):(Ob.tA T who wh av am).2.2.k=T.k/\(Ob.tA T who wh av am).2.2.a=T.a/\(Ob.tA T who wh av am).2.2.b=T.b:=by
 rcases tA_cases T who wh av am with⟨_,e⟩ |⟨_,e⟩
 ·rw [e];exact⟨rfl,rfl,rfl⟩
 ·rw [e];exact tX_kind T who wh av am
theorem try_own(T:Ob.Sx)(who wh:Int)(av am:Nat):(Ob.tA T who wh av am).2.2.o=T.o∨(wh=5/\(Ob.tA T who wh av am).2.2.o=who)∨(Ob.tA T who wh av am).2.2.o=0:=by
 rcases tA_cases T who wh av am with⟨_,e⟩ |⟨_,e⟩
 ·rw [e];exact Or.inl rfl
 ·rw [e]
  refine tX_elim (fun r=>r.2.2.o=T.o∨(wh=5/\r.2.2.o=who)∨r.2.2.o=0) T who wh av am ?_ ?_ ?_ ?_ ?_ ?_ ?_ ?_ ?_ ?_ ?_ ?_ ?_
  all_goals first | exact Or.inl rfl | exact fun _=>Or.inl rfl | skip
  ·intro h
   dsimp only
   by_cases c:T.o=who
   ·rw [if_pos c];exact Or.inl rfl
   ·rw [if_neg c]
    split
    ·exact Or.inl rfl
    ·exact Or.inr (Or.inl ⟨h,rfl⟩)
  ·intro h
   dsimp only
   by_cases c:T.o=who
   ·rw [if_pos c];exact Or.inr (Or.inr rfl)
   ·rw [if_neg c];exact Or.inl rfl
theorem try_zs(T:Ob.Sx)(who wh:Int)(av am:Nat):∀ z∈(Ob.tA T who wh av am).2.2.zs,z∈T.zs∨(wh=14/\z=who)∨z=0:=by
 rcases tA_cases T who wh av am with⟨_,e⟩ |⟨hb,e⟩
 ·rw [e];exact fun z hz=>Or.inl hz
 ·rw [e]
  refine tX_elim (fun r=>∀ z∈r.2.2.zs,z∈T.zs∨(wh=14/\z=who)∨z=0) T who wh av am ?_ ?_ ?_ ?_ ?_ ?_ ?_ ?_ ?_ ?_ ?_ ?_ ?_
  all_goals first | exact fun z hz=>Or.inl hz | exact fun _ z hz=>Or.inl hz | skip
  ·intro h z hz
   dsimp only at hz
   unfold Ob.alL at hz
   split at hz
   ·rcases List.mem_or_eq_of_mem_set hz with c | c
    ·exact Or.inl c
    ·exact Or.inr (Or.inl ⟨h,c⟩)
   ·exact Or.inl hz
  ·intro z hz
   dsimp only at hz
   unfold Ob.frL at hz
   split at hz
   ·exact Or.inl hz
   ·split at hz
    ·rcases List.mem_or_eq_of_mem_set hz with c | c
     ·exact Or.inl c
     ·exact Or.inr (Or.inr c)
    ·exact Or.inl hz
def TryE(wh e:Int):Prop:=(e=0∨e=1∨e=7∨e=10∨e=11∨e=13)/\(e=7->Ob.Tk.MayW wh/\wh≠2)
theorem tryE_7{wh e:Int}(h:wh=3∨wh=5∨wh=7∨wh=8∨wh=9∨wh=11∨wh=14)(he:e=0∨e=1∨e=7∨e=10∨e=11∨e=13):TryE wh e:=⟨he,fun _=>by unfold Ob.Tk.MayW;omega⟩
theorem tryE_no{wh e:Int}(he:e=0∨e=1∨e=10∨e=11∨e=13):TryE wh e:=⟨by omega,fun c=>by omega⟩
theorem tX_e(T:Ob.Sx)(who wh:Int)(av am:Nat):TryE wh (Ob.tX T who wh av am).2.1:=by
 refine tX_elim (fun r=>TryE wh r.2.1) T who wh av am ?_ ?_ ?_ ?_ ?_ ?_ ?_ ?_ ?_ ?_ ?_ ?_ ?_
 ·intro h;exact tryE_7 (by omega) (by dsimp only;split <;> omega)
 ·intro h;exact tryE_no (by dsimp only;split <;> omega)
 ·intro h;exact tryE_7 (by omega) (by dsimp only;split <;> first | omega |(split <;> omega))
 ·intro h;exact tryE_no (by dsimp only;split <;> omega)
 ·intro h;exact tryE_7 (by omega) (by dsimp only;rcases addE_two T.xs T.a.toNat with⟨_,c⟩ |⟨_,c⟩ <;> omega)
 ·intro h;exact tryE_7 (by omega) (by dsimp only;rcases addE_two T.xs T.a.toNat with⟨_,c⟩ |⟨_,c⟩ <;> omega)
 ·intro h;exact tryE_7 (by omega) (by dsimp only;rcases takeE_two T.xs with⟨_,c⟩ |⟨_,c⟩ <;> (rw [c];unfold Ob.ny;split <;> omega))
 ·intro h;exact tryE_no (by dsimp only;rcases takeE_two T.xs with⟨_,c⟩ |⟨_,c⟩ <;> omega)
 ·intro h;exact tryE_7 (by omega) (by dsimp only;unfold Ob.awE;split <;> omega)
 ·intro h;exact tryE_no (Or.inl rfl)
 ·intro h;exact tryE_no (Or.inl rfl)
 ·intro h;exact tryE_7 (by omega) (by dsimp only;unfold Ob.alE;split <;> omega)
 ·exact tryE_no (by dsimp only;unfold Ob.frE;split <;> first | omega |(split <;> omega))
theorem try_e(T:Ob.Sx)(who wh:Int)(av am:Nat):0<=(Ob.tA T who wh av am).2.1/\(Ob.tA T who wh av am).2.1<=15:=by
 rcases tA_cases T who wh av am with⟨_,e⟩ |⟨_,e⟩
 ·rw [e];show(0:Int)<=1/\(1:Int)<=15;decide
 ·rw [e]
  have:=(tX_e T who wh av am).1
  omega
theorem try_wait(T:Ob.Sx)(who wh:Int)(av am:Nat)(h:(Ob.tA T who wh av am).2.1=7):Ob.Tk.MayW wh/\wh≠2:=by
 rcases tA_cases T who wh av am with⟨_,e⟩ |⟨_,e⟩
 ·rw [e] at h;cases h
 ·rw [e] at h;exact(tX_e T who wh av am).2 h
theorem blk_iff(wh aw:Int):Ob.Tk.blkB wh aw=true↔Ob.Tk.MayW wh/\aw≠0:=by
 unfold Ob.Tk.blkB
 rw [decide_eq_true_iff]
 exact Iff.rfl
theorem new_plain(k a b:Int):(Ob.newX k a b).o=0/\∀ z∈(Ob.newX k a b).zs,z=0:=by
 refine⟨rfl,fun z hz=>?_⟩
 unfold Ob.newX at hz
 simp only at hz
 split at hz
 ·exact(List.mem_replicate.1 hz).2
 ·simp at hz
theorem start_e(who i e:Int):0<=Tm.startE who i e/\Tm.startE who i e<=15:=by
 unfold Tm.startE
 split
 ·omega
 ·split <;> omega
theorem stop_e(zs:List (Int×Int×Int))(who:Int):0<=Tm.stopE zs who/\Tm.stopE zs who<=15:=by
 unfold Tm.stopE
 split <;> omega
theorem leave_kind(T:Ob.Sx)(who:Int):(Ob.lT T who).k=T.k/\(Ob.lT T who).a=T.a/\(Ob.lT T who).b=T.b:=by
 unfold Ob.lT
 split <;> exact⟨rfl,rfl,rfl⟩
theorem leave_own(T:Ob.Sx)(who:Int)(h:who≠0):(Ob.lT T who).o≠who/\((Ob.lT T who).o=T.o∨(Ob.lT T who).o=0):=by
 unfold Ob.lT
 rw [if_neg h]
 simp only
 by_cases c:T.o=who
 ·rw [if_pos c];exact⟨fun e=>h e.symm,Or.inr rfl⟩
 ·rw [if_neg c];exact⟨c,Or.inl rfl⟩
theorem leave_zs(T:Ob.Sx)(who:Int)(h:who≠0):∀ z∈(Ob.lT T who).zs,z≠who/\(z∈T.zs∨z=0):=fun z hz=>by
 unfold Ob.lT at hz
 rw [if_neg h] at hz
 simp only [Ob.Pl.clr,List.mem_map] at hz
 obtain⟨y,hy,e⟩:=hz
 by_cases c:y=who
 ·rw [if_pos c] at e;subst e;exact⟨fun e=>h e.symm,Or.inr rfl⟩
 ·rw [if_neg c] at e;subst e;exact⟨c,Or.inl hy⟩
theorem fit_lock(wh k:Int)(h:Ob.Tk.fitB wh k=true):wh=5->k=2:=fun e=>by
 subst e
 unfold Ob.Tk.fitB at h
 have:=(decide_eq_true_iff.1 h).2
 unfold Ob.Tk.kd at this
 simp at this
 omega
theorem fit_lock'(wh:Int)(h:Ob.Tk.fitB wh 2=true)(hm:Ob.Tk.MayW wh):wh=5:=by
 unfold Ob.Tk.fitB at h
 have:=(decide_eq_true_iff.1 h).2
 unfold Ob.Tk.MayW at hm
 rcases hm with rfl | rfl | rfl | rfl | rfl | rfl | rfl | rfl <;> first | rfl |(unfold Ob.Tk.kd at this;simp at this)
theorem try_lock(T:Ob.Sx)(who:Int)(av am:Nat)(hk:T.k=2)(h0:who≠0):((Ob.tA T who 5 av am).2.1=0↔T.o=0)/\((Ob.tA T who 5 av am).2.1=7->T.o≠who):=by
 rcases tA_cases T who 5 av am with⟨hb,e⟩ |⟨_,e⟩
 ·exfalso
  unfold Ob.Bad at hb
  rw [hk] at hb
  rcases hb with c | c | c | c
  ·exact h0 c
  ·omega
  ·have:Ob.Tk.fitB 5 2=true:=by decide
   rw [this] at c;cases c
  ·omega
 ·rw [e]
  have e2:(Ob.tX T who 5 av am).2.1=if T.o=who then 13 else if T.o≠0 then 7 else 0:=by unfold Ob.tX;simp
  rw [e2]
  by_cases c:T.o=who
  ·rw [if_pos c];exact⟨⟨fun d=>(by cases d),fun d=>absurd (c.symm.trans d) h0⟩,fun d=>(by cases d)⟩
  ·rw [if_neg c]
   by_cases d:T.o≠0
   ·rw [if_pos d];exact⟨⟨fun x=>(by cases x),fun x=>absurd x d⟩,fun _=>c⟩
   ·rw [if_neg d];exact⟨⟨fun _=>Classical.byContradiction d,fun _=>rfl⟩,fun x=>(by cases x)⟩
theorem leave_no(T:Ob.Sx)(who:Int)(h:who≠0)(hb:Ob.lB T who=false):T.o≠who/\who ∉ T.zs:=by
 unfold Ob.lB at hb
 have h1:=decide_eq_false_iff_not.1 hb
 refine⟨fun c=>h1 ⟨h,Or.inl c⟩,fun c=>h1 ⟨h,Or.inr ?_⟩⟩
 unfold Ob.Pl.cnt
 rw [List.countP_pos_iff]
 exact⟨who,c,by simp⟩
end Go.Proofs.YtbbdndfibjdcfaaGreat
namespace Go.Proofs.YtbbdndfibjdcfaaGreat
open Go Go.RowKit
noncomputable section
structure Ta where
 h:Nat
 st:Int
 held:Bool
 base:Int
 rank:Int
 wh:Int
 ah:Nat
 av:Nat
 am:Nat
 aw:Int
 left:Int
 ans:Int
 last:Int
 val:Int
 on:Int
 since:Int
 ran:Int
structure Th where
 h:Nat
 x:Ob.Sx
 q:List (Int×Int)
structure Kn where
 sl:Int
 now:Int
 th:Hd.Slots
 oh:Hd.Slots
 ts:Nat->Option Ta
 os:Nat->Option Th
 rd:Nat->List Int
 al:List (Int×Int×Int)
 wc:Int
def set1{α:Type}(f:Nat->Option α)(i:Nat)(x:Option α):Nat->Option α:=fun j=>if j=i then x else f j
theorem set1_at{α:Type}(f:Nat->Option α)(i:Nat)(x:Option α):set1 f i x i=x:=by simp [set1]
theorem set1_ne{α:Type}(f:Nat->Option α){i j:Nat}(x:Option α)(h:j≠i):set1 f i x j=f j:=by simp [set1,h]
theorem set1_self{α:Type}(f:Nat->Option α)(i:Nat):set1 f i (f i)=f:=by funext j;unfold set1;split <;> simp_all
def Kn.setT(k:Kn)(i:Nat)(t:Ta):Kn:={ k with ts:=set1 k.ts i (some t) }
def Kn.setO(k:Kn)(o:Nat)(x:Th):Kn:={ k with os:=set1 k.os o (some x) }
def join(k:Kn)(i:Nat):Kn :=
 match k.ts i with
 | some t=>{ k with rd:=Rd.putX (Rd.rmX k.rd (i:Int)) (i:Int) t.rank,ts:=set1 k.ts i (some { t with ran:=0 }) }
 | none=>k
def unq(os:Nat->Option Th)(i:Nat)(on:Int):Nat->Option Th :=
 if 0<=on then match os on.toNat with | some x=>set1 os on.toNat (some { x with q:=Wt.gone x.q (i:Int) }) | none=>os else os
def Ta.idle(t:Ta):Ta:={ t with on:=-1,wh:=0,ah:=0,av:=0,am:=0,aw:=0,left:=0 }
def leaves(k:Kn)(i:Nat):Kn :=
 match k.ts i with
 | some t=>{ k with os:=unq k.os i t.on,ts:=set1 k.ts i (some t.idle) }
 | none=>k
def Ta.told(t:Ta)(e v:Int):Ta:={ t with ans:=t.ans+1,last:=e,val:=v }
def answer(k:Kn)(i:Nat)(e v:Int):Kn :=
 match k.ts i with
 | some t =>
  if t.st=2 then
   let k1:Kn:={ k with os:=unq k.os i t.on,ts:=set1 k.ts i (some { (t.told e v).idle with st:=1 }) }
   if t.held then k1 else join k1 i
  else k.setT i (t.told e v)
 | none=>k
def tries(k:Kn)(x:Th)(i:Int):Int×Int×Ob.Sx :=
 match k.ts i.toNat with
 | some t=>Ob.tA x.x t.h t.wh t.av t.am
 | none=>(0,1,x.x)
def okB(k:Kn)(x:Th)(i:Int):Bool:=decide ((tries k x i).2.1=0)
def serveN:Nat->Kn->Nat->Kn
 | 0,k,_=>k
 | n+1,k,o =>
  match k.os o with
  | none=>k
  | some x =>
   match (Wt.keys x.q).find? (okB k x) with
   | none=>k
   | some i=>serveN n (answer (k.setO o { x with x:=(tries k x i).2.2 }) i.toNat 0 (tries k x i).1) o
def serve(k:Kn)(o:Nat):Kn:=match k.os o with | some x=>serveN x.q.length k o | none=>k
def letGo(h:Nat)(k:Kn)(o:Nat):Kn :=
 match k.os o with
 | some x=>if Ob.lB x.x h then serve (k.setO o { x with x:=Ob.lT x.x h }) o else k
 | none=>k
def lets(k:Kn)(h:Nat):Kn:=(List.range 32).foldl (letGo h) k
def isH(k:Kn)(h:Int)(i:Nat):Bool:=match k.ts i with | some t=>decide ((t.h:Int)=h) | none=>false
def ownerOf(k:Kn)(h:Int):Int:=if h=0 then -1 else match (List.range 16).find? (isH k h) with | some i=>i | none=>-1
def owner(k:Kn)(o:Nat):Int:=match k.os o with | some x=>ownerOf k x.x.o | none=>-1
def whomT(k:Kn)(t:Ta):Int:=if t.wh=5/\0<=t.on then owner k t.on.toNat else -1
def whom(k:Kn):List Int:=(List.range 16).map fun i=>match k.ts i with | some t=>whomT k t | none=>-1
def bases(k:Kn):List Int:=(List.range 16).map fun i=>match k.ts i with | some t=>if t.st=3 then 0 else t.base | none=>0
open Classical in
noncomputable def ranksL(bs ws:List Int):List Int:=if h:∃ l,Hr.Lst bs ws l then h.choose else bs
def chq(os:Nat->Option Th)(i:Nat)(on r:Int):Nat->Option Th :=
 if 0<=on then match os on.toNat with | some x=>set1 os on.toNat (some { x with q:=Wt.chL x.q (i:Int) r }) | none=>os else os
def turn1(l:List Int)(k:Kn)(i:Nat):Kn :=
 match k.ts i with
 | some t =>
  if t.st=3∨t.rank=l.getD i 0 then k
  else
   let k1:Kn:={ k with os:=chq k.os i t.on (l.getD i 0),ts:=set1 k.ts i (some { t with rank:=l.getD i 0 }) }
   if Rd.rkb k.rd (i:Int) then join k1 i else k1
 | none=>k
noncomputable def anew(k:Kn):Kn:=(List.range 16).foldl (turn1 (ranksL (bases k) (whom k))) k
def runs(k:Kn):Nat:=if Rd.fsb k.rd then match k.ts (Rd.fsv k.rd).toNat with | some t=>t.h | none=>0 else 0
def hof(k:Kn)(i:Int):Nat:=match k.ts i.toNat with | some t=>t.h | none=>0
def new0(sl now:Int):Kn:=⟨sl,now,Hd.none0,Hd.none0,fun _=>none,fun _=>none,fun _=>[],[],0⟩
noncomputable def taskK(k:Kn)(r:Int):Nat×Int×Kn :=
 if r < 0∨31 < r then(0,4,k)
 else if Hd.makeE 16 k.th≠0 then(0,Hd.makeE 16 k.th,k)
 else
  let i:=Hd.fr 16 k.th
  let h:=Hd.makeH 16 k.th
  (h,0,anew (join { k with th:=Hd.makeS 16 k.th,ts:=set1 k.ts i (some ⟨h,1,false,r,r,0,0,0,0,0,0,0,0,0,-1,0,0⟩) } i))
noncomputable def endK(k:Kn)(h:Nat):Int×Kn :=
 if Hd.placeE k.th h≠0 then(Hd.placeE k.th h,k)
 else
  let i:=Hd.placeP k.th h
  let k1:=leaves k i
  (0,anew (lets { k1 with rd:=Rd.rmX k1.rd (i:Int),ts:=set1 k1.ts i none,th:=Hd.dropS k1.th h } h))
open Classical in
noncomputable def thingK(k:Kn)(kd a b:Int):Nat×Int×Kn :=
 if Ob.newE kd a b≠0 then(0,Ob.newE kd a b,k)
 else if kd=6/\Hd.placeE k.oh a.toNat≠0 then(0,Hd.placeE k.oh a.toNat,k)
 else if kd=6/\(match k.os (Hd.placeP k.oh a.toNat) with | some x=>¬ (x.x.k=1∨x.x.k=4) | none=>True) then(0,1,k)
 else if Hd.makeE 32 k.oh≠0 then(0,Hd.makeE 32 k.oh,k)
 else(Hd.makeH 32 k.oh,0,anew { k with oh:=Hd.makeS 32 k.oh,os:=set1 k.os (Hd.fr 32 k.oh) (some ⟨Hd.makeH 32 k.oh,Ob.newX kd a b,[]⟩) })
structure Aq where
 wh:Int
 ah:Nat
 av:Nat
 am:Nat
 aw:Int
def sleeps(k:Kn)(i:Nat)(t:Ta)(on:Int)(a:Aq):Kn :=
 { k with
  rd:=Rd.rmX k.rd (i:Int)
  ts:=set1 k.ts i (some { t with st:=2,wh:=a.wh,ah:=a.ah,av:=a.av,am:=a.am,aw:=a.aw,left:=if a.aw < 0 then -1 else a.aw,on:=on,since:=k.wc })
  wc:=k.wc+1
  os:=if 0<=on then match k.os on.toNat with | some x=>set1 k.os on.toNat (some { x with q:=Wt.putL x.q (i:Int) t.rank }) | none=>k.os else k.os }
open Classical in
/-- is it answered,what,with which error -/
noncomputable def ask1(k:Kn)(i:Nat)(t:Ta)(a:Aq):Bool×Int×Int×Kn :=
 if a.wh=1 then(true,0,0,k)
 else if a.wh=19 then(true,k.now,0,k)
 else if a.wh=18 then if 31 < a.av then(true,0,4,k) else(true,0,0,k.setT i { t with base:=(a.av:Int) })
 else if a.wh=2 then if a.aw < 0∨1073741824 < a.aw then(true,0,4,k) else if a.aw=0 then(true,0,0,k) else(false,0,0,sleeps k i t (-1) a)
 else if Hd.placeE k.oh a.ah≠0 then(true,0,Hd.placeE k.oh a.ah,k)
 else
  let o:=Hd.placeP k.oh a.ah
  match k.os o with
  | none=>(true,0,1,k)
  | some x =>
   if Ob.Tk.fitB a.wh x.x.k=false∨(a.wh=11/\3 < a.am) then(true,0,1,k)
   else if a.wh=16 then(true,0,Tm.startE (o:Int) a.av a.am,{ k with al:=Tm.startL k.al (o:Int) a.av a.am })
   else if a.wh=17 then(true,0,Tm.stopE k.al (o:Int),{ k with al:=Tm.off k.al (o:Int) })
   else if Ob.Tk.blkB a.wh a.aw=true/\1073741824 < a.aw then(true,0,4,k)
   else
    let r:=Ob.tA x.x t.h a.wh a.av a.am
    if r.2.1≠7 then(true,r.1,r.2.1,k.setO o { x with x:=r.2.2 })
    else if a.aw=0 then(true,0,if a.wh=7∨a.wh=8 then 10 else if a.wh=5 then 12 else 11,k)
    else if a.wh=5/\Hr.Circ (whom k) (i:Int) (owner k o) then(true,0,7,k)
    else(false,0,0,sleeps k i t (o:Int) a)
noncomputable def askK(k:Kn)(a:Aq):Bool×Int×Kn :=
 if Rd.fsb k.rd=false then(false,7,k)
 else if a.wh < 1∨20 < a.wh then(false,1,k)
 else
  let i:=(Rd.fsv k.rd).toNat
  match k.ts i with
  | none=>(false,7,k)
  | some t =>
   if a.wh=20 then let r:=endK k t.h;(true,r.1,r.2)
   else
    let r:=ask1 k i t a
    if r.1 then
     let k1:=answer r.2.2.2 i r.2.2.1 r.2.1
     let k2:=if a.wh=1 then join k1 i else k1
     let k3:=if r.2.2.1=0/\Hd.placeE k2.oh a.ah=0 then(match k2.os (Hd.placeP k2.oh a.ah) with | some x=>if Ob.Tk.fitB a.wh x.x.k=true then serve k2 (Hd.placeP k2.oh a.ah) else k2 | none=>k2) else k2
     (true,r.2.2.1,anew k3)
    else(false,r.2.2.1,anew r.2.2.2)
def signal1(k:Kn)(h v:Nat):Int×Kn :=
 if Hd.placeE k.oh h≠0 then(Hd.placeE k.oh h,k)
 else
  let o:=Hd.placeP k.oh h
  match k.os o with
  | none=>(1,k)
  | some x =>
   if x.x.k=1∨x.x.k=4 then
    let r:=Ob.tA x.x 1 (if x.x.k=1 then 4 else 12) (if x.x.k=1 then 0 else v) 0
    if r.2.1=0 then(0,serve (k.setO o { x with x:=r.2.2 }) o) else(r.2.1,k.setO o { x with x:=r.2.2 })
   else(1,k)
noncomputable def signalK(k:Kn)(h v:Nat):Int×Kn:=let r:=signal1 k h v;if r.1=0 then(0,anew r.2) else r
def before(k:Kn)(j i:Nat):Bool:=match k.ts j,k.ts i with | some a,some b=>decide (a.since < b.since) | _,_=>false
def insS(k:Kn):List Nat->Nat->List Nat
 | [],i=>[i]
 | j :: r,i=>if before k j i=true then j :: insS k r i else i :: j :: r
def downs(k:Kn):Kn:={ k with ts:=fun i=>(k.ts i).map fun t=>if 0 < t.left/\i < 16 then { t with left:=t.left - 1 } else t }
def dueT(k:Kn):List Nat:=((List.range 16).filter fun i=>match k.ts i with | some t=>decide (t.left=1) | none=>false).foldl (insS k) []
noncomputable def overs(k:Kn)(l:List Nat):Kn:=l.foldl (fun k i=>anew (match k.ts i with | some t=>answer k i (if t.wh=2 then 0 else 8) 0 | none=>k)) k
noncomputable def rings(k:Kn)(l:List Int):Kn:=l.foldl (fun k o=>match k.os o.toNat with | some x=>anew (signal1 k x.x.a.toNat x.x.b.toNat).2 | none=>k) k
def slice1(k:Kn):Kn :=
 if Rd.fsb k.rd then
  let i:=(Rd.fsv k.rd).toNat
  match k.ts i with
  | some t=>let k1:=k.setT i { t with ran:=t.ran+1 };if k.sl<=t.ran+1 then join k1 i else k1
  | none=>k
 else k
noncomputable def tickK(k:Kn):Kn :=
 let k1:=anew (slice1 { k with now:=(k.now+1) % 4294967296 })
 let k2:=overs (downs k1) (dueT k1)
 rings { k2 with al:=Tm.tickL k2.al } ((Tm.due k2.al).map Prod.fst)
def tasksL(k:Kn):List Ta:=(List.range 16).filterMap k.ts
def readyL(k:Kn)(r:Int):List Nat:=(Rd.lsX k.rd r).map (hof k)
end
end Go.Proofs.YtbbdndfibjdcfaaGreat
namespace Go.Proofs.YtbbdndfibjdcfaaGreat
open Go Go.RowKit
theorem rd_rm{X:Nat->List Int}(h:Rd.Good X)(a z:Int){r:Nat}(hr:r < 32):z∈Rd.rmX X a r↔z∈X r/\z≠a:=by
 cases hc:Rd.rk X a with
 | some s =>
  have e0:Rd.rmX X a=Rd.up X s ((X s).erase a):=by unfold Rd.rmX;rw [hc]
  obtain⟨hs1,hs2⟩:=Rd.rk_at hc
  rw [e0]
  by_cases e:r=s
  ·subst e
   rw [Rd.up_at,(h.nd r hr).mem_erase_iff]
   exact And.comm
  ·rw [Rd.up_ne _ _ e]
   refine⟨fun hz=>⟨hz,?_⟩,fun hz=>hz.1⟩
   rintro rfl
   exact e (h.one r s z hr hs1 hz hs2)
 | none =>
  have e0:Rd.rmX X a=X:=by unfold Rd.rmX;rw [hc]
  rw [e0]
  refine⟨fun hz=>⟨hz,?_⟩,fun hz=>hz.1⟩
  rintro rfl
  exact Rd.rk_none.1 hc r hr hz
theorem rd_join{X:Nat->List Int}(h:Rd.Good X){a k z:Int}(ha:0<=a/\a<=255)(hk:0<=k/\k<=31){r:Nat}(hr:r < 32):z∈Rd.putX (Rd.rmX X a) a k r↔(z∈X r/\z≠a)∨(z=a/\k=(r:Int)):=by
 have hG:=h.rem a
 have he:Rd.adE (Rd.rmX X a) a k=0:=by
  have hn:Rd.rk (Rd.rmX X a) a=none:=Rd.rk_none.2 fun s hs hm=>((rd_rm h a a hs).1 hm).2 rfl
  unfold Rd.adE
  rw [if_neg (by omega)]
  simp [Rd.rkb,hn]
 unfold Rd.putX
 rw [if_pos he]
 by_cases e:r=k.toNat
 ·subst e
  rw [Rd.up_at,List.mem_append,rd_rm h a z hr]
  have:((k.toNat:Nat):Int)=k:=by omega
  simp [this]
 ·rw [Rd.up_ne _ _ e,rd_rm h a z hr]
  have:¬ k=(r:Int):=by omega
  simp [this]
def Dn(q:List (Int×Int)):Prop:=q.Pairwise (fun a b=>b.2<=a.2)
theorem Dn.nil:Dn []:=List.Pairwise.nil
theorem q_gone{q:List (Int×Int)}(h:Wt.Good q)(who:Int)(y:Int×Int):y∈Wt.gone q who↔y∈q/\y.1≠who:=by
 refine⟨fun hy=>⟨Wt.gone_mem hy,fun e=>?_⟩,fun⟨hy,hn⟩=>?_⟩
 ·exact Wt.has_no.1 (h.went who) y hy e
 ·by_cases hh:Wt.has q who=true
  ·have hlt:=Wt.has_lt hh
   have hw:=Wt.wi_at hlt
   unfold Wt.gone
   rw [List.mem_eraseIdx_iff_getElem]
   obtain⟨j,hj,e⟩:=List.getElem_of_mem hy
   refine⟨j,hj,fun e2=>hn ?_,e⟩
   subst e2
   rw [Wt.getD_at hj,e] at hw
   exact hw
  ·rw [Wt.gone_no (by simpa using hh)]
   exact hy
theorem Dn.gone{q:List (Int×Int)}(h:Dn q)(who:Int):Dn (Wt.gone q who):=h.sublist (List.eraseIdx_sublist _ _)
theorem Dn.ins{q:List (Int×Int)}(h:Dn q)(z:Int×Int):Dn (Wt.ins q z):=by
 rw [Wt.ins_split]
 have hsp:=List.take_append_drop (Wt.ri q z.2) q
 have hp:Dn (q.take (Wt.ri q z.2) ++ q.drop (Wt.ri q z.2)):=by rw [hsp];exact h
 obtain⟨h1,h2,h3⟩:=List.pairwise_append.1 hp
 have hle:∀ a∈q.take (Wt.ri q z.2),z.2<=a.2:=fun a ha=>by
  obtain⟨i,hi,e⟩:=List.getElem_of_mem ha
  rw [List.getElem_take] at e
  have hi':i < Wt.ri q z.2:=by rw [List.length_take] at hi;omega
  have:=Wt.ri_no hi'
  rw [Wt.getD_at (by have:=Wt.ri_le q z.2;omega),e] at this
  exact this
 have hge:∀ b∈q.drop (Wt.ri q z.2),b.2<=z.2:=fun b hb=>by
  by_cases hl:Wt.ri q z.2 < q.length
  ·have hr:=Wt.ri_at hl
   rw [List.drop_eq_getElem_cons hl] at hb h2
   rw [Wt.getD_at hl] at hr
   rcases List.mem_cons.1 hb with e | hb
   ·rw [e];omega
   ·have:=(List.pairwise_cons.1 h2).1 b hb;omega
  ·rw [List.drop_eq_nil_of_le (by omega)] at hb;simp at hb
 refine List.pairwise_append.2 ⟨h1,List.pairwise_cons.2 ⟨hge,h2⟩,fun a ha b hb=>?_⟩
 rcases List.mem_cons.1 hb with e | hb
 ·rw [e];exact hle a ha
 ·exact h3 a ha b hb
theorem q_put{q:List (Int×Int)}(h:Wt.Good q)(hd:Dn q){who r:Int}(h0:0<=who)(hr:0<=r/\r<=31)(hn:Wt.has q who=false) :
  Wt.Good (Wt.putL q who r)/\Dn (Wt.putL q who r)/\∀ y,y∈Wt.putL q who r↔y∈q∨y=(who,r):=by
 have e:Wt.putL q who r=Wt.ins q (who,r):=by
  unfold Wt.putL
  rw [if_neg (by unfold Wt.badA;omega),hn]
  rfl
 rw [e]
 refine⟨h.ins h0 hn,hd.ins _,fun y=>?_⟩
 rw [(Wt.ins_perm q (who,r)).mem_iff,List.mem_cons]
 exact or_comm
theorem q_change{q:List (Int×Int)}(h:Wt.Good q)(hd:Dn q){who r:Int}(hr:0<=r/\r<=31) :
  Wt.Good (Wt.chL q who r)/\Dn (Wt.chL q who r)/\∀ y,y∈Wt.chL q who r↔(y∈q/\y.1≠who)∨(Wt.has q who=true/\y=(who,r)):=by
 refine⟨h.change _ _,?_,fun y=>?_⟩
 ·unfold Wt.chL
  split
  ·rw [if_neg (by unfold Wt.badR;omega)]
   split
   ·exact hd
   ·exact(hd.gone who).ins _
  ·exact hd
 ·unfold Wt.chL
  split
  ·rename_i hh
   rw [if_neg (by unfold Wt.badR;omega)]
   split
   ·rename_i hk
    have hlt:=Wt.has_lt hh
    have hw:=Wt.wi_at hlt
    have hm:(who,r)∈q:=by
     have:=Wt.getD_mem hlt
     have e:q.getD (Wt.wi q who) (0,0)=(who,r):=Prod.ext hw hk
     rw [e] at this
     exact this
    constructor
    ·intro hy
     by_cases e:y.1=who
     ·right
      refine⟨hh,?_⟩
      have hnd:=h.nd
      obtain⟨i,hi,ei⟩:=List.getElem_of_mem hy
      obtain⟨j,hj,ej⟩:=List.getElem_of_mem hm
      have e1:(Wt.keys q)[i]'(by simpa [Wt.keys] using hi)=(Wt.keys q)[j]'(by simpa [Wt.keys] using hj):=by simp [Wt.keys,ei,ej,e]
      have e2:=(List.getElem_inj hnd).1 e1
      subst e2
      exact ei.symm.trans ej
     ·exact Or.inl ⟨hy,e⟩
    ·rintro (⟨hy,_⟩ |⟨_,rfl⟩)
     ·exact hy
     ·exact hm
   ·rw [(Wt.ins_perm _ _).mem_iff,List.mem_cons,q_gone h]
    constructor
    ·rintro (e | e)
     ·exact Or.inr ⟨hh,e⟩
     ·exact Or.inl e
    ·rintro (e |⟨_,e⟩)
     ·exact Or.inr e
     ·exact Or.inl e
  ·rename_i hh
   constructor
   ·intro hy
    exact Or.inl ⟨hy,fun e=>hh (Wt.has_yes.2 ⟨y,hy,e⟩)⟩
   ·rintro (⟨hy,_⟩ |⟨h1,_⟩)
    ·exact hy
    ·exact absurd h1 hh
theorem q_keys{q:List (Int×Int)}{z:Int}:z∈Wt.keys q↔∃ r,(z,r)∈q:=by
 unfold Wt.keys
 rw [List.mem_map]
 constructor
 ·rintro ⟨y,hy,rfl⟩;exact⟨y.2,hy⟩
 ·rintro ⟨r,hr⟩;exact⟨(z,r),hr,rfl⟩
theorem unq_eq(os:Nat->Option Th)(i:Nat)(on:Int):unq os i on=fun o=>(os o).map fun x=>{ x with q:=if on=(o:Int) then Wt.gone x.q (i:Int) else x.q }:=by
 funext o
 unfold unq
 split
 ·rename_i h0
  cases h:os on.toNat with
  | none =>
   simp only
   cases ho:os o with
   | none=>rfl
   | some x =>
    have:¬ on=(o:Int):=fun e=>by subst e;simp at h;rw [ho] at h;cases h
    simp [this]
  | some x =>
   simp only
   by_cases e:o=on.toNat
   ·subst e
    have:on=((on.toNat:Nat):Int):=by omega
    rw [set1_at,h]
    simp only [Option.map_some]
    rw [if_pos this]
   ·rw [set1_ne _ _ e]
    have:¬ on=(o:Int):=by omega
    cases ho:os o with
    | none=>rfl
    | some y=>simp [this]
 ·rename_i h0
  have:∀ o:Nat,¬ on=(o:Int):=fun o=>by omega
  cases ho:os o with
  | none=>rfl
  | some y=>simp [this o]
theorem chq_eq(os:Nat->Option Th)(i:Nat)(on r:Int):chq os i on r=fun o=>(os o).map fun x=>{ x with q:=if on=(o:Int) then Wt.chL x.q (i:Int) r else x.q }:=by
 funext o
 unfold chq
 split
 ·rename_i h0
  cases h:os on.toNat with
  | none =>
   simp only
   cases ho:os o with
   | none=>rfl
   | some x =>
    have:¬ on=(o:Int):=fun e=>by subst e;simp at h;rw [ho] at h;cases h
    simp [this]
  | some x =>
   simp only
   by_cases e:o=on.toNat
   ·subst e
    have:on=((on.toNat:Nat):Int):=by omega
    rw [set1_at,h]
    simp only [Option.map_some]
    rw [if_pos this]
   ·rw [set1_ne _ _ e]
    have:¬ on=(o:Int):=by omega
    cases ho:os o with
    | none=>rfl
    | some y=>simp [this]
 ·rename_i h0
  have:∀ o:Nat,¬ on=(o:Int):=fun o=>by omega
  cases ho:os o with
  | none=>rfl
  | some y=>simp [this o]
def Live(k:Kn)(z:Int):Prop:=∃ i t,k.ts i=some t/\(t.h:Int)=z/\t.st≠3
structure TaOk (os:Nat->Option Th) (D:Nat->Prop) (i:Nat) (t:Ta):Prop where
 st:t.st=1∨t.st=2∨t.st=3
 base:0<=t.base/\t.base<=31
 rank:0<=t.rank/\t.rank<=31
 ans:0<=t.ans
 last:0<=t.last/\t.last<=15
 on:t.st=2->(t.wh=2/\t.on=-1)∨(t.wh≠2/\∃ (o:Nat) (x:Th),t.on=(o:Int)/\os o=some x/\t.ah=x.h/\Ob.Tk.fitB t.wh x.x.k=true)
 ask:t.st=2->Ob.Tk.MayW t.wh/\t.aw≠0/\t.aw<=1073741824/\(Ob.Tk.LeftOk t.left t.aw∨D i)
 idle:t.st≠2->t.on=-1/\t.wh=0/\t.ah=0/\t.av=0/\t.am=0/\t.aw=0/\t.left=0
structure Core (k:Kn) (g:Int) (D:Nat->Prop):Prop where
 th:Hd.Good 16 k.th
 oh:Hd.Good 32 k.oh
 thT:∀ i,(k.th i).2=(k.ts i).isSome
 ohO:∀ o,(k.oh o).2=(k.os o).isSome
 hT:∀ i t,k.ts i=some t->i < 16/\t.h=Hd.hd k.th i
 hO:∀ o x,k.os o=some x->o < 32/\x.h=Hd.hd k.oh o
 rdG:Rd.Good k.rd
 rdT:∀ (z:Int) (r:Nat),r < 32->(z∈k.rd r↔∃ i t,z=((i:Nat):Int)/\k.ts i=some t/\t.st=1/\t.held=false/\t.rank=(r:Int))
 qG:∀ o x,k.os o=some x->Wt.Good x.q/\Dn x.q
 qT:∀ o x,k.os o=some x->∀ y:Int×Int,y∈x.q↔∃ i t,y.1=((i:Nat):Int)/\k.ts i=some t/\t.st=2/\t.on=(o:Int)/\y.2=t.rank
 tOk:∀ i t,k.ts i=some t->TaOk k.os D i t
 own:∀ o x,k.os o=some x->∀ z,(z=x.x.o∨z∈x.x.zs)->z≠0->Live k z∨z=g
theorem TaOk.rows{os os':Nat->Option Th}{D:Nat->Prop}{i:Nat}{t:Ta}(h:TaOk os D i t)(ho:∀ o x,os o=some x->∃ x',os' o=some x'/\x'.h=x.h/\x'.x.k=x.x.k):TaOk os' D i t:=by
 refine⟨h.st,h.base,h.rank,h.ans,h.last,fun hs=>?_,h.ask,h.idle⟩
 rcases h.on hs with c |⟨c1,o,x,c2,c3,c4,c5⟩
 ·exact Or.inl c
 ·obtain⟨x',d1,d2,d3⟩:=ho o x c3
  exact Or.inr ⟨c1,o,x',c2,d1,by rw [d2];exact c4,by rw [d3];exact c5⟩
def rowsF(os:Nat->Option Th)(F:Nat->List (Int×Int)->List (Int×Int)):Nat->Option Th:=fun o=>(os o).map fun x=>{ x with q:=F o x.q }
theorem rowsF_some{os:Nat->Option Th}{F:Nat->List (Int×Int)->List (Int×Int)}{o:Nat}{y:Th}(h:rowsF os F o=some y):∃ x,os o=some x/\y={ x with q:=F o x.q }:=by
 unfold rowsF at h
 cases hx:os o with
 | none=>rw [hx] at h;cases h
 | some x=>rw [hx] at h;exact⟨x,rfl,by simpa using h.symm⟩
theorem rowsF_of{os:Nat->Option Th}{F:Nat->List (Int×Int)->List (Int×Int)}{o:Nat}{x:Th}(h:os o=some x):rowsF os F o=some { x with q:=F o x.q }:=by unfold rowsF;rw [h];rfl
theorem Core.one{k k':Kn}{g:Int}{D:Nat->Prop}(h:Core k g D){i:Nat}{t t':Ta}(ht:k.ts i=some t)(F:Nat->List (Int×Int)->List (Int×Int))
  (e1:k'.th=k.th) (e2:k'.oh=k.oh) (e3:k'.ts=set1 k.ts i (some t')) (e4:k'.os=rowsF k.os F) (hh:t'.h=t.h)
  (hX:Rd.Good k'.rd) (hXm:∀ (z:Int) (r:Nat),r < 32->(z∈k'.rd r↔(z∈k.rd r/\z≠(i:Int))∨(z=(i:Int)/\t'.st=1/\t'.held=false/\t'.rank=(r:Int))))
  (hF:∀ o x,k.os o=some x->Wt.Good (F o x.q)/\Dn (F o x.q)/\∀ y:Int×Int,y∈F o x.q↔(y∈x.q/\y.1≠(i:Int))∨(y.1=(i:Int)/\t'.st=2/\t'.on=(o:Int)/\y.2=t'.rank))
  (hok:TaOk k.os D i t') (hl:t.st≠3->t'.st≠3∨g=(t.h:Int)):Core k' g D:=by
 have hrows:∀ o x,k.os o=some x->∃ x',k'.os o=some x'/\x'.h=x.h/\x'.x.k=x.x.k:=fun o x hx=>⟨{ x with q:=F o x.q },by rw [e4];exact rowsF_of hx,rfl,rfl⟩
 have hts:∀ j u,k'.ts j=some u->(j=i/\u=t')∨(j≠i/\k.ts j=some u):=fun j u hu=>by
  rw [e3] at hu
  by_cases e:j=i
  ·subst e;rw [set1_at] at hu;exact Or.inl ⟨rfl,by simpa using hu.symm⟩
  ·rw [set1_ne _ _ e] at hu;exact Or.inr ⟨e,hu⟩
 have hti:k'.ts i=some t':=by rw [e3,set1_at]
 have htj:∀ j,j≠i->k'.ts j=k.ts j:=fun j hj=>by rw [e3,set1_ne _ _ hj]
 refine⟨by rw [e1];exact h.th,by rw [e2];exact h.oh,fun j=>?_,fun o=>?_,fun j u hu=>?_,fun o y hy=>?_,hX,fun z r hr=>?_,fun o y hy=>?_,fun o y hy z=>?_,fun j u hu=>?_,fun o y hy z hz h0=>?_⟩
 ·rw [e1,h.thT j]
  by_cases e:j=i
  ·subst e;rw [hti,ht];rfl
  ·rw [htj j e]
 ·rw [e2,h.ohO o,e4]
  unfold rowsF
  cases k.os o <;> rfl
 ·rw [e1]
  rcases hts j u hu with⟨rfl,rfl⟩ |⟨_,hu⟩
  ·rw [hh];exact h.hT _ t ht
  ·exact h.hT j u hu
 ·rw [e4] at hy
  obtain⟨x,hx,rfl⟩:=rowsF_some hy
  rw [e2]
  exact h.hO o x hx
 ·rw [hXm z r hr,h.rdT z r hr]
  constructor
  ·rintro (⟨⟨j,u,rfl,hj,hu⟩,hne⟩ |⟨rfl,hs⟩)
   ·exact⟨j,u,rfl,by rw [htj j (by rintro rfl;exact hne rfl)];exact hj,hu⟩
   ·exact⟨i,t',rfl,hti,hs⟩
  ·rintro ⟨j,u,rfl,hj,hu⟩
   rcases hts j u hj with⟨rfl,rfl⟩ |⟨hne,hj⟩
   ·exact Or.inr ⟨rfl,hu⟩
   ·exact Or.inl ⟨⟨j,u,rfl,hj,hu⟩,by omega⟩
 ·rw [e4] at hy
  obtain⟨x,hx,rfl⟩:=rowsF_some hy
  obtain⟨a,b,_⟩:=hF o x hx
  exact⟨a,b⟩
 ·rw [e4] at hy
  obtain⟨x,hx,rfl⟩:=rowsF_some hy
  rw [(hF o x hx).2.2 z,h.qT o x hx z]
  constructor
  ·rintro (⟨⟨j,u,hz,hj,hu⟩,hne⟩ |⟨hz,hs⟩)
   ·exact⟨j,u,hz,by rw [htj j (by rintro rfl;exact hne hz)];exact hj,hu⟩
   ·exact⟨i,t',hz,hti,hs⟩
  ·rintro ⟨j,u,hz,hj,hu⟩
   rcases hts j u hj with⟨rfl,rfl⟩ |⟨hne,hj⟩
   ·exact Or.inr ⟨hz,hu⟩
   ·exact Or.inl ⟨⟨j,u,hz,hj,hu⟩,by omega⟩
 ·rcases hts j u hu with⟨rfl,rfl⟩ |⟨hne,hj⟩
  ·exact hok.rows hrows
  ·exact(h.tOk j u hj).rows hrows
 ·rw [e4] at hy
  obtain⟨x,hx,rfl⟩:=rowsF_some hy
  rcases h.own o x hx z hz h0 with⟨j,u,hj,hu,h3⟩ | e
  ·by_cases e:j=i
   ·subst e
    rw [ht] at hj
    obtain rfl:t=u:=by simpa using hj
    rcases hl h3 with c | c
    ·exact Or.inl ⟨j,t',hti,by rw [hh];exact hu,c⟩
    ·exact Or.inr (by rw [c,hu])
   ·exact Or.inl ⟨j,u,by rw [htj j e];exact hj,hu,h3⟩
  ·exact Or.inr e
theorem rowsF_id(os:Nat->Option Th):rowsF os (fun _ q=>q)=os:=by
 funext o
 unfold rowsF
 cases os o <;> rfl
theorem Core.out{k:Kn}{g:Int}{D:Nat->Prop}(h:Core k g D){i:Nat}{t:Ta}(ht:k.ts i=some t){o:Nat}{x:Th}(hx:k.os o=some x)(hn:t.st≠2∨t.on≠(o:Int)){y:Int×Int}(hy:y∈x.q):y.1≠(i:Int):=fun e=>by
 obtain⟨j,u,h1,h2,h3,h4,_⟩:=(h.qT o x hx y).1 hy
 obtain rfl:j=i:=by omega
 rw [ht] at h2
 obtain rfl:t=u:=by simpa using h2
 rcases hn with c | c
 ·exact c h3
 ·exact c h4
theorem Core.rowsOut{k:Kn}{g:Int}{D:Nat->Prop}(h:Core k g D){i:Nat}{t t':Ta}(ht:k.ts i=some t)(hn:t'.st≠2):∀ o x,k.os o=some x ->
  Wt.Good (if t.on=(o:Int) then Wt.gone x.q (i:Int) else x.q)/\Dn (if t.on=(o:Int) then Wt.gone x.q (i:Int) else x.q)/\∀ y:Int×Int,y∈(if t.on=(o:Int) then Wt.gone x.q (i:Int) else x.q)↔(y∈x.q/\y.1≠(i:Int))∨(y.1=(i:Int)/\t'.st=2/\t'.on=(o:Int)/\y.2=t'.rank):=fun o x hx=>by
 obtain⟨hG,hD⟩:=h.qG o x hx
 split
 ·refine⟨hG.gone _,hD.gone _,fun y=>?_⟩
  rw [q_gone hG]
  exact⟨Or.inl,fun c=>c.elim id fun c=>absurd c.2.1 hn⟩
 ·rename_i hne
  exact⟨hG,hD,fun y=>⟨fun hy=>Or.inl ⟨hy,h.out ht hx (Or.inr hne) hy⟩,fun c=>c.elim (fun c=>c.1) fun c=>absurd c.2.1 hn⟩⟩
theorem Core.inRank{k:Kn}{g:Int}{D:Nat->Prop}(h:Core k g D){i:Nat}{t:Ta}(ht:k.ts i=some t)(r:Nat)(hr:r < 32):(i:Int)∈k.rd r↔t.st=1/\t.held=false/\t.rank=(r:Int):=by
 rw [h.rdT _ r hr]
 constructor
 ·rintro ⟨j,u,e,hj,hu⟩
  obtain rfl:i=j:=by omega
  rw [ht] at hj
  obtain rfl:t=u:=by simpa using hj
  exact hu
 ·intro hs
  exact⟨i,t,rfl,ht,hs⟩
theorem Core.rdSame{k:Kn}{g:Int}{D:Nat->Prop}(h:Core k g D){i:Nat}{t t':Ta}(ht:k.ts i=some t)(hs:(t'.st=1/\t'.held=false)↔(t.st=1/\t.held=false))(hr:t'.st=1->t'.held=false->t'.rank=t.rank)(z:Int)(r:Nat)(hlt:r < 32) :
  z∈k.rd r↔(z∈k.rd r/\z≠(i:Int))∨(z=(i:Int)/\t'.st=1/\t'.held=false/\t'.rank=(r:Int)):=by
 by_cases e:z=(i:Int)
 ·subst e
  rw [h.inRank ht r hlt]
  constructor
  ·rintro ⟨a,b,c⟩
   obtain⟨a',b'⟩:=hs.2 ⟨a,b⟩
   exact Or.inr ⟨rfl,a',b',by rw [hr a' b'];exact c⟩
  ·rintro (⟨_,c⟩ |⟨_,a,b,c⟩)
   ·exact absurd rfl c
   ·obtain⟨a',b'⟩:=hs.1 ⟨a,b⟩
    exact⟨a',b',by rw [←hr a b];exact c⟩
 ·exact⟨fun hz=>Or.inl ⟨hz,e⟩,fun c=>c.elim (fun c=>c.1) fun c=>absurd c.1 e⟩
theorem Core.rdOut{k:Kn}{g:Int}{D:Nat->Prop}(h:Core k g D){i:Nat}{t':Ta}(hn:¬ (t'.st=1/\t'.held=false))(z:Int)(r:Nat)(hlt:r < 32) :
  z∈Rd.rmX k.rd (i:Int) r↔(z∈k.rd r/\z≠(i:Int))∨(z=(i:Int)/\t'.st=1/\t'.held=false/\t'.rank=(r:Int)):=by
 rw [rd_rm h.rdG _ _ hlt]
 exact⟨Or.inl,fun c=>c.elim id fun c=>absurd ⟨c.2.1,c.2.2.1⟩ hn⟩
theorem Core.rdJoin{k:Kn}{g:Int}{D:Nat->Prop}(h:Core k g D){i:Nat}{t':Ta}(hi:i < 16)(hs:t'.st=1/\t'.held=false)(hr:0<=t'.rank/\t'.rank<=31)(z:Int)(r:Nat)(hlt:r < 32) :
  z∈Rd.putX (Rd.rmX k.rd (i:Int)) (i:Int) t'.rank r↔(z∈k.rd r/\z≠(i:Int))∨(z=(i:Int)/\t'.st=1/\t'.held=false/\t'.rank=(r:Int)):=by
 rw [rd_join h.rdG (by omega) hr hlt]
 simp [hs.1,hs.2]
theorem set1_set1{α:Type}(f:Nat->Option α)(i:Nat)(a b:Option α):set1 (set1 f i a) i b=set1 f i b:=by
 funext j;unfold set1;split <;> rfl
theorem Core.good_join{k:Kn}{g:Int}{D:Nat->Prop}(h:Core k g D)(i:Nat)(r:Int):Rd.Good (Rd.putX (Rd.rmX k.rd (i:Int)) (i:Int) r):=(h.rdG.rem _).put _ _
theorem Core.rowsId{k:Kn}{g:Int}{D:Nat->Prop}(h:Core k g D){i:Nat}{t t':Ta}(ht:k.ts i=some t)(hs:t'.st=2↔t.st=2)(ho:t'.on=t.on)(hr:t'.rank=t.rank):∀ o x,k.os o=some x ->
  Wt.Good x.q/\Dn x.q/\∀ y:Int×Int,y∈x.q↔(y∈x.q/\y.1≠(i:Int))∨(y.1=(i:Int)/\t'.st=2/\t'.on=(o:Int)/\y.2=t'.rank):=fun o x hx=>by
 obtain⟨hG,hD⟩:=h.qG o x hx
 refine⟨hG,hD,fun y=>?_⟩
 by_cases e:y.1=(i:Int)
 ·rw [h.qT o x hx y]
  constructor
  ·rintro ⟨j,u,h1,h2,h3,h4,h5⟩
   obtain rfl:j=i:=by omega
   rw [ht] at h2
   obtain rfl:t=u:=by simpa using h2
   exact Or.inr ⟨e,hs.2 h3,by rw [ho];exact h4,by rw [hr];exact h5⟩
  ·rintro (⟨_,c⟩ |⟨_,h3,h4,h5⟩)
   ·exact absurd e c
   ·exact⟨i,t,e,ht,hs.1 h3,by rw [←ho];exact h4,by rw [←hr];exact h5⟩
 ·exact⟨fun hy=>Or.inl ⟨hy,e⟩,fun c=>c.elim (fun c=>c.1) fun c=>absurd c.1 e⟩
theorem Core.join{k:Kn}{g:Int}{D:Nat->Prop}(h:Core k g D){i:Nat}{t:Ta}(ht:k.ts i=some t)(hs:t.st=1)(hd:t.held=false):Core (join k i) g D:=by
 have hok:=h.tOk i t ht
 have e:YtbbdndfibjdcfaaGreat.join k i={ k with rd:=Rd.putX (Rd.rmX k.rd (i:Int)) (i:Int) t.rank,ts:=set1 k.ts i (some { t with ran:=0 }) }:=by unfold YtbbdndfibjdcfaaGreat.join;rw [ht]
 rw [e]
 refine h.one (t':={ t with ran:=0 }) ht (fun _ q=>q) rfl rfl rfl (rowsF_id _).symm rfl (h.good_join i _) (h.rdJoin (t':={ t with ran:=0 }) (h.hT i t ht).1 ⟨hs,hd⟩ hok.rank) (h.rowsId (t':={ t with ran:=0 }) ht Iff.rfl rfl rfl) ⟨hok.st,hok.base,hok.rank,hok.ans,hok.last,hok.on,hok.ask,hok.idle⟩ (fun c=>Or.inl c)
def Ta.done(t:Ta)(e v:Int):Ta:=if t.st=2 then(if t.held then { (t.told e v).idle with st:=1 } else { (t.told e v).idle with st:=1,ran:=0 }) else t.told e v
theorem answer_ts{k:Kn}{i:Nat}{t:Ta}(ht:k.ts i=some t)(e v:Int):(answer k i e v).ts=set1 k.ts i (some (t.done e v)):=by
 unfold answer Ta.done
 rw [ht]
 simp only
 split
 ·split
  ·rfl
  ·unfold YtbbdndfibjdcfaaGreat.join
   simp only [set1_at,set1_set1]
 ·rfl
theorem answer_os{k:Kn}{i:Nat}{t:Ta}(ht:k.ts i=some t)(e v:Int):(answer k i e v).os=if t.st=2 then unq k.os i t.on else k.os:=by
 unfold answer
 rw [ht]
 simp only
 split
 ·split
  ·rfl
  ·unfold YtbbdndfibjdcfaaGreat.join
   simp only [set1_at]
 ·rfl
theorem answer_rd{k:Kn}{i:Nat}{t:Ta}(ht:k.ts i=some t)(e v:Int):(answer k i e v).rd=if t.st=2/\t.held=false then Rd.putX (Rd.rmX k.rd (i:Int)) (i:Int) t.rank else k.rd:=by
 unfold answer
 rw [ht]
 simp only
 by_cases hs:t.st=2
 ·rw [if_pos hs]
  by_cases hd:t.held=true
  ·rw [if_pos hd,if_neg (fun c=>by rw [hd] at c;exact absurd c.2 (by simp))]
  ·have hd':t.held=false:=by simpa using hd
   rw [if_neg hd,if_pos ⟨hs,hd'⟩]
   unfold YtbbdndfibjdcfaaGreat.join
   simp only [set1_at]
   rfl
 ·rw [if_neg hs,if_neg (fun c=>hs c.1)]
  rfl
theorem answer_rest{k:Kn}{i:Nat}(e v:Int):(answer k i e v).th=k.th/\(answer k i e v).oh=k.oh/\(answer k i e v).al=k.al/\(answer k i e v).now=k.now/\(answer k i e v).wc=k.wc/\(answer k i e v).sl=k.sl:=by
 unfold answer
 cases ht:k.ts i with
 | none=>exact⟨rfl,rfl,rfl,rfl,rfl,rfl⟩
 | some t =>
  simp only
  split
  ·split
   ·exact⟨rfl,rfl,rfl,rfl,rfl,rfl⟩
   ·unfold YtbbdndfibjdcfaaGreat.join
    simp [set1_at]
  ·exact⟨rfl,rfl,rfl,rfl,rfl,rfl⟩
theorem done_h(t:Ta)(e v:Int):(t.done e v).h=t.h:=by
 unfold Ta.done
 split
 ·split <;> rfl
 ·rfl
theorem done_keep(t:Ta)(e v:Int):(t.done e v).base=t.base/\(t.done e v).rank=t.rank/\(t.done e v).held=t.held/\(t.done e v).ans=t.ans+1/\(t.done e v).last=e/\(t.done e v).val=v/\((t.done e v).st=if t.st=2 then 1 else t.st):=by
 unfold Ta.done
 split
 ·split <;> exact⟨rfl,rfl,rfl,rfl,rfl,rfl,rfl⟩
 ·exact⟨rfl,rfl,rfl,rfl,rfl,rfl,rfl⟩
theorem done_idle{t:Ta}(e v:Int)(h:t.st=2):(t.done e v).on=-1/\(t.done e v).wh=0/\(t.done e v).ah=0/\(t.done e v).av=0/\(t.done e v).am=0/\(t.done e v).aw=0/\(t.done e v).left=0:=by
 unfold Ta.done
 rw [if_pos h]
 split <;> exact⟨rfl,rfl,rfl,rfl,rfl,rfl,rfl⟩
theorem done_same{t:Ta}(e v:Int)(h:t.st≠2):t.done e v=t.told e v:=by unfold Ta.done;rw [if_neg h]
theorem Core.answer{k:Kn}{g:Int}{D:Nat->Prop}(h:Core k g D){i:Nat}{t:Ta}(ht:k.ts i=some t){e v:Int}(he:0<=e/\e<=15):Core (answer k i e v) g D:=by
 have hok:=h.tOk i t ht
 obtain⟨r1,r2,_⟩:=answer_rest (k:=k) (i:=i) e v
 obtain⟨k1,k2,k3,k4,k5,k6,k7⟩:=done_keep t e v
 have hok':TaOk k.os D i (t.done e v):=by
  by_cases hs:t.st=2
  ·rw [if_pos hs] at k7
   exact⟨Or.inl k7,by rw [k1];exact hok.base,by rw [k2];exact hok.rank,by rw [k4];have:=hok.ans;omega,by rw [k5];exact he,fun c=>(by rw [k7] at c;cases c),fun c=>(by rw [k7] at c;cases c),fun _=>done_idle e v hs⟩
  ·rw [done_same e v hs]
   exact⟨hok.st,hok.base,hok.rank,by show 0<=t.ans+1;have:=hok.ans;omega,he,fun c=>absurd c hs,fun c=>absurd c hs,fun _=>hok.idle hs⟩
 by_cases hs:t.st=2
 ·rw [if_pos hs] at k7
  refine h.one ht (fun o q=>if t.on=(o:Int) then Wt.gone q (i:Int) else q) r1 r2 (answer_ts ht e v) (by rw [answer_os ht,if_pos hs,unq_eq];rfl) (done_h t e v) ?_ ?_ (h.rowsOut ht (by rw [k7];decide)) hok' (fun _=>Or.inl (by rw [k7];decide))
  ·rw [answer_rd ht]
   split
   ·exact h.good_join i _
   ·exact h.rdG
  ·intro z r hr
   rw [answer_rd ht]
   cases hd:t.held with
   | false =>
    rw [if_pos ⟨hs,rfl⟩,←k2]
    exact h.rdJoin (h.hT i t ht).1 ⟨k7,by rw [k3];exact hd⟩ (by rw [k2];exact hok.rank) z r hr
   | true =>
    rw [if_neg (fun c=>by cases c.2)]
    exact h.rdSame ht ⟨fun c=>(by rw [k3,hd] at c;cases c.2),fun c=>(by rw [hd] at c;cases c.2)⟩ (fun _ c=>(by rw [k3,hd] at c;cases c)) z r hr
 ·rw [if_neg hs] at k7
  refine h.one ht (fun _ q=>q) r1 r2 (answer_ts ht e v) (by rw [answer_os ht,if_neg hs,rowsF_id]) (done_h t e v) ?_ ?_ (h.rowsId ht (by rw [k7]) (by rw [done_same e v hs];rfl) k2) hok' (fun c=>Or.inl (by rw [k7];exact c))
  ·rw [answer_rd ht,if_neg (fun c=>hs c.1)]
   exact h.rdG
  ·intro z r hr
   rw [answer_rd ht,if_neg (fun c=>hs c.1)]
   exact h.rdSame ht (by rw [k7,k3]) (fun _ _=>k2) z r hr
theorem Core.thing{k:Kn}{g:Int}{D:Nat->Prop}(h:Core k g D){o:Nat}{x:Th}(hx:k.os o=some x){s:Ob.Sx}(hk:s.k=x.x.k)(hs:∀ z,(z=s.o∨z∈s.zs)->z≠0->Live k z∨z=g):Core (k.setO o { x with x:=s }) g D:=by
 have hos:∀ p y,(k.setO o { x with x:=s }).os p=some y->(p=o/\y={ x with x:=s })∨(p≠o/\k.os p=some y):=fun p y hy=>by
  have hy':set1 k.os o (some { x with x:=s }) p=some y:=hy
  by_cases e:p=o
  ·subst e;rw [set1_at] at hy';exact Or.inl ⟨rfl,by simpa using hy'.symm⟩
  ·rw [set1_ne _ _ e] at hy';exact Or.inr ⟨e,hy'⟩
 refine⟨h.th,h.oh,h.thT,fun p=>?_,h.hT,fun p y hy=>?_,h.rdG,h.rdT,fun p y hy=>?_,fun p y hy=>?_,fun i t ht=>(h.tOk i t ht).rows fun p y hy=>?_,fun p y hy=>?_⟩
 ·show(k.oh p).2=(set1 k.os o (some { x with x:=s }) p).isSome
  rw [h.ohO p]
  by_cases e:p=o
  ·subst e;rw [set1_at,hx];rfl
  ·rw [set1_ne _ _ e]
 ·rcases hos p y hy with⟨rfl,rfl⟩ |⟨_,hy⟩
  ·exact h.hO p x hx
  ·exact h.hO p y hy
 ·rcases hos p y hy with⟨rfl,rfl⟩ |⟨_,hy⟩
  ·exact h.qG p x hx
  ·exact h.qG p y hy
 ·rcases hos p y hy with⟨rfl,rfl⟩ |⟨_,hy⟩
  ·exact h.qT p x hx
  ·exact h.qT p y hy
 ·by_cases e:p=o
  ·subst e
   rw [hx] at hy
   obtain rfl:x=y:=by simpa using hy
   exact⟨{ x with x:=s },set1_at _ _ _,rfl,hk⟩
  ·exact⟨y,by show set1 k.os o (some { x with x:=s }) p=some y;rw [set1_ne _ _ e];exact hy,rfl,rfl⟩
 ·rcases hos p y hy with⟨rfl,rfl⟩ |⟨_,hy⟩
  ·exact hs
  ·exact h.own p y hy
theorem Core.rkb{k:Kn}{g:Int}{D:Nat->Prop}(h:Core k g D){i:Nat}{t:Ta}(ht:k.ts i=some t):Rd.rkb k.rd (i:Int)=true↔t.st=1/\t.held=false:=by
 have hok:=h.tOk i t ht
 unfold Rd.rkb
 constructor
 ·intro hs
  obtain⟨r,hr⟩:=Option.isSome_iff_exists.1 hs
  obtain⟨h1,h2⟩:=Rd.rk_at hr
  obtain⟨a,b,_⟩:=(h.inRank ht r h1).1 h2
  exact⟨a,b⟩
 ·rintro ⟨a,b⟩
  have hr:=hok.rank
  have hm:(i:Int)∈k.rd t.rank.toNat:=(h.inRank ht _ (by omega)).2 ⟨a,b,by omega⟩
  rw [Rd.rk_some h.rdG (by omega) hm]
  rfl
theorem Core.turn1{k:Kn}{g:Int}{D:Nat->Prop}(h:Core k g D)(l:List Int)(hl:∀ i,0<=l.getD i 0/\l.getD i 0<=31)(i:Nat):Core (turn1 l k i) g D:=by
 unfold YtbbdndfibjdcfaaGreat.turn1
 cases ht:k.ts i with
 | none=>exact h
 | some t =>
  simp only
  split
  ·exact h
  ·rename_i hne
   have hok:=h.tOk i t ht
   have hr:=hl i
   generalize l.getD i 0=r at *
   have hok':∀ t':Ta,t'.st=t.st->t'.base=t.base->t'.rank=r->t'.ans=t.ans->t'.last=t.last->t'.on=t.on->t'.wh=t.wh->t'.ah=t.ah->t'.av=t.av->t'.am=t.am->t'.aw=t.aw->t'.left=t.left->TaOk k.os D i t':=fun t' a1 a2 a3 a4 a5 a6 a7 a8 a9 a10 a11 a12 =>
    ⟨by rw [a1];exact hok.st,by rw [a2];exact hok.base,by rw [a3];exact hr,by rw [a4];exact hok.ans,by rw [a5];exact hok.last,by rw [a1,a6,a7,a8];exact hok.on,by rw [a1,a7,a11,a12];exact hok.ask,by rw [a1,a6,a7,a8,a9,a10,a11,a12];exact hok.idle⟩
   have hF:∀ t':Ta,t'.st=t.st->t'.on=t.on->t'.rank=r->∀ o x,k.os o=some x->Wt.Good (if t.on=(o:Int) then Wt.chL x.q (i:Int) r else x.q)/\Dn (if t.on=(o:Int) then Wt.chL x.q (i:Int) r else x.q)/\∀ y:Int×Int,y∈(if t.on=(o:Int) then Wt.chL x.q (i:Int) r else x.q)↔(y∈x.q/\y.1≠(i:Int))∨(y.1=(i:Int)/\t'.st=2/\t'.on=(o:Int)/\y.2=t'.rank):=fun t' a1 a2 a3 o x hx=>by
    obtain⟨hG,hD⟩:=h.qG o x hx
    split
    ·rename_i hon
     obtain⟨b1,b2,b3⟩:=q_change hG hD (who:=(i:Int)) hr
     refine⟨b1,b2,fun y=>?_⟩
     rw [b3 y,Wt.has_yes,a1,a2,a3]
     constructor
     ·rintro (c |⟨⟨z,hz,hz1⟩,rfl⟩)
      ·exact Or.inl c
      ·obtain⟨j,u,h1,h2,h3,h4,_⟩:=(h.qT o x hx z).1 hz
       obtain rfl:j=i:=by omega
       rw [ht] at h2
       obtain rfl:t=u:=by simpa using h2
       exact Or.inr ⟨rfl,h3,h4,rfl⟩
     ·rintro (c |⟨c1,c2,c3,c4⟩)
      ·exact Or.inl c
      ·exact Or.inr ⟨⟨((i:Int),t.rank),(h.qT o x hx _).2 ⟨i,t,rfl,ht,c2,c3,rfl⟩,rfl⟩,Prod.ext c1 c4⟩
    ·rename_i hon
     refine⟨hG,hD,fun y=>⟨fun hy=>Or.inl ⟨hy,h.out ht hx (Or.inr hon) hy⟩,fun c=>c.elim (fun c=>c.1) fun c=>?_⟩⟩
     rw [a2] at c
     exact absurd c.2.2.1 hon
   by_cases hb:Rd.rkb k.rd (i:Int)=true
   ·rw [if_pos hb]
    obtain⟨s1,s2⟩:=(h.rkb ht).1 hb
    unfold YtbbdndfibjdcfaaGreat.join
    simp only [set1_at,set1_set1]
    exact h.one (t':={ t with rank:=r,ran:=0 }) ht (fun o q=>if t.on=(o:Int) then Wt.chL q (i:Int) r else q) rfl rfl rfl (chq_eq _ _ _ _) rfl (h.good_join i _) (h.rdJoin (t':={ t with rank:=r,ran:=0 }) (h.hT i t ht).1 ⟨s1,s2⟩ hr) (hF _ rfl rfl rfl) (hok' _ rfl rfl rfl rfl rfl rfl rfl rfl rfl rfl rfl rfl) (fun c=>Or.inl c)
   ·rw [if_neg hb]
    have hn:¬ (t.st=1/\t.held=false):=fun c=>hb ((h.rkb ht).2 c)
    exact h.one (t':={ t with rank:=r }) ht (fun o q=>if t.on=(o:Int) then Wt.chL q (i:Int) r else q) rfl rfl rfl (chq_eq _ _ _ _) rfl h.rdG (h.rdSame (t':={ t with rank:=r }) ht Iff.rfl (fun a b=>absurd ⟨a,b⟩ hn)) (hF _ rfl rfl rfl) (hok' _ rfl rfl rfl rfl rfl rfl rfl rfl rfl rfl rfl rfl) (fun c=>Or.inl c)
theorem Core.fold{α:Type}{g:Int}{D:Nat->Prop}(f:Kn->α->Kn)(hf:∀ k a,Core k g D->Core (f k a) g D):∀ (l:List α) (k:Kn),Core k g D->Core (l.foldl f k) g D
 | [],k,h=>h
 | a :: r,k,h=>Core.fold f hf r (f k a) (hf k a h)
theorem bases_in{k:Kn}{g:Int}{D:Nat->Prop}(h:Core k g D)(i:Nat):0<=(bases k).getD i 0/\(bases k).getD i 0<=31:=by
 unfold bases
 rw [List.getD_eq_getElem?_getD,List.getElem?_map]
 by_cases hi:i < 16
 ·rw [List.getElem?_range hi]
  simp only [Option.map_some,Option.getD_some]
  cases ht:k.ts i with
  | none=>simp
  | some t =>
   simp only
   split
   ·omega
   ·exact(h.tOk i t ht).base
 ·rw [List.getElem?_eq_none (by simpa using hi)]
  simp
theorem ranks_in{bs ws:List Int}(h:∀ i,0<=bs.getD i 0/\bs.getD i 0<=31)(i:Nat):0<=(ranksL bs ws).getD i 0/\(ranksL bs ws).getD i 0<=31:=by
 unfold ranksL
 split
 ·rename_i hex
  have hl:=hex.choose_spec
  by_cases hi:i < bs.length
  ·obtain⟨q,m,_,_,e⟩:=hl.mid.src i hi
   rw [e]
   exact h q
  ·have:=hl.mid.len
   rw [List.getD_eq_getElem?_getD,List.getElem?_eq_none (by omega)]
   simp
 ·exact h i
theorem Core.anew{k:Kn}{g:Int}{D:Nat->Prop}(h:Core k g D):Core (anew k) g D :=
 Core.fold _ (fun k' i h'=>h'.turn1 _ (ranks_in (bases_in h)) i) _ k h
theorem serve_one{k:Kn}{g:Int}{D:Nat->Prop}(h:Core k g D){o:Nat}{x:Th}(hx:k.os o=some x){i:Int}(hi:i∈Wt.keys x.q):∃ t,k.ts i.toNat=some t/\i=((i.toNat:Nat):Int)/\t.st=2/\t.on=(o:Int)/\tries k x i=Ob.tA x.x t.h t.wh t.av t.am:=by
 obtain⟨r,hr⟩:=q_keys.1 hi
 obtain⟨j,t,h1,h2,h3,h4,_⟩:=(h.qT o x hx _).1 hr
 have h1':i=(j:Int):=h1
 subst h1'
 refine⟨t,by simpa using h2,by simp,h3,h4,?_⟩
 unfold tries
 simp only [Int.toNat_natCast,h2]
theorem Core.serve1{k:Kn}{g:Int}{D:Nat->Prop}(h:Core k g D){o:Nat}{x:Th}(hx:k.os o=some x){i:Int}(hi:i∈Wt.keys x.q):Core (YtbbdndfibjdcfaaGreat.answer (k.setO o { x with x:=(tries k x i).2.2 }) i.toNat 0 (tries k x i).1) g D:=by
 obtain⟨t,h1,_,h3,_,h5⟩:=serve_one h hx hi
 have hlive:Live k (t.h:Int):=⟨_,t,h1,rfl,by rw [h3];decide⟩
 have hs:Core (k.setO o { x with x:=(tries k x i).2.2 }) g D:=by
  rw [h5]
  refine h.thing hx (try_kind _ _ _ _ _).1 fun z hz h0=>?_
  rcases hz with rfl | hz
  ·rcases try_own x.x t.h t.wh t.av t.am with e | e | e
   ·exact h.own o x hx _ (Or.inl e) h0
   ·exact Or.inl (by rw [e.2];exact hlive)
   ·exact absurd e h0
  ·rcases try_zs x.x t.h t.wh t.av t.am z hz with e | e | e
   ·exact h.own o x hx _ (Or.inr e) h0
   ·exact Or.inl (by rw [e.2];exact hlive)
   ·exact absurd e h0
 exact hs.answer (t:=t) h1 (by omega)
theorem Core.serveN{g:Int}{D:Nat->Prop}(o:Nat):∀ (n:Nat) (k:Kn),Core k g D->Core (serveN n k o) g D
 | 0,k,h=>h
 | n+1,k,h=>by
  unfold YtbbdndfibjdcfaaGreat.serveN
  cases hx:k.os o with
  | none=>exact h
  | some x =>
   simp only
   cases hf:(Wt.keys x.q).find? (okB k x) with
   | none=>exact h
   | some i=>exact Core.serveN o n _ (h.serve1 hx (List.mem_of_find?_eq_some hf))
theorem Core.serve{k:Kn}{g:Int}{D:Nat->Prop}(h:Core k g D)(o:Nat):Core (serve k o) g D:=by
 unfold YtbbdndfibjdcfaaGreat.serve
 split
 ·exact h.serveN o _ k
 ·exact h
theorem Core.letGo{k:Kn}{g:Int}{D:Nat->Prop}(h:Core k g D){z:Nat}(hz:z≠0)(o:Nat):Core (letGo z k o) g D:=by
 unfold YtbbdndfibjdcfaaGreat.letGo
 cases hx:k.os o with
 | none=>exact h
 | some x =>
  simp only
  split
  ·refine Core.serve (h.thing hx (leave_kind _ _).1 fun y hy h0=>?_) o
   have hz':(z:Int)≠0:=by omega
   rcases hy with rfl | hy
   ·rcases(leave_own x.x z hz').2 with e | e
    ·exact h.own o x hx _ (Or.inl e) h0
    ·exact absurd e h0
   ·rcases(leave_zs x.x z hz' y hy).2 with e | e
    ·exact h.own o x hx _ (Or.inr e) h0
    ·exact absurd e h0
  ·exact h
theorem Core.lets{k:Kn}{g:Int}{D:Nat->Prop}(h:Core k g D){z:Nat}(hz:z≠0):Core (lets k z) g D :=
 Core.fold _ (fun k' o h'=>h'.letGo hz o) _ k h
def NoH(k:Kn)(z:Nat):Prop:=∀ i t,k.ts i=some t->t.st=2->t.h≠z
def NoO(k:Kn)(z:Nat)(o:Nat):Prop:=∀ x,k.os o=some x->x.x.o≠(z:Int)/\(z:Int) ∉ x.x.zs
theorem answer_x{k:Kn}{i:Nat}(e v:Int){o:Nat}{y:Th}(hy:(answer k i e v).os o=some y):∃ x,k.os o=some x/\y.x=x.x/\y.h=x.h:=by
 cases ht:k.ts i with
 | none =>
  have:answer k i e v=k:=by unfold answer;rw [ht]
  rw [this] at hy
  exact⟨y,hy,rfl,rfl⟩
 | some t =>
  rw [answer_os ht] at hy
  split at hy
  ·rw [unq_eq] at hy
   obtain⟨x,hx,rfl⟩:=rowsF_some (F:=fun o q=>if t.on=(o:Int) then Wt.gone q (i:Int) else q) hy
   exact⟨x,hx,rfl,rfl⟩
  ·exact⟨y,hy,rfl,rfl⟩
theorem answer_t{k:Kn}{i:Nat}(e v:Int){j:Nat}{u:Ta}(hu:(answer k i e v).ts j=some u):∃ t,k.ts j=some t/\u.h=t.h/\(u.st=2->t.st=2/\u.wh=t.wh/\u.av=t.av/\u.am=t.am/\u.on=t.on):=by
 cases ht:k.ts i with
 | none =>
  have:answer k i e v=k:=by unfold answer;rw [ht]
  rw [this] at hu
  exact⟨u,hu,rfl,fun h=>⟨h,rfl,rfl,rfl,rfl⟩⟩
 | some t =>
  rw [answer_ts ht] at hu
  by_cases c:j=i
  ·subst c
   rw [set1_at] at hu
   obtain rfl:t.done e v=u:=by simpa using hu
   refine⟨t,ht,done_h t e v,fun h=>?_⟩
   have:=(done_keep t e v).2.2.2.2.2.2
   rw [this] at h
   split at h
   ·cases h
   ·rw [done_same e v (by assumption)]
    exact⟨h,rfl,rfl,rfl,rfl⟩
  ·rw [set1_ne _ _ c] at hu
   exact⟨u,hu,rfl,fun h=>⟨h,rfl,rfl,rfl,rfl⟩⟩
theorem serveN_no{g:Int}{D:Nat->Prop}(z:Nat)(hz:z≠0)(o:Nat):∀ (n:Nat) (k:Kn),Core k g D->NoH k z->NoH (serveN n k o) z/\∀ p,NoO k z p->NoO (serveN n k o) z p
 | 0,k,h,hn=>⟨hn,fun p hp=>hp⟩
 | n+1,k,h,hn=>by
  unfold serveN
  cases hx:k.os o with
  | none=>exact⟨hn,fun p hp=>hp⟩
  | some x =>
   simp only
   cases hf:(Wt.keys x.q).find? (okB k x) with
   | none=>exact⟨hn,fun p hp=>hp⟩
   | some i =>
    simp only
    have hi:=List.mem_of_find?_eq_some hf
    obtain⟨t,h1,_,h3,_,h5⟩:=serve_one h hx hi
    have hth:t.h≠z:=hn _ t h1 h3
    obtain⟨r1,r2⟩:=serveN_no z hz o n (answer (k.setO o { x with x:=(tries k x i).2.2 }) i.toNat 0 (tries k x i).1) (h.serve1 hx hi) (fun j u hu hs=>by
     obtain⟨t',a1,a2,a3⟩:=answer_t _ _ hu
     rw [a2]
     exact hn j t' a1 (a3 hs).1)
    refine⟨r1,fun p hp=>r2 p fun y hy=>?_⟩
    obtain⟨x',b1,b2,_⟩:=answer_x _ _ hy
    have b1':set1 k.os o (some { x with x:=(tries k x i).2.2 }) p=some x':=b1
    rw [b2]
    by_cases c:p=o
    ·subst c
     rw [set1_at] at b1'
     obtain rfl:({ x with x:=(tries k x i).2.2 }:Th)=x':=by simpa using b1'
     obtain⟨p1,p2⟩:=hp x hx
     rw [h5]
     constructor
     ·rcases try_own x.x t.h t.wh t.av t.am with e | e | e
      ·simp only;rw [e];exact p1
      ·simp only;rw [e.2];omega
      ·simp only;rw [e];omega
     ·intro hm
      rcases try_zs x.x t.h t.wh t.av t.am _ hm with e | e | e
      ·exact p2 e
      ·omega
      ·omega
    ·rw [set1_ne _ _ c] at b1'
     exact hp x' b1'
theorem serve_no{k:Kn}{g:Int}{D:Nat->Prop}(h:Core k g D){z:Nat}(hz:z≠0)(o:Nat)(hn:NoH k z):NoH (serve k o) z/\∀ p,NoO k z p->NoO (serve k o) z p:=by
 unfold serve
 split
 ·exact serveN_no z hz o _ k h hn
 ·exact⟨hn,fun p hp=>hp⟩
theorem letGo_no{k:Kn}{g:Int}{D:Nat->Prop}(h:Core k g D){z:Nat}(hz:z≠0)(o:Nat)(hn:NoH k z):NoH (letGo z k o) z/\NoO (letGo z k o) z o/\∀ p,NoO k z p->NoO (letGo z k o) z p:=by
 have hz':(z:Int)≠0:=by omega
 unfold letGo
 cases hx:k.os o with
 | none=>exact⟨hn,fun x e=>(by rw [hx] at e;cases e),fun p hp=>hp⟩
 | some x =>
  simp only
  split
  ·have hc:Core (k.setO o { x with x:=Ob.lT x.x z }) g D:=h.thing hx (leave_kind _ _).1 fun y hy h0=>by
    rcases hy with rfl | hy
    ·rcases(leave_own x.x z hz').2 with e | e
     ·exact h.own o x hx _ (Or.inl e) h0
     ·exact absurd e h0
    ·rcases(leave_zs x.x z hz' y hy).2 with e | e
     ·exact h.own o x hx _ (Or.inr e) h0
     ·exact absurd e h0
   obtain⟨r1,r2⟩:=serve_no hc hz o hn
   have hoo:NoO (k.setO o { x with x:=Ob.lT x.x z }) z o:=fun y hy=>by
    have hy':set1 k.os o (some { x with x:=Ob.lT x.x z }) o=some y:=hy
    rw [set1_at] at hy'
    obtain rfl:({ x with x:=Ob.lT x.x z }:Th)=y:=by simpa using hy'
    exact⟨(leave_own x.x z hz').1,fun hm=>(leave_zs x.x z hz' _ hm).1 rfl⟩
   refine⟨r1,r2 o hoo,fun p hp=>r2 p ?_⟩
   by_cases c:p=o
   ·subst c;exact hoo
   ·intro y hy
    have hy':set1 k.os o (some { x with x:=Ob.lT x.x z }) p=some y:=hy
    rw [set1_ne _ _ c] at hy'
    exact hp y hy'
  ·rename_i hb
   refine⟨hn,fun y hy=>?_,fun p hp=>hp⟩
   rw [hx] at hy
   obtain rfl:x=y:=by simpa using hy
   exact leave_no x.x z hz' (by simpa using hb)
theorem lets_no{g:Int}{D:Nat->Prop}{z:Nat}(hz:z≠0):∀ (l:List Nat) (k:Kn),Core k g D->NoH k z->NoH (l.foldl (letGo z) k) z/\(∀ o∈l,NoO (l.foldl (letGo z) k) z o)/\∀ p,NoO k z p->NoO (l.foldl (letGo z) k) z p
 | [],k,h,hn=>⟨hn,by simp,fun p hp=>hp⟩
 | o :: r,k,h,hn=>by
  obtain⟨a1,a2,a3⟩:=letGo_no h hz o hn
  obtain⟨b1,b2,b3⟩:=lets_no hz r _ (h.letGo hz o) a1
  refine⟨b1,fun p hp=>?_,fun p hp=>b3 p (a3 p hp)⟩
  rcases List.mem_cons.1 hp with rfl | hp
  ·exact b3 _ a2
  ·exact b2 p hp
theorem Core.letsAll{k:Kn}{D:Nat->Prop}{z:Nat}(h:Core k (z:Int) D)(hz:z≠0)(hn:NoH k z):Core (YtbbdndfibjdcfaaGreat.lets k z) 0 D/\∀ o,NoO (YtbbdndfibjdcfaaGreat.lets k z) z o:=by
 have hc:=h.lets hz
 obtain⟨_,h2,_⟩:=lets_no hz (List.range 32) k h hn
 have hno:∀ o,NoO (YtbbdndfibjdcfaaGreat.lets k z) z o:=fun o=>by
  by_cases c:o < 32
  ·exact h2 o (by simpa using c)
  ·intro x hx
   have:=(hc.hO o x hx).1
   omega
 refine⟨⟨hc.th,hc.oh,hc.thT,hc.ohO,hc.hT,hc.hO,hc.rdG,hc.rdT,hc.qG,hc.qT,hc.tOk,fun o x hx y hy h0=>?_⟩,hno⟩
 rcases hc.own o x hx y hy h0 with c | c
 ·exact Or.inl c
 ·obtain⟨p1,p2⟩:=hno o x hx
  rcases hy with rfl | hy
  ·exact absurd c p1
  ·rw [c] at hy;exact absurd hy p2
abbrev NoD:Nat->Prop:=fun _=>False
theorem place_ok{n:Nat}{s:Hd.Slots}(hg:Hd.Good n s){h:Nat}(he:Hd.placeE s h=0):Hd.placeP s h < n/\(s (Hd.placeP s h)).2=true/\h=Hd.hd s (Hd.placeP s h)/\h≠0/\Hd.placeP s h=h % 256:=by
 have hp:Hd.placeP s h=h % 256:=by unfold Hd.placeP;rw [if_pos he]
 rw [hp]
 unfold Hd.placeE at he
 split at he
 ·cases he
 ·rename_i h1
  split at he
  ·cases he
  ·rename_i h2
   have hu:(s (h % 256)).2=true:=by
    cases hb:(s (h % 256)).2 with
    | true=>rfl
    | false=>exact absurd (Or.inr hb) h2
   have hlt:h % 256 < n:=by
    rcases Nat.lt_or_ge (h % 256) n with c | c
    ·exact c
    ·rw [hg.over _ c] at hu;cases hu
   have hge:(s (h % 256)).1=h / 256:=by omega
   refine⟨hlt,hu,?_,by omega,rfl⟩
   unfold Hd.hd
   rw [hge]
   omega
theorem place_e(s:Hd.Slots)(h:Nat):0<=Hd.placeE s h/\Hd.placeE s h<=15:=by
 unfold Hd.placeE
 split
 ·omega
 ·split <;> omega
theorem make_ok{n:Nat}{s:Hd.Slots}(hg:Hd.Good n s)(he:Hd.makeE n s=0):Hd.fr n s < n/\(s (Hd.fr n s)).2=false/\Hd.makeS n s=Hd.upd s (Hd.fr n s) ((s (Hd.fr n s)).1+1,true)/\Hd.makeH n s=Hd.hd (Hd.makeS n s) (Hd.fr n s)/\Hd.Good n (Hd.makeS n s):=by
 have hlt:Hd.fr n s < n:=by
  unfold Hd.makeE at he
  split at he
  ·assumption
  ·cases he
 obtain⟨h1,h2⟩:=Hd.isFr_not (Hd.fr_yes hlt)
 have e1:Hd.makeS n s=Hd.upd s (Hd.fr n s) ((s (Hd.fr n s)).1+1,true):=by unfold Hd.makeS;rw [if_pos hlt]
 refine⟨hlt,h1,e1,?_,?_⟩
 ·unfold Hd.makeH Hd.hd
  rw [if_pos hlt,e1,Hd.upd_at]
 ·rw [e1]
  exact hg.upd hlt (by simp only;omega) (fun _=>by simp only;omega)
theorem drop_ok{n:Nat}{s:Hd.Slots}(hg:Hd.Good n s){h:Nat}(he:Hd.placeE s h=0):Hd.dropS s h=Hd.upd s (Hd.placeP s h) ((s (Hd.placeP s h)).1,false)/\Hd.Good n (Hd.dropS s h):=by
 obtain⟨h1,h2,h3,h4,h5⟩:=place_ok hg he
 have e:Hd.dropS s h=Hd.upd s (Hd.placeP s h) ((s (Hd.placeP s h)).1,false):=by unfold Hd.dropS;rw [if_pos he,h5]
 refine⟨e,?_⟩
 rw [e]
 exact hg.upd h1 (hg.top _) (fun c=>by cases c)
theorem hd_upd_ne{s:Hd.Slots}{i j:Nat}{x:Nat×Bool}(h:j≠i):Hd.hd (Hd.upd s i x) j=Hd.hd s j:=by
 unfold Hd.hd
 rw [Hd.upd_ne _ _ h]
theorem Core.apart{k:Kn}{g:Int}{D:Nat->Prop}(h:Core k g D){i j:Nat}{t u:Ta}(hi:k.ts i=some t)(hj:k.ts j=some u)(e:t.h=u.h):i=j:=by
 obtain⟨a1,a2⟩:=h.hT i t hi
 obtain⟨b1,b2⟩:=h.hT j u hj
 rw [a2,b2] at e
 unfold Hd.hd at e
 omega
theorem Core.hpos{k:Kn}{g:Int}{D:Nat->Prop}(h:Core k g D){i:Nat}{t:Ta}(hi:k.ts i=some t):t.h≠0:=by
 obtain⟨a1,a2⟩:=h.hT i t hi
 have hu:(k.th i).2=true:=by rw [h.thT i,hi];rfl
 have:=h.th.one i hu
 rw [a2]
 unfold Hd.hd
 omega
theorem Core.al{k:Kn}{g:Int}{D:Nat->Prop}(h:Core k g D)(a:List (Int×Int×Int)):Core { k with al:=a } g D:=⟨h.th,h.oh,h.thT,h.ohO,h.hT,h.hO,h.rdG,h.rdT,h.qG,h.qT,h.tOk,h.own⟩
theorem Core.now{k:Kn}{g:Int}{D:Nat->Prop}(h:Core k g D)(a:Int):Core { k with now:=a } g D:=⟨h.th,h.oh,h.thT,h.ohO,h.hT,h.hO,h.rdG,h.rdT,h.qG,h.qT,h.tOk,h.own⟩
theorem Core.born{k k':Kn}{g:Int}{D:Nat->Prop}(h:Core k g D){i:Nat}(hi:i < 16)(hn:k.ts i=none){t':Ta}{y:Nat×Bool}(e1:k'.th=Hd.upd k.th i y)(hy:y.2=true)(hg:Hd.Good 16 k'.th)(e2:k'.oh=k.oh)(e3:k'.ts=set1 k.ts i (some t'))(e4:k'.os=k.os)
  (e5:k'.rd=Rd.putX (Rd.rmX k.rd (i:Int)) (i:Int) t'.rank) (hh:t'.h=Hd.hd k'.th i) (hs:t'.st=1/\t'.held=false) (hok:TaOk k.os D i t'):Core k' g D:=by
 have hts:∀ j u,k'.ts j=some u->(j=i/\u=t')∨(j≠i/\k.ts j=some u):=fun j u hu=>by
  rw [e3] at hu
  by_cases e:j=i
  ·subst e;rw [set1_at] at hu;exact Or.inl ⟨rfl,by simpa using hu.symm⟩
  ·rw [set1_ne _ _ e] at hu;exact Or.inr ⟨e,hu⟩
 have hti:k'.ts i=some t':=by rw [e3,set1_at]
 have htj:∀ j u,k.ts j=some u->j≠i/\k'.ts j=some u:=fun j u hu=>by
  have e:j≠i:=by rintro rfl;rw [hn] at hu;cases hu
  exact⟨e,by rw [e3,set1_ne _ _ e];exact hu⟩
 refine⟨hg,by rw [e2];exact h.oh,fun j=>?_,fun o=>by rw [e2,e4];exact h.ohO o,fun j u hu=>?_,fun o x hx=>by rw [e4] at hx;rw [e2];exact h.hO o x hx,by rw [e5];exact h.good_join i _,fun z r hr=>?_,fun o x hx=>by rw [e4] at hx;exact h.qG o x hx,fun o x hx z=>?_,fun j u hu=>?_,fun o x hx z hz h0=>?_⟩
 ·rw [e1]
  by_cases e:j=i
  ·subst e;rw [Hd.upd_at,hti,hy];rfl
  ·rw [Hd.upd_ne _ _ e,h.thT j,e3,set1_ne _ _ e]
 ·rcases hts j u hu with⟨rfl,rfl⟩ |⟨hne,hj⟩
  ·exact⟨hi,hh⟩
  ·obtain⟨a,b⟩:=h.hT j u hj
   exact⟨a,by rw [e1,hd_upd_ne hne];exact b⟩
 ·rw [e5,rd_join h.rdG (by omega) hok.rank hr,h.rdT z r hr]
  constructor
  ·rintro (⟨⟨j,u,rfl,hj,hu⟩,_⟩ |⟨rfl,hk⟩)
   ·exact⟨j,u,rfl,(htj j u hj).2,hu⟩
   ·exact⟨i,t',rfl,hti,hs.1,hs.2,hk⟩
  ·rintro ⟨j,u,rfl,hj,hu⟩
   rcases hts j u hj with⟨rfl,rfl⟩ |⟨hne,hj⟩
   ·exact Or.inr ⟨rfl,hu.2.2⟩
   ·exact Or.inl ⟨⟨j,u,rfl,hj,hu⟩,by omega⟩
 ·rw [e4] at hx
  rw [h.qT o x hx z]
  constructor
  ·rintro ⟨j,u,hz,hj,hu⟩
   exact⟨j,u,hz,(htj j u hj).2,hu⟩
  ·rintro ⟨j,u,hz,hj,hu⟩
   rcases hts j u hj with⟨rfl,rfl⟩ |⟨hne,hj⟩
   ·rw [hs.1] at hu;exact absurd hu.1 (by decide)
   ·exact⟨j,u,hz,hj,hu⟩
 ·rw [e4]
  rcases hts j u hu with⟨rfl,rfl⟩ |⟨hne,hj⟩
  ·exact hok
  ·exact h.tOk j u hj
 ·rw [e4] at hx
  rcases h.own o x hx z hz h0 with⟨j,u,hj,hu⟩ | e
  ·exact Or.inl ⟨j,u,(htj j u hj).2,hu⟩
  ·exact Or.inr e
theorem Core.dead{k k':Kn}{D:Nat->Prop}(h:Core k 0 D){i:Nat}{t:Ta}(ht:k.ts i=some t){y:Nat×Bool}(e1:k'.th=Hd.upd k.th i y)(hy:y.2=false)(hg:Hd.Good 16 k'.th)(e2:k'.oh=k.oh)(e3:k'.ts=set1 k.ts i none)(e4:k'.os=unq k.os i t.on)
  (e5:k'.rd=Rd.rmX k.rd (i:Int)):Core k' (t.h:Int) D:=by
 have hts:∀ j u,k'.ts j=some u->j≠i/\k.ts j=some u:=fun j u hu=>by
  rw [e3] at hu
  by_cases e:j=i
  ·subst e;rw [set1_at] at hu;cases hu
  ·rw [set1_ne _ _ e] at hu;exact⟨e,hu⟩
 have htj:∀ j,j≠i->k'.ts j=k.ts j:=fun j hj=>by rw [e3,set1_ne _ _ hj]
 have e4':k'.os=rowsF k.os (fun o q=>if t.on=(o:Int) then Wt.gone q (i:Int) else q):=by rw [e4,unq_eq];rfl
 have hF:=h.rowsOut (t':={ t with st:=1 }) ht (by show(1:Int)≠2;decide)
 refine⟨hg,by rw [e2];exact h.oh,fun j=>?_,fun o=>?_,fun j u hu=>?_,fun o x hx=>?_,by rw [e5];exact h.rdG.rem _,fun z r hr=>?_,fun o x hx=>?_,fun o x hx z=>?_,fun j u hu=>?_,fun o x hx z hz h0=>?_⟩
 ·rw [e1]
  by_cases e:j=i
  ·subst e;rw [Hd.upd_at,hy,e3,set1_at];rfl
  ·rw [Hd.upd_ne _ _ e,h.thT j,htj j e]
 ·rw [e2,h.ohO o,e4']
  unfold rowsF
  cases k.os o <;> rfl
 ·obtain⟨hne,hj⟩:=hts j u hu
  obtain⟨a,b⟩:=h.hT j u hj
  exact⟨a,by rw [e1,hd_upd_ne hne];exact b⟩
 ·rw [e4'] at hx
  obtain⟨y,hy,rfl⟩:=rowsF_some hx
  rw [e2];exact h.hO o y hy
 ·rw [e5,rd_rm h.rdG _ _ hr,h.rdT z r hr]
  constructor
  ·rintro ⟨⟨j,u,rfl,hj,hu⟩,hne⟩
   exact⟨j,u,rfl,by rw [htj j (by rintro rfl;exact hne rfl)];exact hj,hu⟩
  ·rintro ⟨j,u,rfl,hj,hu⟩
   obtain⟨hne,hj⟩:=hts j u hj
   exact⟨⟨j,u,rfl,hj,hu⟩,by omega⟩
 ·rw [e4'] at hx
  obtain⟨y,hy,rfl⟩:=rowsF_some hx
  obtain⟨a,b,_⟩:=hF o y hy
  exact⟨a,b⟩
 ·rw [e4'] at hx
  obtain⟨y,hy,rfl⟩:=rowsF_some hx
  have:=(hF o y hy).2.2 z
  simp only at this ⊢
  rw [this,h.qT o y hy z]
  constructor
  ·rintro (⟨⟨j,u,hz,hj,hu⟩,hne⟩ |⟨_,c,_⟩)
   ·exact⟨j,u,hz,by rw [htj j (by rintro rfl;exact hne hz)];exact hj,hu⟩
   ·cases c
  ·rintro ⟨j,u,hz,hj,hu⟩
   obtain⟨hne,hj⟩:=hts j u hj
   exact Or.inl ⟨⟨j,u,hz,hj,hu⟩,by omega⟩
 ·obtain⟨hne,hj⟩:=hts j u hu
  exact(h.tOk j u hj).rows fun o x hx=>⟨{ x with q:=if t.on=(o:Int) then Wt.gone x.q (i:Int) else x.q },by rw [e4'];exact rowsF_of (F:=fun o q=>if t.on=(o:Int) then Wt.gone q (i:Int) else q) hx,rfl,rfl⟩
 ·rw [e4'] at hx
  obtain⟨y,hy,rfl⟩:=rowsF_some hx
  rcases h.own o y hy z hz h0 with⟨j,u,hj,hu,h3⟩ | e
  ·by_cases c:j=i
   ·subst c
    rw [ht] at hj
    obtain rfl:t=u:=by simpa using hj
    exact Or.inr hu.symm
   ·exact Or.inl ⟨j,u,by rw [htj j c];exact hj,hu,h3⟩
  ·exact absurd e h0
theorem Core.taskK{k:Kn}(h:Core k 0 NoD)(r:Int):Core (taskK k r).2.2 0 NoD:=by
 unfold YtbbdndfibjdcfaaGreat.taskK
 split
 ·exact h
 ·rename_i hr
  split
  ·exact h
  ·rename_i he
   obtain⟨a1,a2,a3,a4,a5⟩:=make_ok h.th (by simpa using he)
   have hn:k.ts (Hd.fr 16 k.th)=none:=by
    have:=h.thT (Hd.fr 16 k.th)
    rw [a2] at this
    simpa using this.symm
   refine Core.anew ?_
   unfold YtbbdndfibjdcfaaGreat.join
   simp only [set1_at,set1_set1]
   refine h.born a1 hn (y:=((k.th (Hd.fr 16 k.th)).1+1,true)) a3 rfl a5 rfl rfl rfl rfl a4 ⟨rfl,rfl⟩ ⟨Or.inl rfl,by simp only;omega,by simp only;omega,by simp,by simp,fun c=>(by cases c),fun c=>(by cases c),fun _=>⟨rfl,rfl,rfl,rfl,rfl,rfl,rfl⟩⟩
theorem Core.task_at{k:Kn}{g:Int}{D:Nat->Prop}(h:Core k g D){z:Nat}(he:Hd.placeE k.th z=0):∃ t,k.ts (Hd.placeP k.th z)=some t/\t.h=z/\z≠0:=by
 obtain⟨a1,a2,a3,a4,_⟩:=place_ok h.th he
 have:=h.thT (Hd.placeP k.th z)
 rw [a2] at this
 obtain⟨t,ht⟩:=Option.isSome_iff_exists.1 this.symm
 exact⟨t,ht,by rw [(h.hT _ t ht).2];exact a3.symm,a4⟩
theorem Core.endK{k:Kn}(h:Core k 0 NoD)(z:Nat):Core (endK k z).2 0 NoD:=by
 unfold YtbbdndfibjdcfaaGreat.endK
 split
 ·exact h
 ·rename_i he
  have he':Hd.placeE k.th z=0:=by simpa using he
  obtain⟨t,ht,hz,h0⟩:=h.task_at he'
  obtain⟨b1,b2⟩:=drop_ok h.th he'
  refine Core.anew ?_
  have hl:leaves k (Hd.placeP k.th z)={ k with os:=unq k.os (Hd.placeP k.th z) t.on,ts:=set1 k.ts (Hd.placeP k.th z) (some t.idle) }:=by unfold leaves;rw [ht]
  simp only [hl,set1_set1]
  have hd:=h.dead (k':={ k with os:=unq k.os (Hd.placeP k.th z) t.on,ts:=set1 k.ts (Hd.placeP k.th z) none,rd:=Rd.rmX k.rd ((Hd.placeP k.th z:Nat):Int),th:=Hd.dropS k.th z }) ht (y:=((k.th (Hd.placeP k.th z)).1,false)) b1 rfl b2 rfl rfl rfl rfl
  rw [hz] at hd
  refine(hd.letsAll h0 fun j u hj hs e=>?_).1
  have hj':set1 k.ts (Hd.placeP k.th z) none j=some u:=hj
  by_cases c:j=Hd.placeP k.th z
  ·rw [c,set1_at] at hj';cases hj'
  ·rw [set1_ne _ _ c] at hj'
   exact c (h.apart hj' ht (by rw [e,hz]))
theorem TaOk.but{os:Nat->Option Th}{D:Nat->Prop}{i:Nat}{t:Ta}(h:TaOk os D i t)(t':Ta)(a1:t'.st=t.st)(a2:0<=t'.base/\t'.base<=31)(a3:t'.rank=t.rank)(a4:t'.ans=t.ans)(a5:t'.last=t.last)(a6:t'.on=t.on)(a7:t'.wh=t.wh)(a8:t'.ah=t.ah)(a9:t'.av=t.av)(a10:t'.am=t.am)(a11:t'.aw=t.aw)(a12:t'.left=t.left):TaOk os D i t' :=
 ⟨by rw [a1];exact h.st,a2,by rw [a3];exact h.rank,by rw [a4];exact h.ans,by rw [a5];exact h.last,by rw [a1,a6,a7,a8];exact h.on,by rw [a1,a7,a11,a12];exact h.ask,by rw [a1,a6,a7,a8,a9,a10,a11,a12];exact h.idle⟩
theorem Core.based{k:Kn}{g:Int}{D:Nat->Prop}(h:Core k g D){i:Nat}{t:Ta}(ht:k.ts i=some t){r:Int}(hr:0<=r/\r<=31):Core (k.setT i { t with base:=r }) g D :=
 h.one (t':={ t with base:=r }) ht (fun _ q=>q) rfl rfl rfl (rowsF_id _).symm rfl h.rdG (h.rdSame (t':={ t with base:=r }) ht Iff.rfl (fun _ _=>rfl)) (h.rowsId (t':={ t with base:=r }) ht Iff.rfl rfl rfl) ((h.tOk i t ht).but _ rfl hr rfl rfl rfl rfl rfl rfl rfl rfl rfl rfl) (fun c=>Or.inl c)
theorem Core.thingBorn{k k':Kn}{g:Int}{D:Nat->Prop}(h:Core k g D){o:Nat}(ho:o < 32)(hn:k.os o=none){x:Th}{y:Nat×Bool}(e1:k'.oh=Hd.upd k.oh o y)(hy:y.2=true)(hg:Hd.Good 32 k'.oh)(e2:k'.th=k.th)(e3:k'.os=set1 k.os o (some x))(e4:k'.ts=k.ts)(e5:k'.rd=k.rd)
  (hh:x.h=Hd.hd k'.oh o) (hq:x.q=[]) (hx:x.x.o=0/\∀ z∈x.x.zs,z=0):Core k' g D:=by
 have hos:∀ p y,k'.os p=some y->(p=o/\y=x)∨(p≠o/\k.os p=some y):=fun p y hy=>by
  rw [e3] at hy
  by_cases e:p=o
  ·subst e;rw [set1_at] at hy;exact Or.inl ⟨rfl,by simpa using hy.symm⟩
  ·rw [set1_ne _ _ e] at hy;exact Or.inr ⟨e,hy⟩
 have hop:∀ p y,k.os p=some y->k'.os p=some y:=fun p y hy=>by
  have e:p≠o:=by rintro rfl;rw [hn] at hy;cases hy
  rw [e3,set1_ne _ _ e];exact hy
 refine⟨by rw [e2];exact h.th,hg,fun j=>by rw [e2,e4];exact h.thT j,fun p=>?_,fun i t ht=>by rw [e4] at ht;rw [e2];exact h.hT i t ht,fun p y hy=>?_,by rw [e5];exact h.rdG,fun z r hr=>by rw [e5,e4];exact h.rdT z r hr,fun p y hy=>?_,fun p y hy z=>?_,fun i t ht=>?_,fun p y hy z hz h0=>?_⟩
 ·rw [e1]
  by_cases e:p=o
  ·subst e;rw [Hd.upd_at,hy,e3,set1_at];rfl
  ·rw [Hd.upd_ne _ _ e,h.ohO p,e3,set1_ne _ _ e]
 ·rcases hos p y hy with⟨rfl,rfl⟩ |⟨hne,hy⟩
  ·exact⟨ho,hh⟩
  ·obtain⟨a,b⟩:=h.hO p y hy
   exact⟨a,by rw [e1,hd_upd_ne hne];exact b⟩
 ·rcases hos p y hy with⟨rfl,rfl⟩ |⟨hne,hy⟩
  ·rw [hq];exact⟨Wt.Good.nil,Dn.nil⟩
  ·exact h.qG p y hy
 ·rw [e4]
  rcases hos p y hy with⟨rfl,rfl⟩ |⟨hne,hy⟩
  ·rw [hq]
   refine⟨fun c=>by simp at c,?_⟩
   rintro ⟨i,t,_,ht,hs,hon,_⟩
   rcases(h.tOk i t ht).on hs with⟨_,c⟩ |⟨_,o',x',c1,c2,_⟩
   ·omega
   ·obtain rfl:o'=p:=by omega
    rw [hn] at c2;cases c2
  ·exact h.qT p y hy z
 ·rw [e4] at ht
  exact(h.tOk i t ht).rows fun p y hy=>⟨y,hop p y hy,rfl,rfl⟩
 ·have hl:∀ w,Live k w->Live k' w:=fun w ⟨i,t,ht,hu⟩=>⟨i,t,by rw [e4];exact ht,hu⟩
  rcases hos p y hy with⟨rfl,rfl⟩ |⟨hne,hy⟩
  ·rcases hz with rfl | hz
   ·exact absurd hx.1 h0
   ·exact absurd (hx.2 z hz) h0
  ·exact(h.own p y hy z hz h0).imp (hl z) id
theorem Core.thing_at{k:Kn}{g:Int}{D:Nat->Prop}(h:Core k g D){z:Nat}(he:Hd.placeE k.oh z=0):∃ x,k.os (Hd.placeP k.oh z)=some x/\x.h=z/\z≠0:=by
 obtain⟨a1,a2,a3,a4,_⟩:=place_ok h.oh he
 have:=h.ohO (Hd.placeP k.oh z)
 rw [a2] at this
 obtain⟨x,hx⟩:=Option.isSome_iff_exists.1 this.symm
 exact⟨x,hx,by rw [(h.hO _ x hx).2];exact a3.symm,a4⟩
theorem answer_st{k:Kn}{i:Nat}(e v:Int):∀ u,(answer k i e v).ts i=some u->u.st≠2:=fun u hu=>by
 cases ht:k.ts i with
 | none =>
  have:answer k i e v=k:=by unfold answer;rw [ht]
  rw [this,ht] at hu;cases hu
 | some t =>
  rw [answer_ts ht,set1_at] at hu
  obtain rfl:t.done e v=u:=by simpa using hu
  rw [(done_keep t e v).2.2.2.2.2.2]
  split
  ·decide
  ·assumption
theorem putq_eq(os:Nat->Option Th)(i:Nat)(on r:Int):(if 0<=on then match os on.toNat with | some x=>set1 os on.toNat (some { x with q:=Wt.putL x.q (i:Int) r }) | none=>os else os)=rowsF os (fun o q=>if on=(o:Int) then Wt.putL q (i:Int) r else q):=by
 funext o
 unfold rowsF
 split
 ·rename_i h0
  cases h:os on.toNat with
  | none =>
   simp only
   cases ho:os o with
   | none=>rfl
   | some x =>
    have:¬ on=(o:Int):=fun e=>by subst e;simp at h;rw [ho] at h;cases h
    simp [this]
  | some x =>
   simp only
   by_cases e:o=on.toNat
   ·subst e
    have:on=((on.toNat:Nat):Int):=by omega
    rw [set1_at,h]
    simp only [Option.map_some]
    rw [if_pos this]
   ·rw [set1_ne _ _ e]
    have:¬ on=(o:Int):=by omega
    cases ho:os o with
    | none=>rfl
    | some y=>simp [this]
 ·rename_i h0
  have:∀ o:Nat,¬ on=(o:Int):=fun o=>by omega
  cases ho:os o with
  | none=>rfl
  | some y=>simp [this o]
theorem Core.sleeps{k:Kn}{g:Int}{D:Nat->Prop}(h:Core k g D){i:Nat}{t:Ta}(ht:k.ts i=some t)(hs:t.st=1){on:Int}{a:Aq}(hm:Ob.Tk.MayW a.wh)(h0:a.aw≠0)(h1:a.aw<=1073741824)
  (ho:(a.wh=2/\on=-1)∨(a.wh≠2/\∃ (o:Nat) (x:Th),on=(o:Int)/\k.os o=some x/\a.ah=x.h/\Ob.Tk.fitB a.wh x.x.k=true)):Core (sleeps k i t on a) g D:=by
 have hok:=h.tOk i t ht
 refine h.one (t':={ t with st:=2,wh:=a.wh,ah:=a.ah,av:=a.av,am:=a.am,aw:=a.aw,left:=if a.aw < 0 then -1 else a.aw,on:=on,since:=k.wc }) ht (fun o q=>if on=(o:Int) then Wt.putL q (i:Int) t.rank else q) rfl rfl rfl (putq_eq _ _ _ _) rfl (h.rdG.rem _) (h.rdOut (t':={ t with st:=2,wh:=a.wh,ah:=a.ah,av:=a.av,am:=a.am,aw:=a.aw,left:=if a.aw < 0 then -1 else a.aw,on:=on,since:=k.wc }) (fun c=>by cases c.1)) (fun o x hx=>?_) ?_ (fun _=>Or.inl (by show(2:Int)≠3;decide))
 ·obtain⟨hG,hD⟩:=h.qG o x hx
  have hout:∀ y∈x.q,y.1≠(i:Int):=fun y hy=>h.out ht hx (Or.inl (by rw [hs];decide)) hy
  split
  ·rename_i hon
   obtain⟨b1,b2,b3⟩:=q_put hG hD (who:=(i:Int)) (r:=t.rank) (by omega) hok.rank (Wt.has_no.2 hout)
   refine⟨b1,b2,fun y=>?_⟩
   rw [b3 y]
   constructor
   ·rintro (c | rfl)
    ·exact Or.inl ⟨c,hout y c⟩
    ·exact Or.inr ⟨rfl,rfl,hon,rfl⟩
   ·rintro (c |⟨c1,_,_,c4⟩)
    ·exact Or.inl c.1
    ·exact Or.inr (Prod.ext c1 c4)
  ·rename_i hon
   exact⟨hG,hD,fun y=>⟨fun hy=>Or.inl ⟨hy,hout y hy⟩,fun c=>c.elim (fun c=>c.1) fun c=>absurd c.2.2.1 hon⟩⟩
 ·refine⟨Or.inr (Or.inl rfl),hok.base,hok.rank,hok.ans,hok.last,fun _=>ho,fun _=>⟨hm,h0,h1,Or.inl ?_⟩,fun c=>absurd rfl c⟩
  show Ob.Tk.LeftOk (if a.aw < 0 then -1 else a.aw) a.aw
  unfold Ob.Tk.LeftOk
  clear ho hm hok
  by_cases c:a.aw < 0
  ·rw [if_pos c];exact Or.inl ⟨c,by decide⟩
  ·rw [if_neg c];exact Or.inr ⟨by omega,by omega,Int.le_refl _⟩
theorem Core.first{k:Kn}{g:Int}{D:Nat->Prop}(h:Core k g D)(hb:Rd.fsb k.rd=true):∃ (t:Ta) (r:Nat),r < 32/\Rd.tp k.rd=some r/\Rd.fsv k.rd=(((Rd.fsv k.rd).toNat:Nat):Int)/\k.ts (Rd.fsv k.rd).toNat=some t/\t.st=1/\t.held=false/\t.rank=(r:Int)/\(k.rd r).head?=some (Rd.fsv k.rd):=by
 unfold Rd.fsb at hb
 obtain⟨r,hr⟩:=Option.isSome_iff_exists.1 hb
 have h1:=List.find?_some hr
 have h2:=List.mem_of_find?_eq_some hr
 have hlt:r < 32:=by simpa using h2
 have hne:k.rd r≠[]:=by simpa using h1
 have hv:Rd.fsv k.rd=(k.rd r).headD 0:=by unfold Rd.fsv;rw [hr]
 cases hc:k.rd r with
 | nil=>exact absurd hc hne
 | cons a l =>
  have ha:Rd.fsv k.rd=a:=by rw [hv,hc];rfl
  obtain⟨i,t,e1,e2,e3,e4,e5⟩:=(h.rdT a r hlt).1 (by rw [hc];simp)
  subst e1
  refine⟨t,r,hlt,hr,by rw [ha];simp,by rw [ha];simpa using e2,e3,e4,e5,?_⟩
  rw [ha,hc];rfl
def AskOk(i:Nat)(r:Bool×Int×Int×Kn):Prop:=Core r.2.2.2 0 NoD/\(r.1=true->(0<=r.2.2.1/\r.2.2.1<=15)/\∃ t',r.2.2.2.ts i=some t'/\t'.st=1/\t'.held=false)
theorem AskOk.ite{i:Nat}{c:Prop}{d:Decidable c}{a b:Bool×Int×Int×Kn}(ha:c->AskOk i a)(hb:¬ c->AskOk i b):AskOk i (@ite _ c d a b):=by
 split
 ·exact ha (by assumption)
 ·exact hb (by assumption)
theorem ask1_ok{k:Kn}(h:Core k 0 NoD){i:Nat}{t:Ta}(ht:k.ts i=some t)(hs:t.st=1)(hd:t.held=false)(a:Aq):AskOk i (ask1 k i t a):=by
 have same:∀ (v e:Int),0<=e/\e<=15->AskOk i (true,v,e,k):=fun v e he=>⟨h,fun _=>⟨he,t,ht,hs,hd⟩⟩
 unfold ask1
 refine AskOk.ite (fun _=>same 0 0 (by omega)) fun _=>AskOk.ite (fun _=>same k.now 0 (by omega)) fun _=>AskOk.ite (fun _=>AskOk.ite (fun _=>same 0 4 (by omega)) fun hv=>⟨h.based ht (by omega),fun _=>⟨⟨Int.le_refl _,by show(0:Int)<=15;decide⟩,{ t with base:=(a.av:Int) },set1_at _ _ _,hs,hd⟩⟩) fun _=>AskOk.ite (fun hw=>AskOk.ite (fun _=>same 0 4 (by omega)) fun hr=>AskOk.ite (fun _=>same 0 0 (by omega)) fun h0=>⟨h.sleeps ht hs (by rw [hw];exact Or.inl rfl) h0 (by omega) (Or.inl ⟨hw,rfl⟩),fun c=>by cases c⟩) fun hw2=>AskOk.ite (fun _=>same 0 _ (place_e _ _)) fun he=>?_
 obtain⟨x,hx,hxz,_⟩:=h.thing_at (z:=a.ah) (Classical.byContradiction he)
 show AskOk i (match k.os (Hd.placeP k.oh a.ah) with | none=>_ | some x=>_)
 rw [hx]
 dsimp only
 refine AskOk.ite (fun _=>same 0 1 (by omega)) fun hfit=>AskOk.ite (fun _=>⟨h.al _,fun _=>⟨start_e ((Hd.placeP k.oh a.ah:Nat):Int) (a.av:Int) (a.am:Int),t,ht,hs,hd⟩⟩) fun _=>AskOk.ite (fun _=>⟨h.al _,fun _=>⟨stop_e k.al ((Hd.placeP k.oh a.ah:Nat):Int),t,ht,hs,hd⟩⟩) fun _=>AskOk.ite (fun _=>same 0 4 (by omega)) fun hblk=>AskOk.ite (fun h7=>?_) fun h7=>?_
 ·have hlive:Live k (t.h:Int):=⟨i,t,ht,rfl,by rw [hs];decide⟩
  refine⟨h.thing hx (try_kind x.x t.h a.wh a.av a.am).1 fun z hz h0=>?_,fun _=>⟨try_e x.x t.h a.wh a.av a.am,t,ht,hs,hd⟩⟩
  rcases hz with rfl | hz
  ·rcases try_own x.x t.h a.wh a.av a.am with e | e | e
   ·exact h.own _ x hx _ (Or.inl e) h0
   ·exact Or.inl (by rw [e.2];exact hlive)
   ·exact absurd e h0
  ·rcases try_zs x.x t.h a.wh a.av a.am z hz with e | e | e
   ·exact h.own _ x hx _ (Or.inr e) h0
   ·exact Or.inl (by rw [e.2];exact hlive)
   ·exact absurd e h0
 ·have h7':(Ob.tA x.x t.h a.wh a.av a.am).2.1=7:=Classical.byContradiction fun c=>h7 c
  obtain⟨m1,m2⟩:=try_wait x.x t.h a.wh a.av a.am h7'
  refine AskOk.ite (fun _=>same 0 _ ?_) fun haw=>AskOk.ite (fun _=>same 0 7 (by omega)) fun _=>⟨h.sleeps ht hs m1 haw ?_ (Or.inr ⟨m2,_,x,rfl,hx,hxz.symm,?_⟩),fun c=>by cases c⟩
  ·split
   ·omega
   ·split <;> omega
  ·rcases Int.lt_or_le 1073741824 a.aw with c | c
   ·exact absurd ⟨(blk_iff _ _).2 ⟨m1,haw⟩,c⟩ hblk
   ·exact c
  ·cases hf:Ob.Tk.fitB a.wh x.x.k with
   | true=>rfl
   | false=>exact absurd (Or.inl hf) hfit
theorem Core.ran{k:Kn}{g:Int}{D:Nat->Prop}(h:Core k g D){i:Nat}{t:Ta}(ht:k.ts i=some t)(n:Int):Core (k.setT i { t with ran:=n }) g D :=
 h.one (t':={ t with ran:=n }) ht (fun _ q=>q) rfl rfl rfl (rowsF_id _).symm rfl h.rdG (h.rdSame (t':={ t with ran:=n }) ht Iff.rfl (fun _ _=>rfl)) (h.rowsId (t':={ t with ran:=n }) ht Iff.rfl rfl rfl) ((h.tOk i t ht).but _ rfl (h.tOk i t ht).base rfl rfl rfl rfl rfl rfl rfl rfl rfl rfl) (fun c=>Or.inl c)
theorem Core.slice1{k:Kn}(h:Core k 0 NoD):Core (slice1 k) 0 NoD:=by
 unfold YtbbdndfibjdcfaaGreat.slice1
 split
 ·rename_i hb
  obtain⟨t,r,_,_,_,ht,hs,hd,_,_⟩:=h.first hb
  simp only [ht]
  have h1:=h.ran ht (t.ran+1)
  split
  ·exact h1.join (t:={ t with ran:=t.ran+1 }) (set1_at _ _ _) hs hd
  ·exact h1
 ·exact h
theorem downs_t{k:Kn}{j:Nat}{u:Ta}(h:(downs k).ts j=some u):∃ t,k.ts j=some t/\u=if 0 < t.left/\j < 16 then { t with left:=t.left - 1 } else t:=by
 unfold downs at h
 simp only at h
 cases ht:k.ts j with
 | none=>rw [ht] at h;cases h
 | some t=>rw [ht] at h;exact⟨t,rfl,by simpa using h.symm⟩
theorem downs_s{k:Kn}{j:Nat}{t:Ta}(h:k.ts j=some t):∃ u,(downs k).ts j=some u/\u=if 0 < t.left/\j < 16 then { t with left:=t.left - 1 } else t:=by
 unfold downs
 simp only [h]
 exact⟨_,rfl,rfl⟩
theorem downs_keep(t:Ta)(j:Nat):(if 0 < t.left/\j < 16 then { t with left:=t.left - 1 } else t).h=t.h/\(if 0 < t.left/\j < 16 then { t with left:=t.left - 1 } else t).st=t.st/\(if 0 < t.left/\j < 16 then { t with left:=t.left - 1 } else t).held=t.held/\(if 0 < t.left/\j < 16 then { t with left:=t.left - 1 } else t).rank=t.rank/\(if 0 < t.left/\j < 16 then { t with left:=t.left - 1 } else t).on=t.on:=by
 split <;> exact⟨rfl,rfl,rfl,rfl,rfl⟩
theorem Core.downs{k:Kn}(h:Core k 0 NoD):Core (downs k) 0 (fun i=>∃ t,k.ts i=some t/\t.left=1):=by
 refine⟨h.th,h.oh,fun j=>?_,h.ohO,fun j u hu=>?_,h.hO,h.rdG,fun z r hr=>?_,h.qG,fun o x hx y=>?_,fun j u hu=>?_,fun o x hx z hz h0=>?_⟩
 ·show(k.th j).2=((YtbbdndfibjdcfaaGreat.downs k).ts j).isSome
  rw [h.thT j]
  unfold YtbbdndfibjdcfaaGreat.downs
  simp
 ·obtain⟨t,ht,rfl⟩:=downs_t hu
  rw [(downs_keep t j).1]
  exact h.hT j t ht
 ·show z∈k.rd r↔_
  rw [h.rdT z r hr]
  constructor
  ·rintro ⟨j,t,e,ht,a,b,c⟩
   obtain⟨u,hu,rfl⟩:=downs_s ht
   obtain⟨_,k2,k3,k4,_⟩:=downs_keep t j
   exact⟨j,_,e,hu,by rw [k2];exact a,by rw [k3];exact b,by rw [k4];exact c⟩
  ·rintro ⟨j,u,e,hu,a,b,c⟩
   obtain⟨t,ht,rfl⟩:=downs_t hu
   obtain⟨_,k2,k3,k4,_⟩:=downs_keep t j
   exact⟨j,t,e,ht,by rw [←k2];exact a,by rw [←k3];exact b,by rw [←k4];exact c⟩
 ·rw [h.qT o x hx y]
  constructor
  ·rintro ⟨j,t,e,ht,a,b,c⟩
   obtain⟨u,hu,rfl⟩:=downs_s ht
   obtain⟨_,k2,_,k4,k5⟩:=downs_keep t j
   exact⟨j,_,e,hu,by rw [k2];exact a,by rw [k5];exact b,by rw [k4];exact c⟩
  ·rintro ⟨j,u,e,hu,a,b,c⟩
   obtain⟨t,ht,rfl⟩:=downs_t hu
   obtain⟨_,k2,_,k4,k5⟩:=downs_keep t j
   exact⟨j,t,e,ht,by rw [←k2];exact a,by rw [←k5];exact b,by rw [←k4];exact c⟩
 ·obtain⟨t,ht,rfl⟩:=downs_t hu
  have hok:=h.tOk j t ht
  have hj:=(h.hT j t ht).1
  by_cases c:0 < t.left/\j < 16
  ·rw [if_pos c]
   refine⟨hok.st,hok.base,hok.rank,hok.ans,hok.last,hok.on,fun hs=>?_,fun hs=>?_⟩
   ·obtain⟨m1,m2,m3,m4⟩:=hok.ask hs
    refine⟨m1,m2,m3,?_⟩
    rcases m4 with m4 | m4
    ·by_cases h1:t.left=1
     ·exact Or.inr ⟨t,ht,h1⟩
     ·left
      show Ob.Tk.LeftOk (t.left - 1) t.aw
      unfold Ob.Tk.LeftOk at m4 ⊢
      omega
    ·exact m4.elim
   ·have:=(hok.idle hs).2.2.2.2.2.2
    omega
  ·rw [if_neg c]
   exact⟨hok.st,hok.base,hok.rank,hok.ans,hok.last,hok.on,fun hs=>by obtain⟨m1,m2,m3,m4⟩:=hok.ask hs;exact⟨m1,m2,m3,m4.imp id (fun c=>c.elim)⟩,hok.idle⟩
 ·refine(h.own o x hx z hz h0).imp (fun⟨j,t,ht,hh,hs⟩=>?_) id
  obtain⟨u,hu,rfl⟩:=downs_s ht
  obtain⟨k1,k2,_⟩:=downs_keep t j
  exact⟨j,_,hu,by rw [k1];exact hh,by rw [k2];exact hs⟩
theorem turn1_t{l:List Int}{k:Kn}{i j:Nat}{u:Ta}(h:(turn1 l k i).ts j=some u):∃ t,k.ts j=some t/\u={ t with rank:=u.rank,ran:=u.ran }:=by
 unfold turn1 at h
 cases ht:k.ts i with
 | none=>rw [ht] at h;exact⟨u,h,rfl⟩
 | some t =>
  rw [ht] at h
  simp only at h
  split at h
  ·exact⟨u,h,rfl⟩
  ·by_cases e:j=i
   ·subst e
    refine⟨t,ht,?_⟩
    split at h
    ·unfold join at h
     simp only [set1_at,set1_set1] at h
     obtain rfl:_=u:=by simpa using h
     rfl
    ·simp only [set1_at] at h
     obtain rfl:_=u:=by simpa using h
     rfl
   ·split at h
    ·unfold join at h
     simp only [set1_at,set1_set1,set1_ne _ _ e] at h
     exact⟨u,h,rfl⟩
    ·simp only [set1_ne _ _ e] at h
     exact⟨u,h,rfl⟩
theorem turns_t{l:List Int}{j:Nat}{u:Ta}:∀ (is:List Nat) (k:Kn),(is.foldl (turn1 l) k).ts j=some u->∃ t,k.ts j=some t/\u={ t with rank:=u.rank,ran:=u.ran }
 | [],k,h=>⟨u,h,rfl⟩
 | i :: r,k,h=>by
  obtain⟨t,h1,h2⟩:=turns_t r (turn1 l k i) h
  obtain⟨t0,h3,h4⟩:=turn1_t h1
  exact⟨t0,h3,by rw [h2,h4]⟩
theorem anew_t{k:Kn}{j:Nat}{u:Ta}(h:(anew k).ts j=some u):∃ t,k.ts j=some t/\u={ t with rank:=u.rank,ran:=u.ran }:=turns_t _ _ h
def Waited(k k':Kn):Prop:=∀ j u,k'.ts j=some u->u.st=2->∃ t,k.ts j=some t/\t.st=2
theorem Waited.refl(k:Kn):Waited k k:=fun j u h hs=>⟨u,h,hs⟩
theorem Waited.trans{a b c:Kn}(h:Waited a b)(k:Waited b c):Waited a c:=fun j u hu hs=>by
 obtain⟨t,ht,hs'⟩:=k j u hu hs
 exact h j t ht hs'
theorem waited_answer(k:Kn)(i:Nat)(e v:Int):Waited k (answer k i e v):=fun j u hu hs=>by
 obtain⟨t,a,_,c⟩:=answer_t e v hu
 exact⟨t,a,(c hs).1⟩
theorem waited_anew(k:Kn):Waited k (anew k):=fun j u hu hs=>by
 obtain⟨t,a,b⟩:=anew_t hu
 refine⟨t,a,?_⟩
 rw [b] at hs
 exact hs
noncomputable def over1(k:Kn)(i:Nat):Kn:=anew (match k.ts i with | some t=>answer k i (if t.wh=2 then 0 else 8) 0 | none=>k)
theorem overs_eq(k:Kn)(l:List Nat):overs k l=l.foldl over1 k:=rfl
theorem Core.over1{k:Kn}{g:Int}{D:Nat->Prop}(h:Core k g D)(i:Nat):Core (over1 k i) g D:=by
 unfold YtbbdndfibjdcfaaGreat.over1
 refine Core.anew ?_
 cases ht:k.ts i with
 | none=>exact h
 | some t=>exact h.answer ht (by split <;> omega)
theorem waited_over1(k:Kn)(i:Nat):Waited k (over1 k i):=by
 unfold over1
 refine Waited.trans ?_ (waited_anew _)
 cases ht:k.ts i with
 | none=>exact Waited.refl k
 | some t=>exact waited_answer k i _ _
theorem over1_st(k:Kn)(i:Nat):∀ u,(over1 k i).ts i=some u->u.st≠2:=fun u hu hs=>by
 unfold over1 at hu
 obtain⟨t,a,b⟩:=anew_t hu
 have ht2:t.st=2:=by rw [b] at hs;exact hs
 cases ht:k.ts i with
 | none=>rw [ht] at a;simp only at a;rw [ht] at a;cases a
 | some t0 =>
  rw [ht] at a
  exact answer_st _ _ t a ht2
theorem overs_ok:∀ (l:List Nat) (k:Kn) (D:Nat->Prop),Core k 0 D->Core (l.foldl over1 k) 0 D/\Waited k (l.foldl over1 k)/\∀ i∈l,∀ u,(l.foldl over1 k).ts i=some u->u.st≠2
 | [],k,D,h=>⟨h,Waited.refl k,by simp⟩
 | i :: r,k,D,h=>by
  obtain⟨a1,a2,a3⟩:=overs_ok r (over1 k i) D (h.over1 i)
  refine⟨a1,(waited_over1 k i).trans a2,fun j hj u hu hs=>?_⟩
  rcases List.mem_cons.1 hj with rfl | hj
  ·obtain⟨t,ht,hs'⟩:=a2 _ u hu hs
   exact over1_st k _ t ht hs'
  ·exact a3 j hj u hu hs
theorem insS_perm(k:Kn):∀ (l:List Nat) (i:Nat),(insS k l i).Perm (i :: l)
 | [],i=>List.Perm.refl _
 | j :: r,i=>by
  unfold insS
  split
  ·exact((insS_perm k r i).cons j).trans (List.Perm.swap i j r)
  ·exact List.Perm.refl _
theorem insS_fold(k:Kn):∀ (l a:List Nat),(l.foldl (insS k) a).Perm (a ++ l)
 | [],a=>by simp
 | i :: r,a=>by
  refine(insS_fold k r (insS k a i)).trans ?_
  have:=(insS_perm k a i).append_right r
  refine this.trans ?_
  exact(List.perm_middle (a:=i) (l₁:=a) (l₂:=r)).symm
theorem dueT_mem{k:Kn}{i:Nat}:i∈dueT k↔i < 16/\∃ t,k.ts i=some t/\t.left=1:=by
 unfold dueT
 rw [(insS_fold k _ []).mem_iff,List.nil_append,List.mem_filter,List.mem_range]
 refine and_congr Iff.rfl ?_
 cases k.ts i with
 | none=>simp
 | some t=>simp
theorem lst_more{bs ws:List Int}(hr:∀ i,i < bs.length->0<=bs.getD i 0/\bs.getD i 0<=31)(hl:bs.length=ws.length)(hp:Hr.Plc ws):∀ (n:Nat) (l:List Int),Hr.Mid bs ws l->Hr.slack l<=n->∃ l',Hr.Lst bs ws l':=by
 intro n
 induction n with
 | zero =>
  intro l hm hs
  by_cases hsh:Hr.Shut ws l
  ·exact⟨l,hm,hsh⟩
  ·exfalso
   unfold Hr.Shut at hsh
   simp only [Classical.not_forall] at hsh
   obtain⟨i,hi,h0,hn⟩:=hsh
   have hpi:=hp i hi
   have hj:(ws.getD i 0).toNat < bs.length:=by omega
   obtain⟨q,m,hq,_,e⟩:=hm.src i (by omega)
   have:=Hr.slack_set l (ws.getD i 0).toNat (l.getD i 0) (by rw [hm.len];exact hj) (by omega) (by rw [e];exact(hr q hq).2)
   omega
 | succ n ih =>
  intro l hm hs
  by_cases hsh:Hr.Shut ws l
  ·exact⟨l,hm,hsh⟩
  ·unfold Hr.Shut at hsh
   simp only [Classical.not_forall] at hsh
   obtain⟨i,hi,h0,hn⟩:=hsh
   have hpi:=hp i hi
   have hj:(ws.getD i 0).toNat < bs.length:=by omega
   obtain⟨q,m,hq,_,e⟩:=hm.src i (by omega)
   have h1:=Hr.slack_set l (ws.getD i 0).toNat (l.getD i 0) (by rw [hm.len];exact hj) (by omega) (by rw [e];exact(hr q hq).2)
   exact ih _ (hm.raise (i:=i) (j:=(ws.getD i 0).toNat) (by omega) (by omega) (by omega)) (by omega)
theorem ranks_lst{bs ws:List Int}(hr:∀ i,i < bs.length->0<=bs.getD i 0/\bs.getD i 0<=31)(hl:bs.length=ws.length)(hp:Hr.Plc ws):Hr.Lst bs ws (ranksL bs ws):=by
 have hex:=lst_more hr hl hp _ bs (Hr.Mid.start bs ws) (Nat.le_refl _)
 unfold ranksL
 rw [dif_pos hex]
 exact hex.choose_spec
theorem bases_len(k:Kn):(bases k).length=16:=by simp [bases]
theorem whom_len(k:Kn):(whom k).length=16:=by simp [whom]
theorem bases_at{k:Kn}{i:Nat}{t:Ta}(ht:k.ts i=some t)(hi:i < 16):(bases k).getD i 0=if t.st=3 then 0 else t.base:=by
 unfold bases
 rw [List.getD_eq_getElem?_getD,List.getElem?_map,List.getElem?_range hi]
 simp [ht]
theorem whom_at{k:Kn}{i:Nat}(hi:i < 16):(whom k).getD i 0=match k.ts i with | some t=>whomT k t | none=>-1:=by
 unfold whom
 rw [List.getD_eq_getElem?_getD,List.getElem?_map,List.getElem?_range hi]
 rfl
theorem ownerOf_in(k:Kn)(z:Int):-1<=ownerOf k z/\ownerOf k z < 16:=by
 unfold ownerOf
 split
 ·omega
 ·split
  ·rename_i i hi
   have:=List.mem_of_find?_eq_some hi
   have:i < 16:=by simpa using this
   omega
  ·omega
theorem owner_in(k:Kn)(o:Nat):-1<=owner k o/\owner k o < 16:=by
 unfold owner
 split
 ·exact ownerOf_in k _
 ·omega
theorem whom_plc(k:Kn):Hr.Plc (whom k):=by
 intro i hi
 rw [whom_len] at hi ⊢
 rw [whom_at hi]
 split
 ·unfold whomT
  split
  ·have:=owner_in k
   rename_i t _ _
   exact this t.on.toNat
  ·omega
 ·omega
theorem lst_of{k:Kn}{g:Int}{D:Nat->Prop}(h:Core k g D):Hr.Lst (bases k) (whom k) (ranksL (bases k) (whom k)) :=
 ranks_lst (fun i _=>bases_in h i) (by rw [bases_len,whom_len]) (whom_plc k)
theorem turn1_back{l:List Int}{k:Kn}{i j:Nat}{t:Ta}(h:k.ts j=some t):∃ u,(turn1 l k i).ts j=some u/\u={ t with rank:=u.rank,ran:=u.ran }/\(t.st=3->u=t)/\(t.rank=l.getD j 0->u.rank=l.getD j 0)/\(j=i->t.st≠3->u.rank=l.getD j 0):=by
 unfold turn1
 cases ht:k.ts i with
 | none=>exact⟨t,h,rfl,fun _=>rfl,fun e=>e,fun e _=>by subst e;rw [ht] at h;cases h⟩
 | some t0 =>
  simp only
  split
  ·rename_i hc
   refine⟨t,h,rfl,fun _=>rfl,fun e=>e,fun e hs=>?_⟩
   subst e
   rw [ht] at h
   obtain rfl:t0=t:=by simpa using h
   rcases hc with c | c
   ·exact absurd c hs
   ·exact c
  ·rename_i hc
   by_cases e:j=i
   ·subst e
    rw [ht] at h
    obtain rfl:t0=t:=by simpa using h
    split
    ·unfold join
     simp only [set1_at,set1_set1]
     exact⟨_,rfl,rfl,fun c=>absurd (Or.inl c) hc,fun _=>rfl,fun _ _=>rfl⟩
    ·simp only [set1_at]
     exact⟨_,rfl,rfl,fun c=>absurd (Or.inl c) hc,fun _=>rfl,fun _ _=>rfl⟩
   ·split
    ·unfold join
     simp only [set1_at,set1_set1,set1_ne _ _ e]
     exact⟨t,h,rfl,fun _=>rfl,fun c=>c,fun c=>absurd c e⟩
    ·simp only [set1_ne _ _ e]
     exact⟨t,h,rfl,fun _=>rfl,fun c=>c,fun c=>absurd c e⟩
theorem turns_back{l:List Int}{j:Nat}:∀ (is:List Nat) (k:Kn) (t:Ta),k.ts j=some t->∃ u,(is.foldl (turn1 l) k).ts j=some u/\u={ t with rank:=u.rank,ran:=u.ran }/\(t.st=3->u=t)/\(t.rank=l.getD j 0->u.rank=l.getD j 0)/\(j∈is->t.st≠3->u.rank=l.getD j 0)
 | [],k,t,h=>⟨t,h,rfl,fun _=>rfl,fun e=>e,fun e=>by simp at e⟩
 | i :: r,k,t,h=>by
  obtain⟨u,a1,a2,a3,a4,a5⟩:=turn1_back (l:=l) (i:=i) h
  obtain⟨w,b1,b2,b3,b4,b5⟩:=turns_back r (turn1 l k i) u a1
  have hst:u.st=t.st:=by rw [a2]
  refine⟨w,b1,by rw [b2,a2],fun c=>by rw [b3 (by rw [hst];exact c),a3 c],fun c=>b4 (a4 c),fun hm hs=>?_⟩
  rcases List.mem_cons.1 hm with e | hm
  ·exact b4 (a5 e hs)
  ·exact b5 hm (by rw [hst];exact hs)
theorem chq_x(os:Nat->Option Th)(i:Nat)(on r:Int)(o:Nat):(chq os i on r o).map (fun x=>(x.h,x.x))=(os o).map (fun x=>(x.h,x.x)):=by
 rw [chq_eq]
 dsimp only
 rw [Option.map_map]
 rfl
theorem turn1_x{l:List Int}{k:Kn}{i:Nat}:∀ o,((turn1 l k i).os o).map (fun x=>(x.h,x.x))=(k.os o).map (fun x=>(x.h,x.x)):=fun o=>by
 unfold turn1
 cases ht:k.ts i with
 | none=>rfl
 | some t0 =>
  simp only
  split
  ·rfl
  ·split
   ·unfold join
    simp only [set1_at]
    exact chq_x _ _ _ _ _
   ·exact chq_x _ _ _ _ _
theorem turns_x{l:List Int}:∀ (is:List Nat) (k:Kn) (o:Nat),((is.foldl (turn1 l) k).os o).map (fun x=>(x.h,x.x))=(k.os o).map (fun x=>(x.h,x.x))
 | [],k,o=>rfl
 | i :: r,k,o=>by rw [List.foldl_cons,turns_x r (turn1 l k i) o,turn1_x o]
theorem anew_x(k:Kn)(o:Nat):((anew k).os o).map (fun x=>(x.h,x.x))=(k.os o).map (fun x=>(x.h,x.x)):=turns_x _ _ o
theorem anew_back{k:Kn}{j:Nat}{t:Ta}(h:k.ts j=some t):∃ u,(anew k).ts j=some u/\u={ t with rank:=u.rank,ran:=u.ran }/\(t.st=3->u=t)/\(j < 16->t.st≠3->u.rank=(ranksL (bases k) (whom k)).getD j 0):=by
 obtain⟨u,a1,a2,a3,_,a5⟩:=turns_back (l:=ranksL (bases k) (whom k)) (List.range 16) k t h
 exact⟨u,a1,a2,a3,fun hj hs=>a5 (by simpa using hj) hs⟩
theorem anew_none{k:Kn}{j:Nat}(h:k.ts j=none):(anew k).ts j=none:=by
 cases hc:(anew k).ts j with
 | none=>rfl
 | some u =>
  obtain⟨t,ht,_⟩:=anew_t hc
  rw [h] at ht;cases ht
theorem bases_anew(k:Kn):bases (anew k)=bases k:=by
 unfold bases
 refine List.map_congr_left fun i hi=>?_
 cases ht:k.ts i with
 | none=>rw [anew_none ht]
 | some t =>
  obtain⟨u,a1,a2,_⟩:=anew_back ht
  rw [a1,a2]
theorem isH_anew(k:Kn)(z:Int):isH (anew k) z=isH k z:=by
 funext i
 unfold isH
 cases ht:k.ts i with
 | none=>rw [anew_none ht]
 | some t =>
  obtain⟨u,a1,a2,_⟩:=anew_back ht
  rw [a1,a2]
theorem ownerOf_anew(k:Kn)(z:Int):ownerOf (anew k) z=ownerOf k z:=by
 unfold ownerOf
 rw [isH_anew]
theorem owner_anew(k:Kn)(o:Nat):owner (anew k) o=owner k o:=by
 unfold owner
 have:=anew_x k o
 cases hx:k.os o with
 | none =>
  rw [hx] at this
  cases hy:(anew k).os o with
  | none=>rfl
  | some y=>rw [hy] at this;cases this
 | some x =>
  rw [hx] at this
  cases hy:(anew k).os o with
  | none=>rw [hy] at this;cases this
  | some y =>
   rw [hy] at this
   have e:y.x=x.x:=by simpa using congrArg (fun z=>z.map Prod.snd) this
   simp only
   rw [e,ownerOf_anew]
theorem whom_anew(k:Kn):whom (anew k)=whom k:=by
 unfold whom
 refine List.map_congr_left fun i hi=>?_
 cases ht:k.ts i with
 | none=>rw [anew_none ht]
 | some t =>
  obtain⟨u,a1,a2,_⟩:=anew_back ht
  rw [a1]
  simp only
  unfold whomT
  rw [owner_anew,a2]
structure Ranked (k:Kn):Prop where
 rank:∀ i t,k.ts i=some t->t.st≠3->t.rank=(ranksL (bases k) (whom k)).getD i 0
 base:∀ i t,k.ts i=some t->t.base<=t.rank
theorem anew_ranked{k:Kn}{g:Int}{D:Nat->Prop}(h:Core k g D)(hf:∀ i t,k.ts i=some t->t.st=3->t.base<=t.rank):Ranked (anew k):=by
 have hR:∀ i t,(anew k).ts i=some t->t.st≠3->t.rank=(ranksL (bases k) (whom k)).getD i 0:=fun i u hu hs=>by
  obtain⟨t,ht,e⟩:=anew_t hu
  obtain⟨w,a1,a2,_,a4⟩:=anew_back ht
  rw [hu] at a1
  obtain rfl:u=w:=by simpa using a1
  exact a4 (h.hT i t ht).1 (by rw [e] at hs;exact hs)
 refine⟨fun i u hu hs=>by rw [bases_anew,whom_anew];exact hR i u hu hs,fun i u hu=>?_⟩
 obtain⟨t,ht,e⟩:=anew_t hu
 have hi:=(h.hT i t ht).1
 have hb:u.base=t.base:=by rw [e]
 have hst:u.st=t.st:=by rw [e]
 by_cases hs:u.st=3
 ·obtain⟨w,a1,_,a3,_⟩:=anew_back ht
  rw [hu] at a1
  obtain rfl:u=w:=by simpa using a1
  rw [a3 (by rw [←hst];exact hs)]
  exact hf i t ht (by rw [←hst];exact hs)
 ·rw [hR i u hu hs,hb]
  have:=(lst_of h).mid.low i (by rw [bases_len];exact hi)
  rw [bases_at ht hi,if_neg (by rw [←hst];exact hs)] at this
  exact this
end Go.Proofs.YtbbdndfibjdcfaaGreat
namespace Go.Proofs.YtbbdndfibjdcfaaGreat
open Go Go.RowKit
abbrev Off(own:Nat->Nat)(t:Nat)(w w':World):Prop:=Wt.Off (fun b=>own b=t) w w'
structure Geo where
 kp:Nat
 tn:Nat
 on:Nat
 ta:Nat
 oa:Nat
 rp:Nat
 rB:Nat
 rs:Nat
 ep:Nat
 ap:Nat
 mb:Nat
 tb:Nat
 an:Nat
 tp:Nat->Nat
 xp:Nat->Nat
 op:Nat->Nat
 of:Nat->Nat
 og:Nat->Nat
 qp:Nat->Nat
 sh:Nat->Bool
def Cl(w:World)(b:Nat):Prop:=∃ cs ty f,w.heap[b]?=some (.cells cs ty f)
theorem Cl.of{w:World}{b:Nat}{cs:Array Value}{ty:TypeId}{f:Nat×Nat}(h:w.heap[b]?=some (.cells cs ty f)):Cl w b:=⟨cs,ty,f,h⟩
theorem Cl.lt{w:World}{b:Nat}(h:Cl w b):b < w.heap.size:=by
 obtain⟨cs,ty,f,e⟩:=h
 exact at_lt e
def ex(G:Geo)(b:Nat):Prop:=b=G.mb∨(G.rB<=b/\b < G.rs)
open Classical in
/-- new blocks are given to somebody;what is no cells is nobody's -/
noncomputable def ext(own:Nat->Nat)(G:Geo)(w w':World)(t:Nat):Nat->Nat:=fun b=>if ¬ ex G b/\¬ Cl w' b then 0 else if b < w.heap.size then own b else t
section
variable {own:Nat->Nat} {G:Geo} {w w':World} {t b:Nat}
theorem ext_cl(h:Cl w' b)(hl:b < w.heap.size):ext own G w w' t b=own b:=by unfold ext;rw [if_neg (fun c=>c.2 h),if_pos hl]
theorem ext_ex(h:ex G b)(hl:b < w.heap.size):ext own G w w' t b=own b:=by unfold ext;rw [if_neg (fun c=>c.1 h),if_pos hl]
theorem ext_new(h:Cl w' b)(hl:w.heap.size<=b):ext own G w w' t b=t:=by unfold ext;rw [if_neg (fun c=>c.2 h),if_neg (by omega)]
theorem ext_0(hl:b < w.heap.size)(h0:own b=0):ext own G w w' t b=0:=by unfold ext;rw [if_pos hl,h0];exact ite_self _
theorem ext_00(hl:w.heap.size<=b):ext own G w w' 0 b=0:=by unfold ext;split;rfl;split;omega;rfl
theorem ext_nc(h:¬ ex G b)(hc:¬ Cl w' b):ext own G w w' t b=0:=by unfold ext;rw [if_pos ⟨h,hc⟩]
end
def ext0(own:Nat->Nat)(n t:Nat):Nat->Nat:=fun b=>if b < n then own b else t
theorem ext0_lt{own:Nat->Nat}{n t b:Nat}(h:b < n):ext0 own n t b=own b:=if_pos h
theorem ext0_ge{own:Nat->Nat}{n t b:Nat}(h:n<=b):ext0 own n t b=t:=if_neg (by omega)
theorem ext0_up(own:Nat->Nat)(w:World)(t:Nat):Wt.Up (fun b=>ext0 own w.heap.size t b=t) w:=fun k hk=>ext0_ge hk
noncomputable def tagged(own:Nat->Nat)(n t:Nat):List Nat:=(List.range n).filter fun b=>decide (own b=t)
theorem tagged_no{own:Nat->Nat}{n t b:Nat}(h:own b≠t):b ∉ tagged own n t:=by simp [tagged,h]
theorem Off.hd{own:Nat->Nat}{t:Nat}{w w':World}(h:Off own t w w'):Hd.Buts (tagged own w.heap.size t) w w' :=
 ⟨h.os,h.tape,h.output,h.size,fun k hk hn=>h.block k hk fun e=>hn (by simp [tagged,hk,e])⟩
theorem Off.tm{own:Nat->Nat}{t:Nat}{w w':World}(h:Off own t w w'):Tm.Buts (tagged own w.heap.size t) w w' :=
 ⟨h.os,h.tape,h.output,h.size,fun k hk hn=>h.block k hk fun e=>hn (by simp [tagged,hk,e])⟩
theorem Off.ob{own:Nat->Nat}{t:Nat}{w w':World}(h:Off own t w w'):Ob.Buts (tagged own w.heap.size t) w w' :=
 ⟨h.os,h.tape,h.output,h.size,fun k hk hn=>h.block k hk fun e=>hn (by simp [tagged,hk,e])⟩
theorem off_hd{own:Nat->Nat}{t:Nat}{w w':World}{l:List Nat}(h:Hd.Buts l w w')(hl:∀ x∈l,own x=t):Off own t w w':=⟨h.os,h.tape,h.output,h.size,fun k hk hb=>h.block k hk fun e=>hb (hl k e)⟩
theorem off_tm{own:Nat->Nat}{t:Nat}{w w':World}{l:List Nat}(h:Tm.Buts l w w')(hl:∀ x∈l,own x=t):Off own t w w':=⟨h.os,h.tape,h.output,h.size,fun k hk hb=>h.block k hk fun e=>hb (hl k e)⟩
theorem off_ob{own:Nat->Nat}{t:Nat}{w w':World}{l:List Nat}(h:Ob.Buts l w w')(hl:∀ x∈l,own x=t):Off own t w w':=⟨h.os,h.tape,h.output,h.size,fun k hk hb=>h.block k hk fun e=>hb (hl k e)⟩
theorem off_rd{own:Nat->Nat}{t B s:Nat}{w w':World}(h:Rd.Mid B s w w')(hl:∀ x,B<=x->x < s->own x=t):Off own t w w' :=
 ⟨h.os,h.tape,h.output,h.size,fun k hk hb=>h.block k hk (by
  rcases Nat.lt_or_ge k B with c | c
  ·exact Or.inl c
  ·rcases Nat.lt_or_ge k s with d | d
   ·exact absurd (hl k c d) hb
   ·exact Or.inr d)⟩
theorem off_wt{own:Nat->Nat}{t:Nat}{w w':World}(h:Wt.Ln (fun b=>ext0 own w.heap.size t b=t) w w'):Off own t w w' :=
 ⟨h.low.os,h.low.tape,h.low.output,h.low.size,fun k hk hb=>h.low.block k hk fun e=>hb (by simpa [ext0_lt hk] using e)⟩
theorem off_of{own:Nat->Nat}{t:Nat}{w w':World}(h:Below w.heap.size w w'):Off own t w w':=Wt.Off.of h
theorem off_cell{own:Nat->Nat}{t:Nat}(w:World){g:Nat}(k:Nat)(v:Value)(h:own g=t):Off own t w (w.setCell ⟨g,k,none⟩ v) :=
 off_hd (Hd.Buts.cell w g k v) (by simpa using h)
def wr(z:Int):Int:=wrap64 z
abbrev ptr(b:Nat):Value:=.pointer (some ⟨b,0,none⟩)
def kC(G:Geo)(k:Kn):Array Value:=#[.int .i64 k.sl,.int .u32 k.now,ptr G.tn,.slice (some ⟨G.ta,0,none⟩) 16 16,ptr G.on,.slice (some ⟨G.oa,0,none⟩) 32 32,ptr G.rp,ptr G.ep,ptr G.ap]
def tPt(G:Geo)(ts:Nat->Option Ta)(i:Nat):Value:=if(ts i).isSome then ptr (G.tp i) else .pointer none
def oPt(G:Geo)(os:Nat->Option Th)(o:Nat):Value:=if(os o).isSome && G.sh o then ptr (G.xp o) else .pointer none
def taC(G:Geo)(ts:Nat->Option Ta):Array Value:=((List.range 16).map (tPt G ts)).toArray
def oaC(G:Geo)(os:Nat->Option Th):Array Value:=((List.range 32).map (oPt G os)).toArray
def onP(G:Geo)(on:Int):Value:=if 0<=on then ptr (G.xp on.toNat) else .pointer none
def tC(G:Geo)(i:Nat)(t:Ta):Array Value :=
 #[.int .u32 t.h,.int .u8 t.st,.bool t.held,.int .i64 t.base,.int .i64 t.rank,.int .u8 t.wh,.int .u32 t.ah,.int .u32 t.av,.int .u32 t.am,.int .i64 t.aw,.int .i64 0,.int .i64 (wr t.ans),.int .i64 t.last,.int .u32 t.val,.int .i64 i,.int .i64 t.ran,onP G t.on]
def xC(G:Geo)(o:Nat)(x:Th):Array Value:=#[.int .u32 x.h,.int .i64 o,.int .u8 x.x.k,.int .u32 x.x.a,.int .u32 x.x.b,ptr (G.op o),ptr (G.qp o)]
structure Ends (ts:Nat->Option Ta) (wc:Int) (ys:List (Int×Int)):Prop where
 mem:∀ y,y∈ys↔∃ (i:Nat) (t:Ta),y=((i:Int),t.left)/\ts i=some t/\0 < t.left
 ord:ys.Pairwise fun a b=>∀ s t,ts a.1.toNat=some s->ts b.1.toNat=some t->s.since < t.since
 top:∀ i t,ts i=some t->0 < t.left->t.since < wc
structure Own3 (own:Nat->Nat) (G:Geo) (o:Nat) (k:Int):Prop where
 p:own (G.op o)=70+o
 f:k≠6->own (G.of o)=70+o
 g:k≠6->own (G.og o)=70+o
 gf:¬ (k=3∨k=5)->G.og o=G.of o
structure XsOk (os:Nat->Option Th) (al:List (Int×Int×Int)):Prop where
 wd:∀ o x,os o=some x->(0<=x.x.a/\x.x.a<=4294967295)/\0<=x.x.b/\x.x.b<=4294967295
 al:∀ z∈al,0<=z.1/\∃ x,os z.1.toNat=some x
theorem XsOk.set{os:Nat->Option Th}{al:List (Int×Int×Int)}(h:XsOk os al){o:Nat}{x x':Th}(hx:os o=some x)(ha:x'.x.a=x.x.a/\x'.x.b=x.x.b):XsOk (set1 os o (some x')) al:=by
 refine⟨fun j y hy=>?_,fun z hz=>?_⟩
 ·by_cases e:j=o
  ·subst e
   rw [set1_at] at hy
   obtain rfl:=Option.some.inj hy
   rw [ha.1,ha.2]
   exact h.wd j x hx
  ·rw [set1_ne _ _ e] at hy;exact h.wd j y hy
 ·obtain⟨h0,y,hy⟩:=h.al z hz
  refine⟨h0,?_⟩
  by_cases e:z.1.toNat=o
  ·exact⟨x',by rw [e,set1_at]⟩
  ·exact⟨y,by rw [set1_ne _ _ e];exact hy⟩
structure KX (q:Nat) (own:Nat->Nat) (G:Geo) (w:World) (k:Kn):Prop where
 kern:q≠1->own G.kp=1/\w.heap[G.kp]?=some (.cells (kC G k) 95 (0,0))
 tn:q≠2->own G.tn=2/\Hd.Tab w G.tn 16 k.th
 on:q≠3->own G.on=3/\Hd.Tab w G.on 32 k.oh
 ta:q≠4->own G.ta=4/\w.heap[G.ta]?=some (.cells (taC G k.ts) 109 (0,0))
 oa:q≠5->own G.oa=5/\w.heap[G.oa]?=some (.cells (oaC G k.os) 77 (0,0))
 rd:q≠6->(∀ b,G.rB<=b->b < G.rs->own b=6)/\Rd.QS G.rB G.rs w G.rp k.rd
 en:q≠7->own G.ep=7/\∃ v ys,(∀ g,v.ownBlock=some g->own g=7)/\Tm.Lst 0 w G.ep v ys/\Ends k.ts k.wc ys
 al:q≠8->own G.ap=8/\own G.mb=8/\own G.tb=8/\∃ v,(∀ g,v.ownBlock=some g->own g=8)/\Tm.Al 0 w G.ap G.mb G.tb G.an v k.al
 nc:∀ b,¬ ex G b->¬ Cl w b->own b=0
 slo:(1<=k.sl/\k.sl<=1000)/\0<=k.now/\k.now < 4294967296
 av:∀ i t,k.ts i=some t->t.av < 4294967296
 xs:XsOk k.os k.al
 ti:∀ i t,k.ts i=some t->i < 16
 oi:∀ o x,k.os o=some x->o < 32
 task:∀ i t,k.ts i=some t->q≠10+i->own (G.tp i)=10+i/\w.heap[G.tp i]?=some (.cells (tC G i t) 79 (0,0))
 thg:∀ o x,k.os o=some x->q≠30+o->own (G.xp o)=30+o/\w.heap[G.xp o]?=some (.cells (xC G o x) 87 (0,0))
 obj:∀ o x,k.os o=some x->q≠70+o->Own3 own G o x.x.k/\Ob.KT w (G.op o) (G.of o) (G.og o) x.x
 que:∀ o x,k.os o=some x->q≠110+o->Wt.Qu (fun b=>own b=110+o) w (G.qp o) x.q
abbrev KM(own:Nat->Nat)(G:Geo)(w:World)(k:Kn):Prop:=KX 0 own G w k
theorem Qu.keep{own own':Nat->Nat}{t:Nat}{w w':World}{p:Nat}{xs:List (Int×Int)}(h:Wt.Qu (fun b=>own b=t) w p xs)(hk:∀ b,Cl w b->own b=t->w'.heap[b]?=w.heap[b]?)(ho:∀ b,b < w.heap.size->Cl w' b->own' b=own b):Wt.Qu (fun b=>own' b=t) w' p xs:=by
 obtain⟨bs,h⟩:=h
 have hp:=at_lt h.head
 have ep:=hk p (Cl.of h.head) h.lo
 have hb:∀ b∈bs,w'.heap[b]?=w.heap[b]?/\Cl w' b:=fun b hb=>by
  obtain⟨cs,e⟩:=h.ch.mem hb
  have:=hk b (Cl.of e) (h.los b hb)
  exact⟨this,Cl.of (this.trans e)⟩
 exact⟨bs,ep.trans h.head,h.ch.keep fun b hm=>(hb b hm).1,(ho p hp (Cl.of (ep.trans h.head))).trans h.lo,fun b hm=>(ho b (h.ch.lt hm) (hb b hm).2).trans (h.los b hm),h.len⟩
theorem tab_cl{w:World}{p n:Nat}{s:Hd.Slots}(h:Hd.Tab w p n s):Cl w p:=by
 obtain⟨cs,e,_⟩:=h.lay
 exact Cl.of e
theorem own_cl{B:Nat}{w:World}{v:Value}{ds:List (Int×Int)}(h:Tm.Own B w v ds){g:Nat}(hg:v.ownBlock=some g):Cl w g:=by
 obtain⟨cur,e⟩:=h.kind hg
 exact Cl.of e
theorem KT.cl{w:World}{p f g:Nat}{T:Ob.Sx}(h:Ob.KT w p f g T):Cl w p/\(T.k≠6->Cl w f)/\(T.k=3∨T.k=5->Cl w g):=by
 cases h with
 | sem h=>exact⟨Cl.of h.hh,fun _=>Cl.of h.hp,fun c=>by simp at c⟩
 | mtx h=>exact⟨Cl.of h.hh,fun _=>Cl.of h.hp,fun c=>by simp at c⟩
 | row h =>
  obtain⟨cs,e⟩:=h.hq.blk
  exact⟨Cl.of h.hh,fun _=>Cl.of h.hp,fun _=>Cl.of e⟩
 | flg h=>exact⟨Cl.of h.hh,fun _=>Cl.of h.hp,fun c=>by simp at c⟩
 | pool h=>exact⟨Cl.of h.hh,fun _=>Cl.of h.hp,fun _=>Cl.of h.hq.head⟩
 | ala h=>exact⟨Cl.of h.hh,fun c=>absurd rfl c,fun c=>by simp at c⟩
theorem Own3.cl{own:Nat->Nat}{G:Geo}{o:Nat}{w:World}{T:Ob.Sx}(h:Own3 own G o T.k)(hk:Ob.KT w (G.op o) (G.of o) (G.og o) T):Cl w (G.op o)/\(T.k≠6->Cl w (G.of o)/\Cl w (G.og o)):=by
 obtain⟨a,b,c⟩:=KT.cl hk
 refine⟨a,fun h6=>⟨b h6,?_⟩⟩
 by_cases e:T.k=3∨T.k=5
 ·exact c e
 ·rw [h.gf e];exact b h6
theorem kt_buts{w w':World}{p f g:Nat}{T:Ob.Sx}{l:List Nat}(h:Ob.KT w p f g T)(hb:Ob.Buts l w w')(h1:p ∉ l)(h2:T.k≠6->f ∉ l)(h3:T.k≠6->g ∉ l):Ob.KT w' p f g T:=by
 by_cases h6:T.k=6
 ·cases h with
  | ala h=>exact .ala (h.buts hb h1)
  | _=>simp at h6
 ·exact h.buts hb h1 (h2 h6) (h3 h6)
theorem KX.offG{own own2:Nat->Nat}{G:Geo}{w w':World}{k:Kn}(h:KM own G w k){t:Nat}(hb:Off own t w w')(hs2:∀ b,b < w.heap.size->own2 b=ext own G w w' t b)(hnc:∀ b,¬ ex G b->¬ Cl w' b->own2 b=0):KX t own2 G w' k:=by
 have hk:∀ (b s:Nat) (cs:Array Value) (ty:TypeId) (f:Nat×Nat),t≠s->own b=s->w.heap[b]?=some (.cells cs ty f)->own2 b=s/\w'.heap[b]?=some (.cells cs ty f):=fun b s cs ty f hs ho hc =>
  have hl:=at_lt hc
  have e:=(hb.block b hl (fun e=>hs (e.symm.trans ho))).trans hc
  ⟨(hs2 b hl).trans ((ext_cl (Cl.of e) hl).trans ho),e⟩
 have hn:∀ (b s:Nat),t≠s->own b=s->Cl w b->own2 b=s:=fun b s hs ho ⟨cs,ty,f,e⟩=>(hk b s cs ty f hs ho e).1
 refine⟨fun c=>?_,fun c=>?_,fun c=>?_,fun c=>?_,fun c=>?_,fun c=>?_,fun c=>?_,fun c=>?_,hnc,h.slo,h.av,h.xs,h.ti,h.oi,fun i u hu c=>?_,fun o x hx c=>?_,fun o x hx c=>?_,fun o x hx c=>?_⟩
 ·obtain⟨a,b⟩:=h.kern (by decide)
  exact hk _ _ _ _ _ c a b
 ·obtain⟨a,b⟩:=h.tn (by decide)
  exact⟨hn _ _ c a (tab_cl b),b.buts hb.hd (tagged_no (by omega))⟩
 ·obtain⟨a,b⟩:=h.on (by decide)
  exact⟨hn _ _ c a (tab_cl b),b.buts hb.hd (tagged_no (by omega))⟩
 ·obtain⟨a,b⟩:=h.ta (by decide)
  exact hk _ _ _ _ _ c a b
 ·obtain⟨a,b⟩:=h.oa (by decide)
  exact hk _ _ _ _ _ c a b
 ·obtain⟨a,b⟩:=h.rd (by decide)
  have hl:=b.le
  exact⟨fun x h1 h2=>(hs2 x (by omega)).trans ((ext_ex (Or.inr ⟨h1,h2⟩) (by omega)).trans (a x h1 h2)),b.keep hb.size fun x h1 h2=>hb.block x (by omega) (fun e=>c (e.symm.trans (a x h1 h2)))⟩
 ·obtain⟨a,v,ys,a2,b,e⟩:=h.en (by decide)
  exact⟨hn _ _ c a (Cl.of b.ch.head),v,ys,fun g hg=>hn _ _ c (a2 g hg) (own_cl b.ch.own hg),b.buts hb.tm (tagged_no (by omega)) (fun g hg=>tagged_no (by rw [a2 g hg];exact fun e=>c e.symm)),e⟩
 ·obtain⟨a,a2,a3,v,a4,b⟩:=h.al (by decide)
  exact⟨hn _ _ c a (Cl.of b.ax.blk),(hs2 _ b.ax.em.lt).trans ((ext_ex (Or.inl rfl) b.ax.em.lt).trans a2),hn _ _ c a3 (Cl.of b.ax.ls.ch.head),v,fun g hg=>hn _ _ c (a4 g hg) (own_cl b.ax.ls.ch.own hg),
   b.buts hb.tm (tagged_no (by omega)) (tagged_no (by omega)) (tagged_no (by omega)) (fun g hg=>tagged_no (by rw [a4 g hg];exact fun e=>c e.symm))⟩
 ·obtain⟨a,b⟩:=h.task i u hu (by omega)
  exact hk _ _ _ _ _ c a b
 ·obtain⟨a,b⟩:=h.thg o x hx (by omega)
  exact hk _ _ _ _ _ c a b
 ·obtain⟨a,b⟩:=h.obj o x hx (by omega)
  obtain⟨c1,c2⟩:=a.cl b
  exact⟨⟨hn _ _ c a.p c1,fun k6=>hn _ _ c (a.f k6) (c2 k6).1,fun k6=>hn _ _ c (a.g k6) (c2 k6).2,a.gf⟩,kt_buts b hb.ob (tagged_no (by have:=a.p;omega)) (fun k6=>tagged_no (by have:=a.f k6;omega)) (fun k6=>tagged_no (by have:=a.g k6;omega))⟩
 ·exact Qu.keep (h.que o x hx (by omega)) (fun b hl e=>hb.block b hl.lt (fun e'=>c (e'.symm.trans e))) (fun b hl hc=>(hs2 b hl).trans (ext_cl hc hl))
theorem KX.off{own:Nat->Nat}{G:Geo}{w w':World}{k:Kn}(h:KM own G w k){t:Nat}(hb:Off own t w w'):KX t (ext own G w w' t) G w' k:=h.offG hb (fun _ _=>rfl) fun _=>ext_nc
noncomputable def extG(own:Nat->Nat)(G:Geo)(w w':World)(t g:Nat):Nat->Nat:=fun b=>if b=g then 0 else ext own G w w' t b
theorem extG_ne{own:Nat->Nat}{G:Geo}{w w':World}{t g b:Nat}(h:b≠g):extG own G w w' t g b=ext own G w w' t b:=if_neg h
theorem KX.offL{own:Nat->Nat}{G:Geo}{w w':World}{k:Kn}(h:KM own G w k){t g:Nat}(hb:Off own t w w')(hg:w.heap.size<=g):KX t (extG own G w w' t g) G w' k :=
 h.offG hb (fun b hl=>extG_ne (by omega)) fun b h1 h2=>by unfold extG;split;rfl;exact ext_nc h1 h2
end Go.Proofs.YtbbdndfibjdcfaaGreat
namespace Go.Proofs.YtbbdndfibjdcfaaGreat
open Go Go.RowKit
structure Ext (own own':Nat->Nat) (w w':World):Prop where
 os:w'.os=w.os
 tape:w'.tape=w.tape
 output:w'.output=w.output
 size:w.heap.size<=w'.heap.size
 zero:∀ b,b < w.heap.size->own b=0->own' b=0
 out:∀ b,b < w.heap.size->own b=0->w'.heap[b]?=w.heap[b]?
theorem Ext.refl(own:Nat->Nat)(w:World):Ext own own w w:=⟨rfl,rfl,rfl,Nat.le_refl _,fun _ _ h=>h,fun _ _ _=>rfl⟩
theorem Ext.trans{o1 o2 o3:Nat->Nat}{a b c:World}(h:Ext o1 o2 a b)(k:Ext o2 o3 b c):Ext o1 o3 a c :=
 ⟨k.os.trans h.os,k.tape.trans h.tape,k.output.trans h.output,Nat.le_trans h.size k.size,fun x hx h0=>k.zero x (Nat.lt_of_lt_of_le hx h.size) (h.zero x hx h0),
  fun x hx h0=>(k.out x (Nat.lt_of_lt_of_le hx h.size) (h.zero x hx h0)).trans (h.out x hx h0)⟩
theorem Off.ext{own:Nat->Nat}{G:Geo}{t:Nat}{w w':World}(h:Off own t w w')(ht:t≠0):Ext own (ext own G w w' t) w w' :=
 ⟨h.os,h.tape,h.output,h.size,fun b hb h0=>ext_0 hb h0,fun b hb h0=>h.block b hb (by omega)⟩
theorem Off.extG{own:Nat->Nat}{G:Geo}{t g:Nat}{w w':World}(h:Off own t w w')(ht:t≠0)(hg:w.heap.size<=g):Ext own (extG own G w w' t g) w w' :=
 ⟨h.os,h.tape,h.output,h.size,fun b hb h0=>by rw [extG_ne (by omega)];exact ext_0 hb h0,fun b hb h0=>h.block b hb (by omega)⟩
theorem Below.ext{own:Nat->Nat}{G:Geo}{w w':World}(h:Below w.heap.size w w')(t:Nat):Ext own (ext own G w w' t) w w' :=
 ⟨h.os,h.tape,h.output,h.size,fun b hb h0=>ext_0 hb h0,fun b hb h0=>h.block b hb⟩
theorem Ext.cell{own own':Nat->Nat}{w w':World}(h:Ext own own' w w'){b i:Nat}{v:Value}(h0:own b=0)(hc:w.cell? ⟨b,i,none⟩=some v):w'.cell? ⟨b,i,none⟩=some v:=by
 have hl:=cell_lt hc
 have e:=h.out b hl h0
 unfold World.cell? at hc ⊢
 simp only at hc ⊢
 rw [e];exact hc
theorem KX.below{own:Nat->Nat}{G:Geo}{w w':World}{k:Kn}(h:KM own G w k)(hb:Below w.heap.size w w'):KM (ext own G w w' 0) G w' k:=h.off (off_of hb)
theorem KX.shutRd{own:Nat->Nat}{G:Geo}{w:World}{k:Kn}(h:KX 6 own G w k){X:Nat->List Int}(h2:Rd.QS G.rB G.rs w G.rp X)(h1:∀ b,G.rB<=b->b < G.rs->own b=6):KM own G w { k with rd:=X } :=
 ⟨fun _=>h.kern (by decide),
  fun _=>h.tn (by decide),
  fun _=>h.on (by decide),
  fun _=>h.ta (by decide),
  fun _=>h.oa (by decide),
  fun _=>⟨h1,h2⟩,
  fun _=>h.en (by decide),
  fun _=>h.al (by decide),
  h.nc,
  h.slo,
  h.av,
  h.xs,
  h.ti,
  h.oi,
  fun i u hu _=>h.task i u hu (by have:=h.ti i u hu;omega),
  fun i u hu _=>h.thg i u hu (by have:=h.oi i u hu;omega),
  fun i u hu _=>h.obj i u hu (by have:=h.oi i u hu;omega),
  fun i u hu _=>h.que i u hu (by have:=h.oi i u hu;omega)⟩
theorem KX.shutTn{own:Nat->Nat}{G:Geo}{w:World}{k:Kn}(h:KX 2 own G w k){s:Hd.Slots}(h1:own G.tn=2)(h2:Hd.Tab w G.tn 16 s):KM own G w { k with th:=s } :=
 ⟨fun _=>h.kern (by decide),
  fun _=>⟨h1,h2⟩,
  fun _=>h.on (by decide),
  fun _=>h.ta (by decide),
  fun _=>h.oa (by decide),
  fun _=>h.rd (by decide),
  fun _=>h.en (by decide),
  fun _=>h.al (by decide),
  h.nc,
  h.slo,
  h.av,
  h.xs,
  h.ti,
  h.oi,
  fun i u hu _=>h.task i u hu (by have:=h.ti i u hu;omega),
  fun i u hu _=>h.thg i u hu (by have:=h.oi i u hu;omega),
  fun i u hu _=>h.obj i u hu (by have:=h.oi i u hu;omega),
  fun i u hu _=>h.que i u hu (by have:=h.oi i u hu;omega)⟩
theorem KX.shutOn{own:Nat->Nat}{G:Geo}{w:World}{k:Kn}(h:KX 3 own G w k){s:Hd.Slots}(h1:own G.on=3)(h2:Hd.Tab w G.on 32 s):KM own G w { k with oh:=s } :=
 ⟨fun _=>h.kern (by decide),
  fun _=>h.tn (by decide),
  fun _=>⟨h1,h2⟩,
  fun _=>h.ta (by decide),
  fun _=>h.oa (by decide),
  fun _=>h.rd (by decide),
  fun _=>h.en (by decide),
  fun _=>h.al (by decide),
  h.nc,
  h.slo,
  h.av,
  h.xs,
  h.ti,
  h.oi,
  fun i u hu _=>h.task i u hu (by have:=h.ti i u hu;omega),
  fun i u hu _=>h.thg i u hu (by have:=h.oi i u hu;omega),
  fun i u hu _=>h.obj i u hu (by have:=h.oi i u hu;omega),
  fun i u hu _=>h.que i u hu (by have:=h.oi i u hu;omega)⟩
theorem KX.shutAl{own:Nat->Nat}{G:Geo}{w:World}{k:Kn}(h:KX 8 own G w k){n:Nat}{zs:List (Int×Int×Int)}(hz:∀ z∈zs,0<=z.1/\∃ x,k.os z.1.toNat=some x)(h1:own G.ap=8/\own G.mb=8/\own G.tb=8/\∃ v,(∀ g,v.ownBlock=some g->own g=8)/\Tm.Al 0 w G.ap G.mb G.tb n v zs):KM own { G with an:=n } w { k with al:=zs } :=
 ⟨fun _=>h.kern (by decide),
  fun _=>h.tn (by decide),
  fun _=>h.on (by decide),
  fun _=>h.ta (by decide),
  fun _=>h.oa (by decide),
  fun _=>h.rd (by decide),
  fun _=>h.en (by decide),
  fun _=>h1,
  h.nc,
  h.slo,
  h.av,
  ⟨h.xs.wd,hz⟩,
  h.ti,
  h.oi,
  fun i u hu _=>h.task i u hu (by have:=h.ti i u hu;omega),
  fun i u hu _=>h.thg i u hu (by have:=h.oi i u hu;omega),
  fun i u hu _=>have a:=h.obj i u hu (by have:=h.oi i u hu;omega);⟨⟨a.1.p,a.1.f,a.1.g,a.1.gf⟩,a.2⟩,
  fun i u hu _=>h.que i u hu (by have:=h.oi i u hu;omega)⟩
theorem KX.shutKern{own:Nat->Nat}{G:Geo}{w:World}{k:Kn}(h:KX 1 own G w k){now:Int}(hw:0<=now/\now < 4294967296)(h1:own G.kp=1)(h2:w.heap[G.kp]?=some (.cells (kC G { k with now:=now }) 95 (0,0))):KM own G w { k with now:=now } :=
 ⟨fun _=>⟨h1,h2⟩,
  fun _=>h.tn (by decide),
  fun _=>h.on (by decide),
  fun _=>h.ta (by decide),
  fun _=>h.oa (by decide),
  fun _=>h.rd (by decide),
  fun _=>h.en (by decide),
  fun _=>h.al (by decide),
  h.nc,
  ⟨h.slo.1,hw⟩,
  h.av,
  h.xs,
  h.ti,
  h.oi,
  fun i u hu _=>h.task i u hu (by have:=h.ti i u hu;omega),
  fun i u hu _=>h.thg i u hu (by have:=h.oi i u hu;omega),
  fun i u hu _=>h.obj i u hu (by have:=h.oi i u hu;omega),
  fun i u hu _=>h.que i u hu (by have:=h.oi i u hu;omega)⟩
end Go.Proofs.YtbbdndfibjdcfaaGreat
namespace Go.Proofs.YtbbdndfibjdcfaaGreat
open Go Go.RowKit
theorem KX.drew{q:Nat}{own:Nat->Nat}{G:Geo}{w:World}{k:Kn}(h:KX q own G w k):KX q own G w.drew k:=by
 have hb:Below w.heap.size w w.drew:=below_drewN w 1
 refine⟨fun c=>h.kern c,fun c=>?_,fun c=>?_,fun c=>h.ta c,fun c=>h.oa c,fun c=>?_,fun c=>?_,fun c=>?_,h.nc,h.slo,h.av,h.xs,h.ti,h.oi,h.task,h.thg,fun o x hx c=>?_,fun o x hx c=>?_⟩
 ·exact⟨(h.tn c).1,(h.tn c).2.below hb⟩
 ·exact⟨(h.on c).1,(h.on c).2.below hb⟩
 ·exact⟨(h.rd c).1,(h.rd c).2.below hb⟩
 ·obtain⟨a,v,ys,b,d,e⟩:=h.en c
  exact⟨a,v,ys,b,d.below hb,e⟩
 ·obtain⟨a,a2,a3,v,b,d⟩:=h.al c
  exact⟨a,a2,a3,v,b,d.below hb⟩
 ·obtain⟨a,b⟩:=h.obj o x hx c
  exact⟨a,b.below hb⟩
 ·exact(h.que o x hx c).below hb
def St(o0:Nat->Nat)(w0:World)(G:Geo)(w:World)(k:Kn):Prop:=∃ own,KM own G w k/\Ext o0 own w0 w
section
variable {o0:Nat->Nat} {w0 w w':World} {G:Geo} {k:Kn}
theorem St.drew(h:St o0 w0 G w k):St o0 w0 G w.drew k:=by
 obtain⟨own,h,x⟩:=h
 exact⟨own,h.drew,⟨x.os,x.tape,x.output,x.size,x.zero,x.out⟩⟩
theorem St.below(h:St o0 w0 G w k)(hb:Below w.heap.size w w'):St o0 w0 G w' k:=by
 obtain⟨own,h,x⟩:=h
 exact⟨_,h.below hb,x.trans (Below.ext hb 0)⟩
theorem St.size(h:St o0 w0 G w k):w0.heap.size<=w.heap.size:=by
 obtain⟨own,h,x⟩:=h
 exact x.size
theorem St.from{own:Nat->Nat}{w1:World}(h:St own w1 G w k)(x:Ext o0 own w0 w1):St o0 w0 G w k:=by
 obtain⟨o,h,y⟩:=h
 exact⟨o,h,x.trans y⟩
theorem St.out(h:St o0 w0 G w k){b:Nat}(hb:b < w0.heap.size)(h0:o0 b=0):w.heap[b]?=w0.heap[b]?:=by
 obtain⟨own,h,x⟩:=h
 exact x.out b hb h0
theorem St.cell(h:St o0 w0 G w k){b i:Nat}{v:Value}(h0:o0 b=0)(hc:w0.cell? ⟨b,i,none⟩=some v):w.cell? ⟨b,i,none⟩=some v:=by
 obtain⟨own,h,x⟩:=h
 exact x.cell h0 hc
theorem St.fresh(h:St o0 w0 G w k)(hb:Below w.heap.size w w'):∃ own,St own w' G w' k/\Ext o0 own w0 w'/\∀ b,w.heap.size<=b->own b=0:=by
 obtain⟨own,h,x⟩:=h
 exact⟨_,⟨_,h.below hb,Ext.refl _ _⟩,x.trans (Below.ext hb 0),fun b hb=>ext_00 hb⟩
theorem St.hdk(h:St o0 w0 G w k):w.heap[G.kp]?=some (.cells (kC G k) 95 (0,0)):=by
 obtain⟨own,h,x⟩:=h
 exact(h.kern (by decide)).2
theorem St.kc(h:St o0 w0 G w k)(i:Nat){v:Value}(e:(kC G k)[i]?=some v):w.cell? ⟨G.kp,i,none⟩=some v:=by rw [cell_of h.hdk];exact e
theorem St.klt(h:St o0 w0 G w k):G.kp < w.heap.size:=at_lt h.hdk
theorem St.kfree(h:St o0 w0 G w k)(i:Nat):w.frozen? ⟨G.kp,i,none⟩=false:=by simp [World.frozen?,h.hdk]
theorem St.t(h:St o0 w0 G w k){i:Nat}{t:Ta}(ht:k.ts i=some t):w.heap[G.tp i]?=some (.cells (tC G i t) 79 (0,0)):=by
 obtain⟨own,h,x⟩:=h
 exact(h.task i t ht (by omega)).2
theorem St.tc(h:St o0 w0 G w k){i:Nat}{t:Ta}(ht:k.ts i=some t)(n:Nat){v:Value}(e:(tC G i t)[n]?=some v):w.cell? ⟨G.tp i,n,none⟩=some v:=by rw [cell_of (h.t ht)];exact e
theorem St.tfree(h:St o0 w0 G w k){i:Nat}{t:Ta}(ht:k.ts i=some t)(n:Nat):w.frozen? ⟨G.tp i,n,none⟩=false:=by simp [World.frozen?,h.t ht]
theorem St.ti(h:St o0 w0 G w k){i:Nat}{t:Ta}(ht:k.ts i=some t):i < 16:=by
 obtain⟨own,h,x⟩:=h
 exact h.ti i t ht
theorem St.oi(h:St o0 w0 G w k){o:Nat}{x:Th}(hx:k.os o=some x):o < 32:=by
 obtain⟨own,h,y⟩:=h
 exact h.oi o x hx
theorem St.x(h:St o0 w0 G w k){o:Nat}{x:Th}(hx:k.os o=some x):w.heap[G.xp o]?=some (.cells (xC G o x) 87 (0,0)):=by
 obtain⟨own,h,y⟩:=h
 exact(h.thg o x hx (by omega)).2
theorem St.xc(h:St o0 w0 G w k){o:Nat}{x:Th}(hx:k.os o=some x)(n:Nat){v:Value}(e:(xC G o x)[n]?=some v):w.cell? ⟨G.xp o,n,none⟩=some v:=by rw [cell_of (h.x hx)];exact e
theorem St.c0(h:St o0 w0 G w k):w.cell? ⟨G.kp,0,none⟩=some (.int .i64 k.sl):=h.kc 0 rfl
theorem St.c1(h:St o0 w0 G w k):w.cell? ⟨G.kp,1,none⟩=some (.int .u32 k.now):=h.kc 1 rfl
theorem St.c2(h:St o0 w0 G w k):w.cell? ⟨G.kp,2,none⟩=some (.pointer (some ⟨G.tn,0,none⟩)):=h.kc 2 rfl
theorem St.c3(h:St o0 w0 G w k):w.cell? ⟨G.kp,3,none⟩=some (.slice (some ⟨G.ta,0,none⟩) 16 16):=h.kc 3 rfl
theorem St.c4(h:St o0 w0 G w k):w.cell? ⟨G.kp,4,none⟩=some (.pointer (some ⟨G.on,0,none⟩)):=h.kc 4 rfl
theorem St.c5(h:St o0 w0 G w k):w.cell? ⟨G.kp,5,none⟩=some (.slice (some ⟨G.oa,0,none⟩) 32 32):=h.kc 5 rfl
theorem St.c6(h:St o0 w0 G w k):w.cell? ⟨G.kp,6,none⟩=some (.pointer (some ⟨G.rp,0,none⟩)):=h.kc 6 rfl
theorem St.c7(h:St o0 w0 G w k):w.cell? ⟨G.kp,7,none⟩=some (.pointer (some ⟨G.ep,0,none⟩)):=h.kc 7 rfl
theorem St.c8(h:St o0 w0 G w k):w.cell? ⟨G.kp,8,none⟩=some (.pointer (some ⟨G.ap,0,none⟩)):=h.kc 8 rfl
theorem St.d0(h:St o0 w0 G w k){i:Nat}{t:Ta}(ht:k.ts i=some t):w.cell? ⟨G.tp i,0,none⟩=some (.int .u32 (t.h:Nat)):=h.tc ht 0 rfl
theorem St.d1(h:St o0 w0 G w k){i:Nat}{t:Ta}(ht:k.ts i=some t):w.cell? ⟨G.tp i,1,none⟩=some (.int .u8 t.st):=h.tc ht 1 rfl
theorem St.d2(h:St o0 w0 G w k){i:Nat}{t:Ta}(ht:k.ts i=some t):w.cell? ⟨G.tp i,2,none⟩=some (.bool t.held):=h.tc ht 2 rfl
theorem St.d3(h:St o0 w0 G w k){i:Nat}{t:Ta}(ht:k.ts i=some t):w.cell? ⟨G.tp i,3,none⟩=some (.int .i64 t.base):=h.tc ht 3 rfl
theorem St.d4(h:St o0 w0 G w k){i:Nat}{t:Ta}(ht:k.ts i=some t):w.cell? ⟨G.tp i,4,none⟩=some (.int .i64 t.rank):=h.tc ht 4 rfl
theorem St.d5(h:St o0 w0 G w k){i:Nat}{t:Ta}(ht:k.ts i=some t):w.cell? ⟨G.tp i,5,none⟩=some (.int .u8 t.wh):=h.tc ht 5 rfl
theorem St.d6(h:St o0 w0 G w k){i:Nat}{t:Ta}(ht:k.ts i=some t):w.cell? ⟨G.tp i,6,none⟩=some (.int .u32 (t.ah:Nat)):=h.tc ht 6 rfl
theorem St.d7(h:St o0 w0 G w k){i:Nat}{t:Ta}(ht:k.ts i=some t):w.cell? ⟨G.tp i,7,none⟩=some (.int .u32 (t.av:Nat)):=h.tc ht 7 rfl
theorem St.d8(h:St o0 w0 G w k){i:Nat}{t:Ta}(ht:k.ts i=some t):w.cell? ⟨G.tp i,8,none⟩=some (.int .u32 (t.am:Nat)):=h.tc ht 8 rfl
theorem St.d9(h:St o0 w0 G w k){i:Nat}{t:Ta}(ht:k.ts i=some t):w.cell? ⟨G.tp i,9,none⟩=some (.int .i64 t.aw):=h.tc ht 9 rfl
theorem St.d10(h:St o0 w0 G w k){i:Nat}{t:Ta}(ht:k.ts i=some t):w.cell? ⟨G.tp i,10,none⟩=some (.int .i64 0):=h.tc ht 10 rfl
theorem St.d11(h:St o0 w0 G w k){i:Nat}{t:Ta}(ht:k.ts i=some t):w.cell? ⟨G.tp i,11,none⟩=some (.int .i64 (wr t.ans)):=h.tc ht 11 rfl
theorem St.d12(h:St o0 w0 G w k){i:Nat}{t:Ta}(ht:k.ts i=some t):w.cell? ⟨G.tp i,12,none⟩=some (.int .i64 t.last):=h.tc ht 12 rfl
theorem St.d13(h:St o0 w0 G w k){i:Nat}{t:Ta}(ht:k.ts i=some t):w.cell? ⟨G.tp i,13,none⟩=some (.int .u32 t.val):=h.tc ht 13 rfl
theorem St.d14(h:St o0 w0 G w k){i:Nat}{t:Ta}(ht:k.ts i=some t):w.cell? ⟨G.tp i,14,none⟩=some (.int .i64 (i:Nat)):=h.tc ht 14 rfl
theorem St.d15(h:St o0 w0 G w k){i:Nat}{t:Ta}(ht:k.ts i=some t):w.cell? ⟨G.tp i,15,none⟩=some (.int .i64 t.ran):=h.tc ht 15 rfl
theorem St.d16(h:St o0 w0 G w k){i:Nat}{t:Ta}(ht:k.ts i=some t):w.cell? ⟨G.tp i,16,none⟩=some (onP G t.on):=h.tc ht 16 rfl
theorem St.e1(h:St o0 w0 G w k){o:Nat}{x:Th}(hx:k.os o=some x):w.cell? ⟨G.xp o,1,none⟩=some (.int .i64 (o:Nat)):=h.xc hx 1 rfl
theorem St.e2(h:St o0 w0 G w k){o:Nat}{x:Th}(hx:k.os o=some x):w.cell? ⟨G.xp o,2,none⟩=some (.int .u8 x.x.k):=h.xc hx 2 rfl
theorem St.e3(h:St o0 w0 G w k){o:Nat}{x:Th}(hx:k.os o=some x):w.cell? ⟨G.xp o,3,none⟩=some (.int .u32 x.x.a):=h.xc hx 3 rfl
theorem St.e4(h:St o0 w0 G w k){o:Nat}{x:Th}(hx:k.os o=some x):w.cell? ⟨G.xp o,4,none⟩=some (.int .u32 x.x.b):=h.xc hx 4 rfl
theorem St.e5(h:St o0 w0 G w k){o:Nat}{x:Th}(hx:k.os o=some x):w.cell? ⟨G.xp o,5,none⟩=some (.pointer (some ⟨(G.op o),0,none⟩)):=h.xc hx 5 rfl
theorem St.e6(h:St o0 w0 G w k){o:Nat}{x:Th}(hx:k.os o=some x):w.cell? ⟨G.xp o,6,none⟩=some (.pointer (some ⟨(G.qp o),0,none⟩)):=h.xc hx 6 rfl
theorem taC_at(G:Geo)(ts:Nat->Option Ta){i:Nat}(h:i < 16):(taC G ts)[i]?=some (tPt G ts i):=by
 simp [taC,List.getElem?_map,List.getElem?_range h]
theorem oaC_at(G:Geo)(os:Nat->Option Th){i:Nat}(h:i < 32):(oaC G os)[i]?=some (oPt G os i):=by
 simp [oaC,List.getElem?_map,List.getElem?_range h]
theorem St.ta(h:St o0 w0 G w k):w.heap[G.ta]?=some (.cells (taC G k.ts) 109 (0,0)):=by
 obtain⟨own,h,y⟩:=h
 exact(h.ta (by decide)).2
theorem St.oa(h:St o0 w0 G w k):w.heap[G.oa]?=some (.cells (oaC G k.os) 77 (0,0)):=by
 obtain⟨own,h,y⟩:=h
 exact(h.oa (by decide)).2
theorem St.tat(h:St o0 w0 G w k){i:Nat}(hi:i < 16):w.cell? ⟨G.ta,i,none⟩=some (tPt G k.ts i):=by rw [cell_of h.ta,taC_at G _ hi]
theorem St.oat(h:St o0 w0 G w k){i:Nat}(hi:i < 32):w.cell? ⟨G.oa,i,none⟩=some (oPt G k.os i):=by rw [cell_of h.oa,oaC_at G _ hi]
theorem St.tap(h:St o0 w0 G w k){i:Nat}{t:Ta}(ht:k.ts i=some t):w.cell? ⟨G.ta,i,none⟩=some (.pointer (some ⟨G.tp i,0,none⟩)):=by
 rw [h.tat (h.ti ht),tPt,ht];rfl
theorem St.oap(h:St o0 w0 G w k){o:Nat}{x:Th}(hx:k.os o=some x)(hs:G.sh o=true):w.cell? ⟨G.oa,o,none⟩=some (.pointer (some ⟨G.xp o,0,none⟩)):=by
 rw [h.oat (h.oi hx),oPt,hx,hs];rfl
end
theorem Ends.congr{ts ts':Nat->Option Ta}{wc:Int}{ys:List (Int×Int)}(h:Ends ts wc ys)(hs:∀ i,(ts' i).map (fun t=>(t.left,t.since))=(ts i).map (fun t=>(t.left,t.since))):Ends ts' wc ys:=by
 have f:∀ i t,ts' i=some t->∃ u,ts i=some u/\u.left=t.left/\u.since=t.since:=fun i t ht=>by
  have:=hs i
  rw [ht] at this
  cases hu:ts i with
  | none=>rw [hu] at this;cases this
  | some u=>rw [hu] at this;simp only [Option.map_some,Option.some.injEq,Prod.mk.injEq] at this;exact⟨u,rfl,this.1.symm,this.2.symm⟩
 have g:∀ i t,ts i=some t->∃ u,ts' i=some u/\u.left=t.left/\u.since=t.since:=fun i t ht=>by
  have:=hs i
  rw [ht] at this
  cases hu:ts' i with
  | none=>rw [hu] at this;cases this
  | some u=>rw [hu] at this;simp only [Option.map_some,Option.some.injEq,Prod.mk.injEq] at this;exact⟨u,rfl,this.1,this.2⟩
 refine⟨fun y=>?_,h.ord.imp fun hab s t hs' ht'=>?_,fun i t ht hl=>?_⟩
 ·rw [h.mem y]
  constructor
  ·rintro ⟨i,t,e,ht,hl⟩
   obtain⟨u,hu,e1,e2⟩:=g i t ht
   exact⟨i,u,by rw [e,e1],hu,by omega⟩
  ·rintro ⟨i,t,e,ht,hl⟩
   obtain⟨u,hu,e1,e2⟩:=f i t ht
   exact⟨i,u,by rw [e,e1],hu,by omega⟩
 ·obtain⟨a,ha,_,a2⟩:=f _ _ hs'
  obtain⟨b,hb,_,b2⟩:=f _ _ ht'
  have:=hab a b ha hb
  omega
 ·obtain⟨u,hu,e1,e2⟩:=f i t ht
  have:=h.top i u hu (by omega)
  omega
theorem taC_set{G:Geo}{ts:Nat->Option Ta}{i:Nat}{t t':Ta}(ht:ts i=some t):taC G (set1 ts i (some t'))=taC G ts:=by
 unfold taC
 congr 2
 funext j
 unfold tPt
 by_cases e:j=i
 ·subst e;rw [set1_at,ht];rfl
 ·rw [set1_ne _ _ e]
theorem map_set{ts:Nat->Option Ta}{i:Nat}{t t':Ta}(ht:ts i=some t)(h1:t'.left=t.left)(h2:t'.since=t.since)(j:Nat):((set1 ts i (some t')) j).map (fun t=>(t.left,t.since))=(ts j).map (fun t=>(t.left,t.since)):=by
 by_cases e:j=i
 ·subst e;rw [set1_at,ht];simp [h1,h2]
 ·rw [set1_ne _ _ e]
theorem KX.shutTask{own:Nat->Nat}{G:Geo}{w:World}{k:Kn}{i:Nat}{t t':Ta}(h:KX (10+i) own G w k)(ht:k.ts i=some t)(h1:t'.left=t.left)(h2:t'.since=t.since)(h3:t'.av=t.av∨t'.av < 4294967296)(ho:own (G.tp i)=10+i)(hc:w.heap[G.tp i]?=some (.cells (tC G i t') 79 (0,0))):KM own G w (k.setT i t'):=by
 have hi:=h.ti i t ht
 refine⟨fun _=>h.kern (by omega),fun _=>h.tn (by omega),fun _=>h.on (by omega),fun _=>?_,fun _=>h.oa (by omega),fun _=>h.rd (by omega),fun _=>?_,fun _=>h.al (by omega),h.nc,h.slo,fun j u hu=>?_,h.xs,fun j u hu=>?_,h.oi,fun j u hu _=>?_,fun o x hx _=>h.thg o x hx (by omega),fun o x hx _=>h.obj o x hx (by omega),fun o x hx _=>h.que o x hx (by omega)⟩
 ·have:=h.ta (by omega)
  show own G.ta=4/\w.heap[G.ta]?=some (.cells (taC G (set1 k.ts i (some t'))) 109 (0,0))
  rw [taC_set ht];exact this
 ·obtain⟨a,v,ys,b,c,e⟩:=h.en (by omega)
  exact⟨a,v,ys,b,c,e.congr (map_set ht h1 h2)⟩
 ·by_cases e:j=i
  ·subst e
   have:u=t':=by simpa [Kn.setT,set1_at] using hu.symm
   subst this
   have:=h.av j t ht
   omega
  ·exact h.av j u (by simpa [Kn.setT,set1_ne _ _ e] using hu)
 ·by_cases e:j=i
  ·omega
  ·exact h.ti j u (by simpa [Kn.setT,set1_ne _ _ e] using hu)
 ·by_cases e:j=i
  ·subst e
   have:u=t':=by simpa [Kn.setT,set1_at] using hu.symm
   subst this
   exact⟨ho,hc⟩
  ·exact h.task j u (by simpa [Kn.setT,set1_ne _ _ e] using hu) (by omega)
section
variable {o0:Nat->Nat} {w0 w w':World} {G:Geo} {k:Kn}
theorem St.setT(h:St o0 w0 G w k){i:Nat}{t:Ta}(ht:k.ts i=some t)(n:Nat)(v:Value)(t':Ta)(h1:t'.left=t.left)(h2:t'.since=t.since)(he:(tC G i t).setIfInBounds n v=tC G i t')(h3:t'.av=t.av∨t'.av < 4294967296:=by first | exact Or.inl rfl | exact Or.inr (show 0 < 4294967296 by decide)) :
  St o0 w0 G (w.setCell ⟨G.tp i,n,none⟩ v) (k.setT i t'):=by
 obtain⟨own,h,x⟩:=h
 obtain⟨ho,hc⟩:=h.task i t ht (by omega)
 have hb:Off own (10+i) w (w.setCell ⟨G.tp i,n,none⟩ v):=off_cell w n v ho
 refine⟨_,(h.off hb).shutTask ht h1 h2 h3 ((ext_cl (Cl.of (set_block hc _ _)) (at_lt hc)).trans ho) ?_,x.trans (hb.ext (by omega))⟩
 rw [set_block hc,he]
def sets(w:World)(b:Nat)(l:List (Nat×Value)):World:=l.foldl (fun w p=>w.setCell ⟨b,p.1,none⟩ p.2) w
theorem sets_buts(b:Nat):∀ (l:List (Nat×Value)) (w:World),Hd.Buts [b] w (sets w b l)
 | [],w=>Hd.Buts.refl _ _
 | p :: l,w=>(Hd.Buts.cell w b p.1 p.2).trans (sets_buts b l _)
theorem sets_at{b:Nat}{ty:TypeId}:∀ (l:List (Nat×Value)) {w:World} {cs:Array Value},w.heap[b]?=some (.cells cs ty (0,0))->(sets w b l).heap[b]?=some (.cells (l.foldl (fun c p=>c.setIfInBounds p.1 p.2) cs) ty (0,0))
 | [],_,_,h=>h
 | p :: l,_,_,h=>sets_at l (set_block h p.1 p.2)
theorem St.setL(h:St o0 w0 G w k){i:Nat}{t:Ta}(ht:k.ts i=some t)(l:List (Nat×Value))(t':Ta)(h1:t'.left=t.left)(h2:t'.since=t.since)(he:l.foldl (fun c p=>c.setIfInBounds p.1 p.2) (tC G i t)=tC G i t')(h3:t'.av=t.av∨t'.av < 4294967296:=by first | exact Or.inl rfl | exact Or.inr (show 0 < 4294967296 by decide)) :
  St o0 w0 G (sets w (G.tp i) l) (k.setT i t'):=by
 obtain⟨own,h,x⟩:=h
 obtain⟨ho,hc⟩:=h.task i t ht (by omega)
 have hb:Off own (10+i) w (sets w (G.tp i) l):=off_hd (sets_buts _ _ _) (by simpa using ho)
 refine⟨_,(h.off hb).shutTask ht h1 h2 h3 ((ext_cl (Cl.of (sets_at _ hc)) (at_lt hc)).trans ho) ?_,x.trans (hb.ext (by omega))⟩
 rw [sets_at _ hc,he]
theorem setT_setT(k:Kn)(i:Nat)(a b:Ta):(k.setT i a).setT i b=k.setT i b:=by
 unfold Kn.setT
 simp only
 congr 1
 funext j
 unfold set1
 split <;> rfl
theorem setT_setO(k:Kn)(i o:Nat)(a:Ta)(x:Th):(k.setT i a).setO o x=(k.setO o x).setT i a:=rfl
theorem setT_at(k:Kn)(i:Nat)(a:Ta):(k.setT i a).ts i=some a:=set1_at _ _ _
theorem setO_at(k:Kn)(o:Nat)(x:Th):(k.setO o x).os o=some x:=set1_at _ _ _
def NC(own:Nat->Nat)(G:Geo)(w:World):Prop:=∀ b,¬ ex G b->¬ Cl w b->own b=0
theorem St.anewC(h:St o0 w0 G w k):∃ own,St own w G w k/\Ext o0 own w0 w/\NC own G w:=by
 obtain⟨own,h,x⟩:=h
 exact⟨own,⟨own,h,Ext.refl _ _⟩,x,h.nc⟩
theorem ncells{w:World}{b:Nat}{o:Obj}(h:w.heap[b]?=some o)(ho:o.isCells=false):¬ Cl w b:=fun⟨cs,ty,f,e⟩=>by
 rw [h] at e
 cases e
 cases ho
theorem St.keepsFrom{own:Nat->Nat}(h:St own w G w' k)(hn:NC own G w){n0:Nat}(hm:G.mb < n0)(hs:G.rs<=n0):KeepsFrom n0 w w' :=
 ⟨h.size,fun b o hb hc ho=>(h.out (Array.getElem?_eq_some_iff.1 hc).1 (hn b (by unfold ex;omega) (ncells hc ho))).trans hc⟩
theorem St.cellsKept(h:St o0 w0 G w k){n0:Nat}(hb:Below n0 w w')(hc:∀ (b:Nat) (cs:Array Value) (t:TypeId) (f:Nat×Nat),w.heap[b]?=some (.cells cs t f)->w'.heap[b]?=some (.cells cs t f))(hm:G.mb < n0)(hs:G.rs<=n0)(hw:w0.heap.size<=n0):St o0 w0 G w' k:=by
 obtain⟨own,h,x⟩:=h
 have hoff:Off own 0 w w':=⟨hb.os,hb.tape,hb.output,hb.size,fun b hl h0=>by
  by_cases hc':Cl w b
  ·obtain⟨cs,t,f,e⟩:=hc'
   rw [hc b cs t f e,e]
  ·by_cases he:ex G b
   ·exact hb.block b (by unfold ex at he;omega)
   ·exact absurd (h.nc b he hc') h0⟩
 have hbx:=x.size
 refine⟨_,h.off hoff,hb.os.trans x.os,hb.tape.trans x.tape,hb.output.trans x.output,Nat.le_trans x.size hb.size,fun b hl h0=>ext_0 (Nat.lt_of_lt_of_le hl x.size) (x.zero b hl h0),fun b hl h0=>(hb.block b (by omega)).trans (x.out b hl h0)⟩
theorem St.rs(h:St o0 w0 G w k):G.rs<=w.heap.size:=by
 obtain⟨own,h,x⟩:=h
 exact(h.rd (by decide)).2.le.1
theorem St.mb(h:St o0 w0 G w k):G.mb < w.heap.size:=by
 obtain⟨own,h,x⟩:=h
 obtain⟨_,_,_,v,_,b⟩:=h.al (by decide)
 exact b.ax.em.lt
theorem St.slo(h:St o0 w0 G w k):(1<=k.sl/\k.sl<=1000)/\0<=k.now/\k.now < 4294967296:=by
 obtain⟨own,h,x⟩:=h
 exact h.slo
theorem St.av(h:St o0 w0 G w k){i:Nat}{t:Ta}(ht:k.ts i=some t):t.av < 4294967296:=by
 obtain⟨own,h,x⟩:=h
 exact h.av i t ht
theorem St.xs(h:St o0 w0 G w k):XsOk k.os k.al:=by
 obtain⟨own,h,x⟩:=h
 exact h.xs
end
end Go.Proofs.YtbbdndfibjdcfaaGreat
