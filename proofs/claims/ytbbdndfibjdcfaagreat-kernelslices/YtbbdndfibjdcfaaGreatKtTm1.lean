/- Package kernel, proved: part KtTm1. No law of the program itself. -/
import Derived.Test.YtbbdndfibjdcfaaGreatRows
import Derived.WalkKit
import Derived.ProofKit
import Derived.OpenShut
import Derived.Laws.CopyOwn
import Derived.Laws.MakeOwn
import Derived.Laws.OwnMore
import Derived.Deep.RegionLaw
import Derived.Deep.QuietTactic
import Derived.BigQuiet
import Derived.Deep.CutRange
import Derived.Deep.RegionWith
import Derived.Deep.RegionHeld3
import Derived.Deep.CutBlock
import Derived.Lib.Overlaps
import Derived.Lib.AppendZerosOnto
import Derived.Laws.NewBlocks
import Derived.ArgAppend
import Derived.WalkSpells
import Derived.Lib.AppendZeros
import Derived.RangeFuncBox
import Derived.RangeFuncLeaves
import Derived.RangeFuncCalls
import Derived.Shelf.Abstract
import Derived.Shelf.RegionOpen
import Derived.OwnWalkIn
import Derived.TacticsInMore
import Derived.LoopNIn
import Derived.LoopIn
import Derived.Maps.AppendAt
import Derived.Sort.QuietTacIn
import Derived.Test.YtbbdndfibjdcfaaGreatKtA1
set_option maxRecDepth 100000
set_option linter.all false
set_option maxHeartbeats 16000000
namespace Go.Proofs.YtbbdndfibjdcfaaGreat.Tm
open Go Go.RowKit
def ins:List (Int×Int)->Int×Int->List (Int×Int)
 | [],y=>[y]
 | x :: r,y=>if x.2<=y.2 then x :: ins r y else y :: x :: r
def srt(ys:List (Int×Int)):List (Int×Int):=ys.foldl ins []
def Up(xs:List (Int×Int)):Prop:=xs.Pairwise (fun a b=>a.2<=b.2)
def dl(a:Int):List (Int×Int)->List (Int×Int)
 | []=>[]
 | x :: r=>(x.1,x.2 - a) :: dl x.2 r
def sh(d:Int):List (Int×Int)->List (Int×Int)
 | []=>[]
 | x :: r=>(x.1,x.2+d) :: r
def lst(a:Int):List (Int×Int)->Int
 | []=>a
 | x :: r=>lst x.2 r
def dec(x:Int×Int):Int×Int:=(x.1,x.2 - 1)
def woke(ys:List (Int×Int)):List Int:=(ys.filter (fun y=>decide (y.2=1))).map Prod.fst
def rest(ys:List (Int×Int)):List (Int×Int):=(ys.filter (fun y=>decide (y.2≠1))).map dec
def gone(ys:List (Int×Int))(who:Int):List (Int×Int):=ys.filter (fun y=>decide (y.1≠who))
theorem dl_len:∀ (xs:List (Int×Int)) (a:Int),(dl a xs).length=xs.length
 | [],_=>rfl
 | x :: r,a=>by simp [dl,dl_len r]
theorem dl_app:∀ (xs ys:List (Int×Int)) (a:Int),dl a (xs ++ ys)=dl a xs ++ dl (lst a xs) ys
 | [],_,_=>rfl
 | x :: r,ys,a=>by simp [dl,lst,dl_app r]
theorem dl_sh(xs:List (Int×Int))(a b:Int):dl b xs=sh (a - b) (dl a xs):=by
 cases xs with
 | nil=>rfl
 | cons x r=>simp [dl,sh];omega
theorem dl_dec:∀ (xs:List (Int×Int)) (a:Int),dl a (xs.map dec)=dl (a+1) xs
 | [],_=>rfl
 | x :: r,a=>by
  have:=dl_dec r (x.2 - 1)
  rw [show x.2 - 1+1=x.2 by omega] at this
  simp only [List.map_cons,dl,dec]
  rw [this]
  congr 2
  omega
theorem dl_at:∀ (xs:List (Int×Int)) (a:Int) (i:Nat),i < xs.length->(dl a xs)[i]?=some ((xs.getD i (0,0)).1,(xs.getD i (0,0)).2 - lst a (xs.take i))
 | [],_,_,h=>by simp at h
 | x :: r,a,0,_=>by simp [dl,lst]
 | x :: r,a,i+1,h=>by
  have:=dl_at r x.2 i (by simpa using h)
  simp only [dl,List.getElem?_cons_succ,List.getD_cons_succ,List.take_succ_cons,lst]
  exact this
theorem lst_take:∀ (xs:List (Int×Int)) (a:Int) (i:Nat),i < xs.length->lst a (xs.take (i+1))=(xs.getD i (0,0)).2
 | [],_,_,h=>by simp at h
 | x :: r,a,0,_=>by simp [lst]
 | x :: r,a,i+1,h=>by
  have:=lst_take r x.2 i (by simpa using h)
  simp only [List.take_succ_cons,lst,List.getD_cons_succ] at this ⊢
  exact this
theorem ins_at:∀ (xs:List (Int×Int)) (k:Nat) (y:Int×Int),k<=xs.length->(∀ i,i < k->(xs.getD i (0,0)).2<=y.2)->(k < xs.length->y.2 < (xs.getD k (0,0)).2)->ins xs y=xs.take k ++ y :: xs.drop k
 | [],k,y,hk,_,_=>by simp [ins]
 | x :: r,0,y,_,_,h=>by
  have:=h (by simp)
  simp only [List.getD_cons_zero] at this
  simp [ins,show ¬ x.2<=y.2 by omega]
 | x :: r,k+1,y,hk,h1,h2=>by
  have h0:=h1 0 (by omega)
  simp only [List.getD_cons_zero] at h0
  have:=ins_at r k y (by simpa using hk) (fun i hi=>by simpa using h1 (i+1) (by omega)) (fun h=>by simpa using h2 (by simpa using h))
  simp [ins,h0,this]
theorem ins_perm:∀ (xs:List (Int×Int)) (y:Int×Int),(ins xs y).Perm (y :: xs)
 | [],y=>List.Perm.refl _
 | x :: r,y=>by
  by_cases h:x.2<=y.2
  ·simp only [ins,h,if_true]
   exact((ins_perm r y).cons x).trans (List.Perm.swap y x r)
  ·simp only [ins,h,if_false]
   exact List.Perm.refl _
theorem srt_snoc(ys:List (Int×Int))(y:Int×Int):srt (ys ++ [y])=ins (srt ys) y:=by simp [srt]
theorem snoc_ind{P:List (Int×Int)->Prop}(h0:P [])(h1:∀ ys y,P ys->P (ys ++ [y]))(ys:List (Int×Int)):P ys:=by
 have:∀ n (zs:List (Int×Int)),zs.length=n->P zs:=by
  intro n
  induction n with
  | zero=>intro zs hz;rw [List.eq_nil_of_length_eq_zero hz];exact h0
  | succ n ih =>
   intro zs hz
   have hne:zs≠[]:=by intro e;subst e;simp at hz
   rw [←List.dropLast_concat_getLast hne]
   exact h1 _ _ (ih _ (by simp [hz]))
 exact this _ ys rfl
theorem srt_perm(ys:List (Int×Int)):(srt ys).Perm ys:=by
 refine snoc_ind (P:=fun ys=>(srt ys).Perm ys) (List.Perm.refl _) (fun ys y ih=>?_) ys
 rw [srt_snoc]
 exact((ins_perm _ _).trans (ih.cons y)).trans (List.perm_append_comm (l₁:=[y]))
theorem srt_len(ys:List (Int×Int)):(srt ys).length=ys.length:=(srt_perm ys).length_eq
theorem srt_mem{ys:List (Int×Int)}{y:Int×Int}:y∈srt ys↔y∈ys:=(srt_perm ys).mem_iff
theorem ins_up{xs:List (Int×Int)}(h:Up xs)(y:Int×Int):Up (ins xs y):=by
 induction xs with
 | nil=>simp [ins,Up]
 | cons x r ih =>
  have hr:Up r:=(List.pairwise_cons.1 h).2
  have hx:=(List.pairwise_cons.1 h).1
  by_cases c:x.2<=y.2
  ·simp only [ins,c,if_true]
   refine List.pairwise_cons.2 ⟨fun z hz=>?_,ih hr⟩
   rcases List.mem_cons.1 ((ins_perm r y).mem_iff.1 hz) with e | e
   ·subst e;exact c
   ·exact hx z e
  ·simp only [ins,c,if_false]
   refine List.pairwise_cons.2 ⟨fun z hz=>?_,h⟩
   rcases List.mem_cons.1 hz with e | e
   ·subst e;omega
   ·have:=hx z e;omega
theorem srt_up(ys:List (Int×Int)):Up (srt ys):=by
 refine snoc_ind (P:=fun ys=>Up (srt ys)) (by simp [srt,Up]) (fun ys y ih=>?_) ys
 rw [srt_snoc]
 exact ins_up ih y
theorem ins_less{xs:List (Int×Int)}{y:Int×Int}(h:∀ x∈xs,y.2 < x.2):ins xs y=y :: xs:=by
 cases xs with
 | nil=>rfl
 | cons x r=>have:=h x (by simp);simp [ins,show ¬ x.2<=y.2 by omega]
theorem ins_last{xs:List (Int×Int)}{y:Int×Int}(h:∀ x∈xs,x.2<=y.2):ins xs y=xs ++ [y]:=by
 induction xs with
 | nil=>rfl
 | cons x r ih=>have:=h x (by simp);simp [ins,this,ih (fun z hz=>h z (by simp [hz]))]
theorem ins_filter(p:Int×Int->Bool){xs:List (Int×Int)}(h:Up xs)(y:Int×Int):(ins xs y).filter p=if p y then ins (xs.filter p) y else xs.filter p:=by
 induction xs with
 | nil=>by_cases hp:p y <;> simp [ins,hp]
 | cons x r ih =>
  have hr:Up r:=(List.pairwise_cons.1 h).2
  have hx:=(List.pairwise_cons.1 h).1
  by_cases c:x.2<=y.2
  ·simp only [ins,c,if_true,List.filter_cons,ih hr]
   by_cases hq:p x <;> by_cases hp:p y <;> simp [hq,hp,ins,c]
  ·have hl:∀ z∈(x :: r).filter p,y.2 < z.2:=by
    intro z hz
    rcases List.mem_cons.1 (List.mem_filter.1 hz).1 with e | e
    ·subst e;omega
    ·have:=hx z e;omega
   rw [ins_less hl]
   simp only [ins,c,if_false,List.filter_cons]
theorem srt_filter(p:Int×Int->Bool)(ys:List (Int×Int)):(srt ys).filter p=srt (ys.filter p):=by
 refine snoc_ind (P:=fun ys=>(srt ys).filter p=srt (ys.filter p)) rfl (fun ys y ih=>?_) ys
 rw [srt_snoc,ins_filter p (srt_up ys),ih,List.filter_append]
 by_cases hp:p y
 ·rw [if_pos hp,show [y].filter p=[y] by simp [hp],srt_snoc]
 ·rw [if_neg hp,show [y].filter p=[] by simp [hp],List.append_nil]
theorem ins_dec(xs:List (Int×Int))(y:Int×Int):ins (xs.map dec) (dec y)=(ins xs y).map dec:=by
 induction xs with
 | nil=>rfl
 | cons x r ih =>
  by_cases c:x.2<=y.2
  ·simp only [List.map_cons,ins,c,if_true,ih]
   rw [if_pos (by simp only [dec];omega)]
  ·simp only [List.map_cons,ins,c,if_false]
   rw [if_neg (by simp only [dec];omega)]
theorem srt_dec(ys:List (Int×Int)):srt (ys.map dec)=(srt ys).map dec:=by
 refine snoc_ind (P:=fun ys=>srt (ys.map dec)=(srt ys).map dec) rfl (fun ys y ih=>?_) ys
 rw [List.map_append,List.map_cons,List.map_nil,srt_snoc,srt_snoc,ih,ins_dec]
theorem srt_same{c:Int}{ys:List (Int×Int)}(h:∀ y∈ys,y.2=c):srt ys=ys:=by
 revert h
 refine snoc_ind (P:=fun ys=>(∀ y∈ys,y.2=c)->srt ys=ys) (fun _=>rfl) (fun ys y ih h=>?_) ys
 rw [srt_snoc,ih (fun z hz=>h z (by simp [hz]))]
 exact ins_last fun x hx=>by rw [h x (by simp [hx]),h y (by simp)];exact Int.le_refl _
theorem srt_woke(ys:List (Int×Int)):((srt ys).filter (fun y=>decide (y.2=1))).map Prod.fst=woke ys:=by
 rw [srt_filter,srt_same (c:=1) (fun y hy=>by simpa using (List.mem_filter.1 hy).2)]
 rfl
theorem srt_rest(ys:List (Int×Int)):srt (rest ys)=((srt ys).filter (fun y=>decide (y.2≠1))).map dec:=by
 rw [srt_filter,←srt_dec];rfl
theorem srt_gone(ys:List (Int×Int))(who:Int):srt (gone ys who)=(srt ys).filter (fun y=>decide (y.1≠who)):=(srt_filter _ _).symm
theorem getD_mem{xs:List (Int×Int)}{i:Nat}(h:i < xs.length):xs.getD i (0,0)∈xs:=by
 rw [List.getD_eq_getElem?_getD,List.getElem?_eq_getElem h]
 exact List.getElem_mem h
theorem cut_tick{xs:List (Int×Int)}(hu:Up xs)(hl:∀ x∈xs,1<=x.2){k:Nat}(hk:k<=xs.length)(h1:∀ i,i < k->(xs.getD i (0,0)).2<=1)(h2:k < xs.length->1 < (xs.getD k (0,0)).2) :
  xs.filter (fun y=>decide (y.2=1))=xs.take k/\xs.filter (fun y=>decide (y.2≠1))=xs.drop k:=by
 have ha:∀ x∈xs.take k,x.2=1:=by
  intro x hx
  obtain⟨i,hi,e⟩:=List.getElem_of_mem hx
  rw [List.getElem_take] at e
  have hik:i < k:=by simp at hi;omega
  have:=h1 i hik
  rw [List.getD_eq_getElem?_getD,List.getElem?_eq_getElem (by omega)] at this
  have h3:=hl x (List.mem_of_mem_take hx)
  rw [←e] at h3 ⊢
  simp only [Option.getD_some] at this
  omega
 have hb:∀ x∈xs.drop k,x.2≠1:=by
  intro x hx
  have hkl:k < xs.length:=by
   rcases Nat.lt_or_ge k xs.length with h | h
   ·exact h
   ·rw [List.drop_eq_nil_of_le h] at hx;simp at hx
  have h3:=h2 hkl
  rw [List.getD_eq_getElem?_getD,List.getElem?_eq_getElem hkl,Option.getD_some] at h3
  rw [List.drop_eq_getElem_cons hkl] at hx
  rcases List.mem_cons.1 hx with e | e
  ·subst e;omega
  ·have hp:Up (xs.drop k):=List.Pairwise.drop hu
   rw [List.drop_eq_getElem_cons hkl] at hp
   have:=(List.pairwise_cons.1 hp).1 x e
   omega
 have e:=List.take_append_drop k xs
 constructor
 ·conv=>lhs;rw [←e]
  rw [List.filter_append,List.filter_eq_self.2 (fun x hx=>by simpa using ha x hx),List.filter_eq_nil_iff.2 (fun x hx=>by simpa using hb x hx),List.append_nil]
 ·conv=>lhs;rw [←e]
  rw [List.filter_append,List.filter_eq_nil_iff.2 (fun x hx=>by simpa using ha x hx),List.filter_eq_self.2 (fun x hx=>by simpa using hb x hx),List.nil_append]
theorem lst_all{xs:List (Int×Int)}{a:Int}(h:∀ x∈xs,x.2=a):lst a xs=a:=by
 induction xs generalizing a with
 | nil=>rfl
 | cons x r ih =>
  have hx:=h x (by simp)
  simp only [lst]
  rw [hx]
  exact ih fun z hz=>h z (by simp [hz])
theorem dl_drop{xs:List (Int×Int)}{k:Nat}(h:∀ x∈xs.take k,x.2=0):(dl 0 xs).drop k=dl 0 (xs.drop k):=by
 rcases Nat.lt_or_ge k xs.length with hk | hk
 ·have e:=dl_app (xs.take k) (xs.drop k) 0
  rw [List.take_append_drop,lst_all h] at e
  rw [e,List.drop_append,dl_len,List.drop_eq_nil_of_le (by rw [dl_len];simp;omega)]
  simp [Nat.min_eq_left (Nat.le_of_lt hk)]
 ·rw [List.drop_eq_nil_of_le (by rw [dl_len];exact hk),List.drop_eq_nil_of_le hk];rfl
theorem dl_take(xs:List (Int×Int))(a:Int)(k:Nat)(hk:k<=xs.length):(dl a xs).take k=dl a (xs.take k)/\(dl a xs).drop k=dl (lst a (xs.take k)) (xs.drop k):=by
 have e:=dl_app (xs.take k) (xs.drop k) a
 rw [List.take_append_drop] at e
 have hl:(dl a (xs.take k)).length=k:=by rw [dl_len];simp;omega
 rw [e]
 constructor
 ·rw [List.take_append_of_le_length (by omega),List.take_of_length_le (by omega)]
 ·rw [List.drop_append,hl,Nat.sub_self,List.drop_eq_nil_of_le (by omega)];simp
theorem dl_ins(xs:List (Int×Int))(k:Nat)(hk:k<=xs.length)(y:Int×Int) :
  dl 0 (xs.take k ++ y :: xs.drop k)=(dl 0 xs).take k ++ (y.1,y.2 - lst 0 (xs.take k)) :: sh (lst 0 (xs.take k) - y.2) ((dl 0 xs).drop k):=by
 obtain⟨e1,e2⟩:=dl_take xs 0 k hk
 rw [e1,e2,←dl_sh,dl_app]
 rfl
theorem dl_rem(xs:List (Int×Int))(k:Nat)(hk:k < xs.length) :
  dl 0 (xs.eraseIdx k)=(dl 0 xs).take k ++ sh ((xs.getD k (0,0)).2 - lst 0 (xs.take k)) ((dl 0 xs).drop (k+1)):=by
 obtain⟨e1,e2⟩:=dl_take xs 0 k (by omega)
 obtain⟨e3,e4⟩:=dl_take xs 0 (k+1) (by omega)
 rw [lst_take xs 0 k hk] at e4
 rw [List.eraseIdx_eq_take_drop_succ,dl_app,e1,e4,←dl_sh]
def Keys(xs:List (Int×Int)):Prop:=(xs.map Prod.fst).Nodup
theorem keys_eq{xs:List (Int×Int)}(h:Keys xs){x y:Int×Int}(hx:x∈xs)(hy:y∈xs)(e:x.1=y.1):x=y:=by
 unfold Keys at h
 induction xs with
 | nil=>simp at hx
 | cons z r ih =>
  rw [List.map_cons,List.nodup_cons] at h
  rcases List.mem_cons.1 hx with rfl | hx
  ·rcases List.mem_cons.1 hy with rfl | hy
   ·rfl
   ·exact absurd (List.mem_map.2 ⟨y,hy,e.symm⟩) h.1
  ·rcases List.mem_cons.1 hy with hy | hy
   ·subst hy;exact absurd (List.mem_map.2 ⟨x,by assumption,e⟩) h.1
   ·exact ih h.2 (by assumption) hy
theorem erase_gone:∀ {xs:List (Int×Int)},Keys xs->∀ {k:Nat},k < xs.length->∀ {who:Int},(xs.getD k (0,0)).1=who->xs.eraseIdx k=xs.filter (fun y=>decide (y.1≠who))
 | [],_,_,h,_,_=>by simp at h
 | x :: r,hk,0,_,who,e=>by
  simp only [List.getD_cons_zero] at e
  subst e
  unfold Keys at hk
  rw [List.map_cons,List.nodup_cons] at hk
  simp only [List.eraseIdx_zero,List.tail_cons,List.filter_cons,ne_eq,decide_not,decide_true,Bool.not_true]
  rw [List.filter_eq_self.2]
  ·rfl
  ·intro y hy
   have:y.1≠x.1:=fun e=>hk.1 (List.mem_map.2 ⟨y,hy,e⟩)
   simpa using this
 | x :: r,hk,k+1,h,who,e=>by
  unfold Keys at hk
  rw [List.map_cons,List.nodup_cons] at hk
  have hkr:k < r.length:=by simpa using h
  have e':(r.getD k (0,0)).1=who:=by simpa using e
  have hx:x.1≠who:=fun c=>hk.1 (List.mem_map.2 ⟨_,getD_mem hkr,e'.trans c.symm⟩)
  rw [List.eraseIdx_cons_succ,erase_gone (xs:=r) hk.2 hkr e',List.filter_cons,if_pos (by simpa using hx)]
structure Good (ys:List (Int×Int)):Prop where
 keys:Keys ys
 lo:∀ y∈ys,1<=y.2
 hi:∀ y∈ys,y.2<=1073741824
 who:∀ y∈ys,0<=y.1
theorem Good.nil:Good []:=⟨by simp [Keys],by simp,by simp,by simp⟩
theorem Keys.perm{xs ys:List (Int×Int)}(h:Keys xs)(p:xs.Perm ys):Keys ys:=(p.map Prod.fst).nodup_iff.1 h
theorem Keys.filter{xs:List (Int×Int)}(h:Keys xs)(p:Int×Int->Bool):Keys (xs.filter p):=by
 unfold Keys at h ⊢
 exact h.sublist (List.Sublist.map _ List.filter_sublist)
theorem Good.filter{ys:List (Int×Int)}(h:Good ys)(p:Int×Int->Bool):Good (ys.filter p) :=
 ⟨h.keys.filter p,fun y hy=>h.lo y (List.mem_filter.1 hy).1,fun y hy=>h.hi y (List.mem_filter.1 hy).1,fun y hy=>h.who y (List.mem_filter.1 hy).1⟩
theorem Good.gone{ys:List (Int×Int)}(h:Good ys)(who:Int):Good (gone ys who):=h.filter _
theorem Good.rest{ys:List (Int×Int)}(h:Good ys):Good (rest ys):=by
 have hf:=h.filter (fun y=>decide (y.2≠1))
 refine⟨?_,?_,?_,?_⟩
 ·have:=hf.keys
  unfold Keys at this ⊢
  unfold YtbbdndfibjdcfaaGreat.Tm.rest
  rw [List.map_map]
  exact this
 all_goals
  intro y hy
  obtain⟨z,hz,rfl⟩:=List.mem_map.1 hy
  have h1:=hf.lo z hz
  have h2:=hf.hi z hz
  have h3:=hf.who z hz
  have h4:=(List.mem_filter.1 hz).2
  simp only [dec] at *
  simp at h4
  omega
theorem Good.put{ys:List (Int×Int)}(h:Good ys){who t:Int}(hw:0<=who)(h1:1<=t)(h2:t<=1073741824)(hn:∀ y∈ys,y.1≠who):Good (ys ++ [(who,t)]):=by
 refine⟨?_,?_,?_,?_⟩
 ·have:=h.keys
  unfold Keys at this ⊢
  rw [List.map_append,List.nodup_append]
  refine⟨this,by simp,fun a ha b hb=>?_⟩
  obtain⟨y,hy,rfl⟩:=List.mem_map.1 ha
  have:b=who:=by simpa using hb
  subst this
  exact hn y hy
 all_goals
  intro y hy
  rcases List.mem_append.1 hy with hy | hy
  ·first | exact h.lo y hy | exact h.hi y hy | exact h.who y hy
  ·obtain rfl:y=(who,t):=by simpa using hy
   assumption
theorem Good.sorted{ys:List (Int×Int)}(h:Good ys):Good (srt ys) :=
 ⟨h.keys.perm (srt_perm ys).symm,fun y hy=>h.lo y (srt_mem.1 hy),fun y hy=>h.hi y (srt_mem.1 hy),fun y hy=>h.who y (srt_mem.1 hy)⟩
structure Buts (l:List Nat) (w w':World):Prop where
 os:w'.os=w.os
 tape:w'.tape=w.tape
 output:w'.output=w.output
 size:w.heap.size<=w'.heap.size
 block:∀ k,k < w.heap.size->k ∉ l->w'.heap[k]?=w.heap[k]?
theorem Buts.refl(l:List Nat)(w:World):Buts l w w:=⟨rfl,rfl,rfl,Nat.le_refl _,fun _ _ _=>rfl⟩
theorem Buts.trans{l:List Nat}{a b c:World}(h:Buts l a b)(k:Buts l b c):Buts l a c :=
 ⟨k.os.trans h.os,k.tape.trans h.tape,k.output.trans h.output,Nat.le_trans h.size k.size,fun i hi hg=>(k.block i (Nat.lt_of_lt_of_le hi h.size) hg).trans (h.block i hi hg)⟩
theorem Buts.mono{l m:List Nat}{a b:World}(h:Buts l a b)(hm:∀ x∈l,x∈m):Buts m a b :=
 ⟨h.os,h.tape,h.output,h.size,fun i hi hg=>h.block i hi fun e=>hg (hm i e)⟩
theorem Buts.of{l:List Nat}{w w':World}(h:Below w.heap.size w w'):Buts l w w':=⟨h.os,h.tape,h.output,h.size,fun k hk _=>h.block k hk⟩
theorem Buts.below{l:List Nat}{B:Nat}{w w':World}(h:Buts l w w')(hg:∀ x∈l,B<=x)(hB:B<=w.heap.size):Below B w w' :=
 ⟨h.os,h.tape,h.output,h.size,fun k hk=>h.block k (by omega) (fun e=>by have:=hg k e;omega)⟩
theorem Buts.drew{l:List Nat}{a b:World}(h:Buts l a b):Buts l a b.drew:=⟨h.os,h.tape,h.output,h.size,h.block⟩
theorem Buts.cell(w:World)(g k:Nat)(v:Value):Buts [g] w (w.setCell ⟨g,k,none⟩ v) :=
 ⟨rfl,rfl,rfl,by simp [World.setCell],fun j hj hg=>Below.heap_setCell _ _ _ _ (by simpa using hg)⟩
theorem Buts.grown{w w':World}{row:Option Nat}(h:w.grownBy w' row):Buts row.toList w w' :=
 ⟨h.os,h.tape,h.output,h.size,fun k hk hg=>h.block k hk (fun e=>hg (by rw [←e];simp))⟩
theorem owns_buts{w w':World}{B:Nat}{e:TypeId}{s:Nat}{v:Value}{n:Nat}{xs:List Value}{l:List Nat}(h:w.ownsRow B e s v n xs)(hb:Buts l w w')(hl:∀ g,v.ownBlock=some g->g ∉ l):w'.ownsRow B e s v n xs :=
 owns_of h fun g hg=>hb.block g (h.lt g hg).2 (hl g hg)
theorem own_ne{w:World}{B B' g H:Nat}{v v':Value}{n n':Nat}{xs xs':List Value}{t t':TypeId}{s s':Nat}(h:w.ownsRow B t s v n xs)(hv:v.ownBlock=some g)(h':w.ownsRow B' t' s' v' n' xs')(hv':v'.ownBlock=some H)(ht:t≠t'):g≠H:=by
 rcases h'.2 with⟨rfl,_⟩ |⟨g',c,cur,rfl,_,hh,_⟩
 ·simp [Value.ownBlock] at hv'
 ·have:g'=H:=by simpa [Value.ownBlock] using hv'
  subst this
  exact block_ne h hv hh ht
theorem owns_base{w:World}{B B' m s:Nat}{t:TypeId}{v:Value}{xs:List Value}(h:w.ownsRow B' t s v m xs)(hb:B<=B'):w.ownsRow B t s v m xs:=by
 obtain⟨h1,h2⟩:=h
 refine⟨h1,?_⟩
 rcases h2 with h2 |⟨g,cap,cur,rfl,hg,r⟩
 ·exact Or.inl h2
 ·exact Or.inr ⟨g,cap,cur,rfl,by omega,r⟩
theorem infoK:(Tryz.prog.info? 219).map (fun i=>(i.zero,i.size,i.bytes))=some (some (.agg #[.int .i64 0,.int .i64 0]),2,16):=by kernel_rfl
def lks:List (Int×Int)->List Value
 | []=>[]
 | x :: r=>.int .i64 x.1 :: .int .i64 x.2 :: lks r
theorem lks_len:∀ ds:List (Int×Int),(lks ds).length=ds.length * 2
 | []=>rfl
 | x :: r=>by simp [lks,lks_len r];omega
theorem lks_app:∀ ds es:List (Int×Int),lks (ds ++ es)=lks ds ++ lks es
 | [],_=>rfl
 | x :: r,es=>by simp [lks,lks_app r]
theorem lks_take:∀ (ds:List (Int×Int)) (k:Nat),lks (ds.take k)=(lks ds).take (k * 2)
 | [],k=>by simp [lks]
 | x :: r,0=>by simp [lks]
 | x :: r,k+1=>by
  rw [show(k+1) * 2=k * 2+1+1 by omega]
  simp [lks,lks_take r]
theorem lks_drop:∀ (ds:List (Int×Int)) (k:Nat),lks (ds.drop k)=(lks ds).drop (k * 2)
 | [],k=>by simp [lks]
 | x :: r,0=>by simp [lks]
 | x :: r,k+1=>by
  rw [show(k+1) * 2=k * 2+1+1 by omega]
  simp [lks,lks_drop r]
theorem lks_at:∀ (ds:List (Int×Int)) (i:Nat),i < ds.length->(lks ds)[i * 2]?=some (.int .i64 (ds.getD i (0,0)).1)/\(lks ds)[i * 2+1]?=some (.int .i64 (ds.getD i (0,0)).2)
 | [],_,h=>by simp at h
 | x :: r,0,_=>by simp [lks]
 | x :: r,i+1,h=>by
  rw [show(i+1) * 2=i * 2+1+1 by omega]
  have:=lks_at r i (by simpa using h)
  simpa [lks] using this
theorem lks_one(ds:List (Int×Int)):∀ u∈lks ds,u.oneCell'=true:=by
 induction ds with
 | nil=>simp [lks]
 | cons x r ih =>
  intro u hu
  simp only [lks,List.mem_cons] at hu
  rcases hu with rfl | rfl | hu
  ·rfl
  ·rfl
  ·exact ih u hu
theorem lks_set:∀ (ds:List (Int×Int)) (k:Nat) (z:Int),k < ds.length->(lks ds).set (k * 2+1) (.int .i64 z)=lks (ds.set k ((ds.getD k (0,0)).1,z))
 | [],_,_,h=>by simp at h
 | x :: r,0,z,_=>by simp [lks]
 | x :: r,k+1,z,h=>by
  rw [show(k+1) * 2=k * 2+1+1 by omega]
  have:=lks_set r k z (by simpa using h)
  simp only [lks,List.set_cons_succ,List.getD_cons_succ]
  rw [this]
def shAt(k:Nat)(d:Int)(ds:List (Int×Int)):List (Int×Int):=ds.take k ++ sh d (ds.drop k)
theorem shAt_no{k:Nat}{d:Int}{ds:List (Int×Int)}(h:ds.length<=k):shAt k d ds=ds:=by
 rw [shAt,List.drop_eq_nil_of_le h,List.take_of_length_le h];simp [sh]
theorem shAt_set{k:Nat}{d:Int}{ds:List (Int×Int)}(h:k < ds.length):shAt k d ds=ds.set k ((ds.getD k (0,0)).1,(ds.getD k (0,0)).2+d):=by
 rw [shAt,List.drop_eq_getElem_cons h,List.set_eq_take_append_cons_drop,if_pos h,List.getD_eq_getElem?_getD,List.getElem?_eq_getElem h]
 rfl
def Own(B:Nat)(w:World)(v:Value)(ds:List (Int×Int)):Prop:=w.ownsRow B 219 2 v ds.length (lks ds)
theorem Own.buts{B:Nat}{w w':World}{v:Value}{ds:List (Int×Int)}{l:List Nat}(h:Own B w v ds)(hb:Buts l w w')(hl:∀ g,v.ownBlock=some g->g ∉ l):Own B w' v ds:=owns_buts h hb hl
theorem Own.below{B:Nat}{w w':World}{v:Value}{ds:List (Int×Int)}(h:Own B w v ds)(hb:Below w.heap.size w w'):Own B w' v ds:=h.buts (l:=[]) (Buts.of hb) (fun _ _=>by simp)
theorem Own.lt'{B:Nat}{w:World}{v:Value}{ds:List (Int×Int)}(h:Own B w v ds){g:Nat}(hg:v.ownBlock=some g):B<=g/\g < w.heap.size:=World.ownsRow.lt h g hg
theorem Own.kind{B:Nat}{w:World}{v:Value}{ds:List (Int×Int)}(h:Own B w v ds){g:Nat}(hg:v.ownBlock=some g):∃ cur,w.heap[g]?=some (.cells cur 219 (0,0)):=by
 rcases h.2 with⟨rfl,_⟩ |⟨g',cap,cur,rfl,_,hh,_⟩
 ·simp [Value.ownBlock] at hg
 ·obtain rfl:g'=g:=by simpa [Value.ownBlock] using hg
  exact⟨cur,hh⟩
theorem Own.form{B:Nat}{w:World}{v:Value}{ds:List (Int×Int)}(h:Own B w v ds):∃ sp cap,v=.slice sp ds.length cap/\ds.length<=cap/\cap<=maxLen/\(sp=none->ds.length=0/\cap=0):=by
 rcases h.2 with⟨rfl,h0⟩ |⟨g,cap,cur,rfl,_,_,hc,hm,_⟩
 ·exact⟨none,0,by rw [h0],by omega,by simp [maxLen],fun _=>⟨h0,rfl⟩⟩
 ·exact⟨_,cap,rfl,hc,hm,fun h=>by cases h⟩
theorem Own.spot{B:Nat}{w:World}{v:Value}{ds:List (Int×Int)}(h:Own B w v ds)(hn:0 < ds.length):∃ g cap,v=.slice (some ⟨g,0,none⟩) ds.length cap/\ds.length<=cap/\cap<=maxLen:=owns_spot h hn
theorem Own.cells{B:Nat}{w:World}{g n cap:Nat}{ds:List (Int×Int)}(h:Own B w (.slice (some ⟨g,0,none⟩) n cap) ds)(hn:n=ds.length)(i:Nat)(hi:i < ds.length) :
  w.cell? ⟨g,i * 2,none⟩=some (.int .i64 (ds.getD i (0,0)).1)/\w.cell? ⟨g,i * 2+1,none⟩=some (.int .i64 (ds.getD i (0,0)).2):=by
 subst hn
 have h':w.ownsRow B 219 2 (.slice (some ⟨g,0,none⟩) ds.length cap) ds.length (lks ds):=h
 rw [h'.cellAt (i * 2) (by omega),h'.cellAt (i * 2+1) (by omega)]
 exact lks_at ds i hi
theorem Own.free{B:Nat}{w:World}{g n cap:Nat}{ds:List (Int×Int)}(h:Own B w (.slice (some ⟨g,0,none⟩) n cap) ds)(i:Nat):w.frozen? ⟨g,i,none⟩=false:=by
 obtain⟨cur,hh⟩:=h.kind (g:=g) rfl
 simp [World.frozen?,hh]
theorem Own.set{B:Nat}{w:World}{g cap:Nat}{ds:List (Int×Int)}(h:Own B w (.slice (some ⟨g,0,none⟩) ds.length cap) ds)(k:Nat)(hk:k < ds.length)(z:Int) :
  Own B (w.setCell ⟨g,k * 2+1,none⟩ (.int .i64 z)) (.slice (some ⟨g,0,none⟩) ds.length cap) (ds.set k ((ds.getD k (0,0)).1,z)):=by
 have h':w.ownsRow B 219 2 (.slice (some ⟨g,0,none⟩) ds.length cap) ds.length (lks ds):=h
 have:=(h'.stored (k * 2+1) (.int .i64 z)).1
 rw [lks_set ds k z hk] at this
 unfold Own
 rw [List.length_set]
 exact this
structure Ch (B:Nat) (w:World) (p:Nat) (v:Value) (ds:List (Int×Int)):Prop where
 head:w.heap[p]?=some (.cells #[.bool true,v] 144 (0,0))
 own:Own B w v ds
 len:ds.length<=1000
 low:B<=p
theorem Ch.buts{B:Nat}{w w':World}{p:Nat}{v:Value}{ds:List (Int×Int)}{l:List Nat}(h:Ch B w p v ds)(hb:Buts l w w')(hp:p ∉ l)(hl:∀ g,v.ownBlock=some g->g ∉ l):Ch B w' p v ds :=
 ⟨(hb.block p (at_lt h.head) hp).trans h.head,h.own.buts hb hl,h.len,h.low⟩
theorem Ch.below{B:Nat}{w w':World}{p:Nat}{v:Value}{ds:List (Int×Int)}(h:Ch B w p v ds)(hb:Below w.heap.size w w'):Ch B w' p v ds :=
 h.buts (l:=[]) (Buts.of hb) (by simp) (fun _ _=>by simp)
theorem Ch.ne{B:Nat}{w:World}{p:Nat}{v:Value}{ds:List (Int×Int)}(h:Ch B w p v ds){g:Nat}(hg:v.ownBlock=some g):p≠g:=by
 rintro rfl
 obtain⟨cur,hc⟩:=h.own.kind hg
 rw [h.head] at hc
 simp at hc
theorem Ch.made{B:Nat}{w:World}{p:Nat}{v:Value}{ds:List (Int×Int)}(h:Ch B w p v ds):w.cell? ⟨p,0,none⟩=some (.bool true):=by rw [cell_of h.head];rfl
theorem Ch.lnk{B:Nat}{w:World}{p:Nat}{v:Value}{ds:List (Int×Int)}(h:Ch B w p v ds):w.cell? ⟨p,1,none⟩=some v:=by rw [cell_of h.head];rfl
theorem Ch.fp{B:Nat}{w:World}{p:Nat}{v:Value}{ds:List (Int×Int)}(h:Ch B w p v ds)(i:Nat):w.frozen? ⟨p,i,none⟩=false:=by simp [World.frozen?,h.head]
def Nx(B:Nat)(w w':World)(p:Nat)(v:Value)(es:List (Int×Int)):Prop:=∃ v',Ch B w' p v' es/\Buts (p :: v.ownBlock.toList) w w'/\∀ g,v'.ownBlock=some g->v.ownBlock=some g∨w.heap.size<=g
theorem Ch.lay{B:Nat}{w w2:World}{p:Nat}{v v':Value}{ds es:List (Int×Int)}(h:Ch B w p v ds)(ho:Own B w2 v' es)(hb:Buts v.ownBlock.toList w w2)(hl:es.length<=1000)(hne:∀ g,v'.ownBlock=some g->v.ownBlock=some g∨w.heap.size<=g) :
  Ch B (w2.setCell ⟨p,1,none⟩ v') p v' es/\Buts (p :: v.ownBlock.toList) w (w2.setCell ⟨p,1,none⟩ v'):=by
 have hp:w2.heap[p]?=some (.cells #[.bool true,v] 144 (0,0)):=by
  rw [hb.block p (at_lt h.head) (fun hm=>by
   have:v.ownBlock=some p:=by simpa using hm
   exact h.ne this rfl)]
  exact h.head
 refine⟨⟨by rw [set_block hp];rfl,ho.buts (Buts.cell _ _ _ _) (fun g hg hm=>?_),hl,h.low⟩,(hb.mono (by simp;intro x hx;exact Or.inr hx)).trans ((Buts.cell _ _ _ _).mono (by simp))⟩
 obtain rfl:g=p:=by simpa using hm
 obtain⟨cur,hc⟩:=ho.kind hg
 rw [hp] at hc
 simp at hc
theorem addr_add(g k j:Nat):(⟨g,k,none⟩:Addr).add j=⟨g,k+j,none⟩:=by unfold Addr.add;split <;> simp_all
theorem run_copy2(w:World)(ty:TypeId)(g off dLen dCap:Nat)(ad:Addr)(sLen sCap:Nat)(cur:Array Value)(cs:List Value)
  (hg:w.heap[g]?=some (.cells cur 219 (0,0))) (hn:cs.length=Nat.min sLen dLen * 2) (hsrc:∀ j v,cs[j]?=some v->w.cell? (ad.add j)=some v) (hfit:off+cs.length<=cur.size) (h1:∀ v∈cs,v.oneCell'=true) :
  (Builtin.copy_ #[140,140] ty #[.slice (some ⟨g,off,none⟩) dLen dCap,.slice (some ad) sLen sCap]).run Tryz.prog w =
   .ok (goInt (Nat.min sLen dLen)) (w.setRow g (cur.toList.take off ++ cs ++ cur.toList.drop (off+cs.length)).toArray):=by
 have hl:=run_loadCells_list (P:=Tryz.prog) w ad cs hsrc
 have hst:=run_storeCells_at Tryz.prog g off 219 cs 0 cur w hg (by simpa using hfit) h1
 obtain⟨i,hi,hz,hs,hby⟩:=info_parts' infoK
 simp [Builtin.copy_,run_underlying Tryz.underlying140,Builtin.lenOf,Builtin.firstCells,sizeOf,typeInfo,hi,hs,←hn,hl,hst]
theorem setRow_buts(w:World)(g:Nat)(cs:Array Value):Buts [g] w (w.setRow g cs) :=
 ⟨rfl,rfl,rfl,by simp [World.setRow],fun k hk hg=>setRow_other w g k cs (by simpa using hg)⟩
theorem copy2(w:World)(ty:TypeId)(g off dLen dCap:Nat)(ad:Addr)(sLen sCap:Nat)(cur:List Value)(cs:List Value)
  (hg:w.heap[g]?=some (.cells cur.toArray 219 (0,0))) (hn:cs.length=Nat.min sLen dLen * 2) (hsrc:∀ j v,cs[j]?=some v->w.cell? (ad.add j)=some v) (hfit:off+cs.length<=cur.length) (h1:∀ v∈cs,v.oneCell'=true) :
  ∃ w',(Builtin.copy_ #[140,140] ty #[.slice (some ⟨g,off,none⟩) dLen dCap,.slice (some ad) sLen sCap]).run Tryz.prog w=.ok (goInt (Nat.min sLen dLen)) w'/\Hid (w'.heap[g]?=some (.cells (splice cur off cs).toArray 219 (0,0)))/\Hid (Buts [g] w w'):=by
 refine⟨_,run_copy2 w ty g off dLen dCap ad sLen sCap cur.toArray cs hg hn hsrc (by simpa using hfit) h1,?_,setRow_buts _ _ _⟩
 show _=_
 rw [setRow_heap w g cur.toArray _ 219 _ hg]
 simp [splice]
theorem step_copy2{w:World}{ops:Array Oper}{o:Oper}{a:Go.Act}{K:Go.Act->World->Prop}{Q:Exit->Go.Act->World->Prop}{X:Prop}(hgd:o.guard=none)(d s:Operand)
  (ho:o.op=.call { callee:=.builtin .copy,args:=#[d,s],argTypes:=#[140,140] }) (g off dLen dCap:Nat) (ad:Addr) (sLen sCap:Nat) (cur:List Value) (cs:List Value)
  (hd:a.eval d=.slice (some ⟨g,off,none⟩) dLen dCap) (hs:a.eval s=.slice (some ad) sLen sCap)
  (hg:w.heap[g]?=some (.cells cur.toArray 219 (0,0))) (hn:cs.length=Nat.min sLen dLen * 2) (hsrc:∀ j v,cs[j]?=some v->w.cell? (ad.add j)=some v) (hfit:off+cs.length<=cur.length) (h1:∀ v∈cs,v.oneCell'=true)
  (h:∀ w',Hid (w'.heap[g]?=some (.cells (splice cur off cs).toArray 219 (0,0)))->Hid (Buts [g] w w')->K (a.put o.dst (goInt (Nat.min sLen dLen))) w'):if Region.wanted o (yielded ops a.tmps)=true then Oper.wp Tryz.prog o a w K Q else X:=by
 have hw:Region.wanted o (yielded ops a.tmps)=true:=by simp [Region.wanted,hgd]
 rw [if_pos hw]
 have hr:=run_copy2 w o.type g off dLen dCap ad sLen sCap cur.toArray cs hg hn hsrc (by simpa using hfit) h1
 unfold Oper.wp execOp
 simp only [ho,resolve,invoke,builtin,Sem.run_bind,Sem.run_pure,Result.andThen_ok,List.map_toArray,List.map_cons,List.map_nil,hd,hs,hr]
 refine h _ ?_ (setRow_buts _ _ _)
 show _=_
 rw [setRow_heap w g cur.toArray _ 219 _ hg]
 simp [splice]
theorem step_fits2{w:World}{ops:Array Oper}{o:Oper}{a:Go.Act}{K:Go.Act->World->Prop}{Q:Exit->Go.Act->World->Prop}{X:Prop}(hgd:o.guard=none)(s x:Operand)
  (ho:o.op=.call { callee:=.builtin .append,args:=#[s,x],argTypes:=#[140,140] }) (B g i cap:Nat) (xs:List Value) (hs:a.eval s=.slice (some ⟨g,0,none⟩) i cap) (hown:w.ownsRow B 219 2 (.slice (some ⟨g,0,none⟩) i cap) i xs)
  (ad:Addr) (m c:Nat) (news:List Value) (hx:a.eval x=.slice (some ad) m c) (hl:news.length=m * 2) (hnews:∀ j u,news[j]?=some u->w.cell? (ad.add j)=some u) (h1:∀ u∈news,u.oneCell'=true) (hroom:i+m<=cap)
  (h:∀ w',Hid (w'.ownsRow B 219 2 (.slice (some ⟨g,0,none⟩) (i+m) cap) (i+m) (xs ++ news))->Hid (Buts [g] w w')->K (a.put o.dst (.slice (some ⟨g,0,none⟩) (i+m) cap)) w'):if Region.wanted o (yielded ops a.tmps)=true then Oper.wp Tryz.prog o a w K Q else X:=by
 have hw:Region.wanted o (yielded ops a.tmps)=true:=by simp [Region.wanted,hgd]
 rw [if_pos hw]
 obtain⟨i0,hi,hz,hs0,hby⟩:=info_parts' infoK
 obtain⟨w',hr,ho',hg⟩:=run_append_fits (P:=Tryz.prog) w B 140 o.type 219 i0 2 Tryz.underlying140 hi hs0 g i cap xs hown ad m c news hl hnews h1 hroom
 unfold Oper.wp execOp
 simp only [ho,resolve,invoke,builtin,Sem.run_bind,Sem.run_pure,Result.andThen_ok,List.map_toArray,List.map_cons,List.map_nil,hs,hx,hr]
 exact h _ ho' (Buts.grown hg)
theorem zero_cells(m:Nat):(Builtin.zeroCells (Value.agg #[.int .i64 0,.int .i64 0]).cells m).toList.length=m * 2/\∀ v∈(Builtin.zeroCells (Value.agg #[.int .i64 0,.int .i64 0]).cells m).toList,v.oneCell'=true:=by
 refine⟨by simp [Builtin.zeroCells,Value.cells],fun v hv=>?_⟩
 simp only [Builtin.zeroCells,Value.cells,Array.toList_map,List.mem_map] at hv
 obtain⟨k,_,rfl⟩:=hv
 have:k % 2=0∨k % 2=1:=by omega
 rcases this with e | e <;> simp [e,Value.oneCell']
theorem run_clear2(w:World)(ty:TypeId)(B g k n cap c:Nat)(xs:List Value)(hown:w.ownsRow B 219 2 (.slice (some ⟨g,0,none⟩) k cap) k xs)(hk:k < n)(hn:n<=cap) :
  ∃ w',(Builtin.clear_ #[140] ty #[.slice (some ⟨g,k * 2,none⟩) (n - k) c]).run Tryz.prog w=.ok (.tuple #[]) w'/\w'.ownsRow B 219 2 (.slice (some ⟨g,0,none⟩) k cap) k xs/\Buts [g] w w':=by
 rcases hown.2 with⟨h,_⟩ |⟨g',cap',cur,h,hbg,hg,hnc,hcm,hcs,htake⟩
 ·simp at h
 simp only [Value.slice.injEq,Option.some.injEq,Addr.mk.injEq,and_true,true_and] at h
 obtain⟨rfl,rfl⟩:=h
 obtain⟨hzl,hz1⟩:=zero_cells (n - k)
 have hst:=run_storeCells_at Tryz.prog g (k * 2) 219 _ 0 cur w hg (by rw [hzl,hcs];omega) hz1
 have hzv:∀ w,(zeroValue 219).run Tryz.prog w=.ok (.agg #[.int .i64 0,.int .i64 0]) w:=Tryz.zeroValue219
 obtain⟨m,hm⟩:∃ m,n - k=m+1:=⟨n - k - 1,by omega⟩
 obtain⟨Z,hZ⟩:∃ Z,(Builtin.zeroCells (Value.agg #[.int .i64 0,.int .i64 0]).cells (n - k)).toList=Z:=⟨_,rfl⟩
 rw [hZ] at hst hzl
 rw [hm] at hZ ⊢
 simp only [Nat.add_zero] at hst
 refine⟨w.setRow g (cur.toList.take (k * 2) ++ Z ++ cur.toList.drop (k * 2+Z.length)).toArray,?_,⟨hown.1,.inr ⟨g,cap,_,rfl,hbg,setRow_heap w g cur _ 219 _ hg,hnc,hcm,?_,?_⟩⟩,setRow_buts _ _ _⟩
 ·simp [Builtin.clear_,run_underlying Tryz.underlying140,hzv,hZ,hst]
 ·simp only [List.size_toArray,List.length_append,List.length_take,List.length_drop,Array.length_toList,hzl]
  omega
 ·simp only
  rw [List.append_assoc,List.take_append_of_le_length (by simp;omega),List.take_take,Nat.min_self]
  exact htake
theorem owns_cut{w:World}{B g n cap:Nat}{ds:List (Int×Int)}(h:Own B w (.slice (some ⟨g,0,none⟩) n cap) ds)(hn:n=ds.length)(i:Nat)(hi:i<=ds.length):w.ownsRow B 219 2 (.slice (some ⟨g,0,none⟩) i cap) i (lks (ds.take i)):=by
 subst hn
 rcases h.2 with⟨h',_⟩ |⟨g',cap',cur,h',hbg,hg,hnc,hcm,hcs,htake⟩
 ·simp at h'
 simp only [Value.slice.injEq,Option.some.injEq,Addr.mk.injEq,and_true,true_and] at h'
 obtain⟨rfl,rfl⟩:=h'
 refine⟨by rw [lks_len];simp;omega,.inr ⟨g,cap,cur,rfl,hbg,hg,by omega,hcm,hcs,?_⟩⟩
 rw [lks_take,←htake,List.take_take,Nat.min_eq_left (by omega)]
theorem drop_cells{w:World}{B g n cap:Nat}{ds:List (Int×Int)}(h:Own B w (.slice (some ⟨g,0,none⟩) n cap) ds)(hn:n=ds.length)(k:Nat):∀ j u,(lks (ds.drop k))[j]?=some u->w.cell? ((⟨g,k * 2,none⟩:Addr).add j)=some u:=by
 subst hn
 intro j u hj
 rw [lks_drop,List.getElem?_drop] at hj
 have hlt:k * 2+j < ds.length * 2:=by
  rcases Nat.lt_or_ge (k * 2+j) (ds.length * 2) with c | c
  ·exact c
  ·rw [List.getElem?_eq_none (by rw [lks_len];exact c)] at hj;cases hj
 have h':w.ownsRow B 219 2 (.slice (some ⟨g,0,none⟩) ds.length cap) ds.length (lks ds):=h
 rw [addr_add,h'.cellAt _ hlt]
 exact hj
theorem delete_same(w:World)(sp:Option Addr)(n cap i:Nat)(hi:i<=n)(hn:n<=cap)(hc:cap<=maxLen)(h0:sp=none->n=0/\cap=0)(hp:∀ a,sp=some a->∃ g,a=⟨g,0,none⟩) :
  Calls Tryz.prog 130 #[.slice sp n cap,.int .i64 i,.int .i64 i] w fun e w'=>e=.returned (.slice sp n cap)/\w'=w:=by
 simp only [maxLen] at hc
 cases sp with
 | none =>
  obtain⟨rfl,rfl⟩:=h0 rfl
  obtain rfl:i=0:=by omega
  go_enter Tryz.func130,Tryz.ntmps130
  go_wp2
  all_goals (go_ret;exact⟨rfl,rfl⟩)
 | some a =>
  obtain⟨g,rfl⟩:=hp a rfl
  clear h0 hp
  have a1:(i:Int)<=n:=by omega
  have a2:(n:Int)<=cap:=by omega
  go_enter Tryz.func130,Tryz.ntmps130
  go_wp2
  all_goals (go_ret;exact⟨rfl,rfl⟩)
theorem delete_some{B:Nat}{w:World}{g n cap i j:Nat}{ds:List (Int×Int)}(h:Own B w (.slice (some ⟨g,0,none⟩) n cap) ds)(hl:n=ds.length)(hij:i < j)(hj:j<=n)(hn:n<=cap)(hc:cap<=maxLen) :
  Calls Tryz.prog 130 #[.slice (some ⟨g,0,none⟩) n cap,.int .i64 i,.int .i64 j] w fun e w'=>e=.returned (.slice (some ⟨g,0,none⟩) (i+(n - j)) cap)/\Own B w' (.slice (some ⟨g,0,none⟩) (i+(n - j)) cap) (ds.take i ++ ds.drop j)/\Buts [g] w w':=by
 simp only [maxLen] at hc
 have HO:Hid (w.drew.ownsRow B 219 2 (.slice (some ⟨g,0,none⟩) i cap) i (lks (ds.take i))):=owns_cut h hl i (by omega)
 have HC:Hid (∀ k u,(lks (ds.drop j))[k]?=some u->w.drew.cell? ((⟨g,j * 2,none⟩:Addr).add k)=some u):=drop_cells h hl j
 have HD:Hid (cap=j->ds.drop j=[]):=fun e=>List.drop_eq_nil_of_le (by omega)
 have HL:Hid ((lks (ds.drop j)).length=(n - j) * 2):=by show _=_;rw [lks_len,List.length_drop,hl]
 have HT:Hid ((ds.take i).length=i):=by show _=_;rw [List.length_take];omega
 have HDL:Hid ((ds.drop j).length=n - j):=by show _=_;rw [List.length_drop];omega
 clear h hl
 have a1:(i:Int)<=j:=by omega
 have a2:(j:Int)<=n:=by omega
 have a3:(n:Int)<=cap:=by omega
 have a4:¬ ((i:Int)=j):=by omega
 have a5:(i:Int)<=cap:=by omega
 have a6:(j:Int)<=cap:=by omega
 have b1:i<=cap:=by omega
 have b2:j<=cap:=by omega
 have b3:¬ (cap=i+(n - j)):=by omega
 have b4:i+(n - j)<=n:=by omega
 have b5:(i:Int)+((n - j:Nat):Int)<=n:=by omega
 obtain⟨AD,hA,HS⟩:∃ AD:Addr,(if cap=j then some (⟨g,0,none⟩:Addr) else some ⟨g,j * 2,none⟩)=some AD/\Hid (∀ k u,(lks (ds.drop j))[k]?=some u->w.drew.cell? (AD.add k)=some u):=by
  by_cases hcj:cap=j
  ·refine⟨⟨g,0,none⟩,by rw [if_pos hcj],fun k u hk=>?_⟩
   rw [HD.out hcj] at hk
   simp [lks] at hk
  ·exact⟨⟨g,j * 2,none⟩,by rw [if_neg hcj],HC⟩
 go_enter Tryz.func130,Tryz.ntmps130
 go_wp2_with fail
 go_region_law (refine step_fits2 rfl _ _ rfl B g i cap (lks (ds.take i)) (by simp [Act.eval,Act.put]) HO.out AD (n - j) (cap - j) (lks (ds.drop j)) (by simp [Act.eval,Act.put]) HL.out HS.out (lks_one _) (by omega) ?_;intro w1 HO1 HB1)
 obtain⟨w2,hr2,ho2,hb2⟩:=run_clear2 w1 0 B g (i+(n - j)) n cap (cap - (i+(n - j))) _ HO1.out (by omega) (by omega)
 have HO2:=(show Hid _ from ho2)
 have HB2:Hid (Buts [g] w1 w2):=hb2
 clear ho2 hb2
 go_wp2
 go_ret
 refine⟨rfl,?_,(Buts.refl [g] w).drew.trans (HB1.out.trans HB2.out)⟩
 have:=HO2.out
 rw [←lks_app] at this
 unfold Own
 rw [List.length_append,HT.out,HDL.out]
 exact this
def Arg(w:World)(vb:Nat)(x:Int×Int):Prop:=∃ t,w.heap[vb]?=some (.cells #[.int .i64 x.1,.int .i64 x.2] t (0,0))
theorem Arg.cells{w:World}{vb:Nat}{x:Int×Int}(h:Arg w vb x):∀ j u,(lks [x])[j]?=some u->w.cell? ((⟨vb,0,none⟩:Addr).add j)=some u:=by
 obtain⟨t,h⟩:=h
 intro j u hj
 rw [addr_add,Nat.zero_add,cell_of h]
 rcases j with _ | _ | j
 ·simpa [lks] using hj
 ·simpa [lks] using hj
 ·simp [lks] at hj
theorem Arg.keep{w w':World}{vb:Nat}{x:Int×Int}(h:Arg w vb x)(e:w'.heap[vb]?=w.heap[vb]?):Arg w' vb x:=by
 obtain⟨t,h⟩:=h
 exact⟨t,e.trans h⟩
theorem own_to{B:Nat}{w:World}{v:Value}{ds:List (Int×Int)}{n:Nat}{x:Int×Int}(hn:n=ds.length)(h:w.ownsRow B 219 2 v (n+1) (lks ds ++ lks [x])):Own B w v (ds ++ [x]):=by
 unfold Own
 rw [List.length_append,lks_app,←hn]
 exact h
theorem run_app2{B:Nat}{w:World}{v:Value}{n:Nat}{ds:List (Int×Int)}(ty:TypeId)(h:Own B w v ds)(hn:n=ds.length)(hl:n<=1000){vb:Nat}{x:Int×Int}(hx:Arg w vb x)(hB:B<=w.heap.size) :
  ∃ g cap w',(Builtin.append_ #[140,140] ty #[v,.slice (some ⟨vb,0,none⟩) 1 1]).run Tryz.prog w=.ok (.slice (some ⟨g,0,none⟩) (n+1) cap) w'/\Own B w' (.slice (some ⟨g,0,none⟩) (n+1) cap) (ds ++ [x])/\Buts v.ownBlock.toList w w'/\(v.ownBlock=some g∨w.heap.size<=g):=by
 obtain⟨i,hi,hz,hs,hby⟩:=info_parts' infoK
 rcases h.2 with⟨rfl,h0⟩ |⟨g,cap,cur,rfl,hBb,hh,hc,hm,hsz,ht⟩
 ·have hn0:n=0:=by omega
  subst hn0
  obtain rfl:ds=[]:=List.eq_nil_of_length_eq_zero h0
  obtain⟨v',w',hr,ho,hg,_⟩:=run_append_own (P:=Tryz.prog) w w.heap.size 140 ty 219 i _ 2 16 Tryz.underlying140 hi hz hs hby rfl (by decide) (.slice none 0 0) 0 [] (World.ownsRow_nil _ _ _ _) ⟨vb,0,none⟩ 1 1 (lks [x]) rfl hx.cells (lks_one _) (by decide) (by decide) (Nat.le_refl _)
  obtain⟨g',c',rfl,_⟩:=owns_spot ho (by decide)
  exact⟨g',c',w',hr,own_to rfl (owns_base ho hB),by simpa [Value.ownBlock] using Buts.grown hg,Or.inr (ho.lt g' rfl).1⟩
 ·by_cases hroom:ds.length+1<=cap
  ·obtain⟨w',hr,ho',hg⟩:=run_append_fits (P:=Tryz.prog) w B 140 ty 219 i 2 Tryz.underlying140 hi hs g ds.length cap (lks ds) h ⟨vb,0,none⟩ 1 1 (lks [x]) rfl hx.cells (lks_one _) hroom
   subst hn
   exact⟨g,cap,w',hr,own_to rfl ho',Buts.grown hg,Or.inl rfl⟩
  ·obtain⟨v',w',hr,ho,hg⟩:=run_append_arg_grows (P:=Tryz.prog) w 140 ty 219 i _ 2 16 Tryz.underlying140 hi hz hs hby rfl (by decide) ⟨g,0,none⟩ ds.length cap (lks ds) (lks_len ds) (by have:=drop_cells h rfl 0;simpa using this) ⟨vb,0,none⟩ 1 1 (lks [x]) rfl hx.cells (by omega) (by simp only [maxLen];omega) (by omega)
   obtain⟨g',c',rfl,_⟩:=owns_spot ho (by omega)
   subst hn
   exact⟨g',c',w',hr,own_to rfl (owns_base ho hB),(Buts.grown hg).mono (by simp),Or.inr (ho.lt g' rfl).1⟩
theorem wpList_app2{w:World}{ops:Array Oper}{rest:List Oper}{o:Oper}{a:Go.Act}{Q:Exit->Go.Act->World->Prop}(hgd:o.guard=none)(s y:Operand)
  (ho:o.op=.call { callee:=.builtin .append,args:=#[s,y],argTypes:=#[140,140] }) {B:Nat} {v:Value} {n:Nat} {ds:List (Int×Int)} {vb:Nat} {x:Int×Int} (hse:a.eval s=v) (hy:a.eval y=.slice (some ⟨vb,0,none⟩) 1 1)
  (h:Own B w v ds) (hn:n=ds.length) (hl:n<=1000) (hx:Arg w vb x) (hB:B<=w.heap.size)
  (hK:∀ g cap w',Hid (Own B w' (.slice (some ⟨g,0,none⟩) (n+1) cap) (ds ++ [x]))->Hid (Buts v.ownBlock.toList w w')->Hid (v.ownBlock=some g∨w.heap.size<=g)->wpList Tryz.prog ops Q rest (a.put o.dst (.slice (some ⟨g,0,none⟩) (n+1) cap)) w'):wpList Tryz.prog ops Q (o :: rest) a w:=by
 refine wpList_plain hgd fun K hK'=>?_
 obtain⟨g,cap,w',hr,h2,h3,h4⟩:=run_app2 o.type h hn hl hx hB
 unfold Oper.wp execOp
 simp only [ho,resolve,invoke,builtin,Sem.run_bind,Sem.run_pure,Result.andThen_ok,List.map_toArray,List.map_cons,List.map_nil,hse,hy,hr]
 exact hK' _ _ (hK g cap w' h2 h3 h4)
theorem insert_end{B:Nat}{w:World}{v:Value}{n:Nat}{ds:List (Int×Int)}(h:Own B w v ds)(hn:n=ds.length)(hl:n<=1000){vb:Nat}{x:Int×Int}(hx:Arg w vb x)(hB:B<=w.heap.size) :
  Calls Tryz.prog 194 #[v,.int .i64 n,.slice (some ⟨vb,0,none⟩) 1 1] w fun e w'=>∃ g cap,e=.returned (.slice (some ⟨g,0,none⟩) (n+1) cap)/\Own B w' (.slice (some ⟨g,0,none⟩) (n+1) cap) (ds ++ [x])/\Buts v.ownBlock.toList w w'/\(v.ownBlock=some g∨w.heap.size<=g):=by
 obtain⟨sp,cap,rfl,hc1,hc2,h0⟩:=h.form
 have hp:∀ a,sp=some a->∃ g,a=⟨g,0,none⟩:=by
  intro a ha
  rcases h.2 with⟨h1,_⟩ |⟨g,cap',cur,h1,_⟩
  ·simp only [Value.slice.injEq] at h1
   rw [h1.1] at ha;cases ha
  ·simp only [Value.slice.injEq] at h1
   rw [h1.1] at ha
   exact⟨g,by simpa using ha.symm⟩
 rw [←hn] at hc1 h0 h ⊢
 have HO:Hid (Own B w (.slice sp n cap) ds):=h
 have HX:Hid (Arg w vb x):=hx
 have HN:Hid (n=ds.length):=hn
 simp only [maxLen] at hc2
 clear h hx hn
 cases sp with
 | none =>
  obtain⟨h00,rfl⟩:=h0 rfl
  clear hp h0
  subst h00
  go_enter Tryz.func194,Tryz.ntmps194
  go_wp2_with (at_builtin;refine wpList_app2 rfl _ _ rfl rfl rfl HO.out HN.out hl HX.out hB ?_;intro g c' w1 HO1 HB1 HG1)
  go_ret
  exact⟨g,c',rfl,HO1.out,HB1.out,HG1.out⟩
 | some a =>
  obtain⟨g0,rfl⟩:=hp a rfl
  clear hp h0
  have a1:(n:Int)<=cap:=by omega
  go_enter Tryz.func194,Tryz.ntmps194
  go_wp2_with (at_builtin;refine wpList_app2 rfl _ _ rfl rfl rfl HO.out HN.out hl HX.out hB ?_;intro g c' w1 HO1 HB1 HG1)
  all_goals (go_ret;exact⟨g,c',rfl,HO1.out,HB1.out,HG1.out⟩)
theorem splice_ins{α:Type}(L1 L2 T ab:List α)(hab:ab.length=2)(hT:2<=T.length) :
  splice (splice (L1 ++ L2 ++ T) (L1.length+2) L2) L1.length ab=L1 ++ ab ++ L2 ++ (L1 ++ L2 ++ T).drop (L1.length+2+L2.length):=by
 have hl:(List.take (L1.length+2) (L1 ++ L2 ++ T)).length=L1.length+2:=by simp;omega
 unfold splice
 have e1:List.take L1.length (List.take (L1.length+2) (L1 ++ L2 ++ T) ++ (L2 ++ List.drop (L1.length+2+L2.length) (L1 ++ L2 ++ T)))=L1:=by
  rw [List.take_append_of_le_length (by rw [hl];omega),List.take_take,Nat.min_eq_left (by omega),List.append_assoc,List.take_left]
 have e2:List.drop (L1.length+ab.length) (List.take (L1.length+2) (L1 ++ L2 ++ T) ++ (L2 ++ List.drop (L1.length+2+L2.length) (L1 ++ L2 ++ T)))=L2 ++ List.drop (L1.length+2+L2.length) (L1 ++ L2 ++ T):=by
  rw [hab]
  exact List.drop_left' hl
 rw [e1,e2]
 simp
theorem overlaps_no(w:World)(vb m vc g off lb cb:Nat)(hne:vb≠g){c1 c2:Array Value}{t1 t2:TypeId}(h1:w.heap[vb]?=some (.cells c1 t1 (0,0)))(h2:w.heap[g]?=some (.cells c2 t2 (0,0)))(hc:c2.size≠0) :
  (callFunc 210 #[.slice (some ⟨vb,0,none⟩) m vc,.slice (some ⟨g,off,none⟩) lb cb]).run Tryz.prog w=.ok (.value (.bool false)) w:=by
 rw [run_callFunc_extern Tryz.func210 (by kernel_rfl) (by kernel_rfl) (by kernel_rfl) (e:=Extern.SlicesOverlaps.overlaps #[140,140] #[4]) (by kernel_rfl),
  Lib.run_overlaps_apart w 140 4 219 Tryz.underlying140 2 Tryz.sizeOf219 ⟨vb,0,none⟩ ⟨g,off,none⟩ m vc lb cb hne t1 t2 c1.size c2.size (by simp [World.shape?,h1]) (by simp [World.shape?,h2]) hc (by simp [World.frozen?,h1]) (by simp [World.frozen?,h1])]
 rfl
theorem insert_shift{B:Nat}{w:World}{g n cap i:Nat}{ds:List (Int×Int)}(h:Own B w (.slice (some ⟨g,0,none⟩) n cap) ds)(hn:n=ds.length)(hi:i < n)(hroom:n+1<=cap)(hc:cap<=maxLen){vb:Nat}{x:Int×Int}(hx:Arg w vb x)(hne:vb≠g) :
  Calls Tryz.prog 194 #[.slice (some ⟨g,0,none⟩) n cap,.int .i64 i,.slice (some ⟨vb,0,none⟩) 1 1] w fun e w'=>e=.returned (.slice (some ⟨g,0,none⟩) (n+1) cap)/\Own B w' (.slice (some ⟨g,0,none⟩) (n+1) cap) (ds.take i ++ x :: ds.drop i)/\Buts [g] w w':=by
 simp only [maxLen] at hc
 have h':=h
 rw [hn] at h'
 rcases h'.2 with⟨e0,_⟩ |⟨g',cap',cur,e0,hBg,hg,hnc,hcm,hcs,htake⟩
 ·cases e0
 simp only [Value.slice.injEq,Option.some.injEq,Addr.mk.injEq,and_true,true_and] at e0
 obtain⟨rfl,rfl⟩:=e0
 obtain⟨t,hxa⟩:=hx
 have hov:∀ off lb cb,(callFunc 210 #[.slice (some ⟨vb,0,none⟩) 1 1,.slice (some ⟨g,off,none⟩) lb cb]).run Tryz.prog w=.ok (.value (.bool false)) w:=fun off lb cb=>overlaps_no w vb 1 1 g off lb cb hne hxa hg (by rw [hcs];omega)
 have HCU:Hid (cur.toList=lks (ds.take i) ++ lks (ds.drop i) ++ cur.toList.drop (n * 2)):=by
  show _=_
  rw [←lks_app,List.take_append_drop,←htake,hn,List.take_append_drop]
 have HTL:Hid (2<=(cur.toList.drop (n * 2)).length):=by show _<=_;simp [hcs];omega
 have HL1:Hid ((lks (ds.take i)).length=i * 2):=by show _=_;rw [lks_len,List.length_take];omega
 have HL2:Hid ((lks (ds.drop i)).length=(n - i) * 2):=by show _=_;rw [lks_len,List.length_drop];omega
 have HG:Hid (w.drew.heap[g]?=some (.cells (cur.toList).toArray 219 (0,0))):=by show _=_;simp;exact hg
 have HCL:Hid (cur.toList.length=cap * 2):=by show _=_;simp [hcs]
 have HS:Hid (∀ j u,(lks (ds.drop i))[j]?=some u->w.drew.cell? ((⟨g,i * 2,none⟩:Addr).add j)=some u):=drop_cells h hn i
 have HX:Hid (Arg w vb x):=⟨t,hxa⟩
 have HN:Hid (n=ds.length):=hn
 have HBG:Hid (B<=g):=hBg
 generalize cur.toList=C at HCU HTL HG HCL
 clear h h' hg hnc hcm hcs htake hxa hn hBg
 have a1:(i:Int)<=n:=by omega
 have a2:¬ ((i:Int)=n):=by omega
 have a3:¬ ((cap:Int) < (n:Int)+1):=by omega
 have a4:¬ (cap=i+1):=by omega
 have a5:¬ (cap=i):=by omega
 have a6:(n:Int)+1<=cap:=by omega
 have a7:(i:Int)+1<=(n:Int)+1:=by omega
 have a8:(i:Int)<=(n:Int)+1:=by omega
 have w1:IntKind.i64.wrap ((i:Int)+1)=(i:Int)+1:=by rw [IntKind.wrap_i64];omega
 have w2:IntKind.i64.wrap ((n:Int)+1)=(n:Int)+1:=by rw [IntKind.wrap_i64];omega
 have t1:((i:Int)+1).toNat=i+1:=by omega
 have t2:((n:Int)+1).toNat=n+1:=by omega
 have a9:i<=n:=by omega
 have c0:(0:Int)<=(i:Int)+1:=by omega
 have a10:n+1<=cap:=by omega
 go_enter Tryz.func194,Tryz.ntmps194
 go_wp2_with (simp only [hov])
 go_region_law (refine step_copy2 rfl _ _ rfl g ((i+1) * 2) (n - i) (cap - (i+1)) ⟨g,i * 2,none⟩ (n+1 - i) (cap - i) C (lks (ds.drop i)) (by simp [Act.eval,Act.put]) (by simp [Act.eval,Act.put]) HG.out (by rw [HL2.out,show Nat.min (n+1 - i) (n - i)=n - i from Nat.min_eq_right (by omega)]) HS.out (by have:=HCL.out;have:=HL2.out;omega) (lks_one _) ?_;intro w3 HG3 HB3)
 have HX3:Hid (Arg w3 vb x):=HX.out.keep (HB3.out.block vb (by obtain⟨t,ht⟩:=HX.out;exact at_lt ht) (by simpa using hne))
 have HC3:Hid (∀ j u,(lks [x])[j]?=some u->w3.cell? ((⟨vb,0,none⟩:Addr).add j)=some u):=HX3.out.cells
 have HF3:Hid (i * 2+2<=(splice C ((i+1) * 2) (lks (ds.drop i))).length):=by
  show _<=_
  have h1:=HCL.out
  have h2:=HL2.out
  rw [length_splice _ _ _ (by omega),h1]
  omega
 obtain⟨w4,hr4,HG4,HB4⟩:=copy2 w3 3 g (i * 2) (n+1 - i) (cap - i) ⟨vb,0,none⟩ 1 1 (splice C ((i+1) * 2) (lks (ds.drop i))) (lks [x]) HG3.out (by rw [show Nat.min 1 (n+1 - i)=1 from Nat.min_eq_left (by omega)];rfl) HC3.out HF3.out (lks_one _)
 go_wp2
 go_ret
 refine⟨rfl,?_,(Buts.refl [g] w).drew.trans (HB3.out.trans HB4.out)⟩
 have hg4:=HG4.out
 have e1:=HL1.out
 have e2:=HL2.out
 have e3:=HCU.out
 have e4:=HCL.out
 generalize List.drop (n * 2) C=T at e3 HTL
 have e5:=splice_ins (lks (ds.take i)) (lks (ds.drop i)) T (lks [x]) rfl HTL.out
 rw [←e3,e1,show i * 2+2=(i+1) * 2 by omega] at e5
 rw [e5] at hg4
 have hlen:(ds.take i ++ x :: ds.drop i).length=n+1:=by have:=HN.out;simp;omega
 unfold Own
 rw [hlen]
 refine⟨by rw [lks_len,hlen],.inr ⟨g,cap,_,rfl,HBG.out,hg4,hroom,by simp only [maxLen];omega,?_,?_⟩⟩
 ·simp only [List.size_toArray,List.length_append,List.length_drop,e1,e2,lks_len [x],List.length_singleton,e4]
  omega
 ·simp only [List.append_assoc]
  rw [←List.append_assoc,←List.append_assoc,List.take_left' (by simp only [List.length_append,e1,e2,lks_len [x],List.length_singleton];omega)]
  rw [lks_app]
  simp [lks]
theorem run_room{B:Nat}{w:World}{g n cap i:Nat}{ds:List (Int×Int)}(ty:TypeId)(h:Own B w (.slice (some ⟨g,0,none⟩) n cap) ds)(hn:n=ds.length)(hl:n<=1000)(hi:i < n)(hnc:n<=cap)(hfull:¬ n+1<=cap) :
  ∃ G Z w',(Builtin.append_ #[140,3] ty #[.slice (some ⟨g,0,none⟩) i cap,.int .i64 ((n:Int)+1 - (i:Int))]).run Tryz.prog w=.ok (.slice (some ⟨w.heap.size,0,none⟩) (n+1) G) w'/\n+1<=G/\G<=maxLen/\Hid (w'.heap[w.heap.size]?=some (.cells (lks (ds.take i) ++ Z).toArray 219 (0,0)))/\Hid (Z.length=(G - i) * 2)/\Hid (Below w.heap.size w w'):=by
 obtain⟨i0,hi0,hz,hs,hby⟩:=info_parts' infoK
 have hlt:(lks (ds.take i)).length=i * 2:=by rw [lks_len,List.length_take];omega
 have hold:(Builtin.firstCells i0.size i (.slice (some ⟨g,0,none⟩) i cap)).run Tryz.prog w.drew=.ok (lks (ds.take i)).toArray w.drew:=by
  rw [hs]
  refine run_firstCells_some w.drew 2 i ⟨g,0,none⟩ i cap (lks (ds.take i)) hlt (fun j v hj=>?_)
  have hj':j < i * 2:=by
   rcases Nat.lt_or_ge j (i * 2) with c | c
   ·exact c
   ·rw [List.getElem?_eq_none (by omega)] at hj;cases hj
  rw [lks_take,List.getElem?_take,if_pos hj'] at hj
  have h':w.ownsRow B 219 2 (.slice (some ⟨g,0,none⟩) ds.length cap) ds.length (lks ds):=by rw [←hn];rw [hn] at h ⊢;exact h
  rw [addr_add,Nat.zero_add]
  exact(h'.cellAt j (by omega)).trans hj
 have e1:(n:Int)+1 - (i:Int)=((n+1 - i:Nat):Int):=by omega
 have e2:i+(n+1 - i)=n+1:=by omega
 have hr:=Lib.run_append_grow_zeros (P:=Tryz.prog) w 140 3 ty 219 i0 _ .i64 .i64 Tryz.underlying140 Tryz.underlying3 hi0 hz (some ⟨g,0,none⟩) i cap (lks (ds.take i)) hold (n+1 - i) (by omega) (by omega) (by omega) (by omega) (by rw [hby];omega) (by rw [hby,e2];exact growslice_fits (by omega) (by omega))
 rw [e2] at hr
 have hge:=grownCap_ge w (n+1) cap 219
 have hcm:grownCap w (n+1) cap 219<=maxLen:=grownCap_le_maxLen w (n+1) cap 219 (by simp only [maxLen];omega)
 rw [e1]
 generalize grownCap w (n+1) cap 219=G at hr hge hcm
 refine⟨G,(Builtin.zeroCells (Value.agg #[.int .i64 0,.int .i64 0]).cells (n+1 - i)).toList ++ (Builtin.zeroCells (Value.agg #[.int .i64 0,.int .i64 0]).cells (G - (n+1))).toList,_,hr,hge,hcm,?_,?_,?_⟩
 ·show _=_
  have:=heap_alloc_new w.drew (.cells ((lks (ds.take i)).toArray ++ Builtin.zeroCells (Value.agg #[.int .i64 0,.int .i64 0]).cells (n+1 - i) ++ Builtin.zeroCells (Value.agg #[.int .i64 0,.int .i64 0]).cells (G - (n+1))) 219)
  refine Eq.trans this ?_
  congr 2
  apply Array.ext'
  simp
 ·show _=_
  rw [List.length_append,(zero_cells _).1,(zero_cells _).1]
  omega
 ·exact(below_drewN w 1).trans (alloc_below w.drew _)
theorem splice_new{α:Type}(L1 L2 Z ab:List α)(hab:ab.length=2)(hZ:2+L2.length<=Z.length) :
  splice (splice (L1 ++ Z) L1.length ab) (L1.length+2) L2=L1 ++ ab ++ L2 ++ Z.drop (2+L2.length):=by
 have e0:splice (L1 ++ Z) L1.length ab=L1 ++ ab ++ Z.drop 2:=by
  unfold splice
  rw [List.take_left,hab,List.drop_append,List.drop_eq_nil_of_le (by omega)]
  simp
 rw [e0]
 unfold splice
 have hl:(L1 ++ ab).length=L1.length+2:=by simp [hab]
 rw [List.take_left' hl,List.drop_append,List.drop_eq_nil_of_le (by omega),List.nil_append,List.drop_drop,hl,show 2+(L1.length+2+L2.length - (L1.length+2))=2+L2.length by omega]
 simp
theorem insert_grow{B:Nat}{w:World}{g n cap i:Nat}{ds:List (Int×Int)}(h:Own B w (.slice (some ⟨g,0,none⟩) n cap) ds)(hn:n=ds.length)(hl:n<=1000)(hi:i < n)(hnc:n<=cap)(hfull:¬ n+1<=cap){vb:Nat}{x:Int×Int}(hx:Arg w vb x)(hB:B<=w.heap.size) :
  Calls Tryz.prog 194 #[.slice (some ⟨g,0,none⟩) n cap,.int .i64 i,.slice (some ⟨vb,0,none⟩) 1 1] w fun e w'=>∃ G,e=.returned (.slice (some ⟨w.heap.size,0,none⟩) (n+1) G)/\Own B w' (.slice (some ⟨w.heap.size,0,none⟩) (n+1) G) (ds.take i ++ x :: ds.drop i)/\Below w.heap.size w w':=by
 obtain⟨G,Z,w1,hr1,hG,hGm,HG1,HZ,HB1⟩:=run_room 140 h hn hl hi hnc hfull
 have hgl:g < w.heap.size:=(h.lt' (g:=g) rfl).2
 have hvl:vb < w.heap.size:=by obtain⟨t,ht⟩:=hx;exact at_lt ht
 have HL1:Hid ((lks (ds.take i)).length=i * 2):=by show _=_;rw [lks_len,List.length_take];omega
 have HL2:Hid ((lks (ds.drop i)).length=(n - i) * 2):=by show _=_;rw [lks_len,List.length_drop];omega
 have HX1:Hid (Arg w1 vb x):=hx.keep (HB1.out.block vb hvl)
 have HO1:Hid (Own B w1 (.slice (some ⟨g,0,none⟩) n cap) ds):=h.below HB1.out
 have HN:Hid (n=ds.length):=hn
 obtain⟨t,ht⟩:∃ t,w.heap.size=t:=⟨_,rfl⟩
 have HT:Hid (w.heap.size=t):=ht
 rw [ht] at hr1 HG1 HB1 hgl hvl hB ⊢
 clear ht
 obtain⟨w2,hr2,HG2,HB2⟩:=copy2 w1 3 t (i * 2) (n+1 - i) (G - i) ⟨vb,0,none⟩ 1 1 _ (lks [x]) HG1.out (by rw [show Nat.min 1 (n+1 - i)=1 from Nat.min_eq_left (by omega)];rfl) HX1.out.cells (by have:=HL1.out;have:=HZ.out;rw [List.length_append,lks_len [x],List.length_singleton];omega) (lks_one _)
 have HO2:Hid (Own B w2.drew (.slice (some ⟨g,0,none⟩) n cap) ds):=HO1.out.buts (l:=[t]) HB2.out.drew (fun b hb=>by
  have:g=b:=by simpa [Value.ownBlock] using hb
  subst this
  simp only [List.mem_singleton]
  omega)
 have HS2:Hid (∀ j u,(lks (ds.drop i))[j]?=some u->w2.drew.cell? ((⟨g,i * 2,none⟩:Addr).add j)=some u):=drop_cells HO2.out hn i
 have HG2':Hid (w2.drew.heap[t]?=some (.cells (splice (lks (ds.take i) ++ Z) (i * 2) (lks [x])).toArray 219 (0,0))):=HG2.out
 have HLS:Hid ((splice (lks (ds.take i) ++ Z) (i * 2) (lks [x])).length=G * 2):=by
  show _=_
  have h1:=HL1.out
  have h2:=HZ.out
  rw [length_splice _ _ _ (by rw [List.length_append,lks_len [x],List.length_singleton];omega),List.length_append]
  omega
 simp only [maxLen] at hGm
 clear h hx hn
 have a1:(i:Int)<=n:=by omega
 have a2:¬ ((i:Int)=n):=by omega
 have a3:(cap:Int) < (n:Int)+1:=by omega
 have a4:¬ (G=i+1):=by omega
 have a5:¬ (G=i):=by omega
 have a6:¬ (cap=i):=by omega
 have a7:(i:Int)<=cap:=by omega
 have a8:(i:Int)<=(n:Int)+1:=by omega
 have a9:(i:Int)+1<=(n:Int)+1:=by omega
 have w1':IntKind.i64.wrap ((i:Int)+1)=(i:Int)+1:=by rw [IntKind.wrap_i64];omega
 have w2':IntKind.i64.wrap ((n:Int)+1)=(n:Int)+1:=by rw [IntKind.wrap_i64];omega
 have w3':IntKind.i64.wrap ((n:Int)+1 - (i:Int))=(n:Int)+1 - (i:Int):=by rw [IntKind.wrap_i64];omega
 have t1:((i:Int)+1).toNat=i+1:=by omega
 have c0:(0:Int)<=(i:Int)+1:=by omega
 have b1:i<=n:=by omega
 have b2:i<=cap:=by omega
 go_enter Tryz.func194,Tryz.ntmps194
 go_wp2_with (at_builtin;refine Lib.wpList_append_run _ rfl _ _ _ _ rfl _ _ rfl rfl _ _ hr1 ?_)
 go_region_law (refine step_copy2 rfl _ _ rfl t ((i+1) * 2) (n - i) (G - (i+1)) ⟨g,i * 2,none⟩ (n - i) (cap - i) (splice (lks (ds.take i) ++ Z) (i * 2) (lks [x])) (lks (ds.drop i)) (by simp [Act.eval,Act.put]) (by simp [Act.eval,Act.put]) HG2'.out (by rw [HL2.out,show Nat.min (n - i) (n - i)=n - i from Nat.min_eq_left (Nat.le_refl _)]) HS2.out (by have:=HLS.out;have:=HL2.out;omega) (lks_one _) ?_;intro w3 HG3 HB3)
 go_wp2
 go_ret
 refine⟨G,rfl,?_,HB1.out.trans (((HB2.out.trans ((Buts.refl [t] w2).drew.trans HB3.out))).below (by simp) (by have:=HB1.out.size;have:=HT.out;omega))⟩
 have hg4:=HG3.out
 have e1:=HL1.out
 have e2:=HL2.out
 have e3:=HZ.out
 have e5:=splice_new (lks (ds.take i)) (lks (ds.drop i)) Z (lks [x]) rfl (by omega)
 rw [e1,show i * 2+2=(i+1) * 2 by omega] at e5
 rw [e5] at hg4
 have hlen:(ds.take i ++ x :: ds.drop i).length=n+1:=by have:=HN.out;simp;omega
 unfold Own
 rw [hlen]
 refine⟨by rw [lks_len,hlen],.inr ⟨t,G,_,rfl,hB,hg4,hG,by simp only [maxLen];omega,?_,?_⟩⟩
 ·simp only [List.size_toArray,List.length_append,List.length_drop,e1,e2,e3,lks_len [x],List.length_singleton]
  omega
 ·simp only [List.append_assoc]
  rw [←List.append_assoc,←List.append_assoc,List.take_left' (by simp only [List.length_append,e1,e2,lks_len [x],List.length_singleton];omega)]
  rw [lks_app]
  simp [lks]
theorem insert_any{B:Nat}{w:World}{v:Value}{i:Nat}{ds:List (Int×Int)}(h:Own B w v ds)(hl:ds.length<=1000)(hi:i<=ds.length){vb:Nat}{x:Int×Int}(hx:Arg w vb x)(hne:∀ g,v.ownBlock=some g->vb≠g)(hB:B<=w.heap.size) :
  Calls Tryz.prog 194 #[v,.int .i64 i,.slice (some ⟨vb,0,none⟩) 1 1] w fun e w'=>∃ g cap,e=.returned (.slice (some ⟨g,0,none⟩) (ds.length+1) cap)/\Own B w' (.slice (some ⟨g,0,none⟩) (ds.length+1) cap) (ds.take i ++ x :: ds.drop i)/\Buts v.ownBlock.toList w w'/\(v.ownBlock=some g∨w.heap.size<=g):=by
 by_cases he:i=ds.length
 ·subst he
  refine(insert_end h rfl hl hx hB).mono ?_
  rintro e w' ⟨g,cap,h1,h2,h3,h4⟩
  exact⟨g,cap,h1,by simpa using h2,h3,h4⟩
 ·obtain⟨g,cap,rfl,hc1,hc2⟩:=h.spot (by omega)
  by_cases hroom:ds.length+1<=cap
  ·refine(insert_shift h rfl (by omega) hroom hc2 hx (hne g rfl)).mono ?_
   rintro e w' ⟨h1,h2,h3⟩
   exact⟨g,cap,h1,h2,by simpa [Value.ownBlock] using h3,Or.inl rfl⟩
  ·refine(insert_grow h rfl hl (by omega) hc1 hroom hx hB).mono ?_
   rintro e w' ⟨G,h1,h2,h3⟩
   exact⟨_,G,h1,h2,Buts.of h3,Or.inr (Nat.le_refl _)⟩
theorem delete_any{B:Nat}{w:World}{v:Value}{i j:Nat}{ds:List (Int×Int)}(h:Own B w v ds)(hij:i<=j)(hj:j<=ds.length) :
  Calls Tryz.prog 130 #[v,.int .i64 i,.int .i64 j] w fun e w'=>∃ sp cap,e=.returned (.slice sp (ds.length - (j - i)) cap)/\Own B w' (.slice sp (ds.length - (j - i)) cap) (ds.take i ++ ds.drop j)/\Buts v.ownBlock.toList w w'/\(Value.slice sp (ds.length - (j - i)) cap).ownBlock=v.ownBlock:=by
 by_cases he:i=j
 ·subst he
  obtain⟨sp,cap,rfl,hc1,hc2,h0⟩:=h.form
  have hp:∀ a,sp=some a->∃ g,a=⟨g,0,none⟩:=by
   intro a ha
   rcases h.2 with⟨h1,_⟩ |⟨g,cap',cur,h1,_⟩
   ·simp only [Value.slice.injEq] at h1
    rw [h1.1] at ha;cases ha
   ·simp only [Value.slice.injEq] at h1
    rw [h1.1] at ha
    exact⟨g,by simpa using ha.symm⟩
  refine(delete_same w sp ds.length cap i hj hc1 hc2 h0 hp).mono ?_
  rintro e w' ⟨rfl,rfl⟩
  refine⟨sp,cap,by simp,?_,Buts.refl _ _,by rw [Nat.sub_self,Nat.sub_zero]⟩
  rw [List.take_append_drop,Nat.sub_self,Nat.sub_zero]
  exact h
 ·obtain⟨g,cap,rfl,hc1,hc2⟩:=h.spot (by omega)
  refine(delete_some h rfl (by omega) hj hc1 hc2).mono ?_
  rintro e w' ⟨h1,h2,h3⟩
  have e1:i+(ds.length - j)=ds.length - (j - i):=by omega
  rw [e1] at h1 h2
  exact⟨some ⟨g,0,none⟩,cap,h1,h2,by simpa [Value.ownBlock] using h3,rfl⟩
end Go.Proofs.YtbbdndfibjdcfaaGreat.Tm
namespace Go.Proofs.YtbbdndfibjdcfaaGreat.Tm
open Go Go.RowKit Go.Shelf
attribute [local go_sem] Oper.semAt_some
theorem keeps_drewN(W:World):∀ n,KeepsOthers W (W.drewN n)
 | 0=>KeepsOthers.refl W
 | n+1=>⟨(keeps_drewN W n).size,fun k o h ho=>(keeps_drewN W n).same k o h ho⟩
theorem heap_drewN(W:World):∀ n,(W.drewN n).heap=W.heap
 | 0=>rfl
 | n+1=>heap_drewN W n
theorem fin_snoc{m k:Nat}(hk:k < m):(List.finRange m).take (k+1)=(List.finRange m).take k ++ [⟨k,hk⟩]:=by
 rw [List.take_succ_eq_append_getElem (by simpa using hk)]
 simp
theorem fin_len{m k:Nat}(hk:k<=m):((List.finRange m).take k).length=k:=by simp;omega
theorem lefts_any(p:Nat)(w:World) :
  Calls Tryz.prog 129 #[.pointer (some ⟨p,1,none⟩)] w fun e w'=>e=.returned (.func (.func 170) #[] #[.pointer (some ⟨w.heap.size,0,none⟩)])/\w'=w.alloc (.cells #[.pointer (some ⟨p,1,none⟩)] 213):=by
 go_enter Tryz.func129,Tryz.ntmps129
 go_wp2
 go_ret
 exact⟨rfl,rfl⟩
theorem seq1(n:Nat)(hn:1<=n)(l Bn p g m cap:Nat)(sp:Option Addr)(hsp:0 < m->sp=some ⟨g,0,none⟩)(hm:m<=1000)(F bd:Nat->Int)(hF0:F 0=0)(hF:∀ k,k < m->IntKind.i64.wrap (F k+bd k)=F (k+1))(J Jx:List (Fin m)->World->Prop)
  (hY:∀ pre (x:Fin m) W,J pre W->pre.length < m->YieldAt Fence.wide (n - 1) Tryz.prog l #[.int .i64 ((x.val:Nat):Int),.int .i64 (F (x.val+1))] W fun e W' =>
   (e=.returned (.bool true)/\J (pre ++ [x]) W'/\Kp [Bn,p,g] W W')∨(e=.returned (.bool false)/\Jx (pre ++ [x]) W'))
  (W:World) (hBn:W.cell? ⟨Bn,0,none⟩=some (.pointer (some ⟨p,1,none⟩))) (hp:W.cell? ⟨p,1,none⟩=some (.slice sp m cap)) (hg:∀ k,k < m->W.cell? ⟨g,k * 2+1,none⟩=some (.int .i64 (bd k))) (h0:J [] W) :
  CallsIn Fence.wide n Tryz.prog 170 #[.func (.yield l) #[] #[],.pointer (some ⟨Bn,0,none⟩)] W fun e W'=>(∃ v,e=.returned v) /\
   ((∃ ys,ys=List.finRange m/\J ys W')∨(∃ pre,pre <+: List.finRange m/\Jx pre W')):=by
 refine callsIn_of_wp Tryz.func170 rfl trivial ?_ rfl
 simp only [Tryz.ntmps170,List.size_toArray,List.length_cons,List.length_nil,Nat.reduceAdd,Nat.reduceSub,Array.replicate_succ,Array.replicate_zero,List.push_toArray,List.append_toArray,List.nil_append,List.cons_append]
 gi_wp2
 gi_loopw [3,10] (fun s t wr=>∃ k:Nat,s=.int .i64 (F k)/\t=.int .i64 (k:Int)/\k<=m/\Hid (J ((List.finRange m).take k) wr)/\Hid (Kp [Bn,p,g] W wr))
  (fun s t wr=>match t with | .int _ k=>m - k.toNat | _=>0)
 case atStart =>
  exact⟨0,by rw [hF0],rfl,by omega,h0,Kp.refl _ _⟩
 case round =>
  obtain⟨k,rfl,rfl,hk,HJ,HK⟩:=hrel
  by_cases hkm:k=m
  ·have hlt:¬ ((k:Int) < m):=by omega
   gi_wp2
   go_end0
   refine⟨⟨_,rfl⟩,.inl ?_⟩
   have:=HJ.out
   rw [hkm,List.take_of_length_le (by simp)] at this
   first | exact this | exact⟨_,rfl,this⟩
  ·have hkl:k < m:=by omega
   have hlt:(k:Int) < m:=by omega
   have hsp':=hsp (by omega)
   subst hsp'
   have c1:=(HK.out.cell (k:=Bn) (i:=0) (by simp)).trans hBn
   have c2:=(HK.out.cell (k:=p) (i:=1) (by simp)).trans hp
   have c3:=(HK.out.cell (k:=g) (i:=k * 2+1) (by simp)).trans (hg k hkl)
   have hw:=hF k hkl
   have hwk:IntKind.i64.wrap ((k:Int)+1)=(k:Int)+1:=by rw [IntKind.wrap_i64];omega
   obtain⟨fn,tmps,assign,body,hy,hR⟩:=hY _ ⟨k,hkl⟩ wr HJ.out (by rw [fin_len hk];exact hkl)
   rw [←fin_snoc hkl] at hR
   dsimp only at hy
   gi_wp2
   refine hR.mono ?_
   rintro e W3 (⟨rfl,hJ3,hk3⟩ |⟨rfl,hJx3⟩)
   ·gi_wp2
    go_roundw
    case rel=>exact⟨k+1,rfl,by go_num,by omega,hJ3,HK.out.trans hk3⟩
    case measure=>simp;omega
   ·gi_wp2
    refine bodyPost_ret (results_none rfl _ _ _) rfl ?_
    exact⟨⟨_,rfl⟩,.inr ⟨_,List.take_prefix _ _,hJx3⟩⟩
theorem seq_stops(n:Nat)(hn:1<=n)(Bn p g m cap:Nat)(sp:Option Addr)(hsp:0 < m->sp=some ⟨g,0,none⟩)(hm:m<=1000)(F bd:Nat->Int)(hF0:F 0=0)(hF:∀ k,k < m->IntKind.i64.wrap (F k+bd k)=F (k+1))(w:World)
  (hb1:Bn < w.heap.size) (hb2:p < w.heap.size) (hb3:0 < m->g < w.heap.size)
  (hBn:w.cell? ⟨Bn,0,none⟩=some (.pointer (some ⟨p,1,none⟩))) (hp:w.cell? ⟨p,1,none⟩=some (.slice sp m cap)) (hg:∀ k,k < m->w.cell? ⟨g,k * 2+1,none⟩=some (.int .i64 (bd k))) :
  SeqStopsK Fence.wide n Tryz.prog 170 #[.pointer (some ⟨Bn,0,none⟩)] (fun x:Fin m=>#[Value.int .i64 ((x.val:Nat):Int),Value.int .i64 (F (x.val+1))]) (Kp [Bn,p,g]) (fun ys=>ys=List.finRange m) (fun pre=>pre <+: List.finRange m) m w:=fun l J Jx W hW _ _ hY h0 =>
 seq1 n hn l Bn p g m cap sp hsp hm F bd hF0 hF J Jx hY W ((hW.cell (p:=⟨Bn,0,none⟩) hb1).trans hBn) ((hW.cell (p:=⟨p,1,none⟩) hb2).trans hp) (fun k hk=>(hW.cell (p:=⟨g,k * 2+1,none⟩) (hb3 (by omega))).trans (hg k hk)) h0
def NoDefer(ops:Array Oper):Prop:=∀ (i:Nat) (o:Oper),ops[i]?=some o->∀ c,o.op≠.defer c
theorem oper_round{l n:Nat}{P:Program}{o:Oper}{a:Act}{w:World}{K K':Act->World->Prop}{Q:Exit->Act->World->Prop}(hd:∀ c,o.op≠.defer c)(hk:∀ a w,K a w->K' a w)(h:o.wpIn Fence.wide n P a w K Q):o.wpIn (Fence.wide.inRound l) n P a w K' Q:=by
 have h':o.wpIn Fence.wide n P a w K' Q:=by
  have h1:wpOpIn Fence.wide n P #[{ o with guard:=none }] Q 0 K a w:=by
   simp only [wpOpIn,List.getElem?_toArray,List.getElem?_cons_zero]
   rw [if_pos (by simp [Region.wanted])]
   exact h
  have h2:=wpOpIn_mono hk h1
  simp only [wpOpIn,List.getElem?_toArray,List.getElem?_cons_zero] at h2
  rw [if_pos (by simp [Region.wanted])] at h2
  exact h2
 refine⟨h'.1,?_⟩
 have h2:=h'.2
 rw [show(Fence.wide.inRound l).round=some l from rfl,Oper.semAt_some l _ _ hd]
 exact h2
theorem wpAnyIn_round{l n:Nat}{P:Program}{md:Region.Mode}{ops:Array Oper}{Q:Exit->Act->World->Prop}(hd:NoDefer ops):∀ (fuel:Nat) (listed:Array Bool) (a:Act) (w:World),wpAnyIn Fence.wide n P md ops Q fuel listed a w->wpAnyIn (Fence.wide.inRound l) n P md ops Q fuel listed a w
 | 0,_,_,_,h=>h
 | fuel+1,listed,a,w,h=>by
  refine⟨h.1,fun i hi=>?_⟩
  have h2:=h.2 i hi
  unfold wpOpIn at h2 ⊢
  cases ho:ops[i]? with
  | none=>rw [ho] at h2;exact wpAnyIn_round hd fuel _ _ _ h2
  | some o =>
   rw [ho] at h2
   simp only at h2 ⊢
   split at h2
   ·rename_i hw
    rw [if_pos hw]
    exact oper_round (hd i o ho) (fun a w=>wpAnyIn_round hd fuel _ a w) h2
   ·rename_i hw
    rw [if_neg hw]
    exact⟨h2.1,wpAnyIn_round hd fuel _ _ _ h2.2⟩
theorem region_quiet_round{l n id:Nat}{P:Program}{Q:Exit->Act->World->Prop}{a:Act}{w:World}{L:List Oper}(hd:NoDefer L.toArray)(hm:P.follows .mixedOrders=true)(hB:Region.lexB .any L.toArray=true)
  (h:wpQuietIn Fence.wide n P L.toArray (fun w'=>∃ n,w'=w.drewN n) (fun a'=>∀ w',(∃ n,w'=w.drewN n)->Q .normal a' w') L a):(Code.region id L.toArray true).wpIn (Fence.wide.inRound l) n P Q a w:=by
 simp only [Region.lexB,Bool.and_eq_true] at hB
 refine wpIn_region_any hm (wpAnyIn_round hd _ _ _ _ (wpAnyIn_of_quiet (C:=fun w'=>∃ n,w'=w.drewN n) (Q:=fun a'=>∀ w',(∃ n,w'=w.drewN n)->Q .normal a' w') rfl (fun _ w' hw' h=>h w' hw') _ _ _ _ ⟨1,rfl⟩ ?_))
 have:=wpAnyQIn_lex (F:=Fence.wide) (n:=n) (C:=fun w'=>∃ n,w'=w.drewN n) (md:=.any) hB.1 L 0 (Array.replicate L.toArray.size false) a (by simp) (by simpa using hB.2) h
 simpa using this
theorem region_round{l n id:Nat}{P:Program}{Q:Exit->Act->World->Prop}{a:Act}{w:World}{ops:Array Oper}(hd:NoDefer ops)(hm:P.follows .mixedOrders=true)
  (h:wpAnyIn Fence.wide n P .any ops Q ops.size (Array.replicate ops.size false) a w.drew):(Code.region id ops true).wpIn (Fence.wide.inRound l) n P Q a w :=
 wpIn_region_any hm (wpAnyIn_round hd _ _ _ _ h)
end Go.Proofs.YtbbdndfibjdcfaaGreat.Tm
namespace Go.Proofs.YtbbdndfibjdcfaaGreat.Tm
open Go Go.RowKit Go.Shelf
attribute [local go_sem] Oper.semAt_some
def Bnd(xs:List (Int×Int)):Prop:=∀ x∈xs,0<=x.2/\x.2<=1073741824
def lf(xs:List (Int×Int))(k:Nat):Int:=lst 0 (xs.take k)
theorem lf_zero(xs:List (Int×Int)):lf xs 0=0:=by simp [lf,lst]
theorem lf_succ{xs:List (Int×Int)}{k:Nat}(h:k < xs.length):lf xs (k+1)=(xs.getD k (0,0)).2:=lst_take xs 0 k h
theorem lf_bnd{xs:List (Int×Int)}(hb:Bnd xs){k:Nat}(h:k<=xs.length):0<=lf xs k/\lf xs k<=1073741824:=by
 cases k with
 | zero=>rw [lf_zero];omega
 | succ k=>rw [lf_succ (by omega)];exact hb _ (getD_mem (by omega))
def bh(xs:List (Int×Int))(k:Nat):Int:=lf xs (k+1) - lf xs k
theorem lf_wrap{xs:List (Int×Int)}(hb:Bnd xs){k:Nat}(h:k < xs.length):IntKind.i64.wrap (lf xs k+bh xs k)=lf xs (k+1):=by
 have h1:=lf_bnd hb (k:=k) (by omega)
 have h2:=lf_bnd hb (k:=k+1) (by omega)
 unfold bh
 rw [IntKind.wrap_i64]
 omega
theorem dl_getD{xs:List (Int×Int)}{k:Nat}(h:k < xs.length):(dl 0 xs).getD k (0,0)=((xs.getD k (0,0)).1,bh xs k):=by
 rw [List.getD_eq_getElem?_getD,dl_at xs 0 k h]
 simp only [Option.getD_some,bh,lf_succ h]
 rfl
theorem Ch.seq{B:Nat}{w:World}{p:Nat}{v:Value}{xs:List (Int×Int)}(h:Ch B w p v (dl 0 xs)) :
  ∃ sp g cap,v=.slice sp xs.length cap/\(0 < xs.length->sp=some ⟨g,0,none⟩)/\(g=p∨v.ownBlock=some g)/\g < w.heap.size /\
   ∀ k,k < xs.length->w.cell? ⟨g,k * 2,none⟩=some (.int .i64 (xs.getD k (0,0)).1)/\w.cell? ⟨g,k * 2+1,none⟩=some (.int .i64 (bh xs k)):=by
 have hl:=dl_len xs 0
 by_cases h0:0 < xs.length
 ·obtain⟨g,cap,rfl,_⟩:=h.own.spot (by omega)
  rw [hl]
  refine⟨_,g,cap,rfl,fun _=>rfl,Or.inr rfl,(h.own.lt' (g:=g) rfl).2,fun k hk=>?_⟩
  have:=h.own.cells rfl k (by omega)
  rw [dl_getD hk] at this
  exact this
 ·obtain⟨sp,cap,rfl,_⟩:=h.own.form
  rw [hl]
  exact⟨sp,p,cap,rfl,fun h=>absurd h h0,Or.inl rfl,at_lt h.head,fun k hk=>by omega⟩
theorem pre_snoc{m:Nat}{pre:List (Fin m)}{x:Fin m}(h:pre ++ [x] <+: List.finRange m):pre=(List.finRange m).take x.val:=by
 have hl:=h.length_le
 have hp:pre.length < m:=by simp at hl;omega
 have e:=List.prefix_iff_eq_take.1 h
 rw [List.length_append,List.length_singleton,fin_snoc hp] at e
 have e2:=List.append_inj' e rfl
 have hx:x=⟨pre.length,hp⟩:=by simpa using e2.2
 rw [hx]
 exact e2.1
theorem mem_take_fin{m k:Nat}(x:Fin m):x∈(List.finRange m).take k↔x.val < k:=by
 rw [List.mem_take_iff_getElem]
 constructor
 ·rintro ⟨j,hj,e⟩
  have hj':j < k:=by omega
  rw [List.getElem_finRange] at e
  rw [←e]
  simpa using hj'
 ·intro hx
  exact⟨x.val,by have:=x.isLt;simp;omega,by simp⟩
def FB(W:World)(t p:Nat)(who a b:Int)(c:Bool):Prop :=
 Boxed W t 213 (.pointer (some ⟨p,1,none⟩))/\Boxed W (t+1) 3 (.int .i64 who)/\Boxed W (t+1+1) 3 (.int .i64 a)/\Boxed W (t+1+1+1) 2 (.int .i64 b)/\Boxed W (t+1+1+1+1) 4 (.bool c)
theorem FB.keep{W W':World}{t p:Nat}{who a b:Int}{c:Bool}(h:FB W t p who a b c)(hk:∀ (k:Nat) (cs:Array Value) (t:TypeId) (f:Nat×Nat),W.heap[k]?=some (Obj.cells cs t f)->W'.heap[k]?=some (Obj.cells cs t f)):FB W' t p who a b c :=
 ⟨hk _ _ _ _ h.1,hk _ _ _ _ h.2.1,hk _ _ _ _ h.2.2.1,hk _ _ _ _ h.2.2.2.1,hk _ _ _ _ h.2.2.2.2⟩
theorem FB.put{W:World}{t p:Nat}{who a b:Int}{c:Bool}(h:FB W t p who a b c)(nq:Nat)(a' b':Int)(c':Bool):FB ((((W.drewN nq).setCell ⟨t+1+1,0,none⟩ (.int .i64 a')).setCell ⟨t+1+1+1,0,none⟩ (.int .i64 b')).setCell ⟨t+1+1+1+1,0,none⟩ (.bool c')) t p who a' b' c':=by
 obtain⟨b0,b1,b2,b3,b4⟩:=h
 have e:=heap_drewN W nq
 have b0':Boxed (W.drewN nq) t 213 (.pointer (some ⟨p,1,none⟩)):=by unfold Boxed;rw [e];exact b0
 have b1':Boxed (W.drewN nq) (t+1) 3 (.int .i64 who):=by unfold Boxed;rw [e];exact b1
 have b2':Boxed (W.drewN nq) (t+1+1) 3 (.int .i64 a):=by unfold Boxed;rw [e];exact b2
 have b3':Boxed (W.drewN nq) (t+1+1+1) 2 (.int .i64 b):=by unfold Boxed;rw [e];exact b3
 have b4':Boxed (W.drewN nq) (t+1+1+1+1) 4 (.bool c):=by unfold Boxed;rw [e];exact b4
 exact⟨Boxed.other (Boxed.other (Boxed.other b0' (by omega)) (by omega)) (by omega),Boxed.other (Boxed.other (Boxed.other b1' (by omega)) (by omega)) (by omega),Boxed.other (Boxed.other (Boxed.set _ b2') (by omega)) (by omega),Boxed.other (Boxed.set _ (Boxed.other b3' (by omega))) (by omega),Boxed.set _ (Boxed.other (Boxed.other b4' (by omega)) (by omega))⟩
theorem FB.drewN{W:World}{t p:Nat}{who a b:Int}{c:Bool}(h:FB W t p who a b c)(nq:Nat):FB (W.drewN nq) t p who a b c:=h.keep (fun k cs t f hk=>by rw [heap_drewN];exact hk)
theorem six(w:World)(v0 v1 v2 v3 v4 v5:Value)(t0 t1 t2 t3 t4 t5:TypeId){t:Nat}(ht:w.heap.size=t){W:World}(hW:((((((w.alloc (Obj.cells #[v0] t0)).alloc (Obj.cells #[v1] t1)).alloc (Obj.cells #[v2] t2)).alloc (Obj.cells #[v3] t3)).alloc (Obj.cells #[v4] t4)).alloc (Obj.cells #[v5] t5))=W) :
  Boxed W t t0 v0/\Boxed W (t+1) t1 v1/\Boxed W (t+1+1) t2 v2/\Boxed W (t+1+1+1) t3 v3/\Boxed W (t+1+1+1+1) t4 v4/\Boxed W (t+1+1+1+1+1) t5 v5/\Below t w W/\W.heap.size=t+1+1+1+1+1+1:=by
 subst ht
 subst hW
 refine⟨?_,?_,?_,?_,?_,?_,?_,?_⟩
 ·exact(((((Boxed.new w t0 v0).alloc _).alloc _).alloc _).alloc _).alloc _
 ·have:=((((Boxed.new (w.alloc (Obj.cells #[v0] t0)) t1 v1).alloc (Obj.cells #[v2] t2)).alloc (Obj.cells #[v3] t3)).alloc (Obj.cells #[v4] t4)).alloc (Obj.cells #[v5] t5)
  simpa using this
 ·have:=(((Boxed.new ((w.alloc (Obj.cells #[v0] t0)).alloc (Obj.cells #[v1] t1)) t2 v2).alloc (Obj.cells #[v3] t3)).alloc (Obj.cells #[v4] t4)).alloc (Obj.cells #[v5] t5)
  simpa using this
 ·have:=((Boxed.new (((w.alloc (Obj.cells #[v0] t0)).alloc (Obj.cells #[v1] t1)).alloc (Obj.cells #[v2] t2)) t3 v3).alloc (Obj.cells #[v4] t4)).alloc (Obj.cells #[v5] t5)
  simpa using this
 ·have:=(Boxed.new ((((w.alloc (Obj.cells #[v0] t0)).alloc (Obj.cells #[v1] t1)).alloc (Obj.cells #[v2] t2)).alloc (Obj.cells #[v3] t3)) t4 v4).alloc (Obj.cells #[v5] t5)
  simpa using this
 ·have:=Boxed.new (((((w.alloc (Obj.cells #[v0] t0)).alloc (Obj.cells #[v1] t1)).alloc (Obj.cells #[v2] t2)).alloc (Obj.cells #[v3] t3)).alloc (Obj.cells #[v4] t4)) t5 v5
  simpa using this
 ·exact(((((((Below.refl _ w).alloc (Nat.le_refl _) _).alloc (by simp) _).alloc (by simp;omega) _).alloc (by simp;omega) _).alloc (by simp;omega) _).alloc (by simp;omega) _)
 ·simp
theorem find_results{W:World}{t p:Nat}{who a b:Int}{c:Bool}(h:FB W t p who a b c)(tmps:Array Value)(h4:tmps.getD 4 undef=.pointer (some ⟨t+1+1,0,none⟩))(h5:tmps.getD 5 undef=.pointer (some ⟨t+1+1+1,0,none⟩))(h6:tmps.getD 6 undef=.pointer (some ⟨t+1+1+1+1,0,none⟩)) :
  (results Tryz.f179 tmps).run Tryz.prog W=.ok (.tuple #[.int .i64 a,.int .i64 b,.bool c]) W:=by
 have hr:Tryz.f179.results=#[.cell 4 3,.cell 5 2,.cell 6 4]:=rfl
 have c2:=h.2.2.1.cell
 have c3:=h.2.2.2.1.cell
 have c4:=h.2.2.2.2.cell
 rw [Array.getD_eq_getD_getElem?] at h4 h5 h6
 simp [results,hr,h4,h5,h6,go_sem,c2,c3,c4]
theorem find_any{B:Nat}{w:World}{p:Nat}{v:Value}{xs:List (Int×Int)}(h:Ch B w p v (dl 0 xs))(hb:Bnd xs)(hl:xs.length<=1000)(who:Int) :
  Calls Tryz.prog 179 #[.pointer (some ⟨p,1,none⟩),.int .i64 who] w fun e w'=>((∃ k:Nat,k < xs.length/\(xs.getD k (0,0)).1=who/\e=.returned (.tuple #[.int .i64 (k:Int),.int .i64 (lf xs (k+1)),.bool true]))∨((∀ k,k < xs.length->(xs.getD k (0,0)).1≠who)/\e=.returned (.tuple #[.int .i64 0,.int .i64 0,.bool false])))/\Below w.heap.size w w':=by
 obtain⟨sp,g,cap,hv,hsp,hgp,hgl,hcs⟩:=h.seq
 have hpl:=at_lt h.head
 have hlk:=h.lnk
 rw [hv] at hlk
 have HF:Hid (∀ k,k < xs.length->IntKind.i64.wrap (lf xs k+bh xs k)=lf xs (k+1)):=fun k hk=>lf_wrap hb hk
 clear h hv hgp hb
 obtain⟨m,hm⟩:∃ m,xs.length=m:=⟨_,rfl⟩
 rw [hm] at hlk hcs HF hsp hl ⊢
 clear hm
 obtain⟨f,hf⟩:∃ f:Nat->Int,f=fun k=>(xs.getD k (0,0)).1:=⟨_,rfl⟩
 have HFF:Hid (f=fun k=>(xs.getD k (0,0)).1):=hf
 have hcs':∀ k,k < m->w.cell? ⟨g,k * 2,none⟩=some (.int .i64 (f k))/\w.cell? ⟨g,k * 2+1,none⟩=some (.int .i64 (bh xs k)):=by rw [hf];exact hcs
 suffices hS:Calls Tryz.prog 179 #[.pointer (some ⟨p,1,none⟩),.int .i64 who] w fun e w'=>((∃ k:Nat,k < m/\f k=who/\e=.returned (.tuple #[.int .i64 (k:Int),.int .i64 (lf xs (k+1)),.bool true]))∨((∀ k,k < m->f k≠who)/\e=.returned (.tuple #[.int .i64 0,.int .i64 0,.bool false])))/\Below w.heap.size w w' by
  rw [hf] at hS
  exact hS
 clear hcs hf HFF
 obtain⟨F,hFe⟩:∃ F:Nat->Int,F=lf xs:=⟨_,rfl⟩
 have hF0:F 0=0:=by rw [hFe];exact lf_zero xs
 rw [←hFe] at HF ⊢
 generalize bh xs=bd at HF hcs'
 clear hFe
 refine(callsIn_wide (n:=3)).1 ?_
 refine callsIn_of_wp_marks Tryz.func179 rfl trivial ?_ rfl
 simp only [Tryz.ntmps179,List.size_toArray,List.length_cons,List.length_nil,Nat.reduceAdd,Nat.reduceSub,Array.replicate_succ,Array.replicate_zero,List.push_toArray,List.append_toArray,List.nil_append,List.cons_append]
 gi_wp2_with (refine⟨trivial,?_⟩;gi_at_call 129;refine(callsIn_wide.2 (lefts_any p _)).mono ?_;rintro e w' ⟨rfl,rfl⟩)
 obtain⟨t,ht⟩:∃ t,w.heap.size=t:=⟨_,rfl⟩
 rw [ht] at hgl hpl ⊢
 generalize hW0:((((((w.alloc (Obj.cells #[Value.pointer (some ⟨p,1,none⟩)] 213)).alloc (Obj.cells #[Value.int IntKind.i64 who] 3)).alloc (Obj.cells #[Value.int IntKind.i64 0] 3)).alloc (Obj.cells #[Value.int IntKind.i64 0] 2)).alloc (Obj.cells #[Value.bool false] 4)).alloc (Obj.cells #[Value.pointer (some ⟨p,1,none⟩)] 213))=W0
 obtain⟨x0,x1,x2,x3,x4,x5,hB0,hsz⟩:=six w _ _ _ _ _ _ _ _ _ _ _ _ ht hW0
 clear hW0
 have hlk0:=(hB0.cell (p:=⟨p,1,none⟩) hpl).trans hlk
 have hcs0:∀ k,k < m->W0.cell? ⟨g,k * 2+1,none⟩=some (.int .i64 (bd k)):=fun k hk=>(hB0.cell (p:=⟨g,k * 2+1,none⟩) hgl).trans (hcs' k hk).2
 refine wpIn_rangeFunc_ownG rfl (by omega) (gf:=170) (lb:=#[.pointer (some ⟨t+1+1+1+1+1,0,none⟩)]) rfl trivial (enters_of Tryz.func170 (by kernel_rfl) rfl)
  (seq_stops _ (by omega) (t+1+1+1+1+1) p g m cap sp hsp hl F bd hF0 HF.out W0 (by omega) (by omega) (fun _=>by omega) x5.cell hlk0 hcs0) Kp.trans (kp_b (by simp;omega)) (Below.refl _ _) (fun _=>rfl)
  (fun pre W=>FB W t p who 0 0 false/\(∀ x∈pre,f x.val≠who)/\Below t w W)
  (fun c pre W=>c=.ret/\∃ pre' x,pre=pre' ++ [x]/\f x.val=who/\FB W t p who (x.val:Nat) (F (x.val+1)) true/\Below t w W)
  (ownFrom_of fun s W W' hs hk hB=>⟨hs.1.keep hk,hs.2.1,hs.2.2.trans (hB t (by omega) (by have:=hs.2.2.size;omega))⟩)
  (fun c=>ownFrom_of fun s W W' hs hk hB=>by
   obtain⟨hc,pre',x,hp,hf,hfb,hb⟩:=hs
   exact⟨hc,pre',x,hp,hf,hfb.keep hk,hb.trans (hB t (by omega) (by have:=hb.size;omega))⟩)
  ⟨⟨x0,x1,x2,x3,x4⟩,by simp,hB0⟩
  (fun x=>{ tmps:=#[.pointer (some ⟨p,1,none⟩),.int .i64 who,.pointer (some ⟨t,0,none⟩),.pointer (some ⟨t+1,0,none⟩),.pointer (some ⟨t+1+1,0,none⟩),.pointer (some ⟨t+1+1+1,0,none⟩),.pointer (some ⟨t+1+1+1+1,0,none⟩),.int .i64 ((x.val:Nat):Int),.int .i64 (F (x.val+1)),.pointer (some ⟨p,1,none⟩),.func (.func 170) #[] #[.pointer (some ⟨t+1+1+1+1+1,0,none⟩)],.int .i64 ((x.val:Nat):Int),.int .i64 (F (x.val+1)),undef,undef,undef,undef,undef,undef,undef,undef,undef,undef,undef,undef],defers:=[] }) ?assign ?body ?done ?stop
 case assign =>
  intro l x W K hK
  gi_wp2
  exact hK
 case body =>
  rintro l pre x W ⟨⟨b0,b1,b2,b3,b4⟩,hne,hB⟩ hlt
  have hm0:0 < m:=by have:=x.isLt;omega
  have hsp':=hsp hm0
  subst hsp'
  have HFB:Hid (FB W t p who 0 0 false):=⟨b0,b1,b2,b3,b4⟩
  have c0:=b0.cell
  have c1:=b1.cell
  have e1:=(hB.cell (p:=⟨p,1,none⟩) hpl).trans hlk
  have e2:=(hB.cell (p:=⟨g,x.val * 2,none⟩) hgl).trans (hcs' x.val x.isLt).1
  have hxm:((x.val:Nat):Int) < m:=by have:=x.isLt;omega
  have hmx:Tryz.prog.follows .mixedOrders=true:=by kernel_rfl
  have HNE:Hid (∀ x∈pre,f x.val≠who):=hne
  have HB:Hid (Below t w W):=hB
  have d2:=b2.cell
  have d3:=b3.cell
  have d4:=b4.cell
  have g2:=b2.frozen
  have g3:=b3.frozen
  have g4:=b4.frozen
  have HBX:Hid (Boxed W (t+1+1) 3 (.int .i64 0)/\Boxed W (t+1+1+1) 2 (.int .i64 0)/\Boxed W (t+1+1+1+1) 4 (.bool false)):=⟨b2,b3,b4⟩
  clear hne hB b0 b1 b2 b3 b4 hcs' hcs0 hlk0 hlk x0 x1 x2 x3 x4 x5 hB0 hF0 HF hsz hsp hl hm0 hlt hgl hpl
  gi_wp2
  refine region_quiet_round (by intro i o ho c;rcases i with _ | _ | _ | _ | _ | _ | _ | _ | _ | _ | i <;> (try (cases ho;exact(fun h=>by cases h)));simp at ho) hmx (by kernel_rfl) ?_
  repeat (quiet_step_in (fail))
  refine wpQuietIn_nil ?_
  intro _ hw'
  obtain⟨nq,hw''⟩:=hw'
  subst hw''
  gi_wp2
  ·have hw:f x.val=who:=by
    have:=‹(f x.val == who)=true›
    simpa using this
   exact⟨(((keeps_drewN W nq).trans (KeepsOthers.setCell _ _ _)).trans (KeepsOthers.setCell _ _ _)).trans (KeepsOthers.setCell _ _ _) |>.from _,rfl,pre,x,rfl,hw,HFB.out.put nq _ _ _,
    (((HB.out.trans ((below_drewN W nq).mono (by have:=HB.out.size;omega))).setCell (p:=⟨t+1+1,0,none⟩) (by simp;omega) _).setCell (p:=⟨t+1+1+1,0,none⟩) (by simp;omega) _).setCell (p:=⟨t+1+1+1+1,0,none⟩) (by simp;omega) _⟩
  ·have hw:f x.val≠who:=by
    have:=‹(f x.val == who)=false›
    simpa using this
   exact⟨(keeps_drewN W nq).from _,fun k _=>by rw [heap_drewN],HFB.out.drewN nq,fun y hy=>by
    rcases List.mem_append.1 hy with hy | hy
    ·exact HNE.out y hy
    ·have:y=x:=by simpa using hy
     rw [this];exact hw,HB.out.trans ((below_drewN W nq).mono (by have:=HB.out.size;omega))⟩
 case done =>
  rintro D ys W hD rfl ⟨⟨b0,b1,b2,b3,b4⟩,hne,hB⟩ hK
  have d2:=b2.cell
  have d3:=b3.cell
  have d4:=b4.cell
  have g2:=b2.frozen
  have g3:=b3.frozen
  have g4:=b4.frozen
  have HK:Hid (W.heap[D]?=some (.deferred (some []))):=hK
  have HB:Hid (Below t w W):=hB
  have HNE:Hid (∀ k,k < m->f k≠who):=fun k hk=>hne ⟨k,hk⟩ (List.mem_finRange _)
  clear hcs' hcs0 hlk0 hlk x0 x1 x2 x3 x4 x5 hB0 hF0 HF hsp hne hK
  gi_wp2
  have hK2:(((W.setCell ⟨t+1+1,0,none⟩ (.int .i64 0)).setCell ⟨t+1+1+1,0,none⟩ (.int .i64 0)).setCell ⟨t+1+1+1+1,0,none⟩ (.bool false)).heap[D]?=some (.deferred (some [])) :=
   (((KeepsOthers.setCell _ _ _).trans (KeepsOthers.setCell _ _ _)).trans (KeepsOthers.setCell _ _ _)).same D _ HK.out rfl
  refine⟨by simp,.inl ⟨_,_,rfl,run_takeDeferred hK2,?_⟩⟩
  have hfb:FB (((W.setCell ⟨t+1+1,0,none⟩ (.int .i64 0)).setCell ⟨t+1+1+1,0,none⟩ (.int .i64 0)).setCell ⟨t+1+1+1+1,0,none⟩ (.bool false)) t p who 0 0 false:=FB.put (W:=W) ⟨b0,b1,b2,b3,b4⟩ 0 0 0 false
  have hbw:Below t w (((W.setCell ⟨t+1+1,0,none⟩ (.int .i64 0)).setCell ⟨t+1+1+1,0,none⟩ (.int .i64 0)).setCell ⟨t+1+1+1+1,0,none⟩ (.bool false)):=((HB.out.setCell (p:=⟨t+1+1,0,none⟩) (by simp;omega) _).setCell (p:=⟨t+1+1+1,0,none⟩) (by simp;omega) _).setCell (p:=⟨t+1+1+1+1,0,none⟩) (by simp;omega) _
  generalize ((W.setCell ⟨t+1+1,0,none⟩ (.int .i64 0)).setCell ⟨t+1+1+1,0,none⟩ (.int .i64 0)).setCell ⟨t+1+1+1+1,0,none⟩ (.bool false)=W2 at hK2 hfb hbw
  refine⟨_,find_results (hfb.keep (W':=W2.putObj D (.deferred none)) (fun k cs ty f hk=>(World.putObj_heap_other (fun e=>by rw [e,hK2] at hk;cases hk)).trans hk)) _ rfl rfl rfl,.inr ⟨HNE.out,rfl⟩,?_⟩
  rw [ht]
  exact hbw.trans (belowK_b (w:=W0) (by omega) W2 D _ _ hD hK2 rfl rfl)
 case stop =>
  rintro D c pre W hD hpre ⟨rfl,pre',x,rfl,hx,⟨b0,b1,b2,b3,b4⟩,hB⟩ hK
  have d2:=b2.cell
  have d3:=b3.cell
  have d4:=b4.cell
  clear hcs' hcs0 hlk0 hlk x0 x1 x2 x3 x4 x5 hB0 hF0 HF hsp
  gi_wp2
  refine⟨by simp,.inl ⟨_,_,rfl,run_takeDeferred hK,?_⟩⟩
  have hfb:FB W t p who (x.val:Nat) (F (x.val+1)) true:=⟨b0,b1,b2,b3,b4⟩
  refine⟨_,find_results (hfb.keep (W':=W.putObj D (.deferred none)) (fun k cs ty f hk=>(World.putObj_heap_other (fun e=>by rw [e,hK] at hk;cases hk)).trans hk)) _ rfl rfl rfl,.inl ⟨x.val,x.isLt,hx,rfl⟩,?_⟩
  rw [ht]
  exact hB.trans (belowK_b (w:=W0) (by omega) W D _ _ hD hK rfl rfl)
end Go.Proofs.YtbbdndfibjdcfaaGreat.Tm
namespace Go.Proofs.YtbbdndfibjdcfaaGreat.Tm
open Go Go.RowKit
theorem shift_any{B:Nat}{w:World}{p:Nat}{v:Value}{ds:List (Int×Int)}(h:Ch B w p v ds)(k:Nat)(d:Int)(hw:k < ds.length->IntKind.i64.wrap ((ds.getD k (0,0)).2+d)=(ds.getD k (0,0)).2+d) :
  Calls Tryz.prog 128 #[.pointer (some ⟨p,1,none⟩),.int .i64 (k:Int),.int .i64 d] w fun e w'=>e=.returned (.tuple #[])/\Ch B w' p v (shAt k d ds)/\Buts v.ownBlock.toList w w':=by
 by_cases hk:k < ds.length
 ·have HW:=hw hk
  obtain⟨g,cap,rfl,hc1,hc2⟩:=h.own.spot (by omega)
  have HR:Hid (∀ z,Ch B (w.setCell ⟨g,k * 2+1,none⟩ (.int .i64 z)) p (.slice (some ⟨g,0,none⟩) ds.length cap) (ds.set k ((ds.getD k (0,0)).1,z))):=fun z=>by
   refine⟨?_,h.own.set k hk z,by rw [List.length_set];exact h.len,h.low⟩
   rw [Below.heap_setCell _ _ _ _ (h.ne (g:=g) rfl)]
   exact h.head
  have c1:=h.lnk
  have c2:=(h.own.cells rfl k hk).2
  have c3:=h.own.free (k * 2+1)
  have HE:Hid (shAt k d ds=ds.set k ((ds.getD k (0,0)).1,(ds.getD k (0,0)).2+d)):=shAt_set hk
  have HL:=h.len
  obtain⟨n,hn⟩:∃ n,ds.length=n:=⟨_,rfl⟩
  rw [hn] at c1 hk HR HL
  generalize hb:(ds.getD k (0,0)).2=b at c2 HW HE
  have hkI:(k:Int) < n:=by omega
  clear h hw
  go_enter Tryz.func128,Tryz.ntmps128
  go_wp2
  go_end0
  rw [HE.out,hn]
  refine⟨rfl,HR.out _,?_⟩
  exact(Buts.cell _ _ _ _).mono (by simp [Value.ownBlock])
 ·obtain⟨sp,cap,rfl,hc1,hc2,_⟩:=h.own.form
  have c1:=h.lnk
  have HH:Hid (Ch B w p (.slice sp ds.length cap) ds):=h
  have HE:Hid (shAt k d ds=ds):=shAt_no (by omega)
  have hkI:¬ ((k:Int) < ds.length):=by omega
  clear h hw
  go_enter Tryz.func128,Tryz.ntmps128
  go_wp2
  go_end0
  rw [HE.out]
  exact⟨rfl,HH.out,Buts.refl _ _⟩
/-- one is taken out,and leaves its ticks to the next one -/
theorem removeAt_any{B:Nat}{w:World}{p:Nat}{v:Value}{xs:List (Int×Int)}(h:Ch B w p v (dl 0 xs))(hb:Bnd xs)(k:Nat)(hk:k < xs.length) :
  Calls Tryz.prog 140 #[.pointer (some ⟨p,1,none⟩),.int .i64 (k:Int)] w fun e w'=>e=.returned (.tuple #[])/\Nx B w w' p v (dl 0 (xs.eraseIdx k)):=by
 have hl:=dl_len xs 0
 have hkd:k < (dl 0 xs).length:=by omega
 have HH:Hid (Ch B w p v (dl 0 xs)):=h
 have HDE:Hid (shAt k (bh xs k) ((dl 0 xs).take k ++ (dl 0 xs).drop (k+1))=dl 0 (xs.eraseIdx k)):=by
  show _=_
  rw [dl_rem xs k hk]
  unfold shAt
  have ht:((dl 0 xs).take k).length=k:=by rw [List.length_take];omega
  rw [List.take_left' ht,List.drop_left' ht]
  unfold bh lf
  rw [lst_take xs 0 k hk]
 have HW:Hid (k < ((dl 0 xs).take k ++ (dl 0 xs).drop (k+1)).length->IntKind.i64.wrap ((((dl 0 xs).take k ++ (dl 0 xs).drop (k+1)).getD k (0,0)).2+bh xs k)=(((dl 0 xs).take k ++ (dl 0 xs).drop (k+1)).getD k (0,0)).2+bh xs k):=by
  intro hk2
  have ht:((dl 0 xs).take k).length=k:=by rw [List.length_take];omega
  have hk3:k+1 < xs.length:=by
   rw [List.length_append,ht,List.length_drop] at hk2
   omega
  have e:((dl 0 xs).take k ++ (dl 0 xs).drop (k+1)).getD k (0,0)=(dl 0 xs).getD (k+1) (0,0):=by
   rw [List.getD_eq_getElem?_getD,List.getElem?_append_right (by omega),ht,Nat.sub_self,List.getElem?_drop,Nat.add_zero,List.getD_eq_getElem?_getD]
  rw [e,dl_getD hk3]
  have h1:=lf_bnd hb (k:=k) (by omega)
  have h2:=lf_bnd hb (k:=k+1) (by omega)
  have h3:=lf_bnd hb (k:=k+1+1) (by omega)
  unfold bh
  rw [IntKind.wrap_i64]
  omega
 obtain⟨g,cap,rfl,hc1,hc2⟩:=h.own.spot (by omega)
 have HD:Hid (Calls Tryz.prog 130 #[.slice (some ⟨g,0,none⟩) xs.length cap,.int .i64 (k:Int),.int .i64 (k+1:Nat)] w fun e w'=>∃ sp c,e=.returned (.slice sp (xs.length - 1) c)/\Own B w' (.slice sp (xs.length - 1) c) ((dl 0 xs).take k ++ (dl 0 xs).drop (k+1))/\Buts (Value.slice (some ⟨g,0,none⟩) xs.length cap).ownBlock.toList w w'/\(Value.slice sp (xs.length - 1) c).ownBlock=(Value.slice (some ⟨g,0,none⟩) xs.length cap).ownBlock):=by
  have:=delete_any (i:=k) (j:=k+1) h.own (by omega) (by omega)
  rw [hl,show xs.length - (k+1 - k)=xs.length - 1 by omega] at this
  exact this
 have c1:=h.lnk
 have c2:=(h.own.cells rfl k hkd).2
 rw [dl_getD hk] at c2
 have hfp:∀ w2,Buts (Value.slice (some ⟨g,0,none⟩) xs.length cap).ownBlock.toList w w2->w2.cell? ⟨p,1,none⟩=some (.slice (some ⟨g,0,none⟩) xs.length cap)/\w2.frozen? ⟨p,1,none⟩=false:=fun w2 hb2=>by
  have e:w2.heap[p]?=w.heap[p]?:=hb2.block p (at_lt h.head) (fun hm=>by
   have:p=g:=by simpa [Value.ownBlock] using hm
   exact h.ne (g:=g) rfl this)
  refine⟨by rw [World.cell?_of_block e,←hl];exact h.lnk,by rw [World.frozen?_of_block e];exact h.fp 1⟩
 have HFP:=(show Hid _ from hfp)
 have hlen:Hid (((dl 0 xs).take k ++ (dl 0 xs).drop (k+1)).length<=1000):=by
  show _<=_
  have:=h.len
  rw [List.length_append,List.length_take,List.length_drop]
  omega
 have hsmall:=h.len
 rw [hl] at c1 HH hsmall ⊢
 obtain⟨n,hn⟩:∃ n,xs.length=n:=⟨_,rfl⟩
 rw [hn] at c1 hk HH HD HFP hsmall ⊢
 generalize hbk:bh xs k=b at c2 HW HDE
 have hkI:(k:Int) < n:=by omega
 have hwk:IntKind.i64.wrap ((k:Int)+1)=(k:Int)+1:=by rw [IntKind.wrap_i64];omega
 have HC:Hid (((k:Int)+1)=((k+1:Nat):Int)):=by show _=_;omega
 clear h hfp hl hkd hn hb hbk
 go_enter Tryz.func140,Tryz.ntmps140
 go_wp2_with (first
  |(go_at_call 130;rw [HC.out];refine HD.out.mono ?_;rintro e w2 ⟨sp,c,rfl,ho,hb2,hob⟩;obtain⟨k1,k2⟩:=HFP.out w2 hb2;have HCh:=HH.out.lay ho hb2 hlen.out (fun g' hg'=>Or.inl (hob ▸ hg'));have HC1:Hid (Ch B (w2.setCell ⟨p,1,none⟩ (.slice sp (n - 1) c)) p (.slice sp (n - 1) c) ((dl 0 xs).take k ++ (dl 0 xs).drop (k+1))):=HCh.1;have HB1:Hid (Buts (p :: (Value.slice (some ⟨g,0,none⟩) n cap).ownBlock.toList) w (w2.setCell ⟨p,1,none⟩ (.slice sp (n - 1) c))):=HCh.2;have HOB:=(show Hid _ from hob);clear ho hb2 hob HCh)
  |(go_at_call 128;refine(shift_any HC1.out k b HW.out).mono ?_;rintro e w3 ⟨rfl,hc3,hb3⟩;have HC3:=(show Hid _ from hc3);have HB3:=(show Hid _ from hb3);clear hc3 hb3))
 go_end0
 refine⟨rfl,.slice sp (n - 1) c,?_,?_,fun g' hg'=>Or.inl (HOB.out ▸ hg')⟩
 ·have:=HC3.out
  rw [HDE.out] at this
  exact this
 ·have h3:=HB3.out
  rw [HOB.out] at h3
  exact HB1.out.trans (h3.mono (fun x hx=>List.mem_cons_of_mem _ hx))

end Go.Proofs.YtbbdndfibjdcfaaGreat.Tm
