/- Package kernel, proved: part KtHd1. No law of the program itself. -/
import Derived.Test.YtbbdndfibjdcfaaGreatRows
import Derived.WalkKit
import Derived.ProofKit
import Derived.OpenShut
import Derived.Laws.CopyOwn
import Derived.Laws.MakeOwn
import Derived.Laws.OwnMore
import Derived.Deep.RegionLaw
import Derived.Deep.QuietTactic
import Derived.BigQuiet
import Derived.Deep.CutRange
import Derived.Deep.RegionWith
import Derived.Deep.RegionHeld3
import Derived.Deep.CutBlock
import Derived.Test.YtbbdndfibjdcfaaGreatKtA1
set_option maxRecDepth 100000
set_option linter.all false
set_option maxHeartbeats 16000000
namespace Go.Proofs.YtbbdndfibjdcfaaGreat.Hd
open Go Go.RowKit
abbrev Slots:=Nat->Nat×Bool
def none0:Slots:=fun _=>(0,false)
def upd(s:Slots)(k:Nat)(x:Nat×Bool):Slots:=fun i=>if i=k then x else s i
theorem upd_at(s:Slots)(k:Nat)(x:Nat×Bool):upd s k x k=x:=by simp [upd]
theorem upd_ne(s:Slots){k i:Nat}(x:Nat×Bool)(h:i≠k):upd s k x i=s i:=by simp [upd,h]
def isFr(x:Nat×Bool):Bool:=!x.2 && decide (x.1 < 16777215)
def nxt(q:Nat->Bool):Nat->Nat->Nat
 | a,0=>a
 | a,m+1=>if q a then a else nxt q (a+1) m
theorem nxt_ge(q:Nat->Bool):∀ m a,a<=nxt q a m
 | 0,a=>Nat.le_refl _
 | m+1,a=>by
  unfold nxt
  split
  ·exact Nat.le_refl _
  ·have:=nxt_ge q m (a+1);omega
theorem nxt_le(q:Nat->Bool):∀ m a,nxt q a m<=a+m
 | 0,a=>Nat.le_refl _
 | m+1,a=>by
  unfold nxt
  split
  ·omega
  ·have:=nxt_le q m (a+1);omega
theorem nxt_low(q:Nat->Bool):∀ m a j,a<=j->j < nxt q a m->q j=false
 | 0,a,j,h1,h2=>by unfold nxt at h2;omega
 | m+1,a,j,h1,h2=>by
  unfold nxt at h2
  split at h2
  ·omega
  ·rename_i hq
   by_cases e:j=a
   ·subst e;simpa using hq
   ·exact nxt_low q m (a+1) j (by omega) h2
theorem nxt_yes(q:Nat->Bool):∀ m a,nxt q a m < a+m->q (nxt q a m)=true
 | 0,a,h=>by unfold nxt at h;omega
 | m+1,a,h=>by
  unfold nxt at h ⊢
  split
  ·assumption
  ·rename_i hq
   rw [if_neg hq] at h
   exact nxt_yes q m (a+1) (by omega)
theorem nxt_is(q:Nat->Bool){m a k:Nat}(h1:a<=k)(h2:k<=a+m)(hl:∀ j,a<=j->j < k->q j=false)(hy:k < a+m->q k=true):nxt q a m=k:=by
 rcases Nat.lt_trichotomy (nxt q a m) k with h | h | h
 ·have:=hl _ (nxt_ge q m a) h
  rw [nxt_yes q m a (by omega)] at this;cases this
 ·exact h
 ·have:=nxt_low q m a k h1 h
  have hk:=nxt_le q m a
  rw [hy (by omega)] at this;cases this
def fr(n:Nat)(s:Slots):Nat:=nxt (fun i=>isFr (s i)) 0 n
theorem fr_yes{n:Nat}{s:Slots}(h:fr n s < n):isFr (s (fr n s))=true:=nxt_yes (fun i=>isFr (s i)) n 0 (by unfold fr at h;omega)
theorem fr_is{n:Nat}{s:Slots}{k:Nat}(h:k<=n)(hl:∀ j,j < k->isFr (s j)=false)(hy:k < n->isFr (s k)=true):fr n s=k :=
 nxt_is _ (Nat.zero_le _) (by omega) (fun j _ hj=>hl j hj) (fun hk=>hy (by omega))
theorem isFr_not{x:Nat×Bool}(h:isFr x=true):x.2=false/\x.1 < 16777215:=by simpa [isFr] using h
def makeE(n:Nat)(s:Slots):Int:=if fr n s < n then 0 else 3
def makeH(n:Nat)(s:Slots):Nat:=if fr n s < n then((s (fr n s)).1+1) * 256+fr n s else 0
def makeS(n:Nat)(s:Slots):Slots:=if fr n s < n then upd s (fr n s) ((s (fr n s)).1+1,true) else s
def placeE(s:Slots)(h:Nat):Int :=
 if h / 256=0∨(s (h % 256)).1 < h / 256 then 5 else if h / 256 < (s (h % 256)).1∨(s (h % 256)).2=false then 6 else 0
def placeP(s:Slots)(h:Nat):Nat:=if placeE s h=0 then h % 256 else 0
def dropS(s:Slots)(h:Nat):Slots:=if placeE s h=0 then upd s (h % 256) ((s (h % 256)).1,false) else s
def hd(s:Slots)(i:Nat):Nat:=(s i).1 * 256+i
structure Good (n:Nat) (s:Slots):Prop where
 over:∀ i,n<=i->s i=(0,false)
 top:∀ i,(s i).1<=16777215
 one:∀ i,(s i).2=true->1<=(s i).1
theorem Good.zero(n:Nat):Good n none0:=⟨fun _ _=>rfl,fun i=>by simp [none0],fun i h=>by simp [none0] at h⟩
theorem Good.upd{n:Nat}{s:Slots}(h:Good n s){k:Nat}{x:Nat×Bool}(hk:k < n)(h1:x.1<=16777215)(h2:x.2=true->1<=x.1):Good n (upd s k x):=by
 refine⟨fun i hi=>?_,fun i=>?_,fun i=>?_⟩
 ·rw [upd_ne _ _ (by omega)];exact h.over i hi
 ·by_cases e:i=k
  ·subst e;rw [upd_at];exact h1
  ·rw [upd_ne _ _ e];exact h.top i
 ·by_cases e:i=k
  ·subst e;rw [upd_at];exact h2
  ·rw [upd_ne _ _ e];exact h.one i
theorem Good.make{n:Nat}{s:Slots}(h:Good n s):Good n (makeS n s):=by
 unfold makeS
 split
 ·rename_i hf
  have:=(isFr_not (fr_yes hf)).2
  exact h.upd hf (by simp only;omega) (fun _=>by simp only;omega)
 ·exact h
theorem placeE_ok{s:Slots}{h:Nat}(hp:placeE s h=0):1<=h / 256/\(s (h % 256)).1=h / 256/\(s (h % 256)).2=true:=by
 unfold placeE at hp
 split at hp
 ·cases hp
 ·split at hp
  ·cases hp
  ·rename_i h1 h2
   refine⟨by omega,by omega,?_⟩
   cases hb:(s (h % 256)).2
   ·exact absurd (Or.inr hb) h2
   ·rfl
theorem placeE_of{s:Slots}{h:Nat}(h1:1<=h / 256)(h2:(s (h % 256)).1=h / 256)(h3:(s (h % 256)).2=true):placeE s h=0:=by
 unfold placeE
 rw [if_neg (by omega),if_neg (by rw [h3];simp;omega)]
theorem Good.lt{n:Nat}{s:Slots}{h:Nat}(g:Good n s)(hp:placeE s h=0):h % 256 < n:=by
 rcases Nat.lt_or_ge (h % 256) n with k | k
 ·exact k
 ·have:=(placeE_ok hp).2.2
  rw [g.over _ k] at this;cases this
theorem Good.drop{n:Nat}{s:Slots}(g:Good n s)(h:Nat):Good n (dropS s h):=by
 unfold dropS
 split
 ·rename_i hp
  exact g.upd (g.lt hp) (g.top _) (fun e=>by cases e)
 ·exact g
theorem dropS_no{s:Slots}{h:Nat}(hp:placeE s h≠0):dropS s h=s:=if_neg hp
theorem make_is{n:Nat}{s:Slots}(hn:n<=256)(hf:fr n s < n):placeE (makeS n s) (makeH n s)=0:=by
 unfold makeH makeS
 rw [if_pos hf,if_pos hf]
 refine placeE_of (by omega) ?_ ?_
 ·rw [show(((s (fr n s)).1+1) * 256+fr n s) % 256=fr n s by omega,upd_at];simp only;omega
 ·rw [show(((s (fr n s)).1+1) * 256+fr n s) % 256=fr n s by omega,upd_at]
structure Buts (l:List Nat) (w w':World):Prop where
 os:w'.os=w.os
 tape:w'.tape=w.tape
 output:w'.output=w.output
 size:w.heap.size<=w'.heap.size
 block:∀ k,k < w.heap.size->k ∉ l->w'.heap[k]?=w.heap[k]?
theorem Buts.refl(l:List Nat)(w:World):Buts l w w:=⟨rfl,rfl,rfl,Nat.le_refl _,fun _ _ _=>rfl⟩
theorem Buts.trans{l:List Nat}{a b c:World}(h:Buts l a b)(k:Buts l b c):Buts l a c :=
 ⟨k.os.trans h.os,k.tape.trans h.tape,k.output.trans h.output,Nat.le_trans h.size k.size,fun i hi hg=>(k.block i (Nat.lt_of_lt_of_le hi h.size) hg).trans (h.block i hi hg)⟩
theorem Buts.of{l:List Nat}{w w':World}(h:Below w.heap.size w w'):Buts l w w':=⟨h.os,h.tape,h.output,h.size,fun k hk _=>h.block k hk⟩
theorem Buts.below{l:List Nat}{B:Nat}{w w':World}(h:Buts l w w')(hg:∀ x∈l,B<=x)(hB:B<=w.heap.size):Below B w w' :=
 ⟨h.os,h.tape,h.output,h.size,fun k hk=>h.block k (by omega) (fun e=>by have:=hg k e;omega)⟩
theorem Buts.drew{l:List Nat}{a b:World}(h:Buts l a b):Buts l a b.drew:=⟨h.os,h.tape,h.output,h.size,h.block⟩
theorem Buts.cell(w:World)(g k:Nat)(v:Value):Buts [g] w (w.setCell ⟨g,k,none⟩ v) :=
 ⟨rfl,rfl,rfl,by simp [World.setCell],fun j hj hg=>Below.heap_setCell _ _ _ _ (by simpa using hg)⟩
theorem Buts.grown{w w':World}{row:Option Nat}(h:w.grownBy w' row):Buts row.toList w w' :=
 ⟨h.os,h.tape,h.output,h.size,fun k hk hg=>h.block k hk (fun e=>hg (by rw [←e];simp))⟩
def Lay(w:World)(p n:Nat)(s:Slots):Prop :=
 ∃ cs,w.heap[p]?=some (.cells cs 199 (0,0))/\cs[0]?=some (.int .i64 n)/\∀ i,i < 256->cs[1+i * 2]?=some (.int .u32 ((s i).1:Nat))/\cs[1+i * 2+1]?=some (.bool (s i).2)
theorem Lay.lt{w:World}{p n:Nat}{s:Slots}(h:Lay w p n s):p < w.heap.size:=by
 obtain⟨cs,h0,_⟩:=h
 exact at_lt h0
theorem Lay.many{w:World}{p n:Nat}{s:Slots}(h:Lay w p n s):w.cell? ⟨p,0,none⟩=some (.int .i64 n):=by
 obtain⟨cs,h0,h1,_⟩:=h
 rw [cell_of h0,h1]
theorem Lay.gen{w:World}{p n:Nat}{s:Slots}(h:Lay w p n s)(i:Nat)(hi:i < 256):w.cell? ⟨p,1+i * 2,none⟩=some (.int .u32 ((s i).1:Nat)):=by
 obtain⟨cs,h0,_,h2⟩:=h
 rw [cell_of h0,(h2 i hi).1]
theorem Lay.tak{w:World}{p n:Nat}{s:Slots}(h:Lay w p n s)(i:Nat)(hi:i < 256):w.cell? ⟨p,1+i * 2+1,none⟩=some (.bool (s i).2):=by
 obtain⟨cs,h0,_,h2⟩:=h
 rw [cell_of h0,(h2 i hi).2]
theorem Lay.free{w:World}{p n:Nat}{s:Slots}(h:Lay w p n s)(i:Nat):w.frozen? ⟨p,i,none⟩=false:=by
 obtain⟨cs,h0,_⟩:=h
 simp [World.frozen?,h0]
theorem Lay.buts{w w':World}{p n:Nat}{s:Slots}{l:List Nat}(h:Lay w p n s)(hb:Buts l w w')(hp:p ∉ l):Lay w' p n s:=by
 have hl:=h.lt
 obtain⟨cs,h0,h1⟩:=h
 exact⟨cs,(hb.block p hl hp).trans h0,h1⟩
theorem get_lt{cs:Array Value}{i:Nat}{v:Value}(h:cs[i]?=some v):i < cs.size:=(Array.getElem?_eq_some_iff.1 h).1
theorem Lay.setGen{w:World}{p n:Nat}{s:Slots}(h:Lay w p n s)(k:Nat)(hk:k < 256)(v:Nat):Lay (w.setCell ⟨p,1+k * 2,none⟩ (.int .u32 (v:Nat))) p n (upd s k (v,(s k).2)):=by
 obtain⟨cs,h0,h1,h2⟩:=h
 refine⟨_,set_block h0 _ _,?_,fun i hi=>?_⟩
 ·rw [Array.getElem?_setIfInBounds_ne (by omega)];exact h1
 ·have:=h2 i hi
  by_cases e:i=k
  ·subst e
   rw [upd_at,Array.getElem?_setIfInBounds_self_of_lt (get_lt this.1),Array.getElem?_setIfInBounds_ne (by omega)]
   exact⟨rfl,this.2⟩
  ·rw [upd_ne _ _ e,Array.getElem?_setIfInBounds_ne (by omega),Array.getElem?_setIfInBounds_ne (by omega)]
   exact this
theorem Lay.setTak{w:World}{p n:Nat}{s:Slots}(h:Lay w p n s)(k:Nat)(hk:k < 256)(b:Bool):Lay (w.setCell ⟨p,1+k * 2+1,none⟩ (.bool b)) p n (upd s k ((s k).1,b)):=by
 obtain⟨cs,h0,h1,h2⟩:=h
 refine⟨_,set_block h0 _ _,?_,fun i hi=>?_⟩
 ·rw [Array.getElem?_setIfInBounds_ne (by omega)];exact h1
 ·have:=h2 i hi
  by_cases e:i=k
  ·subst e
   rw [upd_at,Array.getElem?_setIfInBounds_self_of_lt (get_lt this.2),Array.getElem?_setIfInBounds_ne (by omega)]
   exact⟨this.1,rfl⟩
  ·rw [upd_ne _ _ e,Array.getElem?_setIfInBounds_ne (by omega),Array.getElem?_setIfInBounds_ne (by omega)]
   exact this
theorem upd_upd(s:Slots)(k:Nat)(x y:Nat×Bool):upd (upd s k x) k y=upd s k y:=by
 funext i
 by_cases e:i=k
 ·subst e;rw [upd_at,upd_at]
 ·rw [upd_ne _ _ e,upd_ne _ _ e,upd_ne _ _ e]
theorem Lay.setBoth{w:World}{p n:Nat}{s:Slots}(h:Lay w p n s)(k:Nat)(hk:k < 256)(v:Nat)(b:Bool):Lay ((w.setCell ⟨p,1+k * 2,none⟩ (.int .u32 (v:Nat))).setCell ⟨p,1+k * 2+1,none⟩ (.bool b)) p n (upd s k (v,b)):=by
 have:=(h.setGen k hk v).setTak k hk b
 rw [upd_upd,upd_at] at this
 exact this
structure Tab (w:World) (p n:Nat) (s:Slots):Prop where
 lay:Lay w p n s
 lo:1<=n
 hi:n<=256
 good:Good n s
theorem Tab.lt{w:World}{p n:Nat}{s:Slots}(h:Tab w p n s):p < w.heap.size:=h.lay.lt
theorem Tab.buts{w w':World}{p n:Nat}{s:Slots}{l:List Nat}(h:Tab w p n s)(hb:Buts l w w')(hp:p ∉ l):Tab w' p n s:=⟨h.lay.buts hb hp,h.lo,h.hi,h.good⟩
theorem Tab.below{w w':World}{p n:Nat}{s:Slots}(h:Tab w p n s)(hb:Below w.heap.size w w'):Tab w' p n s:=h.buts (l:=[]) (Buts.of hb) (by simp)
theorem Tab.drew{w:World}{p n:Nat}{s:Slots}(h:Tab w p n s)(k:Nat):Tab (w.drewN k) p n s:=h.below (below_drewN _ _)
theorem there_yes{w:World}{p n:Nat}(h0:w.cell? ⟨p,0,none⟩=some (.int .i64 n))(hn:1<=n) :
  Calls Tryz.prog 133 #[.pointer (some ⟨p,0,none⟩)] w fun e w'=>e=.returned (.bool true)/\w'=w:=by
 have hlt:0 < n:=by omega
 go_enter Tryz.func133,Tryz.ntmps133
 go_wp2
 go_ret
 exact⟨rfl,rfl⟩
theorem slot_c0(w:World)(x y:Value):(w.alloc (.cells #[x,y] 196)).cell? ⟨w.heap.size,0,none⟩=some x:=by rw [cell_of (alloc_at w _)];rfl
theorem slot_c1(w:World)(x y:Value):(w.alloc (.cells #[x,y] 196)).cell? ⟨w.heap.size,1,none⟩=some y:=by rw [cell_of (alloc_at w _)];rfl
theorem isFree_any{w:World}(g:Nat)(t:Bool) :
  Calls Tryz.prog 149 #[.agg #[.int .u32 (g:Nat),.bool t]] w fun e w'=>e=.returned (.bool (isFr (g,t)))/\Below w.heap.size w w':=by
 have c0:=slot_c0 w (.int .u32 (g:Nat)) (.bool t)
 have c1:=slot_c1 w (.int .u32 (g:Nat)) (.bool t)
 have hb:=alloc_below w (.cells #[.int .u32 (g:Nat),.bool t] 196)
 cases t
 ·by_cases hg:(g:Int) < 16777215
  ·have e:isFr (g,false)=true:=by simp [isFr];omega
   rw [e]
   go_enter Tryz.func149,Tryz.ntmps149
   go_wp2
   go_ret
   exact⟨rfl,hb⟩
  ·have e:isFr (g,false)=false:=by simp [isFr];omega
   rw [e]
   go_enter Tryz.func149,Tryz.ntmps149
   go_wp2
   go_ret
   exact⟨rfl,hb⟩
 ·have e:isFr (g,true)=false:=by simp [isFr]
  rw [e]
  go_enter Tryz.func149,Tryz.ntmps149
  go_wp2
  go_ret
  exact⟨rfl,hb⟩
theorem cFree_any{w:World}(g:Nat)(t:Bool) :
  Calls Tryz.prog 148 #[.agg #[.int .u32 (g:Nat),.bool t]] w fun e w'=>e=.returned (.bool (isFr (g,t)))/\Below w.heap.size w w':=by
 have c0:=slot_c0 w (.int .u32 (g:Nat)) (.bool t)
 have c1:=slot_c1 w (.int .u32 (g:Nat)) (.bool t)
 have HB:Hid (Below w.heap.size w (w.alloc (.cells #[.int .u32 (g:Nat),.bool t] 196))):=alloc_below w _
 go_enter Tryz.func148,Tryz.ntmps148
 go_wp2_with (first |(go_at_call 149;refine(isFree_any g t).mono ?_;rintro e wx ⟨rfl,hb⟩))
 go_ret
 exact⟨rfl,HB.out.trans (hb.mono HB.out.size)⟩
theorem handle_any{w:World}{p n:Nat}{s:Slots}(h:Tab w p n s)(i:Nat)(hi:i < n) :
  Calls Tryz.prog 150 #[.pointer (some ⟨p,0,none⟩),.int .i64 i] w fun e w'=>e=.returned (.int .u32 (hd s i:Nat))/\w'=w:=by
 have hn:=h.hi
 have c:=h.lay.gen i (by omega)
 have ht:=h.good.top i
 have hiI:(i:Int) < 256:=by omega
 unfold hd
 clear h
 generalize (s i).1=g at *
 go_enter Tryz.func150,Tryz.ntmps150
 go_wp2
 go_ret
 exact⟨rfl,rfl⟩
theorem first_free{w:World}{p n:Nat}{s:Slots}(h:Tab w p n s)(a:Nat)(ha:a<=n)(k:Nat)(hk:nxt (fun i=>isFr (s i)) a (n - a)=k) :
  Calls Tryz.prog 147 #[.pointer (some ⟨p,0,none⟩),.int .i64 a,.func (.func 148) #[] #[]] w fun e w'=>e=.returned (.tuple #[.int .i64 (if k < n then(k:Int) else 0),.bool (decide (k < n))])/\Below w.heap.size w w':=by
 have hlow:∀ j,a<=j->j < k->(isFr (s j))=false:=fun j h1 h2=>nxt_low (fun i=>isFr (s i)) (n - a) a j h1 (by omega)
 have hyes:k < n->(isFr (s k))=true:=fun h1=>by have:=nxt_yes (fun i=>isFr (s i)) (n - a) a (by omega);rw [hk] at this;exact this
 have hle:k<=n:=by have:=nxt_le (fun i=>isFr (s i)) (n - a) a;omega
 have hge:a<=k:=by have:=nxt_ge (fun i=>isFr (s i)) (n - a) a;omega
 have hn:=h.hi
 have HT:Hid (Tab w p n s):=h
 have HL:Hid (∀ j,a<=j->j < k->(isFr (s j))=false):=hlow
 have HY:Hid (k < n->(isFr (s k))=true):=hyes
 clear hlow hyes h hk
 obtain⟨r,hr⟩:∃ r:Int,(if k < n then(k:Int) else 0)=r:=⟨_,rfl⟩
 obtain⟨b,hb⟩:∃ b:Bool,decide (k < n)=b:=⟨_,rfl⟩
 rw [hr,hb]
 have HR:Hid ((if k < n then(k:Int) else 0)=r):=hr
 have HD:Hid (decide (k < n)=b):=hb
 clear hr hb
 go_enter Tryz.func147,Tryz.ntmps147
 go_wp2
 go_loopg [8] (n - a) (fun g s8 wx=>∃ i:Nat,i+g=n/\a<=i/\i<=k/\s8=.int .i64 i/\Hid (Below w.heap.size w wx))
 case atStart=>exact⟨a,by omega,by omega,by omega,rfl,Below.refl _ _⟩
 case round =>
  obtain⟨i,hig,hai,hik,rfl,HB⟩:=hrel
  have H2:Hid (Tab wr p n s):=HT.out.below HB.out
  have c0:=H2.out.lay.many
  cases gk with
  | zero =>
   have hlt:¬ ((i:Int) < n):=by omega
   go_wp2
   go_ret2
   refine⟨?_,HB.out⟩
   rw [←HR.out,←HD.out,if_neg (by omega),decide_eq_false (by omega)]
   rfl
  | succ q =>
   have hlt:(i:Int) < n:=by omega
   have hlt2:(i:Int) < 256:=by omega
   have c1:=H2.out.lay.gen i (by omega)
   have c2:=H2.out.lay.tak i (by omega)
   have hC:=cFree_any (w:=wr) (s i).1 (s i).2
   by_cases e:i=k
   ·subst e
    have hq:=HY.out (by omega)
    rw [show(s i)=((s i).1,(s i).2) from rfl] at hq
    rw [hq] at hC
    clear hq
    generalize (s i).2=t at *
    generalize (s i).1=g at *
    go_wp2_with (first |(go_at_call 148;refine hC.mono ?_;rintro e w2 ⟨rfl,hb⟩))
    go_ret2
    refine⟨?_,HB.out.trans (hb.mono HB.out.size)⟩
    rw [←HR.out,←HD.out,if_pos (by omega),decide_eq_true (by omega)]
    rfl
   ·have hq:=HL.out i (by omega) (by omega)
    rw [show(s i)=((s i).1,(s i).2) from rfl] at hq
    rw [hq] at hC
    clear hq
    generalize (s i).2=t at *
    generalize (s i).1=g at *
    go_wp2_with (first |(go_at_call 148;refine hC.mono ?_;rintro e w2 ⟨rfl,hb⟩;have HB2:Hid (Below w.heap.size w w2):=HB.out.trans (hb.mono HB.out.size);clear hb))
    go_roundg q
    case measure=>omega
    case rel=>exact⟨i+1,by omega,by omega,by omega,by go_num,HB2⟩
def zc(n:Int):Array Value:=(Value.int .i64 n :: (List.replicate 256 [Value.int .u32 0,Value.bool false]).flatten).toArray
theorem zinfo:(Tryz.prog.info? 199).map (fun i=>i.zero)=some (some (.agg (zc 0))):=by kernel_rfl
theorem zval(w:World):Sem.run Tryz.prog (zeroValue 199) w=.ok (.agg (zc 0)) w:=by
 obtain⟨i,hi,he⟩:=Option.map_eq_some_iff.1 zinfo
 simp [zeroValue,typeInfo,hi,he]
theorem zc_ne(n:Int):¬ zc n=#[]:=by simp [zc]
theorem zc_set(n m:Int):(zc n).setIfInBounds 0 (.int .i64 m)=zc m:=by simp [zc]
theorem flat2(a b:Value):∀ m i,i < m->(List.replicate m [a,b]).flatten[i * 2]?=some a/\(List.replicate m [a,b]).flatten[i * 2+1]?=some b
 | 0,i,h=>by omega
 | m+1,0,h=>by simp [List.replicate_succ]
 | m+1,i+1,h=>by
  have:=flat2 a b m i (by omega)
  rw [List.replicate_succ,List.flatten_cons,show(i+1) * 2=i * 2+2 by omega]
  exact this
theorem zc_lay(w:World)(n:Nat):Lay (w.alloc (.cells (zc n) 199)) w.heap.size n none0:=by
 refine⟨_,alloc_at w _,rfl,fun i hi=>?_⟩
 have:=flat2 (.int .u32 0) (.bool false) 256 i hi
 unfold zc
 rw [Nat.add_comm 1,show i * 2+1+1=(i * 2+1)+1 from rfl]
 simp only [List.getElem?_toArray,List.getElem?_cons_succ]
 exact this
theorem new_yes{w:World}(n:Nat)(h1:1<=n)(hn:n<=256) :
  Calls Tryz.prog 70 #[.int .i64 n] w fun e w'=>e=.returned (.tuple #[.pointer (some ⟨w.heap.size,0,none⟩),.int .i64 0])/\Tab w' w.heap.size n none0/\Below w.heap.size w w':=by
 have a1:¬ (n:Int) < 1:=by omega
 have a2:¬ (256:Int) < n:=by omega
 have z1:=zval
 have z2:=zc_ne 0
 have z3:=zc_set 0 n
 have hp:Hid (Tab (w.alloc (.cells (zc n) 199)) w.heap.size n none0):=⟨zc_lay w n,h1,hn,Good.zero n⟩
 have hb:=alloc_below w (.cells (zc n) 199)
 go_enter Tryz.func70,Tryz.ntmps70
 go_wp2
 go_ret2
 exact⟨rfl,hp.out,hb⟩
theorem place_any{w:World}{p n:Nat}{s:Slots}(H:Tab w p n s)(h:Nat)(hh:h<=4294967295) :
  Calls Tryz.prog 91 #[.pointer (some ⟨p,0,none⟩),.int .u32 (h:Nat)] w fun e w'=>e=.returned (.tuple #[.int .i64 (placeP s h:Nat),.int .i64 (placeE s h)])/\Below w.heap.size w w':=by
 have hm:=H.lay.many
 have h1:=H.lo
 have hT:=there_yes hm h1
 have e1:Int.tmod (h:Int) 256=((h % 256:Nat):Int):=rfl
 have e2:Int.tdiv (h:Int) 256=((h / 256:Nat):Int):=rfl
 have hk:h % 256 < 256:=by omega
 have hg:h / 256<=16777215:=by omega
 have c0:=H.lay.gen (h % 256) hk
 have c1:=H.lay.tak (h % 256) hk
 clear H
 have hkI:((h % 256:Nat):Int) < 256:=by omega
 by_cases q1:h / 256=0
 ·have hE:placeE s h=5:=by unfold placeE;rw [if_pos (Or.inl q1)]
  have hP:placeP s h=0:=by unfold placeP;rw [hE];rfl
  rw [hE,hP]
  have q2:(((h / 256:Nat):Int) == 0)=true:=by simp;omega
  clear q1
  clear hE hP
  generalize h % 256=k at *
  generalize h / 256=g at *
  generalize (s k).1=sg at *
  generalize (s k).2=st at *
  go_enter Tryz.func91,Tryz.ntmps91
  go_wp2_with (go_at_call 133;refine hT.mono ?_;rintro e wx ⟨rfl,hwx⟩;obtain rfl:=hwx.symm)
  go_ret2
  exact⟨rfl,alloc_below w _⟩
 ·have q2:(((h / 256:Nat):Int) == 0)=false:=by simp;omega
  by_cases q3:(s (h % 256)).1 < h / 256
  ·have hE:placeE s h=5:=by unfold placeE;rw [if_pos (Or.inr q3)]
   have hP:placeP s h=0:=by unfold placeP;rw [hE];rfl
   rw [hE,hP]
   have q4:(((s (h % 256)).1:Nat):Int) < ((h / 256:Nat):Int):=by omega
   clear q1 q3
   clear hE hP
   generalize h % 256=k at *
   generalize h / 256=g at *
   generalize (s k).1=sg at *
   generalize (s k).2=st at *
   go_enter Tryz.func91,Tryz.ntmps91
   go_wp2_with (go_at_call 133;refine hT.mono ?_;rintro e wx ⟨rfl,hwx⟩;obtain rfl:=hwx.symm)
   go_ret2
   exact⟨rfl,alloc_below w _⟩
  ·have q4:¬ (((s (h % 256)).1:Nat):Int) < ((h / 256:Nat):Int):=by omega
   by_cases q5:h / 256 < (s (h % 256)).1
   ·have hE:placeE s h=6:=by unfold placeE;rw [if_neg (by omega),if_pos (Or.inl q5)]
    have hP:placeP s h=0:=by unfold placeP;rw [hE];rfl
    rw [hE,hP]
    have q6:((h / 256:Nat):Int) < (((s (h % 256)).1:Nat):Int):=by omega
    clear q1 q3 q5
    clear hE hP
    generalize h % 256=k at *
    generalize h / 256=g at *
    generalize (s k).1=sg at *
    generalize (s k).2=st at *
    go_enter Tryz.func91,Tryz.ntmps91
    go_wp2_with (go_at_call 133;refine hT.mono ?_;rintro e wx ⟨rfl,hwx⟩;obtain rfl:=hwx.symm)
    go_ret2
    exact⟨rfl,alloc_below w _⟩
   ·have q6:¬ ((h / 256:Nat):Int) < (((s (h % 256)).1:Nat):Int):=by omega
    by_cases q7:(s (h % 256)).2=false
    ·have hE:placeE s h=6:=by unfold placeE;rw [if_neg (by omega),if_pos (Or.inr q7)]
     have hP:placeP s h=0:=by unfold placeP;rw [hE];rfl
     rw [hE,hP]
     rw [q7] at c1
     clear q1 q3 q5 q7
     clear hE hP
     generalize h % 256=k at *
     generalize h / 256=g at *
     generalize (s k).1=sg at *
     go_enter Tryz.func91,Tryz.ntmps91
     go_wp2_with (go_at_call 133;refine hT.mono ?_;rintro e wx ⟨rfl,hwx⟩;obtain rfl:=hwx.symm)
     go_ret2
     exact⟨rfl,alloc_below w _⟩
    ·have q8:(s (h % 256)).2=true:=by simpa using q7
     have hE:placeE s h=0:=placeE_of (by omega) (by omega) q8
     have hP:placeP s h=h % 256:=by unfold placeP;rw [hE];rfl
     rw [hE,hP]
     rw [q8] at c1
     clear q1 q3 q5 q7 q8
     clear hE hP
     generalize h % 256=k at *
     generalize h / 256=g at *
     generalize (s k).1=sg at *
     go_enter Tryz.func91,Tryz.ntmps91
     go_wp2_with (go_at_call 133;refine hT.mono ?_;rintro e wx ⟨rfl,hwx⟩;obtain rfl:=hwx.symm)
     go_ret2
     exact⟨rfl,alloc_below w _⟩
theorem drop_any{w:World}{p n:Nat}{s:Slots}(H:Tab w p n s)(h:Nat)(hh:h<=4294967295) :
  Calls Tryz.prog 97 #[.pointer (some ⟨p,0,none⟩),.int .u32 (h:Nat)] w fun e w'=>e=.returned (.int .i64 (placeE s h))/\Tab w' p n (dropS s h)/\Buts [p] w w':=by
 have hC:=place_any H h hh
 have HT:Hid (Tab w p n s):=H
 by_cases q:placeE s h=0
 ·have hP:placeP s h=h % 256:=by unfold placeP;rw [if_pos q]
  have HG:Hid (Good n (dropS s h)):=H.good.drop h
  have HE:Hid (dropS s h=upd s (h % 256) ((s (h % 256)).1,false)):=by show _=_;unfold dropS;rw [if_pos q]
  have hk:h % 256 < 256:=by omega
  rw [q,hP] at hC
  rw [q]
  clear H hP q
  generalize h % 256=k at *
  have hkI:(k:Int) < 256:=by omega
  go_enter Tryz.func97,Tryz.ntmps97
  go_wp2_with (first
   |(go_at_call 91;refine hC.mono ?_;rintro e w1 ⟨rfl,hb⟩;have H1:Hid (Tab w1 p n s):=HT.out.below hb;have HB:Hid (Below w.heap.size w w1):=hb;have c1:=H1.out.lay.tak k hk;have c2:=H1.out.lay.free (1+k * 2+1);clear hb))
  go_ret
  refine⟨rfl,⟨?_,HT.out.lo,HT.out.hi,HG.out⟩,(Buts.of HB.out).trans (Buts.cell _ _ _ _)⟩
  rw [HE.out]
  exact H1.out.lay.setTak k hk false
 ·have q2:(placeE s h == 0)=false:=by simpa using q
  have HE:Hid (dropS s h=s):=dropS_no q
  clear H q
  generalize placeE s h=e at *
  go_enter Tryz.func97,Tryz.ntmps97
  go_wp2_with (first
   |(go_at_call 91;refine hC.mono ?_;rintro e w1 ⟨rfl,hb⟩;have H1:Hid (Tab w1 p n s):=HT.out.below hb;have HB:Hid (Below w.heap.size w w1):=hb;clear hb))
  go_ret
  refine⟨rfl,?_,Buts.of HB.out⟩
  rw [HE.out]
  exact H1.out
theorem make_any{w:World}{p n:Nat}{s:Slots}(H:Tab w p n s) :
  Calls Tryz.prog 107 #[.pointer (some ⟨p,0,none⟩)] w fun e w'=>e=.returned (.tuple #[.int .u32 (makeH n s:Nat),.int .i64 (makeE n s)])/\Tab w' p n (makeS n s)/\Buts [p] w w':=by
 have hm:=H.lay.many
 have hT:=there_yes hm H.lo
 have hn:=H.hi
 have hC:=first_free H 0 (Nat.zero_le _) (fr n s) rfl
 have HT:Hid (Tab w p n s):=H
 by_cases q:fr n s < n
 ·have HE:Hid (makeS n s=upd s (fr n s) ((s (fr n s)).1+1,true)):=by show _=_;unfold makeS;rw [if_pos q]
  have HG:Hid (Good n (makeS n s)):=H.good.make
  have hE:makeE n s=0:=if_pos q
  have HH:Hid (makeH n s=hd (makeS n s) (fr n s)):=by show _=_;rw [HE.out];unfold makeH hd;rw [if_pos q,upd_at]
  have htop:=(isFr_not (fr_yes q)).2
  rw [if_pos q,decide_eq_true q] at hC
  rw [hE,HH.out]
  clear H hE
  generalize fr n s=k at *
  have hk:k < 256:=by omega
  have hkI:(k:Int) < 256:=by omega
  obtain⟨g,hg⟩:∃ g,(s k).1=g:=⟨_,rfl⟩
  rw [hg] at htop
  have HGE:Hid ((s k).1=g):=hg
  clear hg
  have hwr:IntKind.u32.wrap ((g:Int)+1)=((g+1:Nat):Int):=by rw [IntKind.wrap_u32];omega
  generalize hh:hd (makeS n s) k=r
  have HR:Hid (hd (makeS n s) k=r):=hh
  clear hh
  go_enter Tryz.func107,Tryz.ntmps107
  go_wp2_with (first
   |(go_at_call 133;refine hT.mono ?_;rintro e wx ⟨rfl,hwx⟩;obtain rfl:=hwx.symm)
   |(go_at_call 147;refine hC.mono ?_;rintro e w1 ⟨rfl,hb⟩;have H1:Hid (Tab w1 p n s):=HT.out.below hb;have HB:Hid (Below w.heap.size w w1):=hb;have c0:=H1.out.lay.gen k hk;have c1:=H1.out.lay.tak k hk;have c2:=H1.out.lay.free (1+k * 2);have c3:=H1.out.lay.free (1+k * 2+1);rw [HGE.out] at c0;clear hb))
  go_region
  all_goals
   have H2:Hid (Tab ((w1.setCell ⟨p,1+k * 2,none⟩ (.int .u32 ((g:Int)+1))).setCell ⟨p,1+k * 2+1,none⟩ (.bool true)).drew p n (makeS n s)):=by
    refine Tab.drew (k:=1) ⟨?_,HT.out.lo,hn,HG.out⟩
    rw [HE.out,HGE.out,show(g:Int)+1=((g+1:Nat):Int) by omega]
    exact H1.out.lay.setBoth k hk (g+1) true
   have B2:Hid (Buts [p] w ((w1.setCell ⟨p,1+k * 2,none⟩ (.int .u32 ((g:Int)+1))).setCell ⟨p,1+k * 2+1,none⟩ (.bool true)).drew):=(((Buts.of HB.out).trans (Buts.cell _ _ _ _)).trans (Buts.cell _ _ _ _)).drew
   generalize ((w1.setCell ⟨p,1+k * 2,none⟩ (.int .u32 ((g:Int)+1))).setCell ⟨p,1+k * 2+1,none⟩ (.bool true)).drew=w2 at *
   have hH:=handle_any H2.out k q
   rw [HR.out] at hH
   go_wp2_with (first |(go_at_call 150;refine hH.mono ?_;rintro e w3 ⟨rfl,hw3⟩;obtain rfl:=hw3.symm))
   go_ret2
   exact⟨rfl,H2.out,B2.out⟩
 ·have HE:Hid (makeS n s=s):=if_neg q
  have hE:makeE n s=3:=if_neg q
  have hH:makeH n s=0:=if_neg q
  rw [if_neg q,decide_eq_false q] at hC
  rw [hE,hH]
  clear H hE hH q
  go_enter Tryz.func107,Tryz.ntmps107
  go_wp2_with (first
   |(go_at_call 133;refine hT.mono ?_;rintro e wx ⟨rfl,hwx⟩;obtain rfl:=hwx.symm)
   |(go_at_call 147;refine hC.mono ?_;rintro e w1 ⟨rfl,hb⟩;have H1:Hid (Tab w1 p n s):=HT.out.below hb;have HB:Hid (Below w.heap.size w w1):=hb;clear hb))
  go_ret2
  refine⟨rfl,?_,Buts.of HB.out⟩
  rw [HE.out]
  exact H1.out
theorem infoW:(Tryz.prog.info? 22).map (fun i=>(i.zero,i.size,i.bytes))=some (some (.int .u32 0),1,4):=by kernel_rfl
end Go.Proofs.YtbbdndfibjdcfaaGreat.Hd
