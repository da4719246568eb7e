/- Package kernel, proved: part KtRd1. No law of the program itself. -/
import Derived.Test.YtbbdndfibjdcfaaGreatRows
import Derived.WalkKit
import Derived.ProofKit
import Derived.OpenShut
import Derived.Laws.CopyOwn
import Derived.Laws.MakeOwn
import Derived.Laws.OwnMore
import Derived.Deep.RegionLaw
import Derived.Deep.QuietTactic
import Derived.BigQuiet
import Derived.Deep.CutRange
import Derived.Deep.RegionWith
import Derived.Deep.RegionHeld3
import Derived.Deep.CutBlock
import Derived.Laws.BitsAllLaws
import Derived.Laws.MathBits
import Derived.Lib.BitFns
import Derived.Laws.ShiftsVarLaws
import Derived.RangeFuncBox
import Derived.RangeFuncLeaves
import Derived.RangeFuncCalls
import Derived.Shelf.Abstract
import Derived.OwnWalkIn
import Derived.TacticsInMore
import Derived.LoopNIn
import Derived.LoopIn
import Derived.Maps.AppendAt
import Derived.Shelf.RegionOpen
import Derived.Sort.QuietTacIn
import Derived.Test.YtbbdndfibjdcfaaGreatKtA1
set_option maxRecDepth 100000
set_option linter.all false
set_option maxHeartbeats 16000000
namespace Go.Proofs.YtbbdndfibjdcfaaGreat.Rd
open Go Go.RowKit
theorem sl_tmod{n f i:Nat}(hf:f < n)(hi:i<=n):Int.tmod ((f:Int)+(i:Int)) (n:Int)=(sl n f i:Int):=by
 rw [←sl_mod hf hi,←Int.natCast_add,←Int.ofNat_tmod]
def Holds(n f:Nat)(ys xs:List Int):Prop:=∀ i,i < xs.length->ys.getD (sl n f i) 0=xs.getD i 0
theorem Holds.nil(n f:Nat)(ys:List Int):Holds n f ys []:=fun i hi=>by simp at hi
theorem Holds.addLast{n f:Nat}{ys xs:List Int}(h:Holds n f ys xs)(hy:ys.length=n)(hf:f < n)(hx:xs.length < n)(z:Int):Holds n f (ys.set (sl n f xs.length) z) (xs ++ [z]):=by
 intro i hi
 have hi':i<=xs.length:=by simp at hi;omega
 rw [getD_set (by rw [hy];exact sl_lt hf (by omega)),getD_app]
 by_cases e:i=xs.length
 ·subst e;simp
 ·rw [if_neg (fun k=>e (sl_inj hf (by omega) hx k)),if_pos (by omega)]
  exact h i (by omega)
def Moved(n f:Nat)(ys xs:List Int)(k j:Nat):Prop:=∀ i,i < xs.length->ys.getD (sl n f i) 0=if k<=i/\i < j then xs.getD (i+1) 0 else xs.getD i 0
theorem Holds.moved{n f:Nat}{ys xs:List Int}(h:Holds n f ys xs)(k:Nat):Moved n f ys xs k k:=fun i hi=>by
 rw [if_neg (by omega)];exact h i hi
theorem Moved.next{n f:Nat}{ys xs:List Int}{k j:Nat}(h:Moved n f ys xs k j)(hk:k<=j)(hj:j+1 < xs.length)(hy:ys.length=n)(hf:f < n)(hx:xs.length<=n):Moved n f (ys.set (sl n f j) (ys.getD (sl n f (j+1)) 0)) xs k (j+1):=by
 intro i hi
 have e0:ys.getD (sl n f (j+1)) 0=xs.getD (j+1) 0:=by rw [h (j+1) hj,if_neg (by omega)]
 rw [getD_set (by rw [hy];exact sl_lt hf (by omega)),e0]
 by_cases e:i=j
 ·subst e;rw [if_pos rfl,if_pos (by omega)]
 ·rw [if_neg (fun q=>e (sl_inj hf (by omega) (by omega) q)),h i hi]
  by_cases c:k<=i/\i < j
  ·rw [if_pos c,if_pos (by omega)]
  ·rw [if_neg c,if_neg (by omega)]
theorem Moved.end{n f:Nat}{ys xs:List Int}{k j:Nat}(h:Moved n f ys xs k j)(hj:j+1=xs.length)(hk:k<=j):Holds n f ys (xs.eraseIdx k):=by
 intro i hi
 have hl:(xs.eraseIdx k).length=j:=by rw [List.length_eraseIdx];split <;> omega
 rw [h i (by omega)]
 by_cases c:i < k
 ·rw [if_neg (by omega)];simp [List.getElem?_eraseIdx,c]
 ·rw [if_pos (by omega)];simp [List.getElem?_eraseIdx,c]
def addE(xs:List Int)(n:Nat)(z:Int):Int:=if z < 0 then 1 else if z∈xs then 7 else if xs.length=n then 10 else 0
def putL(xs:List Int)(n:Nat)(z:Int):List Int:=if addE xs n z=0 then xs ++ [z] else xs
def remE(xs:List Int)(z:Int):Int:=if z∈xs then 0 else 1
theorem addE_arg{xs:List Int}{n:Nat}{z:Int}(h:z < 0):addE xs n z=1:=by simp [addE,h]
theorem addE_state{xs:List Int}{n:Nat}{z:Int}(h:¬ z < 0)(hm:z∈xs):addE xs n z=7:=by simp [addE,h,hm]
theorem addE_full{xs:List Int}{n:Nat}{z:Int}(h:¬ z < 0)(hm:z ∉ xs)(hl:xs.length=n):addE xs n z=10:=by simp [addE,h,hm,hl]
theorem addE_ok{xs:List Int}{n:Nat}{z:Int}(h:¬ z < 0)(hm:z ∉ xs)(hl:xs.length≠n):addE xs n z=0:=by simp [addE,h,hm,hl]
theorem getD_mem{zs:List Int}{i:Nat}(h:i < zs.length):zs.getD i 0∈zs:=by
 rw [show zs.getD i 0=zs[i] by simp [h]];exact List.getElem_mem h
theorem first_at{xs:List Int}{z:Int}(h:z∈xs):∃ k,k < xs.length/\xs.getD k 0=z/\(∀ j,j < k->xs.getD j 0≠z)/\xs.erase z=xs.eraseIdx k:=by
 refine⟨xs.idxOf z,List.idxOf_lt_length_of_mem h,?_,fun j hj=>?_,List.erase_eq_eraseIdx_of_idxOf rfl⟩
 ·simp [List.idxOf_lt_length_of_mem h]
 ·have:=List.not_of_lt_findIdx (p:=(· == z)) (xs:=xs) (i:=j) hj
  have hl:j < xs.length:=Nat.lt_trans hj (List.idxOf_lt_length_of_mem h)
  simp only [List.getD_eq_getElem?_getD,List.getElem?_eq_getElem hl,Option.getD_some]
  simpa using this
structure Buts (l:List Nat) (w w':World):Prop where
 os:w'.os=w.os
 tape:w'.tape=w.tape
 output:w'.output=w.output
 size:w.heap.size<=w'.heap.size
 block:∀ k,k < w.heap.size->k ∉ l->w'.heap[k]?=w.heap[k]?
theorem Buts.trans{l:List Nat}{a b c:World}(h:Buts l a b)(k:Buts l b c):Buts l a c :=
 ⟨k.os.trans h.os,k.tape.trans h.tape,k.output.trans h.output,Nat.le_trans h.size k.size,fun i hi hg=>(k.block i (Nat.lt_of_lt_of_le hi h.size) hg).trans (h.block i hi hg)⟩
theorem Buts.mono{l m:List Nat}{a b:World}(h:Buts l a b)(hm:∀ x∈l,x∈m):Buts m a b :=
 ⟨h.os,h.tape,h.output,h.size,fun i hi hg=>h.block i hi fun e=>hg (hm i e)⟩
theorem Buts.of{l:List Nat}{w w':World}(h:Below w.heap.size w w'):Buts l w w':=⟨h.os,h.tape,h.output,h.size,fun k hk _=>h.block k hk⟩
theorem Buts.below{l:List Nat}{B:Nat}{w w':World}(h:Buts l w w')(hg:∀ x∈l,B<=x)(hB:B<=w.heap.size):Below B w w' :=
 ⟨h.os,h.tape,h.output,h.size,fun k hk=>h.block k (by omega) (fun e=>by have:=hg k e;omega)⟩
theorem Buts.drew{l:List Nat}{a b:World}(h:Buts l a b):Buts l a b.drew:=⟨h.os,h.tape,h.output,h.size,h.block⟩
theorem Buts.cell(w:World)(g k:Nat)(v:Value):Buts [g] w (w.setCell ⟨g,k,none⟩ v) :=
 ⟨rfl,rfl,rfl,by simp [World.setCell],fun j hj hg=>Below.heap_setCell _ _ _ _ (by simpa using hg)⟩
structure Raw (w:World) (p g n f m:Nat) (ys:List Int):Prop where
 head:w.heap[p]?=some (.cells #[.slice (some ⟨g,0,none⟩) n n,.int .i64 f,.int .i64 m] 203 (0,0))
 row:Row w g ys
 len:ys.length=n
theorem Raw.ne{w:World}{p g n f m:Nat}{ys:List Int}(h:Raw w p g n f m ys):p≠g:=by
 rintro rfl
 have h1:=h.head
 have h2:=h.row
 unfold Row at h2
 rw [h1] at h2
 simp at h2
theorem Raw.c0{w:World}{p g n f m:Nat}{ys:List Int}(h:Raw w p g n f m ys):w.cell? ⟨p,0,none⟩=some (.slice (some ⟨g,0,none⟩) n n):=by rw [cell_of h.head];rfl
theorem Raw.c1{w:World}{p g n f m:Nat}{ys:List Int}(h:Raw w p g n f m ys):w.cell? ⟨p,1,none⟩=some (.int .i64 f):=by rw [cell_of h.head];rfl
theorem Raw.c2{w:World}{p g n f m:Nat}{ys:List Int}(h:Raw w p g n f m ys):w.cell? ⟨p,2,none⟩=some (.int .i64 m):=by rw [cell_of h.head];rfl
theorem Raw.fp{w:World}{p g n f m:Nat}{ys:List Int}(h:Raw w p g n f m ys)(i:Nat):w.frozen? ⟨p,i,none⟩=false:=by simp [World.frozen?,h.head]
theorem Raw.fg{w:World}{p g n f m:Nat}{ys:List Int}(h:Raw w p g n f m ys)(i:Nat):w.frozen? ⟨g,i,none⟩=false:=h.row.free i
theorem Raw.setMany{w:World}{p g n f m:Nat}{ys:List Int}(h:Raw w p g n f m ys)(m':Nat):Raw (w.setCell ⟨p,2,none⟩ (.int .i64 m')) p g n f m' ys:=by
 refine⟨?_,?_,h.len⟩
 ·have hl:=at_lt h.head
  have hh:=(Array.getElem?_eq_some_iff.1 h.head).2
  unfold World.setCell
  rw [Array.getElem?_eq_getElem (by simpa using hl),Array.getElem_modify]
  simp [hh]
 ·have:=h.row
  unfold Row at this ⊢
  rw [Below.heap_setCell _ _ _ _ (Ne.symm h.ne)];exact this
theorem Raw.setSlot{w:World}{p g n f m:Nat}{ys:List Int}(h:Raw w p g n f m ys)(k:Nat)(v:Int):Raw (w.setCell ⟨g,k,none⟩ (.int .i64 v)) p g n f m (ys.set k v):=by
 refine⟨?_,h.row.set k v,by rw [List.length_set];exact h.len⟩
 rw [Below.heap_setCell _ _ _ _ h.ne];exact h.head
theorem Raw.buts{w w':World}{p g n f m:Nat}{ys:List Int}{l:List Nat}(h:Raw w p g n f m ys)(hb:Buts l w w')(hp:p ∉ l)(hg:g ∉ l):Raw w' p g n f m ys :=
 ⟨(hb.block p (at_lt h.head) hp).trans h.head,(hb.block g h.row.lt hg).trans h.row,h.len⟩
structure Ring (w:World) (p g n:Nat) (xs:List Int):Prop where
 raw:∃ f ys,f < n/\Raw w p g n f xs.length ys/\Holds n f ys xs
 lo:1<=n
 hi:n<=1024
 len:xs.length<=n
theorem Ring.buts{w w':World}{p g n:Nat}{xs:List Int}{l:List Nat}(h:Ring w p g n xs)(hb:Buts l w w')(hp:p ∉ l)(hg:g ∉ l):Ring w' p g n xs:=by
 obtain⟨f,ys,hf,hr,hh⟩:=h.raw
 exact⟨⟨f,ys,hf,hr.buts hb hp hg,hh⟩,h.lo,h.hi,h.len⟩
theorem Ring.below{w w':World}{p g n:Nat}{xs:List Int}(h:Ring w p g n xs)(hb:Below w.heap.size w w'):Ring w' p g n xs :=
 h.buts (l:=[]) (Buts.of hb) (by simp) (by simp)
theorem Ring.lt{w:World}{p g n:Nat}{xs:List Int}(h:Ring w p g n xs):p < w.heap.size/\g < w.heap.size:=by
 obtain⟨f,ys,hf,hr,hh⟩:=h.raw
 exact⟨at_lt hr.head,hr.row.lt⟩
theorem slot_any{w:World}{p g n f m:Nat}{ys:List Int}(h:Raw w p g n f m ys)(hf:f < n)(hn:n<=1024)(i:Nat)(hi:i<=n) :
  Calls Tryz.prog 189 #[.pointer (some ⟨p,0,none⟩),.int .i64 i] w fun e w'=>e=.returned (.int .i64 (sl n f i:Nat))/\∃ k,w'=w.drewN k:=by
 have c0:=h.c0
 have c1:=h.c1
 have hs:=sl_tmod hf hi
 have hl:=sl_lt hf hi
 have hz:((n:Int) == 0)=false:=by simp;omega
 clear h
 generalize sl n f i=s at *
 go_enter Tryz.func189,Tryz.ntmps189
 go_wp2
 go_quiet ((fail))
 go_wp2
 go_ret
 exact⟨rfl,_,rfl⟩
theorem there_yes{w:World}{p g n f m:Nat}{ys:List Int}(h:Raw w p g n f m ys)(h1:1<=n) :
  Calls Tryz.prog 154 #[.pointer (some ⟨p,0,none⟩)] w fun e w'=>e=.returned (.bool true)/\w'=w:=by
 have c0:=h.c0
 have hz:decide (0 < n)=true:=decide_eq_true (by omega)
 clear h
 go_enter Tryz.func154,Tryz.ntmps154
 go_wp2
 go_ret
 exact⟨rfl,rfl⟩
theorem isFull_any{w:World}{p g n f m:Nat}{ys:List Int}(h:Raw w p g n f m ys)(b:Bool)(hb:((m:Int) == (n:Int))=b) :
  Calls Tryz.prog 207 #[.pointer (some ⟨p,0,none⟩)] w fun e w'=>e=.returned (.bool b)/\∃ k,w'=w.drewN k:=by
 have c0:=h.c0
 have c2:=h.c2
 clear h
 go_enter Tryz.func207,Tryz.ntmps207
 go_wp2
 go_quiet ((fail))
 go_wp2
 go_ret
 exact⟨rfl,_,rfl⟩
theorem Raw.below{w w':World}{p g n f m:Nat}{ys:List Int}(h:Raw w p g n f m ys)(hb:Below w.heap.size w w'):Raw w' p g n f m ys :=
 h.buts (l:=[]) (Buts.of hb) (by simp) (by simp)
theorem Raw.drew{w:World}{p g n f m:Nat}{ys:List Int}(h:Raw w p g n f m ys)(k:Nat):Raw (w.drewN k) p g n f m ys:=h.below (below_drewN _ _)
/-- the first place of a number,as the program seeks it -/
theorem placeOf_any{w:World}{p g n f:Nat}{ys xs:List Int}(h:Raw w p g n f xs.length ys)(hf:f < n)(hn:n<=1024)(hx:xs.length<=n)(hh:Holds n f ys xs)(z:Int)(k:Nat)(b:Bool)
  (hk:k<=xs.length) (hlow:∀ j,j < k->xs.getD j 0≠z) (hb:b=true->k < xs.length/\xs.getD k 0=z) (hb':b=false->k=xs.length) :
  Calls Tryz.prog 155 #[.pointer (some ⟨p,0,none⟩),.int .i64 z] w fun e w'=>e=.returned (.tuple #[.int .i64 (if b then(k:Int) else 0),.bool b])/\∃ j,w'=w.drewN j:=by
 have HH:Hid (Holds n f ys xs):=hh
 have HL:Hid (∀ j,j < k->xs.getD j 0≠z):=hlow
 have HB:Hid (b=true->k < xs.length/\xs.getD k 0=z):=hb
 have HB':Hid (b=false->k=xs.length):=hb'
 have HR:Hid (Raw w p g n f xs.length ys):=h
 have HY:Hid (ys.length=n):=h.len
 obtain⟨m,hm⟩:∃ m,xs.length=m:=⟨_,rfl⟩
 have HM:Hid (xs.length=m):=hm
 have c2:=h.c2
 rw [hm] at c2 hk hx HR HB HB'
 clear h hh hlow hb hb' hm
 go_enter Tryz.func155,Tryz.ntmps155
 go_wp2
 go_loopg [11] m (fun g s11 wx=>∃ i:Nat,i+g=m/\i<=k/\s11=.int .i64 i/\∃ j,wx=w.drewN j)
 case atStart=>exact⟨0,by omega,by omega,rfl,0,rfl⟩
 case round =>
  obtain⟨i,hig,hik,rfl,jd,hwr⟩:=hrel
  have HR':Hid (Raw wr p g n f m ys):=by rw [hwr];exact HR.out.drew jd
  have HW:Hid (wr=w.drewN jd):=hwr
  clear hwr
  cases gk with
  | zero =>
   have hlt:¬ ((i:Int) < m):=by omega
   have hbf:b=false:=by
    cases b
    ·rfl
    ·have:=HB.out rfl;omega
   subst hbf
   go_wp2
   go_ret2
   exact⟨rfl,jd,HW.out⟩
  | succ q =>
   have hlt:(i:Int) < m:=by omega
   have d0:=HR'.out.c0
   have hsl:=sl_lt hf (show i<=n by omega)
   have ds:=HR'.out.row.cell (sl n f i) (by have:=HY.out;omega)
   have hsx:Hid (ys.getD (sl n f i) 0=xs.getD i 0):=HH.out i (by have:=HM.out;omega)
   rw [hsx.out] at ds
   have hslI:((sl n f i:Nat):Int) < n:=by omega
   have hC:=fun q=>slot_any (HR'.out.drew q) hf hn i (by omega)
   clear hsx
   generalize sl n f i=s at *
   by_cases e:i=k
   ·have hbt:b=true:=by
     cases b
     ·have:=HB'.out rfl;omega
     ·rfl
    subst hbt e
    have hz:xs.getD i 0=z:=(HB.out rfl).2
    rw [hz] at ds
    clear hz
    go_wp2
    go_quiet ((go_at_call 189;exact Calls.quiet_of (hC _)))
    go_wp2
    go_ret2
    exact⟨rfl,_,by rw [HW.out,World.drewN_drewN]⟩
   ·have hz:(xs.getD i 0 == z)=false:=by have:=HL.out i (by omega);simpa using this
    generalize xs.getD i 0=y at *
    go_wp2
    go_quiet ((go_at_call 189;exact Calls.quiet_of (hC _)))
    go_wp2
    go_roundg q
    case measure=>omega
    case rel=>exact⟨i+1,by omega,by omega,by go_num,_,by rw [HW.out,World.drewN_drewN]⟩
theorem Raw.drew1{w:World}{p g n f m:Nat}{ys:List Int}(h:Raw w p g n f m ys):Raw w.drew p g n f m ys:=h.drew 1
theorem drew_below(w:World):Below w.heap.size w w.drew:=below_drewN w 1
theorem addLast_any{w:World}{p g n f m:Nat}{ys:List Int}(h:Raw w p g n f m ys)(hf:f < n)(hn:n<=1024)(hm:m < n)(z:Int) :
  Calls Tryz.prog 187 #[.pointer (some ⟨p,0,none⟩),.int .i64 z] w fun e w'=>e=.returned (.tuple #[])/\Raw w' p g n f (m+1) (ys.set (sl n f m) z)/\Buts [p,g] w w':=by
 have hd:=h.drew1
 have hC:=slot_any hd hf hn m (by omega)
 have d0:=hd.c0
 have d2:=hd.c2
 have hsl:=sl_lt hf (show m<=n by omega)
 have hslI:((sl n f m:Nat):Int) < n:=by omega
 have hlen:=h.len
 have hpg:=h.ne
 have hgp:=Ne.symm h.ne
 have HS:Hid (∀ k,Raw (w.drew.drewN k) p g n f m ys):=fun k=>hd.drew k
 have HW:Hid (∀ k,Buts [p,g] w (w.drew.drewN k)):=fun k=>Buts.of ((drew_below w).trans ((below_drewN w.drew k).mono (drew_below w).size))
 clear h hd
 generalize sl n f m=s at *
 go_enter Tryz.func187,Tryz.ntmps187
 go_wp2
 go_region_held3 (fun w'=>w'.cell? ⟨p,0,none⟩=some (.slice (some ⟨g,0,none⟩) n n)/\w'.cell? ⟨p,2,none⟩=some (.int .i64 m)) (go_keep) (first |(go_at_call 189;refine hC.mono ?_;rintro e wx ⟨rfl,kq,hwx⟩;have R1:Hid (Raw wx p g n f m ys):=(by rw [hwx];exact HS.out kq);have B1:Hid (Buts [p,g] w wx):=(by rw [hwx];exact HW.out kq);have k0:=R1.out.c0;have k2:=R1.out.c2;have kg:=R1.out.row.cell s (by omega);have kf:=R1.out.fg s;clear hwx))
 all_goals
  have R2:Hid (Raw (wx.setCell ⟨g,s,none⟩ (.int .i64 z)) p g n f m (ys.set s z)):=R1.out.setSlot s z
  have B2:Hid (Buts [p,g] w (wx.setCell ⟨g,s,none⟩ (.int .i64 z))):=B1.out.trans ((Buts.cell _ _ _ _).mono (by simp))
  generalize wx.setCell ⟨g,s,none⟩ (.int .i64 z)=w2 at *
  have q2:=R2.out.c2
  have qf:=R2.out.fp 2
  go_wp2
  go_end0
  exact⟨rfl,R2.out.setMany (m+1),B2.out.trans ((Buts.cell _ _ _ _).mono (by simp))⟩
theorem slot_raw{w:World}{p g n f m:Nat}{ys:List Int}(h:Raw w p g n f m ys)(hf:f < n)(hn:n<=1024)(i:Nat)(hi:i<=n)(s:Nat)(hs:sl n f i=s) :
  Calls Tryz.prog 189 #[.pointer (some ⟨p,0,none⟩),.int .i64 i] w fun e w'=>e=.returned (.int .i64 (s:Nat))/\Raw w' p g n f m ys/\Below w.heap.size w w' :=
 (slot_any h hf hn i hi).mono fun e w' ⟨he,k,hk⟩=>by subst hk hs;exact⟨he,h.drew k,below_drewN _ _⟩
theorem slot_next{w:World}{p g n f m:Nat}{ys:List Int}(h:Raw w p g n f m ys)(hf:f < n)(hn:n<=1024)(i:Nat)(hi:i+1<=n)(s:Nat)(hs:sl n f (i+1)=s){v:Int}(hv:v=(i:Int)+1) :
  Calls Tryz.prog 189 #[.pointer (some ⟨p,0,none⟩),.int .i64 v] w fun e w'=>e=.returned (.int .i64 (s:Nat))/\Raw w' p g n f m ys/\Below w.heap.size w w' :=
 by subst hv;exact slot_raw h hf hn (i+1) hi s hs
theorem removeAt_any{w:World}{p g n f m:Nat}{ys xs:List Int}(h:Raw w p g n f xs.length ys)(hf:f < n)(hn:n<=1024)(hx:xs.length<=n)(hh:Holds n f ys xs)(k:Nat)(hm:xs.length=m+1)(hk:k<=m) :
  Calls Tryz.prog 156 #[.pointer (some ⟨p,0,none⟩),.int .i64 k] w fun e w'=>e=.returned (.tuple #[])/\(∃ ys',Raw w' p g n f m ys'/\Holds n f ys' (xs.eraseIdx k))/\Buts [p,g] w w':=by
 have HM:Hid (xs.length=m+1):=hm
 rw [hm] at h hx
 have c2:=h.c2
 have cf:=h.fp 2
 have HV:Hid (Moved n f ys xs k k):=hh.moved k
 have R0:Hid (Raw (w.setCell ⟨p,2,none⟩ (.int .i64 m)) p g n f m ys):=h.setMany m
 have B0:Hid (Buts [p,g] w (w.setCell ⟨p,2,none⟩ (.int .i64 m))):=(Buts.cell _ _ _ _).mono (by simp)
 clear h hh hm
 go_enter Tryz.func156,Tryz.ntmps156
 go_wp2
 generalize w.setCell ⟨p,2,none⟩ (.int .i64 m)=w0 at *
 go_loopg [1] (m - k) (fun q s1 wx=>∃ (j:Nat) (zs:List Int),j+q=m/\k<=j/\s1=.int .i64 j/\Hid (Raw wx p g n f m zs)/\Hid (Moved n f zs xs k j)/\Hid (Buts [p,g] w wx))
 case atStart=>exact⟨k,ys,by omega,by omega,rfl,R0,HV,B0⟩
 case round =>
  clear R0 HV B0 c2 cf
  obtain⟨j,zs,hjq,hkj,rfl,HR,HV,HB⟩:=hrel
  have c2:=HR.out.c2
  cases gk with
  | zero =>
   have hlt:¬ ((j:Int) < m):=by omega
   go_wp2
   go_end0
   exact⟨rfl,⟨zs,HR.out,HV.out.end (by have:=HM.out;omega) hkj⟩,HB.out⟩
  | succ q =>
   have hlt:(j:Int) < m:=by omega
   have hlen:Hid (zs.length=n):=HR.out.len
   have hs0:=sl_lt hf (show j<=n by omega)
   have hs1:=sl_lt hf (show j+1<=n by omega)
   have hne:sl n f j≠sl n f (j+1):=fun e=>by have:=sl_inj hf (by omega) (by omega) e;omega
   have hne':=Ne.symm hne
   have HN:Hid (Moved n f (zs.set (sl n f j) (zs.getD (sl n f (j+1)) 0)) xs k (j+1)):=HV.out.next hkj (by have:=HM.out;omega) hlen.out hf (by have:=HM.out;omega)
   have E0:Hid (∃ s,sl n f j=s):=⟨_,rfl⟩
   have S0:Hid (sl n f j=sl n f j):=rfl
   have S1:Hid (sl n f (j+1)=sl n f (j+1)):=rfl
   generalize hg0:sl n f j=s0 at hs0 hne hne' HN
   generalize hg1:sl n f (j+1)=s1 at hs1 hne hne' HN
   have G0:Hid (sl n f j=s0):=hg0
   have G1:Hid (sl n f (j+1)=s1):=hg1
   clear hg0 hg1 S0 S1 E0
   have hs0I:(s0:Int) < n:=by omega
   have hs1I:(s1:Int) < n:=by omega
   have HWR:Hid (IntKind.i64.wrap ((j:Int)+1)=(j:Int)+1):=by show _=_;rw [IntKind.wrap_i64];omega
   have hpg:=HR.out.ne
   have hgp:=Ne.symm hpg
   have HD:Hid (Raw wr.drew p g n f m zs):=HR.out.drew1
   have BD:Hid (Buts [p,g] w wr.drew):=HB.out.drew
   have d0:=HR.out.c0
   have d1:=HR.out.row.cell s1 (by have:=hlen.out;omega)
   have y0:Hid (zs.getD s1 0=zs.getD s1 0):=rfl
   generalize hy:zs.getD s1 0=y at d1 HN
   have HY:Hid (zs.getD s1 0=y):=hy
   clear hy y0
   have HK5:∀ w2,Raw w2 p g n f m zs->(w2.setCell ⟨g,s0,none⟩ (.int .i64 y)).cell? ⟨g,s1,none⟩=some (.int .i64 y):=fun w2 hr=>by
    rw [(hr.setSlot s0 y).row.cell s1 (by rw [List.length_set];have:=hlen.out;omega),getD_set (by have:=hlen.out;omega),if_neg hne',HY.out]
   go_wp2
   go_region_held3 (fun w'=>w'.cell? ⟨p,0,none⟩=some (.slice (some ⟨g,0,none⟩) n n)/\w'.cell? ⟨g,s1,none⟩=some (.int .i64 y)) (go_keep) (first
    |(go_at_call_of 189 (Value.int IntKind.i64 (j:Int));refine(slot_raw R1.out hf hn j (by omega) s0 G0.out).mono ?_;rintro e w2 ⟨rfl,hr,hb⟩;have R2:Hid (Raw w2 p g n f m zs):=hr;have B2:Hid (Buts [p,g] w w2):=B1.out.trans (Buts.of hb);have k0:=R2.out.c0;have k1:=R2.out.row.cell s1 (by have:=hlen.out;omega);rw [HY.out] at k1;have k5:=HK5 w2 hr;have kg:=R2.out.row.cell s0 (by have:=hlen.out;omega);have kf:=R2.out.fg s0;clear hr hb)
    |(go_at_call 189;refine(slot_next R1.out hf hn j (by omega) s1 G1.out HWR.out).mono ?_;rintro e w2 ⟨rfl,hr,hb⟩;have R2:Hid (Raw w2 p g n f m zs):=hr;have B2:Hid (Buts [p,g] w w2):=B1.out.trans (Buts.of hb);have k0:=R2.out.c0;have k1:=R2.out.row.cell s1 (by have:=hlen.out;omega);rw [HY.out] at k1;have k5:=HK5 w2 hr;have kg:=R2.out.row.cell s0 (by have:=hlen.out;omega);have kf:=R2.out.fg s0;clear hr hb)
    |(go_at_call_of 189 (Value.int IntKind.i64 (j:Int));refine(slot_raw HD.out hf hn j (by omega) s0 G0.out).mono ?_;rintro e w1 ⟨rfl,hr,hb⟩;have R1:Hid (Raw w1 p g n f m zs):=hr;have B1:Hid (Buts [p,g] w w1):=BD.out.trans (Buts.of hb);have k0:=R1.out.c0;have k1:=R1.out.row.cell s1 (by have:=hlen.out;omega);rw [HY.out] at k1;clear hr hb)
    |(go_at_call 189;refine(slot_next HD.out hf hn j (by omega) s1 G1.out HWR.out).mono ?_;rintro e w1 ⟨rfl,hr,hb⟩;have R1:Hid (Raw w1 p g n f m zs):=hr;have B1:Hid (Buts [p,g] w w1):=BD.out.trans (Buts.of hb);have k0:=R1.out.c0;have k1:=R1.out.row.cell s1 (by have:=hlen.out;omega);rw [HY.out] at k1;clear hr hb))
   all_goals
    have R3:Hid (Raw (w2.setCell ⟨g,s0,none⟩ (.int .i64 y)) p g n f m (zs.set s0 y)):=R2.out.setSlot s0 y
    have B3:Hid (Buts [p,g] w (w2.setCell ⟨g,s0,none⟩ (.int .i64 y))):=B2.out.trans ((Buts.cell _ _ _ _).mono (by simp))
    generalize w2.setCell ⟨g,s0,none⟩ (.int .i64 y)=w3 at *
    go_wp2
    go_roundg q
    case measure=>omega
    case rel=>exact⟨j+1,zs.set s0 y,by omega,by omega,by go_num,R3,HN,B3⟩
def upto(xs:List Int)(i:Nat):List Int:=xs.take i ++ List.replicate (xs.length - i) 0
theorem upto_len{xs:List Int}{i:Nat}(hi:i<=xs.length):(upto xs i).length=xs.length:=by simp [upto];omega
theorem upto_zero(xs:List Int):upto xs 0=List.replicate xs.length 0:=by simp [upto]
theorem upto_all(xs:List Int):upto xs xs.length=xs:=by simp [upto]
theorem upto_next{xs:List Int}{i:Nat}(hi:i < xs.length):(upto xs i).set i (xs.getD i 0)=upto xs (i+1):=by
 apply List.ext_getElem?
 intro j
 have hl:=upto_len (Nat.le_of_lt hi)
 have hl':=upto_len (show i+1<=xs.length by omega)
 by_cases hj:j < xs.length
 ·rw [List.getElem?_set]
  by_cases e:i=j
  ·subst e
   rw [if_pos rfl,if_pos (by omega)]
   simp only [upto]
   rw [List.getElem?_append_left (by simp;omega),List.getElem?_take_of_lt (by omega)]
   simp [hi]
  ·rw [if_neg e]
   simp only [upto]
   by_cases c:j < i
   ·rw [List.getElem?_append_left (by simp;omega),List.getElem?_append_left (by simp;omega),List.getElem?_take_of_lt c,List.getElem?_take_of_lt (by omega)]
   ·rw [List.getElem?_append_right (by simp;omega),List.getElem?_append_right (by simp;omega)]
    simp only [List.length_take]
    rw [List.getElem?_replicate,List.getElem?_replicate,if_pos (by omega),if_pos (by omega)]
 ·rw [List.getElem?_eq_none (by rw [List.length_set];omega),List.getElem?_eq_none (by omega)]
theorem all_any{w:World}{p g n f:Nat}{ys xs:List Int}(h:Raw w p g n f xs.length ys)(hf:f < n)(hn:n<=1024)(hx:xs.length<=n)(hh:Holds n f ys xs) :
  Calls Tryz.prog 157 #[.pointer (some ⟨p,0,none⟩)] w fun e w'=>e=.returned (.slice (some ⟨w.heap.size,0,none⟩) xs.length xs.length)/\Row w' w.heap.size xs/\Below w.heap.size w w':=by
 have HH:Hid (Holds n f ys xs):=hh
 have HY:Hid (ys.length=n):=h.len
 have hmk:=make_row w xs.length xs.length (Nat.le_refl _) (by omega)
 have hp:=at_lt h.head
 have hgl:=h.row.lt
 have HA:Hid (Row (w.alloc (.cells (num (List.replicate xs.length 0)).toArray 3)) w.heap.size (upto xs 0)):=by
  have:Row (w.alloc (.cells (num (List.replicate xs.length 0)).toArray 3)) w.heap.size (List.replicate xs.length 0):=alloc_at w _
  rw [←upto_zero] at this;exact this
 have HB:Hid (Below w.heap.size w (w.alloc (.cells (num (List.replicate xs.length 0)).toArray 3))):=alloc_below w _
 have HR:Hid (Raw w p g n f xs.length ys):=h
 have c2:=h.c2
 have hsz:=alloc_size w (.cells (num (List.replicate xs.length 0)).toArray 3)
 have HSZ:=(show Hid _ from hsz)
 obtain⟨m,hm⟩:∃ m,xs.length=m:=⟨_,rfl⟩
 have HM:Hid (xs.length=m):=hm
 rw [hm] at c2 hmk hx HR HA HB HSZ ⊢
 clear h hh hm hsz
 obtain⟨t,ht⟩:∃ t,w.heap.size=t:=⟨_,rfl⟩
 have HT:Hid (w.heap.size=t):=ht
 rw [ht] at HA HB hp hgl HSZ
 go_enter Tryz.func157,Tryz.ntmps157
 go_wp2
 clear ht hmk
 generalize w.alloc (.cells (num (List.replicate m 0)).toArray 3)=w0 at *
 go_loopg [12] m (fun q s12 wx=>∃ i:Nat,i+q=m/\s12=.int .i64 i/\Hid (Row wx t (upto xs i))/\Hid (Below t w wx))
 case atStart=>exact⟨0,by omega,rfl,HA,HB⟩
 case round =>
  clear HA HB HSZ
  obtain⟨i,hiq,rfl,HA,HB⟩:=hrel
  cases gk with
  | zero =>
   have hlt:¬ ((i:Int) < m):=by omega
   go_wp2
   go_ret
   rw [HT.out]
   refine⟨rfl,?_,HB.out⟩
   have:=HA.out
   rwa [show i=xs.length by have:=HM.out;omega,upto_all] at this
  | succ q =>
   have hlt:(i:Int) < m:=by omega
   have HRx:Hid (Raw wr p g n f m ys):=by
    have hb:=HB.out
    exact⟨(hb.block p hp).trans HR.out.head,(hb.block g hgl).trans HR.out.row,HY.out⟩
   have HD:Hid (Raw wr.drew p g n f m ys):=HRx.out.drew1
   have hs0:=sl_lt hf (show i<=n by omega)
   have hs0I:((sl n f i:Nat):Int) < n:=by omega
   have hsx:Hid (ys.getD (sl n f i) 0=xs.getD i 0):=HH.out i (by have:=HM.out;omega)
   have HN:Hid ((upto xs i).set i (xs.getD i 0)=upto xs (i+1)):=upto_next (by have:=HM.out;omega)
   have HL:Hid ((upto xs i).length=m):=by have:=upto_len (xs:=xs) (i:=i) (by have:=HM.out;omega);rw [HM.out] at this;exact this
   generalize hg0:sl n f i=s0 at hs0 hs0I hsx
   have G0:Hid (sl n f i=s0):=hg0
   clear hg0
   have htg:t≠g:=by omega
   have htp:t≠p:=by omega
   have hgt:=Ne.symm htg
   have hpt:=Ne.symm htp
   have d0:=HRx.out.c0
   have d1:=HRx.out.row.cell s0 (by have:=HY.out;omega)
   rw [hsx.out] at d1
   generalize xs.getD i 0=y at *
   go_wp2
   go_region_held3 (fun w'=>w'.cell? ⟨p,0,none⟩=some (.slice (some ⟨g,0,none⟩) n n)/\w'.cell? ⟨g,s0,none⟩=some (.int .i64 y)) (go_keep) (first
    |(go_at_call 189;refine(slot_raw HD.out hf hn i (by omega) s0 G0.out).mono ?_;rintro e w1 ⟨rfl,hr,hb⟩;have R1:Hid (Raw w1 p g n f m ys):=hr;have A1:Hid (Row w1 t (upto xs i)):=((HA.out).below (drew_below wr)).below hb;have B1:Hid (Below t w w1):=(HB.out.drew).trans (hb.mono (by have:=HB.out.size;have:=HT.out;show t<=wr.heap.size;omega));have k0:=R1.out.c0;have k1:=R1.out.row.cell s0 (by have:=HY.out;omega);rw [hsx.out] at k1;have kg:=A1.out.cell i (by have:=HL.out;omega);have kf:=A1.out.free i;clear hr hb))
   all_goals
    have A2:Hid (Row (w1.setCell ⟨t,i,none⟩ (.int .i64 y)) t (upto xs (i+1))):=by have:=A1.out.set i y;rw [HN.out] at this;exact this
    have B2:Hid (Below t w (w1.setCell ⟨t,i,none⟩ (.int .i64 y))):=B1.out.trans ((Buts.cell w1 t i (.int .i64 y)).below (by simp) (Nat.le_of_lt A1.out.lt))
    generalize w1.setCell ⟨t,i,none⟩ (.int .i64 y)=w3 at *
    go_wp2
    go_roundg q
    case measure=>omega
    case rel=>exact⟨i+1,by omega,by go_num,A2,B2⟩
theorem mayAdd_any{w:World}{p g n:Nat}{xs:List Int}(h:Ring w p g n xs)(z:Int) :
  Calls Tryz.prog 186 #[.pointer (some ⟨p,0,none⟩),.int .i64 z] w fun e w'=>e=.returned (.int .i64 (addE xs n z))/\∃ k,w'=w.drewN k:=by
 obtain⟨f,ys,hf,hr,hh⟩:=h.raw
 have hlo:=h.lo
 have hT:=there_yes hr hlo
 by_cases h0:z < 0
 ·rw [addE_arg h0]
  go_enter Tryz.func186,Tryz.ntmps186
  go_wp2_with (go_at_call 154;refine hT.mono ?_;rintro e wx ⟨rfl,hwx⟩;obtain rfl:=hwx.symm)
  go_ret
  exact⟨rfl,0,rfl⟩
 ·by_cases hm:z∈xs
  ·rw [addE_state h0 hm]
   obtain⟨k,hk,he,hlow,_⟩:=first_at hm
   have hP:=placeOf_any hr hf h.hi h.len hh z k true (by omega) hlow (fun _=>⟨hk,he⟩) (fun e=>by cases e)
   clear hh hlow hm he
   go_enter Tryz.func186,Tryz.ntmps186
   go_wp2_with (first
    |(go_at_call 154;refine hT.mono ?_;rintro e wx ⟨rfl,hwx⟩;obtain rfl:=hwx.symm)
    |(go_at_call 155;refine hP.mono ?_;rintro e wx ⟨rfl,kq,hwx⟩))
   go_ret
   exact⟨rfl,kq,rfl⟩
  ·have hP:=placeOf_any hr hf h.hi h.len hh z xs.length false (by omega) (fun j hj e=>hm (by rw [←e];exact getD_mem hj)) (fun e=>by cases e) (fun _=>rfl)
   have HR:Hid (∀ k,Raw (w.drewN k) p g n f xs.length ys):=fun k=>hr.drew k
   by_cases hl:xs.length=n
   ·rw [addE_full h0 hm hl]
    have hF:Hid (((xs.length:Int) == (n:Int))=true):=by show _=true;simp;omega
    clear hh hm hl hr
    generalize xs.length=m at *
    go_enter Tryz.func186,Tryz.ntmps186
    go_wp2_with (first
     |(go_at_call 154;refine hT.mono ?_;rintro e wx ⟨rfl,hwx⟩;obtain rfl:=hwx.symm)
     |(go_at_call 155;refine hP.mono ?_;rintro e wx ⟨rfl,kq,hwx⟩;have RX:Hid (Raw wx p g n f m ys):=(by rw [hwx];exact HR.out kq);have HX:Hid (wx=w.drewN kq):=hwx;clear hwx)
     |(go_at_call 207;refine(isFull_any RX.out true hF.out).mono ?_;rintro e wy ⟨rfl,kr,hwy⟩))
    go_ret
    exact⟨rfl,_,by rw [HX.out,World.drewN_drewN]⟩
   ·rw [addE_ok h0 hm hl]
    have hF:Hid (((xs.length:Int) == (n:Int))=false):=by show _=false;simp;omega
    clear hh hm hl hr
    generalize xs.length=m at *
    go_enter Tryz.func186,Tryz.ntmps186
    go_wp2_with (first
     |(go_at_call 154;refine hT.mono ?_;rintro e wx ⟨rfl,hwx⟩;obtain rfl:=hwx.symm)
     |(go_at_call 155;refine hP.mono ?_;rintro e wx ⟨rfl,kq,hwx⟩;have RX:Hid (Raw wx p g n f m ys):=(by rw [hwx];exact HR.out kq);have HX:Hid (wx=w.drewN kq):=hwx;clear hwx)
     |(go_at_call 207;refine(isFull_any RX.out false hF.out).mono ?_;rintro e wy ⟨rfl,kr,hwy⟩))
    go_ret
    exact⟨rfl,_,by rw [HX.out,World.drewN_drewN]⟩
theorem Ring.drew{w:World}{p g n:Nat}{xs:List Int}(h:Ring w p g n xs)(k:Nat):Ring (w.drewN k) p g n xs:=h.below (below_drewN _ _)
theorem addE_lt{xs:List Int}{n:Nat}{z:Int}(h:addE xs n z=0)(hl:xs.length<=n):xs.length < n:=by
 unfold addE at h
 split at h
 ·omega
 ·split at h
  ·omega
  ·split at h <;> omega
theorem Ring.left{w:World}{p g n:Nat}{xs ys:List Int}(h:Ring w p g n xs)(k:Nat)(e:ys=xs):Ring (w.drewN k) p g n ys/\Buts [p,g] w (w.drewN k):=by
 subst e;exact⟨h.drew k,Buts.of (below_drewN _ _)⟩
theorem put_any{w:World}{p g n:Nat}{xs:List Int}(h:Ring w p g n xs)(z:Int) :
  Calls Tryz.prog 152 #[.pointer (some ⟨p,0,none⟩),.int .i64 z] w fun e w'=>e=.returned (.int .i64 (addE xs n z))/\Ring w' p g n (putL xs n z)/\Buts [p,g] w w':=by
 have hC:=mayAdd_any h z
 have HR:Hid (Ring w p g n xs):=h
 by_cases e0:addE xs n z=0
 ·have hlt:=addE_lt e0 h.len
  obtain⟨f,ys,hf,hr,hh⟩:=h.raw
  have HA:Hid (∀ k,Calls Tryz.prog 187 #[.pointer (some ⟨p,0,none⟩),.int .i64 z] (w.drewN k) fun e w'=>e=.returned (.tuple #[])/\Raw w' p g n f (xs.length+1) (ys.set (sl n f xs.length) z)/\Buts [p,g] (w.drewN k) w'):=fun k=>addLast_any (hr.drew k) hf h.hi hlt z
  have HE:Hid (putL xs n z=xs ++ [z]):=by show _=_;unfold putL;rw [if_pos e0]
  have HH:Hid (Holds n f (ys.set (sl n f xs.length) z) (xs ++ [z])):=hh.addLast hr.len hf hlt z
  rw [e0] at hC ⊢
  clear hh hr h e0
  go_enter Tryz.func152,Tryz.ntmps152
  go_wp2_with (first
   |(go_at_call 186;refine hC.mono ?_;rintro e wx ⟨rfl,kq,hwx⟩;have HX:Hid (wx=w.drewN kq):=hwx;clear hwx)
   |(go_at_call 187;rw [HX.out];refine(HA.out kq).mono ?_;rintro e w2 ⟨rfl,hr2,hb2⟩;have R2:Hid (Raw w2 p g n f (xs.length+1) (ys.set (sl n f xs.length) z)):=hr2;have B2:Hid (Buts [p,g] (w.drewN kq) w2):=hb2;clear hr2 hb2))
  go_ret
  refine⟨rfl,?_,(Buts.of (below_drewN w kq)).trans B2.out⟩
  rw [HE.out]
  exact⟨⟨f,_,hf,by simpa using R2.out,HH.out⟩,HR.out.lo,HR.out.hi,by simp;omega⟩
 ·have e1:(addE xs n z == 0)=false:=by simpa using e0
  have HE:Hid (putL xs n z=xs):=by show _=_;unfold putL;rw [if_neg e0]
  clear h
  generalize addE xs n z=v at *
  go_enter Tryz.func152,Tryz.ntmps152
  go_wp2_with (first
   |(go_at_call 186;refine hC.mono ?_;rintro e wx ⟨rfl,kq,hwx⟩;have HX:Hid (wx=w.drewN kq):=hwx;clear hwx))
  go_ret
  refine⟨rfl,?_⟩
  rw [HX.out]
  exact HR.out.left kq HE.out
theorem remove_any{w:World}{p g n:Nat}{xs:List Int}(h:Ring w p g n xs)(z:Int) :
  Calls Tryz.prog 112 #[.pointer (some ⟨p,0,none⟩),.int .i64 z] w fun e w'=>e=.returned (.int .i64 (remE xs z))/\Ring w' p g n (xs.erase z)/\Buts [p,g] w w':=by
 obtain⟨f,ys,hf,hr,hh⟩:=h.raw
 have HR:Hid (Ring w p g n xs):=h
 have hT:=there_yes hr h.lo
 by_cases hm:z∈xs
 ·rw [show remE xs z=0 by simp [remE,hm]]
  obtain⟨k,hk,he,hlow,hE⟩:=first_at hm
  have hP:=placeOf_any hr hf h.hi h.len hh z k true (by omega) hlow (fun _=>⟨hk,he⟩) (fun e=>by cases e)
  rw [if_pos rfl] at hP
  have HA:Hid (∀ q,Calls Tryz.prog 156 #[.pointer (some ⟨p,0,none⟩),.int .i64 k] (w.drewN q) fun e w'=>e=.returned (.tuple #[])/\(∃ ys',Raw w' p g n f (xs.length - 1) ys'/\Holds n f ys' (xs.eraseIdx k))/\Buts [p,g] (w.drewN q) w'):=fun q=>removeAt_any (hr.drew q) hf h.hi h.len hh k (by omega) (by omega)
  have HE:Hid (xs.erase z=xs.eraseIdx k):=hE
  have HL:Hid ((xs.eraseIdx k).length=xs.length - 1):=by show _=_;rw [List.length_eraseIdx,if_pos hk]
  have HK:Hid (k < xs.length):=hk
  clear h hh hr hm hlow he hE hk
  go_enter Tryz.func112,Tryz.ntmps112
  go_wp2_with (first
   |(go_at_call 154;refine hT.mono ?_;rintro e wx ⟨rfl,hwx⟩;obtain rfl:=hwx.symm)
   |(go_at_call 155;refine hP.mono ?_;rintro e wx ⟨rfl,kq,hwx⟩;have HX:Hid (wx=w.drewN kq):=hwx;clear hwx)
   |(go_at_call 156;rw [HX.out];refine(HA.out kq).mono ?_;rintro e w2 ⟨rfl,hr2,hb2⟩;have R2:Hid (∃ ys',Raw w2 p g n f (xs.length - 1) ys'/\Holds n f ys' (xs.eraseIdx k)):=hr2;have B2:Hid (Buts [p,g] (w.drewN kq) w2):=hb2;clear hr2 hb2))
  go_ret
  refine⟨rfl,?_,(Buts.of (below_drewN w kq)).trans B2.out⟩
  obtain⟨ys',q1,q2⟩:=R2.out
  rw [HE.out]
  exact⟨⟨f,ys',hf,by rw [HL.out];exact q1,q2⟩,HR.out.lo,HR.out.hi,by have:=HR.out.len;rw [HL.out];omega⟩
 ·rw [show remE xs z=1 by simp [remE,hm],List.erase_of_not_mem hm]
  have hP:=placeOf_any hr hf h.hi h.len hh z xs.length false (by omega) (fun j hj e=>hm (by rw [←e];exact getD_mem hj)) (fun e=>by cases e) (fun _=>rfl)
  clear h hh hr hm
  go_enter Tryz.func112,Tryz.ntmps112
  go_wp2_with (first
   |(go_at_call 154;refine hT.mono ?_;rintro e wx ⟨rfl,hwx⟩;obtain rfl:=hwx.symm)
   |(go_at_call 155;refine hP.mono ?_;rintro e wx ⟨rfl,kq,hwx⟩;have HX:Hid (wx=w.drewN kq):=hwx;clear hwx))
  go_ret
  refine⟨rfl,?_⟩
  rw [HX.out]
  exact HR.out.left kq rfl
theorem list_any{w:World}{p g n:Nat}{xs:List Int}(h:Ring w p g n xs) :
  Calls Tryz.prog 113 #[.pointer (some ⟨p,0,none⟩)] w fun e w'=>e=.returned (.slice (some ⟨w.heap.size,0,none⟩) xs.length xs.length)/\Row w' w.heap.size xs/\Below w.heap.size w w':=by
 obtain⟨f,ys,hf,hr,hh⟩:=h.raw
 have hT:=there_yes hr h.lo
 have hC:=all_any hr hf h.hi h.len hh
 clear h hh hr
 go_enter Tryz.func113,Tryz.ntmps113
 go_wp2_with (first
  |(go_at_call 154;refine hT.mono ?_;rintro e wx ⟨rfl,hwx⟩;obtain rfl:=hwx.symm)
  |(go_at_call 157;refine hC.mono ?_;rintro e w2 ⟨rfl,hr2,hb2⟩))
 go_ret
 exact⟨rfl,hr2,hb2⟩
end Go.Proofs.YtbbdndfibjdcfaaGreat.Rd
namespace Go.Proofs.YtbbdndfibjdcfaaGreat.Rd.Ld
open Go
def bitOf(r:Int):Nat:=if 0<=r/\r<=31 then 2 ^ r.toNat else 0
def setL(l:Nat)(r:Int):Nat:=l ||| bitOf r
def clrL(l:Nat)(r:Int):Nat:=l &&& (4294967295 - bitOf r)
theorem bitOf_lt(r:Int):bitOf r < 4294967296:=by
 unfold bitOf
 split
 ·rename_i h
  have:2 ^ r.toNat < 2 ^ 32:=Nat.pow_lt_pow_right (by decide) (by omega)
  simpa using this
 ·decide
theorem bitOf_bit(r:Int)(k:Nat):(bitOf r).testBit k=decide ((k:Int)=r/\k < 32):=by
 unfold bitOf
 split
 ·rename_i h
  rw [Nat.testBit_two_pow]
  apply Bool.eq_iff_iff.2
  simp only [decide_eq_true_eq]
  omega
 ·rename_i h
  rw [Nat.zero_testBit]
  symm
  rw [decide_eq_false_iff_not]
  omega
theorem setL_lt{l:Nat}(h:l < 4294967296)(r:Int):setL l r < 4294967296:=Nat.or_lt_two_pow (n:=32) h (bitOf_lt r)
theorem clrL_lt{l:Nat}(h:l < 4294967296)(r:Int):clrL l r < 4294967296:=by
 unfold clrL
 exact Nat.and_lt_two_pow (n:=32) _ (by omega)
theorem setL_bit(l:Nat)(r:Int)(k:Nat):(setL l r).testBit k=(l.testBit k || decide ((k:Int)=r/\k < 32)):=by
 unfold setL
 rw [Nat.testBit_or,bitOf_bit]
theorem high_bit{l:Nat}(h:l < 4294967296){k:Nat}(hk:32<=k):l.testBit k=false :=
 Nat.testBit_lt_two_pow (Nat.lt_of_lt_of_le h (Nat.pow_le_pow_right (n:=2) (by decide) hk))
theorem bit_low{l:Nat}(h:l < 4294967296){k:Nat}(hk:l.testBit k=true):k < 32:=by
 rcases Nat.lt_or_ge k 32 with a | a
 ·exact a
 ·rw [high_bit h a] at hk;cases hk
theorem clrL_bit{l:Nat}(h:l < 4294967296)(r:Int)(k:Nat):(clrL l r).testBit k=(l.testBit k && !decide ((k:Int)=r)):=by
 unfold clrL
 have e:4294967295 - bitOf r=2 ^ 32 - (bitOf r+1):=by omega
 rw [Nat.testBit_and,e,Nat.testBit_two_pow_sub_succ (bitOf_lt r),bitOf_bit]
 rcases Nat.lt_or_ge k 32 with a | a
 ·simp [a]
 ·simp [high_bit h a]
def downs(l:Nat):Nat->List Nat
 | 0=>[]
 | k+1=>if l.testBit k then k :: downs l k else downs l k
def ranks(l:Nat):List Nat:=downs l 32
theorem downs_mem(l k n:Nat):k∈downs l n↔k < n/\l.testBit k=true:=by
 induction n with
 | zero=>simp [downs]
 | succ n ih =>
  unfold downs
  split
  ·rename_i h
   rw [List.mem_cons,ih]
   constructor
   ·rintro (rfl |⟨a,b⟩)
    ·exact⟨by omega,h⟩
    ·exact⟨by omega,b⟩
   ·rintro ⟨a,b⟩
    by_cases e:k=n
    ·exact Or.inl e
    ·exact Or.inr ⟨by omega,b⟩
  ·rename_i h
   rw [ih]
   constructor
   ·rintro ⟨a,b⟩;exact⟨by omega,b⟩
   ·rintro ⟨a,b⟩
    refine⟨?_,b⟩
    rcases Nat.lt_or_ge k n with c | c
    ·exact c
    ·obtain rfl:k=n:=by omega
     exact absurd b h
theorem ranks_mem{l:Nat}(hl:l < 4294967296)(k:Nat):k∈ranks l↔l.testBit k=true:=by
 unfold ranks
 rw [downs_mem]
 exact⟨fun h=>h.2,fun h=>⟨bit_low hl h,h⟩⟩
theorem downs_congr{a b:Nat}(n:Nat)(h:∀ k,k < n->a.testBit k=b.testBit k):downs a n=downs b n:=by
 induction n with
 | zero=>rfl
 | succ n ih =>
  unfold downs
  rw [h n (by omega),ih (fun k hk=>h k (by omega))]
theorem downs_skip{l t:Nat}:∀ {n:Nat},t≤n→(∀ k,t≤k→k < n→l.testBit k=false)→downs l n=downs l t
  | 0, ht, _ => by obtain rfl : t = 0 := by omega
                   rfl
  | n+1,ht,h=>by
    by_cases e:t=n+1
    · rw [e]
    · rw [show downs l (n+1)=downs l n from by simp [downs,h n (by omega) (by omega)]]
      exact downs_skip (by omega) fun k a b=>h k a (by omega)
theorem downs_len(l n:Nat):(downs l n).length<=n:=by
 induction n with
 | zero=>simp [downs]
 | succ n ih=>unfold downs;split <;> (try rw [List.length_cons]) <;> omega
theorem ranks_len(l:Nat):(ranks l).length<=32:=downs_len l 32
theorem log_bit{l:Nat}(h:l≠0):l.testBit l.log2=true:=by
 rw [Nat.testBit_eq_decide_div_mod_eq,decide_eq_true_eq]
 have a:=Nat.log2_self_le h
 have b:l < 2 ^ (l.log2+1):=Nat.lt_log2_self
 have hp:0 < 2 ^ l.log2:=Nat.two_pow_pos _
 have c:1<=l / 2 ^ l.log2:=(Nat.le_div_iff_mul_le hp).2 (by omega)
 have d:l / 2 ^ l.log2 < 2:=(Nat.div_lt_iff_lt_mul hp).2 (by rw [Nat.pow_succ] at b;omega)
 omega
theorem log_high{l:Nat}{k:Nat}(hk:l.log2 < k):l.testBit k=false :=
 Nat.testBit_lt_two_pow (Nat.lt_of_lt_of_le Nat.lt_log2_self (Nat.pow_le_pow_right (n:=2) (by decide) (by omega)))
theorem log_lt{l:Nat}(hl:l < 4294967296):l.log2 < 32:=by
 by_cases h:l=0
 ·subst h;decide
 ·exact(Nat.log2_lt h).2 hl
theorem ranks_first{l:Nat}(h:l≠0)(hl:l < 4294967296):ranks l=l.log2 :: ranks (clrL l l.log2):=by
 have hb:=log_bit h
 have ht:=log_lt hl
 have e1:ranks l=downs l (l.log2+1):=downs_skip (by omega) fun k a b=>log_high (by omega)
 have e2:ranks (clrL l l.log2)=downs (clrL l l.log2) l.log2:=downs_skip (by omega) fun k a b=>by
  rw [clrL_bit hl]
  by_cases e:k=l.log2
  ·subst e;simp
  ·rw [log_high (by omega)];simp
 rw [e1,e2,show downs l (l.log2+1)=l.log2 :: downs l l.log2 from by simp [downs,hb]]
 congr 1
 apply downs_congr
 intro k hk
 rw [clrL_bit hl,show decide ((k:Int)=(l.log2:Int))=false from by rw [decide_eq_false_iff_not];omega]
 simp
def told(l:Nat):List Int:=(ranks l).map Int.ofNat
theorem told_len(l:Nat):(told l).length=(ranks l).length:=by simp [told]
theorem told_mem{l:Nat}(hl:l < 4294967296)(r:Int):r∈told l↔0<=r/\l.testBit r.toNat=true:=by
 unfold told
 rw [List.mem_map]
 constructor
 ·rintro ⟨k,hk,rfl⟩
  exact⟨Int.natCast_nonneg k,by simpa using (ranks_mem hl k).1 hk⟩
 ·rintro ⟨a,b⟩
  exact⟨r.toNat,(ranks_mem hl _).2 b,by show((r.toNat:Nat):Int)=r;omega⟩
theorem told_zero:told 0=[]:=by decide
theorem told_first{l:Nat}(h:l≠0)(hl:l < 4294967296):told l=(l.log2:Int) :: told (clrL l l.log2):=by
 unfold told;rw [ranks_first h hl];rfl
end Go.Proofs.YtbbdndfibjdcfaaGreat.Rd.Ld
namespace Go.Proofs.YtbbdndfibjdcfaaGreat.Rd
open Go Go.RowKit
structure Good (X:Nat->List Int):Prop where
 nd:∀ r,r < 32->(X r).Nodup
 lo:∀ r,r < 32->∀ x∈X r,0<=x/\x<=255
 one:∀ r s x,r < 32->s < 32->x∈X r->x∈X s->r=s
def rk(X:Nat->List Int)(z:Int):Option Nat:=(List.range 32).find? fun r=>decide (z∈X r)
def rkv(X:Nat->List Int)(z:Int):Int:=((rk X z).getD 0:Nat)
def rkb(X:Nat->List Int)(z:Int):Bool:=(rk X z).isSome
theorem rk_at{X:Nat->List Int}{z:Int}{r:Nat}(h:rk X z=some r):r < 32/\z∈X r:=by
 have h1:=List.find?_some h
 have h2:=List.mem_of_find?_eq_some h
 exact⟨by simpa using h2,by simpa using h1⟩
theorem rk_none{X:Nat->List Int}{z:Int}:rk X z=none↔∀ r,r < 32->z ∉ X r:=by
 unfold rk
 rw [List.find?_eq_none]
 constructor
 ·intro h r hr hz
  exact h r (by simpa using hr) (by simpa using hz)
 ·intro h r hr
  have:=h r (by simpa using hr)
  simpa using this
theorem rk_some{X:Nat->List Int}{z:Int}{r:Nat}(hX:Good X)(hr:r < 32)(hz:z∈X r):rk X z=some r:=by
 cases h:rk X z with
 | none=>exact absurd hz (rk_none.1 h r hr)
 | some s =>
  obtain⟨h1,h2⟩:=rk_at h
  rw [hX.one r s z hr h1 hz h2]
def up(X:Nat->List Int)(r:Nat)(l:List Int):Nat->List Int:=fun s=>if s=r then l else X s
theorem up_at(X:Nat->List Int)(r:Nat)(l:List Int):up X r l r=l:=by simp [up]
theorem up_ne(X:Nat->List Int){r s:Nat}(l:List Int)(h:s≠r):up X r l s=X s:=by simp [up,h]
def adE(X:Nat->List Int)(z r:Int):Int:=if z < 0∨255 < z∨r < 0∨31 < r then 1 else if rkb X z then 7 else 0
def putX(X:Nat->List Int)(z r:Int):Nat->List Int:=if adE X z r=0 then up X r.toNat (X r.toNat ++ [z]) else X
def rmE(X:Nat->List Int)(z:Int):Int:=if rkb X z then 0 else 1
def rmX(X:Nat->List Int)(z:Int):Nat->List Int:=match rk X z with | some r=>up X r ((X r).erase z) | none=>X
def tp(X:Nat->List Int):Option Nat:=(List.range 32).reverse.find? fun r=>decide (X r≠[])
def fsv(X:Nat->List Int):Int:=match tp X with | some r=>(X r).headD 0 | none=>0
def fsb(X:Nat->List Int):Bool:=(tp X).isSome
def lsX(X:Nat->List Int)(r:Int):List Int:=if 0<=r/\r<=31 then X r.toNat else []
theorem Good.nil:Good fun _=>[]:=⟨fun _ _=>List.nodup_nil,fun _ _ _ h=>by simp at h,fun _ _ _ _ _ h=>by simp at h⟩
theorem Good.up{X:Nat->List Int}(h:Good X){r:Nat}(hr:r < 32){l:List Int}(hn:l.Nodup)(hm:∀ x∈l,0<=x/\x<=255/\∀ s,s < 32->s≠r->x ∉ X s):Good (up X r l):=by
 refine⟨fun s hs=>?_,fun s hs x hx=>?_,fun s t x hs ht hx hy=>?_⟩
 ·unfold YtbbdndfibjdcfaaGreat.Rd.up;split
  ·exact hn
  ·exact h.nd s hs
 ·unfold YtbbdndfibjdcfaaGreat.Rd.up at hx;split at hx
  ·exact⟨(hm x hx).1,(hm x hx).2.1⟩
  ·exact h.lo s hs x hx
 ·unfold YtbbdndfibjdcfaaGreat.Rd.up at hx hy
  split at hx <;> split at hy
  ·omega
  ·exact absurd hy ((hm x hx).2.2 t ht (by assumption))
  ·exact absurd hx ((hm x hy).2.2 s hs (by assumption))
  ·exact h.one s t x hs ht hx hy
theorem Good.sub{X:Nat->List Int}(h:Good X){r:Nat}(hr:r < 32){l:List Int}(hn:l.Nodup)(hm:∀ x∈l,x∈X r):Good (YtbbdndfibjdcfaaGreat.Rd.up X r l) :=
 h.up hr hn fun x hx=>⟨(h.lo r hr x (hm x hx)).1,(h.lo r hr x (hm x hx)).2,fun s hs hne hxs=>hne (h.one s r x hs hr hxs (hm x hx))⟩
theorem adE_zero{X:Nat->List Int}{z r:Int}(h:adE X z r=0):0<=z/\z<=255/\0<=r/\r<=31/\∀ s,s < 32->z ∉ X s:=by
 unfold adE at h
 split at h
 ·omega
 ·split at h
  ·omega
  ·rename_i h1 h2
   refine⟨by omega,by omega,by omega,by omega,?_⟩
   unfold rkb at h2
   exact rk_none.1 (by simpa using h2)
theorem Good.put{X:Nat->List Int}(h:Good X)(z r:Int):Good (putX X z r):=by
 unfold putX
 split
 ·rename_i e
  obtain⟨h1,h2,h3,h4,h5⟩:=adE_zero e
  have hr:r.toNat < 32:=by omega
  refine h.up hr ?_ fun x hx=>?_
  ·rw [List.nodup_append]
   refine⟨h.nd _ hr,by simp,fun a ha b hb=>?_⟩
   have:b=z:=by simpa using hb
   subst this
   rintro rfl
   exact h5 _ hr ha
  ·rcases List.mem_append.1 hx with hx | hx
   ·exact⟨(h.lo _ hr x hx).1,(h.lo _ hr x hx).2,fun s hs hne hxs=>hne (h.one s _ x hs hr hxs hx)⟩
   ·have:x=z:=by simpa using hx
    subst this
    exact⟨h1,h2,fun s hs _=>h5 s hs⟩
 ·exact h
theorem Good.rem{X:Nat->List Int}(h:Good X)(z:Int):Good (rmX X z):=by
 unfold rmX
 split
 ·rename_i r e
  have hr:=(rk_at e).1
  exact h.sub hr ((h.nd r hr).erase z) fun x hx=>List.mem_of_mem_erase hx
 ·exact h
theorem few:∀ (n:Nat) (xs:List Int),xs.Nodup->(∀ x∈xs,0<=x/\x < n)->xs.length<=n
 | 0,xs,_,h=>by
  rcases xs with _ |⟨x,xs⟩
  ·simp
  ·have:=h x (by simp);omega
 | n+1,xs,hd,h=>by
  have:=few n (xs.erase (n:Int)) (hd.erase _) fun x hx=>by
   have h1:=h x (List.mem_of_mem_erase hx)
   have h2:x≠(n:Int):=by
    rintro rfl
    exact(hd.not_mem_erase) hx
   omega
  rw [List.length_erase] at this
  split at this <;> omega
theorem Good.room{X:Nat->List Int}(h:Good X){r:Nat}(hr:r < 32){z:Int}(h0:0<=z)(h1:z<=255)(hz:z ∉ X r):(X r).length < 256:=by
 have:=few 256 (z :: X r) (List.nodup_cons.2 ⟨hz,h.nd r hr⟩) fun x hx=>by
  rcases List.mem_cons.1 hx with rfl | hx
  ·omega
  ·have:=h.lo r hr x hx;omega
 simp only [List.length_cons] at this
 omega
theorem Good.addE{X:Nat->List Int}(h:Good X){z r:Int}(e:adE X z r=0):addE (X r.toNat) 256 z=0:=by
 obtain⟨h1,h2,h3,h4,h5⟩:=adE_zero e
 have hr:r.toNat < 32:=by omega
 exact addE_ok (by omega) (h5 _ hr) (by have:=h.room hr h1 h2 (h5 _ hr);omega)
structure Lad (X:Nat->List Int) (l:Nat):Prop where
 lt:l < 4294967296
 bit:∀ k,k < 32->l.testBit k=decide (X k≠[])
theorem Lad.nil:Lad (fun _=>[]) 0:=⟨by decide,fun k _=>by simp⟩
theorem Lad.set{X:Nat->List Int}{l:Nat}(h:Lad X l){r:Nat}(hr:r < 32){xs:List Int}(hx:xs≠[]):Lad (up X r xs) (Ld.setL l (r:Int)):=by
 refine⟨Ld.setL_lt h.lt _,fun k hk=>?_⟩
 rw [Ld.setL_bit,h.bit k hk]
 unfold up
 by_cases e:k=r
 ·subst e;simp [hx,hk]
 ·have:¬ ((k:Int)=(r:Int)):=by omega
  simp [e,this]
theorem Lad.clear{X:Nat->List Int}{l:Nat}(h:Lad X l){r:Nat}(hr:r < 32):Lad (up X r []) (Ld.clrL l (r:Int)):=by
 refine⟨Ld.clrL_lt h.lt _,fun k hk=>?_⟩
 rw [Ld.clrL_bit h.lt,h.bit k hk]
 unfold up
 by_cases e:k=r
 ·subst e;simp
 ·have:¬ ((k:Int)=(r:Int)):=by omega
  simp [e,this]
theorem Lad.same{X:Nat->List Int}{l:Nat}(h:Lad X l){r:Nat}{xs:List Int}(hx:xs=[]↔X r=[]):Lad (up X r xs) l:=by
 refine⟨h.lt,fun k hk=>?_⟩
 rw [h.bit k hk]
 unfold up
 by_cases e:k=r
 ·subst e;simp [hx]
 ·simp [e]
theorem Lad.told{X:Nat->List Int}{l:Nat}(h:Lad X l)(r:Int):r∈Ld.told l↔0<=r/\r<=31/\X r.toNat≠[]:=by
 rw [Ld.told_mem h.lt]
 constructor
 ·rintro ⟨h0,h1⟩
  have hk:=Ld.bit_low h.lt h1
  rw [h.bit _ hk] at h1
  exact⟨h0,by omega,by simpa using h1⟩
 ·rintro ⟨h0,h1,h2⟩
  refine⟨h0,?_⟩
  rw [h.bit _ (by omega)]
  simpa using h2
theorem Lad.zero{X:Nat->List Int}{l:Nat}(h:Lad X l)(h0:l=0)(r:Nat)(hr:r < 32):X r=[]:=by
 have:=h.bit r hr
 rw [h0] at this
 simpa using this
theorem tp_none{X:Nat->List Int}:tp X=none↔∀ r,r < 32->X r=[]:=by
 unfold tp
 rw [List.find?_eq_none]
 constructor
 ·intro h r hr
  have:=h r (by simpa using hr)
  simpa using this
 ·intro h r hr
  have:=h r (by simpa using hr)
  simpa using this
theorem tp_some{X:Nat->List Int}{r:Nat}(hr:r < 32)(h:X r≠[])(hh:∀ s,r < s->s < 32->X s=[]):tp X=some r:=by
 unfold tp
 rw [List.find?_eq_some_iff_append]
 refine⟨by simpa using h,(List.range' (r+1) (31 - r)).reverse,(List.range r).reverse,?_,fun a ha=>?_⟩
 ·have e:List.range 32=List.range r ++ r :: List.range' (r+1) (31 - r):=by
   rw [List.range_eq_range',List.range_eq_range']
   have h1:List.range' 0 32=List.range' 0 r ++ List.range' r (32 - r):=by
    have:=List.range'_append_1 (s:=0) (m:=r) (n:=32 - r)
    rw [Nat.zero_add,show r+(32 - r)=32 by omega] at this
    exact this.symm
   rw [h1,show 32 - r=(31 - r)+1 by omega,List.range'_succ]
  rw [e]
  simp
 ·have:=List.mem_range'_1.1 (List.mem_reverse.1 ha)
  simpa using hh a (by omega) (by omega)
theorem Lad.top{X:Nat->List Int}{l:Nat}(h:Lad X l)(h0:l≠0):tp X=some l.log2/\X l.log2≠[]/\l.log2 < 32:=by
 have hl:=Ld.log_lt h.lt
 have hb:=Ld.log_bit h0
 rw [h.bit _ hl] at hb
 have hx:X l.log2≠[]:=by simpa using hb
 refine⟨tp_some hl hx fun s h1 h2=>?_,hx,hl⟩
 have:=Ld.log_high (l:=l) h1
 rw [h.bit s h2] at this
 simpa using this
def qc(hp:Nat->Nat)(l:Nat):List Value:=(List.range 32).map (fun r=>Value.pointer (some ⟨hp r,0,none⟩)) ++ [.int .u32 (l:Int)]
theorem qc_row(hp:Nat->Nat)(l:Nat){r:Nat}(h:r < 32):(qc hp l)[r]?=some (.pointer (some ⟨hp r,0,none⟩)):=by
 unfold qc
 rw [List.getElem?_append_left (by simpa using h),List.getElem?_map,List.getElem?_range h]
 rfl
theorem qc_lad(hp:Nat->Nat)(l:Nat):(qc hp l)[32]?=some (.int .u32 (l:Int)):=by
 unfold qc
 rw [List.getElem?_append_right (by simp)]
 simp
theorem qc_set(hp:Nat->Nat)(l l':Nat):(qc hp l).set 32 (.int .u32 (l':Int))=qc hp l':=by
 unfold qc
 rw [List.set_append_right _ _ (by simp)]
 simp
structure Que (w:World) (p:Nat) (hp hg:Nat->Nat) (X:Nat->List Int) (l:Nat):Prop where
 head:w.heap[p]?=some (.cells (qc hp l).toArray 137 (0,0))
 ring:∀ r,r < 32->Ring w (hp r) (hg r) 256 (X r)
 hpn:∀ r s,r < 32->s < 32->hp r=hp s->r=s
 hgn:∀ r s,r < 32->s < 32->hg r=hg s->r=s
 hx:∀ r s,r < 32->s < 32->hp r≠hg s
 lad:Lad X l
 good:Good X
theorem Que.row{w:World}{p:Nat}{hp hg:Nat->Nat}{X:Nat->List Int}{l:Nat}(h:Que w p hp hg X l){r:Nat}(hr:r < 32):w.cell? ⟨p,r,none⟩=some (.pointer (some ⟨hp r,0,none⟩)):=by
 rw [cell_of h.head];simpa using qc_row hp l hr
theorem Que.ld{w:World}{p:Nat}{hp hg:Nat->Nat}{X:Nat->List Int}{l:Nat}(h:Que w p hp hg X l):w.cell? ⟨p,32,none⟩=some (.int .u32 (l:Int)):=by
 rw [cell_of h.head];simpa using qc_lad hp l
theorem Que.lt{w:World}{p:Nat}{hp hg:Nat->Nat}{X:Nat->List Int}{l:Nat}(h:Que w p hp hg X l):p < w.heap.size:=at_lt h.head
theorem Ring.nep{w:World}{p g n:Nat}{xs:List Int}(h:Ring w p g n xs){q:Nat}{cs:Array Value}{f:Nat×Nat}(hq:w.heap[q]?=some (.cells cs 137 f)):q≠p/\q≠g:=by
 obtain⟨f,ys,hf,hr,hh⟩:=h.raw
 constructor
 ·rintro rfl
  have:=hr.head
  rw [hq] at this
  simp at this
 ·rintro rfl
  have:=hr.row
  unfold Row at this
  rw [hq] at this
  simp at this
structure Mid (B s:Nat) (w w':World):Prop where
 os:w'.os=w.os
 tape:w'.tape=w.tape
 output:w'.output=w.output
 size:w.heap.size<=w'.heap.size
 block:∀ k,k < w.heap.size->(k < B∨s<=k)->w'.heap[k]?=w.heap[k]?
theorem Mid.trans{B s:Nat}{a b c:World}(h:Mid B s a b)(k:Mid B s b c):Mid B s a c :=
 ⟨k.os.trans h.os,k.tape.trans h.tape,k.output.trans h.output,Nat.le_trans h.size k.size,fun i hi hg=>(k.block i (Nat.lt_of_lt_of_le hi h.size) hg).trans (h.block i hi hg)⟩
theorem Mid.of{B s:Nat}{w w':World}(h:Below w.heap.size w w'):Mid B s w w':=⟨h.os,h.tape,h.output,h.size,fun k hk _=>h.block k hk⟩
theorem Mid.buts{B s:Nat}{w w':World}{l:List Nat}(h:Buts l w w')(hl:∀ x∈l,B<=x/\x < s):Mid B s w w' :=
 ⟨h.os,h.tape,h.output,h.size,fun k hk hg=>h.block k hk fun e=>by have:=hl k e;omega⟩
def QS(B s:Nat)(w:World)(p:Nat)(X:Nat->List Int):Prop :=
 ∃ hp hg l,Que w p hp hg X l/\s<=w.heap.size/\B<=p/\p < s/\∀ r,r < 32->B<=hp r/\hp r < s/\B<=hg r/\hg r < s
theorem Que.mid{B s:Nat}{w w':World}{p:Nat}{hp hg:Nat->Nat}{X:Nat->List Int}{l:Nat}(h:Que w p hp hg X l)(hk:∀ k,(k=p∨∃ r,r < 32/\(k=hp r∨k=hg r))->w'.heap[k]?=w.heap[k]?):Que w' p hp hg X l:=by
 refine⟨(hk p (Or.inl rfl)).trans h.head,fun r hr=>?_,h.hpn,h.hgn,h.hx,h.lad,h.good⟩
 obtain⟨f,ys,hf,hr2,hh⟩:=(h.ring r hr).raw
 exact⟨⟨f,ys,hf,⟨(hk _ (Or.inr ⟨r,hr,Or.inl rfl⟩)).trans hr2.head,(hk _ (Or.inr ⟨r,hr,Or.inr rfl⟩)).trans hr2.row,hr2.len⟩,hh⟩,(h.ring r hr).lo,(h.ring r hr).hi,(h.ring r hr).len⟩
theorem Que.below{w w':World}{p:Nat}{hp hg:Nat->Nat}{X:Nat->List Int}{l:Nat}(h:Que w p hp hg X l)(hb:Below w.heap.size w w'):Que w' p hp hg X l :=
 h.mid (B:=0) (s:=0) fun k hk=>by
  rcases hk with rfl |⟨r,hr,rfl | rfl⟩
  ·exact hb.block _ h.lt
  ·exact hb.block _ (h.ring r hr).lt.1
  ·exact hb.block _ (h.ring r hr).lt.2
theorem QS.keep{B s:Nat}{w w':World}{p:Nat}{X:Nat->List Int}(h:QS B s w p X)(hs:w.heap.size<=w'.heap.size)(hk:∀ k,B<=k->k < s->w'.heap[k]?=w.heap[k]?):QS B s w' p X:=by
 obtain⟨hp,hg,l,hq,h1,h2,h3,h4⟩:=h
 refine⟨hp,hg,l,hq.mid (B:=B) (s:=s) fun k hkk=>?_,by omega,h2,h3,h4⟩
 rcases hkk with rfl |⟨r,hr,rfl | rfl⟩
 ·exact hk _ h2 h3
 ·exact hk _ (h4 r hr).1 (h4 r hr).2.1
 ·exact hk _ (h4 r hr).2.2.1 (h4 r hr).2.2.2
theorem QS.le{B s:Nat}{w:World}{p:Nat}{X:Nat->List Int}(h:QS B s w p X):s<=w.heap.size/\B<=p/\p < s:=by
 obtain⟨hp,hg,l,hq,h1,h2,h3,h4⟩:=h
 exact⟨h1,h2,h3⟩
theorem QS.below{B s:Nat}{w w':World}{p:Nat}{X:Nat->List Int}(h:QS B s w p X)(hb:Below w.heap.size w w'):QS B s w' p X :=
 h.keep hb.size fun k _ hk=>hb.block k (by have:=h.le;omega)
theorem Que.setRing{w w':World}{p:Nat}{hp hg:Nat->Nat}{X:Nat->List Int}{l l':Nat}(h:Que w p hp hg X l){r:Nat}(hr:r < 32){xs:List Int}(hR:Ring w' (hp r) (hg r) 256 xs)(hb:Buts [hp r,hg r] w w')(hl:Lad (up X r xs) l)(hgd:Good (up X r xs)):Que w' p hp hg (up X r xs) l:=by
 have hn:=(h.ring r hr).nep h.head
 refine⟨(hb.block p h.lt (by simp;exact hn)).trans h.head,fun s hs=>?_,h.hpn,h.hgn,h.hx,hl,hgd⟩
 by_cases e:s=r
 ·subst e;rw [up_at];exact hR
 ·rw [up_ne X xs e]
  refine(h.ring s hs).buts hb ?_ ?_
  ·simp only [List.mem_cons,List.not_mem_nil,or_false,not_or]
   exact⟨fun k=>e (h.hpn s r hs hr k),h.hx s r hs hr⟩
  ·simp only [List.mem_cons,List.not_mem_nil,or_false,not_or]
   exact⟨fun k=>h.hx r s hr hs k.symm,fun k=>e (h.hgn s r hs hr k)⟩
theorem Que.setRing'{w w':World}{p:Nat}{hp hg:Nat->Nat}{X:Nat->List Int}{l:Nat}(h:Que w p hp hg X l){r:Nat}(hr:r < 32){xs:List Int}(hR:Ring w' (hp r) (hg r) 256 xs)(hb:Buts [hp r,hg r] w w')(hgd:Good (up X r xs))(l':Nat)(hl:Lad (up X r xs) l'):Que (w'.setCell ⟨p,32,none⟩ (.int .u32 (l':Int))) p hp hg (up X r xs) l':=by
 have hn:=(h.ring r hr).nep h.head
 have hh:w'.heap[p]?=some (.cells (qc hp l).toArray 137 (0,0)):=(hb.block p h.lt (by simp;exact hn)).trans h.head
 refine⟨?_,fun s hs=>?_,h.hpn,h.hgn,h.hx,hl,hgd⟩
 ·have hlt:=at_lt hh
  have h2:=(Array.getElem?_eq_some_iff.1 hh).2
  unfold World.setCell
  rw [Array.getElem?_eq_getElem (by simpa using hlt),Array.getElem_modify]
  simp [h2,qc_set]
 ·have hX:Ring w' (hp s) (hg s) 256 (up X r xs s):=by
   by_cases e:s=r
   ·subst e;rw [up_at];exact hR
   ·rw [up_ne X xs e]
    refine(h.ring s hs).buts hb ?_ ?_
    ·simp only [List.mem_cons,List.not_mem_nil,or_false,not_or]
     exact⟨fun k=>e (h.hpn s r hs hr k),h.hx s r hs hr⟩
    ·simp only [List.mem_cons,List.not_mem_nil,or_false,not_or]
     exact⟨fun k=>h.hx r s hr hs k.symm,fun k=>e (h.hgn s r hs hr k)⟩
  have hn:=hX.nep hh
  exact hX.buts (Buts.cell w' p 32 _) (by simpa using hn.1.symm) (by simpa using hn.2.symm)
end Go.Proofs.YtbbdndfibjdcfaaGreat.Rd
namespace Go.Proofs.YtbbdndfibjdcfaaGreat.Rd.Ld
open Go Go.RowKit
theorem bl_log:∀ (n x:Nat),x < 2 ^ n->n<=64->x≠0->Lib.bitLen x=x.log2+1
 | 0,x,h,_,h0=>by omega
 | n+1,x,h,hn,h0=>by
  have h64:x < 2 ^ 64:=Nat.lt_of_lt_of_le h (Nat.pow_le_pow_right (by decide) hn)
  rw [Lib.bitLen_half x h0 h64]
  by_cases h1:x / 2=0
  ·obtain rfl:x=1:=by omega
   decide
  ·rw [bl_log n (x / 2) (by rw [Nat.pow_succ] at h;omega) (by omega) h1]
   have:x.log2=(x / 2).log2+1:=by
    rw [Nat.log2_def x,if_pos (by omega)]
   omega
theorem bl_of{x:Nat}(h:x < 4294967296)(h0:x≠0):Lib.bitLen x=x.log2+1:=bl_log 32 x h (by decide) h0
theorem wr_k(k a b:Nat)(hk:k<=24)(l:a<=8)(s:b=k+a):wrap64 ((k:Int)+wrap64 (a:Int))=(b:Int):=by
 simp only [wrap64];omega
theorem wr_0(a:Nat)(l:a<=8):wrap64 (wrap64 (a:Int))=(a:Int):=by
 simp only [wrap64];omega
theorem tab_get(i:Int)(h:i.toNat < Lib.len8tab.size)(h0:0<=i):((Lib.len8tab[i.toNat]'h).toNat:Int)=(Lib.bitLen i.toNat:Int):=by
 have hs:=Lib.len8tab_size
 have e:Lib.len8 i=((Lib.len8tab[i.toNat]'h).toNat:Int):=by unfold Lib.len8;rw [getElem?_pos Lib.len8tab i.toNat h];rfl
 rw [←e]
 exact Lib.len8_of i h0 (by omega)
theorem len32_any(x:Int)(w:World)(h0:0<=x)(h1:x<=4294967295) :
  Calls Tryz.prog 183 #[.int .u32 x] w fun e w'=>e=.returned (.int .i64 (Lib.bitLen x.toNat))/\w'=w:=by
 have hs:=Lib.len8tab_size
 go_enter Tryz.func183,Tryz.ntmps183
 go_wp2
 all_goals (go_ret;refine⟨congrArg Ending.returned (congrArg (Value.int IntKind.i64) ?_),rfl⟩)
 all_goals rw [tab_get _ _ (by omega)]
 ·have e:(x / 65536 / 256).toNat=x.toNat / 16777216:=by omega
  have l:=Lib.bitLen_le8' (x / 65536 / 256) (by omega) (by omega)
  have s:=Lib.bitLen_shift24 x.toNat (by omega) (by omega)
  rw [e] at l ⊢
  exact wr_k _ _ _ (by decide) l s
 ·have e:(x / 65536).toNat=x.toNat / 65536:=by omega
  have l:=Lib.bitLen_le8' (x / 65536) (by omega) (by omega)
  have s:=Lib.bitLen_shift16 x.toNat (by omega) (by omega)
  rw [e] at l ⊢
  exact wr_k _ _ _ (by decide) l s
 ·have e:(x / 256).toNat=x.toNat / 256:=by omega
  have l:=Lib.bitLen_le8' (x / 256) (by omega) (by omega)
  have s:=Lib.bitLen_shift8 x.toNat (by omega) (by omega)
  rw [e] at l ⊢
  exact wr_k _ _ _ (by decide) l s
 ·have l:=Lib.bitLen_le8' x (by omega) (by omega)
  exact wr_0 _ l
theorem bit_any(r:Int)(w:World) :
  Calls Tryz.prog 158 #[.int .i64 r] w fun e w'=>e=.returned (.int .u32 (bitOf r:Nat))/\w'=w:=by
 go_enter Tryz.func158,Tryz.ntmps158
 go_wp2
 all_goals (go_ret;refine⟨congrArg Ending.returned (congrArg (Value.int IntKind.u32) ?_),rfl⟩)
 ·unfold bitOf;rw [if_neg (by omega)];rfl
 ·unfold bitOf
  have h:0<=r/\r<=31:=by assumption
  rw [if_pos h]
  have hp:(2:Int) ^ r.toNat < 2 ^ 32:=Int.pow_lt_pow_of_lt (by decide) (by omega)
  rw [Int.natCast_pow]
  exact Int.emod_eq_of_lt (Int.le_of_lt (Int.pow_pos (by decide))) hp
 ·unfold bitOf;rw [if_neg (by omega)];rfl
theorem set_any(l:Nat)(hl:l < 4294967296)(r:Int)(w:World) :
  Calls Tryz.prog 185 #[.int .u32 (l:Int),.int .i64 r] w fun e w'=>e=.returned (.int .u32 (setL l r:Nat))/\w'=w:=by
 have hb:=bitOf_lt r
 go_enter Tryz.func185,Tryz.ntmps185
 go_wp2_with (go_at_call 158;refine(bit_any r _).mono ?_;rintro e w' ⟨rfl,rfl⟩)
 go_ret
 exact⟨congrArg Ending.returned (congrArg (Value.int IntKind.u32) (u32_or_nat l _ hl hb)),rfl⟩
theorem clear_any(l:Nat)(hl:l < 4294967296)(r:Int)(w:World) :
  Calls Tryz.prog 114 #[.int .u32 (l:Int),.int .i64 r] w fun e w'=>e=.returned (.int .u32 (clrL l r:Nat))/\w'=w:=by
 have hb:=bitOf_lt r
 go_enter Tryz.func114,Tryz.ntmps114
 go_wp2_with (go_at_call 158;refine(bit_any r _).mono ?_;rintro e w' ⟨rfl,rfl⟩)
 go_ret
 exact⟨congrArg Ending.returned (congrArg (Value.int IntKind.u32) (u32_andNot_nat l _ hl hb)),rfl⟩
theorem first_yes(l:Nat)(hl:l < 4294967296)(h0:l≠0)(w:World) :
  Calls Tryz.prog 146 #[.int .u32 (l:Int)] w fun e w'=>e=.returned (.tuple #[.int .i64 (l.log2:Nat),.bool true])/\w'=w:=by
 have e1:Lib.bitLen l=l.log2+1:=bl_of hl h0
 have e2:=log_lt hl
 have h1:¬ ((l:Int)=0):=by omega
 go_enter Tryz.func146,Tryz.ntmps146
 go_wp2_with (go_at_call 183;refine(len32_any (l:Int) _ (by omega) (by omega)).mono ?_;rintro e w' ⟨rfl,rfl⟩)
 go_ret2
 exact⟨rfl,rfl⟩
theorem first_no(w:World) :
  Calls Tryz.prog 146 #[.int .u32 0] w fun e w'=>e=.returned (.tuple #[.int .i64 0,.bool false])/\w'=w:=by
 go_enter Tryz.func146,Tryz.ntmps146
 go_wp2
 go_ret2
 exact⟨rfl,rfl⟩
end Go.Proofs.YtbbdndfibjdcfaaGreat.Rd.Ld
namespace Go.Proofs.YtbbdndfibjdcfaaGreat.Rd.Ld
open Go Go.RowKit Go.Shelf
attribute [local go_sem] Oper.semAt_some
theorem ranks_any(l:Nat)(w:World) :
  Calls Tryz.prog 188 #[.int .u32 (l:Int)] w fun e w'=>e=.returned (.func (.func 208) #[] #[.pointer (some ⟨w.heap.size,0,none⟩)])/\w'=w.alloc (.cells #[.int .u32 (l:Int)] 22):=by
 go_enter Tryz.func188,Tryz.ntmps188
 go_wp2
 go_ret
 exact⟨rfl,rfl⟩
theorem seq1(n:Nat)(hn:1<=n)(l Bn n₀:Nat)(L:Nat)(hL:L < 4294967296)(J Jx:List Int->World->Prop)
  (hY:∀ pre x W,J pre W->pre.length < (told L).length->YieldAt Fence.wide (n - 1) Tryz.prog l #[.int .i64 x] W fun e W' =>
   (e=.returned (.bool true)/\J (pre ++ [x]) W'/\Below n₀ W W')∨(e=.returned (.bool false)/\Jx (pre ++ [x]) W'))
  (W:World) (hBn:W.cell? ⟨Bn,0,none⟩=some (.int .u32 (L:Int))) (h0:J [] W) :
  CallsIn Fence.wide n Tryz.prog 208 #[.func (.yield l) #[] #[],.pointer (some ⟨Bn,0,none⟩)] W fun e W'=>(∃ v,e=.returned v) /\
   ((∃ ys,ys=told L/\J ys W')∨(∃ pre,pre <+: told L/\Jx pre W')):=by
 refine callsIn_of_wp Tryz.func208 rfl trivial ?_ rfl
 simp only [Tryz.ntmps208,List.size_toArray,List.length_cons,List.length_nil,Nat.reduceAdd,Nat.reduceSub,Array.replicate_succ,Array.replicate_zero,List.push_toArray,List.append_toArray,List.nil_append,List.cons_append]
 gi_wp2
 gi_loopw [3] (fun p wr=>∃ (pre:List Int) (m:Nat),p=.int .u32 (m:Int)/\m < 4294967296/\told L=pre ++ told m/\J pre wr)
  (fun p wr=>match p with | .int _ m=>(told m.toNat).length | _=>0)
 case atStart =>
  exact⟨[],L,rfl,hL,rfl,h0⟩
 case round =>
  obtain⟨pre,m,rfl,hm,hx,hJs⟩:=hrel
  by_cases hm0:m=0
  ·subst hm0
   gi_wp2_with (refine⟨trivial,?_⟩;gi_at_call 146;refine(callsIn_wide.2 (first_no _)).mono ?_;rintro e w' ⟨rfl,rfl⟩)
   refine⟨fun _ h=>(by cases h),?_⟩
   gi_wp2
   refine bodyPost_ret (results_none rfl _ _ _) rfl ?_
   exact⟨⟨_,rfl⟩,.inl ⟨pre,by rw [hx,told_zero,List.append_nil],hJs⟩⟩
  ·have hf:=told_first hm0 hm
   obtain⟨fn,tmps,assign,body,hy,hR⟩:=hY pre (m.log2:Int) wr hJs (by rw [hx,hf];simp)
   gi_wp2_with (refine⟨trivial,?_⟩;gi_at_call 146;refine(callsIn_wide.2 (first_yes m hm hm0 _)).mono ?_;rintro e w' ⟨rfl,rfl⟩)
   refine hR.mono ?_
   rintro e W3 (⟨rfl,hJ3,hk3⟩ |⟨rfl,hJx3⟩)
   ·gi_wp2_with (refine⟨trivial,?_⟩;gi_at_call 114;refine(callsIn_wide.2 (clear_any m hm (m.log2:Int) _)).mono ?_;rintro e w' ⟨rfl,rfl⟩)
    go_roundw
    case rel=>exact⟨pre ++ [(m.log2:Int)],clrL m (m.log2:Int),rfl,clrL_lt hm _,by rw [hx,hf];simp,hJ3⟩
    case measure=>simp [hf]
   ·gi_wp2
    refine bodyPost_ret (results_none rfl _ _ _) rfl ?_
    exact⟨⟨_,rfl⟩,.inr ⟨pre ++ [(m.log2:Int)],⟨told (clrL m (m.log2:Int)),by rw [hx,hf];simp⟩,hJx3⟩⟩
theorem seq_stops(n:Nat)(hn:1<=n)(Bn n₀:Nat)(L:Nat)(hL:L < 4294967296)(w:World)(hBn:Bn < w.heap.size)
  (hc:w.cell? ⟨Bn,0,none⟩=some (.int .u32 (L:Int))) :
  SeqStopsK Fence.wide n Tryz.prog 208 #[.pointer (some ⟨Bn,0,none⟩)] (fun x:Int=>#[Value.int .i64 x]) (Below n₀) (fun ys=>ys=told L) (fun pre=>pre <+: told L) (told L).length w:=fun l J Jx W hW _ _ hY h0 =>
 seq1 n hn l Bn n₀ L hL J Jx hY W ((hW.cell (p:=⟨Bn,0,none⟩) hBn).trans hc) h0
theorem infoI:(Tryz.prog.info? 3).map (fun i=>(i.zero,i.size,i.bytes))=some (some (.int .i64 0),1,8):=by kernel_rfl
/-- the list,in memory of its own -/
theorem list_any(L:Nat)(hL:L < 4294967296)(w:World) :
  Calls Tryz.prog 153 #[.int .u32 (L:Int)] w fun e W'=>∃ v,e=.returned v/\W'.ownsRow w.heap.size 3 1 v (told L).length ((told L).map (Value.int .i64))/\(v=.slice none 0 0↔told L=[])/\Below w.heap.size w W':=by
 have hlen:(told L).length<=32:=by rw [told_len];exact ranks_len L
 obtain⟨i0,hi,hz0,hz1,hz2⟩:=info_parts infoI
 refine(callsIn_wide (n:=3)).1 ?_
 refine callsIn_of_wp_marks Tryz.func153 rfl trivial ?_ rfl
 simp only [Tryz.ntmps153,List.size_toArray,List.length_cons,List.length_nil,Nat.reduceAdd,Nat.reduceSub,Array.replicate_succ,Array.replicate_zero,List.push_toArray,List.append_toArray,List.nil_append,List.cons_append]
 gi_wp2_with (refine⟨trivial,?_⟩;gi_at_call 188;refine(callsIn_wide.2 (ranks_any L _)).mono ?_;rintro e w' ⟨rfl,rfl⟩)
 have bO:=Boxed.new w 111 (.slice none 0 0)
 have bN:=Boxed.new (w.alloc (.cells #[.slice none 0 0] 111)) 22 (.int .u32 (L:Int))
 rw [World.size_alloc] at bN
 have hB0:Below w.heap.size w ((w.alloc (.cells #[.slice none 0 0] 111)).alloc (.cells #[.int .u32 (L:Int)] 22)):=((Below.refl _ w).alloc (Nat.le_refl _) _).alloc (by simp) _
 refine wpIn_rangeFunc_ownG rfl (by omega) (gf:=208) (lb:=#[.pointer (some ⟨w.heap.size+1,0,none⟩)]) rfl trivial (enters_of Tryz.func208 (by kernel_rfl) rfl)
  (seq_stops _ (by omega) (w.heap.size+1) w.heap.size L hL _ (by simp) bN.cell) belowK_t (belowK_b (by simp;omega)) (Below.refl _ _) (fun _=>rfl)
  (fun pre W=>(∃ v,Boxed W w.heap.size 111 v/\W.ownsRow w.heap.size 3 1 v pre.length (pre.map (Value.int .i64))/\(v=.slice none 0 0↔pre=[]))/\Below w.heap.size w W)
  (fun _ _ _=>False)
  (OwnFrom.and (Own.from (holdsRow_own w.heap.size w.heap.size 111 3 1 (fun pre=>pre.length) (fun pre=>pre.map (Value.int .i64)) (fun pre v=>v=.slice none 0 0↔pre=[])) _) (ownFrom_below (Nat.le_refl _) (by simp;omega)))
  (fun _ _ _ _ _ hs _ _=>hs)
  ⟨⟨_,bO.alloc _,World.ownsRow_nil _ _ _ _,by simp⟩,hB0⟩
  (fun x=>{ tmps:=#[.int .u32 (L:Int),undef,.slice none 0 0,.pointer (some ⟨w.heap.size,0,none⟩),.int .i64 x,.int .u32 (L:Int),.func (.func 208) #[] #[.pointer (some ⟨w.heap.size+1,0,none⟩)],.int .i64 x,undef,undef,undef,undef,undef],defers:=[] }) ?assign ?body ?done ?stop
 case assign =>
  intro l x W K hK
  gi_wp2
  exact hK
 case body =>
  rintro l pre x W ⟨⟨v,hv,hrow,hnil⟩,hB⟩ hlt
  have hc:=hv.cell
  gi_wp2_with (gi_at_builtin;refine wpListIn_append_own _ rfl _ _ 111 rfl w.heap.size 3 i0 (.int .i64 0) 1 8 Tryz.underlying111 hi hz0 hz1 hz2 rfl (by decide) _ _ _ rfl (hrow.alloc _) ⟨W.heap.size,0,none⟩ 1 1 [.int .i64 x] rfl rfl (cell_one_new _ _ _) (by simp [Value.oneCell']) (by simp only [maxLen];omega) (by omega) (by have:=hB.size;simp;omega) ?_;intro v' w1 hown' hgrow _;obtain⟨g',cap',rfl⟩:=ownsRow_succ hown';obtain⟨hv1,hv2,hr2,hk2,hb2⟩:=hv.appended (by decide) hrow hB.size (Nat.le_refl _) hown' hgrow;have hc1:=hv1.cell;have hf1:=hv1.frozen)
  exact⟨hk2.from _,hb2,⟨_,hv2,by simpa using hr2,by simp⟩,hB.trans hb2⟩
 case done =>
  rintro D ys W hD rfl ⟨⟨v,hv,hrow,hnil⟩,hB⟩ hK
  have hc:=hv.cell
  gi_wp2
  refine⟨by simp,.inl ⟨_,_,rfl,run_takeDeferred hK,?_⟩⟩
  exact⟨_,results_tmp rfl _ _ _,v,rfl,ownsRow_putObj hrow _ hK rfl,hnil,hB.trans (belowK_b (w:=w) (Nat.le_refl _) W D _ _ (by simp at hD;omega) hK rfl rfl)⟩
 case stop =>
  rintro D c pre W _ _ h _
  exact h.elim
end Go.Proofs.YtbbdndfibjdcfaaGreat.Rd.Ld
namespace Go.Proofs.YtbbdndfibjdcfaaGreat.Rd
open Go Go.RowKit Go.Shelf
attribute [local go_sem] Oper.semAt_some
def Owned(W:World)(t k:Nat):Prop:=∃ v,W.cell? ⟨t,0,none⟩=some v/\v.ownBlock=some k
structure KL (t:Nat) (W W':World):Prop where
 size:W.heap.size<=W'.heap.size
 keep:∀ (k:Nat) (cs:Array Value) (ty:TypeId) (f:Nat×Nat),W.heap[k]?=some (.cells cs ty f)->k≠t->¬ Owned W t k->W'.heap[k]?=some (.cells cs ty f)
 own:∀ k,Owned W' t k->Owned W t k∨W.heap.size<=k
theorem KL.refl(t:Nat)(W:World):KL t W W:=⟨Nat.le_refl _,fun _ _ _ _ h _ _=>h,fun _ h=>Or.inl h⟩
theorem KL.trans{t:Nat}{A B C:World}(h:KL t A B)(k:KL t B C):KL t A C:=by
 refine⟨Nat.le_trans h.size k.size,fun i cs ty f hi hne ho=>?_,fun i hi=>?_⟩
 ·refine k.keep i cs ty f (h.keep i cs ty f hi hne ho) hne fun hb=>?_
  rcases h.own i hb with hb | hb
  ·exact ho hb
  ·have:=at_lt hi;omega
 ·rcases k.own i hi with hi | hi
  ·exact h.own i hi
  ·have:=h.size;exact Or.inr (by omega)
theorem kl_b{t:Nat}{w:World}(ht:t < w.heap.size)(W:World)(l:Nat)(o o':Obj)(hl:w.heap.size<=l)(h:W.heap[l]?=some o)(ho:o.isCells=false)(_:o.isWalk=false):KL t W (W.putObj l o'):=by
 have hg:=grownBy_putObj' W l o'
 refine⟨hg.size,fun k cs ty f hk _ _=>?_,fun k hk=>?_⟩
 ·rw [hg.block k (at_lt hk) (fun e=>?_)]
  ·exact hk
  ·rw [Option.some.injEq] at e
   subst e
   rw [h] at hk
   cases hk
   cases ho
 ·obtain⟨v,hv,hvb⟩:=hk
  refine Or.inl ⟨v,?_,hvb⟩
  rw [←hv]
  refine(World.cell?_of_block ?_).symm
  refine hg.block t ?_ (fun e=>by rw [Option.some.injEq] at e;omega)
  have:=(Array.getElem?_eq_some_iff.1 h).1
  omega
theorem qthere_yes{w:World}{p a:Nat}(h:w.cell? ⟨p,0,none⟩=some (.pointer (some ⟨a,0,none⟩))) :
  Calls Tryz.prog 110 #[.pointer (some ⟨p,0,none⟩)] w fun e w'=>e=.returned (.bool true)/\w=w':=by
 go_enter Tryz.func110,Tryz.ntmps110
 go_wp2
 go_ret
 exact⟨rfl,rfl⟩
theorem qthere_nil{w:World}:Calls Tryz.prog 110 #[.pointer none] w fun e w'=>e=.returned (.bool false)/\w=w':=by
 go_enter Tryz.func110,Tryz.ntmps110
 go_wp2
 go_ret
 exact⟨rfl,rfl⟩
theorem isRank_any(r:Int)(w:World):Calls Tryz.prog 169 #[.int .i64 r] w fun e w'=>e=.returned (.bool (decide (0<=r/\r<=31)))/\w=w':=by
 go_enter Tryz.func169,Tryz.ntmps169
 go_wp2
 all_goals
  go_ret
  refine⟨?_,rfl⟩
  simp
  try omega
theorem isRank_yes(r:Int)(w:World)(h:0<=r/\r<=31):Calls Tryz.prog 169 #[.int .i64 r] w fun e w'=>e=.returned (.bool true)/\w=w':=by
 have:=isRank_any r w
 rwa [decide_eq_true h] at this
theorem isRank_no(r:Int)(w:World)(h:¬ (0<=r/\r<=31)):Calls Tryz.prog 169 #[.int .i64 r] w fun e w'=>e=.returned (.bool false)/\w=w':=by
 have:=isRank_any r w
 rwa [decide_eq_false h] at this
theorem those_any(p:Option Addr)(r:Int)(w:World) :
  Calls Tryz.prog 126 #[.pointer p,.int .i64 r] w fun e w'=>e=.returned (.func (.func 168) #[] #[.pointer (some ⟨w.heap.size,0,none⟩),.pointer (some ⟨w.heap.size+1,0,none⟩)])/\w'=(w.alloc (.cells #[.pointer p] 88)).alloc (.cells #[.int .i64 r] 3):=by
 go_enter Tryz.func126,Tryz.ntmps126
 go_wp2
 go_ret
 exact⟨by simp,rfl⟩
/-- a queue that is not there,or a rank that may not be: nobody -/
theorem seq0(n:Nat)(hn:1<=n)(l Bq Br:Nat)(po:Option Addr)(r:Int)(J Jx:List Int->World->Prop)(W:World)
  (hq:W.cell? ⟨Bq,0,none⟩=some (.pointer po)) (hr:W.cell? ⟨Br,0,none⟩=some (.int .i64 r))
  (hno:po=none∨((∃ p a,po=some ⟨p,0,none⟩/\W.cell? ⟨p,0,none⟩=some (.pointer (some ⟨a,0,none⟩)))/\¬ (0<=r/\r<=31))) (h0:J [] W) :
  CallsIn Fence.wide n Tryz.prog 168 #[.func (.yield l) #[] #[],.pointer (some ⟨Bq,0,none⟩),.pointer (some ⟨Br,0,none⟩)] W fun e W'=>(∃ v,e=.returned v) /\
   ((∃ ys,ys=[]/\J ys W')∨(∃ pre,pre <+: []/\Jx pre W')):=by
 refine callsIn_of_wp Tryz.func168 rfl trivial ?_ rfl
 simp only [Tryz.ntmps168,List.size_toArray,List.length_cons,List.length_nil,Nat.reduceAdd,Nat.reduceSub,Array.replicate_succ,Array.replicate_zero,List.push_toArray,List.append_toArray,List.nil_append,List.cons_append]
 rcases hno with rfl |⟨⟨p,a,rfl,hp⟩,hnr⟩
 ·gi_wp2_with (first
   |(refine⟨trivial,?_⟩;gi_at_call 110;refine(callsIn_wide.2 (qthere_nil)).mono ?_;rintro e w' ⟨rfl,rfl⟩)
   |(refine⟨trivial,?_⟩))
  gi_wp2
  refine bodyPost_ret (results_none rfl _ _ _) rfl ?_
  exact⟨⟨_,rfl⟩,.inl ⟨[],rfl,h0⟩⟩
 ·gi_wp2_with (refine⟨trivial,?_⟩;first
   |(gi_at_call 110;refine(callsIn_wide.2 (qthere_yes hp)).mono ?_;rintro e w' ⟨rfl,rfl⟩)
   |(gi_at_call 169;refine(callsIn_wide.2 (isRank_no r _ hnr)).mono ?_;rintro e w' ⟨rfl,rfl⟩))
  refine bodyPost_ret (results_none rfl _ _ _) rfl ?_
  exact⟨⟨_,rfl⟩,.inl ⟨[],rfl,h0⟩⟩
theorem KL.row{t:Nat}{W W':World}(h:KL t W W'){G:Nat}{xs:List Int}(hr:Row W G xs)(hne:G≠t)(ho:¬ Owned W t G):Row W' G xs:=h.keep G _ _ _ hr hne ho
theorem take_snoc(xs:List Int){k:Nat}(h:k < xs.length):xs.take (k+1)=xs.take k ++ [xs.getD k 0]:=by
 rw [List.take_succ_eq_append_getElem h]
 simp [h]
theorem seq1(n:Nat)(hn:1<=n)(l Bq Br t:Nat)(p k:Nat)(hk:k < 32)(hp hg:Nat->Nat)(X:Nat->List Int)(ll:Nat)(J Jx:List Int->World->Prop)(W:World)
  (hJ:AbidesFrom W.heap.size J) (hY:∀ pre x W1,J pre W1->pre.length < (X k).length->YieldAt Fence.wide (n - 1) Tryz.prog l #[.int .i64 x] W1 fun e W' =>
   (e=.returned (.bool true)/\J (pre ++ [x]) W'/\KL t W1 W')∨(e=.returned (.bool false)/\Jx (pre ++ [x]) W'))
  (hq:W.cell? ⟨Bq,0,none⟩=some (.pointer (some ⟨p,0,none⟩))) (hr:W.cell? ⟨Br,0,none⟩=some (.int .i64 (k:Int))) (hQ:Que W p hp hg X ll)
  (htl:t < W.heap.size) (v0:Value) (ht:W.cell? ⟨t,0,none⟩=some v0) (hv0:v0.ownBlock=none) (h0:J [] W) :
  CallsIn Fence.wide n Tryz.prog 168 #[.func (.yield l) #[] #[],.pointer (some ⟨Bq,0,none⟩),.pointer (some ⟨Br,0,none⟩)] W fun e W'=>(∃ v,e=.returned v) /\
   ((∃ ys,ys=X k/\J ys W')∨(∃ pre,pre <+: X k/\Jx pre W')):=by
 have hkI:0<=(k:Int)/\(k:Int)<=31:=by omega
 have hk32:(k:Int) < 32:=by omega
 have hmx:Tryz.prog.follows .mixedOrders=true:=by kernel_rfl
 have hp0:=hQ.row (r:=0) (by omega)
 have hpk:=hQ.row hk
 obtain⟨xs,hxs⟩:∃ xs,X k=xs:=⟨_,rfl⟩
 have hxl:xs.length<=256:=by rw [←hxs];exact(hQ.ring k hk).len
 have hL:=list_any ((hQ.ring k hk).below (w':=W.drew) ((Below.refl _ W).drew))
 rw [hxs] at hY hL ⊢
 have hsz:W.drew.heap.size=W.heap.size:=rfl
 rw [hsz] at hL
 have HKG:Hid (∀ w2,Row w2 W.heap.size xs->Below W.heap.size W.drew w2->J [] w2/\∀ wr,KL t w2 wr->Row wr W.heap.size xs):=fun w2 hrow hb2=>by
  have hb3:Below W.heap.size W w2:=((Below.refl _ W).drew).trans hb2
  refine⟨hJ [] W w2 none h0 ⟨hb3.os,hb3.tape,hb3.output,hb3.size,fun k hk _=>hb3.block k hk⟩ (fun r e=>by cases e),fun wr hkl=>hkl.row hrow (by omega) fun⟨v,hv,hvb⟩=>?_⟩
  rw [hb3.cell (p:=⟨t,0,none⟩) htl,ht] at hv
  cases hv
  rw [hv0] at hvb
  cases hvb
 clear hQ hxs hJ h0 ht
 refine callsIn_of_wp Tryz.func168 rfl trivial ?_ rfl
 simp only [Tryz.ntmps168,List.size_toArray,List.length_cons,List.length_nil,Nat.reduceAdd,Nat.reduceSub,Array.replicate_succ,Array.replicate_zero,List.push_toArray,List.append_toArray,List.nil_append,List.cons_append]
 gi_wp2_with (refine⟨trivial,?_⟩;first
   |(gi_at_call 110;refine(callsIn_wide.2 (qthere_yes hp0)).mono ?_;rintro e w' ⟨rfl,rfl⟩)
   |(gi_at_call 169;refine(callsIn_wide.2 (isRank_yes _ _ hkI)).mono ?_;rintro e w' ⟨rfl,rfl⟩))
 have hq1:W.drew.cell? ⟨Bq,0,none⟩=some (.pointer (some ⟨p,0,none⟩)):=hq
 have hr1:W.drew.cell? ⟨Br,0,none⟩=some (.int .i64 (k:Int)):=hr
 have hpk1:W.drew.cell? ⟨p,0+k,none⟩=some (.pointer (some ⟨hp k,0,none⟩)):=by rw [Nat.zero_add];exact hpk
 have hpk2:W.drew.cell? ⟨p,k,none⟩=some (.pointer (some ⟨hp k,0,none⟩)):=hpk
 refine wpIn_region_any hmx ?_
 refine wpAnyIn_take (i:=8) (v:=?vq1) rfl rfl (by kernel_rfl) (by kernel_rfl) (by kernel_rfl) (fun _ _ _ h=>h) ⟨Or.inl ⟨by rfl,?hyq1⟩,fun _=>rfl⟩ ?restq1
 case hyq1=>(intro w;go_simp;try with_reducible rfl)
 refine wpAnyIn_ready (rs:=[0,1]) (by kernel_rfl) (by simp) ?_
 refine AllReadyIn.cons rfl (fun K hK=>?_) ?_
 ·go_simp
  refine hK _ _ ?_
  clear hK K
  refine wpAnyIn_take (i:=2) (v:=?vq2) rfl rfl (by kernel_rfl) (by kernel_rfl) (by kernel_rfl) (fun _ _ _ h=>h) ⟨Or.inl ⟨by rfl,?hyq2⟩,fun _=>rfl⟩ ?restq2
  case hyq2=>(intro w;go_simp;try with_reducible rfl)
  refine wpAnyIn_take (i:=3) (v:=?vq3) rfl rfl (by kernel_rfl) (by kernel_rfl) (by kernel_rfl) (fun _ _ _ h=>h) ⟨Or.inl ⟨by rfl,?hyq3⟩,fun _=>rfl⟩ ?restq3
  case hyq3=>(intro w;go_simp;try with_reducible rfl)
  refine wpAnyIn_ready (rs:=[1]) (by kernel_rfl) (by simp) ?_
  refine AllReadyIn.cons rfl (fun K hK=>?_) AllReadyIn.nil
  go_simp
  refine hK _ _ ?_
  clear hK K
  refine wpAnyIn_take (i:=4) (v:=?vq4) rfl rfl (by kernel_rfl) (by kernel_rfl) (by kernel_rfl) (fun _ _ _ h=>h) ⟨Or.inl ⟨by rfl,?hyq4⟩,fun _=>rfl⟩ ?restq4
  case hyq4=>(intro w;go_simp;try with_reducible rfl)
  refine wpAnyIn_ready (rs:=[5]) (by kernel_rfl) (by simp) ?_
  refine AllReadyIn.cons rfl (fun K hK=>?_) AllReadyIn.nil
  go_simp
  refine hK _ _ ?_
  clear hK K
  refine wpAnyIn_ready (rs:=[6]) (by kernel_rfl) (by simp) ?_
  refine AllReadyIn.cons rfl (fun K hK=>?_) AllReadyIn.nil
  go_simp;refine⟨trivial,?_⟩;gi_at_call 113;refine(callsIn_wide.2 hL).mono ?_;rintro e w2 ⟨rfl,hrow,hb2⟩;refine hK _ _ ?_;clear hK K
  refine wpAnyIn_take (i:=7) (v:=?vq5) rfl rfl (by kernel_rfl) (by kernel_rfl) (by kernel_rfl) (fun _ _ _ h=>h) ⟨Or.inl ⟨by rfl,?hyq5⟩,fun _=>rfl⟩ ?restq5
  case hyq5=>(intro w;go_simp;try with_reducible rfl)
  refine wpAnyIn_done (by kernel_rfl) ?_ _
  obtain⟨hJ2,hKR⟩:=HKG.out w2 hrow hb2
  have HKR:Hid (∀ wr,KL t w2 wr->Row wr W.heap.size xs):=hKR
  clear hrow hKR HKG hb2 hL hq1 hr1 hpk1 hpk2 hpk hp0 hq hr hkI hk32
  obtain⟨G,hG⟩:∃ G,W.heap.size=G:=⟨_,rfl⟩
  rw [hG] at HKR
  simp only [hG]
  clear hG hsz htl
  obtain⟨m,hm⟩:∃ m,xs.length=m:=⟨_,rfl⟩
  rw [hm] at hxl hY
  simp only [hm]
  have HM:Hid (xs.length=m):=hm
  clear hm
  go_simp
  gi_wp2
  gi_loopw [22] (fun s wr=>∃ i:Nat,s=.int .i64 (i:Int)/\i<=m/\Hid (J (xs.take i) wr)/\Hid (KL t w2 wr))
   (fun s wr=>match s with | .int _ i=>m - i.toNat | _=>0)
  case atStart =>
   exact⟨0,rfl,by omega,by rw [List.take_zero];exact hJ2,KL.refl _ _⟩
  case round =>
   obtain⟨i,rfl,hi,HJ,HK⟩:=hrel
   by_cases him:i=m
   ·have hlt:¬ ((i:Int) < m):=by omega
    gi_wp2
    go_end0
    refine⟨⟨_,rfl⟩,.inl ?_⟩
    have:=HJ.out
    rw [him,List.take_of_length_le (by rw [HM.out];exact Nat.le_refl _)] at this
    first | exact this | exact⟨_,rfl,this⟩
   ·have hil:i < m:=by omega
    have hlt:(i:Int) < m:=by omega
    have c1:=(HKR.out wr HK.out).cell i (by rw [HM.out];exact hil)
    have hwk:IntKind.i64.wrap ((i:Int)+1)=(i:Int)+1:=by rw [IntKind.wrap_i64];omega
    obtain⟨fn,tmps,assign,body,hy,hR⟩:=hY _ (xs.getD i 0) wr HJ.out (by rw [List.length_take,HM.out];omega)
    rw [←take_snoc xs (by rw [HM.out];exact hil)] at hR
    generalize xs.getD i 0=x at *
    gi_wp2
    refine hR.mono ?_
    rintro e W3 (⟨rfl,hJ3,hk3⟩ |⟨rfl,hJx3⟩)
    ·gi_wp2
     go_roundw
     case rel=>exact⟨i+1,by go_num,by omega,hJ3,HK.out.trans hk3⟩
     case measure=>simp;omega
    ·gi_wp2
     refine bodyPost_ret (results_none rfl _ _ _) rfl ?_
     exact⟨⟨_,rfl⟩,.inr ⟨_,List.take_prefix _ _,hJx3⟩⟩
 refine AllReadyIn.cons rfl (fun K hK=>?_) AllReadyIn.nil
 go_simp
 refine hK _ _ ?_
 clear hK K
 refine wpAnyIn_ready (rs:=[0]) (by kernel_rfl) (by simp) ?_
 refine AllReadyIn.cons rfl (fun K hK=>?_) AllReadyIn.nil
 go_simp
 refine hK _ _ ?_
 clear hK K
 refine wpAnyIn_take (i:=2) (v:=?vq6) rfl rfl (by kernel_rfl) (by kernel_rfl) (by kernel_rfl) (fun _ _ _ h=>h) ⟨Or.inl ⟨by rfl,?hyq6⟩,fun _=>rfl⟩ ?restq6
 case hyq6=>(intro w;go_simp;try with_reducible rfl)
 refine wpAnyIn_take (i:=3) (v:=?vq7) rfl rfl (by kernel_rfl) (by kernel_rfl) (by kernel_rfl) (fun _ _ _ h=>h) ⟨Or.inl ⟨by rfl,?hyq7⟩,fun _=>rfl⟩ ?restq7
 case hyq7=>(intro w;go_simp;try with_reducible rfl)
 refine wpAnyIn_take (i:=4) (v:=?vq8) rfl rfl (by kernel_rfl) (by kernel_rfl) (by kernel_rfl) (fun _ _ _ h=>h) ⟨Or.inl ⟨by rfl,?hyq8⟩,fun _=>rfl⟩ ?restq8
 case hyq8=>(intro w;go_simp;try with_reducible rfl)
 refine wpAnyIn_ready (rs:=[5]) (by kernel_rfl) (by simp) ?_
 refine AllReadyIn.cons rfl (fun K hK=>?_) AllReadyIn.nil
 go_simp
 refine hK _ _ ?_
 clear hK K
 refine wpAnyIn_ready (rs:=[6]) (by kernel_rfl) (by simp) ?_
 refine AllReadyIn.cons rfl (fun K hK=>?_) AllReadyIn.nil
 go_simp;refine⟨trivial,?_⟩;gi_at_call 113;refine(callsIn_wide.2 hL).mono ?_;rintro e w2 ⟨rfl,hrow,hb2⟩;refine hK _ _ ?_;clear hK K
 refine wpAnyIn_take (i:=7) (v:=?vq9) rfl rfl (by kernel_rfl) (by kernel_rfl) (by kernel_rfl) (fun _ _ _ h=>h) ⟨Or.inl ⟨by rfl,?hyq9⟩,fun _=>rfl⟩ ?restq9
 case hyq9=>(intro w;go_simp;try with_reducible rfl)
 refine wpAnyIn_done (by kernel_rfl) ?_ _
 obtain⟨hJ2,hKR⟩:=HKG.out w2 hrow hb2
 have HKR:Hid (∀ wr,KL t w2 wr->Row wr W.heap.size xs):=hKR
 clear hrow hKR HKG hb2 hL hq1 hr1 hpk1 hpk2 hpk hp0 hq hr hkI hk32
 obtain⟨G,hG⟩:∃ G,W.heap.size=G:=⟨_,rfl⟩
 rw [hG] at HKR
 simp only [hG]
 clear hG hsz htl
 obtain⟨m,hm⟩:∃ m,xs.length=m:=⟨_,rfl⟩
 rw [hm] at hxl hY
 simp only [hm]
 have HM:Hid (xs.length=m):=hm
 clear hm
 go_simp
 gi_wp2
 gi_loopw [22] (fun s wr=>∃ i:Nat,s=.int .i64 (i:Int)/\i<=m/\Hid (J (xs.take i) wr)/\Hid (KL t w2 wr))
  (fun s wr=>match s with | .int _ i=>m - i.toNat | _=>0)
 case atStart =>
  exact⟨0,rfl,by omega,by rw [List.take_zero];exact hJ2,KL.refl _ _⟩
 case round =>
  obtain⟨i,rfl,hi,HJ,HK⟩:=hrel
  by_cases him:i=m
  ·have hlt:¬ ((i:Int) < m):=by omega
   gi_wp2
   go_end0
   refine⟨⟨_,rfl⟩,.inl ?_⟩
   have:=HJ.out
   rw [him,List.take_of_length_le (by rw [HM.out];exact Nat.le_refl _)] at this
   first | exact this | exact⟨_,rfl,this⟩
  ·have hil:i < m:=by omega
   have hlt:(i:Int) < m:=by omega
   have c1:=(HKR.out wr HK.out).cell i (by rw [HM.out];exact hil)
   have hwk:IntKind.i64.wrap ((i:Int)+1)=(i:Int)+1:=by rw [IntKind.wrap_i64];omega
   obtain⟨fn,tmps,assign,body,hy,hR⟩:=hY _ (xs.getD i 0) wr HJ.out (by rw [List.length_take,HM.out];omega)
   rw [←take_snoc xs (by rw [HM.out];exact hil)] at hR
   generalize xs.getD i 0=x at *
   gi_wp2
   refine hR.mono ?_
   rintro e W3 (⟨rfl,hJ3,hk3⟩ |⟨rfl,hJx3⟩)
   ·gi_wp2
    go_roundw
    case rel=>exact⟨i+1,by go_num,by omega,hJ3,HK.out.trans hk3⟩
    case measure=>simp;omega
   ·gi_wp2
    refine bodyPost_ret (results_none rfl _ _ _) rfl ?_
    exact⟨⟨_,rfl⟩,.inr ⟨_,List.take_prefix _ _,hJx3⟩⟩
end Go.Proofs.YtbbdndfibjdcfaaGreat.Rd
namespace Go.Proofs.YtbbdndfibjdcfaaGreat.Rd
open Go Go.RowKit Go.Shelf
attribute [local go_sem] Oper.semAt_some
theorem seq_stops(n:Nat)(hn:1<=n)(Bq Br t p:Nat)(r:Int)(hp hg:Nat->Nat)(X:Nat->List Int)(ll:Nat)(w:World)(hbq:Bq < w.heap.size)(hbr:Br < w.heap.size)
  (hq:w.cell? ⟨Bq,0,none⟩=some (.pointer (some ⟨p,0,none⟩))) (hr:w.cell? ⟨Br,0,none⟩=some (.int .i64 r)) (hQ:Que w p hp hg X ll) (htl:t < w.heap.size) (v0:Value) (ht:w.cell? ⟨t,0,none⟩=some v0) (hv0:v0.ownBlock=none) :
  SeqStopsK Fence.wide n Tryz.prog 168 #[.pointer (some ⟨Bq,0,none⟩),.pointer (some ⟨Br,0,none⟩)] (fun x:Int=>#[Value.int .i64 x]) (KL t) (fun ys=>ys=lsX X r) (fun pre=>pre <+: lsX X r) (lsX X r).length w:=fun l J Jx W hW hJ _ hY h0=>by
 have hq':=(hW.cell (p:=⟨Bq,0,none⟩) hbq).trans hq
 have hr':=(hW.cell (p:=⟨Br,0,none⟩) hbr).trans hr
 have hQ':=hQ.below hW
 by_cases h:0<=r/\r<=31
 ·obtain⟨k,rfl⟩:=Int.eq_ofNat_of_zero_le h.1
  have e:lsX X (k:Int)=X k:=by unfold lsX;rw [if_pos h];rfl
  rw [e] at hY
  have:=seq1 n hn l Bq Br t p k (by omega) hp hg X ll J Jx W hJ hY hq' hr' hQ' (by have:=hW.size;omega) v0 ((hW.cell (p:=⟨t,0,none⟩) htl).trans ht) hv0 h0
  rw [←e] at this
  exact this
 ·have e:lsX X r=[]:=by unfold lsX;rw [if_neg h]
  have:=seq0 n hn l Bq Br (some ⟨p,0,none⟩) r J Jx W hq' hr' (Or.inr ⟨⟨p,hp 0,rfl,hQ'.row (by omega)⟩,h⟩) h0
  rw [←e] at this
  exact this
end Go.Proofs.YtbbdndfibjdcfaaGreat.Rd
namespace Go.Proofs.YtbbdndfibjdcfaaGreat.Rd
open Go Go.RowKit Go.Shelf
attribute [local go_sem] Oper.semAt_some
def R2(W:World)(t:Nat)(a:Int)(b:Bool):Prop:=Boxed W t 3 (.int .i64 a)/\Boxed W (t+1) 4 (.bool b)
theorem R2.keep{W W':World}{t:Nat}{a:Int}{b:Bool}(h:R2 W t a b)(hk:∀ (k:Nat) (cs:Array Value) (t:TypeId) (f:Nat×Nat),W.heap[k]?=some (Obj.cells cs t f)->W'.heap[k]?=some (Obj.cells cs t f)):R2 W' t a b :=
 ⟨hk _ _ _ _ h.1,hk _ _ _ _ h.2⟩
theorem R2.put{W:World}{t:Nat}{a:Int}{b:Bool}(h:R2 W t a b)(a':Int)(b':Bool):R2 ((W.setCell ⟨t,0,none⟩ (.int .i64 a')).setCell ⟨t+1,0,none⟩ (.bool b')) t a' b' :=
 ⟨Boxed.other (Boxed.set _ h.1) (by omega),Boxed.set _ (Boxed.other h.2 (by omega))⟩
theorem put_shut{W:World}{D:Nat}{o:Obj}(hK:W.heap[D]?=some o)(ho:o.isCells=false)(o':Obj):∀ (k:Nat) (cs:Array Value) (t:TypeId) (f:Nat×Nat),W.heap[k]?=some (Obj.cells cs t f)->(W.putObj D o').heap[k]?=some (Obj.cells cs t f) :=
 fun k cs t f hk=>(World.putObj_heap_other (fun e=>by rw [e,hK] at hk;cases hk;cases ho)).trans hk
theorem first_results{W:World}{t:Nat}{a:Int}{b:Bool}(h:R2 W t a b)(tmps:Array Value)(h4:tmps.getD 2 undef=.pointer (some ⟨t,0,none⟩))(h5:tmps.getD 3 undef=.pointer (some ⟨t+1,0,none⟩)) :
  (results Tryz.f106 tmps).run Tryz.prog W=.ok (.tuple #[.int .i64 a,.bool b]) W:=by
 have hr:Tryz.f106.results=#[.cell 2 3,.cell 3 4]:=rfl
 have c2:=h.1.cell
 have c3:=h.2.cell
 rw [Array.getD_eq_getD_getElem?] at h4 h5
 simp [results,hr,h4,h5,go_sem,c2,c3]
theorem rank_results{W:World}{t:Nat}{a:Int}{b:Bool}(h:R2 W t a b)(tmps:Array Value)(h4:tmps.getD 4 undef=.pointer (some ⟨t,0,none⟩))(h5:tmps.getD 5 undef=.pointer (some ⟨t+1,0,none⟩)) :
  (results Tryz.f111 tmps).run Tryz.prog W=.ok (.tuple #[.int .i64 a,.bool b]) W:=by
 have hr:Tryz.f111.results=#[.cell 4 3,.cell 5 4]:=rfl
 have c2:=h.1.cell
 have c3:=h.2.cell
 rw [Array.getD_eq_getD_getElem?] at h4 h5
 simp [results,hr,h4,h5,go_sem,c2,c3]
theorem two_new(w:World):R2 ((w.alloc (.cells #[.int .i64 0] 3)).alloc (.cells #[.bool false] 4)) w.heap.size 0 false:=by
 refine⟨(Boxed.new w _ _).alloc _,?_⟩
 have:=Boxed.new (w.alloc (.cells #[.int .i64 0] 3)) 4 (.bool false)
 rwa [World.size_alloc] at this
theorem fs_none{X:Nat->List Int}{l:Nat}(h:Lad X l)(h0:l=0):fsv X=0/\fsb X=false:=by
 have:tp X=none:=tp_none.2 (h.zero h0)
 unfold fsv fsb
 rw [this]
 exact⟨rfl,rfl⟩
theorem fs_some{X:Nat->List Int}{l:Nat}(h:Lad X l)(h0:l≠0):fsv X=(X l.log2).headD 0/\fsb X=true/\X l.log2≠[]/\l.log2 < 32:=by
 obtain⟨h1,h2,h3⟩:=h.top h0
 unfold fsv fsb
 rw [h1]
 exact⟨rfl,rfl,h2,h3⟩
theorem four_new(w:World)(v2 v3:Value)(t2 t3:TypeId){W:World}(hW:(((w.alloc (.cells #[.int .i64 0] 3)).alloc (.cells #[.bool false] 4)).alloc (.cells #[v2] t2)).alloc (.cells #[v3] t3)=W) :
  R2 W w.heap.size 0 false/\Boxed W (w.heap.size+1+1) t2 v2/\Boxed W (w.heap.size+1+1+1) t3 v3/\Below w.heap.size w W/\W.heap.size=w.heap.size+1+1+1+1:=by
 subst hW
 refine⟨⟨((two_new w).1.alloc _).alloc _,((two_new w).2.alloc _).alloc _⟩,?_,?_,(((((Below.refl _ w).alloc (Nat.le_refl _) _).alloc (by simp) _).alloc (by simp;omega) _).alloc (by simp;omega) _),by simp⟩
 ·have:=(Boxed.new ((w.alloc (.cells #[.int .i64 0] 3)).alloc (.cells #[.bool false] 4)) t2 v2).alloc (.cells #[v3] t3)
  rwa [World.size_alloc,World.size_alloc] at this
 ·have:=Boxed.new (((w.alloc (.cells #[.int .i64 0] 3)).alloc (.cells #[.bool false] 4)).alloc (.cells #[v2] t2)) t3 v3
  rwa [World.size_alloc,World.size_alloc,World.size_alloc] at this
theorem qfirst_any{B s:Nat}{w:World}{p:Nat}{X:Nat->List Int}(h:QS B s w p X) :
  Calls Tryz.prog 106 #[.pointer (some ⟨p,0,none⟩)] w fun e w'=>e=.returned (.tuple #[.int .i64 (fsv X),.bool (fsb X)])/\Below w.heap.size w w':=by
 obtain⟨hp,hg,l,hQ,_,_,_,_⟩:=h
 refine(callsIn_wide (n:=3)).1 ?_
 refine callsIn_of_wp_marks Tryz.func106 rfl trivial ?_ rfl
 simp only [Tryz.ntmps106,List.size_toArray,List.length_cons,List.length_nil,Nat.reduceAdd,Nat.reduceSub,Array.replicate_succ,Array.replicate_zero,List.push_toArray,List.append_toArray,List.nil_append,List.cons_append]
 by_cases h0:l=0
 ·obtain⟨e1,e2⟩:=fs_none hQ.lad h0
  rw [e1,e2]
  subst h0
  have hR:=two_new w
  have hB:Below w.heap.size w ((w.alloc (.cells #[.int .i64 0] 3)).alloc (.cells #[.bool false] 4)):=((Below.refl _ w).alloc (Nat.le_refl _) _).alloc (by simp) _
  have hQ0:=hQ.below hB
  clear hQ e1 e2
  have hp0:=hQ0.row (r:=0) (by omega)
  have hld:=hQ0.ld
  clear hQ0
  gi_wp2_with (refine⟨trivial,?_⟩;first
   |(gi_at_call 110;refine(callsIn_wide.2 (qthere_yes hp0)).mono ?_;rintro e w' ⟨rfl,rfl⟩;generalize (w.alloc (.cells #[.int .i64 0] 3)).alloc (.cells #[.bool false] 4)=W at *;have c1:=hR.1.cell;have c2:=hR.2.cell;have f1:=hR.1.frozen;have f2:=hR.2.frozen)
   |(gi_at_call 146;refine(callsIn_wide.2 (Ld.first_no _)).mono ?_;rintro e w' ⟨rfl,rfl⟩))
  refine⟨_,first_results (hR.put 0 false) _ rfl rfl,rfl,?_⟩
  exact(hB.setCell (p:=⟨w.heap.size,0,none⟩) (by simp) _).setCell (p:=⟨w.heap.size+1,0,none⟩) (by simp) _
 ·obtain⟨e1,e2,hne,hk⟩:=fs_some hQ.lad h0
  rw [e1,e2]
  have hll:=hQ.lad.lt
  have hB:Below w.heap.size w ((w.alloc (.cells #[.int .i64 0] 3)).alloc (.cells #[.bool false] 4)):=((Below.refl _ w).alloc (Nat.le_refl _) _).alloc (by simp) _
  have hp0:=(hQ.below hB).row (r:=0) (by omega)
  have hld:=(hQ.below hB).ld
  have HQ:Hid (Que w p hp hg X l):=hQ
  have hF:=fun W=>Ld.first_yes l hll h0 W
  obtain⟨k,hkk⟩:∃ k,l.log2=k:=⟨_,rfl⟩
  simp only [hkk] at hF hne hk ⊢
  clear hQ e1 e2 hkk hB
  gi_wp2_with (refine⟨trivial,?_⟩;first
   |(gi_at_call 110;refine(callsIn_wide.2 (qthere_yes hp0)).mono ?_;rintro e w' ⟨rfl,rfl⟩)
   |(gi_at_call 146;refine(callsIn_wide.2 (hF _)).mono ?_;rintro e w' ⟨rfl,rfl⟩)
   |(gi_at_call 126;refine(callsIn_wide.2 (those_any _ _ _)).mono ?_;rintro e w' ⟨rfl,rfl⟩))
  obtain⟨W0,hW0⟩:∃ W0,(((w.alloc (.cells #[.int .i64 0] 3)).alloc (.cells #[.bool false] 4)).alloc (.cells #[.pointer (some ⟨p,0,none⟩)] 88)).alloc (.cells #[.int .i64 (k:Int)] 3)=W0:=⟨_,rfl⟩
  obtain⟨hR,bQ,bR,hB0,hS0⟩:=four_new w _ _ _ _ hW0
  simp only [World.size_alloc,hW0]
  have hQ0:=HQ.out.below hB0
  have e:lsX X (k:Int)=X k:=by unfold lsX;rw [if_pos (by omega)];rfl
  clear hW0 HQ hp0 hld hF
  refine wpIn_rangeFunc_ownG rfl (by omega) (gf:=168) (lb:=#[.pointer (some ⟨w.heap.size+1+1,0,none⟩),.pointer (some ⟨w.heap.size+1+1+1,0,none⟩)]) rfl trivial (enters_of Tryz.func168 (by kernel_rfl) rfl)
   (seq_stops _ (by omega) (w.heap.size+1+1) (w.heap.size+1+1+1) w.heap.size p k hp hg X l W0 (by omega) (by omega) bQ.cell bR.cell hQ0 (by omega) _ hR.1.cell rfl) KL.trans (kl_b (by omega)) (Below.refl _ _) (fun _=>rfl)
   (fun pre W=>pre=[]/\R2 W w.heap.size 0 false/\Below w.heap.size w W)
   (fun c pre W=>c=.ret/\∃ x,pre=[x]/\R2 W w.heap.size x true/\Below w.heap.size w W)
   (ownFrom_of fun s W W' hs hk hB=>⟨hs.1,hs.2.1.keep hk,hs.2.2.trans (hB _ (by omega) hs.2.2.size)⟩)
   (fun c=>ownFrom_of fun s W W' hs hk hB=>by
    obtain⟨hc,x,hp,hfb,hb⟩:=hs
    exact⟨hc,x,hp,hfb.keep hk,hb.trans (hB _ (by omega) hb.size)⟩)
   ⟨rfl,hR,hB0⟩
   (fun x=>{ tmps:=#[.pointer (some ⟨p,0,none⟩),undef,.pointer (some ⟨w.heap.size,0,none⟩),.pointer (some ⟨w.heap.size+1,0,none⟩),.int .i64 (k:Int),.bool true,.int .i64 x,.pointer (some ⟨p,0,none⟩),.bool true,.bool false,.tuple #[.int .i64 (k:Int),.bool true],.pointer (some ⟨p,0,none⟩),.pointer (some ⟨p,0,none⟩),.pointer (some ⟨p,32,none⟩),.int .u32 (l:Int),.tuple #[.int .i64 (k:Int),.bool true],.int .i64 (k:Int),.bool true,.bool true,.bool false,.pointer (some ⟨p,0,none⟩),.int .i64 (k:Int),.func (.func 168) #[] #[.pointer (some ⟨w.heap.size+1+1,0,none⟩),.pointer (some ⟨w.heap.size+1+1+1,0,none⟩)],.int .i64 x,undef],defers:=[] }) ?assign ?body ?done ?stop
  case assign =>
   intro l x W K hK
   gi_wp2
   exact hK
  case body =>
   rintro l pre x W ⟨rfl,hR1,hB1⟩ hlt
   have c1:=hR1.1.cell
   have c2:=hR1.2.cell
   have f1:=hR1.1.frozen
   have f2:=hR1.2.frozen
   gi_wp2
   exact⟨((KeepsOthers.setCell _ _ _).trans (KeepsOthers.setCell _ _ _)).from _,rfl,x,rfl,hR1.put x true,(hB1.setCell (p:=⟨w.heap.size,0,none⟩) (by simp) _).setCell (p:=⟨w.heap.size+1,0,none⟩) (by simp) _⟩
  case done =>
   rintro D ys W hD hys ⟨rfl,hR1,hB1⟩ hK
   rw [e] at hys
   exact absurd hys.symm hne
  case stop =>
   rintro D c pre W hD hpre ⟨rfl,x,rfl,hR1,hB1⟩ hK
   rw [e] at hpre
   have hx:(X k).headD 0=x:=by
    obtain⟨ys,hy⟩:=hpre
    rw [←hy];rfl
   have HX:Hid ((X k).headD 0=x):=hx
   clear hx
   gi_wp2
   refine⟨by simp,.inl ⟨_,_,rfl,run_takeDeferred hK,?_⟩⟩
   refine⟨_,first_results (hR1.keep (put_shut hK rfl _)) _ rfl rfl,by rw [HX.out],?_⟩
   exact hB1.trans (belowK_b (w:=w) (Nat.le_refl _) W D _ _ (by omega) hK rfl rfl)
end Go.Proofs.YtbbdndfibjdcfaaGreat.Rd
namespace Go.Proofs.YtbbdndfibjdcfaaGreat.Rd
open Go Go.RowKit Go.Shelf
attribute [local go_sem] Oper.semAt_some
theorem bx{W W':World}{n b:Nat}{t:TypeId}{v:Value}(h:Boxed W b t v)(hb:Below n W W')(hn:b < n):Boxed W' b t v:=(hb.block b hn).trans h
theorem Buts.trans'{l:List Nat}{a b c:World}(h:Buts l a b)(k:Below a.heap.size b c):Buts l a c :=
 ⟨k.os.trans h.os,k.tape.trans h.tape,k.output.trans h.output,Nat.le_trans h.size k.size,fun i hi hg=>(k.block i hi).trans (h.block i hi hg)⟩
def left18(m:Nat)(a:Act):Nat:=match a.tmps.getD 18 undef with | .int _ i=>m - i.toNat | _=>0
def mk1(D:Nat):Deferred:={ target:=.collected D,args:=#[] }
def Marks(t:Nat)(Ds:List Nat)(W:World):Prop:=Ds.Nodup/\∀ D∈Ds,t<=D/\W.heap[D]?=some (.deferred (some []))
theorem leaves_marks{F:Fence}{n:Nat}{P:Program}{fn:Func}{tmps:Array Value}{R:Ending->World->Prop}{t:Nat}:∀ (Ds:List Nat) (W:World),t<=W.heap.size->Marks t Ds W ->
  (∀ W',(∀ (k:Nat) (cs:Array Value) (ty:TypeId) (f:Nat×Nat),W.heap[k]?=some (Obj.cells cs ty f)->W'.heap[k]?=some (Obj.cells cs ty f))->Below t W W'->∃ v,(results fn tmps).run P W'=.ok v W'/\R (.returned v) W') ->
  LeavesInM F n P fn tmps R (Ds.map mk1) .returning W
 | [],W,_,_,h=>h W (fun _ _ _ _ h=>h) (Below.refl _ _)
 | D :: Ds,W,ht,hm,h=>by
  obtain⟨hd,hall⟩:=hm
  obtain⟨h1,h2⟩:=hall D (by simp)
  have hdn:=List.nodup_cons.1 hd
  have hb:Below t W (W.putObj D (.deferred none)):=(Below.refl t W).grown (grownBy_putObj' W D _) ht (fun k e=>by cases e;exact h1)
  refine⟨by simp,.inl ⟨D,_,rfl,run_takeDeferred h2,?_⟩⟩
  refine leaves_marks Ds _ (Nat.le_trans ht hb.size) ⟨hdn.2,fun E hE=>⟨(hall E (by simp [hE])).1,?_⟩⟩ fun W' hk hb'=>h W' (fun k cs ty f hk0=>hk k cs ty f (put_shut h2 rfl _ k cs ty f hk0)) (hb.trans hb')
  rw [World.putObj_heap_other (fun e=>hdn.1 (by rw [←e];exact hE))]
  exact(hall E (by simp [hE])).2
theorem Marks.keep{t:Nat}{Ds:List Nat}{W W':World}(h:Marks t Ds W)(hk:∀ D∈Ds,W'.heap[D]?=W.heap[D]?):Marks t Ds W':=⟨h.1,fun D hD=>⟨(h.2 D hD).1,(hk D hD).trans (h.2 D hD).2⟩⟩
theorem Marks.lt{t:Nat}{Ds:List Nat}{W:World}(h:Marks t Ds W):∀ D∈Ds,D < W.heap.size:=fun D hD=>by
 have:=(h.2 D hD).2
 exact(Array.getElem?_eq_some_iff.1 this).1
theorem rk_not{X:Nat->List Int}{l:Nat}(hl:Lad X l){z:Int}(h:∀ r∈Ld.told l,z ∉ X r.toNat):rkv X z=0/\rkb X z=false:=by
 have:rk X z=none:=rk_none.2 fun r hr hz=>by
  refine h (r:Int) ((hl.told (r:Int)).2 ⟨by omega,by omega,?_⟩) hz
  intro h0
  rw [show((r:Int)).toNat=r from rfl] at h0
  rw [h0] at hz
  simp at hz
 unfold rkv rkb
 rw [this]
 exact⟨rfl,rfl⟩
theorem rk_yes{X:Nat->List Int}(hX:Good X){r:Int}(h0:0<=r)(h1:r<=31){z:Int}(hz:z∈X r.toNat):rkv X z=r/\rkb X z=true:=by
 have:=rk_some hX (r:=r.toNat) (by omega) hz
 unfold rkv rkb
 rw [this]
 exact⟨by simp;omega,rfl⟩
theorem qrank_any{B s:Nat}{w:World}{p:Nat}{X:Nat->List Int}(h:QS B s w p X)(z:Int) :
  Calls Tryz.prog 111 #[.pointer (some ⟨p,0,none⟩),.int .i64 z] w fun e w'=>e=.returned (.tuple #[.int .i64 (rkv X z),.bool (rkb X z)])/\Below w.heap.size w w':=by
 obtain⟨hp,hg,l,hQ,_,_,_,_⟩:=h
 have hlad:=hQ.lad
 have hgood:=hQ.good
 have hll:=hlad.lt
 refine(callsIn_wide (n:=3)).1 ?_
 refine callsIn_of_wp_marks Tryz.func111 rfl trivial ?_ rfl
 simp only [Tryz.ntmps111,List.size_toArray,List.length_cons,List.length_nil,Nat.reduceAdd,Nat.reduceSub,Array.replicate_succ,Array.replicate_zero,List.push_toArray,List.append_toArray,List.nil_append,List.cons_append]
 obtain⟨W0,hW0⟩:∃ W0,((w.alloc (.cells #[.int .i64 z] 3)).alloc (.cells #[.int .i64 0] 3)).alloc (.cells #[.bool false] 4)=W0:=⟨_,rfl⟩
 have bZ:Boxed W0 w.heap.size 3 (.int .i64 z):=by rw [←hW0];exact((Boxed.new w _ _).alloc _).alloc _
 have hR0:R2 W0 (w.heap.size+1) 0 false:=by
  have:=two_new (w.alloc (.cells #[.int .i64 z] 3))
  rwa [World.size_alloc,hW0] at this
 have hB0:Below w.heap.size w W0:=by rw [←hW0];exact(((Below.refl _ w).alloc (Nat.le_refl _) _).alloc (by simp) _).alloc (by simp;omega) _
 have hS0:W0.heap.size=w.heap.size+1+1+1:=by rw [←hW0];simp
 have hQ0:=hQ.below hB0
 have hp0:=hQ0.row (r:=0) (by omega)
 have hld:=hQ0.ld
 have hLL:=Ld.list_any l hll W0
 clear hQ
 gi_wp2_with (refine⟨trivial,?_⟩;first
   |(gi_at_call 110;refine(callsIn_wide.2 (qthere_yes hp0)).mono ?_;rintro e w' ⟨rfl,rfl⟩;clear hW0)
   |(gi_at_call 153;refine(callsIn_wide.2 hLL).mono ?_;rintro e W1 ⟨v,rfl,hown,_,hB1⟩;obtain⟨sp,cap,rfl,hsp,_,_⟩:=own_form hown))
 obtain⟨tl,htl⟩:∃ tl,Ld.told l=tl:=⟨_,rfl⟩
 obtain⟨m,hm⟩:∃ m,tl.length=m:=⟨_,rfl⟩
 rw [htl,hm] at hown hsp
 simp only [htl,hm]
 have hs1:w.heap.size+1+1+1<=W1.heap.size:=by have:=hB1.size;omega
 have hcell:∀ i,i < m->∃ g,sp=some ⟨g,0,none⟩/\g < W1.heap.size/\W1.cell? ⟨g,i,none⟩=some (.int .i64 (tl.getD i 0)):=fun i hi=>by
  obtain⟨g,hg⟩:=hsp (by omega)
  refine⟨g,hg,(hown.lt g (by rw [hg];rfl)).2,?_⟩
  subst hg
  rw [hown.cellAt i (by omega)]
  simp [hm,hi]
 have hmem:∀ i,i < m->0<=tl.getD i 0/\tl.getD i 0<=31:=fun i hi=>by
  have h1:tl.getD i 0∈tl:=getD_mem (by omega)
  have h2:=(hlad.told (tl.getD i 0)).1 (by rw [htl];exact h1)
  exact⟨h2.1,h2.2.1⟩
 have HNO:Hid ((∀ j,j < m->z ∉ X (tl.getD j 0).toNat)->rkv X z=0/\rkb X z=false):=fun hno=>rk_not hlad fun r hr=>by
  rw [htl] at hr
  obtain⟨j,hj,e⟩:=List.getElem_of_mem hr
  have:=hno j (by omega)
  rwa [show tl.getD j 0=r by simp [hj,e]] at this
 have bZ1:=bx bZ hB1 (by omega)
 have hR1:R2 W1 (w.heap.size+1) 0 false:=⟨bx hR0.1 hB1 (by omega),bx hR0.2 hB1 (by omega)⟩
 have hB01:Below w.heap.size w W1:=hB0.trans (hB1.mono hB0.size)
 have hQ1:=hQ0.below hB1
 have hmm:m<=32:=by rw [←hm,←htl,Ld.told_len];exact Ld.ranks_len l
 clear hown hB1 hR0 bZ hB0 hS0 hQ0 hp0 hld hsp htl hm
 refine wpIn_loop (fun a W=>∃ (i:Nat) (u7 u8 u19 u20 u21 u22 u23 u24 u25 u26 u27 u28 u29 u30:Value) (Ds:List Nat),a={ tmps:=#[.pointer (some ⟨p,0,none⟩),.int .i64 z,undef,.pointer (some ⟨w.heap.size,0,none⟩),.pointer (some ⟨w.heap.size+1,0,none⟩),.pointer (some ⟨w.heap.size+1+1,0,none⟩),undef,u7,u8,.pointer (some ⟨p,0,none⟩),.bool true,.bool false,.pointer (some ⟨p,0,none⟩),.pointer (some ⟨p,0,none⟩),.pointer (some ⟨p,32,none⟩),.int .u32 (l:Int),.slice sp m cap,.int .i64 (m:Int),.int .i64 (i:Int),u19,u20,u21,u22,u23,u24,u25,u26,u27,u28,u29,u30],defers:=Ds.map mk1 }/\i<=m/\Below W1.heap.size W1 W/\Marks W1.heap.size Ds W/\∀ j,j < i->z ∉ X (tl.getD j 0).toNat)
  (fun a W=>left18 m a) ?start ?round
 case start=>exact⟨0,_,_,_,_,_,_,_,_,_,_,_,_,_,_,[],rfl,by omega,Below.refl _ _,⟨List.nodup_nil,fun D hD=>by simp at hD⟩,fun j hj=>by omega⟩
 case round =>
  rintro a W ⟨i,u7,u8,u19,u20,u21,u22,u23,u24,u25,u26,u27,u28,u29,u30,Ds,rfl,him,hBW,hMk,hno⟩
  have hR2:R2 W (w.heap.size+1) 0 false:=⟨bx hR1.1 hBW (by omega),bx hR1.2 hBW (by omega)⟩
  by_cases hi:i=m
  ·have hlt:¬ ((i:Int) < m):=by omega
   have c1:=hR2.1.cell
   have c2:=hR2.2.cell
   have f1:=hR2.1.frozen
   have f2:=hR2.2.frozen
   obtain⟨e1,e2⟩:=HNO.out (fun j hj=>hno j (by omega))
   have E:Hid (rkv X z=0/\rkb X z=false):=⟨e1,e2⟩
   clear e1 e2 hno HNO
   gi_wp2
   have hR3:=hR2.put 0 false
   have hsz:=hBW.size
   have hB2:Below w.heap.size w ((W.setCell ⟨w.heap.size+1,0,none⟩ (.int .i64 0)).setCell ⟨w.heap.size+1+1,0,none⟩ (.bool false)):=((hB01.trans (hBW.mono (by omega))).setCell (p:=⟨w.heap.size+1,0,none⟩) (by simp) _).setCell (p:=⟨w.heap.size+1+1,0,none⟩) (by simp;omega) _
   refine leaves_marks (t:=W1.heap.size) Ds _ (by simpa [World.setCell] using hsz) (hMk.keep fun D hD=>?_) fun W' hk hb=>?_
   ·have:=(hMk.2 D hD).1
    rw [Below.heap_setCell _ _ _ _ (by simp;omega),Below.heap_setCell _ _ _ _ (by simp;omega)]
   ·exact⟨_,rank_results (hR3.keep hk) _ rfl rfl,by rw [E.out.1,E.out.2],hB2.trans (hb.mono (by omega))⟩
  ·have hil:i < m:=by omega
   have hlt:(i:Int) < m:=by omega
   obtain⟨g,hsg,hgl,hc⟩:=hcell i hil
   subst hsg
   obtain⟨hr0,hr1⟩:=hmem i hil
   have c0:=(hBW.cell (p:=⟨g,i,none⟩) hgl).trans hc
   obtain⟨r,hr⟩:∃ r,tl.getD i 0=r:=⟨_,rfl⟩
   rw [hr] at hr0 hr1 c0
   have HR:Hid (tl.getD i 0=r):=hr
   have hQW:=hQ1.below hBW
   have bZW:=bx bZ1 hBW (by omega)
   clear hr hc hcell hmem
   gi_wp2_with (refine⟨trivial,?_⟩;gi_at_call 126;refine(callsIn_wide.2 (those_any _ _ _)).mono ?_;rintro e w' ⟨rfl,rfl⟩)
   obtain⟨Wr,hWr⟩:∃ Wr,(((W.alloc (.cells #[.int .i64 r] 3)).alloc (.cells #[.pointer (some ⟨p,0,none⟩)] 88)).alloc (.cells #[.int .i64 r] 3))=Wr:=⟨_,rfl⟩
   have bK:Boxed Wr W.heap.size 3 (.int .i64 r):=by rw [←hWr];exact((Boxed.new W _ _).alloc _).alloc _
   have bQ:Boxed Wr (W.heap.size+1) 88 (.pointer (some ⟨p,0,none⟩)):=by
    have:=(Boxed.new (W.alloc (.cells #[.int .i64 r] 3)) 88 (.pointer (some ⟨p,0,none⟩))).alloc (.cells #[.int .i64 r] 3)
    rw [World.size_alloc,hWr] at this
    exact this
   have bR:Boxed Wr (W.heap.size+1+1) 3 (.int .i64 r):=by
    have:=Boxed.new ((W.alloc (.cells #[.int .i64 r] 3)).alloc (.cells #[.pointer (some ⟨p,0,none⟩)] 88)) 3 (.int .i64 r)
    rw [World.size_alloc,World.size_alloc,hWr] at this
    exact this
   have hBr:Below W.heap.size W Wr:=by rw [←hWr];exact(((Below.refl _ W).alloc (Nat.le_refl _) _).alloc (by simp) _).alloc (by simp;omega) _
   have hSr:Wr.heap.size=W.heap.size+1+1+1:=by rw [←hWr];simp
   simp only [World.size_alloc,hWr]
   have hsz:=hBW.size
   have hQr:=hQW.below hBr
   have bZr:=bx bZW hBr (by omega)
   have hRr:R2 Wr (w.heap.size+1) 0 false:=⟨bx hR2.1 hBr (by omega),bx hR2.2 hBr (by omega)⟩
   have hMr:Marks W1.heap.size Ds Wr:=hMk.keep fun D hD=>hBr.block D (hMk.lt D hD)
   have hB1r:Below W1.heap.size W1 Wr:=hBW.trans (hBr.mono (by omega))
   clear hWr hQW bZW hBr c0 hR2
   refine wpIn_rangeFunc_ownG rfl (by omega) (gf:=168) (lb:=#[.pointer (some ⟨W.heap.size+1,0,none⟩),.pointer (some ⟨W.heap.size+1+1,0,none⟩)]) rfl trivial (enters_of Tryz.func168 (by kernel_rfl) rfl)
    (seq_stops _ (by omega) (W.heap.size+1) (W.heap.size+1+1) w.heap.size p r hp hg X l Wr (by omega) (by omega) bQ.cell bR.cell hQr (by omega) _ bZr.cell rfl) KL.trans (kl_b (by omega)) (Below.refl _ _) (fun _=>rfl)
    (fun pre W=>(∀ x∈pre,x≠z)/\Below Wr.heap.size Wr W)
    (fun c pre W=>c=.ret/\z∈pre/\R2 W (w.heap.size+1) r true/\Buts [w.heap.size+1,w.heap.size+1+1] Wr W)
    (ownFrom_of fun s W W' hs hk hB=>⟨hs.1,hs.2.trans (hB _ (by omega) hs.2.size)⟩)
    (fun c=>ownFrom_of fun s W W' hs hk hB=>⟨hs.1,hs.2.1,hs.2.2.1.keep hk,(hs.2.2.2).trans' (hB _ (Nat.le_refl _) hs.2.2.2.size)⟩)
    ⟨by simp,Below.refl _ _⟩
    (fun x=>{ tmps:=#[.pointer (some ⟨p,0,none⟩),.int .i64 z,undef,.pointer (some ⟨w.heap.size,0,none⟩),.pointer (some ⟨w.heap.size+1,0,none⟩),.pointer (some ⟨w.heap.size+1+1,0,none⟩),undef,.pointer (some ⟨W.heap.size,0,none⟩),.int .i64 x,.pointer (some ⟨p,0,none⟩),.bool true,.bool false,.pointer (some ⟨p,0,none⟩),.pointer (some ⟨p,0,none⟩),.pointer (some ⟨p,32,none⟩),.int .u32 (l:Int),.slice (some ⟨g,0,none⟩) m cap,.int .i64 (m:Int),.int .i64 (i:Int),.bool true,.pointer (some ⟨g,i,none⟩),.int .i64 r,.pointer (some ⟨p,0,none⟩),.int .i64 r,.func (.func 168) #[] #[.pointer (some ⟨W.heap.size+1,0,none⟩),.pointer (some ⟨W.heap.size+1+1,0,none⟩)],.int .i64 x,u26,u27,u28,u29,u30],defers:=[] }) ?assign ?body ?done ?stop
   case assign =>
    intro l x W K hK
    gi_wp2
    exact hK
   case body =>
    rintro lo pre x V ⟨hne,hBV⟩ hlt2
    have hRV:R2 V (w.heap.size+1) 0 false:=⟨bx hRr.1 hBV (by omega),bx hRr.2 hBV (by omega)⟩
    have bZV:=bx bZr hBV (by omega)
    have bKV:=bx bK hBV (by omega)
    have c0:=bZV.cell
    have c3:=bKV.cell
    have c1:=hRV.1.cell
    have c2:=hRV.2.cell
    have f1:=hRV.1.frozen
    have f2:=hRV.2.frozen
    by_cases hxz:x=z
    ·have hxz':(x == z)=true:=by simpa using hxz
     gi_wp2
     refine⟨((KeepsOthers.setCell _ _ _).trans (KeepsOthers.setCell _ _ _)).from _,rfl,by simp [hxz],hRV.put r true,?_⟩
     exact((Buts.of hBV).trans ((Buts.cell V (w.heap.size+1) 0 _).mono (by simp))).trans ((Buts.cell _ (w.heap.size+1+1) 0 _).mono (by simp))
    ·have hxz':(x == z)=false:=by simpa using hxz
     gi_wp2
     exact⟨KeepsFrom.refl _ _,KL.refl _ _,fun y hy=>by
      rcases List.mem_append.1 hy with hy | hy
      ·exact hne y hy
      ·have:y=x:=by simpa using hy
       rw [this];exact hxz,hBV⟩
   case done =>
    rintro D ys V hD rfl ⟨hne,hBV⟩ hK
    have hno2:∀ j,j < i+1->z ∉ X (tl.getD j 0).toNat:=fun j hj hz=>by
     rcases Nat.lt_or_ge j i with h | h
     ·exact hno j h hz
     ·obtain rfl:j=i:=by omega
      rw [HR.out] at hz
      refine hne z ?_ rfl
      unfold lsX
      rw [if_pos ⟨hr0,hr1⟩]
      exact hz
    have hM2:Marks W1.heap.size (D :: Ds) V:=by
     refine⟨List.nodup_cons.2 ⟨fun hD2=>?_,hMr.1⟩,fun E hE=>?_⟩
     ·have:=hMr.lt D hD2;omega
     ·rcases List.mem_cons.1 hE with rfl | hE
      ·exact⟨by omega,hK⟩
      ·exact⟨(hMr.2 E hE).1,(hBV.block E (hMr.lt E hE)).trans (hMr.2 E hE).2⟩
    have HB2:Hid (Below W1.heap.size W1 V):=hB1r.trans (hBV.mono hB1r.size)
    have HM2:Hid (Marks W1.heap.size (D :: Ds) V):=hM2
    have HN2:Hid (∀ j,j < i+1->z ∉ X (tl.getD j 0).toNat):=hno2
    have hwk:IntKind.i64.wrap ((i:Int)+1)=(i:Int)+1:=by rw [IntKind.wrap_i64];omega
    clear hno2 hM2 hno hne hBV hK hMr hMk hB1r bZr hRr bK bQ bR hQr HNO
    gi_wp2
    refine⟨⟨i+1,_,_,_,_,_,_,_,_,_,_,_,_,_,_,D :: Ds,rfl,by omega,HB2.out,HM2.out,HN2.out⟩,?_⟩
    show m - ((i:Int)+1).toNat < m - ((i:Int)).toNat
    omega
   case stop =>
    rintro D c pre V hD hpre ⟨rfl,hz,hRV,hbV⟩ hK
    have hzr:z∈X r.toNat:=by
     have h1:=hpre.subset hz
     unfold lsX at h1
     rw [if_pos ⟨hr0,hr1⟩] at h1
     exact h1
    have E:Hid (rkv X z=r/\rkb X z=true):=rk_yes hgood hr0 hr1 hzr
    have hM2:Marks W1.heap.size (D :: Ds) V:=by
     refine⟨List.nodup_cons.2 ⟨fun hD2=>?_,hMr.1⟩,fun E hE=>?_⟩
     ·have:=hMr.lt D hD2;omega
     ·rcases List.mem_cons.1 hE with rfl | hE
      ·exact⟨by omega,hK⟩
      ·have h1:=(hMr.2 E hE).1
       exact⟨h1,(hbV.block E (hMr.lt E hE) (by simp;omega)).trans (hMr.2 E hE).2⟩
    have hBw:Below w.heap.size w V:=(hB01.trans (hB1r.mono (by omega))).trans (hbV.below (B:=w.heap.size) (by simp;omega) (by omega))
    have hVs:=hbV.size
    clear hzr hno hMr hMk hB1r bZr hRr bK bQ bR hQr HNO hpre hz
    gi_wp2
    refine leaves_marks (t:=W1.heap.size) (D :: Ds) _ (by omega) hM2 fun W' hk hb=>?_
    exact⟨_,rank_results (hRV.keep hk) _ rfl rfl,by rw [E.out.1,E.out.2],hBw.trans (hb.mono (by omega))⟩
end Go.Proofs.YtbbdndfibjdcfaaGreat.Rd
namespace Go.Proofs.YtbbdndfibjdcfaaGreat.Rd
open Go Go.RowKit Go.Shelf
theorem some_yes(z:Int)(w:World)(h:0<=z/\z<=255):Calls Tryz.prog 206 #[.int .i64 z] w fun e w'=>e=.returned (.bool true)/\w=w':=by
 obtain⟨h1,h2⟩:=h
 have h3:z < 256:=by omega
 go_enter Tryz.func206,Tryz.ntmps206
 go_wp2
 all_goals
  go_ret
  refine⟨?_,rfl⟩
  simp
  try omega
theorem some_no(z:Int)(w:World)(h:¬ (0<=z/\z<=255)):Calls Tryz.prog 206 #[.int .i64 z] w fun e w'=>e=.returned (.bool false)/\w=w':=by
 go_enter Tryz.func206,Tryz.ntmps206
 go_wp2
 all_goals
  go_ret
  refine⟨?_,rfl⟩
  simp
  try omega
theorem qmay_any{B s:Nat}{w:World}{p:Nat}{X:Nat->List Int}(h:QS B s w p X)(z r:Int) :
  Calls Tryz.prog 184 #[.pointer (some ⟨p,0,none⟩),.int .i64 z,.int .i64 r] w fun e w'=>e=.returned (.int .i64 (adE X z r))/\Below w.heap.size w w':=by
 have hR:=qrank_any h z
 have hp0:∃ a,w.cell? ⟨p,0,none⟩=some (.pointer (some ⟨a,0,none⟩)):=by
  obtain⟨hp,hg,l,hQ,_⟩:=h
  exact⟨_,hQ.row (r:=0) (by omega)⟩
 obtain⟨a,hp0⟩:=hp0
 by_cases h1:0<=z/\z<=255
 ·by_cases h2:0<=r/\r<=31
  ·have hS:=fun w=>some_yes z w h1
   have hK:=fun w=>isRank_yes r w h2
   cases hb:rkb X z with
   | true =>
    have he:adE X z r=7:=by unfold adE;rw [if_neg (by omega),hb];rfl
    rw [he]
    rw [hb] at hR
    generalize rkv X z=rv at *
    clear h h1 h2 he hb
    go_enter Tryz.func184,Tryz.ntmps184
    go_wp2_with (first
     |(go_at_call 110;refine(qthere_yes hp0).mono ?_;rintro e wx ⟨rfl,rfl⟩)
     |(go_at_call 206;refine(hS _).mono ?_;rintro e wx ⟨rfl,rfl⟩)
     |(go_at_call 169;refine(hK _).mono ?_;rintro e wx ⟨rfl,rfl⟩)
     |(go_at_call 111;refine hR.mono ?_;rintro e wx ⟨rfl,hb⟩))
    go_ret
    exact⟨rfl,hb⟩
   | false =>
    have he:adE X z r=0:=by unfold adE;rw [if_neg (by omega),hb];rfl
    rw [he]
    rw [hb] at hR
    generalize rkv X z=rv at *
    clear h h1 h2 he hb
    go_enter Tryz.func184,Tryz.ntmps184
    go_wp2_with (first
     |(go_at_call 110;refine(qthere_yes hp0).mono ?_;rintro e wx ⟨rfl,rfl⟩)
     |(go_at_call 206;refine(hS _).mono ?_;rintro e wx ⟨rfl,rfl⟩)
     |(go_at_call 169;refine(hK _).mono ?_;rintro e wx ⟨rfl,rfl⟩)
     |(go_at_call 111;refine hR.mono ?_;rintro e wx ⟨rfl,hb⟩))
    go_ret
    exact⟨rfl,hb⟩
  ·have hS:=fun w=>some_yes z w h1
   have hK:=fun w=>isRank_no r w h2
   have he:adE X z r=1:=by unfold adE;rw [if_pos (by omega)]
   rw [he]
   clear h h1 h2 he hR
   go_enter Tryz.func184,Tryz.ntmps184
   go_wp2_with (first
    |(go_at_call 110;refine(qthere_yes hp0).mono ?_;rintro e wx ⟨rfl,rfl⟩)
    |(go_at_call 206;refine(hS _).mono ?_;rintro e wx ⟨rfl,rfl⟩)
    |(go_at_call 169;refine(hK _).mono ?_;rintro e wx ⟨rfl,rfl⟩))
   go_ret
   exact⟨rfl,Below.refl _ _⟩
 ·have hS:=fun w=>some_no z w h1
  have he:adE X z r=1:=by unfold adE;rw [if_pos (by omega)]
  rw [he]
  clear h h1 he hR
  go_enter Tryz.func184,Tryz.ntmps184
  go_wp2_with (first
   |(go_at_call 110;refine(qthere_yes hp0).mono ?_;rintro e wx ⟨rfl,rfl⟩)
   |(go_at_call 206;refine(hS _).mono ?_;rintro e wx ⟨rfl,rfl⟩))
  go_ret
  exact⟨rfl,Below.refl _ _⟩
theorem QS.added{B s:Nat}{w1 w2:World}{p:Nat}{hp hg:Nat->Nat}{X:Nat->List Int}{l:Nat}(hQ:Que w1 p hp hg X l)(hs:s<=w1.heap.size)(h2:B<=p/\p < s)(h4:∀ r,r < 32->B<=hp r/\hp r < s/\B<=hg r/\hg r < s)
  {k:Nat} (hk:k < 32) {xs:List Int} (hR:Ring w2 (hp k) (hg k) 256 xs) (hb:Buts [hp k,hg k] w1 w2) (hgd:Good (up X k xs)) (hne:xs≠[]) :
  QS B s (w2.setCell ⟨p,32,none⟩ (.int .u32 ((Ld.setL l (k:Int):Nat):Int))) p (up X k xs)/\Mid B s w1 (w2.setCell ⟨p,32,none⟩ (.int .u32 ((Ld.setL l (k:Int):Nat):Int))):=by
 have hsz:=hb.size
 refine⟨⟨hp,hg,_,hQ.setRing' hk hR hb hgd _ (hQ.lad.set hk hne),by simp [World.setCell];omega,h2.1,h2.2,h4⟩,?_⟩
 exact(Mid.buts hb (by simp;have:=h4 k hk;omega)).trans (Mid.buts (Buts.cell w2 p 32 _) (by simpa using h2))
theorem qputadd_any{B s:Nat}{w:World}{p:Nat}{X:Nat->List Int}(h:QS B s w p X)(z r:Int) :
  Calls Tryz.prog 151 #[.pointer (some ⟨p,0,none⟩),.int .i64 z,.int .i64 r,.func (.func 152) #[] #[]] w fun e w'=>e=.returned (.int .i64 (adE X z r))/\QS B s w' p (putX X z r)/\Mid B s w w':=by
 have hM:=qmay_any h z r
 have HQ:Hid (QS B s w p X):=h
 by_cases e0:adE X z r=0
 ·obtain⟨z1,z2,r1,r2,hno⟩:=adE_zero e0
  obtain⟨k,rfl⟩:=Int.eq_ofNat_of_zero_le r1
  have hk:k < 32:=by omega
  have hk32:(k:Int) < 32:=by omega
  have HE:Hid (putX X z (k:Int)=up X k (X k ++ [z])):=by show _=_;unfold putX;rw [if_pos e0];rfl
  obtain⟨hp,hg,l,hQ,h1,h2,h3,h4⟩:=h
  have hgd:Good (up X k (X k ++ [z])):=by
   have:=hQ.good.put z (k:Int)
   rwa [HE.out] at this
  have ha:=hQ.good.addE e0
  rw [show((k:Int)).toNat=k from rfl] at ha
  rw [e0] at hM ⊢
  have HA:Hid (∀ w1,Below w.heap.size w w1->Calls Tryz.prog 152 #[.pointer (some ⟨hp k,0,none⟩),.int .i64 z] w1 fun e w'=>e=.returned (.int .i64 0)/\Ring w' (hp k) (hg k) 256 (X k ++ [z])/\Buts [hp k,hg k] w1 w'):=fun w1 hb=>by
   have:=put_any ((hQ.below hb).ring k hk) z
   unfold putL at this
   rw [ha,if_pos rfl] at this
   exact this
  have HC:Hid (∀ w1,Below w.heap.size w w1->w1.cell? ⟨p,k,none⟩=some (.pointer (some ⟨hp k,0,none⟩))/\Que w1 p hp hg X l/\s<=w1.heap.size):=fun w1 hb=>⟨(hQ.below hb).row hk,hQ.below hb,Nat.le_trans h1 hb.size⟩
  have HD:Hid (∀ w1 w2,Que w1 p hp hg X l->Buts [hp k,hg k] w1 w2->w2.cell? ⟨p,32,none⟩=some (.int .u32 (l:Int))/\w2.frozen? ⟨p,32,none⟩=false):=fun w1 w2 hq hb=>by
   have hn:=(hq.ring k hk).nep hq.head
   have hh:w2.heap[p]?=some (.cells (qc hp l).toArray 137 (0,0)):=(hb.block p hq.lt (by simp;exact hn)).trans hq.head
   exact⟨by rw [cell_of hh];simpa using qc_lad hp l,by simp [World.frozen?,hh]⟩
  have hll:=hQ.lad.lt
  have H4:Hid (∀ r,r < 32->B<=hp r/\hp r < s/\B<=hg r/\hg r < s):=h4
  clear hQ ha e0 hno h4
  go_enter Tryz.func151,Tryz.ntmps151
  go_wp2_with (first
   |(go_at_call 184;refine hM.mono ?_;rintro e w1 ⟨rfl,hb1⟩;obtain⟨c1,hQ1,hs1⟩:=HC.out w1 hb1;have HQ1:Hid (Que w1 p hp hg X l/\s<=w1.heap.size):=⟨hQ1,hs1⟩;clear hQ1 hs1)
   |(go_at_call 152;refine(HA.out w1 hb1).mono ?_;rintro e w2 ⟨rfl,hr2,hb2⟩;obtain⟨c2,f2⟩:=HD.out w1 w2 HQ1.out.1 hb2;have HR2:Hid (Ring w2 (hp k) (hg k) 256 (X k ++ [z])/\Buts [hp k,hg k] w1 w2):=⟨hr2,hb2⟩;clear hr2 hb2)
   |(go_at_call 185;refine(Ld.set_any l hll (k:Int) _).mono ?_;rintro e w3 ⟨rfl,rfl⟩))
  go_ret
  rw [HE.out]
  obtain⟨q1,q2⟩:=QS.added HQ1.out.1 HQ1.out.2 ⟨h2,h3⟩ H4.out hk HR2.out.1 HR2.out.2 hgd (by simp)
  exact⟨rfl,q1,(Mid.of hb1).trans q2⟩
 ·have e1:(adE X z r == 0)=false:=by simpa using e0
  have HE:Hid (putX X z r=X):=by show _=_;unfold putX;rw [if_neg e0]
  clear h e0
  generalize adE X z r=v at *
  go_enter Tryz.func151,Tryz.ntmps151
  go_wp2_with (first |(go_at_call 184;refine hM.mono ?_;rintro e w1 ⟨rfl,hb1⟩))
  go_ret
  rw [HE.out]
  exact⟨rfl,HQ.out.below hb1,Mid.of hb1⟩
theorem qput_any{B s:Nat}{w:World}{p:Nat}{X:Nat->List Int}(h:QS B s w p X)(z r:Int) :
  Calls Tryz.prog 109 #[.pointer (some ⟨p,0,none⟩),.int .i64 z,.int .i64 r] w fun e w'=>e=.returned (.int .i64 (adE X z r))/\QS B s w' p (putX X z r)/\Mid B s w w':=by
 have hA:=qputadd_any h z r
 clear h
 generalize adE X z r=v at *
 generalize putX X z r=Y at *
 go_enter Tryz.func109,Tryz.ntmps109
 go_wp2_with (first |(go_at_call 151;refine hA.mono ?_;rintro e w1 ⟨rfl,q1,q2⟩))
 go_ret
 exact⟨rfl,q1,q2⟩
theorem qremove_any{B s:Nat}{w:World}{p:Nat}{X:Nat->List Int}(h:QS B s w p X)(z:Int) :
  Calls Tryz.prog 69 #[.pointer (some ⟨p,0,none⟩),.int .i64 z] w fun e w'=>e=.returned (.int .i64 (rmE X z))/\QS B s w' p (rmX X z)/\Mid B s w w':=by
 have hR:=qrank_any h z
 have HQ:Hid (QS B s w p X):=h
 obtain⟨hp,hg,l,hQ,h1,h2,h3,h4⟩:=h
 have hp0:=hQ.row (r:=0) (by omega)
 cases hrk:rk X z with
 | none =>
  have e1:rmE X z=1:=by unfold rmE rkb;rw [hrk];rfl
  have e2:rmX X z=X:=by unfold rmX;rw [hrk]
  have e3:rkb X z=false:=by unfold rkb;rw [hrk];rfl
  rw [e1,e2]
  rw [e3] at hR
  generalize rkv X z=rv at *
  clear hQ e1 e2 e3 hrk
  go_enter Tryz.func69,Tryz.ntmps69
  go_wp2_with (first
   |(go_at_call 110;refine(qthere_yes hp0).mono ?_;rintro e wx ⟨rfl,rfl⟩)
   |(go_at_call 111;refine hR.mono ?_;rintro e w1 ⟨rfl,hb1⟩))
  go_ret
  exact⟨rfl,HQ.out.below hb1,Mid.of hb1⟩
 | some k =>
  obtain⟨hk,hzk⟩:=rk_at hrk
  have hk32:(k:Int) < 32:=by omega
  have e1:rmE X z=0:=by unfold rmE rkb;rw [hrk];rfl
  have e2:rmX X z=up X k ((X k).erase z):=by unfold rmX;rw [hrk]
  have e3:rkb X z=true:=by unfold rkb;rw [hrk];rfl
  have e4:rkv X z=(k:Int):=by unfold rkv;rw [hrk];rfl
  have hgd:Good (up X k ((X k).erase z)):=by rw [←e2];exact hQ.good.rem z
  have HE:Hid (rmX X z=up X k ((X k).erase z)):=e2
  rw [e1]
  rw [e3,e4] at hR
  have hll:=hQ.lad.lt
  have HA:Hid (∀ w1,Below w.heap.size w w1->w1.cell? ⟨p,k,none⟩=some (.pointer (some ⟨hp k,0,none⟩))/\Calls Tryz.prog 112 #[.pointer (some ⟨hp k,0,none⟩),.int .i64 z] w1 fun e w'=>e=.returned (.int .i64 0)/\Ring w' (hp k) (hg k) 256 ((X k).erase z)/\Buts [hp k,hg k] w1 w'):=fun w1 hb=>by
   refine⟨(hQ.below hb).row hk,?_⟩
   have:=remove_any ((hQ.below hb).ring k hk) z
   rwa [show remE (X k) z=0 by simp [remE,hzk]] at this
  have HB:Hid (∀ w1 w2,Below w.heap.size w w1->Buts [hp k,hg k] w1 w2->w2.cell? ⟨p,k,none⟩=some (.pointer (some ⟨hp k,0,none⟩))/\w2.cell? ⟨p,32,none⟩=some (.int .u32 (l:Int))/\∀ w3,Below w2.heap.size w2 w3->w3.cell? ⟨p,32,none⟩=some (.int .u32 (l:Int))/\w3.frozen? ⟨p,32,none⟩=false):=fun w1 w2 hb1 hb=>by
   have hq:=hQ.below hb1
   have hn:=(hq.ring k hk).nep hq.head
   have hh:w2.heap[p]?=some (.cells (qc hp l).toArray 137 (0,0)):=(hb.block p hq.lt (by simp;exact hn)).trans hq.head
   refine⟨by rw [cell_of hh];simpa using qc_row hp l hk,by rw [cell_of hh];simpa using qc_lad hp l,fun w3 hb3=>?_⟩
   have hh3:=(hb3.block p (at_lt hh)).trans hh
   exact⟨by rw [cell_of hh3];simpa using qc_lad hp l,by simp [World.frozen?,hh3]⟩
  have HZ:Hid (Que w p hp hg X l):=hQ
  have H4:Hid (∀ r,r < 32->B<=hp r/\hp r < s/\B<=hg r/\hg r < s):=h4
  have HLen:Hid ((X k).erase z=[]↔((X k).erase z).length=0):=List.length_eq_zero_iff.symm
  have HNE:Hid (X k≠[]):=by rintro e;rw [e] at hzk;simp at hzk
  clear hQ e1 e2 e3 e4 h4 hrk hzk
  obtain⟨ys,hys⟩:∃ ys,(X k).erase z=ys:=⟨_,rfl⟩
  rw [hys] at HA HE HLen hgd
  have HY:Hid ((X k).erase z=ys):=hys
  clear hys
  obtain⟨m,hm⟩:∃ m,ys.length=m:=⟨_,rfl⟩
  have HM:Hid (ys.length=m):=hm
  have HL:Hid (∀ w2,Ring w2 (hp k) (hg k) 256 ys->Calls Tryz.prog 113 #[.pointer (some ⟨hp k,0,none⟩)] w2 fun e w'=>e=.returned (.slice (some ⟨w2.heap.size,0,none⟩) m m)/\Row w' w2.heap.size ys/\Below w2.heap.size w2 w'):=fun w2 h2=>by rw [←hm];exact list_any h2
  clear hm
  by_cases hm0:m=0
  ·subst hm0
   go_enter Tryz.func69,Tryz.ntmps69
   go_wp2_with (first
    |(go_at_call 110;refine(qthere_yes hp0).mono ?_;rintro e wx ⟨rfl,rfl⟩)
    |(go_at_call 111;refine hR.mono ?_;rintro e w1 ⟨rfl,hb1⟩;obtain⟨c1,hC1⟩:=HA.out w1 hb1;have HC1:Hid (Calls Tryz.prog 112 #[.pointer (some ⟨hp k,0,none⟩),.int .i64 z] w1 fun e w'=>e=.returned (.int .i64 0)/\Ring w' (hp k) (hg k) 256 ys/\Buts [hp k,hg k] w1 w'):=hC1;clear hC1)
    |(go_at_call 112;refine HC1.out.mono ?_;rintro e w2 ⟨rfl,hr2,hb2⟩;obtain⟨c2,c3,hC3⟩:=HB.out w1 w2 hb1 hb2;have HC3:Hid (∀ w3,Below w2.heap.size w2 w3->w3.cell? ⟨p,32,none⟩=some (.int .u32 (l:Int))/\w3.frozen? ⟨p,32,none⟩=false):=hC3;have HR2:Hid (Ring w2 (hp k) (hg k) 256 ys/\Buts [hp k,hg k] w1 w2):=⟨hr2,hb2⟩;clear hr2 hb2 hC3)
    |(go_at_call 113;refine(HL.out w2 HR2.out.1).mono ?_;rintro e w3 ⟨rfl,_,hb3⟩;obtain⟨c4,f4⟩:=HC3.out w3 hb3)
    |(go_at_call 114;refine(Ld.clear_any l hll (k:Int) _).mono ?_;rintro e w4 ⟨rfl,rfl⟩))
   go_ret
   rw [HE.out]
   obtain rfl:ys=[]:=List.length_eq_zero_iff.1 HM.out
   have hQ1:=HZ.out.below hb1
   have hs1:=hb1.size
   have hs2:=HR2.out.2.size
   have hs3:=hb3.size
   have hb13:Buts [hp k,hg k] w1 w4:=HR2.out.2.trans (Buts.of hb3)
   refine⟨rfl,⟨hp,hg,_,hQ1.setRing' hk (HR2.out.1.below hb3) hb13 hgd _ (hQ1.lad.clear hk),by simp [World.setCell];omega,h2,h3,H4.out⟩,(Mid.of hb1).trans ((Mid.buts hb13 (by simp;have:=H4.out k hk;omega)).trans (Mid.buts (Buts.cell w4 p 32 _) (by simpa using ⟨h2,h3⟩)))⟩
  ·have hm1:((m:Int) == 0)=false:=by simpa using hm0
   have hm2:(m == 0)=false:=by simpa using hm0
   go_enter Tryz.func69,Tryz.ntmps69
   go_wp2_with (first
    |(go_at_call 110;refine(qthere_yes hp0).mono ?_;rintro e wx ⟨rfl,rfl⟩)
    |(go_at_call 111;refine hR.mono ?_;rintro e w1 ⟨rfl,hb1⟩;obtain⟨c1,hC1⟩:=HA.out w1 hb1;have HC1:Hid (Calls Tryz.prog 112 #[.pointer (some ⟨hp k,0,none⟩),.int .i64 z] w1 fun e w'=>e=.returned (.int .i64 0)/\Ring w' (hp k) (hg k) 256 ys/\Buts [hp k,hg k] w1 w'):=hC1;clear hC1)
    |(go_at_call 112;refine HC1.out.mono ?_;rintro e w2 ⟨rfl,hr2,hb2⟩;obtain⟨c2,c3,hC3⟩:=HB.out w1 w2 hb1 hb2;have HC3:Hid (∀ w3,Below w2.heap.size w2 w3->w3.cell? ⟨p,32,none⟩=some (.int .u32 (l:Int))/\w3.frozen? ⟨p,32,none⟩=false):=hC3;have HR2:Hid (Ring w2 (hp k) (hg k) 256 ys/\Buts [hp k,hg k] w1 w2):=⟨hr2,hb2⟩;clear hr2 hb2 hC3)
    |(go_at_call 113;refine(HL.out w2 HR2.out.1).mono ?_;rintro e w3 ⟨rfl,_,hb3⟩))
   go_ret
   rw [HE.out]
   have hne:ys≠[]:=by rintro rfl;exact hm0 HM.out.symm
   have hQ1:=HZ.out.below hb1
   have hs1:=hb1.size
   have hs2:=HR2.out.2.size
   have hs3:=hb3.size
   have hb13:Buts [hp k,hg k] w1 w3:=HR2.out.2.trans (Buts.of hb3)
   refine⟨rfl,⟨hp,hg,l,hQ1.setRing (l':=l) hk (HR2.out.1.below hb3) hb13 (hQ1.lad.same ⟨fun e=>absurd e hne,fun e=>absurd e HNE.out⟩) hgd,by omega,h2,h3,H4.out⟩,(Mid.of hb1).trans (Mid.buts hb13 (by simp;have:=H4.out k hk;omega))⟩
def qk(p k:Nat):List Value:=(List.range 32).map (fun r=>if r < k then Value.pointer (some ⟨p+2+2 * r,0,none⟩) else .pointer none) ++ [.int .u32 0]
theorem qk_set(p:Nat){k:Nat}(hk:k < 32):(qk p k).set k (.pointer (some ⟨p+2+2 * k,0,none⟩))=qk p (k+1):=by
 apply List.ext_getElem?
 intro i
 rw [List.getElem?_set]
 unfold qk
 by_cases h:k=i
 ·subst h
  rw [if_pos rfl,if_pos (by simp;omega),List.getElem?_append_left (by simpa using hk)]
  simp [hk]
 ·rw [if_neg h]
  by_cases h32:i < 32
  ·rw [List.getElem?_append_left (by simpa using h32),List.getElem?_append_left (by simpa using h32)]
   simp only [List.getElem?_map,List.getElem?_range h32,Option.map_some]
   congr 1
   by_cases hik:i < k
   ·rw [if_pos hik,if_pos (by omega)]
   ·rw [if_neg hik,if_neg (by omega)]
  ·rw [List.getElem?_append_right (by simp;omega),List.getElem?_append_right (by simp;omega)]
   simp
theorem qk_all(p:Nat):qk p 32=qc (fun r=>p+2+2 * r) 0:=by
 have:(List.range 32).map (fun r=>if r < 32 then Value.pointer (some ⟨p+2+2 * r,0,none⟩) else .pointer none)=(List.range 32).map (fun r=>Value.pointer (some ⟨p+2+2 * r,0,none⟩)):=by
  apply List.map_congr_left
  intro r hr
  rw [if_pos (by simpa using hr)]
 unfold qk qc
 rw [this]
 rfl
theorem qk_free{w:World}{p k:Nat}(h:w.heap[p]?=some (.cells (qk p k).toArray 137 (0,0)))(i:Nat):w.frozen? ⟨p,i,none⟩=false:=by simp [World.frozen?,h]
theorem qk_cell{w:World}{p k:Nat}(h:w.heap[p]?=some (.cells (qk p k).toArray 137 (0,0)))(hk:k < 32):w.cell? ⟨p,k,none⟩=some (.pointer none):=by
 rw [cell_of h]
 unfold qk
 rw [List.getElem?_toArray,List.getElem?_append_left (by simpa using hk)]
 simp [hk]
theorem qk_next{w:World}{p k:Nat}(h:w.heap[p]?=some (.cells (qk p k).toArray 137 (0,0)))(hk:k < 32):(w.setCell ⟨p,k,none⟩ (.pointer (some ⟨p+2+2 * k,0,none⟩))).heap[p]?=some (.cells (qk p (k+1)).toArray 137 (0,0)):=by
 have hlt:=at_lt h
 have h2:=(Array.getElem?_eq_some_iff.1 h).2
 unfold World.setCell
 rw [Array.getElem?_eq_getElem (by simpa using hlt),Array.getElem_modify]
 simp [h2,qk_set p hk]
theorem new_two{w:World}(n:Nat)(h1:1<=n)(hn:n<=1024) :
  Calls Tryz.prog 71 #[.int .i64 n] w fun e w'=>e=.returned (.tuple #[.pointer (some ⟨w.heap.size+1,0,none⟩),.int .i64 0])/\Ring w' (w.heap.size+1) w.heap.size n []/\Below w.heap.size w w'/\w'.heap.size=w.heap.size+2:=by
 have a1:¬ (n:Int) < 1:=by omega
 have a2:¬ (1024:Int) < n:=by omega
 have hmk:=make_row w n n (Nat.le_refl _) (by omega)
 have HA:Hid (Row (w.alloc (.cells (num (List.replicate n 0)).toArray 3)) w.heap.size (List.replicate n 0)):=alloc_at w _
 have HB:Hid (Below w.heap.size w (w.alloc (.cells (num (List.replicate n 0)).toArray 3))):=alloc_below w _
 have hsz:=alloc_size w (.cells (num (List.replicate n 0)).toArray 3)
 go_enter Tryz.func71,Tryz.ntmps71
 go_wp2
 go_ret2
 generalize w.alloc (.cells (num (List.replicate n 0)).toArray 3)=w0 at *
 refine⟨by simp,⟨⟨0,_,by omega,⟨?_,((HA.out).below (alloc_below w0 _)),by simp⟩,Holds.nil _ _ _⟩,h1,hn,by simp⟩,HB.out.trans ((alloc_below w0 _).mono HB.out.size),by rw [alloc_size,hsz]⟩
 rw [←hsz]
 exact alloc_at w0 _
theorem qnew_any(w:World):Calls Tryz.prog 29 #[] w fun e w'=>e=.returned (.pointer (some ⟨w.heap.size,0,none⟩))/\QS w.heap.size w'.heap.size w' w.heap.size (fun _=>[])/\Below w.heap.size w w':=by
 obtain⟨p,hp⟩:∃ p,w.heap.size=p:=⟨_,rfl⟩
 have hz:(#[.pointer none,.pointer none,.pointer none,.pointer none,.pointer none,.pointer none,.pointer none,.pointer none,.pointer none,.pointer none,.pointer none,.pointer none,.pointer none,.pointer none,.pointer none,.pointer none,.pointer none,.pointer none,.pointer none,.pointer none,.pointer none,.pointer none,.pointer none,.pointer none,.pointer none,.pointer none,.pointer none,.pointer none,.pointer none,.pointer none,.pointer none,.pointer none,.int .u32 0]:Array Value)=(qk p 0).toArray:=by rfl
 have hW0:(w.alloc (.cells (qk p 0).toArray 137)).heap[p]?=some (.cells (qk p 0).toArray 137 (0,0)):=by rw [←hp];exact alloc_at w _
 have hS0:(w.alloc (.cells (qk p 0).toArray 137)).heap.size=p+1:=by rw [alloc_size,hp]
 have hB0:Below p w (w.alloc (.cells (qk p 0).toArray 137)):=by rw [←hp];exact alloc_below w _
 have HW:Hid ((w.alloc (.cells (qk p 0).toArray 137)).heap[p]?=some (.cells (qk p 0).toArray 137 (0,0))/\(w.alloc (.cells (qk p 0).toArray 137)).heap.size=p+1/\Below p w (w.alloc (.cells (qk p 0).toArray 137))):=⟨hW0,hS0,hB0⟩
 clear hW0 hS0 hB0
 rw [hp]
 go_enter Tryz.func29,Tryz.ntmps29
 go_wp2
 obtain⟨hW0,hS0,hB0⟩:=HW.out
 clear hz HW hp
 generalize w.alloc (.cells (qk p 0).toArray 137)=W0 at *
 go_loopg [5] 32 (fun q s5 wx=>∃ k:Nat,k+q=32/\s5=.int .i64 (k:Int)/\Hid (wx.heap[p]?=some (.cells (qk p k).toArray 137 (0,0)))/\Hid (wx.heap.size=p+1+2 * k)/\Hid (∀ r,r < k->Ring wx (p+2+2 * r) (p+1+2 * r) 256 [])/\Below p w wx)
 case atStart=>exact⟨0,by omega,rfl,hW0,hS0,fun r hr=>by omega,hB0⟩
 case round =>
  clear hW0 hS0 hB0
  obtain⟨k,hkq,rfl,HH,HS,HRi,hB⟩:=hrel
  cases gk with
  | zero =>
   obtain rfl:k=32:=by omega
   have hlt:¬ (((32:Nat):Int) < 32):=by omega
   go_wp2
   go_ret
   refine⟨rfl,⟨fun r=>p+2+2 * r,fun r=>p+1+2 * r,0,⟨by rw [←qk_all];exact HH.out,fun r hr=>HRi.out r hr,fun r s _ _ e=>by omega,fun r s _ _ e=>by omega,fun r s _ _ e=>by omega,Lad.nil,Good.nil⟩,Nat.le_refl _,Nat.le_refl _,by rw [HS.out];omega,fun r hr=>by rw [HS.out];dsimp only;omega⟩,hB⟩
  | succ q =>
   have hlt:(k:Int) < 32:=by omega
   have hk:k < 32:=by omega
   have hC:=new_two (w:=wr.drew) 256 (by decide) (by decide)
   have hsd:wr.drew.heap.size=p+1+2 * k:=HS.out
   rw [hsd] at hC
   have HC2:Hid (∀ w2,Below (p+1+2 * k) wr.drew w2->w2.frozen? ⟨p,k,none⟩=false/\w2.cell? ⟨p,k,none⟩=some (.pointer none)):=fun w2 hb=>by
    have h1:=(hb.block p (by omega)).trans HH.out
    exact⟨qk_free h1 k,qk_cell h1 hk⟩
   have hwk:IntKind.i64.wrap ((k:Int)+1)=(k:Int)+1:=by rw [IntKind.wrap_i64];omega
   go_wp2
   go_region_with (go_at_call 71;refine hC.mono ?_;rintro e w2 ⟨rfl,hr2,hb2,hs2⟩;obtain⟨f2,c2⟩:=HC2.out w2 hb2;have HR2:Hid (Ring w2 (p+1+2 * k+1) (p+1+2 * k) 256 []/\w2.heap.size=p+1+2 * k+2/\Below (p+1+2 * k) wr.drew w2):=⟨hr2,hs2,hb2⟩;clear hr2 hs2 hb2)
   all_goals
    obtain⟨hr2,hs2,hb2⟩:=HR2.out
    have hh2:=(hb2.block p (by omega)).trans HH.out
    have hbr:Below (p+1+2 * k) wr w2:=((Below.refl _ wr).drew).trans hb2
    have ep:p+1+2 * k+1=p+2+2 * k:=by omega
    have hold:∀ r,r < k->Ring w2 (p+2+2 * r) (p+1+2 * r) 256 []:=fun r hr=>(HRi.out r hr).below (by rw [HS.out];exact hbr)
    have H3:Hid (Hid ((w2.setCell ⟨p,k,none⟩ (.pointer (some ⟨p+1+2 * k+1,0,none⟩))).heap[p]?=some (.cells (qk p (k+1)).toArray 137 (0,0)))/\Hid ((w2.setCell ⟨p,k,none⟩ (.pointer (some ⟨p+1+2 * k+1,0,none⟩))).heap.size=p+1+2 * (k+1))/\Hid (∀ r,r < k+1->Ring (w2.setCell ⟨p,k,none⟩ (.pointer (some ⟨p+1+2 * k+1,0,none⟩))) (p+2+2 * r) (p+1+2 * r) 256 [])/\Below p w (w2.setCell ⟨p,k,none⟩ (.pointer (some ⟨p+1+2 * k+1,0,none⟩)))):=by
     refine⟨?_,?_,fun r hr=>?_,?_⟩
     ·rw [ep];exact qk_next hh2 hk
     ·show _=_;simp [World.setCell];omega
     ·refine Ring.buts (l:=[p]) (w:=w2) ?_ (Buts.cell w2 p k _) (by simp;omega) (by simp;omega)
      rcases Nat.lt_or_ge r k with h | h
      ·exact hold r h
      ·obtain rfl:r=k:=by omega
       rw [←ep];exact hr2
     ·exact(hB.trans (hbr.mono (by omega))).setCell (p:=⟨p,k,none⟩) (Nat.le_refl _) _
    clear hh2 hold hr2 hs2 hb2 hbr ep HR2
    generalize w2.setCell ⟨p,k,none⟩ (.pointer (some ⟨p+1+2 * k+1,0,none⟩))=w3 at *
    go_wp2
    go_roundg q
    case measure=>omega
    case rel=>exact⟨k+1,by omega,by go_num,H3.out.1,H3.out.2.1,H3.out.2.2.1,H3.out.2.2.2⟩
end Go.Proofs.YtbbdndfibjdcfaaGreat.Rd
