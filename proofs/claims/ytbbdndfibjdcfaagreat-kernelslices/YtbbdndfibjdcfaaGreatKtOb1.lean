/- Package kernel, proved: part KtOb1. No law of the program itself. -/
import Derived.Test.YtbbdndfibjdcfaaGreatRows
import Derived.WalkKit
import Derived.ProofKit
import Derived.OpenShut
import Derived.Laws.CopyOwn
import Derived.Laws.MakeOwn
import Derived.Laws.OwnMore
import Derived.Deep.RegionLaw
import Derived.Deep.QuietTactic
import Derived.BigQuiet
import Derived.Deep.CutRange
import Derived.Deep.RegionWith
import Derived.Deep.RegionHeld3
import Derived.Deep.CutBlock
import Derived.Laws.Rows
import Derived.Laws.EntriesVeiled
import Derived.Laws.BitsAllLaws
import Derived.Laws.MathBits
import Derived.Laws.ShiftsVarLaws
import Derived.Handy
import Derived.Stop.Asserts
import Derived.Carry
import Derived.Test.YtbbdndfibjdcfaaGreatKtA1
set_option maxRecDepth 100000
set_option linter.all false
set_option maxHeartbeats 16000000
namespace Go.Proofs.YtbbdndfibjdcfaaGreat.Ob
open Go Go.RowKit
theorem sl_zero{n f:Nat}(hf:f < n):sl n f 0=f:=by unfold sl;split <;> omega
theorem sl_back{n f i:Nat}(hf:f < n)(hi:i < n):sl n (sl n f (n - 1)) (i+1)=sl n f i:=by
 unfold sl
 split <;> split <;> split <;> omega
theorem sl_on{n f i:Nat}(hf:f < n)(hi:i < n):sl n (sl n f 1) i=sl n f (i+1):=by
 unfold sl
 split <;> split <;> split <;> omega
def Holds(n f:Nat)(ys xs:List Int):Prop:=∀ i,i < xs.length->ys.getD (sl n f i) 0=xs.getD i 0
theorem Holds.nil(n f:Nat)(ys:List Int):Holds n f ys []:=fun i hi=>by simp at hi
theorem Holds.addLast{n f:Nat}{ys xs:List Int}(h:Holds n f ys xs)(hy:ys.length=n)(hf:f < n)(hx:xs.length < n)(z:Int):Holds n f (ys.set (sl n f xs.length) z) (xs ++ [z]):=by
 intro i hi
 have hi':i<=xs.length:=by simp at hi;omega
 rw [getD_set (by rw [hy];exact sl_lt hf (by omega)),getD_app]
 by_cases e:i=xs.length
 ·subst e;simp
 ·rw [if_neg (fun k=>e (sl_inj hf (by omega) hx k)),if_pos (by omega)]
  exact h i (by omega)
theorem Holds.addFirst{n f:Nat}{ys xs:List Int}(h:Holds n f ys xs)(hy:ys.length=n)(hf:f < n)(hx:xs.length < n)(z:Int):Holds n (sl n f (n - 1)) (ys.set (sl n f (n - 1)) z) (z :: xs):=by
 intro i hi
 have hl:sl n f (n - 1) < n:=sl_lt hf (by omega)
 rw [getD_set (by omega)]
 rcases i with _ | i
 ·rw [sl_zero hl,if_pos rfl];rfl
 ·have hi':i < xs.length:=by simpa using hi
  rw [sl_back hf (by omega),if_neg (fun k=>by have:=sl_inj hf (by omega) (by omega) k;omega)]
  simpa using h i hi'
theorem Holds.first{n f:Nat}{ys xs:List Int}{x:Int}(h:Holds n f ys (x :: xs))(hf:f < n):ys.getD f 0=x:=by
 have:=h 0 (by simp)
 rwa [sl_zero hf] at this
theorem Holds.take{n f:Nat}{ys xs:List Int}{x:Int}(h:Holds n f ys (x :: xs))(hf:f < n)(hx:xs.length < n):Holds n (sl n f 1) ys xs:=by
 intro i hi
 rw [sl_on hf (by omega),h (i+1) (by simpa using hi)]
 simp
def addE(xs:List Int)(n:Nat):Int:=if xs.length=n then 10 else 0
def putL(xs:List Int)(n:Nat)(z:Int):List Int:=if xs.length=n then xs else xs ++ [z]
def pushL(xs:List Int)(n:Nat)(z:Int):List Int:=if xs.length=n then xs else z :: xs
def takeE(xs:List Int):Int:=if xs.length=0 then 11 else 0
theorem addE_full{xs:List Int}{n:Nat}(h:xs.length=n):addE xs n=10:=by simp [addE,h]
theorem addE_ok{xs:List Int}{n:Nat}(h:xs.length≠n):addE xs n=0:=by simp [addE,h]
theorem putL_full{xs:List Int}{n:Nat}{z:Int}(h:xs.length=n):putL xs n z=xs:=by simp [putL,h]
theorem putL_ok{xs:List Int}{n:Nat}{z:Int}(h:xs.length≠n):putL xs n z=xs ++ [z]:=by simp [putL,h]
theorem pushL_full{xs:List Int}{n:Nat}{z:Int}(h:xs.length=n):pushL xs n z=xs:=by simp [pushL,h]
theorem pushL_ok{xs:List Int}{n:Nat}{z:Int}(h:xs.length≠n):pushL xs n z=z :: xs:=by simp [pushL,h]
theorem takeE_nil:takeE []=11:=rfl
theorem takeE_cons(x:Int)(xs:List Int):takeE (x :: xs)=0:=by simp [takeE]
structure Buts (l:List Nat) (w w':World):Prop where
 os:w'.os=w.os
 tape:w'.tape=w.tape
 output:w'.output=w.output
 size:w.heap.size<=w'.heap.size
 block:∀ k,k < w.heap.size->k ∉ l->w'.heap[k]?=w.heap[k]?
theorem Buts.refl(l:List Nat)(w:World):Buts l w w:=⟨rfl,rfl,rfl,Nat.le_refl _,fun _ _ _=>rfl⟩
theorem Buts.trans{l:List Nat}{a b c:World}(h:Buts l a b)(k:Buts l b c):Buts l a c :=
 ⟨k.os.trans h.os,k.tape.trans h.tape,k.output.trans h.output,Nat.le_trans h.size k.size,fun i hi hg=>(k.block i (Nat.lt_of_lt_of_le hi h.size) hg).trans (h.block i hi hg)⟩
theorem Buts.mono{l m:List Nat}{a b:World}(h:Buts l a b)(hm:∀ x∈l,x∈m):Buts m a b :=
 ⟨h.os,h.tape,h.output,h.size,fun i hi hg=>h.block i hi fun e=>hg (hm i e)⟩
theorem Buts.of{l:List Nat}{w w':World}(h:Below w.heap.size w w'):Buts l w w':=⟨h.os,h.tape,h.output,h.size,fun k hk _=>h.block k hk⟩
theorem Buts.below{l:List Nat}{B:Nat}{w w':World}(h:Buts l w w')(hg:∀ x∈l,B<=x)(hB:B<=w.heap.size):Below B w w' :=
 ⟨h.os,h.tape,h.output,h.size,fun k hk=>h.block k (by omega) (fun e=>by have:=hg k e;omega)⟩
theorem Buts.drew{l:List Nat}{a b:World}(h:Buts l a b):Buts l a b.drew:=⟨h.os,h.tape,h.output,h.size,h.block⟩
theorem Buts.cell(w:World)(g k:Nat)(v:Value):Buts [g] w (w.setCell ⟨g,k,none⟩ v) :=
 ⟨rfl,rfl,rfl,by simp [World.setCell],fun j hj hg=>Below.heap_setCell _ _ _ _ (by simpa using hg)⟩
theorem owns_buts{w w':World}{B:Nat}{e:TypeId}{s:Nat}{v:Value}{n:Nat}{xs:List Value}{l:List Nat}(h:w.ownsRow B e s v n xs)(hb:Buts l w w')(hl:∀ g,v.ownBlock=some g->g ∉ l):w'.ownsRow B e s v n xs :=
 owns_of h fun g hg=>hb.block g (h.lt g hg).2 (hl g hg)
theorem wrd_len(zs:List Int):(wrd zs).length=zs.length:=by simp [wrd]
def Row(w:World)(g:Nat)(zs:List Int):Prop:=w.heap[g]?=some (.cells (wrd zs).toArray 22 (0,0))
theorem Row.lt{w:World}{g:Nat}{zs:List Int}(h:Row w g zs):g < w.heap.size:=at_lt h
theorem Row.cell{w:World}{g:Nat}{zs:List Int}(h:Row w g zs)(i:Nat)(hi:i < zs.length):w.cell? ⟨g,i,none⟩=some (.int .u32 (zs.getD i 0)):=by
 rw [cell_of h]
 simpa using wrd_at zs i hi
theorem Row.free{w:World}{g:Nat}{zs:List Int}(h:Row w g zs)(i:Nat):w.frozen? ⟨g,i,none⟩=false:=by unfold Row at h;simp [World.frozen?,h]
theorem Row.set{w:World}{g:Nat}{zs:List Int}(h:Row w g zs)(k:Nat)(v:Int):Row (w.setCell ⟨g,k,none⟩ (.int .u32 v)) g (zs.set k v):=by
 have hl:=h.lt
 have hv:w.heap[g]=.cells (wrd zs).toArray 22 (0,0):=(Array.getElem?_eq_some_iff.1 h).2
 unfold Row World.setCell
 rw [Array.getElem?_eq_getElem (by simpa using hl),Array.getElem_modify]
 simp [hv,wrd]
def qc(ys:List Int)(f m n:Int):List Value:=wrd ys ++ [.int .i64 f,.int .i64 m,.int .i64 n]
theorem qc_at{ys:List Int}(hy:ys.length=64)(f m n:Int){i:Nat}(hi:i < 64):(qc ys f m n)[i]?=some (.int .u32 (ys.getD i 0)):=by
 unfold qc
 rw [List.getElem?_append_left (by rw [wrd_len];omega)]
 exact wrd_at ys i (by omega)
theorem qc_far{ys:List Int}(hy:ys.length=64)(f m n:Int)(j:Nat):(qc ys f m n)[64+j]?=([.int .i64 f,.int .i64 m,.int .i64 n]:List Value)[j]?:=by
 unfold qc
 rw [List.getElem?_append_right (by rw [wrd_len];omega),wrd_len,hy,Nat.add_sub_cancel_left]
theorem qc_set{ys:List Int}(hy:ys.length=64)(f m n:Int){i:Nat}(hi:i < 64)(z:Int):(qc ys f m n).set i (.int .u32 z)=qc (ys.set i z) f m n:=by
 unfold qc
 rw [List.set_append_left _ _ (by rw [wrd_len];omega)]
 simp [wrd,List.map_set]
theorem qc_put{ys:List Int}(hy:ys.length=64)(f m n:Int)(j:Nat)(v:Value):(qc ys f m n).set (64+j) v=wrd ys ++ ([.int .i64 f,.int .i64 m,.int .i64 n]:List Value).set j v:=by
 unfold qc
 rw [List.set_append_right _ _ (by rw [wrd_len];omega),wrd_len,hy,Nat.add_sub_cancel_left]
structure Raw (w:World) (p n f m:Nat) (ys:List Int):Prop where
 head:w.heap[p]?=some (.cells (qc ys f m n).toArray 291 (0,0))
 len:ys.length=64
theorem Raw.slot{w:World}{p n f m:Nat}{ys:List Int}(h:Raw w p n f m ys){i:Nat}(hi:i < 64):w.cell? ⟨p,i,none⟩=some (.int .u32 (ys.getD i 0)):=by
 rw [cell_of h.head];simpa using qc_at h.len f m n hi
theorem Raw.c1{w:World}{p n f m:Nat}{ys:List Int}(h:Raw w p n f m ys):w.cell? ⟨p,64,none⟩=some (.int .i64 f):=by
 rw [cell_of h.head];simpa using qc_far h.len f m n 0
theorem Raw.c2{w:World}{p n f m:Nat}{ys:List Int}(h:Raw w p n f m ys):w.cell? ⟨p,65,none⟩=some (.int .i64 m):=by
 rw [cell_of h.head];simpa using qc_far h.len f m n 1
theorem Raw.c3{w:World}{p n f m:Nat}{ys:List Int}(h:Raw w p n f m ys):w.cell? ⟨p,66,none⟩=some (.int .i64 n):=by
 rw [cell_of h.head];simpa using qc_far h.len f m n 2
theorem Raw.fp{w:World}{p n f m:Nat}{ys:List Int}(h:Raw w p n f m ys)(i:Nat):w.frozen? ⟨p,i,none⟩=false:=by simp [World.frozen?,h.head]
theorem Raw.lt{w:World}{p n f m:Nat}{ys:List Int}(h:Raw w p n f m ys):p < w.heap.size:=at_lt h.head
theorem Raw.setSlot{w:World}{p n f m:Nat}{ys:List Int}(h:Raw w p n f m ys){i:Nat}(hi:i < 64)(z:Int):Raw (w.setCell ⟨p,i,none⟩ (.int .u32 z)) p n f m (ys.set i z):=by
 refine⟨?_,by rw [List.length_set];exact h.len⟩
 rw [set_block h.head,List.setIfInBounds_toArray,qc_set h.len f m n hi]
theorem Raw.setFirst{w:World}{p n f m:Nat}{ys:List Int}(h:Raw w p n f m ys)(f':Nat):Raw (w.setCell ⟨p,64,none⟩ (.int .i64 f')) p n f' m ys:=by
 refine⟨?_,h.len⟩
 rw [set_block h.head,List.setIfInBounds_toArray,show 64=64+0 from rfl,qc_put h.len f m n 0]
 rfl
theorem Raw.setMany{w:World}{p n f m:Nat}{ys:List Int}(h:Raw w p n f m ys)(m':Nat):Raw (w.setCell ⟨p,65,none⟩ (.int .i64 m')) p n f m' ys:=by
 refine⟨?_,h.len⟩
 rw [set_block h.head,List.setIfInBounds_toArray,show 65=64+1 from rfl,qc_put h.len f m n 1]
 rfl
theorem Raw.buts{w w':World}{p n f m:Nat}{ys:List Int}{l:List Nat}(h:Raw w p n f m ys)(hb:Buts l w w')(hp:p ∉ l):Raw w' p n f m ys :=
 ⟨(hb.block p h.lt hp).trans h.head,h.len⟩
theorem Raw.below{w w':World}{p n f m:Nat}{ys:List Int}(h:Raw w p n f m ys)(hb:Below w.heap.size w w'):Raw w' p n f m ys :=
 h.buts (l:=[]) (Buts.of hb) (by simp)
theorem Raw.drew{w:World}{p n f m:Nat}{ys:List Int}(h:Raw w p n f m ys)(k:Nat):Raw (w.drewN k) p n f m ys:=h.below (below_drewN _ _)
theorem Raw.drew1{w:World}{p n f m:Nat}{ys:List Int}(h:Raw w p n f m ys):Raw w.drew p n f m ys:=h.drew 1
structure Que (w:World) (p n:Nat) (xs:List Int):Prop where
 raw:∃ f ys,f < 64/\Raw w p n f xs.length ys/\Holds 64 f ys xs
 lo:1<=n
 hi:n<=64
 len:xs.length<=n
theorem Que.buts{w w':World}{p n:Nat}{xs:List Int}{l:List Nat}(h:Que w p n xs)(hb:Buts l w w')(hp:p ∉ l):Que w' p n xs:=by
 obtain⟨f,ys,hf,hr,hh⟩:=h.raw
 exact⟨⟨f,ys,hf,hr.buts hb hp,hh⟩,h.lo,h.hi,h.len⟩
theorem Que.below{w w':World}{p n:Nat}{xs:List Int}(h:Que w p n xs)(hb:Below w.heap.size w w'):Que w' p n xs :=
 h.buts (l:=[]) (Buts.of hb) (by simp)
theorem Que.lt{w:World}{p n:Nat}{xs:List Int}(h:Que w p n xs):p < w.heap.size:=by
 obtain⟨f,ys,hf,hr,hh⟩:=h.raw
 exact hr.lt
theorem one_below{p B:Nat}{w w':World}(h:Buts [p] w w')(hp:B<=p)(hB:B<=w.heap.size):Below B w w' :=
 h.below (fun x hx=>by simp only [List.mem_cons,List.not_mem_nil,or_false] at hx;omega) hB
theorem slot_any{w:World}{p n f m:Nat}{ys:List Int}(h:Raw w p n f m ys)(hf:f < 64)(i:Nat)(hi:i<=64)(s:Nat)(hsl:sl 64 f i=s) :
  Calls Tryz.prog 216 #[.pointer (some ⟨p,0,none⟩),.int .i64 i] w fun e w'=>e=.returned (.int .i64 (s:Nat))/\w=w':=by
 subst hsl
 have c1:=h.c1
 have hs:((f:Int)+(i:Int)) % (64:Int)=(sl 64 f i:Int):=by have:=sl_mod hf hi;omega
 have hl:=sl_lt hf hi
 clear h
 generalize sl 64 f i=s at *
 go_enter Tryz.func216,Tryz.ntmps216
 go_wp2
 go_ret
 refine⟨?_,rfl⟩
 show Ending.returned (Value.int .i64 (((f:Int)+(i:Int)) % 64))=_
 rw [hs]
theorem at_any{w:World}{p n f m:Nat}{ys:List Int}(h:Raw w p n f m ys)(hf:f < 64)(i:Nat)(hi:i < 64) :
  Calls Tryz.prog 212 #[.pointer (some ⟨p,0,none⟩),.int .i64 i] w fun e w'=>e=.returned (.int .u32 (ys.getD (sl 64 f i) 0))/\∃ k,w'=w.drewN k:=by
 have hl:=sl_lt hf (show i<=64 by omega)
 have c:=h.slot hl
 have hC:=fun q=>slot_any (h.drew q) hf i (by omega) _ rfl
 clear h
 generalize ys.getD (sl 64 f i) 0=y at *
 generalize sl 64 f i=s at *
 have hlI:(s:Int) < 64:=by omega
 go_enter Tryz.func212,Tryz.ntmps212
 go_wp2
 go_quiet ((go_at_call 216;exact Calls.quiet_of ((hC _).mono fun e w' ⟨he,hw⟩=>⟨he,0,hw.symm⟩)))
 go_wp2
 go_ret
 exact⟨rfl,_,rfl⟩
theorem addLast_any{w:World}{p n f m:Nat}{ys:List Int}(h:Raw w p n f m ys)(hf:f < 64)(hm:m < 64)(z:Int) :
  Calls Tryz.prog 245 #[.pointer (some ⟨p,0,none⟩),.int .u32 z] w fun e w'=>e=.returned (.tuple #[])/\Raw w' p n f (m+1) (ys.set (sl 64 f m) z)/\Buts [p] w w':=by
 have hd:=h.drew1
 have hC:=slot_any hd hf m (by omega) _ rfl
 have d2:=h.c2
 have hsl:=sl_lt hf (show m<=64 by omega)
 have hslI:((sl 64 f m:Nat):Int) < 64:=by omega
 have HS:Hid (Raw w.drew p n f m ys):=hd
 have HR:Hid (Raw w p n f m ys):=h
 clear h hd
 generalize sl 64 f m=s at *
 have k5:=((HR.out.setSlot hsl z).drew1).c2
 have kg:=HS.out.slot hsl
 have kf:=HS.out.fp s
 go_enter Tryz.func245,Tryz.ntmps245
 go_wp2
 go_region_held3 (fun w'=>w'.cell? ⟨p,65,none⟩=some (.int .i64 m)) (go_keep) (first |(go_at_call 216;refine hC.mono ?_;rintro e wx ⟨rfl,rfl⟩))
 all_goals
  have R2:Hid (Raw (w.setCell ⟨p,s,none⟩ (.int .u32 z)).drew p n f m (ys.set s z)):=(HR.out.setSlot hsl z).drew1
  have B2:Hid (Buts [p] w (w.setCell ⟨p,s,none⟩ (.int .u32 z)).drew):=(Buts.cell _ _ _ _).drew
  clear k5
  generalize (w.setCell ⟨p,s,none⟩ (.int .u32 z)).drew=w2 at *
  have q2:=R2.out.c2
  have qf:=R2.out.fp 65
  go_wp2
  go_end0
  exact⟨rfl,R2.out.setMany (m+1),B2.out.trans ((Buts.cell _ _ _ _).mono (by simp))⟩
theorem addFirst_any{w:World}{p n f m:Nat}{ys:List Int}(h:Raw w p n f m ys)(hf:f < 64)(hm:m < 64)(z:Int) :
  Calls Tryz.prog 246 #[.pointer (some ⟨p,0,none⟩),.int .u32 z] w fun e w'=>e=.returned (.tuple #[])/\Raw w' p n (sl 64 f 63) (m+1) (ys.set (sl 64 f 63) z)/\Buts [p] w w':=by
 have hC:=slot_any h hf 63 (by omega) _ rfl
 have c1:=h.c1
 have kf:=h.fp 64
 have hsl:=sl_lt hf (show 63<=64 by omega)
 have hslI:((sl 64 f 63:Nat):Int) < 64:=by omega
 generalize sl 64 f 63=s at *
 have R2:Hid (Raw (w.setCell ⟨p,64,none⟩ (.int .i64 s)) p n s m ys):=h.setFirst s
 have B2:Hid (Buts [p] w (w.setCell ⟨p,64,none⟩ (.int .i64 s))):=Buts.cell _ _ _ _
 clear h
 go_enter Tryz.func246,Tryz.ntmps246
 go_wp2_with (first |(go_at_call 216;refine hC.mono ?_;rintro e wx ⟨rfl,rfl⟩))
 generalize w.setCell ⟨p,64,none⟩ (.int .i64 s)=w2 at *
 have d1:=R2.out.c1
 have dg:=R2.out.slot hsl
 have df:=R2.out.fp s
 have k5:=((R2.out.setSlot hsl z).drew1).c1
 go_region_held3 (fun w'=>w'.cell? ⟨p,64,none⟩=some (.int .i64 s)) (go_keep) (fail)
 all_goals
  have R3:Hid (Raw (w2.setCell ⟨p,s,none⟩ (.int .u32 z)).drew p n s m (ys.set s z)):=(R2.out.setSlot hsl z).drew1
  have B3:Hid (Buts [p] w (w2.setCell ⟨p,s,none⟩ (.int .u32 z)).drew):=(B2.out.trans ((Buts.cell _ _ _ _).mono (by simp))).drew
  clear k5
  generalize (w2.setCell ⟨p,s,none⟩ (.int .u32 z)).drew=w3 at *
  have q2:=R3.out.c2
  have qf:=R3.out.fp 65
  go_wp2
  go_end0
  exact⟨rfl,R3.out.setMany (m+1),B3.out.trans ((Buts.cell _ _ _ _).mono (by simp))⟩
theorem dropFirst_any{w:World}{p n f m:Nat}{ys:List Int}(h:Raw w p n f (m+1) ys)(hf:f < 64)(hm:m < 64) :
  Calls Tryz.prog 237 #[.pointer (some ⟨p,0,none⟩)] w fun e w'=>e=.returned (.tuple #[])/\Raw w' p n (sl 64 f 1) m ys/\Buts [p] w w':=by
 have hC:=slot_any h hf 1 (by omega) _ rfl
 have c1:=h.c1
 have kf:=h.fp 64
 generalize sl 64 f 1=s at *
 have R2:Hid (Raw (w.setCell ⟨p,64,none⟩ (.int .i64 s)) p n s (m+1) ys):=h.setFirst s
 have B2:Hid (Buts [p] w (w.setCell ⟨p,64,none⟩ (.int .i64 s))):=Buts.cell _ _ _ _
 have q2:=R2.out.c2
 have qf:=R2.out.fp 65
 clear h
 go_enter Tryz.func237,Tryz.ntmps237
 go_wp2_with (first |(go_at_call 216;refine hC.mono ?_;rintro e wx ⟨rfl,rfl⟩))
 go_end0
 exact⟨rfl,R2.out.setMany m,B2.out.trans ((Buts.cell _ _ _ _).mono (by simp))⟩
theorem there_yes{w:World}{p n f m:Nat}{ys:List Int}(h:Raw w p n f m ys)(h1:1<=n) :
  Calls Tryz.prog 195 #[.pointer (some ⟨p,0,none⟩)] w fun e w'=>e=.returned (.bool true)/\w=w':=by
 have c3:=h.c3
 have hz:decide (0 < n)=true:=decide_eq_true (by omega)
 clear h
 go_enter Tryz.func195,Tryz.ntmps195
 go_wp2
 go_ret
 exact⟨rfl,rfl⟩
theorem hasRoom_any{w:World}{p n f m:Nat}{ys:List Int}(h:Raw w p n f m ys)(h1:1<=n)(e:Int)(he:e=if m=n then 10 else 0) :
  Calls Tryz.prog 244 #[.pointer (some ⟨p,0,none⟩)] w fun r w'=>r=.returned (.int .i64 e)/\∃ k,w'=w.drewN k:=by
 have hT:=there_yes h h1
 have c2:=h.c2
 have c3:=h.c3
 subst he
 clear h
 by_cases hm:m=n
 ·rw [if_pos hm]
  have hF:((m:Int) == (n:Int))=true:=by simp;omega
  clear hm
  go_enter Tryz.func244,Tryz.ntmps244
  go_wp2_with (go_at_call 195;refine hT.mono ?_;rintro e wx ⟨rfl,rfl⟩)
  go_quiet ((fail))
  go_wp2
  go_ret
  exact⟨rfl,_,rfl⟩
 ·rw [if_neg hm]
  have hF:((m:Int) == (n:Int))=false:=by simp;omega
  clear hm
  go_enter Tryz.func244,Tryz.ntmps244
  go_wp2_with (go_at_call 195;refine hT.mono ?_;rintro e wx ⟨rfl,rfl⟩)
  go_quiet ((fail))
  go_wp2
  go_ret
  exact⟨rfl,_,rfl⟩
theorem made_zero(n:Nat):madeCells (Value.int .u32 0).cells n=(wrd (List.replicate n 0)).toArray:=by
 apply Array.ext_getElem?
 intro i
 by_cases hi:i < n
 ·simp [madeCells,Value.cells,wrd,hi,Nat.mod_one]
 ·simp [madeCells,Value.cells,wrd,hi]
theorem infoW:(Tryz.prog.info? 22).map (fun i=>(i.zero,i.size,i.bytes))=some (some (.int .u32 0),1,4):=by kernel_rfl
theorem make_row(w:World)(l c:Nat)(hl:l<=c)(hc:c<=1000000) :
  (Instr.makeSlice 51 (.int .i64 l) (.int .i64 c)).run Tryz.prog w=.ok (.slice (some ⟨w.heap.size,0,none⟩) l c) (w.alloc (.cells (wrd (List.replicate c 0)).toArray 22)):=by
 obtain⟨i,hi,he⟩:=Option.map_eq_some_iff.1 infoW
 have h1:i.zero=some (.int .u32 0):=by simpa using congrArg Prod.fst he
 have h2:i.size=1:=by simpa using congrArg (fun x=>x.2.1) he
 have h3:i.bytes=4:=by simpa using congrArg (fun x=>x.2.2) he
 have:=run_make w 51 22 i (.int .u32 0) Tryz.underlying51 hi h1 .i64 .i64 l c (by omega) (by omega) (by rw [h3];omega) (by omega)
 rw [this,h2,Nat.mul_one,made_zero]
 simp
theorem Row.below{w w':World}{g:Nat}{xs:List Int}(h:Row w g xs)(hb:Below w.heap.size w w'):Row w' g xs:=(hb.block g h.lt).trans h
def upto(xs:List Int)(i:Nat):List Int:=xs.take i ++ List.replicate (xs.length - i) 0
theorem upto_len{xs:List Int}{i:Nat}(hi:i<=xs.length):(upto xs i).length=xs.length:=by simp [upto];omega
theorem upto_zero(xs:List Int):upto xs 0=List.replicate xs.length 0:=by simp [upto]
theorem upto_all(xs:List Int):upto xs xs.length=xs:=by simp [upto]
theorem upto_next{xs:List Int}{i:Nat}(hi:i < xs.length):(upto xs i).set i (xs.getD i 0)=upto xs (i+1):=by
 apply List.ext_getElem?
 intro j
 have hl:=upto_len (Nat.le_of_lt hi)
 have hl':=upto_len (show i+1<=xs.length by omega)
 by_cases hj:j < xs.length
 ·rw [List.getElem?_set]
  by_cases e:i=j
  ·subst e
   rw [if_pos rfl,if_pos (by omega)]
   simp only [upto]
   rw [List.getElem?_append_left (by simp;omega),List.getElem?_take_of_lt (by omega)]
   simp [hi]
  ·rw [if_neg e]
   simp only [upto]
   by_cases c:j < i
   ·rw [List.getElem?_append_left (by simp;omega),List.getElem?_append_left (by simp;omega),List.getElem?_take_of_lt c,List.getElem?_take_of_lt (by omega)]
   ·rw [List.getElem?_append_right (by simp;omega),List.getElem?_append_right (by simp;omega)]
    simp only [List.length_take]
    rw [List.getElem?_replicate,List.getElem?_replicate,if_pos (by omega),if_pos (by omega)]
 ·rw [List.getElem?_eq_none (by rw [List.length_set];omega),List.getElem?_eq_none (by omega)]
theorem all_any{w:World}{p n f:Nat}{ys xs:List Int}(h:Raw w p n f xs.length ys)(hf:f < 64)(hx:xs.length<=64)(hh:Holds 64 f ys xs) :
  Calls Tryz.prog 196 #[.pointer (some ⟨p,0,none⟩)] w fun e w'=>e=.returned (.slice (some ⟨w.heap.size,0,none⟩) xs.length xs.length)/\Row w' w.heap.size xs/\Below w.heap.size w w':=by
 have HH:Hid (Holds 64 f ys xs):=hh
 have HY:Hid (ys.length=64):=h.len
 have hmk:=make_row w xs.length xs.length (Nat.le_refl _) (by omega)
 have hp:=h.lt
 have HA:Hid (Row (w.alloc (.cells (wrd (List.replicate xs.length 0)).toArray 22)) w.heap.size (upto xs 0)):=by
  have:Row (w.alloc (.cells (wrd (List.replicate xs.length 0)).toArray 22)) w.heap.size (List.replicate xs.length 0):=alloc_at w _
  rw [←upto_zero] at this;exact this
 have HB:Hid (Below w.heap.size w (w.alloc (.cells (wrd (List.replicate xs.length 0)).toArray 22))):=alloc_below w _
 have HR:Hid (Raw w p n f xs.length ys):=h
 have c2:=h.c2
 obtain⟨m,hm⟩:∃ m,xs.length=m:=⟨_,rfl⟩
 have HM:Hid (xs.length=m):=hm
 rw [hm] at c2 hmk hx HR HA HB ⊢
 clear h hh hm
 obtain⟨t,ht⟩:∃ t,w.heap.size=t:=⟨_,rfl⟩
 have HT:Hid (w.heap.size=t):=ht
 rw [ht] at HA HB hp
 go_enter Tryz.func196,Tryz.ntmps196
 go_wp2
 clear ht hmk
 generalize w.alloc (.cells (wrd (List.replicate m 0)).toArray 22)=w0 at *
 go_loopg [12] m (fun q s12 wx=>∃ i:Nat,i+q=m/\s12=.int .i64 i/\Hid (Row wx t (upto xs i))/\Hid (Below t w wx))
 case atStart=>exact⟨0,by omega,rfl,HA,HB⟩
 case round =>
  clear HA HB
  obtain⟨i,hiq,rfl,HA,HB⟩:=hrel
  cases gk with
  | zero =>
   have hlt:¬ ((i:Int) < m):=by omega
   go_wp2
   go_ret
   rw [HT.out]
   refine⟨rfl,?_,HB.out⟩
   have:=HA.out
   rwa [show i=xs.length by have:=HM.out;omega,upto_all] at this
  | succ q =>
   have hlt:(i:Int) < m:=by omega
   have HRx:Hid (Raw wr p n f m ys):=⟨(HB.out.block p hp).trans HR.out.head,HY.out⟩
   have hsx:Hid (ys.getD (sl 64 f i) 0=xs.getD i 0):=HH.out i (by have:=HM.out;omega)
   have HN:Hid ((upto xs i).set i (xs.getD i 0)=upto xs (i+1)):=upto_next (by have:=HM.out;omega)
   have HL:Hid ((upto xs i).length=m):=by have:=upto_len (xs:=xs) (i:=i) (by have:=HM.out;omega);rw [HM.out] at this;exact this
   have hC:=at_any HRx.out hf i (by omega)
   rw [hsx.out] at hC
   clear hsx
   generalize xs.getD i 0=y at *
   go_wp2_with (first
    |(go_at_call 212;refine hC.mono ?_;rintro e w1 ⟨rfl,kq,hw1⟩;have A1:Hid (Row w1 t (upto xs i)):=(by rw [hw1];exact HA.out.below (below_drewN _ _));have B1:Hid (Below t w w1):=HB.out.trans (by rw [hw1];exact(below_drewN wr kq).mono (by have:=HA.out.lt;omega));have kg:=A1.out.cell i (by have:=HL.out;omega);have kf:=A1.out.free i;clear hw1))
   have A2:Hid (Row (w1.setCell ⟨t,i,none⟩ (.int .u32 y)) t (upto xs (i+1))):=by have:=A1.out.set i y;rw [HN.out] at this;exact this
   have B2:Hid (Below t w (w1.setCell ⟨t,i,none⟩ (.int .u32 y))):=B1.out.trans ((Buts.cell w1 t i (.int .u32 y)).below (by simp) (Nat.le_of_lt A1.out.lt))
   generalize w1.setCell ⟨t,i,none⟩ (.int .u32 y)=w2 at *
   go_roundg q
   case measure=>omega
   case rel=>exact⟨i+1,by omega,by go_num,A2,B2⟩
def zc(n:Int):Array Value:=(qc (List.replicate 64 0) 0 0 n).toArray
theorem zinfo:(Tryz.prog.info? 291).map (fun i=>i.zero)=some (some (.agg (zc 0))):=by kernel_rfl
theorem zval(w:World):Sem.run Tryz.prog (zeroValue 291) w=.ok (.agg (zc 0)) w:=by
 obtain⟨i,hi,he⟩:=Option.map_eq_some_iff.1 zinfo
 simp [zeroValue,typeInfo,hi,he]
theorem zc_ne(n:Int):¬ zc n=#[]:=by simp [zc,qc]
theorem zc_set(n m:Int):(zc n).setIfInBounds 66 (.int .i64 m)=zc m:=by
 unfold zc
 rw [List.setIfInBounds_toArray,show 66=64+2 from rfl,qc_put (by simp)]
 rfl
theorem zc_que(w:World)(n:Nat)(h1:1<=n)(hn:n<=64):Que (w.alloc (.cells (zc n) 291)) w.heap.size n [] :=
 ⟨⟨0,List.replicate 64 0,by omega,⟨alloc_at w _,by simp⟩,Holds.nil _ _ _⟩,h1,hn,by simp⟩
theorem new_yes{w:World}(n:Nat)(h1:1<=n)(hn:n<=64) :
  Calls Tryz.prog 159 #[.int .i64 n] w fun e w'=>e=.returned (.tuple #[.pointer (some ⟨w.heap.size,0,none⟩),.int .i64 0])/\Que w' w.heap.size n []/\Below w.heap.size w w':=by
 have a1:¬ (n:Int) < 1:=by omega
 have a2:¬ (64:Int) < n:=by omega
 have z1:=zval
 have z2:=zc_ne 0
 have z3:=zc_set 0 n
 have hp:=zc_que w n h1 hn
 have hb:=alloc_below w (.cells (zc n) 291)
 go_enter Tryz.func159,Tryz.ntmps159
 go_wp2
 go_ret2
 exact⟨rfl,hp,hb⟩
theorem new_no{w:World}(n:Int)(h:n < 1∨64 < n) :
  Calls Tryz.prog 159 #[.int .i64 n] w fun e w'=>e=.returned (.tuple #[.pointer none,.int .i64 1])/\w=w':=by
 by_cases h1:n < 1
 ·go_enter Tryz.func159,Tryz.ntmps159
  go_wp2
  go_ret2
  exact⟨rfl,rfl⟩
 ·have h2:64 < n:=by omega
  go_enter Tryz.func159,Tryz.ntmps159
  go_wp2
  go_ret2
  exact⟨rfl,rfl⟩
theorem Que.left{w:World}{p n:Nat}{xs ys:List Int}(h:Que w p n xs)(k:Nat)(he:ys=xs):Que (w.drewN k) p n ys/\Buts [p] w (w.drewN k):=by
 subst he
 exact⟨h.below (below_drewN _ _),Buts.of (below_drewN _ _)⟩
theorem put_any{w:World}{p n:Nat}{xs:List Int}(h:Que w p n xs)(z:Int) :
  Calls Tryz.prog 240 #[.pointer (some ⟨p,0,none⟩),.int .u32 z] w fun e w'=>e=.returned (.int .i64 (addE xs n))/\Que w' p n (putL xs n z)/\Buts [p] w w':=by
 have HQ:Hid (Que w p n xs):=h
 obtain⟨f,ys,hf,hr,hh⟩:=h.raw
 have hC:=hasRoom_any hr h.lo _ rfl
 have hlen:=h.len
 have hhi:=h.hi
 by_cases e0:xs.length=n
 ·rw [if_pos e0] at hC
  rw [addE_full e0,putL_full e0]
  clear h hr hh e0
  go_enter Tryz.func240,Tryz.ntmps240
  go_wp2_with (first |(go_at_call 244;refine hC.mono ?_;rintro e wx ⟨rfl,kq,hwx⟩;have HX:Hid (wx=w.drewN kq):=hwx;clear hwx))
  go_ret
  refine⟨rfl,?_⟩
  rw [HX.out]
  exact HQ.out.left kq rfl
 ·rw [if_neg e0] at hC
  rw [addE_ok e0,putL_ok e0]
  have hlt:xs.length < 64:=by omega
  have HA:Hid (∀ k,Calls Tryz.prog 245 #[.pointer (some ⟨p,0,none⟩),.int .u32 z] (w.drewN k) fun e w'=>e=.returned (.tuple #[])/\Raw w' p n f (xs.length+1) (ys.set (sl 64 f xs.length) z)/\Buts [p] (w.drewN k) w'):=fun k=>addLast_any (hr.drew k) hf hlt z
  have HH:Hid (Holds 64 f (ys.set (sl 64 f xs.length) z) (xs ++ [z])):=hh.addLast hr.len hf hlt z
  have HF:Hid (f < 64):=hf
  have HL:Hid ((xs ++ [z]).length<=n):=by show _<=_;simp;omega
  clear hh hr h e0 hlen
  go_enter Tryz.func240,Tryz.ntmps240
  go_wp2_with (first
   |(go_at_call 244;refine hC.mono ?_;rintro e wx ⟨rfl,kq,hwx⟩;have HX:Hid (wx=w.drewN kq):=hwx;clear hwx)
   |(go_at_call 245;rw [HX.out];refine(HA.out kq).mono ?_;rintro e w2 ⟨rfl,hr2,hb2⟩;have R2:Hid (Raw w2 p n f (xs.length+1) (ys.set (sl 64 f xs.length) z)):=hr2;have B2:Hid (Buts [p] (w.drewN kq) w2):=hb2;clear hr2 hb2))
  go_ret
  refine⟨rfl,?_,(Buts.of (below_drewN w kq)).trans B2.out⟩
  exact⟨⟨_,_,HF.out,by simpa using R2.out,HH.out⟩,HQ.out.lo,HQ.out.hi,HL.out⟩
theorem push_any{w:World}{p n:Nat}{xs:List Int}(h:Que w p n xs)(z:Int) :
  Calls Tryz.prog 241 #[.pointer (some ⟨p,0,none⟩),.int .u32 z] w fun e w'=>e=.returned (.int .i64 (addE xs n))/\Que w' p n (pushL xs n z)/\Buts [p] w w':=by
 have HQ:Hid (Que w p n xs):=h
 obtain⟨f,ys,hf,hr,hh⟩:=h.raw
 have hC:=hasRoom_any hr h.lo _ rfl
 have hlen:=h.len
 have hhi:=h.hi
 by_cases e0:xs.length=n
 ·rw [if_pos e0] at hC
  rw [addE_full e0,pushL_full e0]
  clear h hr hh e0
  go_enter Tryz.func241,Tryz.ntmps241
  go_wp2_with (first |(go_at_call 244;refine hC.mono ?_;rintro e wx ⟨rfl,kq,hwx⟩;have HX:Hid (wx=w.drewN kq):=hwx;clear hwx))
  go_ret
  refine⟨rfl,?_⟩
  rw [HX.out]
  exact HQ.out.left kq rfl
 ·rw [if_neg e0] at hC
  rw [addE_ok e0,pushL_ok e0]
  have hlt:xs.length < 64:=by omega
  have HA:Hid (∀ k,Calls Tryz.prog 246 #[.pointer (some ⟨p,0,none⟩),.int .u32 z] (w.drewN k) fun e w'=>e=.returned (.tuple #[])/\Raw w' p n (sl 64 f 63) (xs.length+1) (ys.set (sl 64 f 63) z)/\Buts [p] (w.drewN k) w'):=fun k=>addFirst_any (hr.drew k) hf hlt z
  have HH:Hid (Holds 64 (sl 64 f 63) (ys.set (sl 64 f 63) z) (z :: xs)):=hh.addFirst hr.len hf hlt z
  have HF:Hid ((sl 64 f 63) < 64):=sl_lt hf (by omega)
  have HL:Hid ((z :: xs).length<=n):=by show _<=_;simp;omega
  clear hh hr h e0 hlen
  go_enter Tryz.func241,Tryz.ntmps241
  go_wp2_with (first
   |(go_at_call 244;refine hC.mono ?_;rintro e wx ⟨rfl,kq,hwx⟩;have HX:Hid (wx=w.drewN kq):=hwx;clear hwx)
   |(go_at_call 246;rw [HX.out];refine(HA.out kq).mono ?_;rintro e w2 ⟨rfl,hr2,hb2⟩;have R2:Hid (Raw w2 p n (sl 64 f 63) (xs.length+1) (ys.set (sl 64 f 63) z)):=hr2;have B2:Hid (Buts [p] (w.drewN kq) w2):=hb2;clear hr2 hb2))
  go_ret
  refine⟨rfl,?_,(Buts.of (below_drewN w kq)).trans B2.out⟩
  exact⟨⟨_,_,HF.out,by simpa using R2.out,HH.out⟩,HQ.out.lo,HQ.out.hi,HL.out⟩
theorem peek_any{w:World}{p n:Nat}{xs:List Int}(h:Que w p n xs) :
  Calls Tryz.prog 243 #[.pointer (some ⟨p,0,none⟩)] w fun e w'=>e=.returned (.tuple #[.int .u32 (xs.headD 0),.int .i64 (takeE xs)])/\∃ k,w'=w.drewN k:=by
 obtain⟨f,ys,hf,hr,hh⟩:=h.raw
 have hT:=there_yes hr h.lo
 have c2:=hr.c2
 rcases xs with _ |⟨x,xs⟩
 ·rw [takeE_nil]
  rw [show(([]:List Int).length:Nat)=0 from rfl] at c2
  clear h hh hr
  go_enter Tryz.func243,Tryz.ntmps243
  go_wp2_with (first |(go_at_call 195;refine hT.mono ?_;rintro e wx ⟨rfl,rfl⟩))
  go_ret2
  exact⟨rfl,0,rfl⟩
 ·rw [takeE_cons]
  have hC:=at_any hr hf 0 (by omega)
  rw [sl_zero hf,hh.first hf] at hC
  have hz:(((x :: xs).length:Int) == 0)=false:=by simp;omega
  clear h hh hr
  generalize (x :: xs).length=m at *
  go_enter Tryz.func243,Tryz.ntmps243
  go_wp2_with (first
   |(go_at_call 195;refine hT.mono ?_;rintro e wx ⟨rfl,rfl⟩)
   |(go_at_call 212;refine hC.mono ?_;rintro e wx ⟨rfl,kq,hwx⟩))
  go_ret2
  exact⟨rfl,kq,rfl⟩
theorem take_any{w:World}{p n:Nat}{xs:List Int}(h:Que w p n xs) :
  Calls Tryz.prog 242 #[.pointer (some ⟨p,0,none⟩)] w fun e w'=>e=.returned (.tuple #[.int .u32 (xs.headD 0),.int .i64 (takeE xs)])/\Que w' p n xs.tail/\Buts [p] w w':=by
 have hP:=peek_any h
 have HQ:Hid (Que w p n xs):=h
 obtain⟨f,ys,hf,hr,hh⟩:=h.raw
 rcases xs with _ |⟨x,xs⟩
 ·rw [takeE_nil] at hP ⊢
  clear h hh hr
  go_enter Tryz.func242,Tryz.ntmps242
  go_wp2_with (first |(go_at_call 243;refine hP.mono ?_;rintro e wx ⟨rfl,kq,hwx⟩;have HX:Hid (wx=w.drewN kq):=hwx;clear hwx))
  go_ret2
  refine⟨rfl,?_⟩
  rw [HX.out]
  exact HQ.out.left kq rfl
 ·rw [takeE_cons] at hP ⊢
  have hl:=h.len
  have hl':xs.length < n:=by simp at hl;omega
  have hi:=h.hi
  have HA:Hid (∀ k,Calls Tryz.prog 237 #[.pointer (some ⟨p,0,none⟩)] (w.drewN k) fun e w'=>e=.returned (.tuple #[])/\Raw w' p n (sl 64 f 1) xs.length ys/\Buts [p] (w.drewN k) w'):=fun k=>dropFirst_any (m:=xs.length) (hr.drew k) hf (by omega)
  have HH:Hid (Holds 64 (sl 64 f 1) ys xs):=hh.take hf (by omega)
  have HF:Hid (sl 64 f 1 < 64):=sl_lt hf (by omega)
  clear h hh hr hl
  go_enter Tryz.func242,Tryz.ntmps242
  go_wp2_with (first
   |(go_at_call 243;refine hP.mono ?_;rintro e wx ⟨rfl,kq,hwx⟩;have HX:Hid (wx=w.drewN kq):=hwx;clear hwx)
   |(go_at_call 237;rw [HX.out];refine(HA.out kq).mono ?_;rintro e w2 ⟨rfl,hr2,hb2⟩;have R2:Hid (Raw w2 p n (sl 64 f 1) xs.length ys):=hr2;have B2:Hid (Buts [p] (w.drewN kq) w2):=hb2;clear hr2 hb2))
  go_ret2
  exact⟨rfl,⟨⟨_,_,HF.out,R2.out,HH.out⟩,HQ.out.lo,HQ.out.hi,by show xs.length<=n;omega⟩,(Buts.of (below_drewN w kq)).trans B2.out⟩
theorem list_any{w:World}{p n:Nat}{xs:List Int}(h:Que w p n xs) :
  Calls Tryz.prog 173 #[.pointer (some ⟨p,0,none⟩)] w fun e w'=>e=.returned (.slice (some ⟨w.heap.size,0,none⟩) xs.length xs.length)/\Row w' w.heap.size xs/\Below w.heap.size w w':=by
 obtain⟨f,ys,hf,hr,hh⟩:=h.raw
 have hT:=there_yes hr h.lo
 have hC:=all_any hr hf (Nat.le_trans h.len h.hi) hh
 clear h hh hr
 go_enter Tryz.func173,Tryz.ntmps173
 go_wp2_with (first
  |(go_at_call 195;refine hT.mono ?_;rintro e wx ⟨rfl,rfl⟩)
  |(go_at_call 196;refine hC.mono ?_;rintro e w2 ⟨rfl,hr2,hb2⟩))
 go_ret
 exact⟨rfl,hr2,hb2⟩
end Go.Proofs.YtbbdndfibjdcfaaGreat.Ob
namespace Go.Proofs.YtbbdndfibjdcfaaGreat.Ob.Tk
open Go Go.RowKit
theorem hold_iff{a b:Bool}(h:a=true↔b=true):a=b:=Bool.eq_iff_iff.2 h
theorem ret_b{a b:Bool}(h:a=true↔b=true):Ending.returned (Value.bool a)=.returned (.bool b):=by rw [hold_iff h]
def kd(w:Int):Int:=if w=3∨w=4 then 1 else if w=5∨w=6 then 2 else if 7<=w/\w<=10 then 3 else if 11<=w/\w<=13 then 4 else if w=14∨w=15 then 5 else if w=16∨w=17 then 6 else 0
def fitB(w k:Int):Bool:=decide (kd w≠0/\kd w=k)
theorem bcell{W w1:World}{B:Nat}(hb:Below B W w1):(∀ b o,b < B->w1.cell? ⟨b,o,none⟩=W.cell? ⟨b,o,none⟩)/\(∀ b o,b < B->w1.frozen? ⟨b,o,none⟩=W.frozen? ⟨b,o,none⟩) :=
 ⟨fun b o h=>hb.cell (p:=⟨b,o,none⟩) h,fun b o h=>hb.frozen (p:=⟨b,o,none⟩) h⟩
def asks:List Int:=[3,4,5,6,7,8,9,10,11,12,13,14,15,16,17]
theorem index_any(zs:List Int)(p o c:Nat)(x:Int)(w:World)(hz:zs.length<=100)(hc:∀ i v,zs[i]?=some v->w.cell? ⟨p,o+i,none⟩=some (.int .u8 v)) :
  Calls Tryz.prog 180 #[.slice (some ⟨p,o,none⟩) zs.length c,.int .u8 x] w fun e w'=>(∃ k:Int,e=.returned (.int .i64 k)/\(0<=k↔x∈zs))/\w=w':=by
 go_enter Tryz.func180,Tryz.ntmps180
 go_wp2
 go_loopg [5,8] zs.length (fun g s5 s8 wx=>∃ k:Nat,k+g=zs.length/\s8=.int .i64 (k:Nat)/\w=wx/\Hid (∀ i v,i < k->zs[i]?=some v->v≠x))
 case atStart=>exact⟨0,by omega,rfl,rfl,fun i v h=>by omega⟩
 case round =>
  obtain⟨k,hk,rfl,rfl,HN⟩:=hrel
  cases gk with
  | zero =>
   have hk:k=zs.length:=by omega
   subst hk
   have HX:Hid (x ∉ zs):=fun h=>by
    obtain⟨i,hi⟩:=List.getElem?_of_mem h
    have hlt:i < zs.length:=by
     rcases Nat.lt_or_ge i zs.length with a | a
     ·exact a
     ·rw [List.getElem?_eq_none a] at hi;cases hi
    exact HN.out i x hlt hi rfl
   clear HN
   go_wp2
   go_ret
   exact⟨⟨_,rfl,⟨fun h=>absurd h (by omega),fun h=>absurd h HX.out⟩⟩,rfl⟩
  | succ g =>
   have hlt:k < zs.length:=by omega
   obtain⟨v,hv⟩:∃ v,zs[k]?=some v:=⟨_,List.getElem?_eq_getElem hlt⟩
   have hcell:=hc k v hv
   have HV:Hid (zs[k]?=some v):=hv
   clear hv hc
   by_cases e:x=v
   ·subst e
    go_wp2
    go_ret
    exact⟨⟨_,rfl,⟨fun _=>List.mem_of_getElem? HV.out,fun _=>by omega⟩⟩,rfl⟩
   ·have hne:(x == v)=false:=beq_false_of_ne e
    have HN2:Hid (∀ i v,i < k+1->zs[i]?=some v->v≠x):=fun i u hi hu=>by
     rcases Nat.lt_or_ge i k with a | a
     ·exact HN.out i u a hu
     ·obtain rfl:i=k:=by omega
      rw [HV.out] at hu
      injection hu with hu
      exact fun q=>e (by rw [←q,hu])
    clear HN
    go_wp2
    go_roundg g
    case measure=>omega
    case rel=>exact⟨k+1,by omega,by go_num,rfl,HN2⟩
theorem index_nil(x:Int)(w:World):Calls Tryz.prog 180 #[.slice none 0 0,.int .u8 x] w fun e w'=>e=.returned (.int .i64 (-1))/\w=w':=by
 go_enter Tryz.func180,Tryz.ntmps180
 go_wp2
 go_loopg [5,8] 1 (fun g s5 s8 wx=>s8=.int .i64 0/\w=wx)
 case atStart=>exact⟨rfl,rfl⟩
 case round =>
  obtain⟨rfl,rfl⟩:=hrel
  go_wp2
  go_ret
  exact⟨rfl,rfl⟩
theorem has_any(zs:List Int)(p o c:Nat)(x:Int)(w:World)(hz:zs.length<=100)(hc:∀ i v,zs[i]?=some v->w.cell? ⟨p,o+i,none⟩=some (.int .u8 v)) :
  Calls Tryz.prog 142 #[.slice (some ⟨p,o,none⟩) zs.length c,.int .u8 x] w fun e w'=>e=.returned (.bool (decide (x∈zs)))/\w=w':=by
 have hI:=index_any zs p o c x w hz hc
 clear hc
 go_enter Tryz.func142,Tryz.ntmps142
 go_wp2_with (first
  |(go_at_call 180;refine hI.mono ?_;rintro e wx ⟨⟨k,rfl,hk⟩,rfl⟩))
 go_ret
 exact⟨ret_b (by rw [decide_eq_true_eq]),rfl⟩
theorem has_nil(x:Int)(w:World):Calls Tryz.prog 142 #[.slice none 0 0,.int .u8 x] w fun e w'=>e=.returned (.bool false)/\w=w':=by
 go_enter Tryz.func142,Tryz.ntmps142
 go_wp2_with (first
  |(go_at_call 180;refine(index_nil _ _).mono ?_;rintro e wx ⟨rfl,rfl⟩))
 go_ret
 exact⟨rfl,rfl⟩
theorem two_at(w:World)(a b:Obj):((w.alloc a).alloc b).drew.heap[w.heap.size]?=some a/\((w.alloc a).alloc b).drew.heap[w.heap.size+1]?=some b/\Below w.heap.size w ((w.alloc a).alloc b).drew/\w.heap.size+1 < ((w.alloc a).alloc b).drew.heap.size:=by
 have s1:(w.alloc a).heap.size=w.heap.size+1:=by show(w.heap.push a).size=_;exact Array.size_push _
 have s2:((w.alloc a).alloc b).heap.size=(w.alloc a).heap.size+1:=by show((w.alloc a).heap.push b).size=_;exact Array.size_push _
 have b2:Below (w.alloc a).heap.size (w.alloc a) ((w.alloc a).alloc b):=(Below.refl _ _).alloc (Nat.le_refl _) _
 refine⟨?_,?_,(((Below.refl _ _).alloc (Nat.le_refl _) _).trans (b2.mono (by omega))).drew,by show _ < ((w.alloc a).alloc b).heap.size;omega⟩
 ·show((w.alloc a).alloc b).heap[w.heap.size]?=some a
  rw [b2.block _ (by omega)];show(w.heap.push a)[w.heap.size]?=some a;exact Array.getElem?_push_size
 ·show((w.alloc a).heap.push b)[w.heap.size+1]?=some b
  rw [←s1];exact Array.getElem?_push_size
theorem asks_at(i:Nat)(v:Int)(h:asks[i]?=some v):(#[.int .u8 3,.int .u8 4,.int .u8 5,.int .u8 6,.int .u8 7,.int .u8 8,.int .u8 9,.int .u8 10,.int .u8 11,.int .u8 12,.int .u8 13,.int .u8 14,.int .u8 15,.int .u8 16,.int .u8 17]:Array Value)[i]?=some (.int .u8 v):=by
 have e:(#[.int .u8 3,.int .u8 4,.int .u8 5,.int .u8 6,.int .u8 7,.int .u8 8,.int .u8 9,.int .u8 10,.int .u8 11,.int .u8 12,.int .u8 13,.int .u8 14,.int .u8 15,.int .u8 16,.int .u8 17]:Array Value)=(asks.map (Value.int .u8)).toArray:=rfl
 rw [e,List.getElem?_toArray,List.getElem?_map,h];rfl
theorem asked_any(w:World):Calls Tryz.prog 141 #[] w fun e w'=>(∃ p:Nat,e=.returned (.agg #[.slice none 0 0,.slice (some ⟨p,0,none⟩) 2 2,.slice (some ⟨p,2,none⟩) 2 2,.slice (some ⟨p,4,none⟩) 4 4,.slice (some ⟨p,8,none⟩) 3 3,.slice (some ⟨p,11,none⟩) 2 2,.slice (some ⟨p,13,none⟩) 2 2])/\p < w'.heap.size/\(∀ i v,asks[i]?=some v->w'.cell? ⟨p,i,none⟩=some (.int .u8 v)))/\Below w.heap.size w w':=by
 go_enter Tryz.func141,Tryz.ntmps141
 go_wp2
 go_region
 go_wp2
 obtain⟨h0,h1,hb,hl⟩:=two_at w (.cells (#[.slice none 0 0,.slice (some ⟨w.heap.size+1,0,none⟩) 2 2,.slice (some ⟨w.heap.size+1,2,none⟩) 2 2,.slice (some ⟨w.heap.size+1,4,none⟩) 4 4,.slice (some ⟨w.heap.size+1,8,none⟩) 3 3,.slice (some ⟨w.heap.size+1,11,none⟩) 2 2,.slice (some ⟨w.heap.size+1,13,none⟩) 2 2]) 230) (.cells #[.int .u8 3,.int .u8 4,.int .u8 5,.int .u8 6,.int .u8 7,.int .u8 8,.int .u8 9,.int .u8 10,.int .u8 11,.int .u8 12,.int .u8 13,.int .u8 14,.int .u8 15,.int .u8 16,.int .u8 17] 280)
 refine bodyPost_ret (results_cell_row (g:=w.heap.size) rfl _ _ _ _ _ (d:=.array 7 229) rfl h0 Tryz.underlying230 rfl (by kernel_rfl)) rfl ?_
 exact⟨⟨w.heap.size+1,rfl,hl,fun i v h=>by rw [cell_of h1];exact asks_at i v h⟩,hb⟩
theorem fitB_iff(w k:Int):fitB w k=true↔(kd w≠0/\kd w=k):=by unfold fitB;exact decide_eq_true_iff
theorem fit_1(x:Int):decide (x∈([3,4]:List Int))=fitB x 1:=by
 refine hold_iff ?_
 rw [decide_eq_true_eq,fitB_iff]
 simp only [List.mem_cons,List.not_mem_nil,or_false]
 unfold kd
 repeat (first | omega | split)
theorem fit_2(x:Int):decide (x∈([5,6]:List Int))=fitB x 2:=by
 refine hold_iff ?_
 rw [decide_eq_true_eq,fitB_iff]
 simp only [List.mem_cons,List.not_mem_nil,or_false]
 unfold kd
 repeat (first | omega | split)
theorem fit_3(x:Int):decide (x∈([7,8,9,10]:List Int))=fitB x 3:=by
 refine hold_iff ?_
 rw [decide_eq_true_eq,fitB_iff]
 simp only [List.mem_cons,List.not_mem_nil,or_false]
 unfold kd
 repeat (first | omega | split)
theorem fit_4(x:Int):decide (x∈([11,12,13]:List Int))=fitB x 4:=by
 refine hold_iff ?_
 rw [decide_eq_true_eq,fitB_iff]
 simp only [List.mem_cons,List.not_mem_nil,or_false]
 unfold kd
 repeat (first | omega | split)
theorem fit_5(x:Int):decide (x∈([14,15]:List Int))=fitB x 5:=by
 refine hold_iff ?_
 rw [decide_eq_true_eq,fitB_iff]
 simp only [List.mem_cons,List.not_mem_nil,or_false]
 unfold kd
 repeat (first | omega | split)
theorem fit_6(x:Int):decide (x∈([16,17]:List Int))=fitB x 6:=by
 refine hold_iff ?_
 rw [decide_eq_true_eq,fitB_iff]
 simp only [List.mem_cons,List.not_mem_nil,or_false]
 unfold kd
 repeat (first | omega | split)
theorem piece_1(i:Nat)(v:Int)(h:([3,4]:List Int)[i]?=some v):asks[0+i]?=some v:=by
 rcases i with _ | _ | i
 ·exact h
 ·exact h
 ·simp at h
theorem piece_2(i:Nat)(v:Int)(h:([5,6]:List Int)[i]?=some v):asks[2+i]?=some v:=by
 rcases i with _ | _ | i
 ·exact h
 ·exact h
 ·simp at h
theorem piece_3(i:Nat)(v:Int)(h:([7,8,9,10]:List Int)[i]?=some v):asks[4+i]?=some v:=by
 rcases i with _ | _ | _ | _ | i
 ·exact h
 ·exact h
 ·exact h
 ·exact h
 ·simp at h
theorem piece_4(i:Nat)(v:Int)(h:([11,12,13]:List Int)[i]?=some v):asks[8+i]?=some v:=by
 rcases i with _ | _ | _ | i
 ·exact h
 ·exact h
 ·exact h
 ·simp at h
theorem piece_5(i:Nat)(v:Int)(h:([14,15]:List Int)[i]?=some v):asks[11+i]?=some v:=by
 rcases i with _ | _ | i
 ·exact h
 ·exact h
 ·simp at h
theorem piece_6(i:Nat)(v:Int)(h:([16,17]:List Int)[i]?=some v):asks[13+i]?=some v:=by
 rcases i with _ | _ | i
 ·exact h
 ·exact h
 ·simp at h
theorem has_q{wx:World}{p:Nat}(hp:p < wx.heap.size)(hc:∀ i v,asks[i]?=some v->wx.cell? ⟨p,i,none⟩=some (.int .u8 v))(W:World)(hb:Below wx.heap.size wx W)(n:Nat)(zs:List Int)(o c:Nat)(hz:zs.length<=100)(hs:∀ i v,zs[i]?=some v->asks[o+i]?=some v)(m:Nat)(hm:zs.length=m)(x:Int)(q:Bool)(hq:decide (x∈zs)=q) :
  Calls Tryz.prog 142 #[.slice (some ⟨p,o,none⟩) m c,.int .u8 x] (W.drewN n) fun e w'=>e=.returned (.bool q)/\w'=W.drewN n:=by
 subst hm hq
 have hb2:Below wx.heap.size wx (W.drewN n):=hb.trans ((below_drewN W n).mono hb.size)
 exact(has_any zs p o c x _ hz (fun i v h=>by rw [(bcell hb2).1 p _ hp];exact hc _ _ (hs i v h))).mono fun e w' h=>⟨h.1,h.2.symm⟩
theorem has_qn(W:World)(n:Nat)(x:Int):Calls Tryz.prog 142 #[.slice none 0 0,.int .u8 x] (W.drewN n) fun e w'=>e=.returned (.bool false)/\w'=W.drewN n :=
 (has_nil x _).mono fun e w' h=>⟨h.1,h.2.symm⟩
theorem fit_0(x:Int):false=fitB x 0:=by
 refine hold_iff ?_
 rw [fitB_iff]
 simp
theorem fit_far(x k:Int)(h:7<=k):false=fitB x k:=by
 refine hold_iff ?_
 rw [fitB_iff]
 simp only [Bool.false_eq_true,false_iff]
 unfold kd
 repeat (first | omega | split)
theorem fits_any(wh ah av am aw k:Int)(hk:0<=k/\k<=255)(w:World):Calls Tryz.prog 100 #[.agg #[.int .u8 wh,.int .u32 ah,.int .u32 av,.int .u32 am,.int .i64 aw],.int .u8 k] w fun e w'=>e=.returned (.bool (fitB wh k))/\Below w.heap.size w w':=by
 have hA:=fun wx=>asked_any wx
 by_cases h7:k < 7
 ·obtain rfl | rfl | rfl | rfl | rfl | rfl | rfl:k=0∨k=1∨k=2∨k=3∨k=4∨k=5∨k=6:=by omega
  ·rw [←fit_0]
   clear hk h7
   go_enter Tryz.func100,Tryz.ntmps100
   go_wp2_with (first
    |(go_at_call 141;refine(hA _).mono ?_;rintro e wx ⟨⟨p,rfl,hp,hc⟩,hb⟩;obtain⟨hc1,hf1⟩:=bcell hb;clear hA;have HC:Hid (∀ i v,asks[i]?=some v->wx.cell? ⟨p,i,none⟩=some (.int .u8 v)):=hc;clear hc;have hz:w.heap.size < wx.heap.size:=by(have:=hb.size;simp at this;omega)))
   go_quiet ((go_at_call 142;exact Calls.quiet_of_same (has_qn _ _ _)))
   go_wp2
   go_ret
   refine⟨rfl,?_⟩
   have b1:=((Below.refl w.heap.size w).alloc (Nat.le_refl _) (.cells (aqW wh ah av am aw) 38)).trans (hb.mono (by simp))
   exact(b1.alloc b1.size _).trans ((below_drewN _ _).mono (by simp;omega))
  ·clear hk h7
   go_enter Tryz.func100,Tryz.ntmps100
   go_wp2_with (first
    |(go_at_call 141;refine(hA _).mono ?_;rintro e wx ⟨⟨p,rfl,hp,hc⟩,hb⟩;obtain⟨hc1,hf1⟩:=bcell hb;clear hA;have HC:Hid (∀ i v,asks[i]?=some v->wx.cell? ⟨p,i,none⟩=some (.int .u8 v)):=hc;clear hc;have hz:w.heap.size < wx.heap.size:=by(have:=hb.size;simp at this;omega)))
   go_quiet ((go_at_call 142;exact Calls.quiet_of_same (has_q hp HC.out _ ((Below.refl _ _).alloc (Nat.le_refl _) _) _ [3,4] 0 2 (by decide) piece_1 2 rfl _ _ (fit_1 _))))
   go_wp2
   go_ret
   refine⟨rfl,?_⟩
   have b1:=((Below.refl w.heap.size w).alloc (Nat.le_refl _) (.cells (aqW wh ah av am aw) 38)).trans (hb.mono (by simp))
   exact(b1.alloc b1.size _).trans ((below_drewN _ _).mono (by simp;omega))
  ·clear hk h7
   go_enter Tryz.func100,Tryz.ntmps100
   go_wp2_with (first
    |(go_at_call 141;refine(hA _).mono ?_;rintro e wx ⟨⟨p,rfl,hp,hc⟩,hb⟩;obtain⟨hc1,hf1⟩:=bcell hb;clear hA;have HC:Hid (∀ i v,asks[i]?=some v->wx.cell? ⟨p,i,none⟩=some (.int .u8 v)):=hc;clear hc;have hz:w.heap.size < wx.heap.size:=by(have:=hb.size;simp at this;omega)))
   go_quiet ((go_at_call 142;exact Calls.quiet_of_same (has_q hp HC.out _ ((Below.refl _ _).alloc (Nat.le_refl _) _) _ [5,6] 2 2 (by decide) piece_2 2 rfl _ _ (fit_2 _))))
   go_wp2
   go_ret
   refine⟨rfl,?_⟩
   have b1:=((Below.refl w.heap.size w).alloc (Nat.le_refl _) (.cells (aqW wh ah av am aw) 38)).trans (hb.mono (by simp))
   exact(b1.alloc b1.size _).trans ((below_drewN _ _).mono (by simp;omega))
  ·clear hk h7
   go_enter Tryz.func100,Tryz.ntmps100
   go_wp2_with (first
    |(go_at_call 141;refine(hA _).mono ?_;rintro e wx ⟨⟨p,rfl,hp,hc⟩,hb⟩;obtain⟨hc1,hf1⟩:=bcell hb;clear hA;have HC:Hid (∀ i v,asks[i]?=some v->wx.cell? ⟨p,i,none⟩=some (.int .u8 v)):=hc;clear hc;have hz:w.heap.size < wx.heap.size:=by(have:=hb.size;simp at this;omega)))
   go_quiet ((go_at_call 142;exact Calls.quiet_of_same (has_q hp HC.out _ ((Below.refl _ _).alloc (Nat.le_refl _) _) _ [7,8,9,10] 4 4 (by decide) piece_3 4 rfl _ _ (fit_3 _))))
   go_wp2
   go_ret
   refine⟨rfl,?_⟩
   have b1:=((Below.refl w.heap.size w).alloc (Nat.le_refl _) (.cells (aqW wh ah av am aw) 38)).trans (hb.mono (by simp))
   exact(b1.alloc b1.size _).trans ((below_drewN _ _).mono (by simp;omega))
  ·clear hk h7
   go_enter Tryz.func100,Tryz.ntmps100
   go_wp2_with (first
    |(go_at_call 141;refine(hA _).mono ?_;rintro e wx ⟨⟨p,rfl,hp,hc⟩,hb⟩;obtain⟨hc1,hf1⟩:=bcell hb;clear hA;have HC:Hid (∀ i v,asks[i]?=some v->wx.cell? ⟨p,i,none⟩=some (.int .u8 v)):=hc;clear hc;have hz:w.heap.size < wx.heap.size:=by(have:=hb.size;simp at this;omega)))
   go_quiet ((go_at_call 142;exact Calls.quiet_of_same (has_q hp HC.out _ ((Below.refl _ _).alloc (Nat.le_refl _) _) _ [11,12,13] 8 3 (by decide) piece_4 3 rfl _ _ (fit_4 _))))
   go_wp2
   go_ret
   refine⟨rfl,?_⟩
   have b1:=((Below.refl w.heap.size w).alloc (Nat.le_refl _) (.cells (aqW wh ah av am aw) 38)).trans (hb.mono (by simp))
   exact(b1.alloc b1.size _).trans ((below_drewN _ _).mono (by simp;omega))
  ·clear hk h7
   go_enter Tryz.func100,Tryz.ntmps100
   go_wp2_with (first
    |(go_at_call 141;refine(hA _).mono ?_;rintro e wx ⟨⟨p,rfl,hp,hc⟩,hb⟩;obtain⟨hc1,hf1⟩:=bcell hb;clear hA;have HC:Hid (∀ i v,asks[i]?=some v->wx.cell? ⟨p,i,none⟩=some (.int .u8 v)):=hc;clear hc;have hz:w.heap.size < wx.heap.size:=by(have:=hb.size;simp at this;omega)))
   go_quiet ((go_at_call 142;exact Calls.quiet_of_same (has_q hp HC.out _ ((Below.refl _ _).alloc (Nat.le_refl _) _) _ [14,15] 11 2 (by decide) piece_5 2 rfl _ _ (fit_5 _))))
   go_wp2
   go_ret
   refine⟨rfl,?_⟩
   have b1:=((Below.refl w.heap.size w).alloc (Nat.le_refl _) (.cells (aqW wh ah av am aw) 38)).trans (hb.mono (by simp))
   exact(b1.alloc b1.size _).trans ((below_drewN _ _).mono (by simp;omega))
  ·clear hk h7
   go_enter Tryz.func100,Tryz.ntmps100
   go_wp2_with (first
    |(go_at_call 141;refine(hA _).mono ?_;rintro e wx ⟨⟨p,rfl,hp,hc⟩,hb⟩;obtain⟨hc1,hf1⟩:=bcell hb;clear hA;have HC:Hid (∀ i v,asks[i]?=some v->wx.cell? ⟨p,i,none⟩=some (.int .u8 v)):=hc;clear hc;have hz:w.heap.size < wx.heap.size:=by(have:=hb.size;simp at this;omega)))
   go_quiet ((go_at_call 142;exact Calls.quiet_of_same (has_q hp HC.out _ ((Below.refl _ _).alloc (Nat.le_refl _) _) _ [16,17] 13 2 (by decide) piece_6 2 rfl _ _ (fit_6 _))))
   go_wp2
   go_ret
   refine⟨rfl,?_⟩
   have b1:=((Below.refl w.heap.size w).alloc (Nat.le_refl _) (.cells (aqW wh ah av am aw) 38)).trans (hb.mono (by simp))
   exact(b1.alloc b1.size _).trans ((below_drewN _ _).mono (by simp;omega))
 ·rw [←fit_far wh k (by omega)]
  have hd:decide (k < 7)=false:=decide_eq_false h7
  go_enter Tryz.func100,Tryz.ntmps100
  go_wp2_with (first
   |(go_at_call 141;refine(hA _).mono ?_;rintro e wx ⟨⟨p,rfl,hp,hc⟩,hb⟩;obtain⟨hc1,hf1⟩:=bcell hb;clear hA;have HC:Hid (∀ i v,asks[i]?=some v->wx.cell? ⟨p,i,none⟩=some (.int .u8 v)):=hc;clear hc;have hz:w.heap.size < wx.heap.size:=by(have:=hb.size;simp at this;omega)))
  go_quiet (fail)
  go_wp2
  go_ret
  refine⟨rfl,?_⟩
  have b1:=((Below.refl w.heap.size w).alloc (Nat.le_refl _) (.cells (aqW wh ah av am aw) 38)).trans (hb.mono (by simp))
  exact(b1.alloc b1.size _).trans ((below_drewN _ _).mono (by simp;omega))
end Go.Proofs.YtbbdndfibjdcfaaGreat.Ob.Tk
namespace Go.Proofs.YtbbdndfibjdcfaaGreat.Ob.Mk
open Go Go.RowKit
def bt(c m:Nat):Nat:=c &&& (4294967295 - m)
theorem and_lt{a b:Nat}(h:a < 4294967296):a &&& b < 4294967296:=Nat.lt_of_le_of_lt Nat.and_le_left h
theorem or_lt{a b:Nat}(h:a < 4294967296)(k:b < 4294967296):a ||| b < 4294967296:=Nat.or_lt_two_pow (n:=32) h k
theorem bt_lt{c m:Nat}(h:c < 4294967296):bt c m < 4294967296:=and_lt h
def hold(f g:Nat)(all:Bool):Bool:=if all then decide (f &&& g=g) else !decide (f &&& g=0)
def aft(f g:Nat)(all gone:Bool):Nat:=if gone && hold f g all then bt f g else f
theorem aft_lt{f g:Nat}(hf:f < 4294967296)(all gone:Bool):aft f g all gone < 4294967296:=by
 unfold aft
 split
 ·exact bt_lt hf
 ·exact hf
theorem hold_iff{b c:Bool}(h:b=true↔c=true):b=c:=by cases b <;> cases c <;> simp_all

theorem met_any(f g:Nat)(hf:f < 4294967296)(hg:g < 4294967296)(w:World) :
  Calls Tryz.prog 250 #[.int .u32 (f:Nat),.int .u32 (g:Nat)] w fun e w'=>e=.returned (.int .u32 ((f &&& g:Nat):Int))/\w=w':=by
 have e:=u32_and_nat f g hf hg
 generalize f &&& g=x at *
 go_enter Tryz.func250,Tryz.ntmps250
 go_wp2
 go_ret
 exact⟨rfl,rfl⟩
theorem asking_any(all:Bool)(w:World) :
  Calls Tryz.prog 253 #[.bool all] w fun e w'=>e=.returned (.int .i64 (if all then 1 else 0))/\w=w':=by
 cases all
 all_goals (go_enter Tryz.func253,Tryz.ntmps253;go_wp2;go_ret;exact⟨rfl,rfl⟩)
theorem any_yes{w:World}{p x:Nat}(h:w.cell? ⟨p,0,none⟩=some (.int .u32 (x:Nat))) :
  Calls Tryz.prog 254 #[.pointer (some ⟨p,0,none⟩)] w fun e w'=>e=.returned (.bool (!decide (x=0)))/\w=w':=by
 go_enter Tryz.func254,Tryz.ntmps254
 go_wp2
 go_ret
 refine⟨congrArg Ending.returned (congrArg Value.bool (hold_iff ?_)),rfl⟩
 rw [bne_iff_ne,Bool.not_eq_true',decide_eq_false_iff_not]
 omega
theorem all_yes{w:World}{p q x y:Nat}(h:w.cell? ⟨p,0,none⟩=some (.int .u32 (x:Nat)))(k:w.cell? ⟨q,0,none⟩=some (.int .u32 (y:Nat))) :
  Calls Tryz.prog 255 #[.pointer (some ⟨p,0,none⟩),.pointer (some ⟨q,0,none⟩)] w fun e w'=>e=.returned (.bool (decide (x=y)))/\w=w':=by
 go_enter Tryz.func255,Tryz.ntmps255
 go_wp2
 go_ret
 refine⟨congrArg Ending.returned (congrArg Value.bool (hold_iff ?_)),rfl⟩
 rw [beq_iff_eq,decide_eq_true_eq]
 omega
theorem three_at(w:World)(a b c:Obj):(((w.alloc a).alloc b).alloc c).heap[w.heap.size]?=some a/\(((w.alloc a).alloc b).alloc c).heap[w.heap.size+1]?=some b/\(((w.alloc a).alloc b).alloc c).heap[w.heap.size+1+1]?=some c/\Below w.heap.size w (((w.alloc a).alloc b).alloc c):=by
 have s1:=alloc_size w a
 have s2:=alloc_size (w.alloc a) b
 have b1:=alloc_below w a
 have b2:=alloc_below (w.alloc a) b
 have b3:=alloc_below ((w.alloc a).alloc b) c
 refine⟨?_,?_,?_,b1.trans ((b2.mono (by omega)).trans (b3.mono (by omega)))⟩
 ·rw [b3.block _ (by omega),b2.block _ (by omega)];exact alloc_at w a
 ·rw [b3.block _ (by omega),←s1];exact alloc_at _ b
 ·rw [show w.heap.size+1+1=((w.alloc a).alloc b).heap.size by omega];exact alloc_at _ c
theorem asked_any(f g:Nat)(hf:f < 4294967296)(hg:g < 4294967296)(w:World) :
  Calls Tryz.prog 252 #[.int .u32 (f:Nat),.int .u32 (g:Nat)] w fun e w'=>(∃ p q:Nat,e=.returned (.agg #[.func (.func 254) #[] #[.pointer (some ⟨p,0,none⟩)],.func (.func 255) #[] #[.pointer (some ⟨p,0,none⟩),.pointer (some ⟨q,0,none⟩)]])/\w'.cell? ⟨p,0,none⟩=some (.int .u32 ((f &&& g:Nat):Int))/\w'.cell? ⟨q,0,none⟩=some (.int .u32 (g:Nat)))/\Below w.heap.size w w':=by
 have hM:=fun wx=>met_any f g hf hg wx
 have hl:f &&& g < 4294967296:=and_lt hf
 generalize f &&& g=x at *
 go_enter Tryz.func252,Tryz.ntmps252
 go_wp2_with (go_at_call 250;refine(hM _).mono ?_;rintro e wx ⟨rfl,rfl⟩)
 have T:=three_at w (.cells #[.int .u32 (g:Nat)] 22) (.cells #[.func (.func 254) #[] #[.pointer (some ⟨w.heap.size+1+1,0,none⟩)],.func (.func 255) #[] #[.pointer (some ⟨w.heap.size+1+1,0,none⟩),.pointer (some ⟨w.heap.size,0,none⟩)]] 328) (.cells #[.int .u32 (x:Nat)] 22)
 obtain⟨h0,h1,h2,hb⟩:=T
 refine bodyPost_ret (results_cell_row (g:=w.heap.size+1) rfl _ _ _ _ _ (d:=.array 2 30) rfl h1 Tryz.underlying328 rfl (by kernel_rfl)) rfl ?_
 exact⟨⟨_,_,rfl,by rw [cell_of h2];rfl,by rw [cell_of h0];rfl⟩,hb⟩
theorem index_two(fa fb:Nat)(ca cb:Array Value)(W:World) :
  (Instr.index 328 (.agg #[.func (.func fa) #[] ca,.func (.func fb) #[] cb]) (.int .i64 0)).run Tryz.prog W=.ok (.func (.func fa) #[] ca) W/\(Instr.index 328 (.agg #[.func (.func fa) #[] ca,.func (.func fb) #[] cb]) (.int .i64 1)).run Tryz.prog W=.ok (.func (.func fb) #[] cb) W:=by
 constructor <;> simp [Instr.index,asIntOf,run_underlying Tryz.underlying328,part,go_sem]
theorem holds_any(f g:Nat)(hf:f < 4294967296)(hg:g < 4294967296)(all:Bool)(w:World) :
  Calls Tryz.prog 249 #[.int .u32 (f:Nat),.int .u32 (g:Nat),.bool all] w fun e w'=>e=.returned (.bool (hold f g all))/\Below w.heap.size w w':=by
 have hA:=asked_any f g hf hg w
 have hI:=fun wx=>asking_any all wx
 have hX:=fun fa fb ca cb wx=>(index_two fa fb ca cb wx).1
 have hY:=fun fa fb ca cb wx=>(index_two fa fb ca cb wx).2
 cases all
 ·show Calls _ _ _ _ fun e w'=>e=.returned (.bool (!decide (f &&& g=0)))/\_
  generalize f &&& g=x at *
  go_enter Tryz.func249,Tryz.ntmps249
  go_wp2_with (first
   |(go_at_call 252;refine hA.mono ?_;rintro e w1 ⟨⟨p,q,rfl,c1,c2⟩,hb⟩)
   |(go_at_call 253;refine(hI _).mono ?_;rintro e wx ⟨rfl,rfl⟩)
   |(go_at_call 254;refine(any_yes c1).mono ?_;rintro e wx ⟨rfl,rfl⟩))
  go_ret
  exact⟨rfl,hb⟩
 ·show Calls _ _ _ _ fun e w'=>e=.returned (.bool (decide (f &&& g=g)))/\_
  generalize f &&& g=x at *
  go_enter Tryz.func249,Tryz.ntmps249
  go_wp2_with (first
   |(go_at_call 252;refine hA.mono ?_;rintro e w1 ⟨⟨p,q,rfl,c1,c2⟩,hb⟩)
   |(go_at_call 253;refine(hI _).mono ?_;rintro e wx ⟨rfl,rfl⟩)
   |(go_at_call 255;refine(all_yes c1 c2).mono ?_;rintro e wx ⟨rfl,rfl⟩))
  go_ret
  exact⟨rfl,hb⟩
theorem after_any(f g:Nat)(hf:f < 4294967296)(hg:g < 4294967296)(all gone:Bool)(w:World) :
  Calls Tryz.prog 251 #[.int .u32 (f:Nat),.int .u32 (g:Nat),.bool all,.bool gone] w fun e w'=>e=.returned (.int .u32 (aft f g all gone:Nat))/\Below w.heap.size w w':=by
 have hH:=fun wx=>holds_any f g hf hg all wx
 have hA:=u32_andNot_nat f g hf hg
 cases gone
 ·show Calls _ _ _ _ fun e w'=>e=.returned (.int .u32 (f:Nat))/\_
  clear hH hA
  go_enter Tryz.func251,Tryz.ntmps251
  go_wp2
  go_ret
  exact⟨rfl,Below.refl _ _⟩
 ·unfold aft
  rw [Bool.true_and]
  cases q:hold f g all
  ·rw [if_neg (by decide)]
   rw [q] at hH
   go_enter Tryz.func251,Tryz.ntmps251
   go_wp2_with (first
    |(go_at_call 249;refine(hH _).mono ?_;rintro e w1 ⟨rfl,hb⟩))
   go_ret
   exact⟨rfl,hb⟩
  ·rw [if_pos rfl]
   rw [q] at hH
   have hA2:bits .andNot .u32 (f:Int) (g:Int)=((bt f g:Nat):Int):=hA
   clear hA
   generalize bt f g=x at *
   go_enter Tryz.func251,Tryz.ntmps251
   go_wp2_with (first
    |(go_at_call 249;refine(hH _).mono ?_;rintro e w1 ⟨rfl,hb⟩))
   go_ret
   exact⟨rfl,hb⟩
end Go.Proofs.YtbbdndfibjdcfaaGreat.Ob.Mk
namespace Go.Proofs.YtbbdndfibjdcfaaGreat.Ob
open Go Go.RowKit
def Blk(w:World)(g:Nat)(cs:Array Value)(t:TypeId):Prop:=w.heap[g]?=some (.cells cs t (0,0))
theorem Blk.lt{w:World}{g:Nat}{cs:Array Value}{t:TypeId}(h:Blk w g cs t):g < w.heap.size:=at_lt h
theorem Blk.cell{w:World}{g:Nat}{cs:Array Value}{t:TypeId}(h:Blk w g cs t)(i:Nat):w.cell? ⟨g,i,none⟩=cs[i]?:=cell_of h
theorem Blk.free{w:World}{g:Nat}{cs:Array Value}{t:TypeId}(h:Blk w g cs t)(i:Nat):w.frozen? ⟨g,i,none⟩=false:=by unfold Blk at h;simp [World.frozen?,h]
theorem Blk.below{w w':World}{g:Nat}{cs:Array Value}{t:TypeId}(h:Blk w g cs t)(hb:Below w.heap.size w w'):Blk w' g cs t:=(hb.block g h.lt).trans h
theorem Blk.buts{w w':World}{l:List Nat}{g:Nat}{cs:Array Value}{t:TypeId}(h:Blk w g cs t)(hb:Buts l w w')(hg:g ∉ l):Blk w' g cs t:=(hb.block g h.lt hg).trans h
theorem Blk.set{w:World}{g:Nat}{cs:Array Value}{t:TypeId}(h:Blk w g cs t)(k:Nat)(v:Value):Blk (w.setCell ⟨g,k,none⟩ v) g (cs.setIfInBounds k v) t:=by
 have hl:=h.lt
 have hh:=(Array.getElem?_eq_some_iff.1 h).2
 unfold Blk World.setCell
 rw [Array.getElem?_eq_getElem (by simpa using hl),Array.getElem_modify]
 simp [hh]
theorem Blk.ne{w:World}{a b:Nat}{x y:Array Value}{t t':TypeId}(h:Blk w a x t)(k:Blk w b y t')(ht:t≠t'):a≠b:=by
 rintro rfl
 unfold Blk at h k
 rw [h] at k
 simp only [Option.some.injEq,Obj.cells.injEq] at k
 exact ht k.2.1
theorem boxed{w:World}{g:Nat}{cs:Array Value}{t:TypeId}(h:Blk w g cs t)(o:Obj):Blk (w.alloc o) g cs t/\Buts [g] w (w.alloc o):=⟨h.below (alloc_below w o),Buts.of (alloc_below w o)⟩
theorem boxed_set{w:World}{g:Nat}{cs:Array Value}{t:TypeId}(h:Blk w g cs t)(o:Obj)(k:Nat)(v:Value):Blk ((w.setCell ⟨g,k,none⟩ v).alloc o) g (cs.setIfInBounds k v) t/\Buts [g] w ((w.setCell ⟨g,k,none⟩ v).alloc o) :=
 ⟨(h.set k v).below (alloc_below _ o),(Buts.cell w g k v).trans (Buts.of (alloc_below _ o))⟩
theorem drawn{w:World}{g:Nat}{cs:Array Value}{t:TypeId}(h:Blk w g cs t)(o:Obj)(n:Nat):Blk ((w.alloc o).drewN n) g cs t/\Buts [g] w ((w.alloc o).drewN n) :=
 ⟨(boxed h o).1.below (below_drewN _ _),(boxed h o).2.trans (Buts.of (below_drewN _ _))⟩
theorem drawn_set{w:World}{g:Nat}{cs:Array Value}{t:TypeId}(h:Blk w g cs t)(o:Obj)(n k:Nat)(v:Value):Blk (((w.alloc o).drewN n).setCell ⟨g,k,none⟩ v) g (cs.setIfInBounds k v) t/\Buts [g] w (((w.alloc o).drewN n).setCell ⟨g,k,none⟩ v) :=
 ⟨(drawn h o n).1.set k v,(drawn h o n).2.trans (Buts.cell _ _ _ _)⟩
theorem drawn1_set{w:World}{g:Nat}{cs:Array Value}{t:TypeId}(h:Blk w g cs t)(o:Obj)(k:Nat)(v:Value):Blk ((w.setCell ⟨g,k,none⟩ v).alloc o).drew g (cs.setIfInBounds k v) t/\Buts [g] w ((w.setCell ⟨g,k,none⟩ v).alloc o).drew :=
 ⟨(boxed_set h o k v).1,(boxed_set h o k v).2.drew⟩
def semc(n b:Int):Array Value:=#[.int .u32 n,.int .u32 b]
theorem sem_take{w:World}{g:Nat}{n b:Int}(h:Blk w g (semc n b) 245)(hn:0<=n/\n<=4294967295)(who ah av am aw:Int) :
  Calls Tryz.prog 235 #[.pointer (some ⟨g,0,none⟩),.int .u32 who,.agg #[.int .u8 3,.int .u32 ah,.int .u32 av,.int .u32 am,.int .i64 aw]] w fun e w'=>e=.returned (.tuple #[.int .u32 0,.int .i64 (if n=0 then 7 else 0)])/\Blk w' g (semc (if n=0 then n else n - 1) b) 245/\Buts [g] w w':=by
 have HB:Hid (Blk w g (semc n b) 245):=h
 have hlt:=h.lt
 have c0:w.cell? ⟨g,0,none⟩=some (.int .u32 n):=by rw [h.cell];rfl
 have f0:=h.free 0
 clear h
 by_cases e0:n=0
 ·subst e0
  go_enter Tryz.func235,Tryz.ntmps235
  go_wp2
  go_ret2
  exact⟨rfl,boxed HB.out _⟩
 ·have hz:(n == 0)=false:=by simpa using e0
  rw [if_neg e0,if_neg e0]
  go_enter Tryz.func235,Tryz.ntmps235
  go_wp2
  go_ret2
  exact⟨rfl,boxed_set HB.out _ 0 _⟩
theorem sem_give{w:World}{g:Nat}{n b:Int}(h:Blk w g (semc n b) 245)(hn:0<=n/\n<=b)(hb:b<=1073741824)(who ah av am aw:Int) :
  Calls Tryz.prog 235 #[.pointer (some ⟨g,0,none⟩),.int .u32 who,.agg #[.int .u8 4,.int .u32 ah,.int .u32 av,.int .u32 am,.int .i64 aw]] w fun e w'=>e=.returned (.tuple #[.int .u32 0,.int .i64 (if n=b then 10 else 0)])/\Blk w' g (semc (if n=b then n else n+1) b) 245/\Buts [g] w w':=by
 have HB:Hid (Blk w g (semc n b) 245):=h
 have hlt:=h.lt
 have c0:w.cell? ⟨g,0,none⟩=some (.int .u32 n):=by rw [h.cell];rfl
 have c1:w.cell? ⟨g,1,none⟩=some (.int .u32 b):=by rw [h.cell];rfl
 have f0:=h.free 0
 clear h
 by_cases e0:n=b
 ·subst e0
  rw [if_pos rfl,if_pos rfl]
  go_enter Tryz.func235,Tryz.ntmps235
  go_wp2
  go_quiet ((fail))
  go_wp2
  go_ret2
  exact⟨rfl,drawn HB.out _ _⟩
 ·have hz:(n == b)=false:=by simpa using e0
  rw [if_neg e0,if_neg e0]
  go_enter Tryz.func235,Tryz.ntmps235
  go_wp2
  go_quiet ((fail))
  go_wp2
  go_ret2
  exact⟨rfl,drawn_set HB.out _ _ 0 _⟩
def onec(n:Int):Array Value:=#[.int .u32 n]
theorem mut_lock{w:World}{g:Nat}{o:Int}(h:Blk w g (onec o) 248)(who ah av am aw:Int) :
  Calls Tryz.prog 236 #[.pointer (some ⟨g,0,none⟩),.int .u32 who,.agg #[.int .u8 5,.int .u32 ah,.int .u32 av,.int .u32 am,.int .i64 aw]] w fun e w'=>e=.returned (.tuple #[.int .u32 0,.int .i64 (if o=who then 13 else if o≠0 then 7 else 0)])/\Blk w' g (onec (if o=who then o else if o≠0 then o else who)) 248/\Buts [g] w w':=by
 have HB:Hid (Blk w g (onec o) 248):=h
 have hlt:=h.lt
 have c0:w.cell? ⟨g,0,none⟩=some (.int .u32 o):=by rw [h.cell];rfl
 have f0:=h.free 0
 clear h
 by_cases e0:o=who
 ·subst e0
  rw [if_pos rfl,if_pos rfl]
  go_enter Tryz.func236,Tryz.ntmps236
  go_wp2
  go_ret2
  exact⟨rfl,boxed HB.out _⟩
 ·have hz:(o == who)=false:=by simpa using e0
  rw [if_neg e0,if_neg e0]
  by_cases e1:o=0
  ·subst e1
   rw [if_neg (by decide),if_neg (by decide)]
   go_enter Tryz.func236,Tryz.ntmps236
   go_wp2
   go_ret2
   exact⟨rfl,boxed_set HB.out _ 0 _⟩
  ·have hn:(o != 0)=true:=by simpa using e1
   rw [if_pos e1,if_pos e1]
   go_enter Tryz.func236,Tryz.ntmps236
   go_wp2
   go_ret2
   exact⟨rfl,boxed HB.out _⟩
theorem mut_unlock{w:World}{g:Nat}{o:Int}(h:Blk w g (onec o) 248)(who ah av am aw:Int) :
  Calls Tryz.prog 236 #[.pointer (some ⟨g,0,none⟩),.int .u32 who,.agg #[.int .u8 6,.int .u32 ah,.int .u32 av,.int .u32 am,.int .i64 aw]] w fun e w'=>e=.returned (.tuple #[.int .u32 0,.int .i64 (if o=who then 0 else 13)])/\Blk w' g (onec (if o=who then 0 else o)) 248/\Buts [g] w w':=by
 have HB:Hid (Blk w g (onec o) 248):=h
 have hlt:=h.lt
 have c0:w.cell? ⟨g,0,none⟩=some (.int .u32 o):=by rw [h.cell];rfl
 have f0:=h.free 0
 clear h
 by_cases e0:o=who
 ·subst e0
  rw [if_pos rfl,if_pos rfl]
  have hz:(o != o)=false:=by simp
  go_enter Tryz.func236,Tryz.ntmps236
  go_wp2
  go_ret2
  exact⟨rfl,boxed_set HB.out _ 0 _⟩
 ·have hz:(o != who)=true:=by simpa using e0
  rw [if_neg e0,if_neg e0]
  go_enter Tryz.func236,Tryz.ntmps236
  go_wp2
  go_ret2
  exact⟨rfl,boxed HB.out _⟩
theorem ala_any{w:World}{g:Nat}(who wh ah av am aw:Int) :
  Calls Tryz.prog 260 #[.pointer (some ⟨g,0,none⟩),.int .u32 who,.agg #[.int .u8 wh,.int .u32 ah,.int .u32 av,.int .u32 am,.int .i64 aw]] w fun e w'=>e=.returned (.tuple #[.int .u32 0,.int .i64 1])/\Below w.heap.size w w':=by
 go_enter Tryz.func260,Tryz.ntmps260
 go_wp2
 go_ret2
 exact⟨rfl,alloc_below _ _⟩
theorem notYet_any(e0:Int)(w:World):Calls Tryz.prog 239 #[.int .i64 e0] w fun e w'=>e=.returned (.int .i64 (if e0=10∨e0=11 then 7 else e0))/\w=w':=by
 by_cases h1:e0=10
 ·subst h1
  go_enter Tryz.func239,Tryz.ntmps239
  go_wp2
  go_ret
  exact⟨rfl,rfl⟩
 ·have hz:(e0 == 10)=false:=by simpa using h1
  by_cases h2:e0=11
  ·subst h2
   go_enter Tryz.func239,Tryz.ntmps239
   go_wp2
   go_ret
   exact⟨rfl,rfl⟩
  ·have hy:(e0 == 11)=false:=by simpa using h2
   rw [if_neg (by omega)]
   go_enter Tryz.func239,Tryz.ntmps239
   go_wp2
   go_ret
   exact⟨rfl,rfl⟩
theorem flg_raise{w:World}{g:Nat}{f v:Nat}(h:Blk w g (onec f) 257)(hf:f < 4294967296)(hv:v < 4294967296)(who ah am aw:Int) :
  Calls Tryz.prog 248 #[.pointer (some ⟨g,0,none⟩),.int .u32 who,.agg #[.int .u8 12,.int .u32 ah,.int .u32 (v:Nat),.int .u32 am,.int .i64 aw]] w fun e w'=>e=.returned (.tuple #[.int .u32 ((f ||| v:Nat):Int),.int .i64 0])/\Blk w' g (onec ((f ||| v:Nat):Int)) 257/\Buts [g] w w':=by
 have HB:Hid (Blk w g (onec f) 257):=h
 have hlt:=h.lt
 have c0:w.cell? ⟨g,0,none⟩=some (.int .u32 f):=by rw [h.cell];rfl
 have f0:=h.free 0
 have eq:bits .or .u32 (f:Int) (v:Int)=((f ||| v:Nat):Int):=u32_or_nat f v hf hv
 have hl:f ||| v < 4294967296:=Mk.or_lt hf hv
 clear h
 generalize f ||| v=x at *
 go_enter Tryz.func248,Tryz.ntmps248
 go_wp2
 go_region
 all_goals
  go_wp2
  go_ret2
  exact⟨rfl,drawn1_set HB.out _ 0 _⟩
theorem flg_lower{w:World}{g:Nat}{f v:Nat}(h:Blk w g (onec f) 257)(hf:f < 4294967296)(hv:v < 4294967296)(who ah am aw:Int) :
  Calls Tryz.prog 248 #[.pointer (some ⟨g,0,none⟩),.int .u32 who,.agg #[.int .u8 13,.int .u32 ah,.int .u32 (v:Nat),.int .u32 am,.int .i64 aw]] w fun e w'=>e=.returned (.tuple #[.int .u32 ((Mk.bt f v:Nat):Int),.int .i64 0])/\Blk w' g (onec ((Mk.bt f v:Nat):Int)) 257/\Buts [g] w w':=by
 have HB:Hid (Blk w g (onec f) 257):=h
 have hlt:=h.lt
 have c0:w.cell? ⟨g,0,none⟩=some (.int .u32 f):=by rw [h.cell];rfl
 have f0:=h.free 0
 have eq:bits .andNot .u32 (f:Int) (v:Int)=((Mk.bt f v:Nat):Int):=u32_andNot_nat f v hf hv
 have hl:Mk.bt f v < 4294967296:=Mk.bt_lt hf
 clear h
 generalize Mk.bt f v=x at *
 go_enter Tryz.func248,Tryz.ntmps248
 go_wp2
 go_region
 all_goals
  go_wp2
  go_ret2
  exact⟨rfl,drawn1_set HB.out _ 0 _⟩
end Go.Proofs.YtbbdndfibjdcfaaGreat.Ob
namespace Go.Proofs.YtbbdndfibjdcfaaGreat.Ob.Pl
open Go Go.RowKit
def isW(zs:List Int):Prop:=∀ z∈zs,0<=z/\z<=4294967295
theorem isW_zero(n:Nat):isW (List.replicate n 0):=by
 intro z hz
 rw [(List.mem_replicate.1 hz).2];exact⟨by decide,by decide⟩
structure But (g:Nat) (w w':World):Prop where
 os:w'.os=w.os
 tape:w'.tape=w.tape
 output:w'.output=w.output
 size:w.heap.size<=w'.heap.size
 block:∀ k,k < w.heap.size->k≠g->w'.heap[k]?=w.heap[k]?
theorem But.of{g:Nat}{w w':World}(h:Below w.heap.size w w'):But g w w':=⟨h.os,h.tape,h.output,h.size,fun k hk _=>h.block k hk⟩
theorem But.trans{g:Nat}{a b c:World}(h:But g a b)(k:But g b c):But g a c :=
 ⟨k.os.trans h.os,k.tape.trans h.tape,k.output.trans h.output,Nat.le_trans h.size k.size,fun i hi hg=>(k.block i (Nat.lt_of_lt_of_le hi h.size) hg).trans (h.block i hi hg)⟩
theorem But.setCell(w:World)(g k:Nat)(v:Value):But g w (w.setCell ⟨g,k,none⟩ v) :=
 ⟨rfl,rfl,rfl,by simp [World.setCell],fun j hj hg=>Below.heap_setCell _ _ _ _ hg⟩
theorem isW_set{zs:List Int}(h:isW zs)(k:Nat){v:Int}(hv:0<=v/\v<=4294967295):isW (zs.set k v):=by
 intro z hz
 rcases List.mem_or_eq_of_mem_set hz with hz | rfl
 ·exact h z hz
 ·exact hv
structure Pool (w:World) (p n:Nat) (zs:List Int):Prop where
 head:w.heap[p]?=some (.cells (Value.int .i64 n :: wrd (zs ++ List.replicate (64 - n) 0)).toArray 293 (0,0))
 len:zs.length=n
 lo:1<=n
 hi:n<=64
 wf:isW zs
theorem Pool.lt{w:World}{p n:Nat}{zs:List Int}(h:Pool w p n zs):p < w.heap.size:=at_lt h.head
theorem Pool.below{w w':World}{p n:Nat}{zs:List Int}(h:Pool w p n zs)(hb:Below w.heap.size w w'):Pool w' p n zs :=
 ⟨(hb.block p (at_lt h.head)).trans h.head,h.len,h.lo,h.hi,h.wf⟩
theorem Pool.same{w w':World}{p n:Nat}{zs:List Int}(h:Pool w p n zs)(hb:w'.heap[p]?=w.heap[p]?):Pool w' p n zs :=
 ⟨hb.trans h.head,h.len,h.lo,h.hi,h.wf⟩
theorem Pool.many{w:World}{p n:Nat}{zs:List Int}(h:Pool w p n zs):w.cell? ⟨p,0,none⟩=some (.int .i64 n):=by rw [cell_of h.head];rfl
theorem Pool.free{w:World}{p n:Nat}{zs:List Int}(h:Pool w p n zs)(i:Nat):w.frozen? ⟨p,i,none⟩=false:=by simp [World.frozen?,h.head]
theorem Pool.cell{w:World}{p n:Nat}{zs:List Int}(h:Pool w p n zs)(i:Nat)(hi:i < n):w.cell? ⟨p,1+i,none⟩=some (.int .u32 (zs.getD i 0)):=by
 have hl:=h.len
 rw [cell_of h.head,Nat.add_comm 1 i]
 simp only [List.getElem?_toArray,List.getElem?_cons_succ]
 rw [wrd_at _ i (by simp;omega)]
 simp [List.getElem?_append_left (show i < zs.length by omega)]
theorem Pool.set{w:World}{p n k:Nat}{zs:List Int}(h:Pool w p n zs)(hk:k < n){v:Int}(hv:0<=v/\v<=4294967295):Pool (w.setCell ⟨p,1+k,none⟩ (.int .u32 v)) p n (zs.set k v):=by
 have hl:=h.lt
 have hz:=h.len
 have hh:w.heap[p]=.cells (Value.int .i64 n :: wrd (zs ++ List.replicate (64 - n) 0)).toArray 293 (0,0):=(Array.getElem?_eq_some_iff.1 h.head).2
 refine⟨?_,by rw [List.length_set];exact hz,h.lo,h.hi,isW_set h.wf k hv⟩
 unfold World.setCell
 rw [Array.getElem?_eq_getElem (by simpa using hl),Array.getElem_modify]
 simp only [hh,Nat.add_comm 1 k]
 simp [wrd,show k < zs.length by omega]
theorem infoW:(Tryz.prog.info? 22).map (fun i=>(i.zero,i.size,i.bytes))=some (some (.int .u32 0),1,4):=by kernel_rfl
theorem there_yes{w:World}{p n:Nat}(h0:w.cell? ⟨p,0,none⟩=some (.int .i64 n))(hn:1<=n) :
  Calls Tryz.prog 213 #[.pointer (some ⟨p,0,none⟩)] w fun e w'=>e=.returned (.bool true)/\w'=w:=by
 have hlt:0 < n:=by omega
 go_enter Tryz.func213,Tryz.ntmps213
 go_wp2
 go_ret
 exact⟨rfl,rfl⟩
theorem each_alloc{w:World}{p n:Nat}(c1 c2 c3:Value)(I:Nat->World->Prop)(R:World->Prop)(go:Nat->Bool)(h1:1<=n)(hn:n<=64)(h0:w.cell? ⟨p,0,none⟩=some (.int .i64 n))(hI:I 0 w)
  (yes:∀ i wx,i < n->go i=true->I i wx->Calls Tryz.prog 259 #[.int .i64 i,.pointer (some ⟨p,1+i,none⟩),c1,c2,c3] wx fun e w'=>e=.returned (.bool true)/\I (i+1) w')
  (no:∀ i wx,i < n->go i=false->I i wx->Calls Tryz.prog 259 #[.int .i64 i,.pointer (some ⟨p,1+i,none⟩),c1,c2,c3] wx fun e w'=>e=.returned (.bool false)/\R w') :
  Calls Tryz.prog 197 #[.pointer (some ⟨p,0,none⟩),.func (.func 259) #[] #[c1,c2,c3]] w fun e w'=>e=.returned (.tuple #[])/\(I n w'∨R w'):=by
 have HI:Hid (I 0 w):=hI
 clear hI
 go_enter Tryz.func197,Tryz.ntmps197
 go_wp2_with (go_at_call 213;refine(there_yes h0 h1).mono ?_;rintro e wx ⟨rfl,rfl⟩)
 go_loopg [12] n (fun g s12 wx=>∃ i:Nat,i+g=n/\s12=.int .i64 i/\Hid (I i wx))
 case atStart=>exact⟨0,by omega,rfl,HI⟩
 case round =>
  clear HI h0
  obtain⟨i,hig,rfl,HI⟩:=hrel
  cases gk with
  | zero =>
   have hlt:¬ ((i:Int) < n):=by omega
   go_wp2
   go_end0
   obtain rfl:i=n:=by omega
   exact⟨rfl,Or.inl HI.out⟩
  | succ g =>
   have hlt:(i:Int) < n:=by omega
   have hlt2:(i:Int) < 64:=by omega
   by_cases hgo:go i=true
   ·go_wp2_with (go_at_call 259;refine(yes i _ (by omega) hgo HI.out).mono ?_;rintro e w2 ⟨rfl,hI2⟩;have HI2:Hid (I (i+1) w2):=hI2;clear hI2)
    go_roundg g
    case measure=>omega
    case rel=>exact⟨i+1,by omega,by go_num,HI2⟩
   ·go_wp2_with (go_at_call 259;refine(no i _ (by omega) (by simpa using hgo) HI.out).mono ?_;rintro e w2 ⟨rfl,hR2⟩;have HR2:Hid (R w2):=hR2;clear hR2)
    exact bodyPost_ret (v:=.tuple #[]) (by simp [results,Tryz.results197,go_sem]) rfl ⟨rfl,Or.inr HR2.out⟩
theorem each_all{w:World}{p n:Nat}(c1 c2:Value)(I:Nat->World->Prop)(h1:1<=n)(hn:n<=64)(h0:w.cell? ⟨p,0,none⟩=some (.int .i64 n))(hI:I 0 w)
  (yes:∀ i wx,i < n->I i wx->Calls Tryz.prog 205 #[.int .i64 i,.pointer (some ⟨p,1+i,none⟩),c1,c2] wx fun e w'=>e=.returned (.bool true)/\I (i+1) w') :
  Calls Tryz.prog 197 #[.pointer (some ⟨p,0,none⟩),.func (.func 205) #[] #[c1,c2]] w fun e w'=>e=.returned (.tuple #[])/\I n w':=by
 have HI:Hid (I 0 w):=hI
 clear hI
 go_enter Tryz.func197,Tryz.ntmps197
 go_wp2_with (go_at_call 213;refine(there_yes h0 h1).mono ?_;rintro e wx ⟨rfl,rfl⟩)
 go_loopg [12] n (fun g s12 wx=>∃ i:Nat,i+g=n/\s12=.int .i64 i/\Hid (I i wx))
 case atStart=>exact⟨0,by omega,rfl,HI⟩
 case round =>
  clear HI h0
  obtain⟨i,hig,rfl,HI⟩:=hrel
  cases gk with
  | zero =>
   have hlt:¬ ((i:Int) < n):=by omega
   go_wp2
   go_end0
   obtain rfl:i=n:=by omega
   exact⟨rfl,HI.out⟩
  | succ g =>
   have hlt:(i:Int) < n:=by omega
   have hlt2:(i:Int) < 64:=by omega
   go_wp2_with (go_at_call 205;refine(yes i _ (by omega) HI.out).mono ?_;rintro e w2 ⟨rfl,hI2⟩;have HI2:Hid (I (i+1) w2):=hI2;clear hI2)
   go_roundg g
   case measure=>omega
   case rel=>exact⟨i+1,by omega,by go_num,HI2⟩
theorem each_own{w:World}{p n:Nat}(c1:Value)(I:Nat->World->Prop)(h1:1<=n)(hn:n<=64)(h0:w.cell? ⟨p,0,none⟩=some (.int .i64 n))(hI:I 0 w)
  (yes:∀ i wx,i < n->I i wx->Calls Tryz.prog 199 #[.int .i64 i,.pointer (some ⟨p,1+i,none⟩),c1] wx fun e w'=>e=.returned (.bool true)/\I (i+1) w') :
  Calls Tryz.prog 197 #[.pointer (some ⟨p,0,none⟩),.func (.func 199) #[] #[c1]] w fun e w'=>e=.returned (.tuple #[])/\I n w':=by
 have HI:Hid (I 0 w):=hI
 clear hI
 go_enter Tryz.func197,Tryz.ntmps197
 go_wp2_with (go_at_call 213;refine(there_yes h0 h1).mono ?_;rintro e wx ⟨rfl,rfl⟩)
 go_loopg [12] n (fun g s12 wx=>∃ i:Nat,i+g=n/\s12=.int .i64 i/\Hid (I i wx))
 case atStart=>exact⟨0,by omega,rfl,HI⟩
 case round =>
  clear HI h0
  obtain⟨i,hig,rfl,HI⟩:=hrel
  cases gk with
  | zero =>
   have hlt:¬ ((i:Int) < n):=by omega
   go_wp2
   go_end0
   obtain rfl:i=n:=by omega
   exact⟨rfl,HI.out⟩
  | succ g =>
   have hlt:(i:Int) < n:=by omega
   have hlt2:(i:Int) < 64:=by omega
   go_wp2_with (go_at_call 199;refine(yes i _ (by omega) HI.out).mono ?_;rintro e w2 ⟨rfl,hI2⟩;have HI2:Hid (I (i+1) w2):=hI2;clear hI2)
   go_roundg g
   case measure=>omega
   case rel=>exact⟨i+1,by omega,by go_num,HI2⟩
theorem each_left{w:World}{p n:Nat}(c1:Value)(I:Nat->World->Prop)(h1:1<=n)(hn:n<=64)(h0:w.cell? ⟨p,0,none⟩=some (.int .i64 n))(hI:I 0 w)
  (yes:∀ i wx,i < n->I i wx->Calls Tryz.prog 198 #[.int .i64 i,.pointer (some ⟨p,1+i,none⟩),c1] wx fun e w'=>e=.returned (.bool true)/\I (i+1) w') :
  Calls Tryz.prog 197 #[.pointer (some ⟨p,0,none⟩),.func (.func 198) #[] #[c1]] w fun e w'=>e=.returned (.tuple #[])/\I n w':=by
 have HI:Hid (I 0 w):=hI
 clear hI
 go_enter Tryz.func197,Tryz.ntmps197
 go_wp2_with (go_at_call 213;refine(there_yes h0 h1).mono ?_;rintro e wx ⟨rfl,rfl⟩)
 go_loopg [12] n (fun g s12 wx=>∃ i:Nat,i+g=n/\s12=.int .i64 i/\Hid (I i wx))
 case atStart=>exact⟨0,by omega,rfl,HI⟩
 case round =>
  clear HI h0
  obtain⟨i,hig,rfl,HI⟩:=hrel
  cases gk with
  | zero =>
   have hlt:¬ ((i:Int) < n):=by omega
   go_wp2
   go_end0
   obtain rfl:i=n:=by omega
   exact⟨rfl,HI.out⟩
  | succ g =>
   have hlt:(i:Int) < n:=by omega
   have hlt2:(i:Int) < 64:=by omega
   go_wp2_with (go_at_call 198;refine(yes i _ (by omega) HI.out).mono ?_;rintro e w2 ⟨rfl,hI2⟩;have HI2:Hid (I (i+1) w2):=hI2;clear hI2)
   go_roundg g
   case measure=>omega
   case rel=>exact⟨i+1,by omega,by go_num,HI2⟩
structure Buts (l:List Nat) (w w':World):Prop where
 os:w'.os=w.os
 tape:w'.tape=w.tape
 output:w'.output=w.output
 size:w.heap.size<=w'.heap.size
 block:∀ k,k < w.heap.size->k ∉ l->w'.heap[k]?=w.heap[k]?
theorem Buts.refl(l:List Nat)(w:World):Buts l w w:=⟨rfl,rfl,rfl,Nat.le_refl _,fun _ _ _=>rfl⟩
theorem Buts.trans{l:List Nat}{a b c:World}(h:Buts l a b)(k:Buts l b c):Buts l a c :=
 ⟨k.os.trans h.os,k.tape.trans h.tape,k.output.trans h.output,Nat.le_trans h.size k.size,fun i hi hg=>(k.block i (Nat.lt_of_lt_of_le hi h.size) hg).trans (h.block i hi hg)⟩
theorem Buts.mono{l m:List Nat}{a b:World}(h:Buts l a b)(hm:∀ x∈l,x∈m):Buts m a b :=
 ⟨h.os,h.tape,h.output,h.size,fun i hi hg=>h.block i hi fun e=>hg (hm i e)⟩
theorem Buts.of{l:List Nat}{w w':World}(h:Below w.heap.size w w'):Buts l w w':=⟨h.os,h.tape,h.output,h.size,fun k hk _=>h.block k hk⟩
theorem Buts.below{l:List Nat}{B:Nat}{w w':World}(h:Buts l w w')(hg:∀ x∈l,B<=x)(hB:B<=w.heap.size):Below B w w' :=
 ⟨h.os,h.tape,h.output,h.size,fun k hk=>h.block k (by omega) (fun e=>by have:=hg k e;omega)⟩
theorem Buts.cell(w:World)(g k:Nat)(v:Value):Buts [g] w (w.setCell ⟨g,k,none⟩ v) :=
 ⟨rfl,rfl,rfl,by simp [World.setCell],fun j hj hg=>Below.heap_setCell _ _ _ _ (by simpa using hg)⟩
theorem Buts.grown{w w':World}{row:Option Nat}(h:w.grownBy w' row):Buts row.toList w w' :=
 ⟨h.os,h.tape,h.output,h.size,fun k hk hg=>h.block k hk (fun e=>hg (by rw [←e];simp))⟩
theorem owns_buts{w w':World}{B:Nat}{e:TypeId}{s:Nat}{v:Value}{n:Nat}{xs:List Value}{l:List Nat}(h:w.ownsRow B e s v n xs)(hb:Buts l w w')(hl:∀ g,v.ownBlock=some g->g ∉ l):w'.ownsRow B e s v n xs :=
 owns_of h fun g hg=>hb.block g (h.lt g hg).2 (hl g hg)
def zc(n:Int):Array Value:=(Value.int .i64 n :: wrd (List.replicate 64 0)).toArray
theorem zinfo:(Tryz.prog.info? 293).map (fun i=>i.zero)=some (some (.agg (zc 0))):=by kernel_rfl
theorem zval(w:World):Sem.run Tryz.prog (zeroValue 293) w=.ok (.agg (zc 0)) w:=by
 obtain⟨i,hi,he⟩:=Option.map_eq_some_iff.1 zinfo
 simp [zeroValue,typeInfo,hi,he]
theorem zc_ne(n:Int):¬ zc n=#[]:=by simp [zc]
theorem zc_set(n m:Int):(zc n).setIfInBounds 0 (.int .i64 m)=zc m:=by simp [zc]
theorem zc_pool(w:World)(n:Nat)(h1:1<=n)(hn:n<=64):Pool (w.alloc (.cells (zc n) 293)) w.heap.size n (List.replicate n 0):=by
 refine⟨?_,by simp,h1,hn,isW_zero n⟩
 rw [alloc_at,List.replicate_append_replicate,show n+(64 - n)=64 by omega]
 rfl
theorem new_yes{w:World}(n:Nat)(s:Int)(h1:1<=n)(hn:n<=64)(hs:1<=s/\s<=256) :
  Calls Tryz.prog 160 #[.int .i64 n,.int .i64 s] w fun e w'=>e=.returned (.tuple #[.pointer (some ⟨w.heap.size,0,none⟩),.int .i64 0])/\Pool w' w.heap.size n (List.replicate n 0)/\Below w.heap.size w w':=by
 have a1:¬ (n:Int) < 1:=by omega
 have a2:¬ (64:Int) < n:=by omega
 have a3:¬ s < 1:=by omega
 have a4:¬ (256:Int) < s:=by omega
 have z1:=zval
 have z2:=zc_ne 0
 have z3:=zc_set 0 n
 have hp:=zc_pool w n h1 hn
 have hb:=alloc_below w (.cells (zc n) 293)
 go_enter Tryz.func160,Tryz.ntmps160
 go_wp2
 go_ret2
 exact⟨rfl,hp,hb⟩
theorem new_no{w:World}(n s:Int)(h:n < 1∨64 < n∨s < 1∨256 < s) :
  Calls Tryz.prog 160 #[.int .i64 n,.int .i64 s] w fun e w'=>e=.returned (.tuple #[.pointer none,.int .i64 1])/\w'=w:=by
 by_cases h1:n < 1
 ·go_enter Tryz.func160,Tryz.ntmps160
  go_wp2
  go_ret2
  exact⟨rfl,rfl⟩
 ·by_cases h2:64 < n
  ·go_enter Tryz.func160,Tryz.ntmps160
   go_wp2
   go_ret2
   exact⟨rfl,rfl⟩
  ·by_cases h3:s < 1
   ·go_enter Tryz.func160,Tryz.ntmps160
    go_wp2
    go_ret2
    exact⟨rfl,rfl⟩
   ·have h4:256 < s:=by omega
    go_enter Tryz.func160,Tryz.ntmps160
    go_wp2
    go_ret2
    exact⟨rfl,rfl⟩
theorem free_no{w:World}{p n:Nat}{zs:List Int}(h:Pool w p n zs)(who b:Int)(hw:0<=who)(hb:who=0∨b < 0∨(n:Int)<=b) :
  Calls Tryz.prog 258 #[.pointer (some ⟨p,0,none⟩),.int .u32 who,.int .i64 b] w fun e w'=>e=.returned (.int .i64 1)/\w'=w:=by
 have hm:=h.many
 have h1:=h.lo
 clear h
 by_cases c0:who=0
 ·subst c0
  go_enter Tryz.func258,Tryz.ntmps258
  go_wp2_with (go_at_call 213;refine(there_yes hm h1).mono ?_;rintro e wx ⟨rfl,rfl⟩)
  go_ret
  exact⟨rfl,rfl⟩
 ·have c0':(who == 0)=false:=by simpa using c0
  by_cases c1:b < 0
  ·go_enter Tryz.func258,Tryz.ntmps258
   go_wp2_with (go_at_call 213;refine(there_yes hm h1).mono ?_;rintro e wx ⟨rfl,rfl⟩)
   go_ret
   exact⟨rfl,rfl⟩
  ·have c2:(n:Int)<=b:=by omega
   go_enter Tryz.func258,Tryz.ntmps258
   go_wp2_with (go_at_call 213;refine(there_yes hm h1).mono ?_;rintro e wx ⟨rfl,rfl⟩)
   go_ret
   exact⟨rfl,rfl⟩
theorem free_other{w:World}{p n:Nat}{zs:List Int}(h:Pool w p n zs)(who:Int)(b:Nat)(hw:0 < who)(hb:b < n)(ho:zs.getD b 0≠who) :
  Calls Tryz.prog 258 #[.pointer (some ⟨p,0,none⟩),.int .u32 who,.int .i64 b] w fun e w'=>e=.returned (.int .i64 13)/\w'=w:=by
 have hm:=h.many
 have h1:=h.lo
 have hc:=h.cell b hb
 have hn:=h.hi
 clear h
 generalize zs.getD b 0=z at *
 have c0':(who == 0)=false:=by simp;omega
 have ho':(z == who)=false:=by simpa using ho
 have hb':(b:Int) < n:=by omega
 have hb2:(b:Int) < 64:=by omega
 go_enter Tryz.func258,Tryz.ntmps258
 go_wp2_with (go_at_call 213;refine(there_yes hm h1).mono ?_;rintro e wx ⟨rfl,rfl⟩)
 go_ret
 exact⟨rfl,rfl⟩
theorem free_yes{w:World}{p n:Nat}{zs:List Int}(h:Pool w p n zs)(who:Int)(b:Nat)(hw:0 < who)(hb:b < n)(ho:zs.getD b 0=who) :
  Calls Tryz.prog 258 #[.pointer (some ⟨p,0,none⟩),.int .u32 who,.int .i64 b] w fun e w'=>e=.returned (.int .i64 0)/\Pool w' p n (zs.set b 0)/\But p w w':=by
 have hm:=h.many
 have h1:=h.lo
 have hc:=h.cell b hb
 have hn:=h.hi
 have hf:=h.free (1+b)
 have hset:=h.set hb (v:=0) (by omega)
 have hbut:=But.setCell w p (1+b) (.int .u32 0)
 clear h
 rw [ho] at hc
 clear ho
 have c0':(who == 0)=false:=by simp;omega
 have hb':(b:Int) < n:=by omega
 have hb2:(b:Int) < 64:=by omega
 go_enter Tryz.func258,Tryz.ntmps258
 go_wp2_with (go_at_call 213;refine(there_yes hm h1).mono ?_;rintro e wx ⟨rfl,rfl⟩)
 go_ret
 exact⟨rfl,hset,hbut⟩
def One(w:World)(b:Nat)(t:TypeId)(v:Value):Prop:=w.heap[b]?=some (.cells #[v] t (0,0))
theorem One.cell{w:World}{b:Nat}{t:TypeId}{v:Value}(h:One w b t v):w.cell? ⟨b,0,none⟩=some v:=by rw [cell_of h];rfl
theorem One.free{w:World}{b:Nat}{t:TypeId}{v:Value}(h:One w b t v):w.frozen? ⟨b,0,none⟩=false:=by unfold One at h;simp [World.frozen?,h]
theorem One.lt{w:World}{b:Nat}{t:TypeId}{v:Value}(h:One w b t v):b < w.heap.size:=at_lt h
theorem One.set{w:World}{b:Nat}{t:TypeId}{v:Value}(h:One w b t v)(u:Value):One (w.setCell ⟨b,0,none⟩ u) b t u:=by
 have hl:=at_lt h
 have hv:w.heap[b]=.cells #[v] t (0,0):=(Array.getElem?_eq_some_iff.1 h).2
 unfold One World.setCell
 rw [Array.getElem?_eq_getElem (by simpa using hl),Array.getElem_modify]
 simp [hv]
theorem One.other{w:World}{b g k:Nat}{t:TypeId}{v:Value}(h:One w b t v)(u:Value)(hg:b≠g):One (w.setCell ⟨g,k,none⟩ u) b t v:=by
 unfold One at h ⊢;rw [Below.heap_setCell _ _ _ _ hg];exact h
theorem One.below{w w':World}{b:Nat}{t:TypeId}{v:Value}(h:One w b t v)(hb:Below w.heap.size w w'):One w' b t v:=(hb.block b h.lt).trans h
theorem One.new(w:World)(t:TypeId)(v:Value):One (w.alloc (.cells #[v] t)) w.heap.size t v:=alloc_at w _
theorem Pool.other{w:World}{p n g k:Nat}{zs:List Int}(h:Pool w p n zs)(u:Value)(hg:p≠g):Pool (w.setCell ⟨g,k,none⟩ u) p n zs:=h.same (Below.heap_setCell _ _ _ _ hg)
theorem cAlloc_yes{w:World}{p i b1 b2 b3:Nat}{z:Int}(hc:w.cell? ⟨p,1+i,none⟩=some (.int .u32 z))(hz:z≠0) :
  Calls Tryz.prog 259 #[.int .i64 i,.pointer (some ⟨p,1+i,none⟩),.pointer (some ⟨b1,0,none⟩),.pointer (some ⟨b2,0,none⟩),.pointer (some ⟨b3,0,none⟩)] w fun e w'=>e=.returned (.bool true)/\w'=w:=by
 have hz':(z == 0)=false:=by simpa using hz
 go_enter Tryz.func259,Tryz.ntmps259
 go_wp2
 go_ret
 exact⟨rfl,rfl⟩
theorem cAlloc_no{w:World}{p n i b1 b2 b3:Nat}{zs:List Int}{who x y:Int}(hp:Pool w p n zs)(hi:i < n)(hz:zs.getD i 0=0)(h1:One w b1 22 (.int .u32 who))(h2:One w b2 3 (.int .i64 x))(h3:One w b3 27 (.int .i64 y))(n1:p≠b1)(n2:p≠b2)(n3:p≠b3)(m3:b2≠b3)(hw:0<=who/\who<=4294967295) :
  Calls Tryz.prog 259 #[.int .i64 i,.pointer (some ⟨p,1+i,none⟩),.pointer (some ⟨b1,0,none⟩),.pointer (some ⟨b2,0,none⟩),.pointer (some ⟨b3,0,none⟩)] w fun e w'=>e=.returned (.bool false)/\Pool w' p n (zs.set i who)/\One w' b2 3 (.int .i64 i)/\One w' b3 27 (.int .i64 0)/\Buts [p,b2,b3] w w':=by
 have hc:=hp.cell i hi
 rw [hz] at hc
 have hf:=hp.free (1+i)
 have c1:=h1.cell
 have P1:=hp.set hi hw
 have o2:=h2.other (k:=1+i) (.int .u32 who) (Ne.symm n2)
 have o3:=h3.other (k:=1+i) (.int .u32 who) (Ne.symm n3)
 have B1:=Buts.cell w p (1+i) (.int .u32 who)
 generalize hw1:w.setCell ⟨p,1+i,none⟩ (.int .u32 who)=w1 at *
 have P2:=P1.other (k:=0) (.int .i64 i) n2
 have q2:=o2.set (.int .i64 i)
 have q3:=o3.other (k:=0) (.int .i64 i) (Ne.symm m3)
 have B2:=Buts.cell w1 b2 0 (.int .i64 i)
 have d2:=o2.cell
 have e2:=o2.free
 generalize hw2:w1.setCell ⟨b2,0,none⟩ (.int .i64 i)=w2 at *
 have P3:=P2.other (k:=0) (.int .i64 0) n3
 have r2:=q2.other (k:=0) (.int .i64 0) m3
 have r3:=q3.set (.int .i64 0)
 have B3:=Buts.cell w2 b3 0 (.int .i64 0)
 have d3:=q3.cell
 have e3:=q3.free
 have HB:Hid (Buts [p,b2,b3] w (w2.setCell ⟨b3,0,none⟩ (.int .i64 0))):=((B1.mono (by simp)).trans (B2.mono (by simp))).trans (B3.mono (by simp))
 clear hp h1 h2 h3 P1 o2 o3 B1 P2 q2 q3 B2 B3
 go_enter Tryz.func259,Tryz.ntmps259
 go_wp2
 go_ret
 exact⟨rfl,P3,r2,r3,HB.out⟩
theorem each_first{w:World}{p n b1 b2 b3:Nat}{zs:List Int}{who x y:Int}(hp:Pool w p n zs)(h1:One w b1 22 (.int .u32 who))(h2:One w b2 3 (.int .i64 x))(h3:One w b3 27 (.int .i64 y))(n1:p≠b1)(n2:p≠b2)(n3:p≠b3)(m3:b2≠b3)(hw:0<=who/\who<=4294967295)(i:Nat)(hi:i < n)(hz:zs.getD i 0=0)(hmin:∀ j,j < i->zs.getD j 0≠0) :
  Calls Tryz.prog 197 #[.pointer (some ⟨p,0,none⟩),.func (.func 259) #[] #[.pointer (some ⟨b1,0,none⟩),.pointer (some ⟨b2,0,none⟩),.pointer (some ⟨b3,0,none⟩)]] w fun e w'=>e=.returned (.tuple #[])/\Pool w' p n (zs.set i who)/\One w' b2 3 (.int .i64 i)/\One w' b3 27 (.int .i64 0)/\Buts [p,b2,b3] w w':=by
 refine(each_alloc _ _ _ (fun j wx=>j<=i/\wx=w) (fun w'=>Pool w' p n (zs.set i who)/\One w' b2 3 (.int .i64 i)/\One w' b3 27 (.int .i64 0)/\Buts [p,b2,b3] w w') (fun j=>decide (j < i)) hp.lo hp.hi hp.many ⟨by omega,rfl⟩ ?_ ?_).mono ?_
 ·rintro j wx hj hgo ⟨hle,rfl⟩
  have hlt:j < i:=by simpa using hgo
  exact(cAlloc_yes (hp.cell j hj) (hmin j hlt)).mono fun e w' ⟨he,hw'⟩=>⟨he,by omega,hw'⟩
 ·rintro j wx hj hgo ⟨hle,rfl⟩
  have hge:¬ j < i:=by simpa using hgo
  obtain rfl:j=i:=by omega
  exact cAlloc_no hp hi hz h1 h2 h3 n1 n2 n3 m3 hw
 ·rintro e w' ⟨rfl,h⟩
  refine⟨rfl,?_⟩
  rcases h with⟨h,_⟩ | h
  ·omega
  ·exact h
theorem each_full{w:World}{p n b1 b2 b3:Nat}{zs:List Int}(hp:Pool w p n zs)(hall:∀ j,j < n->zs.getD j 0≠0) :
  Calls Tryz.prog 197 #[.pointer (some ⟨p,0,none⟩),.func (.func 259) #[] #[.pointer (some ⟨b1,0,none⟩),.pointer (some ⟨b2,0,none⟩),.pointer (some ⟨b3,0,none⟩)]] w fun e w'=>e=.returned (.tuple #[])/\w'=w:=by
 refine(each_alloc _ _ _ (fun _ wx=>wx=w) (fun _=>False) (fun _=>true) hp.lo hp.hi hp.many rfl ?_ ?_).mono ?_
 ·rintro j wx hj _ rfl
  exact cAlloc_yes (hp.cell j hj) (hall j hj)
 ·intro j wx hj hgo
  exact absurd hgo (by simp)
 ·rintro e w' ⟨rfl,h⟩
  exact⟨rfl,h.resolve_right id⟩
theorem Buts.below_of{l:List Nat}{w w':World}{p:Nat}(h:Buts l w w'){v:World}(hv:Below v.heap.size v w)(hl:∀ x∈l,x=p∨v.heap.size<=x):But p v w' :=
 ⟨h.os.trans hv.os,h.tape.trans hv.tape,h.output.trans hv.output,Nat.le_trans hv.size h.size,fun k hk hp=>(h.block k (Nat.lt_of_lt_of_le hk hv.size) (fun hm=>by rcases hl k hm with h | h <;> omega)).trans (hv.block k hk)⟩
structure Three (w w3:World) (who:Int):Prop where
 v1:One w3 w.heap.size 22 (.int .u32 who)
 v2:One w3 (w.heap.size+1) 3 (.int .i64 0)
 v3:One w3 (w.heap.size+1+1) 27 (.int .i64 11)
 bel:Below w.heap.size w w3
theorem alloc_any{w:World}{p n:Nat}{zs:List Int}(h:Pool w p n zs)(who:Int)(hw:0 < who/\who<=4294967295){a b:Int}(Q:World->World->Prop)
  (H:∀ w3,Three w w3 who->Pool w3 p n zs->Calls Tryz.prog 197 #[.pointer (some ⟨p,0,none⟩),.func (.func 259) #[] #[.pointer (some ⟨w.heap.size,0,none⟩),.pointer (some ⟨w.heap.size+1,0,none⟩),.pointer (some ⟨w.heap.size+1+1,0,none⟩)]] w3 fun e w'=>e=.returned (.tuple #[])/\One w' (w.heap.size+1) 3 (.int .i64 a)/\One w' (w.heap.size+1+1) 27 (.int .i64 b)/\Q w3 w') :
  Calls Tryz.prog 257 #[.pointer (some ⟨p,0,none⟩),.int .u32 who] w fun e w'=>e=.returned (.tuple #[.int .i64 a,.int .i64 b])/\∃ w3 w4,Three w w3 who/\Q w3 w4/\Below w4.heap.size w4 w':=by
 have hb:=alloc_below w (.cells #[.int .u32 who] 22)
 have h1:=(h.below hb).many
 have hlo:=h.lo
 have hwz:(who == 0)=false:=by simp;omega
 have HT:Hid (Three w (((w.alloc (.cells #[.int .u32 who] 22)).alloc (.cells #[.int .i64 0] 3)).alloc (.cells #[.int .i64 11] 27)) who):=by
  have s1:=alloc_size w (.cells #[.int .u32 who] 22)
  have o1:=One.new w 22 (.int .u32 who)
  generalize w.alloc (.cells #[.int .u32 who] 22)=wa at *
  have hb2:=alloc_below wa (.cells #[.int .i64 0] 3)
  have o2:=One.new wa 3 (.int .i64 0)
  have s2:=alloc_size wa (.cells #[.int .i64 0] 3)
  generalize wa.alloc (.cells #[.int .i64 0] 3)=wb at *
  have hb3:=alloc_below wb (.cells #[.int .i64 11] 27)
  have o3:=One.new wb 27 (.int .i64 11)
  rw [s1] at o2
  rw [s2,s1] at o3
  exact⟨(o1.below hb2).below hb3,o2.below hb3,o3,(hb.trans (hb2.mono hb.size)).trans (hb3.mono (by omega))⟩
 have HP:Hid (Pool (((w.alloc (.cells #[.int .u32 who] 22)).alloc (.cells #[.int .i64 0] 3)).alloc (.cells #[.int .i64 11] 27)) p n zs):=h.below HT.out.bel
 have HC:=H _ HT.out HP.out
 clear h H
 go_enter Tryz.func257,Tryz.ntmps257
 go_wp2_with (first
  |(go_at_call 213;refine(there_yes h1 hlo).mono ?_;rintro e wx ⟨rfl,rfl⟩)
  |(go_at_call 197;refine HC.mono ?_;rintro e w4 ⟨rfl,o2,o3,hQ⟩;have d2:=o2.cell;have d3:=o3.cell))
 go_quiet ((fail))
 go_wp2
 go_ret2
 exact⟨rfl,_,_,HT.out,hQ,below_drewN _ _⟩
theorem alloc_yes{w:World}{p n:Nat}{zs:List Int}(h:Pool w p n zs)(who:Int)(hw:0 < who/\who<=4294967295)(i:Nat)(hi:i < n)(hz:zs.getD i 0=0)(hmin:∀ j,j < i->zs.getD j 0≠0) :
  Calls Tryz.prog 257 #[.pointer (some ⟨p,0,none⟩),.int .u32 who] w fun e w'=>e=.returned (.tuple #[.int .i64 i,.int .i64 0])/\Pool w' p n (zs.set i who)/\But p w w':=by
 have hlt:=h.lt
 refine(alloc_any h who hw (a:=i) (b:=0) (fun w3 w'=>Pool w' p n (zs.set i who)/\Buts [p,w.heap.size+1,w.heap.size+1+1] w3 w') ?_).mono ?_
 ·intro w3 h3 hP
  exact(each_first hP h3.v1 h3.v2 h3.v3 (by omega) (by omega) (by omega) (by omega) (by omega) i hi hz hmin).mono fun e w' ⟨he,hp,o2,o3,hb⟩=>⟨he,o2,o3,hp,hb⟩
 ·rintro e w' ⟨rfl,w3,w4,h3,⟨hp,hb⟩,hd⟩
  refine⟨rfl,hp.below hd,(hb.below_of h3.bel (fun x hx=>?_)).trans (But.of hd)⟩
  simp only [List.mem_cons,List.not_mem_nil,or_false] at hx
  omega
theorem alloc_full{w:World}{p n:Nat}{zs:List Int}(h:Pool w p n zs)(who:Int)(hw:0 < who/\who<=4294967295)(hall:∀ j,j < n->zs.getD j 0≠0) :
  Calls Tryz.prog 257 #[.pointer (some ⟨p,0,none⟩),.int .u32 who] w fun e w'=>e=.returned (.tuple #[.int .i64 0,.int .i64 11])/\Below w.heap.size w w':=by
 refine(alloc_any h who hw (a:=0) (b:=11) (fun w3 w'=>w'=w3) ?_).mono ?_
 ·intro w3 h3 hP
  exact(each_full hP hall).mono fun e w' ⟨he,hw'⟩=>by subst hw';exact⟨he,h3.v2,h3.v3,rfl⟩
 ·rintro e w' ⟨rfl,w3,w4,h3,rfl,hd⟩
  exact⟨rfl,h3.bel.trans (hd.mono h3.bel.size)⟩
def cnt(x:Int)(l:List Int):Nat:=l.countP (fun z=>z == x)
def clr(x:Int)(l:List Int):List Int:=l.map fun z=>if z=x then 0 else z
def hit(z x:Int):Nat:=if z=x then 1 else 0
theorem hit_yes(x:Int):hit x x=1:=by simp [hit]
theorem hit_no{z x:Int}(h:z≠x):hit z x=0:=by simp [hit,h]
theorem cnt_snoc(x:Int)(l:List Int)(z:Int):cnt x (l ++ [z])=cnt x l+hit z x:=by
 simp [cnt,hit,List.countP_append,List.countP_cons]
theorem cnt_le(x:Int)(l:List Int):cnt x l<=l.length:=List.countP_le_length
theorem clr_len(x:Int)(l:List Int):(clr x l).length=l.length:=by simp [clr]
theorem take_snoc(l:List Int)(i:Nat)(h:i < l.length):l.take (i+1)=l.take i ++ [l.getD i 0]:=by
 rw [List.take_succ_eq_append_getElem h];simp [h]
theorem drop_cons(l:List Int)(i:Nat)(h:i < l.length):l.drop i=l.getD i 0 :: l.drop (i+1):=by
 rw [List.drop_eq_getElem_cons h];simp [h]
def mid(x:Int)(l:List Int)(i:Nat):List Int:=clr x (l.take i) ++ l.drop i
theorem mid_zero(x:Int)(l:List Int):mid x l 0=l:=by simp [mid,clr]
theorem mid_all(x:Int)(l:List Int)(n:Nat)(h:l.length=n):mid x l n=clr x l:=by subst h;simp [mid]
theorem mid_at(x:Int)(l:List Int)(i:Nat)(h:i < l.length):(mid x l i).getD i 0=l.getD i 0:=by
 have hl:(clr x (l.take i)).length=i:=by rw [clr_len];simp;omega
 rw [mid,drop_cons l i h]
 simp only [List.getD_eq_getElem?_getD]
 rw [List.getElem?_append_right (by omega),hl,Nat.sub_self]
 simp
theorem mid_hit(x:Int)(l:List Int)(i:Nat)(h:i < l.length)(e:l.getD i 0=x):(mid x l i).set i 0=mid x l (i+1):=by
 have hl:(clr x (l.take i)).length=i:=by rw [clr_len];simp;omega
 rw [mid,mid,drop_cons l i h,take_snoc l i h,List.set_append_right _ _ (by omega),hl,Nat.sub_self,List.set_cons_zero]
 simp only [clr,List.map_append,List.map_cons,List.map_nil,if_pos e,List.append_assoc,List.cons_append,List.nil_append]
theorem mid_miss(x:Int)(l:List Int)(i:Nat)(h:i < l.length)(e:l.getD i 0≠x):mid x l (i+1)=mid x l i:=by
 rw [mid,mid,drop_cons l i h,take_snoc l i h]
 simp only [clr,List.map_append,List.map_cons,List.map_nil,if_neg e,List.append_assoc,List.cons_append,List.nil_append]
theorem cLeft_any{w:World}{p i b1:Nat}{z c:Int}(hc:w.cell? ⟨p,1+i,none⟩=some (.int .u32 z))(h1:One w b1 3 (.int .i64 c))(hcc:0<=c/\c<=1000) :
  Calls Tryz.prog 198 #[.int .i64 i,.pointer (some ⟨p,1+i,none⟩),.pointer (some ⟨b1,0,none⟩)] w fun e w'=>e=.returned (.bool true)/\One w' b1 3 (.int .i64 (c+(hit z 0:Nat)))/\Buts [b1] w w':=by
 have d1:=h1.cell
 have f1:=h1.free
 by_cases hz:z=0
 ·subst hz
  have q:=h1.set (.int .i64 (c+1))
  go_enter Tryz.func198,Tryz.ntmps198
  go_wp2
  go_ret
  exact⟨rfl,by rw [hit_yes];exact q,Buts.cell _ _ _ _⟩
 ·have hz':(z == 0)=false:=by simpa using hz
  go_enter Tryz.func198,Tryz.ntmps198
  go_wp2
  go_ret
  exact⟨rfl,by rw [hit_no hz];simpa using h1,Buts.refl _ _⟩
theorem left_any{w:World}{p n:Nat}{zs:List Int}(h:Pool w p n zs) :
  Calls Tryz.prog 174 #[.pointer (some ⟨p,0,none⟩)] w fun e w'=>e=.returned (.int .i64 (cnt 0 zs:Nat))/\Below w.heap.size w w':=by
 have hb:=alloc_below w (.cells #[.int .i64 0] 3)
 have o1:=One.new w 3 (.int .i64 0)
 have hP:=h.below hb
 have hz:=h.len
 have hn:=h.hi
 have hlt:=h.lt
 have HC:=each_left (w:=w.alloc (.cells #[.int .i64 0] 3)) (p:=p) (n:=n) (.pointer (some ⟨w.heap.size,0,none⟩)) (fun j wx=>One wx w.heap.size 3 (.int .i64 (cnt 0 (zs.take j):Nat))/\Buts [w.heap.size] (w.alloc (.cells #[.int .i64 0] 3)) wx) h.lo h.hi hP.many ⟨o1,Buts.refl _ _⟩ (by
  rintro j wx hj ⟨ho,hbx⟩
  have hPx:Pool wx p n zs:=hP.same (hbx.block p hP.lt (by simp;omega))
  have hcl:=cnt_le 0 (zs.take j)
  refine(cLeft_any (hPx.cell j hj) ho (by simp at hcl;omega)).mono ?_
  rintro e w' ⟨he,ho',hb'⟩
  refine⟨he,?_,hbx.trans hb'⟩
  rw [take_snoc zs j (by omega),cnt_snoc]
  exact ho')
 rw [List.take_of_length_le (by omega)] at HC
 clear o1 hP h
 go_enter Tryz.func174,Tryz.ntmps174
 go_wp2_with (go_at_call 197;refine HC.mono ?_;rintro e w4 ⟨rfl,o2,hB⟩;have d2:=o2.cell)
 go_ret
 exact⟨rfl,hb.trans (hB.below (by simp) hb.size)⟩
theorem cAll_any{w:World}{p n i b1 b2:Nat}{zs:List Int}{who c:Int}(hp:Pool w p n zs)(hi:i < n)(h1:One w b1 22 (.int .u32 who))(h2:One w b2 3 (.int .i64 c))(n1:p≠b1)(n2:p≠b2)(hcc:0<=c/\c<=1000) :
  Calls Tryz.prog 205 #[.int .i64 i,.pointer (some ⟨p,1+i,none⟩),.pointer (some ⟨b1,0,none⟩),.pointer (some ⟨b2,0,none⟩)] w fun e w'=>e=.returned (.bool true)/\Pool w' p n (if zs.getD i 0=who then zs.set i 0 else zs)/\One w' b2 3 (.int .i64 (c+(hit (zs.getD i 0) who:Nat)))/\Buts [p,b2] w w':=by
 have hc:=hp.cell i hi
 have c1:=h1.cell
 by_cases hz:zs.getD i 0=who
 ·rw [if_pos hz,hz,hit_yes]
  rw [hz] at hc
  clear hz
  go_enter Tryz.func205,Tryz.ntmps205
  go_wp2
  go_quiet ((fail))
  have hd:=below_drewN w nq
  have P0:=hp.below hd
  have o2:=h2.below hd
  clear hp h1 h2 hc c1
  generalize w.drewN nq=w0 at *
  have hc:=P0.cell i hi
  have hf:=P0.free (1+i)
  have P1:=P0.set hi (v:=0) (by omega)
  have q2:=o2.other (k:=1+i) (.int .u32 0) (Ne.symm n2)
  have B1:=Buts.cell w0 p (1+i) (.int .u32 0)
  generalize zs.getD i 0=z at *
  generalize hw1:w0.setCell ⟨p,1+i,none⟩ (.int .u32 0)=w1 at *
  have P2:=P1.other (k:=0) (.int .i64 (c+1)) n2
  have r2:=q2.set (.int .i64 (c+1))
  have B2:=Buts.cell w1 b2 0 (.int .i64 (c+1))
  have d2:=q2.cell
  have e2:=q2.free
  have HB:Hid (Buts [p,b2] w (w1.setCell ⟨b2,0,none⟩ (.int .i64 (c+1)))):=((Buts.of hd).trans (B1.mono (by simp))).trans (B2.mono (by simp))
  clear P0 o2 B1 B2 P1 q2
  go_wp2
  go_ret
  exact⟨rfl,P2,r2,HB.out⟩
 ·rw [if_neg hz,hit_no hz]
  have hz':(zs.getD i 0 == who)=false:=by simpa using hz
  generalize zs.getD i 0=z at *
  go_enter Tryz.func205,Tryz.ntmps205
  go_wp2
  go_quiet ((fail))
  go_wp2
  go_ret
  exact⟨rfl,hp.below (below_drewN _ _),by simpa using h2.below (below_drewN _ _),Buts.of (below_drewN _ _)⟩
theorem all_any{w:World}{p n:Nat}{zs:List Int}(h:Pool w p n zs)(who:Int)(hw:0 < who) :
  Calls Tryz.prog 182 #[.pointer (some ⟨p,0,none⟩),.int .u32 who] w fun e w'=>e=.returned (.int .i64 (cnt who zs:Nat))/\Pool w' p n (clr who zs)/\But p w w':=by
 have hwz:(who == 0)=false:=by simp;omega
 have hz:=h.len
 have hn:=h.hi
 have hlt:=h.lt
 have hlo:=h.lo
 have hb:=alloc_below w (.cells #[.int .u32 who] 22)
 have o1:=One.new w 22 (.int .u32 who)
 have s1:=alloc_size w (.cells #[.int .u32 who] 22)
 have HK:Hid (Below w.heap.size w ((w.alloc (.cells #[.int .u32 who] 22)).alloc (.cells #[.int .i64 0] 3))/\One ((w.alloc (.cells #[.int .u32 who] 22)).alloc (.cells #[.int .i64 0] 3)) w.heap.size 22 (.int .u32 who)/\One ((w.alloc (.cells #[.int .u32 who] 22)).alloc (.cells #[.int .i64 0] 3)) (w.heap.size+1) 3 (.int .i64 0)):=by
  generalize w.alloc (.cells #[.int .u32 who] 22)=wa at *
  have hb2:=alloc_below wa (.cells #[.int .i64 0] 3)
  have o2:=One.new wa 3 (.int .i64 0)
  rw [s1] at o2
  exact⟨hb.trans (hb2.mono hb.size),o1.below hb2,o2⟩
 have c1:=o1.cell
 clear o1 s1 hb
 have HC:Hid (Calls Tryz.prog 197 #[.pointer (some ⟨p,0,none⟩),.func (.func 205) #[] #[.pointer (some ⟨w.heap.size,0,none⟩),.pointer (some ⟨w.heap.size+1,0,none⟩)]] ((w.alloc (.cells #[.int .u32 who] 22)).alloc (.cells #[.int .i64 0] 3)) fun e w'=>e=.returned (.tuple #[])/\Pool w' p n (clr who zs)/\One w' (w.heap.size+1) 3 (.int .i64 (cnt who zs:Nat))/\But p w w'):=by
  obtain⟨hb,o1,o2⟩:=HK.out
  generalize (w.alloc (.cells #[.int .u32 who] 22)).alloc (.cells #[.int .i64 0] 3)=w0 at *
  have hP:=h.below hb
  refine(each_all (w:=w0) (p:=p) (n:=n) _ _ (fun j wx=>Pool wx p n (mid who zs j)/\One wx (w.heap.size+1) 3 (.int .i64 (cnt who (zs.take j):Nat))/\Buts [p,w.heap.size+1] w0 wx) hlo hn hP.many ⟨by rw [mid_zero];exact hP,o2,Buts.refl _ _⟩ ?_).mono ?_
  ·rintro j wx hj ⟨hPx,ho,hbx⟩
   have hcl:=cnt_le who (zs.take j)
   have o1x:One wx w.heap.size 22 (.int .u32 who):=(hbx.block _ o1.lt (by simp;omega)).trans o1
   refine(cAll_any hPx hj o1x ho (by omega) (by omega) (by simp at hcl;omega)).mono ?_
   rintro e w' ⟨he,hp',ho',hb'⟩
   rw [mid_at who zs j (by omega)] at hp' ho'
   refine⟨he,?_,?_,hbx.trans hb'⟩
   ·by_cases hh:zs.getD j 0=who
    ·rw [if_pos hh,mid_hit who zs j (by omega) hh] at hp'
     exact hp'
    ·rw [if_neg hh,←mid_miss who zs j (by omega) hh] at hp'
     exact hp'
   ·rw [take_snoc zs j (by omega),cnt_snoc]
    exact ho'
  ·rintro e w' ⟨rfl,hp',ho',hb'⟩
   rw [mid_all who zs n hz] at hp'
   rw [List.take_of_length_le (by omega)] at ho'
   exact⟨rfl,hp',ho',hb'.below_of hb (by simp)⟩
 clear HK
 go_enter Tryz.func182,Tryz.ntmps182
 go_wp2_with (go_at_call 197;refine HC.out.mono ?_;rintro e w4 ⟨rfl,P4,o2,hB⟩;have d2:=o2.cell)
 go_ret
 exact⟨rfl,P4,hB⟩
theorem step_append_own{P:Program}{ops:Array Oper}{o:Oper}{a:Act}{w:World}{K:Act->World->Prop}{Q:Exit->Act->World->Prop}{X:Prop}(hgd:o.guard=none)(s x:Operand)(t:TypeId)
  (ho:o.op=.call { callee:=.builtin .append,args:=#[s,x],argTypes:=#[t,t] })
  (base:Nat) (e:TypeId) (i:TypeInfo) (z:Value) (size bytes:Nat) (ht:P.underlying t=some (.slice e)) (hi:P.info? e=some i) (hz:i.zero=some z)
  (hsize:i.size=size) (hby:i.bytes=bytes) (hzs:z.cells.size=size) (hsz:0 < size)
  (v:Value) (n:Nat) (xs:List Value) (hs:a.eval s=v) (hown:w.ownsRow base e size v n xs)
  (ad:Addr) (m c:Nat) (news:List Value) (hx:a.eval x=.slice (some ad) m c) (hl:news.length=m * size) (hnews:∀ j u,news[j]?=some u->w.cell? (ad.add j)=some u) (h1:∀ u∈news,u.oneCell'=true)
  (h63:n+m<=maxLen) (hbytes:(n+m) * bytes<=140737488355328) (hbase:base<=w.heap.size)
  (h:∀ v' w',w'.ownsRow base e size v' (n+m) (xs ++ news)->w.grownBy w' v.ownBlock->(v'=.slice none 0 0↔v=.slice none 0 0/\m=0)->K (a.put o.dst v') w') :
  if Region.wanted o (yielded ops a.tmps)=true then Oper.wp P o a w K Q else X:=by
 have hw:Region.wanted o (yielded ops a.tmps)=true:=by simp [Region.wanted,hgd]
 rw [if_pos hw]
 obtain⟨v',w',hr,h2,h3,h4⟩:=run_append_own (P:=P) w base t o.type e i z size bytes ht hi hz hsize hby hzs hsz v n xs hown ad m c news hl hnews h1 h63 hbytes hbase
 unfold Oper.wp execOp
 simp only [ho,resolve,invoke,builtin,Sem.run_bind,Sem.run_pure,Result.andThen_ok,List.map_toArray,List.map_cons,List.map_nil,hs,hx,hr]
 exact h v' w' h2 h3 h4
theorem one_ne{w:World}{B b g:Nat}{t t':TypeId}{s n:Nat}{u v:Value}{xs:List Value}(h:One w b t' u)(ho:w.ownsRow B t s v n xs)(hv:v.ownBlock=some g)(ht:t≠t'):g≠b:=block_ne ho hv h ht
theorem cOwn_any{w:World}{B p i b1 m:Nat}{z:Int}{v:Value}{xs:List Value}(hc:w.cell? ⟨p,1+i,none⟩=some (.int .u32 z))(h1:One w b1 51 v)(ho:w.ownsRow B 22 1 v m xs)(hm:m<=1000)(hB:B<=w.heap.size) :
  Calls Tryz.prog 199 #[.int .i64 i,.pointer (some ⟨p,1+i,none⟩),.pointer (some ⟨b1,0,none⟩)] w fun e w'=>e=.returned (.bool true)/\∃ v',One w' b1 51 v'/\w'.ownsRow B 22 1 v' (m+1) (xs ++ [.int .u32 z])/\Buts (b1 :: v.ownBlock.toList) w w':=by
 have d1:=h1.cell
 have f1:=h1.free
 have hb1:=h1.lt
 obtain⟨i',hi,he⟩:=Option.map_eq_some_iff.1 infoW
 have e1:i'.zero=some (.int .u32 0):=by simpa using congrArg Prod.fst he
 have e2:i'.size=1:=by simpa using congrArg (fun x=>x.2.1) he
 have e3:i'.bytes=4:=by simpa using congrArg (fun x=>x.2.2) he
 have hW:Below w.heap.size w (w.alloc (.cells #[.int .u32 z] 22)).drew:=((Below.refl _ _).alloc (Nat.le_refl _) _).drew
 have hne:∀ g,v.ownBlock=some g->g≠b1:=fun g hg=>one_ne h1 ho hg (by decide)
 clear he
 go_enter Tryz.func199,Tryz.ntmps199
 go_wp2
 go_region_law (refine step_append_own rfl (.tmp 6) (.tmp 10) 51 rfl B 22 i' _ 1 4 Tryz.underlying51 hi e1 e2 e3 rfl (by omega) v m xs rfl (owns_of ho fun g hg=>hW.block g (ho.lt g hg).2) _ 1 1 [.int .u32 z] rfl rfl (cell1 w _ _) (by simp [Value.oneCell']) (by simp only [maxLen];omega) (by omega) (Nat.le_trans hB hW.size) ?_;intro v' w' ho' hg hvn;obtain⟨g',cap',rfl,hcp⟩:=owns_spot ho' (by omega);have h1':One w' b1 51 v:=(hg.block b1 (Nat.lt_of_lt_of_le hb1 hW.size) (fun e=>hne b1 e.symm rfl)).trans ((hW.block b1 hb1).trans h1);have k1:=h1'.cell;have k2:=h1'.free)
 all_goals
  go_wp2
  go_ret
  refine⟨rfl,_,h1'.set _,owns_buts ho' (Buts.cell _ _ _ _) (fun g hg'=>?_),((Buts.of hW).trans ((Buts.grown hg).mono (fun x hx=>List.mem_cons_of_mem _ hx))).trans ((Buts.cell _ _ _ _).mono (by simp))⟩
  simpa using one_ne h1' ho' hg' (by decide)
theorem wrd_snoc(l:List Int)(z:Int):wrd l ++ [.int .u32 z]=wrd (l ++ [z]):=by simp [wrd]
theorem owners_any{w:World}{p n:Nat}{zs:List Int}(h:Pool w p n zs) :
  Calls Tryz.prog 175 #[.pointer (some ⟨p,0,none⟩)] w fun e w'=>∃ g cap,e=.returned (.slice (some ⟨g,0,none⟩) n cap)/\w'.ownsRow w.heap.size 22 1 (.slice (some ⟨g,0,none⟩) n cap) n (wrd zs)/\Below w.heap.size w w':=by
 have hb:=alloc_below w (.cells #[.slice none 0 0] 51)
 have o1:=One.new w 51 (.slice none 0 0)
 have hP:=h.below hb
 have hz:=h.len
 have hn:=h.hi
 have hlo:=h.lo
 have hlt:=h.lt
 have HC:Hid (Calls Tryz.prog 197 #[.pointer (some ⟨p,0,none⟩),.func (.func 199) #[] #[.pointer (some ⟨w.heap.size,0,none⟩)]] (w.alloc (.cells #[.slice none 0 0] 51)) fun e w'=>e=.returned (.tuple #[])/\∃ g cap,One w' w.heap.size 51 (.slice (some ⟨g,0,none⟩) n cap)/\w'.ownsRow w.heap.size 22 1 (.slice (some ⟨g,0,none⟩) n cap) n (wrd zs)/\Below w.heap.size w w'):=by
  generalize w.alloc (.cells #[.slice none 0 0] 51)=w0 at *
  refine(each_own (w:=w0) (p:=p) (n:=n) _ (fun j wx=>∃ v,One wx w.heap.size 51 v/\wx.ownsRow w.heap.size 22 1 v j (wrd (zs.take j))/\Below w.heap.size w wx) hlo hn hP.many ⟨_,o1,World.ownsRow_nil _ _ _ _,hb⟩ ?_).mono ?_
  ·rintro j wx hj ⟨v,ho,hr,hbx⟩
   refine(cOwn_any (h.below hbx |>.cell j hj) ho hr (by omega) hbx.size).mono ?_
   rintro e w' ⟨he,v',ho',hr',hb'⟩
   rw [wrd_snoc,←take_snoc zs j (by omega)] at hr'
   refine⟨he,v',ho',hr',hbx.trans (hb'.below (fun x hx=>?_) hbx.size)⟩
   rcases List.mem_cons.1 hx with rfl | hx
   ·exact Nat.le_refl _
   ·exact(hr.lt x (by simpa using hx)).1
  ·rintro e w' ⟨rfl,v,ho,hr,hbx⟩
   rw [List.take_of_length_le (by omega)] at hr
   obtain⟨g,cap,rfl,-⟩:=owns_spot hr (by omega)
   exact⟨rfl,g,cap,ho,hr,hbx⟩
 clear hb o1 hP h
 go_enter Tryz.func175,Tryz.ntmps175
 go_wp2_with (go_at_call 197;refine HC.out.mono ?_;rintro e w4 ⟨rfl,g,cap,o2,hr,hB⟩;have d2:=o2.cell)
 go_ret
 exact⟨_,_,rfl,hr,hB⟩
end Go.Proofs.YtbbdndfibjdcfaaGreat.Ob.Pl
namespace Go.Proofs.YtbbdndfibjdcfaaGreat.Ob
open Go Go.RowKit
def ptrc(q:Nat):Array Value:=#[.pointer (some ⟨q,0,none⟩)]
def ny(e:Int):Int:=if e=10∨e=11 then 7 else e
theorem ny_any(e0:Int)(w:World):Calls Tryz.prog 239 #[.int .i64 e0] w fun e w'=>e=.returned (.int .i64 (ny e0))/\w=w':=notYet_any e0 w
theorem but_buts{g:Nat}{w w':World}(h:Pl.But g w w'):Buts [g] w w':=⟨h.os,h.tape,h.output,h.size,fun k hk hg=>h.block k hk (by simpa using hg)⟩
theorem row_put{w:World}{g q n:Nat}{xs:List Int}(h:Blk w g (ptrc q) 254)(hq:Que w q n xs)(who ah av am aw:Int) :
  Calls Tryz.prog 238 #[.pointer (some ⟨g,0,none⟩),.int .u32 who,.agg #[.int .u8 7,.int .u32 ah,.int .u32 av,.int .u32 am,.int .i64 aw]] w fun e w'=>e=.returned (.tuple #[.int .u32 0,.int .i64 (ny (addE xs n))])/\Que w' q n (putL xs n av)/\Buts [q] w w':=by
 have HQ:Hid (Que w q n xs):=hq
 have hlt:=h.lt
 have c0:w.cell? ⟨g,0,none⟩=some (.pointer (some ⟨q,0,none⟩)):=by rw [h.cell];rfl
 have HN:=(show Hid _ from ny_any)
 have HP:Hid (∀ wx,Below w.heap.size w wx->Calls Tryz.prog 240 #[.pointer (some ⟨q,0,none⟩),.int .u32 av] wx fun e w'=>e=.returned (.int .i64 (addE xs n))/\Que w' q n (putL xs n av)/\Buts [q] w w') :=
  fun wx hb=>(put_any (HQ.out.below hb) av).mono fun e w' ⟨he,hr,hb'⟩=>⟨he,hr,(Buts.of hb).trans hb'⟩
 clear h hq
 generalize addE xs n=x at *
 generalize putL xs n av=ys at *
 go_enter Tryz.func238,Tryz.ntmps238
 go_wp2
 go_region_with (first
  |(go_at_call 240;refine(HP.out _ (alloc_below w _).drew).mono ?_;rintro e w1 ⟨rfl,hr,hb⟩;have HR:Hid (Que w1 q n ys):=hr;have HBt:Hid (Buts [q] w w1):=hb;clear hr hb)
  |(go_at_call 239;refine(HN.out _ _).mono ?_;rintro e wx ⟨rfl,rfl⟩))
 all_goals
  go_wp2
  go_ret2
  exact⟨rfl,HR.out,HBt.out⟩
theorem row_push{w:World}{g q n:Nat}{xs:List Int}(h:Blk w g (ptrc q) 254)(hq:Que w q n xs)(who ah av am aw:Int) :
  Calls Tryz.prog 238 #[.pointer (some ⟨g,0,none⟩),.int .u32 who,.agg #[.int .u8 8,.int .u32 ah,.int .u32 av,.int .u32 am,.int .i64 aw]] w fun e w'=>e=.returned (.tuple #[.int .u32 0,.int .i64 (ny (addE xs n))])/\Que w' q n (pushL xs n av)/\Buts [q] w w':=by
 have HQ:Hid (Que w q n xs):=hq
 have hlt:=h.lt
 have c0:w.cell? ⟨g,0,none⟩=some (.pointer (some ⟨q,0,none⟩)):=by rw [h.cell];rfl
 have HN:=(show Hid _ from ny_any)
 have HP:Hid (∀ wx,Below w.heap.size w wx->Calls Tryz.prog 241 #[.pointer (some ⟨q,0,none⟩),.int .u32 av] wx fun e w'=>e=.returned (.int .i64 (addE xs n))/\Que w' q n (pushL xs n av)/\Buts [q] w w') :=
  fun wx hb=>(push_any (HQ.out.below hb) av).mono fun e w' ⟨he,hr,hb'⟩=>⟨he,hr,(Buts.of hb).trans hb'⟩
 clear h hq
 generalize addE xs n=x at *
 generalize pushL xs n av=ys at *
 go_enter Tryz.func238,Tryz.ntmps238
 go_wp2
 go_region_with (first
  |(go_at_call 241;refine(HP.out _ (alloc_below w _).drew).mono ?_;rintro e w1 ⟨rfl,hr,hb⟩;have HR:Hid (Que w1 q n ys):=hr;have HBt:Hid (Buts [q] w w1):=hb;clear hr hb)
  |(go_at_call 239;refine(HN.out _ _).mono ?_;rintro e wx ⟨rfl,rfl⟩))
 all_goals
  go_wp2
  go_ret2
  exact⟨rfl,HR.out,HBt.out⟩
theorem row_get{w:World}{g q n:Nat}{xs:List Int}(h:Blk w g (ptrc q) 254)(hq:Que w q n xs)(who ah av am aw:Int) :
  Calls Tryz.prog 238 #[.pointer (some ⟨g,0,none⟩),.int .u32 who,.agg #[.int .u8 9,.int .u32 ah,.int .u32 av,.int .u32 am,.int .i64 aw]] w fun e w'=>e=.returned (.tuple #[.int .u32 (xs.headD 0),.int .i64 (ny (takeE xs))])/\Que w' q n xs.tail/\Buts [q] w w':=by
 have hlt:=h.lt
 have c0:w.cell? ⟨g,0,none⟩=some (.pointer (some ⟨q,0,none⟩)):=by rw [h.cell];rfl
 have HN:=(show Hid _ from ny_any)
 have HP:Hid (∀ wx,Below w.heap.size w wx->Calls Tryz.prog 242 #[.pointer (some ⟨q,0,none⟩)] wx fun e w'=>e=.returned (.tuple #[.int .u32 (xs.headD 0),.int .i64 (takeE xs)])/\Que w' q n xs.tail/\Buts [q] w w') :=
  fun wx hb=>(take_any (hq.below hb)).mono fun e w' ⟨he,hr,hb'⟩=>⟨he,hr,(Buts.of hb).trans hb'⟩
 clear h hq
 generalize takeE xs=x at *
 generalize xs.headD 0=z at *
 generalize xs.tail=ys at *
 go_enter Tryz.func238,Tryz.ntmps238
 go_wp2_with (first
  |(go_at_call 242;refine(HP.out _ (alloc_below w _)).mono ?_;rintro e w1 ⟨rfl,hr,hb⟩;have HR:Hid (Que w1 q n ys):=hr;have HBt:Hid (Buts [q] w w1):=hb;clear hr hb)
  |(go_at_call 239;refine(HN.out _ _).mono ?_;rintro e wx ⟨rfl,rfl⟩))
 go_ret2
 exact⟨rfl,HR.out,HBt.out⟩
theorem row_peek{w:World}{g q n:Nat}{xs:List Int}(h:Blk w g (ptrc q) 254)(hq:Que w q n xs)(who ah av am aw:Int) :
  Calls Tryz.prog 238 #[.pointer (some ⟨g,0,none⟩),.int .u32 who,.agg #[.int .u8 10,.int .u32 ah,.int .u32 av,.int .u32 am,.int .i64 aw]] w fun e w'=>e=.returned (.tuple #[.int .u32 (xs.headD 0),.int .i64 (takeE xs)])/\Below w.heap.size w w':=by
 have hlt:=h.lt
 have c0:w.cell? ⟨g,0,none⟩=some (.pointer (some ⟨q,0,none⟩)):=by rw [h.cell];rfl
 have HP:Hid (∀ wx,Below w.heap.size w wx->Calls Tryz.prog 243 #[.pointer (some ⟨q,0,none⟩)] wx fun e w'=>e=.returned (.tuple #[.int .u32 (xs.headD 0),.int .i64 (takeE xs)])/\Below w.heap.size w w') :=
  fun wx hb=>(peek_any (hq.below hb)).mono fun e w' ⟨he,k,hk⟩=>⟨he,by rw [hk];exact hb.trans ((below_drewN _ _).mono hb.size)⟩
 clear h hq
 generalize takeE xs=x at *
 generalize xs.headD 0=z at *
 go_enter Tryz.func238,Tryz.ntmps238
 go_wp2_with (first
  |(go_at_call 243;refine(HP.out _ (alloc_below w _)).mono ?_;rintro e w1 ⟨rfl,hb⟩;have HBt:Hid (Below w.heap.size w w1):=hb;clear hb))
 go_ret2
 exact⟨rfl,HBt.out⟩
def ff(zs:List Int):Nat:=zs.idxOf 0
theorem ff_le(zs:List Int):ff zs<=zs.length:=List.idxOf_le_length
theorem ff_at{zs:List Int}(h:ff zs < zs.length):zs.getD (ff zs) 0=0:=by
 rw [List.getD_eq_getElem?_getD,List.getElem?_eq_getElem h]
 exact List.getElem_idxOf h
theorem ff_min{zs:List Int}{j:Nat}(h:j < ff zs):zs.getD j 0≠0:=by
 have hl:j < zs.length:=Nat.lt_of_lt_of_le h (ff_le zs)
 rw [List.getD_eq_getElem?_getD,List.getElem?_eq_getElem hl]
 intro e
 have:=List.not_of_lt_findIdx (p:=(· == (0:Int))) (xs:=zs) (i:=j) h
 simp only [Option.getD_some] at e
 simp [e] at this
def alV(zs:List Int):Int:=if ff zs < zs.length then(ff zs:Nat) else 0
def alE(zs:List Int):Int:=if ff zs < zs.length then 0 else 7
def alL(zs:List Int)(who:Int):List Int:=if ff zs < zs.length then zs.set (ff zs) who else zs
theorem pool_alloc{w:World}{g q n:Nat}{zs:List Int}(h:Blk w g (ptrc q) 263)(hq:Pl.Pool w q n zs)(who ah av am aw:Int)(hw:0 < who/\who<=4294967295) :
  Calls Tryz.prog 256 #[.pointer (some ⟨g,0,none⟩),.int .u32 who,.agg #[.int .u8 14,.int .u32 ah,.int .u32 av,.int .u32 am,.int .i64 aw]] w fun e w'=>e=.returned (.tuple #[.int .u32 (alV zs),.int .i64 (alE zs)])/\Pl.Pool w' q n (alL zs who)/\Buts [q] w w':=by
 have hlt:=h.lt
 have c0:w.cell? ⟨g,0,none⟩=some (.pointer (some ⟨q,0,none⟩)):=by rw [h.cell];rfl
 have HN:=(show Hid _ from ny_any)
 have hlen:=hq.len
 have hhi:=hq.hi
 clear h
 unfold alV alE alL
 by_cases hf:ff zs < zs.length
 ·rw [if_pos hf,if_pos hf,if_pos hf]
  have HP:Hid (∀ wx,Below w.heap.size w wx->Calls Tryz.prog 257 #[.pointer (some ⟨q,0,none⟩),.int .u32 who] wx fun e w'=>e=.returned (.tuple #[.int .i64 (ff zs:Nat),.int .i64 0])/\Pl.Pool w' q n (zs.set (ff zs) who)/\Buts [q] w w') :=
   fun wx hb=>(Pl.alloc_yes (hq.below hb) who hw (ff zs) (by omega) (ff_at hf) (fun j hj=>ff_min hj)).mono fun e w' ⟨he,hr,hb'⟩=>⟨he,hr,(Buts.of hb).trans (but_buts hb')⟩
  have hb64:ff zs < 64:=by omega
  clear hq hf
  generalize zs.set (ff zs) who=ys at *
  generalize ff zs=x at *
  go_enter Tryz.func256,Tryz.ntmps256
  go_wp2_with (first
   |(go_at_call 257;refine(HP.out _ (alloc_below w _)).mono ?_;rintro e w1 ⟨rfl,hr,hb⟩;have HR:Hid (Pl.Pool w1 q n ys):=hr;have HBt:Hid (Buts [q] w w1):=hb;clear hr hb)
   |(go_at_call 239;refine(HN.out _ _).mono ?_;rintro e wx ⟨rfl,rfl⟩))
  go_ret2
  exact⟨rfl,HR.out,HBt.out⟩
 ·rw [if_neg hf,if_neg hf,if_neg hf]
  have HP:Hid (∀ wx,Below w.heap.size w wx->Calls Tryz.prog 257 #[.pointer (some ⟨q,0,none⟩),.int .u32 who] wx fun e w'=>e=.returned (.tuple #[.int .i64 0,.int .i64 11])/\Pl.Pool w' q n zs/\Buts [q] w w') :=
   fun wx hb=>(Pl.alloc_full (hq.below hb) who hw (fun j hj=>ff_min (by omega))).mono fun e w' ⟨he,hb'⟩=>⟨he,(hq.below hb).below hb',(Buts.of hb).trans (Buts.of hb')⟩
  clear hq hf
  go_enter Tryz.func256,Tryz.ntmps256
  go_wp2_with (first
   |(go_at_call 257;refine(HP.out _ (alloc_below w _)).mono ?_;rintro e w1 ⟨rfl,hr,hb⟩;have HR:Hid (Pl.Pool w1 q n zs):=hr;have HBt:Hid (Buts [q] w w1):=hb;clear hr hb)
   |(go_at_call 239;refine(HN.out _ _).mono ?_;rintro e wx ⟨rfl,rfl⟩))
  go_ret2
  exact⟨rfl,HR.out,HBt.out⟩
def frE(zs:List Int)(who:Int)(v:Nat):Int:=if zs.length<=v then 1 else if zs.getD v 0=who then 0 else 13
def frL(zs:List Int)(who:Int)(v:Nat):List Int:=if zs.length<=v then zs else if zs.getD v 0=who then zs.set v 0 else zs
theorem free_any{w:World}{q n:Nat}{zs:List Int}(hq:Pl.Pool w q n zs)(who:Int)(v:Nat)(hw:0 < who) :
  Calls Tryz.prog 258 #[.pointer (some ⟨q,0,none⟩),.int .u32 who,.int .i64 (v:Nat)] w fun e w'=>e=.returned (.int .i64 (frE zs who v))/\Pl.Pool w' q n (frL zs who v)/\Buts [q] w w':=by
 have hl:=hq.len
 unfold frE frL
 by_cases h1:zs.length<=v
 ·rw [if_pos h1,if_pos h1]
  exact(Pl.free_no hq who v (by omega) (by omega)).mono fun e w' ⟨he,h2⟩=>by subst h2;exact⟨he,hq,Buts.refl _ _⟩
 ·rw [if_neg h1,if_neg h1]
  by_cases h2:zs.getD v 0=who
  ·rw [if_pos h2,if_pos h2]
   exact(Pl.free_yes hq who v hw (by omega) h2).mono fun e w' ⟨he,hr,hb⟩=>⟨he,hr,but_buts hb⟩
  ·rw [if_neg h2,if_neg h2]
   exact(Pl.free_other hq who v hw (by omega) h2).mono fun e w' ⟨he,h2⟩=>by subst h2;exact⟨he,hq,Buts.refl _ _⟩
def awV(f v:Nat)(all:Bool):Nat:=if Mk.hold f v all=true then f &&& v else 0
def awE(f v:Nat)(all:Bool):Int:=if Mk.hold f v all=true then 0 else 7
def awF(f v:Nat)(all gone:Bool):Nat:=if Mk.hold f v all=true then Mk.aft f v all gone else f
theorem awF_lt{f v:Nat}(hf:f < 4294967296)(all gone:Bool):awF f v all gone < 4294967296:=by
 unfold awF
 split
 ·exact Mk.aft_lt hf _ _
 ·exact hf
theorem await_in{w:World}{g:Nat}{f v:Nat}(h:Blk w g (onec f) 257)(hf:f < 4294967296)(hv:v < 4294967296)(m:Nat)(hm:m < 4) :
    Calls Tryz.prog 247 #[.pointer (some ⟨g,0,none⟩),.int .u32 (v:Nat),.int .u32 (m:Nat)] w fun e w'=>e=.returned (.tuple #[.int .u32 ((awV f v (decide (m % 2=1)):Nat):Int),.int .i64 (awE f v (decide (m % 2=1)))])∧Blk w' g (onec ((awF f v (decide (m % 2=1)) (decide (2≤m)):Nat):Int)) 257∧Buts [g] w w':=by
  have HB:Hid (Blk w g (onec f) 257):=h
  have c0:w.cell? ⟨g,0,none⟩=some (.int .u32 f):=by rw [h.cell];rfl
  clear h
  have hH:=fun all wx=>Mk.holds_any f v hf hv all wx
  have hM:=fun wx=>Mk.met_any f v hf hv wx
  have hA:=fun all gone wx=>Mk.after_any f v hf hv all gone wx
  obtain rfl | rfl | rfl | rfl:m=0∨m=1∨m=2∨m=3:=by omega
  all_goals
    first
    |(have q1:decide (0 % 2=1)=false:=rfl;have q2:decide (2≤0)=false:=rfl;rw [q1,q2];clear q1 q2;replace hH:=hH false;replace hA:=hA false false;cases q:Mk.hold f v false)
    |(have q1:decide (1 % 2=1)=true:=rfl;have q2:decide (2≤1)=false:=rfl;rw [q1,q2];clear q1 q2;replace hH:=hH true;replace hA:=hA true false;cases q:Mk.hold f v true)
    |(have q1:decide (2 % 2=1)=false:=rfl;have q2:decide (2≤2)=true:=rfl;rw [q1,q2];clear q1 q2;replace hH:=hH false;replace hA:=hA false true;cases q:Mk.hold f v false)
    |(have q1:decide (3 % 2=1)=true:=rfl;have q2:decide (2≤3)=true:=rfl;rw [q1,q2];clear q1 q2;replace hH:=hH true;replace hA:=hA true true;cases q:Mk.hold f v true)
  all_goals
    rw [q] at hH
    unfold awV awE awF
    rw [q]
    first
    | (rw [if_neg (by decide), if_neg (by decide), if_neg (by decide)]
       clear q hA hM
       go_enter Tryz.func247, Tryz.ntmps247
       go_wp2_with (first
         | (go_at_call 249; refine (hH _).mono ?_; rintro e w1 ⟨rfl, hb⟩))
       go_ret2
       exact ⟨rfl, HB.out.below hb, Buts.of hb⟩)
    | (rw [if_pos rfl, if_pos rfl, if_pos rfl]
       clear q
       generalize Mk.aft f v _ _ = y at *
       generalize f &&& v = x at *
       go_enter Tryz.func247, Tryz.ntmps247
       go_wp2_with (first
         | (go_at_call 249; refine (hH _).mono ?_; rintro e w1 ⟨rfl, hb⟩; have c1 := (hb.cell (p := ⟨g, 0, none⟩) HB.out.lt).trans c0)
         | (go_at_call 250; refine (hM _).mono ?_; rintro e wx ⟨rfl, rfl⟩)
         | (go_at_call 251; refine (hA _).mono ?_; rintro e w2 ⟨rfl, hb2⟩; have B1 := HB.out.below hb; have B2 := B1.below hb2; have c2 := B2.cell 0; have f2 := B2.free 0; have HB2 : Hid (Blk w2 g (onec f) 257) := B2; clear B1 B2))
       go_ret2
       exact ⟨rfl, HB2.out.set 0 _, ((Buts.of hb).trans (Buts.of hb2)).trans (Buts.cell _ _ _ _)⟩)
theorem await_far{w:World}{g:Nat}(v m:Int)(hm:4<=m) :
  Calls Tryz.prog 247 #[.pointer (some ⟨g,0,none⟩),.int .u32 v,.int .u32 m] w fun e w'=>e=.returned (.tuple #[.int .u32 0,.int .i64 1])/\w=w':=by
 go_enter Tryz.func247,Tryz.ntmps247
 go_wp2
 go_ret2
 exact⟨rfl,rfl⟩
theorem flg_await{w:World}{g:Nat}{f v:Nat}(h:Blk w g (onec f) 257)(hf:f < 4294967296)(hv:v < 4294967296)(m:Nat)(hm:m < 4)(who ah aw:Int) :
  Calls Tryz.prog 248 #[.pointer (some ⟨g,0,none⟩),.int .u32 who,.agg #[.int .u8 11,.int .u32 ah,.int .u32 (v:Nat),.int .u32 (m:Nat),.int .i64 aw]] w fun e w'=>e=.returned (.tuple #[.int .u32 ((awV f v (decide (m % 2=1)):Nat):Int),.int .i64 (awE f v (decide (m % 2=1)))])/\Blk w' g (onec ((awF f v (decide (m % 2=1)) (decide (2<=m)):Nat):Int)) 257/\Buts [g] w w':=by
 have HC:Hid (∀ o,Calls Tryz.prog 247 #[.pointer (some ⟨g,0,none⟩),.int .u32 (v:Nat),.int .u32 (m:Nat)] (w.alloc o) fun e w'=>e=.returned (.tuple #[.int .u32 ((awV f v (decide (m % 2=1)):Nat):Int),.int .i64 (awE f v (decide (m % 2=1)))])/\Blk w' g (onec ((awF f v (decide (m % 2=1)) (decide (2<=m)):Nat):Int)) 257/\Buts [g] (w.alloc o) w'):=fun o=>await_in (boxed h o).1 hf hv m hm
 clear h
 generalize awV f v (decide (m % 2=1))=x at *
 generalize awE f v (decide (m % 2=1))=y at *
 generalize awF f v (decide (m % 2=1)) (decide (2<=m))=z at *
 go_enter Tryz.func248,Tryz.ntmps248
 go_wp2_with (first
  |(go_at_call 247;refine(HC.out _).mono ?_;rintro e w1 ⟨rfl,hB,hb⟩;have HB:Hid (Blk w1 g (onec z) 257):=hB;have Hb:=(Buts.of (l:=[g]) (alloc_below w _)).trans hb;clear hB hb))
 go_ret2
 exact⟨rfl,HB.out,Hb⟩
theorem flg_awfar{w:World}{g:Nat}(v m:Int)(hm:4<=m)(who ah aw:Int) :
  Calls Tryz.prog 248 #[.pointer (some ⟨g,0,none⟩),.int .u32 who,.agg #[.int .u8 11,.int .u32 ah,.int .u32 v,.int .u32 m,.int .i64 aw]] w fun e w'=>e=.returned (.tuple #[.int .u32 0,.int .i64 1])/\Below w.heap.size w w':=by
 go_enter Tryz.func248,Tryz.ntmps248
 go_wp2_with (first
  |(go_at_call 247;refine(await_far _ _ hm).mono ?_;rintro e wx ⟨rfl,rfl⟩))
 go_ret2
 exact⟨rfl,alloc_below _ _⟩
def hdc(k a b:Int)(t:TypeId)(f:Nat):Array Value:=#[.int .u8 k,.int .u32 a,.int .u32 b,.iface t (.pointer (some ⟨f,0,none⟩))]
theorem two_blk(w:World)(o:Obj)(cs:Array Value)(t:TypeId):Blk ((w.alloc o).alloc (.cells cs t)) (w.heap.size+1) cs t/\Below w.heap.size w ((w.alloc o).alloc (.cells cs t)):=by
 have s1:=alloc_size w o
 have b1:=alloc_below w o
 have b2:=alloc_below (w.alloc o) (.cells cs t)
 refine⟨?_,b1.trans (b2.mono (by omega))⟩
 rw [←s1];exact alloc_at _ _
theorem part_sem{w:World}{a b:Int}(h:0<=a/\a<=b/\1<=b/\b<=1073741824) :
  Calls Tryz.prog 115 #[.agg #[.int .u8 1,.int .u32 a,.int .u32 b]] w fun e w'=>∃ f,e=.returned (.iface 243 (.pointer (some ⟨f,0,none⟩)))/\w.heap.size<=f/\Blk w' f (semc a b) 245/\Below w.heap.size w w':=by
 have a1:a<=b:=h.2.1
 have a2:1<=b:=h.2.2.1
 have a3:b<=1073741824:=h.2.2.2
 go_enter Tryz.func115,Tryz.ntmps115
 go_wp2
 go_ret
 obtain⟨h1,h2⟩:=two_blk w (.cells #[.int .u8 1,.int .u32 a,.int .u32 b] 35) (semc a b) 245
 exact⟨_,rfl,Nat.le_succ _,h1,h2⟩
theorem part_mut{w:World}{a b:Int}(h:a=0/\b=0) :
  Calls Tryz.prog 115 #[.agg #[.int .u8 2,.int .u32 a,.int .u32 b]] w fun e w'=>∃ f,e=.returned (.iface 246 (.pointer (some ⟨f,0,none⟩)))/\w.heap.size<=f/\Blk w' f (onec 0) 248/\Below w.heap.size w w':=by
 obtain⟨rfl,rfl⟩:=h
 go_enter Tryz.func115,Tryz.ntmps115
 go_wp2
 go_ret
 obtain⟨h1,h2⟩:=two_blk w (.cells #[.int .u8 2,.int .u32 0,.int .u32 0] 35) (onec 0) 248
 exact⟨_,rfl,Nat.le_succ _,h1,h2⟩
theorem part_flg{w:World}{a b:Int}(h:b=0) :
  Calls Tryz.prog 115 #[.agg #[.int .u8 4,.int .u32 a,.int .u32 b]] w fun e w'=>∃ f,e=.returned (.iface 255 (.pointer (some ⟨f,0,none⟩)))/\w.heap.size<=f/\Blk w' f (onec a) 257/\Below w.heap.size w w':=by
 subst h
 go_enter Tryz.func115,Tryz.ntmps115
 go_wp2
 go_ret
 obtain⟨h1,h2⟩:=two_blk w (.cells #[.int .u8 4,.int .u32 a,.int .u32 0] 35) (onec a) 257
 exact⟨_,rfl,Nat.le_succ _,h1,h2⟩
theorem part_ala{w:World}{a b:Int}(h:a≠0) :
  Calls Tryz.prog 115 #[.agg #[.int .u8 6,.int .u32 a,.int .u32 b]] w fun e w'=>∃ f,e=.returned (.iface 264 (.pointer (some ⟨f,0,none⟩)))/\w.heap.size<=f/\Blk w' f (#[]) 266/\Below w.heap.size w w':=by
 have hz:(a != 0)=true:=by simpa using h
 go_enter Tryz.func115,Tryz.ntmps115
 go_wp2
 go_ret
 obtain⟨h1,h2⟩:=two_blk w (.cells #[.int .u8 6,.int .u32 a,.int .u32 b] 35) (#[]) 266
 exact⟨_,rfl,Nat.le_succ _,h1,h2⟩
theorem part_row{w:World}{b:Int}(n:Nat)(h1:1<=n)(h2:n<=64)(h:b=0) :
  Calls Tryz.prog 115 #[.agg #[.int .u8 3,.int .u32 (n:Nat),.int .u32 b]] w fun e w'=>∃ f g,e=.returned (.iface 252 (.pointer (some ⟨f,0,none⟩)))/\w.heap.size<=f/\w.heap.size<=g/\Blk w' f (ptrc g) 254/\Que w' g n []/\Below w.heap.size w w':=by
 subst h
 go_enter Tryz.func115,Tryz.ntmps115
 go_wp2_with (first
  |(go_at_call 159;refine(new_yes n h1 h2).mono ?_;rintro e w1 ⟨rfl,hq,hb⟩;have k2:w1.cell? ⟨w.heap.size,2,none⟩=some (.int .u32 0):=(by rw [cell_of ((hb.block w.heap.size (by simp)).trans (alloc_at w _))];rfl);have hq1:Que w1 (w.heap.size+1) n []:=(by simpa using hq);have HQ:Hid (Que w1 (w.heap.size+1) n []):=hq1;clear hq1;have HB:Hid (Below w.heap.size w w1):=(alloc_below w _).trans (hb.mono (by simp));clear hq hb))
 go_ret
 have b2:=alloc_below w1 (.cells (ptrc (w.heap.size+1)) 254)
 exact⟨_,_,rfl,HB.out.size,Nat.le_succ _,alloc_at w1 _,HQ.out.below b2,HB.out.trans (b2.mono HB.out.size)⟩
theorem part_pool{w:World}{b:Int}(n:Nat)(h1:1<=n)(h2:n<=64)(h:1<=b/\b<=256) :
  Calls Tryz.prog 115 #[.agg #[.int .u8 5,.int .u32 (n:Nat),.int .u32 b]] w fun e w'=>∃ f g,e=.returned (.iface 261 (.pointer (some ⟨f,0,none⟩)))/\w.heap.size<=f/\w.heap.size<=g/\Blk w' f (ptrc g) 263/\Pl.Pool w' g n (List.replicate n 0)/\Below w.heap.size w w':=by
 have HH:Hid (1<=b/\b<=256):=h
 go_enter Tryz.func115,Tryz.ntmps115
 go_wp2_with (first
  |(go_at_call 160;refine(Pl.new_yes n b h1 h2 HH.out).mono ?_;rintro e w1 ⟨rfl,hq,hb⟩;have k2:w1.cell? ⟨w.heap.size,2,none⟩=some (.int .u32 b):=(by rw [cell_of ((hb.block w.heap.size (by simp)).trans (alloc_at w _))];rfl);have hq1:Pl.Pool w1 (w.heap.size+1) n (List.replicate n 0):=(by simpa using hq);have HQ:Hid (Pl.Pool w1 (w.heap.size+1) n (List.replicate n 0)):=hq1;clear hq1;have HB:Hid (Below w.heap.size w w1):=(alloc_below w _).trans (hb.mono (by simp));clear hq hb))
 go_ret
 have b2:=alloc_below w1 (.cells (ptrc (w.heap.size+1)) 263)
 exact⟨_,_,rfl,HB.out.size,Nat.le_succ _,alloc_at w1 _,HQ.out.below b2,HB.out.trans (b2.mono HB.out.size)⟩
theorem new_of{w:World}{k a b:Int}{t:TypeId}(X:Nat->World->Prop)(HP:∀ wx,Below w.heap.size w wx->Calls Tryz.prog 115 #[.agg #[.int .u8 k,.int .u32 a,.int .u32 b]] wx fun e w'=>∃ f,e=.returned (.iface t (.pointer (some ⟨f,0,none⟩)))/\X f w'/\Below wx.heap.size wx w') :
  Calls Tryz.prog 72 #[.agg #[.int .u8 k,.int .u32 a,.int .u32 b]] w fun e w'=>∃ f w1,e=.returned (.tuple #[.pointer (some ⟨w1.heap.size,0,none⟩),.int .i64 0])/\X f w1/\Below w.heap.size w w1/\w'=w1.alloc (.cells (hdc k a b t f) 187):=by
 have HC:=(show Hid _ from HP)
 have hbo:=alloc_below w (.cells #[.int .u8 k,.int .u32 a,.int .u32 b] 35)
 have H0:Hid ((w.alloc (.cells #[.int .u8 k,.int .u32 a,.int .u32 b] 35)).heap[w.heap.size]?=some (.cells #[.int .u8 k,.int .u32 a,.int .u32 b] 35 (0,0))):=alloc_at w _
 have hs:=alloc_size w (.cells #[.int .u8 k,.int .u32 a,.int .u32 b] 35)
 have HB0:=(show Hid _ from hbo)
 clear HP hbo
 go_enter Tryz.func72,Tryz.ntmps72
 go_wp2_with (first
  |(go_at_call 115;refine(HC.out _ HB0.out).mono ?_;rintro e w1 ⟨f,rfl,hX,hb⟩;have HX:Hid (X f w1):=hX;have HB:Hid (Below w.heap.size w w1):=HB0.out.trans (hb.mono HB0.out.size);have K0:=(hb.block w.heap.size (by omega)).trans H0.out;have k0:w1.cell? ⟨w.heap.size,0,none⟩=some (.int .u8 k):=(by rw [cell_of K0];rfl);have k1:w1.cell? ⟨w.heap.size,1,none⟩=some (.int .u32 a):=(by rw [cell_of K0];rfl);have k2:w1.cell? ⟨w.heap.size,2,none⟩=some (.int .u32 b):=(by rw [cell_of K0];rfl);clear hX hb K0))
 go_ret2
 exact⟨f,w1,rfl,HX.out,HB.out,rfl⟩
end Go.Proofs.YtbbdndfibjdcfaaGreat.Ob
namespace Go.Proofs.YtbbdndfibjdcfaaGreat.Ob.Tk
open Go Go.RowKit
def above(w g:World):World:={ g with heap:=w.heap ++ g.heap.extract w.heap.size g.heap.size,os:=w.os,tape:=w.tape,output:=w.output }
theorem above_of{w g:World}(h:Below w.heap.size w g):above w g=g:=by
 have hh:w.heap ++ g.heap.extract w.heap.size g.heap.size=g.heap:=by
  have hs:=h.size
  apply Array.ext_getElem?
  intro i
  by_cases hi:i < w.heap.size
  ·rw [Array.getElem?_append_left hi,h.block i hi]
  ·rw [Array.getElem?_append_right (by omega),Array.getElem?_extract]
   split
   ·rw [show w.heap.size+(i - w.heap.size)=i by omega]
   ·rw [Array.getElem?_eq_none (by omega)]
 unfold above
 rw [hh,←h.os,←h.tape,←h.output]
theorem below_above(w g:World):Below w.heap.size w (above w g) :=
 ⟨rfl,rfl,rfl,by simp [above],fun k hk=>by simp only [above];rw [Array.getElem?_append_left hk]⟩
theorem above_cell{w g:World}{b o:Nat}(h:b < w.heap.size):(above w g).cell? ⟨b,o,none⟩=w.cell? ⟨b,o,none⟩:=(below_above w g).cell (p:=⟨b,o,none⟩) h
theorem above_size(w g:World):w.heap.size<=(above w g).heap.size:=(below_above w g).size
theorem wp_region_calm{P:Program}{id:Nat}{Q:Exit->Act->World->Prop}{a:Act}{w:World}{l:List Oper}(hm:P.follows .mixedOrders=true)(hB:Region.lexB .any l.toArray=true)
  (h:wpQuiet P l.toArray (fun w'=>∃ g,w'=above w g) (fun a'=>∀ w',Below w.heap.size w w'->Q .normal a' w') l a):(Code.region id l.toArray true).wp P Q a w :=
 wp_region_quiet (C:=fun w'=>∃ g,w'=above w g) hm hB
  ⟨w.drew,(above_of (Below.refl _ _).drew).symm⟩
  (by
   simp only
   have mono:∀ (l':List Oper) (a':Act),wpQuiet P l.toArray (fun w'=>∃ g,w'=above w g) (fun a'=>∀ w',Below w.heap.size w w'->Q .normal a' w') l' a' ->
     wpQuiet P l.toArray (fun w'=>∃ g,w'=above w g) (fun a'=>∀ w',(∃ g,w'=above w g)->Q .normal a' w') l' a':=by
    intro l'
    induction l' with
    | nil=>intro a' h w' ⟨g,hg⟩;subst hg;exact h _ (below_above _ _)
    | cons o rest ih =>
     intro a' h
     simp only [wpQuiet] at h ⊢
     split at h
     ·rename_i hw;rw [if_pos hw];exact Oper.quiet_mono ih h
     ·rename_i hw;rw [if_neg hw];exact ih _ h
   exact mono _ _ h)
theorem calm_call{P:Program}{f:FuncId}{args:Array Value}{w g:World}{v:Value}
  (h:Calls P f args (above w g) fun e w'=>e=.returned v/\Below (above w g).heap.size (above w g) w'):Calls P f args (above w g) fun e w''=>e=.returned v/\∃ g',w''=above w g' :=
 h.mono fun _ w' ⟨he,hb⟩=>⟨he,w',(above_of ((below_above w g).trans (hb.mono (above_size w g)))).symm⟩
end Go.Proofs.YtbbdndfibjdcfaaGreat.Ob.Tk
