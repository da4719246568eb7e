/- Package kernel, proved: part KtHr1. No law of the program itself. -/
import Derived.Test.YtbbdndfibjdcfaaGreatRows
import Derived.WalkKit
import Derived.ProofKit
import Derived.OpenShut
import Derived.Laws.CopyOwn
import Derived.Laws.MakeOwn
import Derived.Laws.OwnMore
import Derived.Deep.RegionLaw
import Derived.Deep.QuietTactic
import Derived.BigQuiet
import Derived.Deep.CutRange
import Derived.Deep.RegionWith
import Derived.Deep.RegionHeld3
import Derived.Deep.CutBlock
import Derived.Laws.Cover3
import Derived.ArgAppend
import Derived.WalkMore
import Derived.Deep.LoopGhost
import Derived.RangeFuncBox
import Derived.RangeFuncLeaves
import Derived.RangeFuncCalls
import Derived.Shelf.Abstract
import Derived.Shelf.RegionOpen
import Derived.OwnWalkIn
import Derived.TacticsInMore
import Derived.LoopNIn
import Derived.LoopIn
import Derived.Maps.AppendAt
import Derived.Sort.QuietTacIn
import Derived.Test.YtbbdndfibjdcfaaGreatKtA1
set_option maxRecDepth 100000
set_option linter.all false
set_option maxHeartbeats 16000000
namespace Go.Proofs.YtbbdndfibjdcfaaGreat.Hr
open Go Go.RowKit
def Plc(ws:List Int):Prop:=∀ i,i < ws.length->-1<=ws.getD i 0/\ws.getD i 0 < ws.length
def nx(ws:List Int)(a:Int):Int:=if a < 0 then -1 else ws.getD a.toNat 0
def ch(ws:List Int)(a:Int):Nat->Int
 | 0=>a
 | k+1=>nx ws (ch ws a k)
theorem nx_at(ws:List Int)(i:Nat):nx ws (i:Int)=ws.getD i 0:=by unfold nx;rw [if_neg (by omega)];rfl
theorem nx_neg(ws:List Int){a:Int}(h:a < 0):nx ws a=-1:=by unfold nx;rw [if_pos h]
theorem nx_pl{ws:List Int}(hp:Plc ws){a:Int}(h:a < ws.length):-1<=nx ws a/\nx ws a < ws.length:=by
 unfold nx
 split
 ·omega
 ·exact hp _ (by omega)
theorem ch_pl{ws:List Int}(hp:Plc ws){a:Int}(h0:-1<=a)(h:a < ws.length):∀ k,-1<=ch ws a k/\ch ws a k < ws.length
 | 0=>⟨h0,h⟩
 | k+1=>nx_pl hp (ch_pl hp h0 h k).2
theorem ch_neg(ws:List Int){a:Int}(h:a < 0):∀ j,ch ws a j < 0
 | 0=>h
 | j+1=>by show nx ws _ < 0;rw [nx_neg ws (ch_neg ws h j)];omega
def Circ(ws:List Int)(who whom:Int):Prop:=(0<=who/\who < ws.length)/\(0<=whom/\whom < ws.length)/\Plc ws/\∃ k,k < ws.length/\ch ws whom k=who
structure Val (bs ws:List Int):Prop where
 len:bs.length=ws.length
 few:bs.length<=256
 rank:∀ i,i < bs.length->0<=bs.getD i 0/\bs.getD i 0<=31
 plc:Plc ws
 oth:∀ i,i < ws.length->ws.getD i 0≠(i:Int)
structure Mid (bs ws l:List Int):Prop where
 len:l.length=bs.length
 low:∀ i,i < bs.length->bs.getD i 0<=l.getD i 0
 src:∀ i:Nat,i < bs.length->∃ k m:Nat,k < bs.length/\ch ws (k:Int) m=(i:Int)/\l.getD i 0=bs.getD k 0
def Shut(ws l:List Int):Prop:=∀ i:Nat,i < ws.length->0<=ws.getD i 0->l.getD i 0<=l.getD (ws.getD i 0).toNat 0
theorem Mid.start(bs ws:List Int):Mid bs ws bs:=⟨rfl,fun i _=>Int.le_refl _,fun i hi=>⟨i,0,hi,rfl,rfl⟩⟩
theorem Mid.raise{bs ws l:List Int}(h:Mid bs ws l){i j:Nat}(hi:i < bs.length)(hw:ws.getD i 0=(j:Int))(hl:l.getD j 0 < l.getD i 0):Mid bs ws (l.set j (l.getD i 0)):=by
 refine⟨by rw [List.length_set];exact h.len,fun k hk=>?_,fun k hk=>?_⟩
 ·by_cases e:k=j
  ·subst e
   have:=h.low k hk
   rw [List.getD_eq_getElem?_getD (l:=l.set _ _),List.getElem?_set_self (by rw [h.len];exact hk)]
   simp only [Option.getD_some]
   omega
  ·rw [List.getD_eq_getElem?_getD (l:=l.set _ _),List.getElem?_set_ne (Ne.symm e),←List.getD_eq_getElem?_getD]
   exact h.low k hk
 ·by_cases e:k=j
  ·subst e
   obtain⟨q,m,hq,hm,e⟩:=h.src i hi
   refine⟨q,m+1,hq,?_,?_⟩
   ·show nx ws (ch ws q m)=_
    rw [hm,nx_at,hw]
   ·rw [List.getD_eq_getElem?_getD (l:=l.set _ _),List.getElem?_set_self (by rw [h.len];exact hk)]
    exact e
  ·rw [List.getD_eq_getElem?_getD (l:=l.set _ _),List.getElem?_set_ne (Ne.symm e),←List.getD_eq_getElem?_getD]
   exact h.src k hk
theorem Mid.in{bs ws l:List Int}(h:Mid bs ws l)(hv:Val bs ws){i:Nat}(hi:i < bs.length):0<=l.getD i 0/\l.getD i 0<=31:=by
 obtain⟨k,m,hk,_,e⟩:=h.src i hi
 rw [e]
 exact hv.rank k hk
def slack:List Int->Nat
 | []=>0
 | x :: r=>(31 - x).toNat+slack r
theorem slack_set:∀ (l:List Int) (j:Nat) (v:Int),j < l.length->l.getD j 0 < v->v<=31->slack (l.set j v) < slack l
 | [],j,v,h,_,_=>by simp at h
 | x :: r,0,v,h,h1,h2=>by
  simp only [List.getD_cons_zero] at h1
  simp only [List.set_cons_zero,slack]
  omega
 | x :: r,j+1,v,h,h1,h2=>by
  simp only [List.getD_cons_succ] at h1
  have:=slack_set r j v (by simpa using h) h1 h2
  simp only [List.set_cons_succ,slack]
  omega
theorem Shut.ch{ws l:List Int}(h:Shut ws l)(hp:Plc ws){k:Nat}(hk:k < ws.length):∀ (m:Nat) (i:Nat),YtbbdndfibjdcfaaGreat.Hr.ch ws (k:Int) m=(i:Int)->l.getD k 0<=l.getD i 0
 | 0,i,e=>by
  have:k=i:=by
   have:(k:Int)=i:=e
   omega
  rw [this]
  exact Int.le_refl _
 | m+1,i,e=>by
  have e':nx ws (YtbbdndfibjdcfaaGreat.Hr.ch ws (k:Int) m)=(i:Int):=e
  have h1:=ch_pl hp (a:=(k:Int)) (by omega) (by omega) m
  rcases Int.lt_or_le (YtbbdndfibjdcfaaGreat.Hr.ch ws (k:Int) m) 0 with h2 | h2
  ·rw [nx_neg ws h2] at e'
   omega
  ·obtain⟨c,hc⟩:∃ c:Nat,YtbbdndfibjdcfaaGreat.Hr.ch ws (k:Int) m=(c:Int):=⟨(YtbbdndfibjdcfaaGreat.Hr.ch ws (k:Int) m).toNat,by omega⟩
   rw [hc] at e' h1
   rw [nx_at] at e'
   have h3:=Shut.ch h hp hk m c hc
   have h4:=h c (by omega) (by omega)
   rw [e'] at h4
   have:((i:Int)).toNat=i:=rfl
   rw [this] at h4
   omega
structure Lst (bs ws l:List Int):Prop where
 mid:Mid bs ws l
 shut:Shut ws l
theorem ext_getD{l l':List Int}(h:l.length=l'.length)(he:∀ i,i < l.length->l.getD i 0=l'.getD i 0):l=l':=by
 refine List.ext_getElem h fun i h1 h2=>?_
 have:=he i h1
 simpa [h1,h2] using this
theorem Lst.le{bs ws l l':List Int}(hv:Val bs ws)(h:Lst bs ws l)(h':Mid bs ws l'){i:Nat}(hi:i < bs.length):l'.getD i 0<=l.getD i 0:=by
 obtain⟨k,m,hk,hm,e⟩:=h'.src i hi
 have h1:=h.mid.low k hk
 have h2:=h.shut.ch hv.plc (by have:=hv.len;omega) m i hm
 omega
theorem Lst.same{bs ws l l':List Int}(hv:Val bs ws)(h:Lst bs ws l)(h':Lst bs ws l'):l=l' :=
 ext_getD (h.mid.len.trans h'.mid.len.symm) fun i hi=>by
  have hi:i < bs.length:=by have:=h.mid.len;omega
  have h1:=h.le hv h'.mid hi
  have h2:=h'.le hv h.mid hi
  omega
def Src(w:World)(sp:Option Addr)(zs:List Int):Prop :=
 0 < zs.length->∃ b off,sp=some ⟨b,off,none⟩/\∀ i,i < zs.length->w.cell? ⟨b,off+i,none⟩=some (.int .i64 (zs.getD i 0))
theorem Src.below{w w':World}{sp:Option Addr}{zs:List Int}(h:Src w sp zs)(hb:Below w.heap.size w w'):Src w' sp zs:=by
 intro hz
 obtain⟨b,off,e,hc⟩:=h hz
 exact⟨b,off,e,fun i hi=>by rw [hb.cell (p:=⟨b,off+i,none⟩) (cell_lt (hc i hi))];exact hc i hi⟩
structure Buts (l:List Nat) (w w':World):Prop where
 os:w'.os=w.os
 tape:w'.tape=w.tape
 output:w'.output=w.output
 size:w.heap.size<=w'.heap.size
 block:∀ k,k < w.heap.size->k ∉ l->w'.heap[k]?=w.heap[k]?
theorem Buts.below{l:List Nat}{B:Nat}{w w':World}(h:Buts l w w')(hg:∀ x∈l,B<=x)(hB:B<=w.heap.size):Below B w w' :=
 ⟨h.os,h.tape,h.output,h.size,fun k hk=>h.block k (by omega) (fun e=>by have:=hg k e;omega)⟩
theorem Buts.grown{w w':World}{row:Option Nat}(h:w.grownBy w' row):Buts row.toList w w' :=
 ⟨h.os,h.tape,h.output,h.size,fun k hk hg=>h.block k hk (fun e=>hg (by rw [←e];simp))⟩
theorem owns_below{w w':World}{B m:Nat}{v:Value}{xs:List Value}(h:w.ownsRow B 3 1 v m xs)(hb:Below w.heap.size w w'):w'.ownsRow B 3 1 v m xs :=
 owns_of h fun g hg=>hb.block g (h.lt g hg).2
end Go.Proofs.YtbbdndfibjdcfaaGreat.Hr
namespace Go.Proofs.YtbbdndfibjdcfaaGreat.Hr
open Go Go.RowKit
def Rks(bs:List Int):Prop:=∀ i,i < bs.length->0<=bs.getD i 0/\bs.getD i 0<=31
def Oth(ws:List Int):Prop:=∀ i,i < ws.length->ws.getD i 0≠(i:Int)
theorem isPlace_any(sp:Option Addr)(n c:Nat)(r:Int)(hn:n<=140737488355328)(w:World):Calls Tryz.prog 200 #[.slice sp n c,.int .i64 r] w fun e w'=>e=.returned (.bool (decide (0<=r/\r < n)))/\w=w':=by
 go_enter Tryz.func200,Tryz.ntmps200
 go_wp2
 all_goals
  go_ret
  refine⟨?_,rfl⟩
  simp
  try omega
theorem isPlace_is{sp:Option Addr}{n c:Nat}{r:Int}(hn:n<=140737488355328){b:Bool}(hb:b=true↔0<=r/\r < n)(w:World):Calls Tryz.prog 200 #[.slice sp n c,.int .i64 r] w fun e w'=>e=.returned (.bool b)/\w=w':=by
 have:=isPlace_any sp n c r hn w
 have e:b=decide (0<=r/\r < n):=by rw [Bool.eq_iff_iff,hb];simp
 rw [e];exact this
theorem Src.get{w:World}{sp:Option Addr}{zs:List Int}(h:Src w sp zs)(h0:0 < zs.length):∃ b off,sp=some ⟨b,off,none⟩/\Hid (∀ i,i < zs.length->w.cell? ⟨b,off+i,none⟩=some (.int .i64 (zs.getD i 0))):=h h0
theorem areRanks_is{w:World}{sp:Option Addr}{zs:List Int}(hs:Src w sp zs)(hl:zs.length<=1000000)(c:Nat){b:Bool}(hb:b=true↔Rks zs) :
  Calls Tryz.prog 134 #[.slice sp zs.length c] w fun e w'=>e=.returned (.bool b)/\w=w':=by
 have HT:Hid ((∀ i,i < zs.length->0<=zs.getD i 0/\zs.getD i 0<=31)->b=true):=fun h=>hb.2 h
 have HF:Hid (∀ i,i < zs.length->¬ (0<=zs.getD i 0/\zs.getD i 0<=31)->b=false):=fun i hi h=>by
  cases hbb:b
  ·rfl
  ·exact absurd (hb.1 hbb i hi) h
 clear hb
 by_cases h0:zs.length=0
 ·rw [h0]
  have hbt:=HT.out fun i hi=>by omega
  subst hbt
  clear hs hl h0 HT HF
  go_enter Tryz.func134,Tryz.ntmps134
  go_wp2
  refine wp_loop_rounds 1 ?_
  rw [rounds_succ]
  go_wp2
  go_ret
  exact⟨rfl,rfl⟩
 ·obtain⟨b1,o1,rfl,C1⟩:=hs.get (by omega)
  clear hs h0
  generalize zs.length=n at *
  go_enter Tryz.func134,Tryz.ntmps134
  go_wp2
  go_loopg [7] n (fun g s7 wx=>∃ i:Nat,i+g=n/\s7=.int .i64 i/\w=wx/\Hid (∀ j,j < i->0<=zs.getD j 0/\zs.getD j 0<=31))
  case atStart=>exact⟨0,by omega,rfl,rfl,fun j hj=>by omega⟩
  case round =>
   obtain⟨i,hig,rfl,rfl,HJ⟩:=hrel
   cases gk with
   | zero =>
    obtain rfl:i=n:=by omega
    have hlt:¬ ((i:Int) < i):=by omega
    have hbt:=HT.out HJ.out
    subst hbt
    go_wp2
    go_ret
    exact⟨rfl,rfl⟩
   | succ g =>
    have hlt:(i:Int) < n:=by omega
    have k1:=C1.out i (by omega)
    have HF1:=HF.out i (by omega)
    have HE:Hid (∃ z,zs.getD i 0=z):=⟨_,rfl⟩
    obtain⟨z,hz⟩:=HE.out
    rw [hz] at k1 HF1
    have HZ:Hid (zs.getD i 0=z):=hz
    clear hz HE
    by_cases hzz:0<=z/\z<=31
    ·have a1:¬ (z < 0):=by omega
     have a2:¬ (31 < z):=by omega
     clear HF1 hzz
     go_wp2
     go_roundg g
     case measure=>omega
     case rel=>exact⟨i+1,by omega,by go_num,rfl,fun j hj=>by
      rcases Nat.lt_or_ge j i with h | h
      ·exact HJ.out j h
      ·obtain rfl:j=i:=by omega
       rw [HZ.out];omega⟩
    ·have hbt:=HF1 hzz
     subst hbt
     by_cases a1:z < 0
     ·clear HF1 hzz
      go_wp2
      go_ret
      exact⟨rfl,rfl⟩
     ·have a2:31 < z:=by omega
      clear HF1 hzz
      go_wp2
      go_ret
      exact⟨rfl,rfl⟩
theorem arePlaces_is{w:World}{sp:Option Addr}{zs:List Int}(hs:Src w sp zs)(hl:zs.length<=140737488355328)(c:Nat){b:Bool}(hb:b=true↔Plc zs) :
  Calls Tryz.prog 176 #[.slice sp zs.length c] w fun e w'=>e=.returned (.bool b)/\w=w':=by
 have HT:Hid ((∀ i,i < zs.length->-1<=zs.getD i 0/\zs.getD i 0 < zs.length)->b=true):=fun h=>hb.2 h
 have HF:Hid (∀ i,i < zs.length->¬ (-1<=zs.getD i 0/\zs.getD i 0 < zs.length)->b=false):=fun i hi h=>by
  cases hbb:b
  ·rfl
  ·exact absurd (hb.1 hbb i hi) h
 clear hb
 by_cases h0:zs.length=0
 ·rw [h0]
  have hbt:=HT.out fun i hi=>by omega
  subst hbt
  clear hs hl h0 HT HF
  go_enter Tryz.func176,Tryz.ntmps176
  go_wp2
  refine wp_loop_rounds 1 ?_
  rw [rounds_succ]
  go_wp2
  go_ret
  exact⟨rfl,rfl⟩
 ·obtain⟨b1,o1,rfl,C1⟩:=hs.get (by omega)
  clear hs h0
  generalize zs.length=n at *
  go_enter Tryz.func176,Tryz.ntmps176
  go_wp2
  go_loopg [7] n (fun g s7 wx=>∃ i:Nat,i+g=n/\s7=.int .i64 i/\w=wx/\Hid (∀ j,j < i->-1<=zs.getD j 0/\zs.getD j 0 < n))
  case atStart=>exact⟨0,by omega,rfl,rfl,fun j hj=>by omega⟩
  case round =>
   obtain⟨i,hig,rfl,rfl,HJ⟩:=hrel
   cases gk with
   | zero =>
    obtain rfl:i=n:=by omega
    have hlt:¬ ((i:Int) < i):=by omega
    have hbt:=HT.out HJ.out
    subst hbt
    go_wp2
    go_ret
    exact⟨rfl,rfl⟩
   | succ g =>
    have hlt:(i:Int) < n:=by omega
    have k1:=C1.out i (by omega)
    have HF1:=HF.out i (by omega)
    have HE:Hid (∃ z,zs.getD i 0=z):=⟨_,rfl⟩
    obtain⟨z,hz⟩:=HE.out
    rw [hz] at k1 HF1
    have HZ:Hid (zs.getD i 0=z):=hz
    clear hz HE
    by_cases hzz:-1<=z/\z < n
    ·clear HF1
     have HG:Hid (-1<=z/\z < n):=hzz
     by_cases a1:z=-1
     ·subst a1
      clear hzz
      go_wp2
      go_roundg g
      case measure=>omega
      case rel=>exact⟨i+1,by omega,by go_num,rfl,fun j hj=>by
       rcases Nat.lt_or_ge j i with h | h
       ·exact HJ.out j h
       ·obtain rfl:j=i:=by omega
        rw [HZ.out];exact HG.out⟩
     ·have hP:=isPlace_is (sp:=some ⟨b1,o1,none⟩) (n:=n) (c:=c) (r:=z) (b:=true) (by omega) (by simp;omega) w
      clear hzz
      go_wp2_with (first |(go_at_call 200;refine hP.mono ?_;rintro e wx ⟨rfl,rfl⟩))
      go_roundg g
      case measure=>omega
      case rel=>exact⟨i+1,by omega,by go_num,rfl,fun j hj=>by
       rcases Nat.lt_or_ge j i with h | h
       ·exact HJ.out j h
       ·obtain rfl:j=i:=by omega
        rw [HZ.out];exact HG.out⟩
    ·have hbt:=HF1 hzz
     subst hbt
     have a1:¬ (z=-1):=by omega
     have hP:=isPlace_is (sp:=some ⟨b1,o1,none⟩) (n:=n) (c:=c) (r:=z) (b:=false) (by omega) (by simp;omega) w
     clear HF1 hzz
     go_wp2_with (first |(go_at_call 200;refine hP.mono ?_;rintro e wx ⟨rfl,rfl⟩))
     go_ret
     exact⟨rfl,rfl⟩
theorem areOthers_is{w:World}{sp:Option Addr}{zs:List Int}(hs:Src w sp zs)(hl:zs.length<=140737488355328)(c:Nat){b:Bool}(hb:b=true↔(Oth zs/\Plc zs)) :
  Calls Tryz.prog 135 #[.slice sp zs.length c] w fun e w'=>e=.returned (.bool b)/\w=w':=by
 have HP:Hid ((∀ i,i < zs.length->zs.getD i 0≠(i:Int))->Calls Tryz.prog 176 #[.slice sp zs.length c] w fun e w'=>e=.returned (.bool b)/\w=w'):=fun h=>arePlaces_is hs hl c ⟨fun k=>(hb.1 k).2,fun k=>hb.2 ⟨h,k⟩⟩
 have HF:Hid (∀ i,i < zs.length->zs.getD i 0=(i:Int)->b=false):=fun i hi h=>by
  cases hbb:b
  ·rfl
  ·exact absurd h ((hb.1 hbb).1 i hi)
 clear hb
 by_cases h0:zs.length=0
 ·have hP:=HP.out fun i hi=>by omega
  rw [h0] at hP ⊢
  clear hs hl h0 HP HF
  go_enter Tryz.func135,Tryz.ntmps135
  go_wp2
  refine wp_loop_rounds 1 ?_
  rw [rounds_succ]
  go_wp2_with (first |(go_at_call 176;refine hP.mono ?_;rintro e wx ⟨rfl,rfl⟩))
  go_ret
  exact⟨rfl,rfl⟩
 ·obtain⟨b1,o1,rfl,C1⟩:=hs.get (by omega)
  clear hs h0
  generalize zs.length=n at *
  go_enter Tryz.func135,Tryz.ntmps135
  go_wp2
  go_loopg [7] n (fun g s7 wx=>∃ i:Nat,i+g=n/\s7=.int .i64 i/\w=wx/\Hid (∀ j,j < i->zs.getD j 0≠(j:Int)))
  case atStart=>exact⟨0,by omega,rfl,rfl,fun j hj=>by omega⟩
  case round =>
   obtain⟨i,hig,rfl,rfl,HJ⟩:=hrel
   cases gk with
   | zero =>
    obtain rfl:i=n:=by omega
    have hlt:¬ ((i:Int) < i):=by omega
    have hP:=HP.out HJ.out
    go_wp2_with (first |(go_at_call 176;refine hP.mono ?_;rintro e wx ⟨rfl,rfl⟩))
    go_ret
    exact⟨rfl,rfl⟩
   | succ g =>
    have hlt:(i:Int) < n:=by omega
    have k1:=C1.out i (by omega)
    have HF1:=HF.out i (by omega)
    have HE:Hid (∃ z,zs.getD i 0=z):=⟨_,rfl⟩
    obtain⟨z,hz⟩:=HE.out
    rw [hz] at k1 HF1
    have HZ:Hid (zs.getD i 0=z):=hz
    clear hz HE
    by_cases hzz:z=(i:Int)
    ·have hbt:=HF1 hzz
     subst hbt hzz
     clear HF1
     go_wp2
     go_ret
     exact⟨rfl,rfl⟩
    ·clear HF1
     have a1:(z == (i:Int))=false:=by simpa using hzz
     have HZZ:Hid (z≠(i:Int)):=hzz
     go_wp2
     go_roundg g
     case measure=>omega
     case rel=>exact⟨i+1,by omega,by go_num,rfl,fun j hj=>by
      rcases Nat.lt_or_ge j i with h | h
      ·exact HJ.out j h
      ·obtain rfl:j=i:=by omega
       rw [HZ.out];exact HZZ.out⟩
theorem eql_nil(w:World)(a:Option Addr)(l c:Nat):(binOp .eql 111 (.slice a l c) (.slice none 0 0)).run Tryz.prog w=.ok (.bool a.isNone) w:=by
 simp [binOp,run_equal_slice_nil w 111 3 a l c Tryz.underlying111]
theorem add_at(b o j:Nat):(⟨b,o,none⟩:Addr).add j=⟨b,o+j,none⟩:=by unfold Addr.add;split <;> simp_all
theorem num_one(zs:List Int):∀ u∈zs.map (Value.int .i64),u.oneCell'=true:=by
 intro u hu
 obtain⟨z,_,rfl⟩:=List.mem_map.1 hu
 rfl
theorem Src.news{w w':World}{a:Addr}{zs:List Int}(h:Src w (some a) zs)(hb:Below w.heap.size w w'):∀ j u,(zs.map (Value.int .i64))[j]?=some u->w'.cell? (a.add j)=some u:=by
 intro j u hj
 have hl:j < zs.length:=by
  have:=(List.getElem?_eq_some_iff.1 hj).1
  simpa using this
 obtain⟨b,o,e,hc⟩:=h.below hb (by omega)
 cases e
 rw [add_at,hc j hl,←hj]
 simp [hl]
section
attribute [local go_sem] eql_nil
theorem clone_any{w:World}{sp:Option Addr}{zs:List Int}(hs:Src w sp zs)(hl:zs.length<=1000000)(c:Nat) :
  Calls Tryz.prog 136 #[.slice sp zs.length c] w fun e w'=>∃ v,e=.returned v/\w'.ownsRow w.heap.size 3 1 v zs.length (zs.map (Value.int .i64))/\Below w.heap.size w w':=by
 obtain⟨i0,hi,hz0,hz1,hz2⟩:=info_parts' infoW
 rcases sp with _ | ad
 ·have h0:zs=[]:=by
   rcases zs with _ |⟨z,zs⟩
   ·rfl
   ·obtain⟨b,o,e,_⟩:=hs (by simp)
    cases e
  subst h0
  go_enter Tryz.func136,Tryz.ntmps136
  go_wp2
  go_ret
  exact⟨_,rfl,World.ownsRow_nil _ _ _ _,Below.refl _ _⟩
 ·have HS:Hid (Src w (some ad) zs):=hs
  obtain⟨n,hn⟩:∃ n,zs.length=n:=⟨_,rfl⟩
  have HN:Hid (zs.length=n):=hn
  rw [hn] at hl ⊢
  clear hs hn
  go_enter Tryz.func136,Tryz.ntmps136
  go_wp2_with (first
    |(at_builtin;refine wpList_append_own _ rfl _ _ 111 rfl w.heap.size 3 i0 (.int .i64 0) 1 8 Tryz.underlying111 hi hz0 hz1 hz2 rfl (by decide) _ _ _ rfl (World.ownsRow_made w #[] 0 (Nat.le_refl _) (by simp) rfl) ad n c (zs.map (Value.int .i64)) rfl (by simp [HN.out]) (HS.out.news (alloc_below w _)) (num_one zs) (by simp only [maxLen];omega) (by omega) (by rw [alloc_size];omega) ?_;intro v' w1 hown' hgrow _;have HG:Hid ((w.alloc (.cells #[] 3)).grownBy w1 (some w.heap.size)):=hgrow;have HO3:Hid (w1.ownsRow w.heap.size 3 1 v' (0+n) ([] ++ zs.map (Value.int .i64))):=hown';clear hown' hgrow))
  go_ret
  refine⟨_,rfl,?_,?_⟩
  ·have:=HO3.out
   rwa [Nat.zero_add,List.nil_append] at this
  ·exact(alloc_below w _).trans ((Buts.grown HG.out).below (fun x hx=>by simp at hx;omega) (by rw [alloc_size];omega))
end
end Go.Proofs.YtbbdndfibjdcfaaGreat.Hr
namespace Go.Proofs.YtbbdndfibjdcfaaGreat.Hr
open Go Go.RowKit
theorem val_iff{bs ws:List Int}:Val bs ws↔bs.length=ws.length/\bs.length<=256/\Rks bs/\Oth ws/\Plc ws :=
 ⟨fun h=>⟨h.len,h.few,h.rank,h.oth,h.plc⟩,fun⟨h1,h2,h3,h4,h5⟩=>⟨h1,h2,h3,h5,h4⟩⟩
theorem owns_free{w:World}{B g n cap:Nat}{xs:List Value}(h:w.ownsRow B 3 1 (.slice (some ⟨g,0,none⟩) n cap) n xs)(j:Nat):w.frozen? ⟨g,j,none⟩=false:=by
 rcases h.2 with⟨e,_⟩ |⟨g',c,cur,e,_,hh,_⟩
 ·cases e
 ·simp only [Value.slice.injEq,Option.some.injEq,Addr.mk.injEq,and_true,true_and] at e
  obtain⟨rfl,rfl⟩:=e
  simp [World.frozen?,hh]
theorem num_set(l:List Int)(j:Nat)(v:Int):(l.map (Value.int .i64)).set j (.int .i64 v)=(l.set j v).map (Value.int .i64):=by rw [List.map_set]
theorem ranks_yes{w:World}{sp sq:Option Addr}{bs ws:List Int}(hs:Src w sp bs)(ht:Src w sq ws)(hv:Val bs ws)(c d:Nat) :
  Calls Tryz.prog 92 #[.slice sp bs.length c,.slice sq ws.length d] w fun e w'=>∃ v l,e=.returned (.tuple #[v,.int .i64 0])/\Lst bs ws l/\w'.ownsRow w.heap.size 3 1 v bs.length (l.map (Value.int .i64))/\Below w.heap.size w w':=by
 have HV:Hid (Val bs ws):=hv
 obtain⟨h1,h2,h3,h4,h5⟩:=val_iff.1 hv
 have hR:=areRanks_is hs (by omega) c (b:=true) (by simp [h3])
 have hO:=areOthers_is ht (by omega) d (b:=true) (by simp [h4,h5])
 have hC:=clone_any hs (by omega) c
 have HT:Hid (Src w sq ws):=ht
 have HN:Hid (ws.length=bs.length):=h1.symm
 rw [←h1] at hO ⊢
 clear hs ht hv h3 h4 h5 h1
 obtain⟨n,hn⟩:∃ n,bs.length=n:=⟨_,rfl⟩
 have HB:Hid (bs.length=n):=hn
 rw [hn] at hR hO hC h2 HN ⊢
 clear hn
 obtain⟨B,hB0⟩:∃ B,w.heap.size=B:=⟨_,rfl⟩
 have HB0:Hid (w.heap.size=B):=hB0
 rw [hB0] at hC ⊢
 clear hB0
 go_enter Tryz.func92,Tryz.ntmps92
 go_wp2
 go_step3
 go_wp2_with (first |(go_at_call 134;refine hR.mono ?_;rintro e wx ⟨rfl,rfl⟩) |(go_at_call 135;refine hO.mono ?_;rintro e wx ⟨rfl,rfl⟩) |(go_at_call 136;refine hC.mono ?_;rintro e w1 ⟨v1,rfl,ho1,hb1⟩;obtain⟨sp1,cap1,rfl,hsp,_,_⟩:=own_form ho1;have HO1:Hid (w1.ownsRow B 3 1 (.slice sp1 n cap1) n (bs.map (Value.int .i64))):=ho1;have HB1:Hid (Below B w w1):=hb1;clear ho1 hb1))
 go_step3
 go_wp2
 go_loopg [] (slack bs) (fun gk wx=>∃ l,slack l=gk/\Hid (Mid bs ws l)/\Hid (wx.ownsRow B 3 1 (.slice sp1 n cap1) n (l.map (Value.int .i64)))/\Hid (Below B w wx))
 case atStart=>exact⟨bs,rfl,Mid.start bs ws,HO1,HB1⟩
 case round =>
  clear HO1 HB1
  obtain⟨l,hg,HM,HO,HW⟩:=hrel
  clear hR hO hC
  go_wp2
  go_loopg [33] n (fun g2 s33 wx=>∃ i:Nat,i+g2=n/\s33=.int .i64 i/\Hid (wx.ownsRow B 3 1 (.slice sp1 n cap1) n (l.map (Value.int .i64)))/\Hid (Below B w wx)/\Hid (∀ j:Nat,j < i->0<=ws.getD j 0->l.getD j 0<=l.getD (ws.getD j 0).toNat 0))
  case atStart=>exact⟨0,by omega,rfl,HO,HW,fun j hj=>by omega⟩
  case round =>
   clear HO HW
   rename_i gz
   obtain⟨i,hig,rfl,HO,HW,HJ⟩:=hrel
   cases gk with
   | zero =>
    obtain rfl:i=n:=by omega
    have hlt:¬ ((i:Int) < i):=by omega
    go_wp2
    try rw [Exit.noGoto_ret]
    go_ret2
    exact⟨_,l,rfl,⟨HM.out,fun j hj=>HJ.out j (by have:=HN.out;omega)⟩,HO.out,HW.out⟩
   | succ g =>
    have hlt:(i:Int) < n:=by omega
    obtain⟨b2,o2,rfl,C2⟩:=(HT.out.below (w':=wr) (by have:=HW.out;rwa [HB0.out])).get (by rw [HN.out];omega)
    have k1:=C2.out i (by rw [HN.out];omega)
    have HZ0:Hid (-1<=ws.getD i 0/\ws.getD i 0 < n):=by have:=HV.out.plc i (by rw [HN.out];omega);rwa [HN.out] at this
    obtain⟨z,hz⟩:∃ z,ws.getD i 0=z:=⟨_,rfl⟩
    rw [hz] at k1 HZ0
    have HZ:Hid (ws.getD i 0=z):=hz
    clear hz C2
    by_cases hz1:z=-1
    ·subst hz1
     clear HZ0
     go_wp2
     go_quiet ((fail))
     go_wp2
     go_roundg g
     case measure=>omega
     case rel=>exact⟨i+1,by omega,by go_num,owns_below HO.out (below_drewN wr nq),HW.out.trans ((below_drewN wr nq).mono (by have:=HW.out.size;have:=HB0.out;omega)),fun j hj h0=>by
      rcases Nat.lt_or_ge j i with h | h
      ·exact HJ.out j h h0
      ·obtain rfl:j=i:=by omega
       rw [HZ.out] at h0;omega⟩
    ·obtain⟨j,hj⟩:∃ j:Nat,z=(j:Int):=⟨z.toNat,by have:=HZ0.out;omega⟩
     subst hj
     have hjn:(j:Int) < n:=HZ0.out.2
     have hj0:¬ ((j:Int) < 0):=by omega
     have a1:((j:Int) != -1)=true:=by simp
     obtain⟨g1,rfl⟩:=hsp (by omega)
     have hll:l.length=n:=by rw [HM.out.len,HB.out]
     have k2:wr.cell? ⟨g1,i,none⟩=some (.int .i64 (l.getD i 0)):=by rw [HO.out.cellAt i (by omega)];simp [hll,show i < n by omega]
     have k3:wr.cell? ⟨g1,j,none⟩=some (.int .i64 (l.getD j 0)):=by rw [HO.out.cellAt j (by omega)];simp [hll,show j < n by omega]
     by_cases hlt2:l.getD j 0 < l.getD i 0
     ·have HL2:Hid (l.getD j 0 < l.getD i 0):=hlt2
      have f1:wr.frozen? ⟨g1,j,none⟩=false:=owns_free HO.out j
      obtain⟨x,hx⟩:∃ x,l.getD i 0=x:=⟨_,rfl⟩
      obtain⟨y,hy⟩:∃ y,l.getD j 0=y:=⟨_,rfl⟩
      rw [hx] at hlt2 k2
      rw [hy] at hlt2 k3
      have HX:Hid (l.getD i 0=x):=hx
      have hdl:decide (y < x)=true:=decide_eq_true hlt2
      clear hx hy hz1 hll
      go_wp2
      go_quiet ((fail))
      go_wp2
      have HX31:Hid (x<=31):=by have:=HM.out.in HV.out (i:=i) (by rw [HB.out];omega);rw [HX.out] at this;exact this.2
      have HS:Hid (slack (l.set j x) < slack l):=slack_set l j x (by rw [HM.out.len,HB.out];omega) (by have:=HL2.out;rwa [HX.out] at this) HX31.out
      go_roundg (slack (l.set j x))
      case measure=>have:=HS.out;omega
      case rel =>
       refine⟨l.set j x,rfl,?_,?_,?_⟩
       ·have:=HM.out.raise (i:=i) (j:=j) (by rw [HB.out];omega) HZ.out HL2.out
        rw [HX.out] at this
        exact this
       ·have:=((owns_below HO.out (below_drewN wr nq)).stored j (.int .i64 x)).1
        rw [num_set] at this
        exact this
       ·refine(HW.out.trans ((below_drewN wr nq).mono (by have:=HW.out.size;have:=HB0.out;omega))).setCell ?_ _
        exact(HO.out.lt g1 rfl).1
     ·have HL2:Hid (¬ l.getD j 0 < l.getD i 0):=hlt2
      obtain⟨x,hx⟩:∃ x,l.getD i 0=x:=⟨_,rfl⟩
      obtain⟨y,hy⟩:∃ y,l.getD j 0=y:=⟨_,rfl⟩
      rw [hx] at hlt2 k2
      rw [hy] at hlt2 k3
      have hdl:decide (y < x)=false:=decide_eq_false hlt2
      clear hx hy hz1 hll
      go_wp2
      go_quiet ((fail))
      go_wp2
      go_roundg g
      case measure=>omega
      case rel=>exact⟨i+1,by omega,by go_num,owns_below HO.out (below_drewN wr nq),HW.out.trans ((below_drewN wr nq).mono (by have:=HW.out.size;have:=HB0.out;omega)),fun j' hj' h0=>by
       rcases Nat.lt_or_ge j' i with h | h
       ·exact HJ.out j' h h0
       ·obtain rfl:j'=i:=by omega
        rw [HZ.out]
        have:=HL2.out
        have e:((j:Int)).toNat=j:=rfl
        rw [e];omega⟩
end Go.Proofs.YtbbdndfibjdcfaaGreat.Hr
namespace Go.Proofs.YtbbdndfibjdcfaaGreat.Hr
open Go Go.RowKit Go.Shelf
attribute [local go_sem] Oper.semAt_some
def chl(ws:List Int)(a:Int):Nat->List Int
 | 0=>[]
 | k+1=>if a < 0 then [] else a :: chl ws (nx ws a) k
theorem chl_len(ws:List Int):∀ (k:Nat) (a:Int),(chl ws a k).length<=k
 | 0,a=>by simp [chl]
 | k+1,a=>by
  unfold chl
  split
  ·simp
  ·have:=chl_len ws k (nx ws a);simp;omega
theorem ch_next(ws:List Int)(a:Int):∀ i,ch ws a (i+1)=ch ws (nx ws a) i
 | 0=>rfl
 | i+1=>by show nx ws (ch ws a (i+1))=nx ws _;rw [ch_next ws a i]
theorem chl_at(ws:List Int):∀ (k:Nat) (a:Int) (i:Nat),i < k->0<=ch ws a i->i < (chl ws a k).length/\(chl ws a k).getD i 0=ch ws a i
 | 0,a,i,h,_=>by omega
 | k+1,a,i,h,h0=>by
  have ha:¬ (a < 0):=fun h1=>by have:=ch_neg ws h1 i;omega
  unfold chl
  rw [if_neg ha]
  cases i with
  | zero=>exact⟨by simp,rfl⟩
  | succ i =>
   rw [ch_next] at h0 ⊢
   obtain⟨h1,h2⟩:=chl_at ws k (nx ws a) i (by omega) h0
   exact⟨by simpa using h1,by simpa using h2⟩
theorem chl_end(ws:List Int):∀ (k:Nat) (a:Int) (i:Nat),ch ws a i < 0->(chl ws a k).length<=i
 | 0,a,i,_=>by simp [chl]
 | k+1,a,i,h=>by
  unfold chl
  split
  ·simp
  ·cases i with
   | zero=>exact absurd h (by assumption)
   | succ i =>
    rw [ch_next] at h
    have:=chl_end ws k (nx ws a) i h
    simpa using this
theorem chl_mem(ws:List Int):∀ (k:Nat) (a x:Int),0<=x->(x∈chl ws a k↔∃ j,j < k/\ch ws a j=x)
 | 0,a,x,_=>by simp [chl]
 | k+1,a,x,h=>by
  unfold chl
  split
  ·rename_i ha
   simp only [List.not_mem_nil,false_iff]
   rintro ⟨j,_,e⟩
   have:=ch_neg ws ha j
   omega
  ·rw [List.mem_cons,chl_mem ws k (nx ws a) x h]
   constructor
   ·rintro (rfl |⟨j,hj,e⟩)
    ·exact⟨0,by omega,rfl⟩
    ·exact⟨j+1,by omega,by rw [ch_next];exact e⟩
   ·rintro ⟨j,hj,e⟩
    cases j with
    | zero=>exact Or.inl e.symm
    | succ j=>rw [ch_next] at e;exact Or.inr ⟨j,by omega,e⟩
theorem take_snoc(xs:List Int){k:Nat}(h:k < xs.length):xs.take (k+1)=xs.take k ++ [xs.getD k 0]:=by
 rw [List.take_succ_eq_append_getElem h]
 simp [h]
theorem chain_any(sq:Option Addr)(n c:Nat)(a:Int)(w:World) :
  Calls Tryz.prog 209 #[.slice sq n c,.int .i64 a] w fun e w'=>e=.returned (.func (.func 214) #[] #[.pointer (some ⟨w.heap.size+1,0,none⟩),.pointer (some ⟨w.heap.size,0,none⟩)])/\w'=(w.alloc (.cells #[.slice sq n c] 111)).alloc (.cells #[.int .i64 a] 3):=by
 go_enter Tryz.func209,Tryz.ntmps209
 go_wp2
 go_ret
 exact⟨by simp,rfl⟩
theorem seq1(N:Nat)(hN:1<=N)(l Bf Bw b o c:Nat)(sq:Option Addr)(ws:List Int)(hsp:0 < ws.length->sq=some ⟨b,o,none⟩)(hm:ws.length<=140737488355328)(hp:Plc ws)(a:Int)(ha:0<=a)(ha':a < ws.length)(J Jx:List Int->World->Prop)
  (hY:∀ pre (x:Int) W,J pre W->pre.length < ws.length->YieldAt Fence.wide (N - 1) Tryz.prog l #[.int .i64 x] W fun e W' =>
   (e=.returned (.bool true)/\J (pre ++ [x]) W'/\Kp [Bf,Bw,b] W W')∨(e=.returned (.bool false)/\Jx (pre ++ [x]) W'))
  (W:World) (hBf:W.cell? ⟨Bf,0,none⟩=some (.int .i64 a)) (hBw:W.cell? ⟨Bw,0,none⟩=some (.slice sq ws.length c)) (hg:∀ k,k < ws.length->W.cell? ⟨b,o+k,none⟩=some (.int .i64 (ws.getD k 0))) (h0:J [] W) :
  CallsIn Fence.wide N Tryz.prog 214 #[.func (.yield l) #[] #[],.pointer (some ⟨Bf,0,none⟩),.pointer (some ⟨Bw,0,none⟩)] W fun e W'=>(∃ v,e=.returned v) /\
   ((∃ ys,ys=chl ws a ws.length/\J ys W')∨(∃ pre,pre <+: chl ws a ws.length/\Jx pre W')):=by
 obtain⟨X,hX⟩:∃ X,chl ws a ws.length=X:=⟨_,rfl⟩
 have hXl:X.length<=ws.length:=by rw [←hX];exact chl_len _ _ _
 have HA:Hid (∀ i,i < ws.length->0<=ch ws a i->i < X.length/\X.getD i 0=ch ws a i):=fun i hi h=>by rw [←hX];exact chl_at ws _ a i hi h
 have HE:Hid (∀ i,ch ws a i < 0->X.length<=i):=fun i h=>by rw [←hX];exact chl_end ws _ a i h
 have HC:Hid (∀ i,-1<=ch ws a i/\ch ws a i < ws.length):=ch_pl hp (by omega) ha'
 have HN:Hid (∀ i (k:Nat),ch ws a i=(k:Int)->ch ws a (i+1)=ws.getD k 0):=fun i k e=>by show nx ws _=_;rw [e,nx_at]
 have HG:Hid (∀ k,k < ws.length->W.cell? ⟨b,o+k,none⟩=some (.int .i64 (ws.getD k 0))):=hg
 have hc0:ch ws a 0=a:=rfl
 rw [hX]
 clear hX hp ha ha' hg
 generalize ch ws a=f at *
 obtain⟨n,hn⟩:∃ n,ws.length=n:=⟨_,rfl⟩
 rw [hn] at hsp hm hY hBw hXl HA HC HG
 clear hn
 refine callsIn_of_wp Tryz.func214 rfl trivial ?_ rfl
 simp only [Tryz.ntmps214,List.size_toArray,List.length_cons,List.length_nil,Nat.reduceAdd,Nat.reduceSub,Array.replicate_succ,Array.replicate_zero,List.push_toArray,List.append_toArray,List.nil_append,List.cons_append]
 gi_wp2
 gi_loopw [4,8] (fun s t wr=>∃ k:Nat,s=.int .i64 (f k)/\t=.int .i64 (k:Int)/\k<=n/\k<=X.length/\Hid (J (X.take k) wr)/\Hid (Kp [Bf,Bw,b] W wr))
  (fun s t wr=>match t with | .int _ k=>n - k.toNat | _=>0)
 case atStart =>
  exact⟨0,by rw [hc0],rfl,by omega,by omega,h0,Kp.refl _ _⟩
 case round =>
  obtain⟨k,rfl,rfl,hk,hkx,HJ,HK⟩:=hrel
  by_cases hkm:k=n
  ·have hlt:¬ ((k:Int) < n):=by omega
   gi_wp2
   go_end0
   refine⟨⟨_,rfl⟩,.inl ?_⟩
   have:=HJ.out
   rw [List.take_of_length_le (by omega)] at this
   first | exact this | exact⟨_,rfl,this⟩
  ·have hkl:k < n:=by omega
   have hlt:(k:Int) < n:=by omega
   have hcc:=HC.out k
   have HAk:=HA.out k hkl
   have HEk:=HE.out k
   have HNk:=HN.out k
   by_cases hneg:f k=-1
   ·have HE2:Hid (X.length<=k):=HEk (by omega)
    clear HAk HEk HNk hcc
    generalize f k=y at *
    subst hneg
    gi_wp2
    refine⟨(fun f h=>by cases h),?_⟩
    gi_wp2
    refine bodyPost_ret (results_none rfl _ _ _) rfl ?_
    refine⟨⟨_,rfl⟩,.inl ?_⟩
    have:=HJ.out
    rw [List.take_of_length_le HE2.out] at this
    first | exact this | exact⟨_,rfl,this⟩
   ·obtain⟨q,hq⟩:∃ q:Nat,f k=(q:Int):=⟨(f k).toNat,by omega⟩
    obtain⟨hx1,hx2⟩:=HAk (by omega)
    have HX1:Hid (k < X.length):=hx1
    have HF1:Hid (f (k+1)=ws.getD q 0):=HNk q hq
    rw [hq] at hcc hx2
    obtain⟨fn,tmps,assign,body,hy,hR⟩:=hY _ (X.getD k 0) wr HJ.out (by rw [List.length_take];omega)
    rw [←take_snoc X hx1] at hR
    rw [hx2] at hy
    rw [hq]
    have hsp':=hsp (by omega)
    have c1:W.cell? ⟨Bw,0,none⟩=some (.slice (some ⟨b,o,none⟩) n c):=by rw [hBw,hsp']
    have hqn:(q:Int) < n:=hcc.2
    have hq0:¬ ((q:Int) < 0):=by omega
    have hqm:((q:Int) == -1)=false:=by simp
    have c3:=HG.out q (by omega)
    have hwk:IntKind.i64.wrap ((k:Int)+1)=(k:Int)+1:=by rw [IntKind.wrap_i64];omega
    have HC1:Hid (W.cell? ⟨Bw,0,none⟩=some (.slice (some ⟨b,o,none⟩) n c)):=c1
    have HC3:Hid (W.cell? ⟨b,o+q,none⟩=some (.int .i64 (ws.getD q 0))):=c3
    clear HAk HEk HNk hq hx2 hx1 hneg c1 c3 hsp'
    generalize ws.getD q 0=y at *
    gi_wp2
    refine hR.mono ?_
    rintro e W3 (⟨rfl,hJ3,hk3⟩ |⟨rfl,hJx3⟩)
    ·have hk4:=HK.out.trans hk3
     have d1:=(hk4.cell (k:=Bw) (i:=0) (by simp)).trans HC1.out
     have d3:=(hk4.cell (k:=b) (i:=o+q) (by simp)).trans HC3.out
     gi_wp2
     go_roundw
     case rel=>exact⟨k+1,by rw [HF1.out],by go_num,by omega,by have:=HX1.out;omega,hJ3,hk4⟩
     case measure=>simp;omega
    ·gi_wp2
     refine bodyPost_ret (results_none rfl _ _ _) rfl ?_
     exact⟨⟨_,rfl⟩,.inr ⟨_,List.take_prefix _ _,hJx3⟩⟩
theorem seq_stops(N:Nat)(hN:1<=N)(Bf Bw b o c:Nat)(sq:Option Addr)(ws:List Int)(hsp:0 < ws.length->sq=some ⟨b,o,none⟩)(hm:ws.length<=140737488355328)(hp:Plc ws)(a:Int)(ha:0<=a)(ha':a < ws.length)(w:World)
  (hb1:Bf < w.heap.size) (hb2:Bw < w.heap.size) (hb3:b < w.heap.size)
  (hBf:w.cell? ⟨Bf,0,none⟩=some (.int .i64 a)) (hBw:w.cell? ⟨Bw,0,none⟩=some (.slice sq ws.length c)) (hg:∀ k,k < ws.length->w.cell? ⟨b,o+k,none⟩=some (.int .i64 (ws.getD k 0))) :
  SeqStopsK Fence.wide N Tryz.prog 214 #[.pointer (some ⟨Bf,0,none⟩),.pointer (some ⟨Bw,0,none⟩)] (fun x:Int=>#[Value.int .i64 x]) (Kp [Bf,Bw,b]) (fun ys=>ys=chl ws a ws.length) (fun pre=>pre <+: chl ws a ws.length) ws.length w:=fun l J Jx W hW _ _ hY h0 =>
 seq1 N hN l Bf Bw b o c sq ws hsp hm hp a ha ha' J Jx hY W ((hW.cell (p:=⟨Bf,0,none⟩) hb1).trans hBf) ((hW.cell (p:=⟨Bw,0,none⟩) hb2).trans hBw) (fun k hk=>(hW.cell (p:=⟨b,o+k,none⟩) hb3).trans (hg k hk)) h0
end Go.Proofs.YtbbdndfibjdcfaaGreat.Hr
namespace Go.Proofs.YtbbdndfibjdcfaaGreat.Hr
open Go Go.RowKit Go.Shelf
attribute [local go_sem] Oper.semAt_some
def CB(W:World)(t:Nat)(who:Int)(c:Bool):Prop:=Boxed W t 3 (.int .i64 who)/\Boxed W (t+1) 4 (.bool c)
theorem CB.keep{W W':World}{t:Nat}{who:Int}{c:Bool}(h:CB W t who c)(hk:∀ (k:Nat) (cs:Array Value) (t:TypeId) (f:Nat×Nat),W.heap[k]?=some (Obj.cells cs t f)->W'.heap[k]?=some (Obj.cells cs t f)):CB W' t who c :=
 ⟨hk _ _ _ _ h.1,hk _ _ _ _ h.2⟩
theorem CB.put{W:World}{t:Nat}{who:Int}{c:Bool}(h:CB W t who c)(c':Bool):CB (W.setCell ⟨t+1,0,none⟩ (.bool c')) t who c' :=
 ⟨Boxed.other h.1 (by omega),Boxed.set _ h.2⟩
theorem two_box(w:World)(v0 v1:Value)(t0 t1:TypeId){t:Nat}(ht:w.heap.size=t){W:World}(hW:(w.alloc (Obj.cells #[v0] t0)).alloc (Obj.cells #[v1] t1)=W) :
  Boxed W t t0 v0/\Boxed W (t+1) t1 v1/\Below t w W/\W.heap.size=t+1+1:=by
 subst ht
 subst hW
 refine⟨(Boxed.new w t0 v0).alloc _,?_,((Below.refl _ w).alloc (Nat.le_refl _) _).alloc (by simp) _,by simp⟩
 have:=Boxed.new (w.alloc (Obj.cells #[v0] t0)) t1 v1
 simpa using this
theorem circle_results{W:World}{t:Nat}{who:Int}{c:Bool}(h:CB W t who c)(tmps:Array Value)(h6:tmps.getD 6 undef=.pointer (some ⟨t+1,0,none⟩)) :
  (results Tryz.f192 tmps).run Tryz.prog W=.ok (.bool c) W:=by
 have hr:Tryz.f192.results=#[.cell 6 4]:=rfl
 have c2:=h.2.cell
 rw [Array.getD_eq_getD_getElem?] at h6
 simp [results,hr,h6,go_sem,c2]
theorem circle_no{w:World}{sq:Option Addr}{ws:List Int}(hs:Src w sq ws)(hm:ws.length<=140737488355328)(c:Nat){who whom:Int}(hno:¬ ((0<=who/\who < ws.length)/\(0<=whom/\whom < ws.length)/\Plc ws)) :
  Calls Tryz.prog 192 #[.slice sq ws.length c,.int .i64 who,.int .i64 whom] w fun e w'=>e=.returned (.bool false)/\Below w.heap.size w w':=by
 refine(callsIn_wide (n:=3)).1 ?_
 refine callsIn_of_wp_marks Tryz.func192 rfl trivial ?_ rfl
 simp only [Tryz.ntmps192,List.size_toArray,List.length_cons,List.length_nil,Nat.reduceAdd,Nat.reduceSub,Array.replicate_succ,Array.replicate_zero,List.push_toArray,List.append_toArray,List.nil_append,List.cons_append]
 obtain⟨t,ht⟩:∃ t,w.heap.size=t:=⟨_,rfl⟩
 obtain⟨W0,hW0⟩:∃ W0,(w.alloc (.cells #[.int .i64 who] 3)).alloc (.cells #[.bool false] 4)=W0:=⟨_,rfl⟩
 obtain⟨x0,x1,hB0,hsz⟩:=two_box w _ _ _ _ ht hW0
 have hCB:CB W0 t who false:=⟨x0,x1⟩
 have c0:=x0.cell
 have c1:=x1.cell
 have f1:=x1.frozen
 rw [ht]
 by_cases h1:0<=who/\who < ws.length
 ·by_cases h2:0<=whom/\whom < ws.length
  ·have h3:¬ Plc ws:=fun h=>hno ⟨h1,h2,h⟩
   have P1:=isPlace_is (sp:=sq) (c:=c) hm (b:=true) (r:=who) (by simp;exact h1) W0
   have P2:=isPlace_is (sp:=sq) (c:=c) hm (b:=true) (r:=whom) (by simp;exact h2) W0
   have P3:=arePlaces_is (hs.below (ht ▸ hB0)) hm c (b:=false) (by simp [h3])
   clear h1 h2 h3 hno hs
   generalize ws.length=n at *
   gi_wp2_with (first
    |(refine⟨trivial,?_⟩;gi_at_call 200;refine(callsIn_wide.2 P1).mono ?_;rintro e wx ⟨rfl,hwx⟩;subst hwx;clear hW0 ht P1)
    |(refine⟨trivial,?_⟩;gi_at_call 200;refine(callsIn_wide.2 P2).mono ?_;rintro e wx ⟨rfl,hwx⟩;subst hwx;clear P2)
    |(refine⟨trivial,?_⟩;gi_at_call 176;refine(callsIn_wide.2 P3).mono ?_;rintro e wx ⟨rfl,hwx⟩;subst hwx))
   exact⟨_,circle_results (hCB.put false) _ rfl,rfl,hB0.setCell (p:=⟨t+1,0,none⟩) (by simp) _⟩
  ·have P1:=isPlace_is (sp:=sq) (c:=c) hm (b:=true) (r:=who) (by simp;exact h1) W0
   have P2:=isPlace_is (sp:=sq) (c:=c) hm (b:=false) (r:=whom) (by simp;omega) W0
   clear h1 h2 hno hs
   generalize ws.length=n at *
   gi_wp2_with (first
    |(refine⟨trivial,?_⟩;gi_at_call 200;refine(callsIn_wide.2 P1).mono ?_;rintro e wx ⟨rfl,hwx⟩;subst hwx;clear hW0 ht P1)
    |(refine⟨trivial,?_⟩;gi_at_call 200;refine(callsIn_wide.2 P2).mono ?_;rintro e wx ⟨rfl,hwx⟩;subst hwx;clear P2))
   refine⟨trivial,?_⟩
   gi_wp2
   exact⟨_,circle_results (hCB.put false) _ rfl,rfl,hB0.setCell (p:=⟨t+1,0,none⟩) (by simp) _⟩
 ·have P1:=isPlace_is (sp:=sq) (c:=c) hm (b:=false) (r:=who) (by simp;omega) W0
  clear h1 hno hs
  generalize ws.length=n at *
  gi_wp2_with (first
   |(refine⟨trivial,?_⟩;gi_at_call 200;refine(callsIn_wide.2 P1).mono ?_;rintro e wx ⟨rfl,hwx⟩;subst hwx;clear hW0 ht P1))
  refine⟨trivial,?_⟩
  gi_wp2
  refine⟨trivial,?_⟩
  gi_wp2
  exact⟨_,circle_results (hCB.put false) _ rfl,rfl,hB0.setCell (p:=⟨t+1,0,none⟩) (by simp) _⟩
theorem circle_yes{w:World}{sq:Option Addr}{ws:List Int}(hs:Src w sq ws)(hm:ws.length<=140737488355328)(c:Nat){who whom:Int}(h1:0<=who/\who < ws.length)(h2:0<=whom/\whom < ws.length)(h3:Plc ws) :
  Calls Tryz.prog 192 #[.slice sq ws.length c,.int .i64 who,.int .i64 whom] w fun e w'=>((who∈chl ws whom ws.length/\e=.returned (.bool true))∨(who ∉ chl ws whom ws.length/\e=.returned (.bool false)))/\Below w.heap.size w w':=by
 refine(callsIn_wide (n:=3)).1 ?_
 refine callsIn_of_wp_marks Tryz.func192 rfl trivial ?_ rfl
 simp only [Tryz.ntmps192,List.size_toArray,List.length_cons,List.length_nil,Nat.reduceAdd,Nat.reduceSub,Array.replicate_succ,Array.replicate_zero,List.push_toArray,List.append_toArray,List.nil_append,List.cons_append]
 obtain⟨t,ht⟩:∃ t,w.heap.size=t:=⟨_,rfl⟩
 have HT:Hid (w.heap.size=t):=ht
 obtain⟨W0,hW0⟩:∃ W0,(w.alloc (.cells #[.int .i64 who] 3)).alloc (.cells #[.bool false] 4)=W0:=⟨_,rfl⟩
 obtain⟨x0,x1,hB0,hsz⟩:=two_box w _ _ _ _ ht hW0
 have c0:=x0.cell
 obtain⟨b,o,rfl,hcs⟩:=hs (by omega)
 have hbt:b < t:=by rw [←ht];exact cell_lt (hcs 0 (by omega))
 have P1:=isPlace_is (sp:=some ⟨b,o,none⟩) (c:=c) hm (b:=true) (r:=who) (by simp;exact h1) W0
 have P2:=isPlace_is (sp:=some ⟨b,o,none⟩) (c:=c) hm (b:=true) (r:=whom) (by simp;exact h2) W0
 have P3:=arePlaces_is (hs.below (ht ▸ hB0)) hm c (b:=true) (by simp [h3])
 have P4:=chain_any (some ⟨b,o,none⟩) ws.length c whom W0
 obtain⟨W1,hW1⟩:∃ W1,(W0.alloc (.cells #[.slice (some ⟨b,o,none⟩) ws.length c] 111)).alloc (.cells #[.int .i64 whom] 3)=W1:=⟨_,rfl⟩
 obtain⟨y0,y1,hB1,hsz1⟩:=two_box W0 _ _ _ _ hsz hW1
 rw [hW1,hsz] at P4
 rw [ht]
 have hBw:Below t w W1:=hB0.trans (hB1.mono (by omega))
 have hCB:CB W1 t who false:=⟨(hB1.block t (by omega)).trans x0,(hB1.block (t+1) (by omega)).trans x1⟩
 have hcs1:∀ k,k < ws.length->W1.cell? ⟨b,o+k,none⟩=some (.int .i64 (ws.getD k 0)):=fun k hk=>(hBw.cell (p:=⟨b,o+k,none⟩) hbt).trans (hcs k hk)
 have HSQ:=seq_stops (N:=2) (by omega) (t+1+1+1) (t+1+1) b o c (some ⟨b,o,none⟩) ws (fun _=>rfl) hm h3 whom h2.1 h2.2 W1 (by omega) (by omega) (by omega) y1.cell y0.cell hcs1
 clear hs hcs hW1 x0 x1 hcs1 y0 y1
 generalize chl ws whom ws.length=X at *
 generalize ws.length=n at *
 gi_wp2_with (first
  |(refine⟨trivial,?_⟩;gi_at_call 200;refine(callsIn_wide.2 P1).mono ?_;rintro e wx ⟨rfl,hwx⟩;subst hwx;clear hW0 ht P1)
  |(refine⟨trivial,?_⟩;gi_at_call 200;refine(callsIn_wide.2 P2).mono ?_;rintro e wx ⟨rfl,hwx⟩;subst hwx;clear P2)
  |(refine⟨trivial,?_⟩;gi_at_call 176;refine(callsIn_wide.2 P3).mono ?_;rintro e wx ⟨rfl,hwx⟩;subst hwx;clear P3)
  |(refine⟨trivial,?_⟩;gi_at_call 209;refine(callsIn_wide.2 P4).mono ?_;rintro e wx ⟨rfl,hwx⟩;have hwy:=hwx.symm;subst hwy;clear P4))
 refine wpIn_rangeFunc_ownG rfl (by omega) (gf:=214) (lb:=#[.pointer (some ⟨t+1+1+1,0,none⟩),.pointer (some ⟨t+1+1,0,none⟩)]) rfl trivial (enters_of Tryz.func214 (by kernel_rfl) rfl)
  HSQ Kp.trans (kp_b (by simp;omega)) (Below.refl _ _) (fun _=>rfl)
  (fun pre W=>CB W t who false/\(∀ x∈pre,x≠who)/\Below t w W)
  (fun c pre W=>c=.ret/\who∈pre/\CB W t who true/\Below t w W)
  (ownFrom_of fun s W W' hs hk hB=>⟨hs.1.keep hk,hs.2.1,hs.2.2.trans (hB t (by omega) (by have:=hs.2.2.size;have:=HT.out;omega))⟩)
  (fun c=>ownFrom_of fun s W W' hs hk hB=>⟨hs.1,hs.2.1,hs.2.2.1.keep hk,hs.2.2.2.trans (hB t (by omega) (by have:=hs.2.2.2.size;have:=HT.out;omega))⟩)
  ⟨hCB,by simp,hBw⟩
  (fun x=>{ tmps:=#[.slice (some ⟨b,o,none⟩) n c,.int .i64 who,.int .i64 whom,undef,.pointer (some ⟨t,0,none⟩),undef,.pointer (some ⟨t+1,0,none⟩),.int .i64 x,.slice (some ⟨b,o,none⟩) n c,.int .i64 who,.bool true,.bool false,.bool false,.slice (some ⟨b,o,none⟩) n c,.int .i64 whom,.bool true,.bool false,.bool false,.bool false,.slice (some ⟨b,o,none⟩) n c,.bool true,.bool false,.bool false,.slice (some ⟨b,o,none⟩) n c,.int .i64 whom,.func (.func 214) #[] #[.pointer (some ⟨t+1+1+1,0,none⟩),.pointer (some ⟨t+1+1,0,none⟩)],.int .i64 x,undef,undef,undef],defers:=[] }) ?assign ?body ?done ?stop
 case assign =>
  intro l x W K hK
  gi_wp2
  exact hK
 case body =>
  rintro l pre x W ⟨hCW,hne,hB⟩ hlt
  have c0':=hCW.1.cell
  have c1':=hCW.2.cell
  have f1':=hCW.2.frozen
  have hwt:=hB.size
  clear c0 hsz hsz1 hB0 hB1 HSQ hBw hCB
  by_cases hxw:x=who
  ·have hxe:(x == who)=true:=by simpa using hxw
   gi_wp2
   exact⟨(KeepsOthers.setCell _ _ _).from _,rfl,by simp [hxw],hCW.put true,hB.setCell (p:=⟨t+1,0,none⟩) (by simp) _⟩
  ·have hxe:(x == who)=false:=by simpa using hxw
   gi_wp2
   exact⟨(KeepsOthers.refl _).from _,fun k _=>rfl,hCW,fun y hy=>by
    rcases List.mem_append.1 hy with hy | hy
    ·exact hne y hy
    ·have:y=x:=by simpa using hy
     rw [this];exact hxw,hB⟩
 case done =>
  rintro D ys W hD rfl ⟨hCW,hne,hB⟩ hK
  have c1':=hCW.2.cell
  have f1':=hCW.2.frozen
  have HK:Hid (W.heap[D]?=some (.deferred (some []))):=hK
  have HNE:Hid (who ∉ ys):=fun h=>hne who h rfl
  clear c0 hB0 hB1 HSQ hBw hCB hne hK
  gi_wp2
  have hK2:(W.setCell ⟨t+1,0,none⟩ (.bool false)).heap[D]?=some (.deferred (some [])):=(KeepsOthers.setCell _ _ _).same D _ HK.out rfl
  refine⟨by simp,.inl ⟨_,_,rfl,run_takeDeferred hK2,?_⟩⟩
  have hfb:=hCW.put false
  have hbw:Below t w (W.setCell ⟨t+1,0,none⟩ (.bool false)):=hB.setCell (p:=⟨t+1,0,none⟩) (by simp) _
  generalize W.setCell ⟨t+1,0,none⟩ (.bool false)=W2 at hK2 hfb hbw
  refine⟨_,circle_results (hfb.keep (W':=W2.putObj D (.deferred none)) (fun k cs ty f hk=>(World.putObj_heap_other (fun e=>by rw [e,hK2] at hk;cases hk)).trans hk)) _ rfl,.inr ⟨HNE.out,rfl⟩,?_⟩
  exact hbw.trans (belowK_b (w:=W1) (by omega) W2 D _ _ hD hK2 rfl rfl)
 case stop =>
  rintro D c pre W hD hpre ⟨rfl,hx,hCW,hB⟩ hK
  have c1':=hCW.2.cell
  clear c0 hB0 hB1 HSQ hBw hCB
  gi_wp2
  refine⟨by simp,.inl ⟨_,_,rfl,run_takeDeferred hK,?_⟩⟩
  refine⟨_,circle_results (hCW.keep (W':=W.putObj D (.deferred none)) (fun k cs ty f hk=>(World.putObj_heap_other (fun e=>by rw [e,hK] at hk;cases hk)).trans hk)) _ rfl,.inl ⟨hpre.subset hx,rfl⟩,?_⟩
  exact hB.trans (belowK_b (w:=W1) (by omega) W D _ _ hD hK rfl rfl)
theorem circle_is{w:World}{sq:Option Addr}{ws:List Int}(hs:Src w sq ws)(hm:ws.length<=140737488355328)(c:Nat){who whom:Int}{b:Bool}(hb:b=true↔Circ ws who whom) :
  Calls Tryz.prog 192 #[.slice sq ws.length c,.int .i64 who,.int .i64 whom] w fun e w'=>e=.returned (.bool b)/\Below w.heap.size w w':=by
 by_cases h:(0<=who/\who < ws.length)/\(0<=whom/\whom < ws.length)/\Plc ws
 ·obtain⟨h1,h2,h3⟩:=h
  refine(circle_yes hs hm c h1 h2 h3).mono ?_
  rintro e w' ⟨h4 | h4,hB⟩
  ·have:b=true:=hb.2 ⟨h1,h2,h3,(chl_mem ws _ _ _ h1.1).1 h4.1⟩
   exact⟨by rw [this];exact h4.2,hB⟩
  ·have:b=false:=by
    cases hbb:b
    ·rfl
    ·exact absurd ((chl_mem ws _ _ _ h1.1).2 (hb.1 hbb).2.2.2) h4.1
   exact⟨by rw [this];exact h4.2,hB⟩
 ·refine(circle_no hs hm c h).mono ?_
  rintro e w' ⟨rfl,hB⟩
  have:b=false:=by
   cases hbb:b
   ·rfl
   ·exact absurd ⟨(hb.1 hbb).1,(hb.1 hbb).2.1,(hb.1 hbb).2.2.1⟩ h
  exact⟨by rw [this],hB⟩
end Go.Proofs.YtbbdndfibjdcfaaGreat.Hr
