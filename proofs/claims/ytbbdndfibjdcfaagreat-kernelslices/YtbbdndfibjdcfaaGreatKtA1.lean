/- Package kernel, proved: part KtA1. No law of the program itself. -/
import Derived.Test.YtbbdndfibjdcfaaGreatRows
import Derived.WalkKit
import Derived.ProofKit
import Derived.OpenShut
import Derived.Laws.CopyOwn
import Derived.Laws.MakeOwn
import Derived.Laws.OwnMore
import Derived.Deep.RegionLaw
import Derived.Deep.QuietTactic
import Derived.BigQuiet
import Derived.Deep.CutRange
import Derived.Deep.RegionWith
import Derived.Deep.RegionHeld3
import Derived.Deep.CutBlock
import Derived.Laws.BitsAllLaws
import Derived.Laws.MathBits
import Derived.Laws.Rows
import Derived.Laws.EntriesVeiled
import Derived.Laws.ShiftsVarLaws
import Derived.Handy
import Derived.Stop.Asserts
import Derived.Carry
import Derived.Laws.Tables
import Derived.Deep.Onto
import Derived.Lib.Overlaps
import Derived.Lib.AppendZerosOnto
import Derived.Laws.NewBlocks
import Derived.ArgAppend
import Derived.WalkSpells
import Derived.Lib.AppendZeros
import Derived.RangeFuncBox
import Derived.RangeFuncLeaves
import Derived.RangeFuncCalls
import Derived.Shelf.Abstract
import Derived.Shelf.RegionOpen
import Derived.OwnWalkIn
import Derived.TacticsInMore
import Derived.LoopNIn
import Derived.LoopIn
import Derived.Maps.AppendAt
import Derived.Sort.QuietTacIn
import Derived.Maps.OwnSet
import Derived.Maps.OwnOps
import Derived.RangeFuncWrites
import Derived.Lib.BitFns
import Derived.Laws.Cover3
import Derived.WalkMore
import Derived.Deep.LoopGhost
import Derived.Defers
import Derived.ChangeMaps5
set_option maxRecDepth 100000
set_option linter.all false
namespace Go.Proofs.YtbbdndfibjdcfaaGreat
open Go Go.RowKit
abbrev aqW(wh ah av am aw:Int):Array Value:=#[.int .u8 wh,.int .u32 ah,.int .u32 av,.int .u32 am,.int .i64 aw]
def sl(n f i:Nat):Nat:=if f+i < n then f+i else f+i - n
theorem sl_lt{n f i:Nat}(hf:f < n)(hi:i<=n):sl n f i < n:=by unfold sl;split <;> omega
theorem sl_mod{n f i:Nat}(hf:f < n)(hi:i<=n):(f+i) % n=sl n f i:=by
 unfold sl
 split
 ·exact Nat.mod_eq_of_lt (by assumption)
 ·rw [Nat.mod_eq_sub_mod (by omega),Nat.mod_eq_of_lt (by omega)]
theorem sl_inj{n f i j:Nat}(hf:f < n)(hi:i < n)(hj:j < n)(h:sl n f i=sl n f j):i=j:=by
 unfold sl at h
 split at h <;> split at h <;> omega
theorem getD_set{zs:List Int}{i j:Nat}{v:Int}(hi:i < zs.length):(zs.set i v).getD j 0=if j=i then v else zs.getD j 0:=by
 by_cases h:j=i
 ·subst h;simp [hi]
 ·rw [if_neg h];simp [Ne.symm h]
theorem getD_app{xs ys:List Int}{i:Nat}:(xs ++ ys).getD i 0=if i < xs.length then xs.getD i 0 else ys.getD (i - xs.length) 0:=by
 by_cases h:i < xs.length
 ·rw [if_pos h];simp [List.getElem?_append_left h]
 ·rw [if_neg h];simp [List.getElem?_append_right (Nat.le_of_not_lt h)]
def num(zs:List Int):List Value:=zs.map (Value.int .i64)
theorem alloc_at(w:World)(o:Obj):(w.alloc o).heap[w.heap.size]?=some o:=by show(w.heap.push o)[w.heap.size]?=some o;exact Array.getElem?_push_size
theorem alloc_size(w:World)(o:Obj):(w.alloc o).heap.size=w.heap.size+1:=by show(w.heap.push o).size=_;exact Array.size_push _
theorem alloc_below(w:World)(o:Obj):Below w.heap.size w (w.alloc o):=(Below.refl _ _).alloc (Nat.le_refl _) _
theorem cell_of{w:World}{b i:Nat}{cs:Array Value}{t:TypeId}{k:Nat×Nat}(h:w.heap[b]?=some (.cells cs t k)):w.cell? ⟨b,i,none⟩=cs[i]?:=by
 simp [World.cell?,h]
theorem at_lt{w:World}{g:Nat}{o:Obj}(h:w.heap[g]?=some o):g < w.heap.size:=by
 rcases Nat.lt_or_ge g w.heap.size with k | k
 ·exact k
 ·rw [Array.getElem?_eq_none k] at h;cases h
theorem below_drewN(w:World):∀ n,Below w.heap.size w (w.drewN n)
 | 0=>Below.refl _ _
 | n+1=>by
  have:=below_drewN w n
  exact⟨this.os,this.tape,this.output,this.size,this.block⟩
theorem own_form{w:World}{B:Nat}{v:Value}{n:Nat}{xs:List Value}{t:TypeId}{s:Nat}(h:w.ownsRow B t s v n xs):∃ sp cap,v=.slice sp n cap/\(0 < n->∃ g,sp=some ⟨g,0,none⟩)/\(sp=none∨∃ g,sp=some ⟨g,0,none⟩/\w.heap[g]?.isSome/\∃ cur,w.heap[g]?=some (.cells cur t (0,0)))/\n<=maxLen:=by
 rcases h.2 with⟨rfl,rfl⟩ |⟨g,cap,cur,rfl,_,hh,hc,hm,_⟩
 ·exact⟨none,0,rfl,by omega,Or.inl rfl,by simp⟩
 ·exact⟨some ⟨g,0,none⟩,cap,rfl,fun _=>⟨g,rfl⟩,Or.inr ⟨g,rfl,by simp [hh],cur,hh⟩,by omega⟩
theorem num_at(zs:List Int)(i:Nat)(h:i < zs.length):(num zs)[i]?=some (.int .i64 (zs.getD i 0)):=by simp [num,h]
def Row(w:World)(g:Nat)(zs:List Int):Prop:=w.heap[g]?=some (.cells (num zs).toArray 3 (0,0))
theorem Row.lt{w:World}{g:Nat}{zs:List Int}(h:Row w g zs):g < w.heap.size:=at_lt h
theorem Row.cell{w:World}{g:Nat}{zs:List Int}(h:Row w g zs)(i:Nat)(hi:i < zs.length):w.cell? ⟨g,i,none⟩=some (.int .i64 (zs.getD i 0)):=by
 rw [cell_of h]
 simpa using num_at zs i hi
theorem Row.free{w:World}{g:Nat}{zs:List Int}(h:Row w g zs)(i:Nat):w.frozen? ⟨g,i,none⟩=false:=by unfold Row at h;simp [World.frozen?,h]
theorem Row.set{w:World}{g:Nat}{zs:List Int}(h:Row w g zs)(k:Nat)(v:Int):Row (w.setCell ⟨g,k,none⟩ (.int .i64 v)) g (zs.set k v):=by
 have hl:=h.lt
 have hv:w.heap[g]=.cells (num zs).toArray 3 (0,0):=(Array.getElem?_eq_some_iff.1 h).2
 unfold Row World.setCell
 rw [Array.getElem?_eq_getElem (by simpa using hl),Array.getElem_modify]
 simp [hv,num]
theorem made_zero(n:Nat):madeCells (Value.int .i64 0).cells n=(num (List.replicate n 0)).toArray:=by
 apply Array.ext_getElem?
 intro i
 by_cases hi:i < n
 ·simp [madeCells,Value.cells,num,hi,Nat.mod_one]
 ·simp [madeCells,Value.cells,num,hi]
theorem infoW:(Tryz.prog.info? 3).map (fun i=>(i.zero,i.size,i.bytes))=some (some (.int .i64 0),1,8):=by kernel_rfl
theorem make_row(w:World)(l c:Nat)(hl:l<=c)(hc:c<=1000000) :
  (Instr.makeSlice 111 (.int .i64 l) (.int .i64 c)).run Tryz.prog w=.ok (.slice (some ⟨w.heap.size,0,none⟩) l c) (w.alloc (.cells (num (List.replicate c 0)).toArray 3)):=by
 obtain⟨i,hi,he⟩:=Option.map_eq_some_iff.1 infoW
 have h1:i.zero=some (.int .i64 0):=by simpa using congrArg Prod.fst he
 have h2:i.size=1:=by simpa using congrArg (fun x=>x.2.1) he
 have h3:i.bytes=8:=by simpa using congrArg (fun x=>x.2.2) he
 have:=run_make w 111 3 i (.int .i64 0) Tryz.underlying111 hi h1 .i64 .i64 l c (by omega) (by omega) (by rw [h3];omega) (by omega)
 rw [this,h2,Nat.mul_one,made_zero]
 simp
theorem Row.below{w w':World}{g:Nat}{xs:List Int}(h:Row w g xs)(hb:Below w.heap.size w w'):Row w' g xs:=(hb.block g h.lt).trans h
def wrd(zs:List Int):List Value:=zs.map (Value.int .u32)
theorem owns_of{w w':World}{B:Nat}{e:TypeId}{s:Nat}{v:Value}{n:Nat}{xs:List Value}(h:w.ownsRow B e s v n xs)(hb:∀ g,v.ownBlock=some g->w'.heap[g]?=w.heap[g]?):w'.ownsRow B e s v n xs:=by
 obtain⟨h1,h2⟩:=h
 refine⟨h1,?_⟩
 rcases h2 with h2 |⟨g,cap,cur,rfl,hg,hh,r⟩
 ·exact Or.inl h2
 ·exact Or.inr ⟨g,cap,cur,rfl,hg,by rw [hb g rfl];exact hh,r⟩
theorem wrd_at(zs:List Int)(i:Nat)(h:i < zs.length):(wrd zs)[i]?=some (.int .u32 (zs.getD i 0)):=by
 simp [wrd,h]
theorem set_block{w:World}{p:Nat}{cs:Array Value}{t:TypeId}(h:w.heap[p]?=some (.cells cs t (0,0)))(k:Nat)(v:Value):(w.setCell ⟨p,k,none⟩ v).heap[p]?=some (.cells (cs.setIfInBounds k v) t (0,0)):=by
 have hl:=at_lt h
 have hh:=(Array.getElem?_eq_some_iff.1 h).2
 unfold World.setCell
 rw [Array.getElem?_eq_getElem (by simpa using hl),Array.getElem_modify]
 simp [hh]
theorem owns_spot{w:World}{B:Nat}{e:TypeId}{s:Nat}{v:Value}{n:Nat}{xs:List Value}(h:w.ownsRow B e s v n xs)(hn:0 < n):∃ g cap,v=.slice (some ⟨g,0,none⟩) n cap/\n<=cap/\cap<=maxLen:=by
 rcases h.2 with⟨_,h0⟩ |⟨g,cap,cur,rfl,_,_,hc,hm,_⟩
 ·omega
 ·exact⟨g,cap,rfl,hc,hm⟩
theorem block_ne{w:World}{B g:Nat}{v:Value}{n:Nat}{xs:List Value}{t t':TypeId}{s:Nat}{cs:Array Value}{f:Nat×Nat}(h:w.ownsRow B t s v n xs)(hv:v.ownBlock=some g){K:Nat}(hK:w.heap[K]?=some (.cells cs t' f))(ht:t≠t'):g≠K:=by
 rintro rfl
 rcases h.2 with⟨rfl,_⟩ |⟨g',c,cur,rfl,_,hh,_⟩
 ·simp [Value.ownBlock] at hv
 ·have:g'=g:=by simpa [Value.ownBlock] using hv
  subst this
  rw [hK] at hh
  simp only [Option.some.injEq,Obj.cells.injEq] at hh
  exact ht hh.2.1.symm
theorem cell1(w:World)(x:Value)(t:TypeId):∀ j u,([x]:List Value)[j]?=some u->(w.alloc (.cells #[x] t)).cell? ((⟨w.heap.size,0,none⟩:Addr).add j)=some u:=by
 intro j u hj
 have hadd:(⟨w.heap.size,0,none⟩:Addr).add j=⟨w.heap.size,0+j,none⟩:=by unfold Addr.add;split <;> simp_all
 rw [hadd,Nat.zero_add,cell_of (alloc_at w _)]
 rcases j with _ | j
 ·exact hj
 ·simp at hj
theorem info_parts'{P:Program}{t:TypeId}{v:Value}{s b:Nat}(h:(P.info? t).map (fun i=>(i.zero,i.size,i.bytes))=some (some v,s,b)):∃ i,P.info? t=some i/\i.zero=some v/\i.size=s/\i.bytes=b:=by
 obtain⟨i,hi,he⟩:=Option.map_eq_some_iff.1 h
 exact⟨i,hi,by simpa using congrArg Prod.fst he,by simpa using congrArg (fun x=>x.2.1) he,by simpa using congrArg (fun x=>x.2.2) he⟩
def Kp(ks:List Nat)(W W':World):Prop:=∀ k,k∈ks->W'.heap[k]?=W.heap[k]?
theorem Kp.refl(ks:List Nat)(W:World):Kp ks W W:=fun _ _=>rfl
theorem Kp.trans{ks:List Nat}{X Y Z:World}(h:Kp ks X Y)(k:Kp ks Y Z):Kp ks X Z:=fun i hi=>(k i hi).trans (h i hi)
theorem kp_b{ks:List Nat}{w:World}(hk:∀ k,k∈ks->k < w.heap.size)(W:World)(l:Nat)(o o':Obj)(hl:w.heap.size<=l)(h:W.heap[l]?=some o)(_:o.isCells=false)(_:o.isWalk=false):Kp ks W (W.putObj l o') :=
 fun k hi=>(grownBy_putObj' W l o').block k (by have:=(Array.getElem?_eq_some_iff.1 h).1;have:=hk k hi;omega) (fun e=>by
  have:=hk k hi
  rw [Option.some.injEq] at e
  omega)
theorem Kp.cell{ks:List Nat}{W W':World}(h:Kp ks W W'){k i:Nat}(hk:k∈ks):W'.cell? ⟨k,i,none⟩=W.cell? ⟨k,i,none⟩:=World.cell?_of_block (h k hk)
theorem ownFrom_of{β:Type}{B:Nat}{I:β->World->Prop}(h:∀ s W W',I s W->(∀ (k:Nat) (cs:Array Value) (t:TypeId) (f:Nat×Nat),W.heap[k]?=some (Obj.cells cs t f)->W'.heap[k]?=some (Obj.cells cs t f))->(∀ n₀,n₀<=B->n₀<=W.heap.size->Below n₀ W W')->I s W'):OwnFrom B I:=by
 intro s W W' row hs hg hr
 refine h s W W' hs (fun k cs t f hk=>?_) (fun n₀ hn hB=>⟨hg.os,hg.tape,hg.output,hg.size,fun k hk=>hg.block k (by omega) (fun e=>?_)⟩)
 ·rw [hg.block k (at_lt hk) (fun e=>?_)]
  ·exact hk
  ·obtain⟨_,o,ho,hc⟩:=hr k e.symm
   rw [hk] at ho;cases ho;cases hc
 ·have:=(hr k e.symm).1
  omega
theorem Boxed.other{W:World}{b k:Nat}{t:TypeId}{v u:Value}(h:Boxed W b t v)(hne:b≠k):Boxed (W.setCell ⟨k,0,none⟩ u) b t v:=(Below.heap_setCell _ _ _ _ hne).trans h
theorem cell_lt{w:World}{n i:Nat}{v:Value}(h:w.cell? ⟨n,i,none⟩=some v):n < w.heap.size:=by
 by_cases hn:n < w.heap.size
 ·exact hn
 ·rw [World.cell?] at h
  simp [Array.getElem?_eq_none (Nat.le_of_not_lt hn)] at h
end Go.Proofs.YtbbdndfibjdcfaaGreat
