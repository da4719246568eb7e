/- Package kernel, proved: part KtOb2. No law of the program itself. -/
import Derived.Laws.Tables
import Derived.Laws.Rows
import Derived.Deep.Onto
import Derived.Deep.RegionWith
import Derived.Test.YtbbdndfibjdcfaaGreatKtOb1
import Derived.Test.YtbbdndfibjdcfaaGreatKtA1
set_option maxRecDepth 100000
set_option linter.all false
set_option maxHeartbeats 16000000
namespace Go.Proofs.YtbbdndfibjdcfaaGreat.Ob
open Go Go.RowKit
open Tk (above above_cell below_above wp_region_calm calm_call)
theorem there_any{w:World}{p f:Nat}{k a b:Int}{t:TypeId}(h:Blk w p (hdc k a b t f) 187) :
  Calls Tryz.prog 99 #[.pointer (some ⟨p,0,none⟩)] w fun e w'=>e=.returned (.bool true)/\w=w':=by
 have hlt:=h.lt
 have c3:w.cell? ⟨p,3,none⟩=some (.iface t (.pointer (some ⟨f,0,none⟩))):=by rw [h.cell];rfl
 clear h
 go_enter Tryz.func99,Tryz.ntmps99
 go_wp2
 go_ret
 exact⟨rfl,rfl⟩
theorem try_sem{w:World}{p f:Nat}{k a b:Int}(hh:Blk w p (hdc k a b 243 f) 187)(hk:0<=k/\k<=255)(who wh ah av am aw:Int)(hw:who≠0)(hf:Tk.fitB wh k=true){R:World->Prop}{v er:Int}
  (HP:∀ wx,Below w.heap.size w wx->Calls Tryz.prog 235 #[.pointer (some ⟨f,0,none⟩),.int .u32 who,.agg #[.int .u8 wh,.int .u32 ah,.int .u32 av,.int .u32 am,.int .i64 aw]] wx fun e w'=>e=.returned (.tuple #[.int .u32 v,.int .i64 er])/\R w') :
  Calls Tryz.prog 58 #[.pointer (some ⟨p,0,none⟩),.int .u32 who,.agg #[.int .u8 wh,.int .u32 ah,.int .u32 av,.int .u32 am,.int .i64 aw]] w fun e w'=>e=.returned (.tuple #[.int .u32 v,.int .i64 er])/\R w':=by
 have HC:=(show Hid _ from HP)
 clear HP
 have hz:(who == 0)=false:=by simpa using hw
 have B0:Hid (Below w.heap.size w (w.alloc (.cells (aqW wh ah av am aw) 38))):=alloc_below w _
 have HH:Hid (Blk (w.alloc (.cells (aqW wh ah av am aw) 38)) p (hdc k a b 243 f) 187):=hh.below B0.out
 have HT:=there_any HH.out
 have hs:=alloc_size w (.cells (aqW wh ah av am aw) 38)
 have HA:Hid (Blk (w.alloc (.cells (aqW wh ah av am aw) 38)) w.heap.size #[.int .u8 wh,.int .u32 ah,.int .u32 av,.int .u32 am,.int .i64 aw] 38):=alloc_at w _
 have T1:=fun w=>Tk.fits_any wh ah av am aw k hk w
 have hlt:=hh.lt
 have c0:(w.alloc (.cells (aqW wh ah av am aw) 38)).cell? ⟨p,0,none⟩=some (.int .u8 k):=by rw [HH.out.cell];rfl
 have a0:(w.alloc (.cells (aqW wh ah av am aw) 38)).cell? ⟨w.heap.size,0,none⟩=some (.int .u8 wh):=by rw [HA.out.cell];rfl
 have a1:(w.alloc (.cells (aqW wh ah av am aw) 38)).cell? ⟨w.heap.size,1,none⟩=some (.int .u32 ah):=by rw [HA.out.cell];rfl
 have a2:(w.alloc (.cells (aqW wh ah av am aw) 38)).cell? ⟨w.heap.size,2,none⟩=some (.int .u32 av):=by rw [HA.out.cell];rfl
 have a3:(w.alloc (.cells (aqW wh ah av am aw) 38)).cell? ⟨w.heap.size,3,none⟩=some (.int .u32 am):=by rw [HA.out.cell];rfl
 have a4:(w.alloc (.cells (aqW wh ah av am aw) 38)).cell? ⟨w.heap.size,4,none⟩=some (.int .i64 aw):=by rw [HA.out.cell];rfl
 have hsz:w.heap.size < (w.alloc (.cells (aqW wh ah av am aw) 38)).heap.size:=by omega
 have hpz:p < (w.alloc (.cells (aqW wh ah av am aw) 38)).heap.size:=by omega
 rw [hf] at T1
 clear hh hf hk hw hs hlt
 go_enter Tryz.func58,Tryz.ntmps58
 go_wp2_with (first
  |(go_at_call 99;refine HT.mono ?_;rintro e wx ⟨rfl,rfl⟩))
 generalize hW:w.alloc (.cells (aqW wh ah av am aw) 38)=w2 at *
 have hca:=@above_cell
 refine wp_region_calm (by kernel_rfl) (by kernel_rfl) ?_
 repeat (go_big_quiet_step (first
  |(go_at_call 100;exact calm_call (T1 _))))
 refine wpQuiet_nil ?_
 intro w3 hb3
 have B3:Hid (Below w.heap.size w w3):=B0.out.trans (hb3.mono B0.out.size)
 have d3:w3.cell? ⟨p,3,none⟩=some (.iface 243 (.pointer (some ⟨f,0,none⟩))):=by rw [(HH.out.below hb3).cell];rfl
 have e0:w3.cell? ⟨w.heap.size,0,none⟩=some (.int .u8 wh):=by rw [(HA.out.below hb3).cell];rfl
 have e1:w3.cell? ⟨w.heap.size,1,none⟩=some (.int .u32 ah):=by rw [(HA.out.below hb3).cell];rfl
 have e2:w3.cell? ⟨w.heap.size,2,none⟩=some (.int .u32 av):=by rw [(HA.out.below hb3).cell];rfl
 have e3:w3.cell? ⟨w.heap.size,3,none⟩=some (.int .u32 am):=by rw [(HA.out.below hb3).cell];rfl
 have e4:w3.cell? ⟨w.heap.size,4,none⟩=some (.int .i64 aw):=by rw [(HA.out.below hb3).cell];rfl
 clear hca hb3 HH HA B0 HT T1 c0 a0 a1 a2 a3 a4 hW hsz hpz
 go_wp2
 go_region_with (first
  |(go_at_call 235;refine(HC.out _ B3.out.drew).mono ?_;rintro e w4 ⟨rfl,hr⟩;have HR:Hid (R w4):=hr;clear hr))
 all_goals
  go_wp2
  go_ret2
  exact⟨rfl,HR.out⟩
theorem try_mut{w:World}{p f:Nat}{k a b:Int}(hh:Blk w p (hdc k a b 246 f) 187)(hk:0<=k/\k<=255)(who wh ah av am aw:Int)(hw:who≠0)(hf:Tk.fitB wh k=true){R:World->Prop}{v er:Int}
  (HP:∀ wx,Below w.heap.size w wx->Calls Tryz.prog 236 #[.pointer (some ⟨f,0,none⟩),.int .u32 who,.agg #[.int .u8 wh,.int .u32 ah,.int .u32 av,.int .u32 am,.int .i64 aw]] wx fun e w'=>e=.returned (.tuple #[.int .u32 v,.int .i64 er])/\R w') :
  Calls Tryz.prog 58 #[.pointer (some ⟨p,0,none⟩),.int .u32 who,.agg #[.int .u8 wh,.int .u32 ah,.int .u32 av,.int .u32 am,.int .i64 aw]] w fun e w'=>e=.returned (.tuple #[.int .u32 v,.int .i64 er])/\R w':=by
 have HC:=(show Hid _ from HP)
 clear HP
 have hz:(who == 0)=false:=by simpa using hw
 have B0:Hid (Below w.heap.size w (w.alloc (.cells (aqW wh ah av am aw) 38))):=alloc_below w _
 have HH:Hid (Blk (w.alloc (.cells (aqW wh ah av am aw) 38)) p (hdc k a b 246 f) 187):=hh.below B0.out
 have HT:=there_any HH.out
 have hs:=alloc_size w (.cells (aqW wh ah av am aw) 38)
 have HA:Hid (Blk (w.alloc (.cells (aqW wh ah av am aw) 38)) w.heap.size #[.int .u8 wh,.int .u32 ah,.int .u32 av,.int .u32 am,.int .i64 aw] 38):=alloc_at w _
 have T1:=fun w=>Tk.fits_any wh ah av am aw k hk w
 have hlt:=hh.lt
 have c0:(w.alloc (.cells (aqW wh ah av am aw) 38)).cell? ⟨p,0,none⟩=some (.int .u8 k):=by rw [HH.out.cell];rfl
 have a0:(w.alloc (.cells (aqW wh ah av am aw) 38)).cell? ⟨w.heap.size,0,none⟩=some (.int .u8 wh):=by rw [HA.out.cell];rfl
 have a1:(w.alloc (.cells (aqW wh ah av am aw) 38)).cell? ⟨w.heap.size,1,none⟩=some (.int .u32 ah):=by rw [HA.out.cell];rfl
 have a2:(w.alloc (.cells (aqW wh ah av am aw) 38)).cell? ⟨w.heap.size,2,none⟩=some (.int .u32 av):=by rw [HA.out.cell];rfl
 have a3:(w.alloc (.cells (aqW wh ah av am aw) 38)).cell? ⟨w.heap.size,3,none⟩=some (.int .u32 am):=by rw [HA.out.cell];rfl
 have a4:(w.alloc (.cells (aqW wh ah av am aw) 38)).cell? ⟨w.heap.size,4,none⟩=some (.int .i64 aw):=by rw [HA.out.cell];rfl
 have hsz:w.heap.size < (w.alloc (.cells (aqW wh ah av am aw) 38)).heap.size:=by omega
 have hpz:p < (w.alloc (.cells (aqW wh ah av am aw) 38)).heap.size:=by omega
 rw [hf] at T1
 clear hh hf hk hw hs hlt
 go_enter Tryz.func58,Tryz.ntmps58
 go_wp2_with (first
  |(go_at_call 99;refine HT.mono ?_;rintro e wx ⟨rfl,rfl⟩))
 generalize hW:w.alloc (.cells (aqW wh ah av am aw) 38)=w2 at *
 have hca:=@above_cell
 refine wp_region_calm (by kernel_rfl) (by kernel_rfl) ?_
 repeat (go_big_quiet_step (first
  |(go_at_call 100;exact calm_call (T1 _))))
 refine wpQuiet_nil ?_
 intro w3 hb3
 have B3:Hid (Below w.heap.size w w3):=B0.out.trans (hb3.mono B0.out.size)
 have d3:w3.cell? ⟨p,3,none⟩=some (.iface 246 (.pointer (some ⟨f,0,none⟩))):=by rw [(HH.out.below hb3).cell];rfl
 have e0:w3.cell? ⟨w.heap.size,0,none⟩=some (.int .u8 wh):=by rw [(HA.out.below hb3).cell];rfl
 have e1:w3.cell? ⟨w.heap.size,1,none⟩=some (.int .u32 ah):=by rw [(HA.out.below hb3).cell];rfl
 have e2:w3.cell? ⟨w.heap.size,2,none⟩=some (.int .u32 av):=by rw [(HA.out.below hb3).cell];rfl
 have e3:w3.cell? ⟨w.heap.size,3,none⟩=some (.int .u32 am):=by rw [(HA.out.below hb3).cell];rfl
 have e4:w3.cell? ⟨w.heap.size,4,none⟩=some (.int .i64 aw):=by rw [(HA.out.below hb3).cell];rfl
 clear hca hb3 HH HA B0 HT T1 c0 a0 a1 a2 a3 a4 hW hsz hpz
 go_wp2
 go_region_with (first
  |(go_at_call 236;refine(HC.out _ B3.out.drew).mono ?_;rintro e w4 ⟨rfl,hr⟩;have HR:Hid (R w4):=hr;clear hr))
 all_goals
  go_wp2
  go_ret2
  exact⟨rfl,HR.out⟩
theorem try_row{w:World}{p f:Nat}{k a b:Int}(hh:Blk w p (hdc k a b 252 f) 187)(hk:0<=k/\k<=255)(who wh ah av am aw:Int)(hw:who≠0)(hf:Tk.fitB wh k=true){R:World->Prop}{v er:Int}
  (HP:∀ wx,Below w.heap.size w wx->Calls Tryz.prog 238 #[.pointer (some ⟨f,0,none⟩),.int .u32 who,.agg #[.int .u8 wh,.int .u32 ah,.int .u32 av,.int .u32 am,.int .i64 aw]] wx fun e w'=>e=.returned (.tuple #[.int .u32 v,.int .i64 er])/\R w') :
  Calls Tryz.prog 58 #[.pointer (some ⟨p,0,none⟩),.int .u32 who,.agg #[.int .u8 wh,.int .u32 ah,.int .u32 av,.int .u32 am,.int .i64 aw]] w fun e w'=>e=.returned (.tuple #[.int .u32 v,.int .i64 er])/\R w':=by
 have HC:=(show Hid _ from HP)
 clear HP
 have hz:(who == 0)=false:=by simpa using hw
 have B0:Hid (Below w.heap.size w (w.alloc (.cells (aqW wh ah av am aw) 38))):=alloc_below w _
 have HH:Hid (Blk (w.alloc (.cells (aqW wh ah av am aw) 38)) p (hdc k a b 252 f) 187):=hh.below B0.out
 have HT:=there_any HH.out
 have hs:=alloc_size w (.cells (aqW wh ah av am aw) 38)
 have HA:Hid (Blk (w.alloc (.cells (aqW wh ah av am aw) 38)) w.heap.size #[.int .u8 wh,.int .u32 ah,.int .u32 av,.int .u32 am,.int .i64 aw] 38):=alloc_at w _
 have T1:=fun w=>Tk.fits_any wh ah av am aw k hk w
 have hlt:=hh.lt
 have c0:(w.alloc (.cells (aqW wh ah av am aw) 38)).cell? ⟨p,0,none⟩=some (.int .u8 k):=by rw [HH.out.cell];rfl
 have a0:(w.alloc (.cells (aqW wh ah av am aw) 38)).cell? ⟨w.heap.size,0,none⟩=some (.int .u8 wh):=by rw [HA.out.cell];rfl
 have a1:(w.alloc (.cells (aqW wh ah av am aw) 38)).cell? ⟨w.heap.size,1,none⟩=some (.int .u32 ah):=by rw [HA.out.cell];rfl
 have a2:(w.alloc (.cells (aqW wh ah av am aw) 38)).cell? ⟨w.heap.size,2,none⟩=some (.int .u32 av):=by rw [HA.out.cell];rfl
 have a3:(w.alloc (.cells (aqW wh ah av am aw) 38)).cell? ⟨w.heap.size,3,none⟩=some (.int .u32 am):=by rw [HA.out.cell];rfl
 have a4:(w.alloc (.cells (aqW wh ah av am aw) 38)).cell? ⟨w.heap.size,4,none⟩=some (.int .i64 aw):=by rw [HA.out.cell];rfl
 have hsz:w.heap.size < (w.alloc (.cells (aqW wh ah av am aw) 38)).heap.size:=by omega
 have hpz:p < (w.alloc (.cells (aqW wh ah av am aw) 38)).heap.size:=by omega
 rw [hf] at T1
 clear hh hf hk hw hs hlt
 go_enter Tryz.func58,Tryz.ntmps58
 go_wp2_with (first
  |(go_at_call 99;refine HT.mono ?_;rintro e wx ⟨rfl,rfl⟩))
 generalize hW:w.alloc (.cells (aqW wh ah av am aw) 38)=w2 at *
 have hca:=@above_cell
 refine wp_region_calm (by kernel_rfl) (by kernel_rfl) ?_
 repeat (go_big_quiet_step (first
  |(go_at_call 100;exact calm_call (T1 _))))
 refine wpQuiet_nil ?_
 intro w3 hb3
 have B3:Hid (Below w.heap.size w w3):=B0.out.trans (hb3.mono B0.out.size)
 have d3:w3.cell? ⟨p,3,none⟩=some (.iface 252 (.pointer (some ⟨f,0,none⟩))):=by rw [(HH.out.below hb3).cell];rfl
 have e0:w3.cell? ⟨w.heap.size,0,none⟩=some (.int .u8 wh):=by rw [(HA.out.below hb3).cell];rfl
 have e1:w3.cell? ⟨w.heap.size,1,none⟩=some (.int .u32 ah):=by rw [(HA.out.below hb3).cell];rfl
 have e2:w3.cell? ⟨w.heap.size,2,none⟩=some (.int .u32 av):=by rw [(HA.out.below hb3).cell];rfl
 have e3:w3.cell? ⟨w.heap.size,3,none⟩=some (.int .u32 am):=by rw [(HA.out.below hb3).cell];rfl
 have e4:w3.cell? ⟨w.heap.size,4,none⟩=some (.int .i64 aw):=by rw [(HA.out.below hb3).cell];rfl
 clear hca hb3 HH HA B0 HT T1 c0 a0 a1 a2 a3 a4 hW hsz hpz
 go_wp2
 go_region_with (first
  |(go_at_call 238;refine(HC.out _ B3.out.drew).mono ?_;rintro e w4 ⟨rfl,hr⟩;have HR:Hid (R w4):=hr;clear hr))
 all_goals
  go_wp2
  go_ret2
  exact⟨rfl,HR.out⟩
theorem try_flg{w:World}{p f:Nat}{k a b:Int}(hh:Blk w p (hdc k a b 255 f) 187)(hk:0<=k/\k<=255)(who wh ah av am aw:Int)(hw:who≠0)(hf:Tk.fitB wh k=true){R:World->Prop}{v er:Int}
  (HP:∀ wx,Below w.heap.size w wx->Calls Tryz.prog 248 #[.pointer (some ⟨f,0,none⟩),.int .u32 who,.agg #[.int .u8 wh,.int .u32 ah,.int .u32 av,.int .u32 am,.int .i64 aw]] wx fun e w'=>e=.returned (.tuple #[.int .u32 v,.int .i64 er])/\R w') :
  Calls Tryz.prog 58 #[.pointer (some ⟨p,0,none⟩),.int .u32 who,.agg #[.int .u8 wh,.int .u32 ah,.int .u32 av,.int .u32 am,.int .i64 aw]] w fun e w'=>e=.returned (.tuple #[.int .u32 v,.int .i64 er])/\R w':=by
 have HC:=(show Hid _ from HP)
 clear HP
 have hz:(who == 0)=false:=by simpa using hw
 have B0:Hid (Below w.heap.size w (w.alloc (.cells (aqW wh ah av am aw) 38))):=alloc_below w _
 have HH:Hid (Blk (w.alloc (.cells (aqW wh ah av am aw) 38)) p (hdc k a b 255 f) 187):=hh.below B0.out
 have HT:=there_any HH.out
 have hs:=alloc_size w (.cells (aqW wh ah av am aw) 38)
 have HA:Hid (Blk (w.alloc (.cells (aqW wh ah av am aw) 38)) w.heap.size #[.int .u8 wh,.int .u32 ah,.int .u32 av,.int .u32 am,.int .i64 aw] 38):=alloc_at w _
 have T1:=fun w=>Tk.fits_any wh ah av am aw k hk w
 have hlt:=hh.lt
 have c0:(w.alloc (.cells (aqW wh ah av am aw) 38)).cell? ⟨p,0,none⟩=some (.int .u8 k):=by rw [HH.out.cell];rfl
 have a0:(w.alloc (.cells (aqW wh ah av am aw) 38)).cell? ⟨w.heap.size,0,none⟩=some (.int .u8 wh):=by rw [HA.out.cell];rfl
 have a1:(w.alloc (.cells (aqW wh ah av am aw) 38)).cell? ⟨w.heap.size,1,none⟩=some (.int .u32 ah):=by rw [HA.out.cell];rfl
 have a2:(w.alloc (.cells (aqW wh ah av am aw) 38)).cell? ⟨w.heap.size,2,none⟩=some (.int .u32 av):=by rw [HA.out.cell];rfl
 have a3:(w.alloc (.cells (aqW wh ah av am aw) 38)).cell? ⟨w.heap.size,3,none⟩=some (.int .u32 am):=by rw [HA.out.cell];rfl
 have a4:(w.alloc (.cells (aqW wh ah av am aw) 38)).cell? ⟨w.heap.size,4,none⟩=some (.int .i64 aw):=by rw [HA.out.cell];rfl
 have hsz:w.heap.size < (w.alloc (.cells (aqW wh ah av am aw) 38)).heap.size:=by omega
 have hpz:p < (w.alloc (.cells (aqW wh ah av am aw) 38)).heap.size:=by omega
 rw [hf] at T1
 clear hh hf hk hw hs hlt
 go_enter Tryz.func58,Tryz.ntmps58
 go_wp2_with (first
  |(go_at_call 99;refine HT.mono ?_;rintro e wx ⟨rfl,rfl⟩))
 generalize hW:w.alloc (.cells (aqW wh ah av am aw) 38)=w2 at *
 have hca:=@above_cell
 refine wp_region_calm (by kernel_rfl) (by kernel_rfl) ?_
 repeat (go_big_quiet_step (first
  |(go_at_call 100;exact calm_call (T1 _))))
 refine wpQuiet_nil ?_
 intro w3 hb3
 have B3:Hid (Below w.heap.size w w3):=B0.out.trans (hb3.mono B0.out.size)
 have d3:w3.cell? ⟨p,3,none⟩=some (.iface 255 (.pointer (some ⟨f,0,none⟩))):=by rw [(HH.out.below hb3).cell];rfl
 have e0:w3.cell? ⟨w.heap.size,0,none⟩=some (.int .u8 wh):=by rw [(HA.out.below hb3).cell];rfl
 have e1:w3.cell? ⟨w.heap.size,1,none⟩=some (.int .u32 ah):=by rw [(HA.out.below hb3).cell];rfl
 have e2:w3.cell? ⟨w.heap.size,2,none⟩=some (.int .u32 av):=by rw [(HA.out.below hb3).cell];rfl
 have e3:w3.cell? ⟨w.heap.size,3,none⟩=some (.int .u32 am):=by rw [(HA.out.below hb3).cell];rfl
 have e4:w3.cell? ⟨w.heap.size,4,none⟩=some (.int .i64 aw):=by rw [(HA.out.below hb3).cell];rfl
 clear hca hb3 HH HA B0 HT T1 c0 a0 a1 a2 a3 a4 hW hsz hpz
 go_wp2
 go_region_with (first
  |(go_at_call 248;refine(HC.out _ B3.out.drew).mono ?_;rintro e w4 ⟨rfl,hr⟩;have HR:Hid (R w4):=hr;clear hr))
 all_goals
  go_wp2
  go_ret2
  exact⟨rfl,HR.out⟩
theorem try_pool{w:World}{p f:Nat}{k a b:Int}(hh:Blk w p (hdc k a b 261 f) 187)(hk:0<=k/\k<=255)(who wh ah av am aw:Int)(hw:who≠0)(hf:Tk.fitB wh k=true){R:World->Prop}{v er:Int}
  (HP:∀ wx,Below w.heap.size w wx->Calls Tryz.prog 256 #[.pointer (some ⟨f,0,none⟩),.int .u32 who,.agg #[.int .u8 wh,.int .u32 ah,.int .u32 av,.int .u32 am,.int .i64 aw]] wx fun e w'=>e=.returned (.tuple #[.int .u32 v,.int .i64 er])/\R w') :
  Calls Tryz.prog 58 #[.pointer (some ⟨p,0,none⟩),.int .u32 who,.agg #[.int .u8 wh,.int .u32 ah,.int .u32 av,.int .u32 am,.int .i64 aw]] w fun e w'=>e=.returned (.tuple #[.int .u32 v,.int .i64 er])/\R w':=by
 have HC:=(show Hid _ from HP)
 clear HP
 have hz:(who == 0)=false:=by simpa using hw
 have B0:Hid (Below w.heap.size w (w.alloc (.cells (aqW wh ah av am aw) 38))):=alloc_below w _
 have HH:Hid (Blk (w.alloc (.cells (aqW wh ah av am aw) 38)) p (hdc k a b 261 f) 187):=hh.below B0.out
 have HT:=there_any HH.out
 have hs:=alloc_size w (.cells (aqW wh ah av am aw) 38)
 have HA:Hid (Blk (w.alloc (.cells (aqW wh ah av am aw) 38)) w.heap.size #[.int .u8 wh,.int .u32 ah,.int .u32 av,.int .u32 am,.int .i64 aw] 38):=alloc_at w _
 have T1:=fun w=>Tk.fits_any wh ah av am aw k hk w
 have hlt:=hh.lt
 have c0:(w.alloc (.cells (aqW wh ah av am aw) 38)).cell? ⟨p,0,none⟩=some (.int .u8 k):=by rw [HH.out.cell];rfl
 have a0:(w.alloc (.cells (aqW wh ah av am aw) 38)).cell? ⟨w.heap.size,0,none⟩=some (.int .u8 wh):=by rw [HA.out.cell];rfl
 have a1:(w.alloc (.cells (aqW wh ah av am aw) 38)).cell? ⟨w.heap.size,1,none⟩=some (.int .u32 ah):=by rw [HA.out.cell];rfl
 have a2:(w.alloc (.cells (aqW wh ah av am aw) 38)).cell? ⟨w.heap.size,2,none⟩=some (.int .u32 av):=by rw [HA.out.cell];rfl
 have a3:(w.alloc (.cells (aqW wh ah av am aw) 38)).cell? ⟨w.heap.size,3,none⟩=some (.int .u32 am):=by rw [HA.out.cell];rfl
 have a4:(w.alloc (.cells (aqW wh ah av am aw) 38)).cell? ⟨w.heap.size,4,none⟩=some (.int .i64 aw):=by rw [HA.out.cell];rfl
 have hsz:w.heap.size < (w.alloc (.cells (aqW wh ah av am aw) 38)).heap.size:=by omega
 have hpz:p < (w.alloc (.cells (aqW wh ah av am aw) 38)).heap.size:=by omega
 rw [hf] at T1
 clear hh hf hk hw hs hlt
 go_enter Tryz.func58,Tryz.ntmps58
 go_wp2_with (first
  |(go_at_call 99;refine HT.mono ?_;rintro e wx ⟨rfl,rfl⟩))
 generalize hW:w.alloc (.cells (aqW wh ah av am aw) 38)=w2 at *
 have hca:=@above_cell
 refine wp_region_calm (by kernel_rfl) (by kernel_rfl) ?_
 repeat (go_big_quiet_step (first
  |(go_at_call 100;exact calm_call (T1 _))))
 refine wpQuiet_nil ?_
 intro w3 hb3
 have B3:Hid (Below w.heap.size w w3):=B0.out.trans (hb3.mono B0.out.size)
 have d3:w3.cell? ⟨p,3,none⟩=some (.iface 261 (.pointer (some ⟨f,0,none⟩))):=by rw [(HH.out.below hb3).cell];rfl
 have e0:w3.cell? ⟨w.heap.size,0,none⟩=some (.int .u8 wh):=by rw [(HA.out.below hb3).cell];rfl
 have e1:w3.cell? ⟨w.heap.size,1,none⟩=some (.int .u32 ah):=by rw [(HA.out.below hb3).cell];rfl
 have e2:w3.cell? ⟨w.heap.size,2,none⟩=some (.int .u32 av):=by rw [(HA.out.below hb3).cell];rfl
 have e3:w3.cell? ⟨w.heap.size,3,none⟩=some (.int .u32 am):=by rw [(HA.out.below hb3).cell];rfl
 have e4:w3.cell? ⟨w.heap.size,4,none⟩=some (.int .i64 aw):=by rw [(HA.out.below hb3).cell];rfl
 clear hca hb3 HH HA B0 HT T1 c0 a0 a1 a2 a3 a4 hW hsz hpz
 go_wp2
 go_region_with (first
  |(go_at_call 256;refine(HC.out _ B3.out.drew).mono ?_;rintro e w4 ⟨rfl,hr⟩;have HR:Hid (R w4):=hr;clear hr))
 all_goals
  go_wp2
  go_ret2
  exact⟨rfl,HR.out⟩
theorem try_ala{w:World}{p f:Nat}{k a b:Int}(hh:Blk w p (hdc k a b 264 f) 187)(hk:0<=k/\k<=255)(who wh ah av am aw:Int)(hw:who≠0)(hf:Tk.fitB wh k=true){R:World->Prop}{v er:Int}
  (HP:∀ wx,Below w.heap.size w wx->Calls Tryz.prog 260 #[.pointer (some ⟨f,0,none⟩),.int .u32 who,.agg #[.int .u8 wh,.int .u32 ah,.int .u32 av,.int .u32 am,.int .i64 aw]] wx fun e w'=>e=.returned (.tuple #[.int .u32 v,.int .i64 er])/\R w') :
  Calls Tryz.prog 58 #[.pointer (some ⟨p,0,none⟩),.int .u32 who,.agg #[.int .u8 wh,.int .u32 ah,.int .u32 av,.int .u32 am,.int .i64 aw]] w fun e w'=>e=.returned (.tuple #[.int .u32 v,.int .i64 er])/\R w':=by
 have HC:=(show Hid _ from HP)
 clear HP
 have hz:(who == 0)=false:=by simpa using hw
 have B0:Hid (Below w.heap.size w (w.alloc (.cells (aqW wh ah av am aw) 38))):=alloc_below w _
 have HH:Hid (Blk (w.alloc (.cells (aqW wh ah av am aw) 38)) p (hdc k a b 264 f) 187):=hh.below B0.out
 have HT:=there_any HH.out
 have hs:=alloc_size w (.cells (aqW wh ah av am aw) 38)
 have HA:Hid (Blk (w.alloc (.cells (aqW wh ah av am aw) 38)) w.heap.size #[.int .u8 wh,.int .u32 ah,.int .u32 av,.int .u32 am,.int .i64 aw] 38):=alloc_at w _
 have T1:=fun w=>Tk.fits_any wh ah av am aw k hk w
 have hlt:=hh.lt
 have c0:(w.alloc (.cells (aqW wh ah av am aw) 38)).cell? ⟨p,0,none⟩=some (.int .u8 k):=by rw [HH.out.cell];rfl
 have a0:(w.alloc (.cells (aqW wh ah av am aw) 38)).cell? ⟨w.heap.size,0,none⟩=some (.int .u8 wh):=by rw [HA.out.cell];rfl
 have a1:(w.alloc (.cells (aqW wh ah av am aw) 38)).cell? ⟨w.heap.size,1,none⟩=some (.int .u32 ah):=by rw [HA.out.cell];rfl
 have a2:(w.alloc (.cells (aqW wh ah av am aw) 38)).cell? ⟨w.heap.size,2,none⟩=some (.int .u32 av):=by rw [HA.out.cell];rfl
 have a3:(w.alloc (.cells (aqW wh ah av am aw) 38)).cell? ⟨w.heap.size,3,none⟩=some (.int .u32 am):=by rw [HA.out.cell];rfl
 have a4:(w.alloc (.cells (aqW wh ah av am aw) 38)).cell? ⟨w.heap.size,4,none⟩=some (.int .i64 aw):=by rw [HA.out.cell];rfl
 have hsz:w.heap.size < (w.alloc (.cells (aqW wh ah av am aw) 38)).heap.size:=by omega
 have hpz:p < (w.alloc (.cells (aqW wh ah av am aw) 38)).heap.size:=by omega
 rw [hf] at T1
 clear hh hf hk hw hs hlt
 go_enter Tryz.func58,Tryz.ntmps58
 go_wp2_with (first
  |(go_at_call 99;refine HT.mono ?_;rintro e wx ⟨rfl,rfl⟩))
 generalize hW:w.alloc (.cells (aqW wh ah av am aw) 38)=w2 at *
 have hca:=@above_cell
 refine wp_region_calm (by kernel_rfl) (by kernel_rfl) ?_
 repeat (go_big_quiet_step (first
  |(go_at_call 100;exact calm_call (T1 _))))
 refine wpQuiet_nil ?_
 intro w3 hb3
 have B3:Hid (Below w.heap.size w w3):=B0.out.trans (hb3.mono B0.out.size)
 have d3:w3.cell? ⟨p,3,none⟩=some (.iface 264 (.pointer (some ⟨f,0,none⟩))):=by rw [(HH.out.below hb3).cell];rfl
 have e0:w3.cell? ⟨w.heap.size,0,none⟩=some (.int .u8 wh):=by rw [(HA.out.below hb3).cell];rfl
 have e1:w3.cell? ⟨w.heap.size,1,none⟩=some (.int .u32 ah):=by rw [(HA.out.below hb3).cell];rfl
 have e2:w3.cell? ⟨w.heap.size,2,none⟩=some (.int .u32 av):=by rw [(HA.out.below hb3).cell];rfl
 have e3:w3.cell? ⟨w.heap.size,3,none⟩=some (.int .u32 am):=by rw [(HA.out.below hb3).cell];rfl
 have e4:w3.cell? ⟨w.heap.size,4,none⟩=some (.int .i64 aw):=by rw [(HA.out.below hb3).cell];rfl
 clear hca hb3 HH HA B0 HT T1 c0 a0 a1 a2 a3 a4 hW hsz hpz
 go_wp2
 go_region_with (first
  |(go_at_call 260;refine(HC.out _ B3.out.drew).mono ?_;rintro e w4 ⟨rfl,hr⟩;have HR:Hid (R w4):=hr;clear hr))
 all_goals
  go_wp2
  go_ret2
  exact⟨rfl,HR.out⟩
theorem try_no{w:World}{p f:Nat}{k a b:Int}{t:TypeId}(hh:Blk w p (hdc k a b t f) 187)(hk:0<=k/\k<=255)(who wh ah av am aw:Int)(hw:who=0∨Tk.fitB wh k=false) :
  Calls Tryz.prog 58 #[.pointer (some ⟨p,0,none⟩),.int .u32 who,.agg #[.int .u8 wh,.int .u32 ah,.int .u32 av,.int .u32 am,.int .i64 aw]] w fun e w'=>e=.returned (.tuple #[.int .u32 0,.int .i64 1])/\Below w.heap.size w w':=by
 have B0:Hid (Below w.heap.size w (w.alloc (.cells (aqW wh ah av am aw) 38))):=alloc_below w _
 have HH:Hid (Blk (w.alloc (.cells (aqW wh ah av am aw) 38)) p (hdc k a b t f) 187):=hh.below B0.out
 have HT:=there_any HH.out
 have hs:=alloc_size w (.cells (aqW wh ah av am aw) 38)
 have HA:Hid (Blk (w.alloc (.cells (aqW wh ah av am aw) 38)) w.heap.size #[.int .u8 wh,.int .u32 ah,.int .u32 av,.int .u32 am,.int .i64 aw] 38):=alloc_at w _
 have T1:=fun w=>Tk.fits_any wh ah av am aw k hk w
 have hlt:=hh.lt
 have c0:(w.alloc (.cells (aqW wh ah av am aw) 38)).cell? ⟨p,0,none⟩=some (.int .u8 k):=by rw [HH.out.cell];rfl
 have a0:(w.alloc (.cells (aqW wh ah av am aw) 38)).cell? ⟨w.heap.size,0,none⟩=some (.int .u8 wh):=by rw [HA.out.cell];rfl
 have a1:(w.alloc (.cells (aqW wh ah av am aw) 38)).cell? ⟨w.heap.size,1,none⟩=some (.int .u32 ah):=by rw [HA.out.cell];rfl
 have a2:(w.alloc (.cells (aqW wh ah av am aw) 38)).cell? ⟨w.heap.size,2,none⟩=some (.int .u32 av):=by rw [HA.out.cell];rfl
 have a3:(w.alloc (.cells (aqW wh ah av am aw) 38)).cell? ⟨w.heap.size,3,none⟩=some (.int .u32 am):=by rw [HA.out.cell];rfl
 have a4:(w.alloc (.cells (aqW wh ah av am aw) 38)).cell? ⟨w.heap.size,4,none⟩=some (.int .i64 aw):=by rw [HA.out.cell];rfl
 have hsz:w.heap.size < (w.alloc (.cells (aqW wh ah av am aw) 38)).heap.size:=by omega
 have hpz:p < (w.alloc (.cells (aqW wh ah av am aw) 38)).heap.size:=by omega
 clear hh hk hs hlt
 have hca:=@above_cell
 by_cases h0:who=0
 ·subst h0
  clear hw
  go_enter Tryz.func58,Tryz.ntmps58
  go_wp2_with (first
   |(go_at_call 99;refine HT.mono ?_;rintro e wx ⟨rfl,rfl⟩))
  refine wp_region_calm (by kernel_rfl) (by kernel_rfl) ?_
  repeat (go_big_quiet_step (fail))
  refine wpQuiet_nil ?_
  intro w3 hb3
  have B3:Hid (Below w.heap.size w w3):=B0.out.trans (hb3.mono B0.out.size)
  clear hca hb3
  go_wp2
  go_ret2
  exact⟨rfl,B3.out⟩
 ·have hz:(who == 0)=false:=by simpa using h0
  have hf:Tk.fitB wh k=false:=hw.resolve_left h0
  rw [hf] at T1
  clear hf hw h0
  go_enter Tryz.func58,Tryz.ntmps58
  go_wp2_with (first
   |(go_at_call 99;refine HT.mono ?_;rintro e wx ⟨rfl,rfl⟩))
  generalize hW:w.alloc (.cells (aqW wh ah av am aw) 38)=w2 at *
  refine wp_region_calm (by kernel_rfl) (by kernel_rfl) ?_
  repeat (go_big_quiet_step (first
   |(go_at_call 100;exact calm_call (T1 _))))
  refine wpQuiet_nil ?_
  intro w3 hb3
  have B3:Hid (Below w.heap.size w w3):=B0.out.trans (hb3.mono B0.out.size)
  clear hca hb3 hW
  go_wp2
  go_ret2
  exact⟨rfl,B3.out⟩
theorem leave_zero{w:World}{p f:Nat}{k a b:Int}{t:TypeId}(hh:Blk w p (hdc k a b t f) 187):Calls Tryz.prog 104 #[.pointer (some ⟨p,0,none⟩),.int .u32 0] w fun e w'=>e=.returned (.bool false)/\w=w':=by
 have HT:=there_any hh
 clear hh
 go_enter Tryz.func104,Tryz.ntmps104
 go_wp2_with (first
  |(go_at_call 99;refine HT.mono ?_;rintro e wx ⟨rfl,rfl⟩))
 go_ret
 exact⟨rfl,rfl⟩
theorem leave_of{w:World}{p f:Nat}{k a b:Int}{t:TypeId}(hh:Blk w p (hdc k a b t f) 187)(who:Int)(hw:who≠0){R:World->Prop}{r:Bool}
  (HP:Calls Tryz.prog 145 #[.iface t (.pointer (some ⟨f,0,none⟩)),.int .u32 who] w fun e w'=>e=.returned (.bool r)/\R w') :
  Calls Tryz.prog 104 #[.pointer (some ⟨p,0,none⟩),.int .u32 who] w fun e w'=>e=.returned (.bool r)/\R w':=by
 have HC:Hid (Calls Tryz.prog 145 #[.iface t (.pointer (some ⟨f,0,none⟩)),.int .u32 who] w fun e w'=>e=.returned (.bool r)/\R w'):=HP
 have HT:=there_any hh
 have hz:(who != 0)=true:=by simpa using hw
 have hlt:=hh.lt
 have c3:w.cell? ⟨p,3,none⟩=some (.iface t (.pointer (some ⟨f,0,none⟩))):=by rw [hh.cell];rfl
 clear hh HP hw
 go_enter Tryz.func104,Tryz.ntmps104
 go_wp2_with (first
  |(go_at_call 99;refine HT.mono ?_;rintro e wx ⟨rfl,rfl⟩)
  |(go_at_call 145;refine HC.out.mono ?_;rintro e w1 ⟨rfl,hr⟩;have HR:Hid (R w1):=hr;clear hr))
 go_ret
 exact⟨rfl,HR.out⟩
theorem boxless{w:World}{g:Nat}{cs:Array Value}{t:TypeId}(h:Blk w g cs t)(k:Nat)(v:Value):Buts [g] w (w.setCell ⟨g,k,none⟩ v):=Buts.cell w g k v
theorem ta_yes{P:Program}{t e:TypeId}(hu:P.underlying t=some (.pointer e))(v:Value)(xT:TypeId)(w:World):(Instr.typeAssert (.iface t v) xT t true).run P w=.ok (.tuple #[v,.bool true]) w:=by
 simp [Instr.typeAssert,run_underlying hu,go_sem,Result.andThen]
theorem ta_no{P:Program}{t s e:TypeId}{z:Value}(hu:P.underlying s=some (.pointer e))(hz:(P.info? s).map (·.zero)=some (some z))(hne:t≠s)(v:Value)(xT:TypeId)(w:World):(Instr.typeAssert (.iface t v) xT s true).run P w=.ok (.tuple #[z,.bool false]) w:=by
 obtain⟨j,hj,hz'⟩:=Option.map_eq_some_iff.1 hz
 simp [Instr.typeAssert,run_underlying hu,go_sem,Result.andThen,typeInfo,hj,zeroValue,hz',hne]
theorem ta_Sem_Sem(v:Value)(xT:TypeId)(w:World):(Instr.typeAssert (.iface 243 v) xT 243 true).run Tryz.prog w=.ok (.tuple #[v,.bool true]) w:=ta_yes Tryz.underlying243 v xT w
theorem ta_Sem_Mut(v:Value)(xT:TypeId)(w:World):(Instr.typeAssert (.iface 243 v) xT 246 true).run Tryz.prog w=.ok (.tuple #[.pointer none,.bool false]) w:=ta_no Tryz.underlying246 (by kernel_rfl) (by decide) v xT w
theorem ta_Sem_Row(v:Value)(xT:TypeId)(w:World):(Instr.typeAssert (.iface 243 v) xT 252 true).run Tryz.prog w=.ok (.tuple #[.pointer none,.bool false]) w:=ta_no Tryz.underlying252 (by kernel_rfl) (by decide) v xT w
theorem ta_Sem_Pl(v:Value)(xT:TypeId)(w:World):(Instr.typeAssert (.iface 243 v) xT 261 true).run Tryz.prog w=.ok (.tuple #[.pointer none,.bool false]) w:=ta_no Tryz.underlying261 (by kernel_rfl) (by decide) v xT w
theorem ta_Mut_Sem(v:Value)(xT:TypeId)(w:World):(Instr.typeAssert (.iface 246 v) xT 243 true).run Tryz.prog w=.ok (.tuple #[.pointer none,.bool false]) w:=ta_no Tryz.underlying243 (by kernel_rfl) (by decide) v xT w
theorem ta_Mut_Mut(v:Value)(xT:TypeId)(w:World):(Instr.typeAssert (.iface 246 v) xT 246 true).run Tryz.prog w=.ok (.tuple #[v,.bool true]) w:=ta_yes Tryz.underlying246 v xT w
theorem ta_Row_Sem(v:Value)(xT:TypeId)(w:World):(Instr.typeAssert (.iface 252 v) xT 243 true).run Tryz.prog w=.ok (.tuple #[.pointer none,.bool false]) w:=ta_no Tryz.underlying243 (by kernel_rfl) (by decide) v xT w
theorem ta_Row_Mut(v:Value)(xT:TypeId)(w:World):(Instr.typeAssert (.iface 252 v) xT 246 true).run Tryz.prog w=.ok (.tuple #[.pointer none,.bool false]) w:=ta_no Tryz.underlying246 (by kernel_rfl) (by decide) v xT w
theorem ta_Row_Row(v:Value)(xT:TypeId)(w:World):(Instr.typeAssert (.iface 252 v) xT 252 true).run Tryz.prog w=.ok (.tuple #[v,.bool true]) w:=ta_yes Tryz.underlying252 v xT w
theorem ta_Row_Pl(v:Value)(xT:TypeId)(w:World):(Instr.typeAssert (.iface 252 v) xT 261 true).run Tryz.prog w=.ok (.tuple #[.pointer none,.bool false]) w:=ta_no Tryz.underlying261 (by kernel_rfl) (by decide) v xT w
theorem ta_Flg_Sem(v:Value)(xT:TypeId)(w:World):(Instr.typeAssert (.iface 255 v) xT 243 true).run Tryz.prog w=.ok (.tuple #[.pointer none,.bool false]) w:=ta_no Tryz.underlying243 (by kernel_rfl) (by decide) v xT w
theorem ta_Flg_Mut(v:Value)(xT:TypeId)(w:World):(Instr.typeAssert (.iface 255 v) xT 246 true).run Tryz.prog w=.ok (.tuple #[.pointer none,.bool false]) w:=ta_no Tryz.underlying246 (by kernel_rfl) (by decide) v xT w
theorem ta_Flg_Row(v:Value)(xT:TypeId)(w:World):(Instr.typeAssert (.iface 255 v) xT 252 true).run Tryz.prog w=.ok (.tuple #[.pointer none,.bool false]) w:=ta_no Tryz.underlying252 (by kernel_rfl) (by decide) v xT w
theorem ta_Flg_Flg(v:Value)(xT:TypeId)(w:World):(Instr.typeAssert (.iface 255 v) xT 255 true).run Tryz.prog w=.ok (.tuple #[v,.bool true]) w:=ta_yes Tryz.underlying255 v xT w
theorem ta_Flg_Pl(v:Value)(xT:TypeId)(w:World):(Instr.typeAssert (.iface 255 v) xT 261 true).run Tryz.prog w=.ok (.tuple #[.pointer none,.bool false]) w:=ta_no Tryz.underlying261 (by kernel_rfl) (by decide) v xT w
theorem ta_Pl_Sem(v:Value)(xT:TypeId)(w:World):(Instr.typeAssert (.iface 261 v) xT 243 true).run Tryz.prog w=.ok (.tuple #[.pointer none,.bool false]) w:=ta_no Tryz.underlying243 (by kernel_rfl) (by decide) v xT w
theorem ta_Pl_Mut(v:Value)(xT:TypeId)(w:World):(Instr.typeAssert (.iface 261 v) xT 246 true).run Tryz.prog w=.ok (.tuple #[.pointer none,.bool false]) w:=ta_no Tryz.underlying246 (by kernel_rfl) (by decide) v xT w
theorem ta_Pl_Row(v:Value)(xT:TypeId)(w:World):(Instr.typeAssert (.iface 261 v) xT 252 true).run Tryz.prog w=.ok (.tuple #[.pointer none,.bool false]) w:=ta_no Tryz.underlying252 (by kernel_rfl) (by decide) v xT w
theorem ta_Pl_Flg(v:Value)(xT:TypeId)(w:World):(Instr.typeAssert (.iface 261 v) xT 255 true).run Tryz.prog w=.ok (.tuple #[.pointer none,.bool false]) w:=ta_no Tryz.underlying255 (by kernel_rfl) (by decide) v xT w
theorem ta_Pl_Pl(v:Value)(xT:TypeId)(w:World):(Instr.typeAssert (.iface 261 v) xT 261 true).run Tryz.prog w=.ok (.tuple #[v,.bool true]) w:=ta_yes Tryz.underlying261 v xT w
theorem ta_Ala_Sem(v:Value)(xT:TypeId)(w:World):(Instr.typeAssert (.iface 264 v) xT 243 true).run Tryz.prog w=.ok (.tuple #[.pointer none,.bool false]) w:=ta_no Tryz.underlying243 (by kernel_rfl) (by decide) v xT w
theorem ta_Ala_Mut(v:Value)(xT:TypeId)(w:World):(Instr.typeAssert (.iface 264 v) xT 246 true).run Tryz.prog w=.ok (.tuple #[.pointer none,.bool false]) w:=ta_no Tryz.underlying246 (by kernel_rfl) (by decide) v xT w
theorem ta_Ala_Row(v:Value)(xT:TypeId)(w:World):(Instr.typeAssert (.iface 264 v) xT 252 true).run Tryz.prog w=.ok (.tuple #[.pointer none,.bool false]) w:=ta_no Tryz.underlying252 (by kernel_rfl) (by decide) v xT w
theorem ta_Ala_Flg(v:Value)(xT:TypeId)(w:World):(Instr.typeAssert (.iface 264 v) xT 255 true).run Tryz.prog w=.ok (.tuple #[.pointer none,.bool false]) w:=ta_no Tryz.underlying255 (by kernel_rfl) (by decide) v xT w
theorem ta_Ala_Pl(v:Value)(xT:TypeId)(w:World):(Instr.typeAssert (.iface 264 v) xT 261 true).run Tryz.prog w=.ok (.tuple #[.pointer none,.bool false]) w:=ta_no Tryz.underlying261 (by kernel_rfl) (by decide) v xT w
attribute [local go_sem] ta_Sem_Sem ta_Sem_Mut ta_Sem_Row ta_Sem_Pl ta_Mut_Sem ta_Mut_Mut ta_Row_Sem ta_Row_Mut ta_Row_Row ta_Row_Pl ta_Flg_Sem ta_Flg_Mut ta_Flg_Row ta_Flg_Flg ta_Flg_Pl ta_Pl_Sem ta_Pl_Mut ta_Pl_Row ta_Pl_Flg ta_Pl_Pl ta_Ala_Sem ta_Ala_Mut ta_Ala_Row ta_Ala_Flg ta_Ala_Pl
theorem back_mut{w:World}{g:Nat}{o:Int}(h:Blk w g (onec o) 248)(who:Int) :
  Calls Tryz.prog 145 #[.iface 246 (.pointer (some ⟨g,0,none⟩)),.int .u32 who] w fun e w'=>e=.returned (.bool (decide (o=who)))/\Blk w' g (onec (if o=who then 0 else o)) 248/\Buts [g] w w':=by
 have HB:Hid (Blk w g (onec o) 248):=h
 have hlt:=h.lt
 have c0:w.cell? ⟨g,0,none⟩=some (.int .u32 o):=by rw [h.cell];rfl
 have f0:=h.free 0
 clear h
 by_cases e0:o=who
 ·subst e0
  rw [if_pos rfl,decide_eq_true rfl]
  have hz:(o != o)=false:=by simp
  go_enter Tryz.func145,Tryz.ntmps145
  go_wp2
  go_ret
  exact⟨rfl,HB.out.set 0 _,(boxless HB.out 0 _)⟩
 ·have hz:(o != who)=true:=by simpa using e0
  rw [if_neg e0,decide_eq_false e0]
  go_enter Tryz.func145,Tryz.ntmps145
  go_wp2
  go_ret
  exact⟨rfl,HB.out,Buts.refl _ _⟩
theorem back_pool{w:World}{g q n:Nat}{zs:List Int}(h:Blk w g (ptrc q) 263)(hq:Pl.Pool w q n zs)(who:Int)(hw:0 < who) :
  Calls Tryz.prog 145 #[.iface 261 (.pointer (some ⟨g,0,none⟩)),.int .u32 who] w fun e w'=>e=.returned (.bool (decide (0 < Pl.cnt who zs)))/\Pl.Pool w' q n (Pl.clr who zs)/\Buts [q] w w':=by
 have hlt:=h.lt
 have c0:w.cell? ⟨g,0,none⟩=some (.pointer (some ⟨q,0,none⟩)):=by rw [h.cell];rfl
 have HP:=Pl.all_any hq who hw
 have hl:=hq.len
 have hh:=hq.hi
 have hc:=Pl.cnt_le who zs
 clear h hq
 have he:decide ((0:Int) < (Pl.cnt who zs:Nat))=decide (0 < Pl.cnt who zs):=by simp
 go_enter Tryz.func145,Tryz.ntmps145
 go_wp2_with (first
  |(go_at_call 182;refine HP.mono ?_;rintro e w1 ⟨rfl,hr,hb⟩;have HR:Hid (Pl.Pool w1 q n (Pl.clr who zs)):=hr;have HB:Hid (Buts [q] w w1):=but_buts hb;clear hr hb))
 go_ret
 refine⟨?_,HR.out,HB.out⟩
 simp
theorem back_other{w:World}{t:TypeId}{v:Value}(who:Int)(ht:t=243∨t=252∨t=255∨t=264) :
  Calls Tryz.prog 145 #[.iface t v,.int .u32 who] w fun e w'=>e=.returned (.bool false)/\w=w':=by
 rcases ht with rfl | rfl | rfl | rfl
 all_goals
  go_enter Tryz.func145,Tryz.ntmps145
  go_wp2
  go_ret
  exact⟨rfl,rfl⟩
theorem Blk.setRow{w:World}{g:Nat}{cs:Array Value}{t:TypeId}(h:Blk w g cs t)(ds:Array Value):Blk (w.setRow g ds) g ds t:=by
 have hh:=(Array.getElem?_eq_some_iff.1 h).2
 unfold Blk World.setRow
 rw [Array.getElem?_eq_getElem (by simpa using h.lt),Array.getElem_modify]
 simp [hh]
theorem setRow_buts(w:World)(g:Nat)(ds:Array Value):Buts [g] w (w.setRow g ds) :=
 ⟨rfl,rfl,rfl,by simp,fun k hk hg=>by unfold World.setRow;simp only [List.mem_singleton] at hg;rw [Array.getElem?_modify];simp [Ne.symm hg]⟩
theorem wrap_c{c:Nat}(h:c<=64):IntKind.u32.wrap (c:Nat)=((c:Nat):Int):=by
 simp only [IntKind.wrap]
 go_arith
theorem own_far{w:World}{B z n c k:Nat}{t:TypeId}{s:Nat}{vs:List Value}(ho:w.ownsRow B t s (.slice (some ⟨z,0,none⟩) n c) n vs)(hB:k < B):z≠k:=by
 intro e;subst e
 have:=(ho.lt z rfl).1
 omega
def seec(k a b c o:Int)(r os:Value):Array Value:=#[.int .u32 0,.int .u8 k,.int .u32 a,.int .u32 b,.int .u32 c,.int .u32 o,r,os,.int .i64 0,.slice none 0 0]
theorem seen_sem{w:World}{g:Nat}{n b:Int}(h:Blk w g (semc n b) 245) :
  Calls Tryz.prog 132 #[.iface 243 (.pointer (some ⟨g,0,none⟩))] w fun e w'=>e=.returned (.agg (seec 0 0 0 n 0 (.slice none 0 0) (.slice none 0 0)))/\Below w.heap.size w w':=by
 have hlt:=h.lt
 have c0:w.cell? ⟨g,0,none⟩=some (.int .u32 n):=by rw [h.cell];rfl
 clear h
 go_enter Tryz.func132,Tryz.ntmps132
 go_wp2
 go_returns
 exact⟨rfl,alloc_below _ _⟩
theorem seen_mut{w:World}{g:Nat}{o:Int}(h:Blk w g (onec o) 248) :
  Calls Tryz.prog 132 #[.iface 246 (.pointer (some ⟨g,0,none⟩))] w fun e w'=>e=.returned (.agg (seec 0 0 0 0 o (.slice none 0 0) (.slice none 0 0)))/\Below w.heap.size w w':=by
 have hlt:=h.lt
 have c0:w.cell? ⟨g,0,none⟩=some (.int .u32 o):=by rw [h.cell];rfl
 clear h
 go_enter Tryz.func132,Tryz.ntmps132
 go_wp2
 go_returns
 exact⟨rfl,alloc_below _ _⟩
theorem seen_flg{w:World}{g:Nat}{o:Int}(h:Blk w g (onec o) 257) :
  Calls Tryz.prog 132 #[.iface 255 (.pointer (some ⟨g,0,none⟩))] w fun e w'=>e=.returned (.agg (seec 0 0 0 o 0 (.slice none 0 0) (.slice none 0 0)))/\Below w.heap.size w w':=by
 have hlt:=h.lt
 have c0:w.cell? ⟨g,0,none⟩=some (.int .u32 o):=by rw [h.cell];rfl
 clear h
 go_enter Tryz.func132,Tryz.ntmps132
 go_wp2
 go_returns
 exact⟨rfl,alloc_below _ _⟩
theorem seen_ala{w:World}{v:Value} :
  Calls Tryz.prog 132 #[.iface 264 v] w fun e w'=>e=.returned (.agg (seec 0 0 0 0 0 (.slice none 0 0) (.slice none 0 0)))/\Below w.heap.size w w':=by
 go_enter Tryz.func132,Tryz.ntmps132
 go_wp2
 go_returns
 exact⟨rfl,alloc_below _ _⟩
theorem seen_row{w:World}{g q n:Nat}{xs:List Int}(h:Blk w g (ptrc q) 254)(hq:Que w q n xs) :
  Calls Tryz.prog 132 #[.iface 252 (.pointer (some ⟨g,0,none⟩))] w fun e w'=>∃ z,e=.returned (.agg (seec 0 0 0 0 0 (.slice (some ⟨z,0,none⟩) xs.length xs.length) (.slice none 0 0)))/\w.heap.size<=z/\Row w' z xs/\Below w.heap.size w w':=by
 have hlt:=h.lt
 have c0:w.cell? ⟨g,0,none⟩=some (.pointer (some ⟨q,0,none⟩)):=by rw [h.cell];rfl
 have HB0:Hid (Below w.heap.size w (w.alloc (.cells (seec 0 0 0 0 0 (.slice none 0 0) (.slice none 0 0)) 53))):=alloc_below w _
 have H0:Hid (Blk (w.alloc (.cells (seec 0 0 0 0 0 (.slice none 0 0) (.slice none 0 0)) 53)) w.heap.size (seec 0 0 0 0 0 (.slice none 0 0) (.slice none 0 0)) 53):=alloc_at w _
 have HL:=list_any (hq.below HB0.out)
 have hs:=alloc_size w (.cells (seec 0 0 0 0 0 (.slice none 0 0) (.slice none 0 0)) 53)
 rw [hs] at HL
 clear h hq
 go_enter Tryz.func132,Tryz.ntmps132
 go_wp2_with (first
  |(go_at_call 173;(refine HL.mono ?_;rintro e w1 ⟨rfl,hr,hb⟩;have HR:Hid (Row w1 (w.heap.size+1) xs):=hr;have HB:Hid (Below w.heap.size w w1):=HB0.out.trans (hb.mono (by omega));have H1:Hid (Blk w1 w.heap.size (seec 0 0 0 0 0 (.slice none 0 0) (.slice none 0 0)) 53):=H0.out.below (hb.mono (by omega));clear hr hb))
  |(refine wpList_store_row rfl _ _ _ rfl w.heap.size (seec 0 0 0 0 0 (.slice (some ⟨w.heap.size+1,0,none⟩) xs.length xs.length) (.slice none 0 0)) rfl rfl 53 _ H1.out (by kernel_rfl) rfl (by kernel_rfl) ?_))
 refine bodyPost_ret (results_cell_row (g:=w.heap.size) rfl _ _ _ _ _ (d:=_) rfl (H1.out.setRow _) Tryz.underlying53 rfl (by kernel_rfl)) rfl ?_
 refine⟨_,rfl,Nat.le_succ _,?_,?_⟩
 ·exact((setRow_buts w1 _ _).block _ HR.out.lt (by simp)).trans HR.out
 ·exact HB.out.trans (one_below (setRow_buts w1 _ _) (Nat.le_refl _) HB.out.size)
theorem zero_cells{w:World}{B:Nat}(h:Blk w B (seec 0 0 0 0 0 (.slice none 0 0) (.slice none 0 0)) 53):w.cell? ⟨B,0,none⟩=some (.int .u32 0)/\w.cell? ⟨B,1,none⟩=some (.int .u8 0)/\w.cell? ⟨B,2,none⟩=some (.int .u32 0)/\w.cell? ⟨B,3,none⟩=some (.int .u32 0)/\w.cell? ⟨B,4,none⟩=some (.int .u32 0)/\w.cell? ⟨B,5,none⟩=some (.int .u32 0)/\w.cell? ⟨B,6,none⟩=some (.slice none 0 0)/\w.cell? ⟨B,7,none⟩=some (.slice none 0 0)/\w.cell? ⟨B,8,none⟩=some (.int .i64 0)/\w.cell? ⟨B,9,none⟩=some (.slice none 0 0)/\w.frozen? ⟨B,0,none⟩=false/\w.frozen? ⟨B,1,none⟩=false/\w.frozen? ⟨B,2,none⟩=false/\w.frozen? ⟨B,3,none⟩=false/\w.frozen? ⟨B,4,none⟩=false/\w.frozen? ⟨B,5,none⟩=false/\w.frozen? ⟨B,6,none⟩=false/\w.frozen? ⟨B,7,none⟩=false/\w.frozen? ⟨B,8,none⟩=false/\w.frozen? ⟨B,9,none⟩=false :=
 ⟨by rw [h.cell];rfl,by rw [h.cell];rfl,by rw [h.cell];rfl,by rw [h.cell];rfl,by rw [h.cell];rfl,by rw [h.cell];rfl,by rw [h.cell];rfl,by rw [h.cell];rfl,by rw [h.cell];rfl,by rw [h.cell];rfl,h.free 0,h.free 1,h.free 2,h.free 3,h.free 4,h.free 5,h.free 6,h.free 7,h.free 8,h.free 9⟩
theorem ten_sets{w:World}{B:Nat}(h:Blk w B (seec 0 0 0 0 0 (.slice none 0 0) (.slice none 0 0)) 53)(v0 v1 v2 v3 v4 v5 v6 v7 v8 v9:Value):Blk ((((((((((w.setCell ⟨B,0,none⟩ v0).setCell ⟨B,1,none⟩ v1).setCell ⟨B,2,none⟩ v2).setCell ⟨B,3,none⟩ v3).setCell ⟨B,4,none⟩ v4).setCell ⟨B,5,none⟩ v5).setCell ⟨B,6,none⟩ v6).setCell ⟨B,7,none⟩ v7).setCell ⟨B,8,none⟩ v8).setCell ⟨B,9,none⟩ v9) B #[v0,v1,v2,v3,v4,v5,v6,v7,v8,v9] 53/\Buts [B] w ((((((((((w.setCell ⟨B,0,none⟩ v0).setCell ⟨B,1,none⟩ v1).setCell ⟨B,2,none⟩ v2).setCell ⟨B,3,none⟩ v3).setCell ⟨B,4,none⟩ v4).setCell ⟨B,5,none⟩ v5).setCell ⟨B,6,none⟩ v6).setCell ⟨B,7,none⟩ v7).setCell ⟨B,8,none⟩ v8).setCell ⟨B,9,none⟩ v9):=by
 have h0:=h.set 0 v0
 have h1:=h0.set 1 v1
 have h2:=h1.set 2 v2
 have h3:=h2.set 3 v3
 have h4:=h3.set 4 v4
 have h5:=h4.set 5 v5
 have h6:=h5.set 6 v6
 have h7:=h6.set 7 v7
 have h8:=h7.set 8 v8
 have h9:=h8.set 9 v9
 refine⟨?_,((((((((((Buts.cell w B 0 v0).trans (Buts.cell _ _ 1 v1)).trans (Buts.cell _ _ 2 v2)).trans (Buts.cell _ _ 3 v3)).trans (Buts.cell _ _ 4 v4)).trans (Buts.cell _ _ 5 v5)).trans (Buts.cell _ _ 6 v6)).trans (Buts.cell _ _ 7 v7)).trans (Buts.cell _ _ 8 v8)).trans (Buts.cell _ _ 9 v9))⟩
 simp only [seec,List.setIfInBounds_toArray,List.set_cons_succ,List.set_cons_zero] at h9
 exact h9
theorem seen_pool{w:World}{g q n:Nat}{zs:List Int}(h:Blk w g (ptrc q) 263)(hq:Pl.Pool w q n zs) :
  Calls Tryz.prog 132 #[.iface 261 (.pointer (some ⟨g,0,none⟩))] w fun e w'=>∃ z c,e=.returned (.agg (seec 0 0 0 (Pl.cnt 0 zs:Nat) 0 (.slice none 0 0) (.slice (some ⟨z,0,none⟩) n c)))/\w'.ownsRow w.heap.size 22 1 (.slice (some ⟨z,0,none⟩) n c) n (wrd zs)/\Below w.heap.size w w':=by
 have hlt:=h.lt
 have hne2:g≠w.heap.size:=Nat.ne_of_lt hlt
 have hne3:w.heap.size≠g:=Ne.symm hne2
 have HB0:Hid (Below w.heap.size w (w.alloc (.cells (seec 0 0 0 0 0 (.slice none 0 0) (.slice none 0 0)) 53))):=alloc_below w _
 have H0:Hid (Blk (w.alloc (.cells (seec 0 0 0 0 0 (.slice none 0 0) (.slice none 0 0)) 53)).drew w.heap.size (seec 0 0 0 0 0 (.slice none 0 0) (.slice none 0 0)) 53):=alloc_at w _
 have HLf:Hid (∀ wx,Below w.heap.size w wx->Calls Tryz.prog 174 #[.pointer (some ⟨q,0,none⟩)] wx fun e w'=>e=.returned (.int .i64 (Pl.cnt 0 zs:Nat))/\Below wx.heap.size wx w'):=fun wx hb=>Pl.left_any (hq.below hb)
 have HOw:Hid (∀ wx,Below w.heap.size w wx->Calls Tryz.prog 175 #[.pointer (some ⟨q,0,none⟩)] wx fun e w'=>∃ g cap,e=.returned (.slice (some ⟨g,0,none⟩) n cap)/\w'.ownsRow wx.heap.size 22 1 (.slice (some ⟨g,0,none⟩) n cap) n (wrd zs)/\Below wx.heap.size wx w'):=fun wx hb=>Pl.owners_any (hq.below hb)
 have hc:Pl.cnt 0 zs<=64:=by have:=Pl.cnt_le 0 zs;have:=hq.len;have:=hq.hi;omega
 have c0:w.cell? ⟨g,0,none⟩=some (.pointer (some ⟨q,0,none⟩)):=by rw [h.cell];rfl
 have HG:Hid (Blk w g (ptrc q) 263):=h
 clear h hq
 generalize Pl.cnt 0 zs=c at *
 generalize wrd zs=vs at *
 have HW:Hid (IntKind.u32.wrap (c:Nat)=((c:Nat):Int)):=wrap_c hc
 have hs:=alloc_size w (.cells (seec 0 0 0 0 0 (.slice none 0 0) (.slice none 0 0)) 53)
 have HS:Hid (w.heap.size+1=(w.alloc (.cells (seec 0 0 0 0 0 (.slice none 0 0) (.slice none 0 0)) 53)).heap.size):=hs.symm
 clear hs
 go_enter Tryz.func132,Tryz.ntmps132
 go_wp2
 go_region_held3 (fun w'=>w'.cell? ⟨g,0,none⟩=some (.pointer (some ⟨q,0,none⟩))) (go_keep) (first
  |(go_at_call 175;refine(HOw.out _ BL.out).mono ?_;rintro e w2 ⟨z,cc,rfl,ho,hb⟩;have HO2:Hid (w2.ownsRow w.heap.size 22 1 (.slice (some ⟨z,0,none⟩) n cc) n vs):=ho.mono BL.out.size;have B2:Hid (Below w.heap.size w w2):=BL.out.trans (hb.mono BL.out.size);have Z2:Hid (Blk w2 w.heap.size (seec 0 0 0 0 0 (.slice none 0 0) (.slice none 0 0)) 53):=ZL.out.below hb;have N2:Hid (z≠w.heap.size):=own_far ho ZL.out.lt;have kg:w2.cell? ⟨g,0,none⟩=some (.pointer (some ⟨q,0,none⟩)):=(by rw [(HG.out.below B2.out).cell];rfl);obtain⟨z0,z1,z2,z3,z4,z5,z6,z7,z8,z9,x0,x1,x2,x3,x4,x5,x6,x7,x8,x9⟩:=zero_cells Z2.out;have hz2:=Z2.out.lt;clear ho hb)
  |(go_at_call 174;refine(HLf.out _ BO.out).mono ?_;rintro e w2 ⟨rfl,hb⟩;have HO2:Hid (w2.ownsRow w.heap.size 22 1 (.slice (some ⟨z,0,none⟩) n cc) n vs):=owns_buts HO.out (Buts.of (l:=[]) hb) (fun _ _=>List.not_mem_nil);have B2:Hid (Below w.heap.size w w2):=BO.out.trans (hb.mono BO.out.size);have Z2:Hid (Blk w2 w.heap.size (seec 0 0 0 0 0 (.slice none 0 0) (.slice none 0 0)) 53):=ZO.out.below hb;have N2:Hid (z≠w.heap.size):=NO.out;have kg:w2.cell? ⟨g,0,none⟩=some (.pointer (some ⟨q,0,none⟩)):=(by rw [(HG.out.below B2.out).cell];rfl);obtain⟨z0,z1,z2,z3,z4,z5,z6,z7,z8,z9,x0,x1,x2,x3,x4,x5,x6,x7,x8,x9⟩:=zero_cells Z2.out;have hz2:=Z2.out.lt;clear hb)
  |(go_at_call 174;refine(HLf.out _ HB0.out.drew).mono ?_;rintro e wl ⟨rfl,hb⟩;have BL:Hid (Below w.heap.size w wl):=HB0.out.drew.trans (hb.mono HB0.out.drew.size);have ZL:Hid (Blk wl w.heap.size (seec 0 0 0 0 0 (.slice none 0 0) (.slice none 0 0)) 53):=H0.out.below hb;have kl:wl.cell? ⟨g,0,none⟩=some (.pointer (some ⟨q,0,none⟩)):=(by rw [(HG.out.below BL.out).cell];rfl);clear hb)
  |(go_at_call 175;refine(HOw.out _ HB0.out.drew).mono ?_;rintro e wo ⟨z,cc,rfl,ho,hb⟩;have HO:Hid (wo.ownsRow w.heap.size 22 1 (.slice (some ⟨z,0,none⟩) n cc) n vs):=ho.mono HB0.out.drew.size;have BO:Hid (Below w.heap.size w wo):=HB0.out.drew.trans (hb.mono HB0.out.drew.size);have ZO:Hid (Blk wo w.heap.size (seec 0 0 0 0 0 (.slice none 0 0) (.slice none 0 0)) 53):=H0.out.below hb;have NO:Hid (z≠w.heap.size):=own_far ho H0.out.lt;have kl:wo.cell? ⟨g,0,none⟩=some (.pointer (some ⟨q,0,none⟩)):=(by rw [(HG.out.below BO.out).cell];rfl);clear ho hb)
  | fail)
 all_goals
  go_wp2
  obtain⟨T1,T2⟩:=ten_sets Z2.out (.int .u32 0) (.int .u8 0) (.int .u32 0) (.int .u32 0) (.int .u32 (IntKind.u32.wrap (c:Nat))) (.int .u32 0) (.slice none 0 0) (.slice (some ⟨z,0,none⟩) n cc) (.int .i64 0) (.slice none 0 0)
  refine bodyPost_ret (results_cell_row (g:=w.heap.size) rfl _ _ _ _ _ (d:=_) rfl T1 Tryz.underlying53 rfl (by kernel_rfl)) rfl ?_
  refine⟨z,cc,?_,?_,?_⟩
  ·rw [HW.out];rfl
  ·exact owns_buts HO2.out T2 (fun k hk=>by simp only [Value.ownBlock] at hk;cases hk;simpa using N2.out)
  ·exact B2.out.trans (one_below T2 (Nat.le_refl _) B2.out.size)
def Lst(w:World)(B:Nat)(v:Value)(xs:List Int):Prop:=w.ownsRow B 22 1 v xs.length (wrd xs)
theorem Lst.nil(w:World)(B:Nat):Lst w B (.slice none 0 0) []:=World.ownsRow_nil w B _ _
theorem Lst.mono{w:World}{B B':Nat}{v:Value}{xs:List Int}(h:Lst w B v xs)(hb:B'<=B):Lst w B' v xs:=World.ownsRow.mono h hb
theorem Lst.below{w w':World}{B:Nat}{v:Value}{xs:List Int}(h:Lst w B v xs)(hb:Below w.heap.size w w'):Lst w' B v xs:=owns_buts h (Buts.of (l:=[]) hb) (fun _ _=>List.not_mem_nil)
theorem Lst.but{w w':World}{B k:Nat}{v:Value}{xs:List Int}(h:Lst w B v xs)(hb:Buts [k] w w')(hk:k < B):Lst w' B v xs :=
 owns_buts h hb (fun g hg=>by have:=(World.ownsRow.lt h g hg).1;simp only [List.mem_singleton];omega)
theorem Lst.row{w:World}{B z:Nat}{xs:List Int}(h:Row w z xs)(hz:B<=z)(hm:xs.length<=64):Lst w B (.slice (some ⟨z,0,none⟩) xs.length xs.length) xs:=by
 refine⟨by simp [wrd],Or.inr ⟨z,xs.length,(wrd xs).toArray,rfl,hz,h,Nat.le_refl _,?_,by simp [wrd],by simp [wrd,List.take_of_length_le]⟩⟩
 have:(64:Nat)<=maxLen:=by decide
 omega
end Go.Proofs.YtbbdndfibjdcfaaGreat.Ob
namespace Go.Proofs.YtbbdndfibjdcfaaGreat.Ob
open Go Go.RowKit
theorem pool_free{w:World}{g q n:Nat}{zs:List Int}(h:Blk w g (ptrc q) 263)(hq:Pl.Pool w q n zs)(who ah am aw:Int)(v:Nat)(hv:v < 4294967296)(hw:0 < who/\who<=4294967295) :
  Calls Tryz.prog 256 #[.pointer (some ⟨g,0,none⟩),.int .u32 who,.agg #[.int .u8 15,.int .u32 ah,.int .u32 (v:Nat),.int .u32 am,.int .i64 aw]] w fun e w'=>e=.returned (.tuple #[.int .u32 0,.int .i64 (frE zs who v)])/\Pl.Pool w' q n (frL zs who v)/\Buts [q] w w':=by
 have hlt:=h.lt
 have c0:w.cell? ⟨g,0,none⟩=some (.pointer (some ⟨q,0,none⟩)):=by rw [h.cell];rfl
 have HP:Hid (∀ wx,Below w.heap.size w wx->Calls Tryz.prog 258 #[.pointer (some ⟨q,0,none⟩),.int .u32 who,.int .i64 (v:Nat)] wx fun e w'=>e=.returned (.int .i64 (frE zs who v))/\Pl.Pool w' q n (frL zs who v)/\Buts [q] w w') :=
  fun wx hb=>(free_any (hq.below hb) who v hw.1).mono fun e w' ⟨he,hr,hb'⟩=>⟨he,hr,(Buts.of hb).trans hb'⟩
 have hwr:IntKind.i64.wrap ((v:Nat):Int)=(v:Nat):=by
  simp only [IntKind.wrap]
  go_arith
 clear h hq
 generalize frE zs who v=x at *
 generalize frL zs who v=ys at *
 go_enter Tryz.func256,Tryz.ntmps256
 go_wp2
 go_region_with (first
  |(go_at_call 258;refine(HP.out _ (alloc_below w _).drew).mono ?_;rintro e w1 ⟨rfl,hr,hb⟩;have HR:Hid (Pl.Pool w1 q n ys):=hr;have HBt:Hid (Buts [q] w w1):=hb;clear hr hb))
 all_goals
  go_wp2
  go_ret2
  exact⟨rfl,HR.out,HBt.out⟩
structure Sm (w:World) (p f:Nat) (a b n:Int):Prop where
 hh:Blk w p (hdc 1 a b 243 f) 187
 hp:Blk w f (semc n b) 245
 lo:0<=n
 hi:n<=b
 top:b<=1073741824
structure Mx (w:World) (p f:Nat) (o:Int):Prop where
 hh:Blk w p (hdc 2 0 0 246 f) 187
 hp:Blk w f (onec o) 248
structure Rq (w:World) (p f g m:Nat) (xs:List Int):Prop where
 hh:Blk w p (hdc 3 (m:Nat) 0 252 f) 187
 hp:Blk w f (ptrc g) 254
 hq:Que w g m xs
structure Fg (w:World) (p f:Nat) (a:Int) (n:Nat):Prop where
 hh:Blk w p (hdc 4 a 0 255 f) 187
 hp:Blk w f (onec (n:Nat)) 257
 hi:n < 4294967296
structure Po (w:World) (p f g m:Nat) (b:Int) (zs:List Int):Prop where
 hh:Blk w p (hdc 5 (m:Nat) b 261 f) 187
 hp:Blk w f (ptrc g) 263
 hq:Pl.Pool w g m zs
structure Al (w:World) (p f:Nat) (a b:Int):Prop where
 hh:Blk w p (hdc 6 a b 264 f) 187
theorem Que.blk{w:World}{g m:Nat}{xs:List Int}(h:Que w g m xs):∃ cs,Blk w g cs 291:=by
 obtain⟨f,ys,hf,hr,hh⟩:=h.raw
 exact⟨_,hr.head⟩
theorem Pl.Pool.blk{w:World}{g m:Nat}{zs:List Int}(h:Pl.Pool w g m zs):∃ cs,Blk w g cs 293:=⟨_,h.head⟩
theorem pl_buts{w w':World}{p n:Nat}{zs:List Int}{l:List Nat}(h:Pl.Pool w p n zs)(hb:Buts l w w')(hp:p ∉ l):Pl.Pool w' p n zs:=h.same (hb.block p h.lt hp)
theorem Rq.ne{w:World}{p f g m:Nat}{xs:List Int}(h:Rq w p f g m xs):p≠f/\p≠g/\f≠g:=by
 obtain⟨cs,hq⟩:=h.hq.blk
 exact⟨h.hh.ne h.hp (by decide),h.hh.ne hq (by decide),h.hp.ne hq (by decide)⟩
theorem Po.ne{w:World}{p f g m:Nat}{b:Int}{zs:List Int}(h:Po w p f g m b zs):p≠f/\p≠g/\f≠g:=by
 obtain⟨cs,hq⟩:=h.hq.blk
 exact⟨h.hh.ne h.hp (by decide),h.hh.ne hq (by decide),h.hp.ne hq (by decide)⟩
theorem Sm.ne{w:World}{p f:Nat}{a b n:Int}(h:Sm w p f a b n):p≠f:=h.hh.ne h.hp (by decide)
theorem Mx.ne{w:World}{p f:Nat}{o:Int}(h:Mx w p f o):p≠f:=h.hh.ne h.hp (by decide)
theorem Fg.ne{w:World}{p f:Nat}{a:Int}{n:Nat}(h:Fg w p f a n):p≠f:=h.hh.ne h.hp (by decide)
theorem Sm.buts{w w':World}{p f:Nat}{a b n:Int}{l:List Nat}(h:Sm w p f a b n)(hb:Buts l w w')(h1:p ∉ l)(h2:f ∉ l):Sm w' p f a b n:=⟨h.hh.buts hb h1,h.hp.buts hb h2,h.lo,h.hi,h.top⟩
theorem Mx.buts{w w':World}{p f:Nat}{o:Int}{l:List Nat}(h:Mx w p f o)(hb:Buts l w w')(h1:p ∉ l)(h2:f ∉ l):Mx w' p f o:=⟨h.hh.buts hb h1,h.hp.buts hb h2⟩
theorem Rq.buts{w w':World}{p f g m:Nat}{xs:List Int}{l:List Nat}(h:Rq w p f g m xs)(hb:Buts l w w')(h1:p ∉ l)(h2:f ∉ l)(h3:g ∉ l):Rq w' p f g m xs:=⟨h.hh.buts hb h1,h.hp.buts hb h2,h.hq.buts hb h3⟩
theorem Fg.buts{w w':World}{p f:Nat}{a:Int}{n:Nat}{l:List Nat}(h:Fg w p f a n)(hb:Buts l w w')(h1:p ∉ l)(h2:f ∉ l):Fg w' p f a n:=⟨h.hh.buts hb h1,h.hp.buts hb h2,h.hi⟩
theorem Po.buts{w w':World}{p f g m:Nat}{b:Int}{zs:List Int}{l:List Nat}(h:Po w p f g m b zs)(hb:Buts l w w')(h1:p ∉ l)(h2:f ∉ l)(h3:g ∉ l):Po w' p f g m b zs:=⟨h.hh.buts hb h1,h.hp.buts hb h2,pl_buts h.hq hb h3⟩
theorem Rq.below{w w':World}{p f g m:Nat}{xs:List Int}(h:Rq w p f g m xs)(hb:Below w.heap.size w w'):Rq w' p f g m xs:=h.buts (Buts.of (l:=[]) hb) (by simp) (by simp) (by simp)
theorem Fg.below{w w':World}{p f:Nat}{a:Int}{n:Nat}(h:Fg w p f a n)(hb:Below w.heap.size w w'):Fg w' p f a n:=h.buts (Buts.of (l:=[]) hb) (by simp) (by simp)
theorem new_sem{w:World}{a b:Int}(h:0<=a/\a<=b/\1<=b/\b<=1073741824) :
  Calls Tryz.prog 72 #[.agg #[.int .u8 1,.int .u32 a,.int .u32 b]] w fun e w'=>∃ p f,e=.returned (.tuple #[.pointer (some ⟨p,0,none⟩),.int .i64 0])/\Sm w' p f a b a/\w.heap.size<=p/\w.heap.size<=f/\Below w.heap.size w w':=by
 refine(new_of (fun f w'=>w.heap.size<=f/\Blk w' f (semc a b) 245) fun wx hb=>(part_sem h).mono fun e w' ⟨f,he,h1,h2,h3⟩=>⟨f,he,⟨Nat.le_trans hb.size h1,h2⟩,h3⟩).mono ?_
 rintro e w' ⟨f,w1,rfl,⟨h1,h2⟩,h3,rfl⟩
 have b2:=alloc_below w1 (.cells (hdc 1 a b 243 f) 187)
 exact⟨_,f,rfl,⟨alloc_at w1 _,h2.below b2,h.1,h.2.1,h.2.2.2⟩,h3.size,h1,h3.trans (b2.mono h3.size)⟩
theorem new_mut{w:World} :
  Calls Tryz.prog 72 #[.agg #[.int .u8 2,.int .u32 0,.int .u32 0]] w fun e w'=>∃ p f,e=.returned (.tuple #[.pointer (some ⟨p,0,none⟩),.int .i64 0])/\Mx w' p f 0/\w.heap.size<=p/\w.heap.size<=f/\Below w.heap.size w w':=by
 refine(new_of (fun f w'=>w.heap.size<=f/\Blk w' f (onec 0) 248) fun wx hb=>(part_mut ⟨rfl,rfl⟩).mono fun e w' ⟨f,he,h1,h2,h3⟩=>⟨f,he,⟨Nat.le_trans hb.size h1,h2⟩,h3⟩).mono ?_
 rintro e w' ⟨f,w1,rfl,⟨h1,h2⟩,h3,rfl⟩
 have b2:=alloc_below w1 (.cells (hdc 2 0 0 246 f) 187)
 exact⟨_,f,rfl,⟨alloc_at w1 _,h2.below b2⟩,h3.size,h1,h3.trans (b2.mono h3.size)⟩
theorem new_flg{w:World}(n:Nat)(hn:n < 4294967296) :
  Calls Tryz.prog 72 #[.agg #[.int .u8 4,.int .u32 (n:Nat),.int .u32 0]] w fun e w'=>∃ p f,e=.returned (.tuple #[.pointer (some ⟨p,0,none⟩),.int .i64 0])/\Fg w' p f (n:Nat) n/\w.heap.size<=p/\w.heap.size<=f/\Below w.heap.size w w':=by
 refine(new_of (fun f w'=>w.heap.size<=f/\Blk w' f (onec (n:Nat)) 257) fun wx hb=>(part_flg rfl).mono fun e w' ⟨f,he,h1,h2,h3⟩=>⟨f,he,⟨Nat.le_trans hb.size h1,h2⟩,h3⟩).mono ?_
 rintro e w' ⟨f,w1,rfl,⟨h1,h2⟩,h3,rfl⟩
 have b2:=alloc_below w1 (.cells (hdc 4 (n:Nat) 0 255 f) 187)
 exact⟨_,f,rfl,⟨alloc_at w1 _,h2.below b2,hn⟩,h3.size,h1,h3.trans (b2.mono h3.size)⟩
theorem new_row{w:World}(m:Nat)(h1:1<=m)(h2:m<=64) :
  Calls Tryz.prog 72 #[.agg #[.int .u8 3,.int .u32 (m:Nat),.int .u32 0]] w fun e w'=>∃ p f g,e=.returned (.tuple #[.pointer (some ⟨p,0,none⟩),.int .i64 0])/\Rq w' p f g m []/\w.heap.size<=p/\w.heap.size<=f/\w.heap.size<=g/\Below w.heap.size w w':=by
 refine(new_of (fun f w'=>∃ g,w.heap.size<=f/\w.heap.size<=g/\Blk w' f (ptrc g) 254/\Que w' g m []) fun wx hb=>(part_row m h1 h2 rfl).mono fun e w' ⟨f,g,he,h1,h2,h3,h4,h5⟩=>⟨f,he,⟨g,Nat.le_trans hb.size h1,Nat.le_trans hb.size h2,h3,h4⟩,h5⟩).mono ?_
 rintro e w' ⟨f,w1,rfl,⟨g,h1,h2,h3,h4⟩,h5,rfl⟩
 have b2:=alloc_below w1 (.cells (hdc 3 (m:Nat) 0 252 f) 187)
 exact⟨_,f,g,rfl,⟨alloc_at w1 _,h3.below b2,h4.below b2⟩,h5.size,h1,h2,h5.trans (b2.mono h5.size)⟩
theorem new_pool{w:World}(m:Nat){b:Int}(h1:1<=m)(h2:m<=64)(hb:1<=b/\b<=256) :
  Calls Tryz.prog 72 #[.agg #[.int .u8 5,.int .u32 (m:Nat),.int .u32 b]] w fun e w'=>∃ p f g,e=.returned (.tuple #[.pointer (some ⟨p,0,none⟩),.int .i64 0])/\Po w' p f g m b (List.replicate m 0)/\w.heap.size<=p/\w.heap.size<=f/\w.heap.size<=g/\Below w.heap.size w w':=by
 refine(new_of (fun f w'=>∃ g,w.heap.size<=f/\w.heap.size<=g/\Blk w' f (ptrc g) 263/\Pl.Pool w' g m (List.replicate m 0)) fun wx hbw=>(part_pool m h1 h2 hb).mono fun e w' ⟨f,g,he,h1,h2,h3,h4,h5⟩=>⟨f,he,⟨g,Nat.le_trans hbw.size h1,Nat.le_trans hbw.size h2,h3,h4⟩,h5⟩).mono ?_
 rintro e w' ⟨f,w1,rfl,⟨g,h1,h2,h3,h4⟩,h5,rfl⟩
 have b2:=alloc_below w1 (.cells (hdc 5 (m:Nat) b 261 f) 187)
 exact⟨_,f,g,rfl,⟨alloc_at w1 _,h3.below b2,h4.below b2⟩,h5.size,h1,h2,h5.trans (b2.mono h5.size)⟩
theorem sm_take{w:World}{p f:Nat}{a b n:Int}(h:Sm w p f a b n)(who ah av am aw:Int)(hw:0 < who/\who<=4294967295) :
  Calls Tryz.prog 58 #[.pointer (some ⟨p,0,none⟩),.int .u32 who,.agg #[.int .u8 3,.int .u32 ah,.int .u32 av,.int .u32 am,.int .i64 aw]] w fun e w'=>e=.returned (.tuple #[.int .u32 (0),.int .i64 (if n=0 then 7 else 0)])/\Sm w' p f a b (if n=0 then n else n - 1)/\Buts [f] w w' :=
 try_sem h.hh (by decide) who 3 ah av am aw (by omega) (by decide) (fun wx hb=>(sem_take (h.hp.below hb) ⟨h.lo,by have:=h.hi;have:=h.top;omega⟩ who ah av am aw).mono fun e w' ⟨he,h2,h3⟩ =>
  ⟨he,⟨(h.hh.below hb).buts h3 (by simpa using h.ne),h2,by have:=h.lo;split <;> omega,by have:=h.hi;split <;> omega,h.top⟩,(Buts.of hb).trans h3⟩)
theorem sm_give{w:World}{p f:Nat}{a b n:Int}(h:Sm w p f a b n)(who ah av am aw:Int)(hw:0 < who/\who<=4294967295) :
  Calls Tryz.prog 58 #[.pointer (some ⟨p,0,none⟩),.int .u32 who,.agg #[.int .u8 4,.int .u32 ah,.int .u32 av,.int .u32 am,.int .i64 aw]] w fun e w'=>e=.returned (.tuple #[.int .u32 (0),.int .i64 (if n=b then 10 else 0)])/\Sm w' p f a b (if n=b then n else n+1)/\Buts [f] w w' :=
 try_sem h.hh (by decide) who 4 ah av am aw (by omega) (by decide) (fun wx hb=>(sem_give (h.hp.below hb) ⟨h.lo,h.hi⟩ h.top who ah av am aw).mono fun e w' ⟨he,h2,h3⟩ =>
  ⟨he,⟨(h.hh.below hb).buts h3 (by simpa using h.ne),h2,by have:=h.lo;split <;> omega,by have:=h.hi;split <;> omega,h.top⟩,(Buts.of hb).trans h3⟩)
theorem mx_lock{w:World}{p f:Nat}{o:Int}(h:Mx w p f o)(who ah av am aw:Int)(hw:0 < who/\who<=4294967295) :
  Calls Tryz.prog 58 #[.pointer (some ⟨p,0,none⟩),.int .u32 who,.agg #[.int .u8 5,.int .u32 ah,.int .u32 av,.int .u32 am,.int .i64 aw]] w fun e w'=>e=.returned (.tuple #[.int .u32 (0),.int .i64 (if o=who then 13 else if o≠0 then 7 else 0)])/\Mx w' p f (if o=who then o else if o≠0 then o else who)/\Buts [f] w w' :=
 try_mut h.hh (by decide) who 5 ah av am aw (by omega) (by decide) (fun wx hb=>(mut_lock (h.hp.below hb) who ah av am aw).mono fun e w' ⟨he,h2,h3⟩ =>
  ⟨he,⟨(h.hh.below hb).buts h3 (by simpa using h.ne),h2⟩,(Buts.of hb).trans h3⟩)
theorem mx_unlock{w:World}{p f:Nat}{o:Int}(h:Mx w p f o)(who ah av am aw:Int)(hw:0 < who/\who<=4294967295) :
  Calls Tryz.prog 58 #[.pointer (some ⟨p,0,none⟩),.int .u32 who,.agg #[.int .u8 6,.int .u32 ah,.int .u32 av,.int .u32 am,.int .i64 aw]] w fun e w'=>e=.returned (.tuple #[.int .u32 (0),.int .i64 (if o=who then 0 else 13)])/\Mx w' p f (if o=who then 0 else o)/\Buts [f] w w' :=
 try_mut h.hh (by decide) who 6 ah av am aw (by omega) (by decide) (fun wx hb=>(mut_unlock (h.hp.below hb) who ah av am aw).mono fun e w' ⟨he,h2,h3⟩ =>
  ⟨he,⟨(h.hh.below hb).buts h3 (by simpa using h.ne),h2⟩,(Buts.of hb).trans h3⟩)
theorem rq_put{w:World}{p f g m:Nat}{xs:List Int}(h:Rq w p f g m xs)(who ah av am aw:Int)(hw:0 < who/\who<=4294967295) :
  Calls Tryz.prog 58 #[.pointer (some ⟨p,0,none⟩),.int .u32 who,.agg #[.int .u8 7,.int .u32 ah,.int .u32 av,.int .u32 am,.int .i64 aw]] w fun e w'=>e=.returned (.tuple #[.int .u32 (0),.int .i64 (ny (addE xs m))])/\Rq w' p f g m (putL xs m av)/\Buts [g] w w' :=
 try_row h.hh (by decide) who 7 ah av am aw (by omega) (by decide) (fun wx hb=>(row_put (h.hp.below hb) (h.hq.below hb) who ah av am aw).mono fun e w' ⟨he,h2,h3⟩ =>
  ⟨he,⟨(h.hh.below hb).buts h3 (by simpa using h.ne.2.1),(h.hp.below hb).buts h3 (by simpa using h.ne.2.2),h2⟩,(Buts.of hb).trans h3⟩)
theorem rq_push{w:World}{p f g m:Nat}{xs:List Int}(h:Rq w p f g m xs)(who ah av am aw:Int)(hw:0 < who/\who<=4294967295) :
  Calls Tryz.prog 58 #[.pointer (some ⟨p,0,none⟩),.int .u32 who,.agg #[.int .u8 8,.int .u32 ah,.int .u32 av,.int .u32 am,.int .i64 aw]] w fun e w'=>e=.returned (.tuple #[.int .u32 (0),.int .i64 (ny (addE xs m))])/\Rq w' p f g m (pushL xs m av)/\Buts [g] w w' :=
 try_row h.hh (by decide) who 8 ah av am aw (by omega) (by decide) (fun wx hb=>(row_push (h.hp.below hb) (h.hq.below hb) who ah av am aw).mono fun e w' ⟨he,h2,h3⟩ =>
  ⟨he,⟨(h.hh.below hb).buts h3 (by simpa using h.ne.2.1),(h.hp.below hb).buts h3 (by simpa using h.ne.2.2),h2⟩,(Buts.of hb).trans h3⟩)
theorem rq_get{w:World}{p f g m:Nat}{xs:List Int}(h:Rq w p f g m xs)(who ah av am aw:Int)(hw:0 < who/\who<=4294967295) :
  Calls Tryz.prog 58 #[.pointer (some ⟨p,0,none⟩),.int .u32 who,.agg #[.int .u8 9,.int .u32 ah,.int .u32 av,.int .u32 am,.int .i64 aw]] w fun e w'=>e=.returned (.tuple #[.int .u32 (xs.headD 0),.int .i64 (ny (takeE xs))])/\Rq w' p f g m (xs.tail)/\Buts [g] w w' :=
 try_row h.hh (by decide) who 9 ah av am aw (by omega) (by decide) (fun wx hb=>(row_get (h.hp.below hb) (h.hq.below hb) who ah av am aw).mono fun e w' ⟨he,h2,h3⟩ =>
  ⟨he,⟨(h.hh.below hb).buts h3 (by simpa using h.ne.2.1),(h.hp.below hb).buts h3 (by simpa using h.ne.2.2),h2⟩,(Buts.of hb).trans h3⟩)
theorem rq_peek{w:World}{p f g m:Nat}{xs:List Int}(h:Rq w p f g m xs)(who ah av am aw:Int)(hw:0 < who/\who<=4294967295) :
  Calls Tryz.prog 58 #[.pointer (some ⟨p,0,none⟩),.int .u32 who,.agg #[.int .u8 10,.int .u32 ah,.int .u32 av,.int .u32 am,.int .i64 aw]] w fun e w'=>e=.returned (.tuple #[.int .u32 (xs.headD 0),.int .i64 (takeE xs)])/\Below w.heap.size w w' :=
 try_row h.hh (by decide) who 10 ah av am aw (by omega) (by decide) (fun wx hb=>(row_peek (h.hp.below hb) (h.hq.below hb) who ah av am aw).mono fun e w' ⟨he,h2⟩=>⟨he,hb.trans (h2.mono hb.size)⟩)
theorem po_alloc{w:World}{p f g m:Nat}{b:Int}{zs:List Int}(h:Po w p f g m b zs)(who ah av am aw:Int)(hw:0 < who/\who<=4294967295) :
  Calls Tryz.prog 58 #[.pointer (some ⟨p,0,none⟩),.int .u32 who,.agg #[.int .u8 14,.int .u32 ah,.int .u32 av,.int .u32 am,.int .i64 aw]] w fun e w'=>e=.returned (.tuple #[.int .u32 (alV zs),.int .i64 (alE zs)])/\Po w' p f g m b (alL zs who)/\Buts [g] w w' :=
 try_pool h.hh (by decide) who 14 ah av am aw (by omega) (by decide) (fun wx hb=>(pool_alloc (h.hp.below hb) (h.hq.below hb) who ah av am aw hw).mono fun e w' ⟨he,h2,h3⟩ =>
  ⟨he,⟨(h.hh.below hb).buts h3 (by simpa using h.ne.2.1),(h.hp.below hb).buts h3 (by simpa using h.ne.2.2),h2⟩,(Buts.of hb).trans h3⟩)
theorem po_free{w:World}{p f g m:Nat}{b:Int}{zs:List Int}(h:Po w p f g m b zs)(v:Nat)(hv:v < 4294967296)(who ah am aw:Int)(hw:0 < who/\who<=4294967295) :
  Calls Tryz.prog 58 #[.pointer (some ⟨p,0,none⟩),.int .u32 who,.agg #[.int .u8 15,.int .u32 ah,.int .u32 (v:Nat),.int .u32 am,.int .i64 aw]] w fun e w'=>e=.returned (.tuple #[.int .u32 (0),.int .i64 (frE zs who v)])/\Po w' p f g m b (frL zs who v)/\Buts [g] w w' :=
 try_pool h.hh (by decide) who 15 ah (v:Nat) am aw (by omega) (by decide) (fun wx hb=>(pool_free (h.hp.below hb) (h.hq.below hb) who ah am aw v hv hw).mono fun e w' ⟨he,h2,h3⟩ =>
  ⟨he,⟨(h.hh.below hb).buts h3 (by simpa using h.ne.2.1),(h.hp.below hb).buts h3 (by simpa using h.ne.2.2),h2⟩,(Buts.of hb).trans h3⟩)
theorem mx_leave{w:World}{p f:Nat}{o:Int}(h:Mx w p f o)(who:Int)(hw:0 < who) :
  Calls Tryz.prog 104 #[.pointer (some ⟨p,0,none⟩),.int .u32 who] w fun e w'=>e=.returned (.bool (decide (o=who)))/\Mx w' p f (if o=who then 0 else o)/\Buts [f] w w' :=
 leave_of h.hh who (by omega) ((back_mut h.hp who).mono fun e w' ⟨he,h2,h3⟩=>⟨he,⟨h.hh.buts h3 (by simpa using h.ne),h2⟩,h3⟩)
theorem po_leave{w:World}{p f g m:Nat}{b:Int}{zs:List Int}(h:Po w p f g m b zs)(who:Int)(hw:0 < who) :
  Calls Tryz.prog 104 #[.pointer (some ⟨p,0,none⟩),.int .u32 who] w fun e w'=>e=.returned (.bool (decide (0 < Pl.cnt who zs)))/\Po w' p f g m b (Pl.clr who zs)/\Buts [g] w w' :=
 leave_of h.hh who (by omega) ((back_pool h.hp h.hq who hw).mono fun e w' ⟨he,h2,h3⟩=>⟨he,⟨h.hh.buts h3 (by simpa using h.ne.2.1),h.hp.buts h3 (by simpa using h.ne.2.2),h2⟩,h3⟩)
def May(k a b:Int):Prop:=(k=1/\a<=b/\1<=b/\b<=1073741824)∨(k=2/\a=0/\b=0)∨(k=3/\1<=a/\a<=64/\b=0)∨(k=4/\b=0)∨(k=5/\1<=a/\a<=64/\1<=b/\b<=256)∨(k=6/\a≠0)
theorem no_sem{w:World}{a b:Int}(h:¬ (a<=b/\1<=b/\b<=1073741824)) :
  Calls Tryz.prog 115 #[.agg #[.int .u8 1,.int .u32 a,.int .u32 b]] w fun e w'=>e=.returned .nilIface/\Below w.heap.size w w':=by
 by_cases a1:a<=b
 ·by_cases a2:1<=b
  ·have a3:¬ b<=1073741824:=fun h3=>h ⟨a1,a2,h3⟩
   clear h
   go_enter Tryz.func115,Tryz.ntmps115
   go_wp2
   go_ret
   exact⟨rfl,alloc_below _ _⟩
  ·clear h
   go_enter Tryz.func115,Tryz.ntmps115
   go_wp2
   go_ret
   exact⟨rfl,alloc_below _ _⟩
 ·clear h
  go_enter Tryz.func115,Tryz.ntmps115
  go_wp2
  go_ret
  exact⟨rfl,alloc_below _ _⟩
theorem no_mut{w:World}{a b:Int}(h:¬ (a=0/\b=0)) :
  Calls Tryz.prog 115 #[.agg #[.int .u8 2,.int .u32 a,.int .u32 b]] w fun e w'=>e=.returned .nilIface/\Below w.heap.size w w':=by
 by_cases a1:a=0
 ·subst a1
  have a2:(b == 0)=false:=by simpa using h
  clear h
  go_enter Tryz.func115,Tryz.ntmps115
  go_wp2
  go_ret
  exact⟨rfl,alloc_below _ _⟩
 ·have a2:(a == 0)=false:=by simpa using a1
  clear h a1
  go_enter Tryz.func115,Tryz.ntmps115
  go_wp2
  go_ret
  exact⟨rfl,alloc_below _ _⟩
theorem no_flg{w:World}{a b:Int}(h:b≠0) :
  Calls Tryz.prog 115 #[.agg #[.int .u8 4,.int .u32 a,.int .u32 b]] w fun e w'=>e=.returned .nilIface/\Below w.heap.size w w':=by
 have a2:(b == 0)=false:=by simpa using h
 clear h
 go_enter Tryz.func115,Tryz.ntmps115
 go_wp2
 go_ret
 exact⟨rfl,alloc_below _ _⟩
theorem no_ala{w:World}{b:Int} :
  Calls Tryz.prog 115 #[.agg #[.int .u8 6,.int .u32 0,.int .u32 b]] w fun e w'=>e=.returned .nilIface/\Below w.heap.size w w':=by
 go_enter Tryz.func115,Tryz.ntmps115
 go_wp2
 go_ret
 exact⟨rfl,alloc_below _ _⟩
theorem no_kind{w:World}{k a b:Int}(h:k < 1∨6 < k) :
  Calls Tryz.prog 115 #[.agg #[.int .u8 k,.int .u32 a,.int .u32 b]] w fun e w'=>e=.returned .nilIface/\Below w.heap.size w w':=by
 have h1:(k == 1)=false:=by simp;omega
 have h2:(k == 2)=false:=by simp;omega
 have h3:(k == 3)=false:=by simp;omega
 have h4:(k == 4)=false:=by simp;omega
 have h5:(k == 5)=false:=by simp;omega
 have h6:(k == 6)=false:=by simp;omega
 clear h
 go_enter Tryz.func115,Tryz.ntmps115
 go_wp2
 go_ret
 exact⟨rfl,alloc_below _ _⟩
theorem wrap_a{n:Nat}(h:n<=4294967295):IntKind.i64.wrap ((n:Nat):Int)=(n:Nat):=by
 simp only [IntKind.wrap]
 go_arith
theorem no_row{w:World}{b:Int}(n:Nat)(hn:n<=4294967295)(h:¬ (1<=n/\n<=64/\b=0)) :
  Calls Tryz.prog 115 #[.agg #[.int .u8 3,.int .u32 (n:Nat),.int .u32 b]] w fun e w'=>e=.returned .nilIface/\Below w.heap.size w w':=by
 have hwr:=wrap_a hn
 by_cases h1:1<=n/\n<=64
 ·have a2:(b == 0)=false:=by simp;exact fun e=>h ⟨h1.1,h1.2,e⟩
  have HC:Hid (1<=n/\n<=64):=h1
  clear h h1 hn
  go_enter Tryz.func115,Tryz.ntmps115
  go_wp2_with (first
   |(go_at_call 159;refine(new_yes n HC.out.1 HC.out.2).mono ?_;rintro e w1 ⟨rfl,hq,hb⟩;have k2:w1.cell? ⟨w.heap.size,2,none⟩=some (.int .u32 b):=(by rw [cell_of ((hb.block w.heap.size (by simp)).trans (alloc_at w _))];rfl);have HB:Hid (Below w.heap.size w w1):=(alloc_below w _).trans (hb.mono (by simp));clear hq hb))
  go_ret
  exact⟨rfl,HB.out⟩
 ·have HC:Hid ((n:Int) < 1∨64 < (n:Int)):=by show _∨_;omega
  clear h h1 hn
  go_enter Tryz.func115,Tryz.ntmps115
  go_wp2_with (first
   |(go_at_call 159;refine(new_no _ HC.out).mono ?_;rintro e w1 ⟨rfl,rfl⟩))
  go_ret
  exact⟨rfl,alloc_below _ _⟩
theorem no_pool{w:World}(n m:Nat)(hn:n<=4294967295)(hm:m<=4294967295)(h:¬ (1<=n/\n<=64/\1<=m/\m<=256)) :
  Calls Tryz.prog 115 #[.agg #[.int .u8 5,.int .u32 (n:Nat),.int .u32 (m:Nat)]] w fun e w'=>e=.returned .nilIface/\Below w.heap.size w w':=by
 have hwr:=wrap_a hn
 have hwm:=wrap_a hm
 have HC:Hid ((n:Int) < 1∨64 < (n:Int)∨(m:Int) < 1∨256 < (m:Int)):=by show _∨_;omega
 clear h hn hm
 go_enter Tryz.func115,Tryz.ntmps115
 go_wp2_with (first
  |(go_at_call 160;refine(Pl.new_no _ _ HC.out).mono ?_;rintro e w1 ⟨rfl,rfl⟩))
 go_ret
 exact⟨rfl,alloc_below _ _⟩
theorem no_part{w:World}{k a b:Int}(ha:0<=a/\a<=4294967295)(hb:0<=b/\b<=4294967295)(h:¬ May k a b) :
  Calls Tryz.prog 115 #[.agg #[.int .u8 k,.int .u32 a,.int .u32 b]] w fun e w'=>e=.returned .nilIface/\Below w.heap.size w w':=by
 unfold May at h
 obtain⟨n,rfl⟩:=Int.eq_ofNat_of_zero_le ha.1
 obtain⟨m,rfl⟩:=Int.eq_ofNat_of_zero_le hb.1
 by_cases h1:k=1
 ·subst h1;exact no_sem (by omega)
 by_cases h2:k=2
 ·subst h2;exact no_mut (by omega)
 by_cases h3:k=3
 ·subst h3;exact no_row n (by omega) (by omega)
 by_cases h4:k=4
 ·subst h4;exact no_flg (by omega)
 by_cases h5:k=5
 ·subst h5;exact no_pool n m (by omega) (by omega) (by omega)
 by_cases h6:k=6
 ·subst h6
  obtain rfl:n=0:=by omega
  exact no_ala
 exact no_kind (by omega)
theorem new_none{w:World}{k a b:Int}(ha:0<=a/\a<=4294967295)(hb:0<=b/\b<=4294967295)(h:¬ May k a b) :
  Calls Tryz.prog 72 #[.agg #[.int .u8 k,.int .u32 a,.int .u32 b]] w fun e w'=>e=.returned (.tuple #[.pointer none,.int .i64 1])/\Below w.heap.size w w':=by
 have HC:=no_part (w:=w.alloc (.cells #[.int .u8 k,.int .u32 a,.int .u32 b] 35)) ha hb h
 clear h ha hb
 go_enter Tryz.func72,Tryz.ntmps72
 go_wp2_with (first
  |(go_at_call 115;refine HC.mono ?_;rintro e w1 ⟨rfl,hb⟩;have HB:Hid (Below w.heap.size w w1):=(alloc_below w _).trans (hb.mono (by simp));clear hb))
 go_ret2
 exact⟨rfl,HB.out⟩
structure Sx where
 k:Int
 a:Int
 b:Int
 n:Nat
 o:Int
 xs:List Int
 zs:List Int
inductive KT (w:World) (p f g:Nat):Sx->Prop
 | sem {a b:Int} {n:Nat}:Sm w p f a b (n:Nat)->KT w p f g ⟨1,a,b,n,0,[],[]⟩
 | mtx {o:Int}:Mx w p f o->KT w p f g ⟨2,0,0,0,o,[],[]⟩
 | row {m:Nat} {xs:List Int}:Rq w p f g m xs->KT w p f g ⟨3,(m:Nat),0,0,0,xs,[]⟩
 | flg {a:Int} {n:Nat}:Fg w p f a n->KT w p f g ⟨4,a,0,n,0,[],[]⟩
 | pool {m:Nat} {b:Int} {zs:List Int}:Po w p f g m b zs->KT w p f g ⟨5,(m:Nat),b,0,0,[],zs⟩
 | ala {a b:Int}:Al w p f a b->KT w p f g ⟨6,a,b,0,0,[],[]⟩
theorem Al.buts{w w':World}{p f:Nat}{a b:Int}{l:List Nat}(h:Al w p f a b)(hb:Buts l w w')(h1:p ∉ l):Al w' p f a b:=⟨h.hh.buts hb h1⟩
theorem KT.buts{w w':World}{p f g:Nat}{T:Sx}{l:List Nat}(h:KT w p f g T)(hb:Buts l w w')(h1:p ∉ l)(h2:f ∉ l)(h3:g ∉ l):KT w' p f g T:=by
 cases h with
 | sem h=>exact .sem (h.buts hb h1 h2)
 | mtx h=>exact .mtx (h.buts hb h1 h2)
 | row h=>exact .row (h.buts hb h1 h2 h3)
 | flg h=>exact .flg (h.buts hb h1 h2)
 | pool h=>exact .pool (h.buts hb h1 h2 h3)
 | ala h=>exact .ala (h.buts hb h1)
theorem KT.below{w w':World}{p f g:Nat}{T:Sx}(h:KT w p f g T)(hb:Below w.heap.size w w'):KT w' p f g T:=h.buts (Buts.of (l:=[]) hb) (by simp) (by simp) (by simp)
def tX(T:Sx)(who wh:Int)(av am:Nat):Int×Int×Sx :=
 if wh=3 then(0,if T.n=0 then 7 else 0,{ T with n:=T.n - 1 })
 else if wh=4 then(0,if(T.n:Int)=T.b then 10 else 0,{ T with n:=if(T.n:Int)=T.b then T.n else T.n+1 })
 else if wh=5 then(0,if T.o=who then 13 else if T.o≠0 then 7 else 0,{ T with o:=if T.o=who then T.o else if T.o≠0 then T.o else who })
 else if wh=6 then(0,if T.o=who then 0 else 13,{ T with o:=if T.o=who then 0 else T.o })
 else if wh=7 then(0,ny (addE T.xs T.a.toNat),{ T with xs:=putL T.xs T.a.toNat av })
 else if wh=8 then(0,ny (addE T.xs T.a.toNat),{ T with xs:=pushL T.xs T.a.toNat av })
 else if wh=9 then(T.xs.headD 0,ny (takeE T.xs),{ T with xs:=T.xs.tail })
 else if wh=10 then(T.xs.headD 0,takeE T.xs,T)
 else if wh=11 then(((awV T.n av (decide (am % 2=1)):Nat):Int),awE T.n av (decide (am % 2=1)),{ T with n:=awF T.n av (decide (am % 2=1)) (decide (2<=am)) })
 else if wh=12 then(((T.n ||| av:Nat):Int),0,{ T with n:=T.n ||| av })
 else if wh=13 then(((Mk.bt T.n av:Nat):Int),0,{ T with n:=Mk.bt T.n av })
 else if wh=14 then(alV T.zs,alE T.zs,{ T with zs:=alL T.zs who })
 else(0,frE T.zs who av,{ T with zs:=frL T.zs who av })
def Bad(T:Sx)(who wh:Int)(am:Nat):Prop:=who=0∨T.k=6∨Tk.fitB wh T.k=false∨(wh=11/\3 < am)
open Classical in
noncomputable def tA(T:Sx)(who wh:Int)(av am:Nat):Int×Int×Sx:=if Bad T who wh am then(0,1,T) else tX T who wh av am
theorem tA_bad{T:Sx}{who wh:Int}{av am:Nat}(h:Bad T who wh am):tA T who wh av am=(0,1,T):=if_pos h
theorem tA_ok{T:Sx}{who wh:Int}{av am:Nat}(h:¬ Bad T who wh am):tA T who wh av am=tX T who wh av am:=if_neg h
def lB(T:Sx)(who:Int):Bool:=decide (who≠0/\(T.o=who∨0 < Pl.cnt who T.zs))
def lT(T:Sx)(who:Int):Sx:=if who=0 then T else { T with o:=if T.o=who then 0 else T.o,zs:=Pl.clr who T.zs }
def cX(T:Sx):Int:=(if T.k=1∨T.k=4 then(T.n:Int) else 0)+(Pl.cnt 0 T.zs:Nat)
theorem KT.hd{w:World}{p f g:Nat}{T:Sx}(h:KT w p f g T):∃ t,Blk w p (hdc T.k T.a T.b t f) 187:=by
 cases h with
 | sem h=>exact⟨_,h.hh⟩
 | mtx h=>exact⟨_,h.hh⟩
 | row h=>exact⟨_,h.hh⟩
 | flg h=>exact⟨_,h.hh⟩
 | pool h=>exact⟨_,h.hh⟩
 | ala h=>exact⟨_,h.hh⟩
theorem KT.kind{w:World}{p f g:Nat}{T:Sx}(h:KT w p f g T):1<=T.k/\T.k<=6:=by cases h <;> simp
def Ans(w:World)(p f g:Nat)(R:Int×Int×Sx)(e:Ending)(w':World):Prop:=e=.returned (.tuple #[.int .u32 R.1,.int .i64 R.2.1])/\KT w' p f g R.2.2/\Buts [f,g] w w'
theorem fit_of{wh k:Int}(h:Tk.fitB wh k=true):(k=1/\(wh=3∨wh=4))∨(k=2/\(wh=5∨wh=6))∨(k=3/\(wh=7∨wh=8∨wh=9∨wh=10))∨(k=4/\(wh=11∨wh=12∨wh=13))∨(k=5/\(wh=14∨wh=15))∨(k=6/\(wh=16∨wh=17)):=by
 rw [Tk.fitB_iff] at h
 unfold Tk.kd at h
 split at h <;> first | omega |(split at h <;> first | omega |(split at h <;> first | omega |(split at h <;> first | omega |(split at h <;> first | omega |(split at h <;> omega)))))
theorem buts1{w w':World}{f g:Nat}(h:Buts [f] w w'):Buts [f,g] w w':=h.mono (by simp)
theorem buts2{w w':World}{f g:Nat}(h:Buts [g] w w'):Buts [f,g] w w':=h.mono (by simp)
theorem notBad{T:Sx}{who wh:Int}{am:Nat}(hf:Tk.fitB wh T.k=true)(hw:0 < who)(hk:T.k≠6)(ha:¬ (wh=11/\3 < am)):¬ Bad T who wh am:=by
 unfold Bad
 rw [hf]
 simp only [Bool.true_eq_false,false_or]
 omega
theorem try_x{w:World}{p f g:Nat}{T:Sx}(h:KT w p f g T)(who wh ah:Int)(av am:Nat)(aw:Int)(hw:0<=who/\who<=4294967295)(hv:av < 4294967296) :
  Calls Tryz.prog 58 #[.pointer (some ⟨p,0,none⟩),.int .u32 who,.agg #[.int .u8 wh,.int .u32 ah,.int .u32 (av:Nat),.int .u32 (am:Nat),.int .i64 aw]] w (Ans w p f g (tA T who wh av am)):=by
 obtain⟨t,hh⟩:=h.hd
 have hk:=h.kind
 by_cases hno:who=0∨Tk.fitB wh T.k=false
 ·rw [tA_bad (by unfold Bad;rcases hno with h | h <;> simp [h])]
  exact(try_no hh (by omega) who wh ah av am aw hno).mono fun e w' ⟨he,hb⟩=>⟨he,h.below hb,Buts.of hb⟩
 have hw0:0 < who/\who<=4294967295:=by omega
 have hf:Tk.fitB wh T.k=true:=by
  cases e:Tk.fitB wh T.k
  ·exact absurd (Or.inr e) hno
  ·rfl
 have hq:=fit_of hf
 cases h with
 | @sem a b n h =>
  have hlo:Tk.fitB wh 1=true:=hf
  simp only at hq
  rw [tA_ok (notBad hf hw0.1 (by simp) (by omega))]
  obtain rfl | rfl:wh=3∨wh=4:=by omega
  ·refine(sm_take h who ah av am aw hw0).mono fun e w' ⟨he,h1,h2⟩=>⟨?_,?_,buts1 h2⟩
   ·simpa [tX] using he
   ·have:KT w' p f g ⟨1,_,_,n - 1,0,[],[]⟩:=.sem (by
     have e2:((n - 1:Nat):Int)=if(n:Int)=0 then(n:Int) else(n:Int) - 1:=by split <;> omega
     rw [e2];exact h1)
    simpa [tX] using this
  ·refine(sm_give h who ah av am aw hw0).mono fun e w' ⟨he,h1,h2⟩=>⟨?_,?_,buts1 h2⟩
   ·simpa [tX] using he
   ·have:KT w' p f g ⟨1,_,b,if(n:Int)=b then n else n+1,0,[],[]⟩:=.sem (by
     have e2:((if(n:Int)=b then n else n+1:Nat):Int)=if(n:Int)=b then(n:Int) else(n:Int)+1:=by split <;> simp
     rw [e2];exact h1)
    simpa [tX] using this
 | mtx h =>
  have hlo:Tk.fitB wh 2=true:=hf
  simp only at hq
  rw [tA_ok (notBad hf hw0.1 (by simp) (by omega))]
  obtain rfl | rfl:wh=5∨wh=6:=by omega
  ·refine(mx_lock h who ah av am aw hw0).mono fun e w' ⟨he,h1,h2⟩=>⟨by simpa [tX] using he,?_,buts1 h2⟩
   have:=KT.mtx (g:=g) h1
   simpa [tX] using this
  ·refine(mx_unlock h who ah av am aw hw0).mono fun e w' ⟨he,h1,h2⟩=>⟨by simpa [tX] using he,?_,buts1 h2⟩
   have:=KT.mtx (g:=g) h1
   simpa [tX] using this
 | row h =>
  have hlo:Tk.fitB wh 3=true:=hf
  simp only at hq
  rw [tA_ok (notBad hf hw0.1 (by simp) (by omega))]
  obtain rfl | rfl | rfl | rfl:wh=7∨wh=8∨wh=9∨wh=10:=by omega
  ·exact(rq_put h who ah av am aw hw0).mono fun e w' ⟨he,h1,h2⟩=>⟨by simpa [tX] using he,by simpa [tX] using KT.row h1,buts2 h2⟩
  ·exact(rq_push h who ah av am aw hw0).mono fun e w' ⟨he,h1,h2⟩=>⟨by simpa [tX] using he,by simpa [tX] using KT.row h1,buts2 h2⟩
  ·exact(rq_get h who ah av am aw hw0).mono fun e w' ⟨he,h1,h2⟩=>⟨by simpa [tX] using he,by simpa [tX] using KT.row h1,buts2 h2⟩
  ·exact(rq_peek h who ah av am aw hw0).mono fun e w' ⟨he,h2⟩=>⟨by simpa [tX] using he,by simpa [tX] using KT.row (h.below h2),Buts.of h2⟩
 | flg h =>
  have hlo:Tk.fitB wh 4=true:=hf
  simp only at hq
  by_cases hfar:wh=11/\3 < am
  ·rw [tA_bad (Or.inr (Or.inr (Or.inr hfar)))]
   obtain⟨rfl,ham⟩:=hfar
   exact(try_flg h.hh (by decide) who 11 ah av am aw (by omega) (by decide) (R:=fun w'=>Below w.heap.size w w') fun wx hb=>(flg_awfar av am (by omega) who ah aw).mono fun e w' ⟨he,h2⟩=>⟨he,hb.trans (h2.mono hb.size)⟩).mono fun e w' ⟨he,hb⟩=>⟨he,.flg (h.below hb),Buts.of hb⟩
  ·rw [tA_ok (notBad hf hw0.1 (by simp) hfar)]
   obtain rfl | rfl | rfl:wh=11∨wh=12∨wh=13:=by omega
   ·exact(try_flg h.hh (by decide) who 11 ah av am aw (by omega) (by decide) (R:=fun w'=>Fg w' p f _ (awF _ av (decide (am % 2=1)) (decide (2<=am)))/\Buts [f] w w') fun wx hb=>(flg_await (h.hp.below hb) h.hi hv am (by omega) who ah aw).mono fun e w' ⟨he,h2,h3⟩ =>
     ⟨he,⟨(h.hh.below hb).buts h3 (by simpa using h.ne),h2,awF_lt h.hi _ _⟩,(Buts.of hb).trans h3⟩).mono fun e w' ⟨he,h1,h2⟩=>⟨by simpa [tX] using he,by simpa [tX] using KT.flg h1,buts1 h2⟩
   ·exact(try_flg h.hh (by decide) who 12 ah av am aw (by omega) (by decide) (R:=fun w'=>Fg w' p f _ (_ ||| av)/\Buts [f] w w') fun wx hb=>(flg_raise (h.hp.below hb) h.hi hv who ah am aw).mono fun e w' ⟨he,h2,h3⟩ =>
     ⟨he,⟨(h.hh.below hb).buts h3 (by simpa using h.ne),h2,Nat.or_lt_two_pow (n:=32) h.hi hv⟩,(Buts.of hb).trans h3⟩).mono fun e w' ⟨he,h1,h2⟩=>⟨by simpa [tX] using he,by simpa [tX] using KT.flg h1,buts1 h2⟩
   ·exact(try_flg h.hh (by decide) who 13 ah av am aw (by omega) (by decide) (R:=fun w'=>Fg w' p f _ (Mk.bt _ av)/\Buts [f] w w') fun wx hb=>(flg_lower (h.hp.below hb) h.hi hv who ah am aw).mono fun e w' ⟨he,h2,h3⟩ =>
     ⟨he,⟨(h.hh.below hb).buts h3 (by simpa using h.ne),h2,Mk.bt_lt h.hi⟩,(Buts.of hb).trans h3⟩).mono fun e w' ⟨he,h1,h2⟩=>⟨by simpa [tX] using he,by simpa [tX] using KT.flg h1,buts1 h2⟩
 | pool h =>
  have hlo:Tk.fitB wh 5=true:=hf
  simp only at hq
  rw [tA_ok (notBad hf hw0.1 (by simp) (by omega))]
  obtain rfl | rfl:wh=14∨wh=15:=by omega
  ·exact(po_alloc h who ah av am aw hw0).mono fun e w' ⟨he,h1,h2⟩=>⟨by simpa [tX] using he,by simpa [tX] using KT.pool h1,buts2 h2⟩
  ·exact(po_free h av hv who ah am aw hw0).mono fun e w' ⟨he,h1,h2⟩=>⟨by simpa [tX] using he,by simpa [tX] using KT.pool h1,buts2 h2⟩
 | ala h =>
  have hlo:Tk.fitB wh 6=true:=hf
  rw [tA_bad (Or.inr (Or.inl rfl))]
  exact(try_ala h.hh (by decide) who wh ah av am aw (by omega) hlo (R:=fun w'=>Below w.heap.size w w') fun wx hb=>(ala_any who wh ah av am aw).mono fun e w' ⟨he,h2⟩=>⟨he,hb.trans (h2.mono hb.size)⟩).mono fun e w' ⟨he,hb⟩=>⟨he,.ala ⟨h.hh.below hb⟩,Buts.of hb⟩
theorem leave_x{w:World}{p f g:Nat}{T:Sx}(h:KT w p f g T)(who:Int)(hw:0<=who) :
  Calls Tryz.prog 104 #[.pointer (some ⟨p,0,none⟩),.int .u32 who] w fun e w'=>e=.returned (.bool (lB T who))/\KT w' p f g (lT T who)/\Buts [f,g] w w':=by
 obtain⟨t,hh⟩:=h.hd
 by_cases h0:who=0
 ·subst h0
  refine(leave_zero hh).mono fun e w' ⟨he,hb⟩=>?_
  subst hb
  exact⟨by simpa [lB] using he,by simpa [lT] using h,Buts.refl _ _⟩
 have hp:0 < who:=by omega
 have e0:(0:Int)≠who:=fun e=>h0 e.symm
 cases h with
 | sem h=>exact(leave_of h.hh who h0 (R:=fun w'=>w=w') (back_other who (Or.inl rfl))).mono fun e w' ⟨he,hb⟩=>by subst hb;exact⟨by simpa [lB,e0,Pl.cnt] using he,by simpa [lT,h0,e0,Pl.clr] using KT.sem h,Buts.refl _ _⟩
 | mtx h =>
  refine(mx_leave h who hp).mono fun e w' ⟨he,h1,h2⟩=>⟨by simpa [lB,h0,Pl.cnt] using he,?_,buts1 h2⟩
  have:=KT.mtx (g:=g) h1
  simpa [lT,h0,Pl.clr] using this
 | row h=>exact(leave_of h.hh who h0 (R:=fun w'=>w=w') (back_other who (Or.inr (Or.inl rfl)))).mono fun e w' ⟨he,hb⟩=>by subst hb;exact⟨by simpa [lB,e0,Pl.cnt] using he,by simpa [lT,h0,e0,Pl.clr] using KT.row h,Buts.refl _ _⟩
 | flg h=>exact(leave_of h.hh who h0 (R:=fun w'=>w=w') (back_other who (Or.inr (Or.inr (Or.inl rfl))))).mono fun e w' ⟨he,hb⟩=>by subst hb;exact⟨by simpa [lB,e0,Pl.cnt] using he,by simpa [lT,h0,e0,Pl.clr] using KT.flg h,Buts.refl _ _⟩
 | pool h=>exact(po_leave h who hp).mono fun e w' ⟨he,h1,h2⟩=>⟨by simpa [lB,h0,e0] using he,by simpa [lT,h0,e0] using KT.pool h1,buts2 h2⟩
 | ala h=>exact(leave_of h.hh who h0 (R:=fun w'=>w=w') (back_other who (Or.inr (Or.inr (Or.inr rfl))))).mono fun e w' ⟨he,hb⟩=>by subst hb;exact⟨by simpa [lB,e0,Pl.cnt] using he,by simpa [lT,h0,e0,Pl.clr] using KT.ala h,Buts.refl _ _⟩
end Go.Proofs.YtbbdndfibjdcfaaGreat.Ob
namespace Go.Proofs.YtbbdndfibjdcfaaGreat.Ob
open Go Go.RowKit
open Tk (above above_cell below_above wp_region_calm calm_call)
theorem see_two{w:World}{p f:Nat}{k a b:Int}{t:TypeId}(hh:Blk w p (hdc k a b t f) 187){c o:Int}{xs zs:List Int}
  (HP:∀ wx,Below w.heap.size w wx->Calls Tryz.prog 132 #[.iface t (.pointer (some ⟨f,0,none⟩))] wx fun e w'=>∃ s1 n1 c1 s2 n2 c2,e=.returned (.agg (seec 0 0 0 c o (.slice s1 n1 c1) (.slice s2 n2 c2)))/\Lst w' wx.heap.size (.slice s1 n1 c1) xs/\Lst w' wx.heap.size (.slice s2 n2 c2) zs/\Below wx.heap.size wx w'/\(s1=none∨s2=none)) :
  Calls Tryz.prog 89 #[.pointer (some ⟨p,0,none⟩)] w fun e w'=>∃ s1 n1 c1 s2 n2 c2,e=.returned (.agg (seec k a b c o (.slice s1 n1 c1) (.slice s2 n2 c2)))/\Lst w' w.heap.size (.slice s1 n1 c1) xs/\Lst w' w.heap.size (.slice s2 n2 c2) zs/\Below w.heap.size w w'/\(s1=none∨s2=none):=by
 have HB0:Hid (Below w.heap.size w (w.alloc (.cells (seec 0 0 0 0 0 (.slice none 0 0) (.slice none 0 0)) 53))):=alloc_below w _
 have H0:Hid (Blk (w.alloc (.cells (seec 0 0 0 0 0 (.slice none 0 0) (.slice none 0 0)) 53)) w.heap.size (seec 0 0 0 0 0 (.slice none 0 0) (.slice none 0 0)) 53):=alloc_at w _
 have HH:Hid (Blk w p (hdc k a b t f) 187):=hh
 have HT:=there_any (hh.below HB0.out)
 have hs:=alloc_size w (.cells (seec 0 0 0 0 0 (.slice none 0 0) (.slice none 0 0)) 53)
 have HC:=HP _ HB0.out
 rw [hs] at HC
 have c3:(w.alloc (.cells (seec 0 0 0 0 0 (.slice none 0 0) (.slice none 0 0)) 53)).cell? ⟨p,3,none⟩=some (.iface t (.pointer (some ⟨f,0,none⟩))):=by rw [(hh.below HB0.out).cell];rfl
 have HS:=(show Hid _ from hs)
 clear hh HP hs
 go_enter Tryz.func89,Tryz.ntmps89
 go_wp2_with (first
  |(go_at_call 99;refine HT.mono ?_;rintro e wx ⟨rfl,rfl⟩)
  |(go_at_call 132;refine HC.mono ?_;rintro e w1 ⟨s1,n1,c1,s2,n2,c2,he,hr,ho,hb,hz⟩;have HZ:Hid (s1=none∨s2=none):=hz;unfold seec at he;subst he;have HR:Hid (Lst w1 (w.heap.size+1) (.slice s1 n1 c1) xs):=hr;have HO:Hid (Lst w1 (w.heap.size+1) (.slice s2 n2 c2) zs):=ho;have HB:Hid (Below w.heap.size w w1):=HB0.out.trans (hb.mono (Nat.le_succ _));have H1:Hid (Blk w1 w.heap.size (seec 0 0 0 0 0 (.slice none 0 0) (.slice none 0 0)) 53):=H0.out.below (by rw [HS.out];exact hb);have k0:w1.cell? ⟨p,0,none⟩=some (.int .u8 k):=(by rw [(HH.out.below HB.out).cell];rfl);have k1:w1.cell? ⟨p,1,none⟩=some (.int .u32 a):=(by rw [(HH.out.below HB.out).cell];rfl);have k2:w1.cell? ⟨p,2,none⟩=some (.int .u32 b):=(by rw [(HH.out.below HB.out).cell];rfl);have hp1:=(HH.out.below HB.out).lt;have hl1:=H1.out.lt;clear hr ho hb HC c3 HT)
  |(refine wpList_store_row rfl _ _ _ rfl w.heap.size (seec k a b c o (.slice s1 n1 c1) (.slice s2 n2 c2)) rfl rfl 53 _ (H1.out.below (alloc_below w1 (.cells (seec k a b c o (.slice s1 n1 c1) (.slice s2 n2 c2)) 53))) (by kernel_rfl) rfl (by kernel_rfl) ?_)
  | fail)
 have b2:=alloc_below w1 (.cells (seec k a b c o (.slice s1 n1 c1) (.slice s2 n2 c2)) 53)
 refine bodyPost_ret (results_cell_row (g:=w.heap.size) rfl _ _ _ _ _ (d:=_) rfl ((H1.out.below b2).setRow _) Tryz.underlying53 rfl (by kernel_rfl)) rfl ?_
 refine⟨s1,n1,c1,s2,n2,c2,rfl,?_,?_,?_,HZ.out⟩
 ·exact((HR.out.below b2).but (setRow_buts _ _ _) (Nat.lt_succ_self _)).mono (Nat.le_succ _)
 ·exact((HO.out.below b2).but (setRow_buts _ _ _) (Nat.lt_succ_self _)).mono (Nat.le_succ _)
 ·have b3:=HB.out.trans (b2.mono HB.out.size)
  exact b3.trans (one_below (setRow_buts _ _ _) (Nat.le_refl _) b3.size)
theorem new_ala'{w:World}{a b:Int}(h:a≠0) :
  Calls Tryz.prog 72 #[.agg #[.int .u8 6,.int .u32 a,.int .u32 b]] w fun e w'=>∃ p f,e=.returned (.tuple #[.pointer (some ⟨p,0,none⟩),.int .i64 0])/\Al w' p f a b/\w.heap.size<=p/\w.heap.size<=f/\f < w'.heap.size/\Below w.heap.size w w':=by
 refine(new_of (fun f w'=>w.heap.size<=f/\f < w'.heap.size) fun wx hb=>(part_ala h).mono fun e w' ⟨f,he,h1,h2,h3⟩=>⟨f,he,⟨Nat.le_trans hb.size h1,h2.lt⟩,h3⟩).mono ?_
 rintro e w' ⟨f,w1,rfl,⟨h1,h2⟩,h3,rfl⟩
 have b2:=alloc_below w1 (.cells (hdc 6 a b 264 f) 187)
 exact⟨_,f,rfl,⟨alloc_at w1 _⟩,h3.size,h1,Nat.lt_of_lt_of_le h2 b2.size,h3.trans (b2.mono h3.size)⟩
def Seen2(T:Sx)(w:World)(e:Ending)(w':World):Prop:=∃ s1 n1 c1 s2 n2 c2,e=.returned (.agg (seec T.k T.a T.b (cX T) T.o (.slice s1 n1 c1) (.slice s2 n2 c2)))/\Lst w' w.heap.size (.slice s1 n1 c1) T.xs/\Lst w' w.heap.size (.slice s2 n2 c2) T.zs/\Below w.heap.size w w'/\(s1=none∨s2=none)
theorem see_x{w:World}{p f g:Nat}{T:Sx}(h:KT w p f g T):Calls Tryz.prog 89 #[.pointer (some ⟨p,0,none⟩)] w (Seen2 T w):=by
 cases h with
 | @sem a b n h =>
  have e0:cX ⟨1,a,b,n,0,[],[]⟩=(n:Int):=by simp [cX,Pl.cnt]
  unfold Seen2;rw [e0]
  exact see_two h.hh fun wx hb=>(seen_sem (h.hp.below hb)).mono fun e w' ⟨he,h2⟩=>⟨none,0,0,none,0,0,he,Lst.nil _ _,Lst.nil _ _,h2,Or.inl rfl⟩
 | @mtx o h =>
  have e0:cX ⟨2,0,0,0,o,[],[]⟩=0:=by simp [cX,Pl.cnt]
  unfold Seen2;rw [e0]
  exact see_two h.hh fun wx hb=>(seen_mut (h.hp.below hb)).mono fun e w' ⟨he,h2⟩=>⟨none,0,0,none,0,0,he,Lst.nil _ _,Lst.nil _ _,h2,Or.inl rfl⟩
 | @row m xs h =>
  have e0:cX ⟨3,(m:Nat),0,0,0,xs,[]⟩=0:=by simp [cX,Pl.cnt]
  unfold Seen2;rw [e0]
  exact see_two h.hh fun wx hb=>(seen_row (h.hp.below hb) (h.hq.below hb)).mono fun e w' ⟨z,he,h1,h2,h3⟩=>⟨_,_,_,none,0,0,he,Lst.row h2 h1 (by have:=h.hq.len;have:=h.hq.hi;omega),Lst.nil _ _,h3,Or.inr rfl⟩
 | @flg a n h =>
  have e0:cX ⟨4,a,0,n,0,[],[]⟩=(n:Int):=by simp [cX,Pl.cnt]
  unfold Seen2;rw [e0]
  exact see_two h.hh fun wx hb=>(seen_flg (h.hp.below hb)).mono fun e w' ⟨he,h2⟩=>⟨none,0,0,none,0,0,he,Lst.nil _ _,Lst.nil _ _,h2,Or.inl rfl⟩
 | @pool m b zs h =>
  have e0:cX ⟨5,(m:Nat),b,0,0,[],zs⟩=(Pl.cnt 0 zs:Nat):=by simp [cX]
  unfold Seen2;rw [e0]
  exact see_two h.hh fun wx hb=>(seen_pool (h.hp.below hb) (h.hq.below hb)).mono fun e w' ⟨z,c,he,h1,h2⟩=>⟨none,0,0,_,_,_,he,Lst.nil _ _,(by have hl:=h.hq.len;subst hl;exact h1),h2,Or.inl rfl⟩
 | @ala a b h =>
  have e0:cX ⟨6,a,b,0,0,[],[]⟩=0:=by simp [cX,Pl.cnt]
  unfold Seen2;rw [e0]
  exact see_two h.hh fun wx hb=>seen_ala.mono fun e w' ⟨he,h2⟩=>⟨none,0,0,none,0,0,he,Lst.nil _ _,Lst.nil _ _,h2,Or.inl rfl⟩
theorem new_x{w:World}{k a b:Int}(ha:0<=a/\a<=4294967295)(hb:0<=b/\b<=4294967295)(h:May k a b) :
  Calls Tryz.prog 72 #[.agg #[.int .u8 k,.int .u32 a,.int .u32 b]] w fun e w'=>∃ p f g,e=.returned (.tuple #[.pointer (some ⟨p,0,none⟩),.int .i64 0])/\KT w' p f g ⟨k,a,b,if k=1∨k=4 then a.toNat else 0,0,[],if k=5 then List.replicate a.toNat 0 else []⟩/\w.heap.size<=p/\w.heap.size<=f/\w.heap.size<=g/\(p < w'.heap.size/\f < w'.heap.size/\g < w'.heap.size)/\Below w.heap.size w w':=by
 obtain⟨n,rfl⟩:=Int.eq_ofNat_of_zero_le ha.1
 unfold May at h
 rcases h with⟨rfl,h⟩ |⟨rfl,h1,rfl⟩ |⟨rfl,h1,h2,rfl⟩ |⟨rfl,rfl⟩ |⟨rfl,h1,h2,h3⟩ |⟨rfl,h⟩
 ·exact(new_sem ⟨ha.1,h⟩).mono fun e w' ⟨p,f,he,h1,h2,h3,h4⟩=>⟨p,f,f,he,.sem (by simpa using h1),h2,h3,h3,⟨h1.hh.lt,h1.hp.lt,h1.hp.lt⟩,h4⟩
 ·obtain rfl:n=0:=by omega
  exact new_mut.mono fun e w' ⟨p,f,he,h1,h2,h3,h4⟩=>⟨p,f,f,he,.mtx h1,h2,h3,h3,⟨h1.hh.lt,h1.hp.lt,h1.hp.lt⟩,h4⟩
 ·exact(new_row n (by omega) (by omega)).mono fun e w' ⟨p,f,g,he,h1,h2,h3,h4,h5⟩=>⟨p,f,g,he,.row h1,h2,h3,h4,⟨h1.hh.lt,h1.hp.lt,h1.hq.lt⟩,h5⟩
 ·exact(new_flg n (by omega)).mono fun e w' ⟨p,f,he,h1,h2,h3,h4⟩=>⟨p,f,f,he,.flg (by simpa using h1),h2,h3,h3,⟨h1.hh.lt,h1.hp.lt,h1.hp.lt⟩,h4⟩
 ·exact(new_pool n (by omega) (by omega) h3).mono fun e w' ⟨p,f,g,he,h1,h2,h3,h4,h5⟩=>⟨p,f,g,he,.pool (by simpa using h1),h2,h3,h4,⟨h1.hh.lt,h1.hp.lt,h1.hq.lt⟩,h5⟩
 ·exact(new_ala' h).mono fun e w' ⟨p,f,he,h1,h2,h3,h3',h4⟩=>⟨p,f,f,he,.ala h1,h2,h3,h3,⟨h1.hh.lt,h3',h3'⟩,h4⟩
end Go.Proofs.YtbbdndfibjdcfaaGreat.Ob
namespace Go.Proofs.YtbbdndfibjdcfaaGreat.Ob.Tk
open Go Go.RowKit
section
variable {P:Program} {ops:Array Oper} {md:Region.Mode} {C:World->Prop} {Q:Exit->Act->World->Prop}
def wpAnyT(P:Program)(md:Region.Mode)(ops:Array Oper)(C:World->Prop)(T:Array Bool->Act->Prop):Nat->Array Bool->Act->Prop
 | 0,listed,a=>T listed a
 | fuel+1,listed,a=>Region.ready md ops listed≠[]/\∀ i∈Region.ready md ops listed,qOp P ops C i (wpAnyT P md ops C T fuel (listed.setIfInBounds i true)) a
theorem any_of_T{m:Nat}:∀ (fuel:Nat) (listed:Array Bool) (a:Act) (w:World),C w ->
  wpAnyT P md ops C (fun l a=>∀ w,C w->wpAny P md ops Q m l a w) fuel listed a->wpAny P md ops Q (m+fuel) listed a w
 | 0,_,_,w,hw,h=>h w hw
 | fuel+1,_,_,_,hw,h=>⟨fun h0=>absurd h0 h.1,fun i hi=>wpOp_of_qOp hw (fun a' w' hw' hk=>any_of_T fuel _ a' w' hw' hk) (h.2 i hi)⟩
def Cl(md:Region.Mode)(ops:Array Oper)(listed:Array Bool):Prop :=
 ∀ (j:Nat) oj,ops[j]?=some oj->listed.getD j false=true->∀ e∈oj.after,Region.binds md e=true->listed.getD e.on false=true
def reachB(md:Region.Mode)(ops:Array Oper):Nat->Nat->Nat->Bool
 | 0,_,_=>false
 | f+1,j,i=>match ops[j]? with
  | none=>false
  | some o=>o.after.any fun e=>Region.binds md e && (e.on == i || reachB md ops f e.on i)
theorem reach_listed{listed:Array Bool}(hcl:Cl md ops listed):∀ (f j i:Nat) (oj:Oper),ops[j]?=some oj->(∀ e∈oj.after,Region.binds md e=true->listed.getD e.on false=true)->reachB md ops f j i=true->listed.getD i false=true
 | 0,_,_,_,_,_,h=>by cases h
 | f+1,j,i,oj,hj,ha,h=>by
  simp only [reachB,hj] at h
  obtain⟨e,he,hb⟩:=Array.any_eq_true'.1 h
  simp only [Bool.and_eq_true,Bool.or_eq_true,beq_iff_eq] at hb
  have h1:=ha e he hb.1
  rcases hb.2 with h2 | h2
  ·rw [←h2];exact h1
  ·cases ho:ops[e.on]? with
   | none =>
    cases f with
    | zero=>cases h2
    | succ f=>simp [reachB,ho] at h2
   | some o=>exact reach_listed hcl f e.on i o ho (hcl e.on o ho h1) h2
theorem cl_set{listed:Array Bool}{j:Nat}(hcl:Cl md ops listed)(hj:j∈Region.ready md ops listed):Cl md ops (listed.setIfInBounds j true):=by
 intro k ok hk hl e he hb
 by_cases hjk:j=k
 ·subst hjk
  obtain⟨_,o,ho,hall⟩:=mem_ready.1 hj
  obtain rfl:o=ok:=Option.some.inj (ho.symm.trans hk)
  exact getD_set_true (hall e he hb)
 ·rw [getD_set_ne false hjk] at hl
  exact getD_set_true (hcl k ok hk hl e he hb)
theorem getD_swap{listed:Array Bool}{i:Nat}(h:listed.getD i true=false):listed.getD i false=false:=by
 rcases Nat.lt_or_ge i listed.size with h' | h'
 ·simp [h'] at h ⊢;exact h
 ·simp [Array.getElem?_eq_none h']
structure Left (md:Region.Mode) (ops:Array Oper) (k1:Nat) (listed:Array Bool) (R:List Nat):Prop where
 cl:Cl md ops listed
 nd:R.Nodup
 mem:∀ j,j∈R↔(j < k1/\listed.getD j true=false)
theorem Left.set{k1 j:Nat}{listed:Array Bool}{R:List Nat}(h:Left md ops k1 listed R)(hj:j∈Region.ready md ops listed):Left md ops k1 (listed.setIfInBounds j true) (R.erase j):=by
 refine⟨cl_set h.cl hj,h.nd.erase j,fun i=>?_⟩
 rw [h.nd.mem_erase_iff,h.mem]
 have h0:=(mem_ready.1 hj).1
 by_cases hij:i=j
 ·subst hij
  have:i < listed.size:=by
   rcases Nat.lt_or_ge i listed.size with h' | h'
   ·exact h'
   ·simp [Array.getElem?_eq_none h'] at h0
  simp [this]
 ·rw [getD_set_ne true (Ne.symm hij)]
  simp [hij]
def waitB(md:Region.Mode)(ops:Array Oper)(k1:Nat)(listed:Array Bool):Bool :=
 (List.range ops.size).all fun j=>decide (j < k1) ||(List.range k1).all fun i=>listed.getD i true || reachB md ops ops.size j i
theorem only_first{k1:Nat}{listed0 listed:Array Bool}{R:List Nat}(hB:waitB md ops k1 listed0=true)(h0:∀ i,listed.getD i true=false->listed0.getD i true=false)(h:Left md ops k1 listed R){i:Nat}(hi:i∈R){j:Nat}(hj:j∈Region.ready md ops listed):j∈R:=by
 obtain⟨hju,oj,hoj,hall⟩:=mem_ready.1 hj
 rw [h.mem]
 refine⟨?_,hju⟩
 rcases Nat.lt_or_ge j k1 with a | a
 ·exact a
 ·unfold waitB at hB
  rw [List.all_eq_true] at hB
  have h1:=hB j (List.mem_range.2 (Array.getElem?_eq_some_iff.1 hoj).1)
  have hik:=(h.mem i).1 hi
  rw [decide_eq_false (by omega),Bool.false_or,List.all_eq_true] at h1
  have h2:=h1 i (List.mem_range.2 hik.1)
  rw [h0 i hik.2,Bool.false_or] at h2
  have:=reach_listed h.cl _ j i oj hoj hall h2
  rw [getD_swap hik.2] at this
  cases this
theorem anyT_first{T:Array Bool->Act->Prop}{k1 i:Nat}{oi:Oper}{v:Value}{listed0:Array Bool}(hB:waitB md ops k1 listed0=true)(hi:ops[i]?=some oi)(hsel:∀ (j:Nat) (o:Oper) cs b,ops[j]?=some o->o.op≠.select cs b) :
  ∀ (fuel:Nat) (listed:Array Bool) (a:Act) (R:List Nat),(∀ i,listed.getD i true=false->listed0.getD i true=false)->Left md ops k1 listed R->R.length=fuel+1->i∈R ->
   (∀ j oj,ops[j]?=some oj->j≠i->listed.getD j true=false->(∀ e∈oj.after,Region.binds md e=true->e.on≠i)->oi.apart ops oj=true) ->
   i∈Region.ready md ops listed->YieldsIn P ops C oi v a ->
   wpAnyT P md ops C T fuel (listed.setIfInBounds i true) (a.put oi.dst v)->wpAnyT P md ops C T (fuel+1) listed a:=by
 intro fuel
 induction fuel with
 | zero =>
  intro listed a R h0 hL hR hiR _ hr hy H
  refine⟨fun h=>(by rw [h] at hr;cases hr),fun j hj=>?_⟩
  have hjR:=only_first hB h0 hL hiR hj
  have hji:j=i:=by
   match R,hR with
   | [x],_=>rw [List.mem_singleton] at hjR hiR;rw [hjR,hiR]
  subst hji
  exact hy.qOp hi H
 | succ fuel ih =>
  intro listed a R h0 hL hR hiR hfree hr hy H
  refine⟨fun h=>(by rw [h] at hr;cases hr),fun j hj=>?_⟩
  by_cases hji:j=i
  ·subst hji;exact hy.qOp hi H
  ·have hjR:=only_first hB h0 hL hiR hj
   have h1:=H.2 j (ready_mono hj hji)
   obtain⟨hjun,oj,hoj,hall⟩:=mem_ready.1 hj
   have hnot:∀ e∈oj.after,Region.binds md e=true->e.on≠i:=fun e he hb heq=>by
    have h1:=hall e he hb
    have h0:=(mem_ready.1 hr).1
    rw [heq] at h1
    rcases Nat.lt_or_ge i listed.size with h' | h'
    ·simp [h'] at h0 h1;rw [h0] at h1;cases h1
    ·simp [Array.getElem?_eq_none h'] at h1
   have h2:=qOp_put hoj (hfree j oj hoj hji hjun hnot) (fun cs b=>hsel i oi cs b hi) (fun cs b=>hsel j oj cs b hoj) hy h1
   have hfree':∀ k ok,ops[k]?=some ok->k≠i->(listed.setIfInBounds j true).getD k true=false ->
     (∀ e∈ok.after,Region.binds md e=true->e.on≠i)->oi.apart ops ok=true:=fun k ok hk hki hun hno=>by
    refine hfree k ok hk hki ?_ hno
    by_cases hjk:j=k
    ·subst hjk;exact hjun
    ·rw [getD_set_ne true hjk] at hun;exact hun
   have h0':∀ k,(listed.setIfInBounds j true).getD k true=false->listed0.getD k true=false:=fun k hk=>by
    refine h0 k ?_
    by_cases hjk:j=k
    ·subst hjk;exact hjun
    ·rw [getD_set_ne true hjk] at hk;exact hk
   refine qOp_mono (fun a' h3=>ih (listed.setIfInBounds j true) a' (R.erase j) h0' (hL.set hj) (by rw [List.length_erase_of_mem hjR,hR];rfl) (by rw [hL.nd.mem_erase_iff];exact⟨Ne.symm hji,hiR⟩) hfree' (ready_mono hr (Ne.symm hji)) h3.1 ?_) h2
   rw [Array.setIfInBounds_comm _ _ hji]
   exact h3.2
def preFrom(md:Region.Mode)(ops:Array Oper):Nat->Nat->Array Bool->Bool
 | 0,_,_=>true
 | fuel+1,k,listed=>(Region.ready md ops listed).contains k && Region.free md ops listed k && preFrom md ops fuel (k+1) (listed.setIfInBounds k true)
def listedAfter:Nat->Nat->Array Bool->Array Bool
 | 0,_,listed=>listed
 | n+1,k,listed=>listedAfter n (k+1) (listed.setIfInBounds k true)
theorem anyT_lex{T:Array Bool->Act->Prop}{k1:Nat}{listed0:Array Bool}(hB:waitB md ops k1 listed0=true)(hs:Region.noSelect ops=true):∀ (l:List Oper) (k:Nat) (listed:Array Bool) (a:Act) (R:List Nat),(∀ j,j < l.length->l[j]?=ops[k+j]?) ->
  (∀ i,listed.getD i true=false->listed0.getD i true=false)->Left md ops k1 listed R->R.length=l.length->k+l.length=k1 ->
  preFrom md ops l.length k listed=true->wpQuiet P ops C (fun a'=>T (listedAfter l.length k listed) a') l a->wpAnyT P md ops C T l.length listed a
 | [],_,_,_,_,_,_,_,_,_,_,h=>h
 | o :: l,k,listed,a,R,hl,h0,hL,hR,hk,hP,h=>by
  have hk0:ops[k]?=some o:=by simpa using (hl 0 (by simp)).symm
  simp only [List.length_cons,preFrom,Bool.and_eq_true] at hP
  obtain⟨⟨hr,hf⟩,hP'⟩:=hP
  have hr':k∈Region.ready md ops listed:=by simpa using hr
  have hst:qOp P ops C k (wpQuiet P ops C (fun a'=>T (listedAfter (l.length+1) k listed) a') l) a:=by unfold qOp;simp only [hk0];exact h
  obtain⟨v,hy,hK⟩:=yieldsIn_of_qOp hk0 hst
  have hkR:k∈R:=by rw [hL.mem];simp only [List.length_cons] at hk;exact⟨by omega,(mem_ready.1 hr').1⟩
  have hun:=(mem_ready.1 hr').1
  refine anyT_first hB hk0 (Region.noSelect_spec hs) l.length listed a R h0 hL hR hkR (Region.free_spec hk0 hf) hr' hy ?_
  refine anyT_lex hB hs l (k+1) _ _ (R.erase k) (fun j hj=>?_) (fun i hi=>h0 i ?_) (hL.set hr') (by rw [List.length_erase_of_mem hkR,hR];rfl) (by simp only [List.length_cons] at hk;omega) hP' hK
  ·have:=hl (j+1) (by simp;omega)
   rw [show k+1+j=k+(j+1) by omega]
   simpa using this
  ·by_cases hki:k=i
   ·subst hki;exact hun
   ·rw [getD_set_ne true hki] at hi;exact hi
def lineFrom(md:Region.Mode)(ops:Array Oper):Nat->Nat->Array Bool->Bool
 | 0,_,listed=>(Region.ready md ops listed).isEmpty
 | fuel+1,k,listed=>(Region.ready md ops listed == [k]) && lineFrom md ops fuel (k+1) (listed.setIfInBounds k true)
theorem any_of_line:∀ (l:List Oper) (k:Nat) (listed:Array Bool) (a:Act) (w:World),(∀ j,j < l.length->l[j]?=ops[k+j]?)->lineFrom md ops l.length k listed=true->wpList P ops Q l a w->wpAny P md ops Q l.length listed a w
 | [],_,_,_,_,_,hB,h=>⟨by simpa [lineFrom] using hB,h⟩
 | o :: l,k,listed,a,w,hl,hB,h=>by
  have hk0:ops[k]?=some o:=by simpa using (hl 0 (by simp)).symm
  simp only [List.length_cons,lineFrom,Bool.and_eq_true,beq_iff_eq] at hB
  obtain⟨hr,hB'⟩:=hB
  refine⟨fun h0=>(by rw [hr] at h0;cases h0),fun i hi=>?_⟩
  rw [hr,List.mem_singleton] at hi
  subst hi
  have ih:∀ a w,wpList P ops Q l a w->wpAny P md ops Q l.length (listed.setIfInBounds i true) a w:=fun a w h=>any_of_line l (i+1) _ a w (fun j hj=>by
   have:=hl (j+1) (by simp;omega)
   rw [show i+1+j=i+(j+1) by omega]
   simpa using this) hB' h
  unfold wpOp
  simp only [hk0]
  unfold wpList at h
  split
  ·rename_i hw
   rw [if_pos hw] at h
   exact h.imp (Oper.wp_mono ih) id
  ·rename_i hw
   rw [if_neg hw] at h
   exact ih _ _ h
end
def thenB(ops:Array Oper)(k n m:Nat)(listed:Array Bool):Bool :=
 Region.noSelect ops && waitB .any ops (k+n) listed && preFrom .any ops n k listed && lineFrom .any ops m (k+n) (listedAfter n k listed) && (listed.size == ops.size) &&
 (List.range ops.size).all (fun j=>listed.getD j false == decide (j < k)) && (List.range k).all (fun j=>match ops[j]? with | none=>false | some o=>o.after.all fun e=>decide (e.on < k))
theorem left0{ops:Array Oper}{k n m:Nat}{listed:Array Bool}(hB:thenB ops k n m listed=true)(hz:k+n<=ops.size):Left .any ops (k+n) listed (List.range' k n):=by
 simp only [thenB,Bool.and_eq_true,beq_iff_eq,List.all_eq_true,List.mem_range] at hB
 obtain⟨⟨⟨_,hsz⟩,hall⟩,hdn⟩:=hB
 have at_:∀ j,listed.getD j false=decide (j < k):=fun j=>by
  rcases Nat.lt_or_ge j ops.size with a | a
  ·exact hall j a
  ·rw [decide_eq_false (by omega)]
   simp [Array.getElem?_eq_none (show listed.size<=j by omega)]
 refine⟨fun j oj hj hl e he _=>?_,?_,fun j=>?_⟩
 ·rw [at_,decide_eq_true_eq] at hl
  have:=hdn j hl
  simp only [hj,Array.all_eq_true_iff_forall_mem,decide_eq_true_eq] at this
  rw [at_,decide_eq_true (this e he)]
 ·exact List.nodup_range'
 ·rw [List.mem_range'_1]
  constructor
  ·rintro ⟨h0,hi⟩
   refine⟨hi,?_⟩
   have h1:=at_ j
   rw [decide_eq_false (by omega)] at h1
   have hlt:j < listed.size:=by omega
   simp [hlt] at h1 ⊢
   exact h1
  ·rintro ⟨h1,h2⟩
   have h3:=getD_swap h2
   rw [at_,decide_eq_false_iff_not] at h3
   exact⟨by omega,h1⟩
theorem any_calm_then{P:Program}{Q:Exit→Act→World→Prop}{a:Act}{w W:World}{l:List Oper}{listed:Array Bool}(k n m:Nat)(hl:l.length=k+n+m)(hB:thenB l.toArray k n m listed=true)(hW:Below w.heap.size w W)
    (h:wpQuiet P l.toArray (fun w'=>∃ g,w'=above w g) (fun a'=>∀ w',Below w.heap.size w w'→wpList P l.toArray Q (l.drop (k+n)) a' w') ((l.drop k).take n) a):wpAny P .any l.toArray Q (m+n) listed a W:=by
  have hB':=hB
  simp only [thenB,Bool.and_eq_true] at hB'
  obtain⟨⟨⟨⟨⟨⟨hs,hw⟩,hp⟩,hln⟩,_⟩,_⟩,_⟩:=hB'
  have hlen:((l.drop k).take n).length=n:=by rw [List.length_take,List.length_drop];omega
  refine any_of_T (C:=fun w'=>∃ g,w'=above w g) n listed a W ⟨W,(above_of hW).symm⟩ ?_
  have:=anyT_lex (P:=P) (C:=fun w'=>∃ g,w'=above w g) (T:=fun li a'=>∀ w',(∃ g,w'=above w g)→wpAny P .any l.toArray Q m li a' w') (k1:=k+n) (listed0:=listed) hw hs ((l.drop k).take n) k listed a (List.range' k n)
    (fun j hj=>by rw [hlen] at hj;rw [List.getElem?_take,if_pos hj,List.getElem?_drop];simp) (fun i hi=>hi) (left0 hB (by simp;omega)) (by simp [hlen]) (by rw [hlen]) (by rw [hlen];exact hp) ?_
  · rw [hlen] at this;exact this
  · have mono : ∀ (l' : List Oper) (a' : Act), wpQuiet P l.toArray (fun w' => ∃ g, w' = above w g) (fun a' => ∀ w', Below w.heap.size w w' → wpList P l.toArray Q (l.drop (k + n)) a' w') l' a' →
        wpQuiet P l.toArray (fun w'=>∃ g,w'=above w g) (fun a'=>∀ w',(∃ g,w'=above w g)→wpAny P .any l.toArray Q m (listedAfter ((l.drop k).take n).length k listed) a' w') l' a':=by
      intro l'
      induction l' with
      | nil =>
        intro a' h w' ⟨g,hg⟩
        subst hg
        have h1:=h _ (below_above w g)
        have hdl:(l.drop (k+n)).length=m:=by rw [List.length_drop];omega
        have h2:=any_of_line (md:=.any) (l.drop (k+n)) (k+n) (listedAfter n k listed) a' _ (fun j hj=>by rw [List.getElem?_drop];simp) (by rw [hdl];exact hln) h1
        rw [hdl] at h2
        rw [hlen]
        exact h2
      | cons o rest ih =>
        intro a' h
        simp only [wpQuiet] at h ⊢
        split at h
        · rename_i hw;rw [if_pos hw];exact Oper.quiet_mono ih h
        · rename_i hw;rw [if_neg hw];exact ih _ h
    exact mono _ _ h
theorem wp_calm_then{P:Program}{id:Nat}{Q:Exit->Act->World->Prop}{a:Act}{w:World}{l:List Oper}(n m:Nat)(hm:P.follows .mixedOrders=true)(hl:l.length=n+m)(hB:thenB l.toArray 0 n m (Array.replicate (n+m) false)=true)
  (h:wpQuiet P l.toArray (fun w'=>∃ g,w'=above w g) (fun a'=>∀ w',Below w.heap.size w w'->wpList P l.toArray Q (l.drop n) a' w') (l.take n) a):(Code.region id l.toArray true).wp P Q a w:=by
 refine wp_region_any hm ?_
 have:=any_calm_then (P:=P) (Q:=Q) (a:=a) (w:=w) (W:=w.drew) (l:=l) (listed:=Array.replicate (n+m) false) 0 n m (by omega) hB (Below.refl _ _).drew (by simpa using h)
 have e:l.toArray.size=m+n:=by simp;omega
 rw [e]
 rw [Nat.add_comm n m] at this
 exact this
end Go.Proofs.YtbbdndfibjdcfaaGreat.Ob.Tk
