import Derived.Test.YtgebghkcikmfaaaGreatDoorQP23GtFn
import Derived.Test.YtgebghkcikmfaaaGreatDoorQP39RwOkI
import Derived.Deep.MidRow
set_option maxHeartbeats 3200000
set_option maxRecDepth 100000
namespace Go.Proofs.YtgebghkcikmfaaaGreatDoor
open Go.RowKit
theorem implSteerOk (p:Sr) (w:World) :
 Calls Tryz.prog 157 #[p.val] w fun e w'=>e = .returned (.bool p.ok)∧Bel w w':=by
 have Hok:Hid (p.ok=(inB 1 1000 p.target&&(inB 0 100000 p.old&&inB 0 1048576 p.prob))):=rfl
 obtain ⟨v0,v1,v2⟩:=p
 generalize Sr.ok _=ok at Hok ⊢
 simp only [Sr.val] at Hok ⊢
 have A1:=fun B w h=>implFromOne 1000 v0 B w h
 have A2:=fun B w h=>implUpTo1 100000 v1 w B h
 have A3:=fun B w h=>implUpTo1 1048576 v2 w B h
 generalize inB 1 1000 v0=b1 at A1 Hok
 generalize inB 0 100000 v1=b2 at A2 Hok
 generalize inB 0 1048576 v2=b3 at A3 Hok
 have A1':Hid _:=A1
 have A2':Hid _:=A2
 have A3':Hid _:=A3
 clear A1 A2 A3
 go_enter Tryz.func157,Tryz.ntmps157
 go_wp2_with fail
 refine (A1'.out _ _ (by simp)).mono ?_
 rintro e w' ⟨rfl,rfl⟩
 cases b1
 ·go_wp2
  go_ret
  exact ⟨ret_bool (by rw [Hok.out];rfl),by repeat (first|exact Below.refl _ _|refine Below.alloc ?_ (by simp<;>omega) _)⟩
 go_wp2_with fail
 refine (A2'.out _ _ (by simp)).mono ?_
 rintro e w' ⟨rfl,rfl⟩
 cases b2
 ·go_wp2
  go_ret
  exact ⟨ret_bool (by rw [Hok.out];rfl),by repeat (first|exact Below.refl _ _|refine Below.alloc ?_ (by simp<;>omega) _)⟩
 go_wp2_with fail
 refine (A3'.out _ _ (by simp)).mono ?_
 rintro e w' ⟨rfl,rfl⟩
 go_wp2
 go_ret
 exact ⟨ret_bool (by rw [Hok.out];rfl),by repeat (first|exact Below.refl _ _|refine Below.alloc ?_ (by simp<;>omega) _)⟩
def dvCells:Array Value:=#[.bool true,.bool true,.bool true,.bool true,.int .i64 2048,.bool false,.bool true,.bool true,.bool true,.int .i64 512,.bool false,.bool false,.bool true,.bool true,.int .i64 128,.bool false,.bool false,.bool false,.bool true,.int .i64 32]
def Dv (w:World):Prop:=∃ t,Boxed w 2 dvCells t
theorem Dv.below {w w':World} (h:Dv w) {b:Nat} (hb:2<b) (g:Below b w w'):Dv w':=by
 obtain ⟨t,h⟩:=h
 exact ⟨t,h.below hb g⟩
theorem Dv.under {w:World} (h:Dv w):2<w.heap.size:=by
 obtain ⟨t,h⟩:=h
 exact h.under
theorem Dv.on {w w':World} (h:Dv w) (g:Bel w w'):Dv w':=h.below h.under g
theorem bwOnes (b0 b1 b2 b3:Bool):(#[Value.bool b0,Value.bool b1,Value.bool b2,Value.bool b3]:Array Value).all (·.oneCell')=true:=by simp [Value.oneCell']
theorem dvOnes (b0 b1 b2 b3:Bool) (n:Int):(#[Value.bool b0,Value.bool b1,Value.bool b2,Value.bool b3,Value.int .i64 n]:Array Value).all (·.oneCell')=true:=by simp [Value.oneCell']
theorem implBelowOf (x:Int) (w:World) :
 Calls Tryz.prog 271 #[.int .i64 x] w fun e w'=>e = .returned (.agg #[.bool (decide (x<1048)),.bool (decide (x<10485)),.bool (decide (x<104857)),.bool (decide (x<262144))])∧Bel w w':=by
 generalize hb0:decide (x<1048)=b0
 generalize hb1:decide (x<10485)=b1
 generalize hb2:decide (x<104857)=b2
 generalize hb3:decide (x<262144)=b3
 have X:Hid (Boxed (w.alloc (.cells #[.bool false,.bool false,.bool false,.bool false] 296)) w.heap.size #[.bool false,.bool false,.bool false,.bool false] 296):=Boxed.new _ _ _
 go_enter Tryz.func271,Tryz.ntmps271
 go_wp2_with (refine wpList_store_row rfl 296 (.tmp 2) (.tmp 11) rfl w.heap.size #[.bool b0,.bool b1,.bool b2,.bool b3] rfl rfl _ _ X.out (by kernel_rfl) rfl (bwOnes _ _ _ _) ?_)
 exact bodyPost_ret (results_cell_row Tryz.results271 _ _ w.heap.size _ _ _ _ rfl (setRow_heap _ w.heap.size _ _ _ _ X.out) Tryz.underlying296 rfl (by kernel_rfl)) rfl ⟨rfl,below_setRow ((Below.refl _ _).alloc nlr _) nlr _⟩
structure DvL (w W:World) (S:Nat) (b0 b1 b2 b3:Bool) (wr:World):Prop where
 bel:Below w.heap.size w wr
 box:Boxed wr S #[.bool b0,.bool b1,.bool b2,.bool b3] 296
theorem DvL.grow {w W:World} {S:Nat} {b0 b1 b2 b3:Bool} {wr:World} (h:DvL w W S b0 b1 b2 b3 wr) (cs cs':Array Value) (t:TypeId):DvL w W S b0 b1 b2 b3 ((wr.alloc (.cells cs t)).setRow wr.heap.size cs') :=
 ⟨below_setRow (h.bel.alloc h.bel.size _) h.bel.size _,(setRow_other _ _ _ _ (by have:=h.box.under;omega)).trans (h.box.more _)⟩
theorem wpList_val {P:Program} {ops:Array Oper} {rest:List Oper} {o:Oper} {a:Act} {w:World} {Q:Exit→Act→World→Prop} (hg:o.guard=none) (dst:Option Tmp) (hdst:o.dst=dst)
 (v:Value) (hrun:(execOp a.eval o).run P w = .ok (.value v) w) (h:wpList P ops Q rest (a.put dst v) w):wpList P ops Q (o :: rest) a w:=by
 subst hdst
 refine wpList_plain hg fun K hK=>?_
 unfold Oper.wp
 rw [hrun,Oper.upon_value]
 exact hK _ _ h
theorem dvRange {w:World} {B:Nat} {b0 b1 b2 b3:Bool} {n:Int} {t:TypeId} (h:Boxed w B (dq b0 b1 b2 b3 n) t):w.rangeAt B 0 [.bool b0,.bool b1,.bool b2,.bool b3]:=by
 intro j v hv
 rw [Nat.zero_add]
 refine h.cell j ?_
 match j,hv with
 |0,hv=>simpa using hv
 |1,hv=>simpa using hv
 |2,hv=>simpa using hv
 |3,hv=>simpa using hv
 |j+4,hv=>simp at hv
theorem implDivisorOf (x:Int) (w:World) (hD:Dv w) :
 Calls Tryz.prog 231 #[.int .i64 x] w fun e w'=>e = .returned (.int .i64 (byOf x))∧Below w.heap.size w w':=by
 have C:=fun w=>implBelowOf x w
 have HB:Hid (byOf x=if x<1048 then 2048 else if x<10485 then 512 else if x<104857 then 128 else if x<262144 then 32 else 1):=rfl
 generalize byOf x=B at HB ⊢
 have main:(B=2048∧decide (x<1048)=true∧decide (x<10485)=true∧decide (x<104857)=true∧decide (x<262144)=true)∨(B=512∧decide (x<1048)=false∧decide (x<10485)=true∧decide (x<104857)=true∧decide (x<262144)=true)∨(B=128∧decide (x<1048)=false∧decide (x<10485)=false∧decide (x<104857)=true∧decide (x<262144)=true)∨(B=32∧decide (x<1048)=false∧decide (x<10485)=false∧decide (x<104857)=false∧decide (x<262144)=true)∨(B=1∧decide (x<1048)=false∧decide (x<10485)=false∧decide (x<104857)=false∧decide (x<262144)=false):=by
  have h:=HB.out
  simp only [decide_eq_true_eq,decide_eq_false_iff_not]
  rw [h]
  split
  ·omega
  split
  ·omega
  split
  ·omega
  split<;>omega
 generalize decide (x<1048)=b0 at C main
 generalize decide (x<10485)=b1 at C main
 generalize decide (x<104857)=b2 at C main
 generalize decide (x<262144)=b3 at C main
 clear HB
 have C':Hid _:=C
 have HD:Hid (Dv w):=hD
 clear C hD
 rcases main with ⟨rfl,rfl,rfl,rfl,rfl⟩|⟨rfl,rfl,rfl,rfl,rfl⟩|⟨rfl,rfl,rfl,rfl,rfl⟩|⟨rfl,rfl,rfl,rfl,rfl⟩|⟨rfl,rfl,rfl,rfl,rfl⟩
 ·go_enter Tryz.func231,Tryz.ntmps231
  go_wp2_with fail
  refine (C'.out _).mono ?_
  rintro e w1 ⟨rfl,q⟩
  have Z:Hid (Boxed (w1.alloc (.cells #[.bool false,.bool false,.bool false,.bool false] 296)) w1.heap.size #[.bool false,.bool false,.bool false,.bool false] 296):=Boxed.new _ _ _
  have L:Hid (DvL w w1 w1.heap.size true true true true ((w1.alloc (.cells #[.bool false,.bool false,.bool false,.bool false] 296)).setRow w1.heap.size #[.bool true,.bool true,.bool true,.bool true])):=⟨below_setRow (q.alloc q.size _) q.size _,setRow_heap _ _ _ _ _ _ Z.out⟩
  obtain ⟨t,hT⟩:=HD.out.on L.out.bel
  have HT:Hid (Boxed ((w1.alloc (.cells #[.bool false,.bool false,.bool false,.bool false] 296)).setRow w1.heap.size #[.bool true,.bool true,.bool true,.bool true]) 2 dvCells t):=hT
  clear hT q HD
  simp only [dvCells] at HT
  go_wp2_with (first|(refine wpList_store_row rfl 296 (.tmp 3) (.tmp 7) rfl w1.heap.size #[.bool true,.bool true,.bool true,.bool true] rfl rfl _ _ Z.out (by kernel_rfl) rfl (bwOnes _ _ _ _) ?_)|(refine wpList_load_row rfl 300 (.global 2) rfl 2 rfl _ _ _ _ HT.out Tryz.underlying300 rfl (by kernel_rfl) ?_))
  clear Z HT
  generalize w1.heap.size=S at L ⊢
  generalize ((w1.alloc (.cells #[.bool false,.bool false,.bool false,.bool false] 296)).setRow S #[.bool true,.bool true,.bool true,.bool true])=W at L ⊢
  go_loopw [9] (fun i wr=>∃ z:Int,(z=0)∧i = .int .i64 z∧Hid (DvL w w1 S true true true true wr)) (fun i _=>4-(intOf i).toNat)
  case atStart=>exact ⟨0,by simp,rfl,L.out⟩
  case round =>
   obtain ⟨z,hz,rfl,HL⟩:=hrel
   clear L
   subst hz
   ·have N:Hid (Boxed (wr.alloc (.cells (dq false false false false 0) 299)) wr.heap.size (dq false false false false 0) 299):=Boxed.new _ _ _
    have V:Hid (DvL w w1 S true true true true ((wr.alloc (.cells (dq false false false false 0) 299)).setRow wr.heap.size (dq true true true true 2048))∧Boxed ((wr.alloc (.cells (dq false false false false 0) 299)).setRow wr.heap.size (dq true true true true 2048)) wr.heap.size (dq true true true true 2048) 299):=⟨HL.out.grow _ _ _,setRow_heap _ _ _ _ _ _ N.out⟩
    have c4:(((wr.alloc (.cells (dq false false false false 0) 299)).setRow wr.heap.size (dq true true true true 2048))).cell? ⟨wr.heap.size,4,none⟩=some (.int .i64 2048):=V.out.2.cell 4 rfl
    go_wp2_with (first|(refine wpList_val rfl (some 11) rfl (.agg (dq true true true true 2048)) (by kernel_rfl) ?_)|(refine wpList_val rfl (some 15) rfl (.bool true) (by kernel_rfl) ?_)|(refine wpList_store_row rfl 299 (.tmp 5) (.tmp 11) rfl wr.heap.size (dq true true true true 2048) rfl rfl _ _ N.out (by kernel_rfl) rfl (dvOnes _ _ _ _ _) ?_)|(refine wpList_load_mid rfl 296 (.tmp 12) rfl wr.heap.size 0 rfl [Value.bool true,Value.bool true,Value.bool true,Value.bool true] _ (dvRange V.out.2) Tryz.underlying296 rfl (by kernel_rfl) ?_)|(refine wpList_load_row rfl 296 (.tmp 3) rfl S rfl _ _ _ _ V.out.1.box Tryz.underlying296 rfl (by kernel_rfl) ?_))
    go_ret
    exact ⟨rfl,V.out.1.bel⟩
 ·go_enter Tryz.func231,Tryz.ntmps231
  go_wp2_with fail
  refine (C'.out _).mono ?_
  rintro e w1 ⟨rfl,q⟩
  have Z:Hid (Boxed (w1.alloc (.cells #[.bool false,.bool false,.bool false,.bool false] 296)) w1.heap.size #[.bool false,.bool false,.bool false,.bool false] 296):=Boxed.new _ _ _
  have L:Hid (DvL w w1 w1.heap.size false true true true ((w1.alloc (.cells #[.bool false,.bool false,.bool false,.bool false] 296)).setRow w1.heap.size #[.bool false,.bool true,.bool true,.bool true])):=⟨below_setRow (q.alloc q.size _) q.size _,setRow_heap _ _ _ _ _ _ Z.out⟩
  obtain ⟨t,hT⟩:=HD.out.on L.out.bel
  have HT:Hid (Boxed ((w1.alloc (.cells #[.bool false,.bool false,.bool false,.bool false] 296)).setRow w1.heap.size #[.bool false,.bool true,.bool true,.bool true]) 2 dvCells t):=hT
  clear hT q HD
  simp only [dvCells] at HT
  go_wp2_with (first|(refine wpList_store_row rfl 296 (.tmp 3) (.tmp 7) rfl w1.heap.size #[.bool false,.bool true,.bool true,.bool true] rfl rfl _ _ Z.out (by kernel_rfl) rfl (bwOnes _ _ _ _) ?_)|(refine wpList_load_row rfl 300 (.global 2) rfl 2 rfl _ _ _ _ HT.out Tryz.underlying300 rfl (by kernel_rfl) ?_))
  clear Z HT
  generalize w1.heap.size=S at L ⊢
  generalize ((w1.alloc (.cells #[.bool false,.bool false,.bool false,.bool false] 296)).setRow S #[.bool false,.bool true,.bool true,.bool true])=W at L ⊢
  go_loopw [9] (fun i wr=>∃ z:Int,(z=0∨z=1)∧i = .int .i64 z∧Hid (DvL w w1 S false true true true wr)) (fun i _=>4-(intOf i).toNat)
  case atStart=>exact ⟨0,by simp,rfl,L.out⟩
  case round =>
   obtain ⟨z,hz,rfl,HL⟩:=hrel
   clear L
   rcases hz with rfl|rfl
   ·have N:Hid (Boxed (wr.alloc (.cells (dq false false false false 0) 299)) wr.heap.size (dq false false false false 0) 299):=Boxed.new _ _ _
    have V:Hid (DvL w w1 S false true true true ((wr.alloc (.cells (dq false false false false 0) 299)).setRow wr.heap.size (dq true true true true 2048))∧Boxed ((wr.alloc (.cells (dq false false false false 0) 299)).setRow wr.heap.size (dq true true true true 2048)) wr.heap.size (dq true true true true 2048) 299):=⟨HL.out.grow _ _ _,setRow_heap _ _ _ _ _ _ N.out⟩
    have c4:(((wr.alloc (.cells (dq false false false false 0) 299)).setRow wr.heap.size (dq true true true true 2048))).cell? ⟨wr.heap.size,4,none⟩=some (.int .i64 2048):=V.out.2.cell 4 rfl
    go_wp2_with (first|(refine wpList_val rfl (some 11) rfl (.agg (dq true true true true 2048)) (by kernel_rfl) ?_)|(refine wpList_val rfl (some 15) rfl (.bool false) (by kernel_rfl) ?_)|(refine wpList_store_row rfl 299 (.tmp 5) (.tmp 11) rfl wr.heap.size (dq true true true true 2048) rfl rfl _ _ N.out (by kernel_rfl) rfl (dvOnes _ _ _ _ _) ?_)|(refine wpList_load_mid rfl 296 (.tmp 12) rfl wr.heap.size 0 rfl [Value.bool true,Value.bool true,Value.bool true,Value.bool true] _ (dvRange V.out.2) Tryz.underlying296 rfl (by kernel_rfl) ?_)|(refine wpList_load_row rfl 296 (.tmp 3) rfl S rfl _ _ _ _ V.out.1.box Tryz.underlying296 rfl (by kernel_rfl) ?_))
    go_roundw
    case rel=>exact ⟨1,by simp,rfl,V.out.1⟩
    case measure=>simp [intOf]
   ·have N:Hid (Boxed (wr.alloc (.cells (dq false false false false 0) 299)) wr.heap.size (dq false false false false 0) 299):=Boxed.new _ _ _
    have V:Hid (DvL w w1 S false true true true ((wr.alloc (.cells (dq false false false false 0) 299)).setRow wr.heap.size (dq false true true true 512))∧Boxed ((wr.alloc (.cells (dq false false false false 0) 299)).setRow wr.heap.size (dq false true true true 512)) wr.heap.size (dq false true true true 512) 299):=⟨HL.out.grow _ _ _,setRow_heap _ _ _ _ _ _ N.out⟩
    have c4:(((wr.alloc (.cells (dq false false false false 0) 299)).setRow wr.heap.size (dq false true true true 512))).cell? ⟨wr.heap.size,4,none⟩=some (.int .i64 512):=V.out.2.cell 4 rfl
    go_wp2_with (first|(refine wpList_val rfl (some 11) rfl (.agg (dq false true true true 512)) (by kernel_rfl) ?_)|(refine wpList_val rfl (some 15) rfl (.bool true) (by kernel_rfl) ?_)|(refine wpList_store_row rfl 299 (.tmp 5) (.tmp 11) rfl wr.heap.size (dq false true true true 512) rfl rfl _ _ N.out (by kernel_rfl) rfl (dvOnes _ _ _ _ _) ?_)|(refine wpList_load_mid rfl 296 (.tmp 12) rfl wr.heap.size 0 rfl [Value.bool false,Value.bool true,Value.bool true,Value.bool true] _ (dvRange V.out.2) Tryz.underlying296 rfl (by kernel_rfl) ?_)|(refine wpList_load_row rfl 296 (.tmp 3) rfl S rfl _ _ _ _ V.out.1.box Tryz.underlying296 rfl (by kernel_rfl) ?_))
    go_ret
    exact ⟨rfl,V.out.1.bel⟩
 ·go_enter Tryz.func231,Tryz.ntmps231
  go_wp2_with fail
  refine (C'.out _).mono ?_
  rintro e w1 ⟨rfl,q⟩
  have Z:Hid (Boxed (w1.alloc (.cells #[.bool false,.bool false,.bool false,.bool false] 296)) w1.heap.size #[.bool false,.bool false,.bool false,.bool false] 296):=Boxed.new _ _ _
  have L:Hid (DvL w w1 w1.heap.size false false true true ((w1.alloc (.cells #[.bool false,.bool false,.bool false,.bool false] 296)).setRow w1.heap.size #[.bool false,.bool false,.bool true,.bool true])):=⟨below_setRow (q.alloc q.size _) q.size _,setRow_heap _ _ _ _ _ _ Z.out⟩
  obtain ⟨t,hT⟩:=HD.out.on L.out.bel
  have HT:Hid (Boxed ((w1.alloc (.cells #[.bool false,.bool false,.bool false,.bool false] 296)).setRow w1.heap.size #[.bool false,.bool false,.bool true,.bool true]) 2 dvCells t):=hT
  clear hT q HD
  simp only [dvCells] at HT
  go_wp2_with (first|(refine wpList_store_row rfl 296 (.tmp 3) (.tmp 7) rfl w1.heap.size #[.bool false,.bool false,.bool true,.bool true] rfl rfl _ _ Z.out (by kernel_rfl) rfl (bwOnes _ _ _ _) ?_)|(refine wpList_load_row rfl 300 (.global 2) rfl 2 rfl _ _ _ _ HT.out Tryz.underlying300 rfl (by kernel_rfl) ?_))
  clear Z HT
  generalize w1.heap.size=S at L ⊢
  generalize ((w1.alloc (.cells #[.bool false,.bool false,.bool false,.bool false] 296)).setRow S #[.bool false,.bool false,.bool true,.bool true])=W at L ⊢
  go_loopw [9] (fun i wr=>∃ z:Int,(z=0∨z=1∨z=2)∧i = .int .i64 z∧Hid (DvL w w1 S false false true true wr)) (fun i _=>4-(intOf i).toNat)
  case atStart=>exact ⟨0,by simp,rfl,L.out⟩
  case round =>
   obtain ⟨z,hz,rfl,HL⟩:=hrel
   clear L
   rcases hz with rfl|rfl|rfl
   ·have N:Hid (Boxed (wr.alloc (.cells (dq false false false false 0) 299)) wr.heap.size (dq false false false false 0) 299):=Boxed.new _ _ _
    have V:Hid (DvL w w1 S false false true true ((wr.alloc (.cells (dq false false false false 0) 299)).setRow wr.heap.size (dq true true true true 2048))∧Boxed ((wr.alloc (.cells (dq false false false false 0) 299)).setRow wr.heap.size (dq true true true true 2048)) wr.heap.size (dq true true true true 2048) 299):=⟨HL.out.grow _ _ _,setRow_heap _ _ _ _ _ _ N.out⟩
    have c4:(((wr.alloc (.cells (dq false false false false 0) 299)).setRow wr.heap.size (dq true true true true 2048))).cell? ⟨wr.heap.size,4,none⟩=some (.int .i64 2048):=V.out.2.cell 4 rfl
    go_wp2_with (first|(refine wpList_val rfl (some 11) rfl (.agg (dq true true true true 2048)) (by kernel_rfl) ?_)|(refine wpList_val rfl (some 15) rfl (.bool false) (by kernel_rfl) ?_)|(refine wpList_store_row rfl 299 (.tmp 5) (.tmp 11) rfl wr.heap.size (dq true true true true 2048) rfl rfl _ _ N.out (by kernel_rfl) rfl (dvOnes _ _ _ _ _) ?_)|(refine wpList_load_mid rfl 296 (.tmp 12) rfl wr.heap.size 0 rfl [Value.bool true,Value.bool true,Value.bool true,Value.bool true] _ (dvRange V.out.2) Tryz.underlying296 rfl (by kernel_rfl) ?_)|(refine wpList_load_row rfl 296 (.tmp 3) rfl S rfl _ _ _ _ V.out.1.box Tryz.underlying296 rfl (by kernel_rfl) ?_))
    go_roundw
    case rel=>exact ⟨1,by simp,rfl,V.out.1⟩
    case measure=>simp [intOf]
   ·have N:Hid (Boxed (wr.alloc (.cells (dq false false false false 0) 299)) wr.heap.size (dq false false false false 0) 299):=Boxed.new _ _ _
    have V:Hid (DvL w w1 S false false true true ((wr.alloc (.cells (dq false false false false 0) 299)).setRow wr.heap.size (dq false true true true 512))∧Boxed ((wr.alloc (.cells (dq false false false false 0) 299)).setRow wr.heap.size (dq false true true true 512)) wr.heap.size (dq false true true true 512) 299):=⟨HL.out.grow _ _ _,setRow_heap _ _ _ _ _ _ N.out⟩
    have c4:(((wr.alloc (.cells (dq false false false false 0) 299)).setRow wr.heap.size (dq false true true true 512))).cell? ⟨wr.heap.size,4,none⟩=some (.int .i64 512):=V.out.2.cell 4 rfl
    go_wp2_with (first|(refine wpList_val rfl (some 11) rfl (.agg (dq false true true true 512)) (by kernel_rfl) ?_)|(refine wpList_val rfl (some 15) rfl (.bool false) (by kernel_rfl) ?_)|(refine wpList_store_row rfl 299 (.tmp 5) (.tmp 11) rfl wr.heap.size (dq false true true true 512) rfl rfl _ _ N.out (by kernel_rfl) rfl (dvOnes _ _ _ _ _) ?_)|(refine wpList_load_mid rfl 296 (.tmp 12) rfl wr.heap.size 0 rfl [Value.bool false,Value.bool true,Value.bool true,Value.bool true] _ (dvRange V.out.2) Tryz.underlying296 rfl (by kernel_rfl) ?_)|(refine wpList_load_row rfl 296 (.tmp 3) rfl S rfl _ _ _ _ V.out.1.box Tryz.underlying296 rfl (by kernel_rfl) ?_))
    go_roundw
    case rel=>exact ⟨2,by simp,rfl,V.out.1⟩
    case measure=>simp [intOf]
   ·have N:Hid (Boxed (wr.alloc (.cells (dq false false false false 0) 299)) wr.heap.size (dq false false false false 0) 299):=Boxed.new _ _ _
    have V:Hid (DvL w w1 S false false true true ((wr.alloc (.cells (dq false false false false 0) 299)).setRow wr.heap.size (dq false false true true 128))∧Boxed ((wr.alloc (.cells (dq false false false false 0) 299)).setRow wr.heap.size (dq false false true true 128)) wr.heap.size (dq false false true true 128) 299):=⟨HL.out.grow _ _ _,setRow_heap _ _ _ _ _ _ N.out⟩
    have c4:(((wr.alloc (.cells (dq false false false false 0) 299)).setRow wr.heap.size (dq false false true true 128))).cell? ⟨wr.heap.size,4,none⟩=some (.int .i64 128):=V.out.2.cell 4 rfl
    go_wp2_with (first|(refine wpList_val rfl (some 11) rfl (.agg (dq false false true true 128)) (by kernel_rfl) ?_)|(refine wpList_val rfl (some 15) rfl (.bool true) (by kernel_rfl) ?_)|(refine wpList_store_row rfl 299 (.tmp 5) (.tmp 11) rfl wr.heap.size (dq false false true true 128) rfl rfl _ _ N.out (by kernel_rfl) rfl (dvOnes _ _ _ _ _) ?_)|(refine wpList_load_mid rfl 296 (.tmp 12) rfl wr.heap.size 0 rfl [Value.bool false,Value.bool false,Value.bool true,Value.bool true] _ (dvRange V.out.2) Tryz.underlying296 rfl (by kernel_rfl) ?_)|(refine wpList_load_row rfl 296 (.tmp 3) rfl S rfl _ _ _ _ V.out.1.box Tryz.underlying296 rfl (by kernel_rfl) ?_))
    go_ret
    exact ⟨rfl,V.out.1.bel⟩
 ·go_enter Tryz.func231,Tryz.ntmps231
  go_wp2_with fail
  refine (C'.out _).mono ?_
  rintro e w1 ⟨rfl,q⟩
  have Z:Hid (Boxed (w1.alloc (.cells #[.bool false,.bool false,.bool false,.bool false] 296)) w1.heap.size #[.bool false,.bool false,.bool false,.bool false] 296):=Boxed.new _ _ _
  have L:Hid (DvL w w1 w1.heap.size false false false true ((w1.alloc (.cells #[.bool false,.bool false,.bool false,.bool false] 296)).setRow w1.heap.size #[.bool false,.bool false,.bool false,.bool true])):=⟨below_setRow (q.alloc q.size _) q.size _,setRow_heap _ _ _ _ _ _ Z.out⟩
  obtain ⟨t,hT⟩:=HD.out.on L.out.bel
  have HT:Hid (Boxed ((w1.alloc (.cells #[.bool false,.bool false,.bool false,.bool false] 296)).setRow w1.heap.size #[.bool false,.bool false,.bool false,.bool true]) 2 dvCells t):=hT
  clear hT q HD
  simp only [dvCells] at HT
  go_wp2_with (first|(refine wpList_store_row rfl 296 (.tmp 3) (.tmp 7) rfl w1.heap.size #[.bool false,.bool false,.bool false,.bool true] rfl rfl _ _ Z.out (by kernel_rfl) rfl (bwOnes _ _ _ _) ?_)|(refine wpList_load_row rfl 300 (.global 2) rfl 2 rfl _ _ _ _ HT.out Tryz.underlying300 rfl (by kernel_rfl) ?_))
  clear Z HT
  generalize w1.heap.size=S at L ⊢
  generalize ((w1.alloc (.cells #[.bool false,.bool false,.bool false,.bool false] 296)).setRow S #[.bool false,.bool false,.bool false,.bool true])=W at L ⊢
  go_loopw [9] (fun i wr=>∃ z:Int,(z=0∨z=1∨z=2∨z=3)∧i = .int .i64 z∧Hid (DvL w w1 S false false false true wr)) (fun i _=>4-(intOf i).toNat)
  case atStart=>exact ⟨0,by simp,rfl,L.out⟩
  case round =>
   obtain ⟨z,hz,rfl,HL⟩:=hrel
   clear L
   rcases hz with rfl|rfl|rfl|rfl
   ·have N:Hid (Boxed (wr.alloc (.cells (dq false false false false 0) 299)) wr.heap.size (dq false false false false 0) 299):=Boxed.new _ _ _
    have V:Hid (DvL w w1 S false false false true ((wr.alloc (.cells (dq false false false false 0) 299)).setRow wr.heap.size (dq true true true true 2048))∧Boxed ((wr.alloc (.cells (dq false false false false 0) 299)).setRow wr.heap.size (dq true true true true 2048)) wr.heap.size (dq true true true true 2048) 299):=⟨HL.out.grow _ _ _,setRow_heap _ _ _ _ _ _ N.out⟩
    have c4:(((wr.alloc (.cells (dq false false false false 0) 299)).setRow wr.heap.size (dq true true true true 2048))).cell? ⟨wr.heap.size,4,none⟩=some (.int .i64 2048):=V.out.2.cell 4 rfl
    go_wp2_with (first|(refine wpList_val rfl (some 11) rfl (.agg (dq true true true true 2048)) (by kernel_rfl) ?_)|(refine wpList_val rfl (some 15) rfl (.bool false) (by kernel_rfl) ?_)|(refine wpList_store_row rfl 299 (.tmp 5) (.tmp 11) rfl wr.heap.size (dq true true true true 2048) rfl rfl _ _ N.out (by kernel_rfl) rfl (dvOnes _ _ _ _ _) ?_)|(refine wpList_load_mid rfl 296 (.tmp 12) rfl wr.heap.size 0 rfl [Value.bool true,Value.bool true,Value.bool true,Value.bool true] _ (dvRange V.out.2) Tryz.underlying296 rfl (by kernel_rfl) ?_)|(refine wpList_load_row rfl 296 (.tmp 3) rfl S rfl _ _ _ _ V.out.1.box Tryz.underlying296 rfl (by kernel_rfl) ?_))
    go_roundw
    case rel=>exact ⟨1,by simp,rfl,V.out.1⟩
    case measure=>simp [intOf]
   ·have N:Hid (Boxed (wr.alloc (.cells (dq false false false false 0) 299)) wr.heap.size (dq false false false false 0) 299):=Boxed.new _ _ _
    have V:Hid (DvL w w1 S false false false true ((wr.alloc (.cells (dq false false false false 0) 299)).setRow wr.heap.size (dq false true true true 512))∧Boxed ((wr.alloc (.cells (dq false false false false 0) 299)).setRow wr.heap.size (dq false true true true 512)) wr.heap.size (dq false true true true 512) 299):=⟨HL.out.grow _ _ _,setRow_heap _ _ _ _ _ _ N.out⟩
    have c4:(((wr.alloc (.cells (dq false false false false 0) 299)).setRow wr.heap.size (dq false true true true 512))).cell? ⟨wr.heap.size,4,none⟩=some (.int .i64 512):=V.out.2.cell 4 rfl
    go_wp2_with (first|(refine wpList_val rfl (some 11) rfl (.agg (dq false true true true 512)) (by kernel_rfl) ?_)|(refine wpList_val rfl (some 15) rfl (.bool false) (by kernel_rfl) ?_)|(refine wpList_store_row rfl 299 (.tmp 5) (.tmp 11) rfl wr.heap.size (dq false true true true 512) rfl rfl _ _ N.out (by kernel_rfl) rfl (dvOnes _ _ _ _ _) ?_)|(refine wpList_load_mid rfl 296 (.tmp 12) rfl wr.heap.size 0 rfl [Value.bool false,Value.bool true,Value.bool true,Value.bool true] _ (dvRange V.out.2) Tryz.underlying296 rfl (by kernel_rfl) ?_)|(refine wpList_load_row rfl 296 (.tmp 3) rfl S rfl _ _ _ _ V.out.1.box Tryz.underlying296 rfl (by kernel_rfl) ?_))
    go_roundw
    case rel=>exact ⟨2,by simp,rfl,V.out.1⟩
    case measure=>simp [intOf]
   ·have N:Hid (Boxed (wr.alloc (.cells (dq false false false false 0) 299)) wr.heap.size (dq false false false false 0) 299):=Boxed.new _ _ _
    have V:Hid (DvL w w1 S false false false true ((wr.alloc (.cells (dq false false false false 0) 299)).setRow wr.heap.size (dq false false true true 128))∧Boxed ((wr.alloc (.cells (dq false false false false 0) 299)).setRow wr.heap.size (dq false false true true 128)) wr.heap.size (dq false false true true 128) 299):=⟨HL.out.grow _ _ _,setRow_heap _ _ _ _ _ _ N.out⟩
    have c4:(((wr.alloc (.cells (dq false false false false 0) 299)).setRow wr.heap.size (dq false false true true 128))).cell? ⟨wr.heap.size,4,none⟩=some (.int .i64 128):=V.out.2.cell 4 rfl
    go_wp2_with (first|(refine wpList_val rfl (some 11) rfl (.agg (dq false false true true 128)) (by kernel_rfl) ?_)|(refine wpList_val rfl (some 15) rfl (.bool false) (by kernel_rfl) ?_)|(refine wpList_store_row rfl 299 (.tmp 5) (.tmp 11) rfl wr.heap.size (dq false false true true 128) rfl rfl _ _ N.out (by kernel_rfl) rfl (dvOnes _ _ _ _ _) ?_)|(refine wpList_load_mid rfl 296 (.tmp 12) rfl wr.heap.size 0 rfl [Value.bool false,Value.bool false,Value.bool true,Value.bool true] _ (dvRange V.out.2) Tryz.underlying296 rfl (by kernel_rfl) ?_)|(refine wpList_load_row rfl 296 (.tmp 3) rfl S rfl _ _ _ _ V.out.1.box Tryz.underlying296 rfl (by kernel_rfl) ?_))
    go_roundw
    case rel=>exact ⟨3,by simp,rfl,V.out.1⟩
    case measure=>simp [intOf]
   ·have N:Hid (Boxed (wr.alloc (.cells (dq false false false false 0) 299)) wr.heap.size (dq false false false false 0) 299):=Boxed.new _ _ _
    have V:Hid (DvL w w1 S false false false true ((wr.alloc (.cells (dq false false false false 0) 299)).setRow wr.heap.size (dq false false false true 32))∧Boxed ((wr.alloc (.cells (dq false false false false 0) 299)).setRow wr.heap.size (dq false false false true 32)) wr.heap.size (dq false false false true 32) 299):=⟨HL.out.grow _ _ _,setRow_heap _ _ _ _ _ _ N.out⟩
    have c4:(((wr.alloc (.cells (dq false false false false 0) 299)).setRow wr.heap.size (dq false false false true 32))).cell? ⟨wr.heap.size,4,none⟩=some (.int .i64 32):=V.out.2.cell 4 rfl
    go_wp2_with (first|(refine wpList_val rfl (some 11) rfl (.agg (dq false false false true 32)) (by kernel_rfl) ?_)|(refine wpList_val rfl (some 15) rfl (.bool true) (by kernel_rfl) ?_)|(refine wpList_store_row rfl 299 (.tmp 5) (.tmp 11) rfl wr.heap.size (dq false false false true 32) rfl rfl _ _ N.out (by kernel_rfl) rfl (dvOnes _ _ _ _ _) ?_)|(refine wpList_load_mid rfl 296 (.tmp 12) rfl wr.heap.size 0 rfl [Value.bool false,Value.bool false,Value.bool false,Value.bool true] _ (dvRange V.out.2) Tryz.underlying296 rfl (by kernel_rfl) ?_)|(refine wpList_load_row rfl 296 (.tmp 3) rfl S rfl _ _ _ _ V.out.1.box Tryz.underlying296 rfl (by kernel_rfl) ?_))
    go_ret
    exact ⟨rfl,V.out.1.bel⟩
 ·go_enter Tryz.func231,Tryz.ntmps231
  go_wp2_with fail
  refine (C'.out _).mono ?_
  rintro e w1 ⟨rfl,q⟩
  have Z:Hid (Boxed (w1.alloc (.cells #[.bool false,.bool false,.bool false,.bool false] 296)) w1.heap.size #[.bool false,.bool false,.bool false,.bool false] 296):=Boxed.new _ _ _
  have L:Hid (DvL w w1 w1.heap.size false false false false ((w1.alloc (.cells #[.bool false,.bool false,.bool false,.bool false] 296)).setRow w1.heap.size #[.bool false,.bool false,.bool false,.bool false])):=⟨below_setRow (q.alloc q.size _) q.size _,setRow_heap _ _ _ _ _ _ Z.out⟩
  obtain ⟨t,hT⟩:=HD.out.on L.out.bel
  have HT:Hid (Boxed ((w1.alloc (.cells #[.bool false,.bool false,.bool false,.bool false] 296)).setRow w1.heap.size #[.bool false,.bool false,.bool false,.bool false]) 2 dvCells t):=hT
  clear hT q HD
  simp only [dvCells] at HT
  go_wp2_with (first|(refine wpList_store_row rfl 296 (.tmp 3) (.tmp 7) rfl w1.heap.size #[.bool false,.bool false,.bool false,.bool false] rfl rfl _ _ Z.out (by kernel_rfl) rfl (bwOnes _ _ _ _) ?_)|(refine wpList_load_row rfl 300 (.global 2) rfl 2 rfl _ _ _ _ HT.out Tryz.underlying300 rfl (by kernel_rfl) ?_))
  clear Z HT
  generalize w1.heap.size=S at L ⊢
  generalize ((w1.alloc (.cells #[.bool false,.bool false,.bool false,.bool false] 296)).setRow S #[.bool false,.bool false,.bool false,.bool false])=W at L ⊢
  go_loopw [9] (fun i wr=>∃ z:Int,(z=0∨z=1∨z=2∨z=3∨z=4)∧i = .int .i64 z∧Hid (DvL w w1 S false false false false wr)) (fun i _=>4-(intOf i).toNat)
  case atStart=>exact ⟨0,by simp,rfl,L.out⟩
  case round =>
   obtain ⟨z,hz,rfl,HL⟩:=hrel
   clear L
   rcases hz with rfl|rfl|rfl|rfl|rfl
   ·have N:Hid (Boxed (wr.alloc (.cells (dq false false false false 0) 299)) wr.heap.size (dq false false false false 0) 299):=Boxed.new _ _ _
    have V:Hid (DvL w w1 S false false false false ((wr.alloc (.cells (dq false false false false 0) 299)).setRow wr.heap.size (dq true true true true 2048))∧Boxed ((wr.alloc (.cells (dq false false false false 0) 299)).setRow wr.heap.size (dq true true true true 2048)) wr.heap.size (dq true true true true 2048) 299):=⟨HL.out.grow _ _ _,setRow_heap _ _ _ _ _ _ N.out⟩
    have c4:(((wr.alloc (.cells (dq false false false false 0) 299)).setRow wr.heap.size (dq true true true true 2048))).cell? ⟨wr.heap.size,4,none⟩=some (.int .i64 2048):=V.out.2.cell 4 rfl
    go_wp2_with (first|(refine wpList_val rfl (some 11) rfl (.agg (dq true true true true 2048)) (by kernel_rfl) ?_)|(refine wpList_val rfl (some 15) rfl (.bool false) (by kernel_rfl) ?_)|(refine wpList_store_row rfl 299 (.tmp 5) (.tmp 11) rfl wr.heap.size (dq true true true true 2048) rfl rfl _ _ N.out (by kernel_rfl) rfl (dvOnes _ _ _ _ _) ?_)|(refine wpList_load_mid rfl 296 (.tmp 12) rfl wr.heap.size 0 rfl [Value.bool true,Value.bool true,Value.bool true,Value.bool true] _ (dvRange V.out.2) Tryz.underlying296 rfl (by kernel_rfl) ?_)|(refine wpList_load_row rfl 296 (.tmp 3) rfl S rfl _ _ _ _ V.out.1.box Tryz.underlying296 rfl (by kernel_rfl) ?_))
    go_roundw
    case rel=>exact ⟨1,by simp,rfl,V.out.1⟩
    case measure=>simp [intOf]
   ·have N:Hid (Boxed (wr.alloc (.cells (dq false false false false 0) 299)) wr.heap.size (dq false false false false 0) 299):=Boxed.new _ _ _
    have V:Hid (DvL w w1 S false false false false ((wr.alloc (.cells (dq false false false false 0) 299)).setRow wr.heap.size (dq false true true true 512))∧Boxed ((wr.alloc (.cells (dq false false false false 0) 299)).setRow wr.heap.size (dq false true true true 512)) wr.heap.size (dq false true true true 512) 299):=⟨HL.out.grow _ _ _,setRow_heap _ _ _ _ _ _ N.out⟩
    have c4:(((wr.alloc (.cells (dq false false false false 0) 299)).setRow wr.heap.size (dq false true true true 512))).cell? ⟨wr.heap.size,4,none⟩=some (.int .i64 512):=V.out.2.cell 4 rfl
    go_wp2_with (first|(refine wpList_val rfl (some 11) rfl (.agg (dq false true true true 512)) (by kernel_rfl) ?_)|(refine wpList_val rfl (some 15) rfl (.bool false) (by kernel_rfl) ?_)|(refine wpList_store_row rfl 299 (.tmp 5) (.tmp 11) rfl wr.heap.size (dq false true true true 512) rfl rfl _ _ N.out (by kernel_rfl) rfl (dvOnes _ _ _ _ _) ?_)|(refine wpList_load_mid rfl 296 (.tmp 12) rfl wr.heap.size 0 rfl [Value.bool false,Value.bool true,Value.bool true,Value.bool true] _ (dvRange V.out.2) Tryz.underlying296 rfl (by kernel_rfl) ?_)|(refine wpList_load_row rfl 296 (.tmp 3) rfl S rfl _ _ _ _ V.out.1.box Tryz.underlying296 rfl (by kernel_rfl) ?_))
    go_roundw
    case rel=>exact ⟨2,by simp,rfl,V.out.1⟩
    case measure=>simp [intOf]
   ·have N:Hid (Boxed (wr.alloc (.cells (dq false false false false 0) 299)) wr.heap.size (dq false false false false 0) 299):=Boxed.new _ _ _
    have V:Hid (DvL w w1 S false false false false ((wr.alloc (.cells (dq false false false false 0) 299)).setRow wr.heap.size (dq false false true true 128))∧Boxed ((wr.alloc (.cells (dq false false false false 0) 299)).setRow wr.heap.size (dq false false true true 128)) wr.heap.size (dq false false true true 128) 299):=⟨HL.out.grow _ _ _,setRow_heap _ _ _ _ _ _ N.out⟩
    have c4:(((wr.alloc (.cells (dq false false false false 0) 299)).setRow wr.heap.size (dq false false true true 128))).cell? ⟨wr.heap.size,4,none⟩=some (.int .i64 128):=V.out.2.cell 4 rfl
    go_wp2_with (first|(refine wpList_val rfl (some 11) rfl (.agg (dq false false true true 128)) (by kernel_rfl) ?_)|(refine wpList_val rfl (some 15) rfl (.bool false) (by kernel_rfl) ?_)|(refine wpList_store_row rfl 299 (.tmp 5) (.tmp 11) rfl wr.heap.size (dq false false true true 128) rfl rfl _ _ N.out (by kernel_rfl) rfl (dvOnes _ _ _ _ _) ?_)|(refine wpList_load_mid rfl 296 (.tmp 12) rfl wr.heap.size 0 rfl [Value.bool false,Value.bool false,Value.bool true,Value.bool true] _ (dvRange V.out.2) Tryz.underlying296 rfl (by kernel_rfl) ?_)|(refine wpList_load_row rfl 296 (.tmp 3) rfl S rfl _ _ _ _ V.out.1.box Tryz.underlying296 rfl (by kernel_rfl) ?_))
    go_roundw
    case rel=>exact ⟨3,by simp,rfl,V.out.1⟩
    case measure=>simp [intOf]
   ·have N:Hid (Boxed (wr.alloc (.cells (dq false false false false 0) 299)) wr.heap.size (dq false false false false 0) 299):=Boxed.new _ _ _
    have V:Hid (DvL w w1 S false false false false ((wr.alloc (.cells (dq false false false false 0) 299)).setRow wr.heap.size (dq false false false true 32))∧Boxed ((wr.alloc (.cells (dq false false false false 0) 299)).setRow wr.heap.size (dq false false false true 32)) wr.heap.size (dq false false false true 32) 299):=⟨HL.out.grow _ _ _,setRow_heap _ _ _ _ _ _ N.out⟩
    have c4:(((wr.alloc (.cells (dq false false false false 0) 299)).setRow wr.heap.size (dq false false false true 32))).cell? ⟨wr.heap.size,4,none⟩=some (.int .i64 32):=V.out.2.cell 4 rfl
    go_wp2_with (first|(refine wpList_val rfl (some 11) rfl (.agg (dq false false false true 32)) (by kernel_rfl) ?_)|(refine wpList_val rfl (some 15) rfl (.bool false) (by kernel_rfl) ?_)|(refine wpList_store_row rfl 299 (.tmp 5) (.tmp 11) rfl wr.heap.size (dq false false false true 32) rfl rfl _ _ N.out (by kernel_rfl) rfl (dvOnes _ _ _ _ _) ?_)|(refine wpList_load_mid rfl 296 (.tmp 12) rfl wr.heap.size 0 rfl [Value.bool false,Value.bool false,Value.bool false,Value.bool true] _ (dvRange V.out.2) Tryz.underlying296 rfl (by kernel_rfl) ?_)|(refine wpList_load_row rfl 296 (.tmp 3) rfl S rfl _ _ _ _ V.out.1.box Tryz.underlying296 rfl (by kernel_rfl) ?_))
    go_roundw
    case rel=>exact ⟨4,by simp,rfl,V.out.1⟩
    case measure=>simp [intOf]
   ·go_wp2
    go_ret
    exact ⟨rfl,HL.out.bel⟩
theorem implAdded (p:Sr) (d:Int) (w:World) (hD:Dv w) (hok:p.ok=true) (hd:inB 0 100000 d=true) :
 Calls Tryz.prog 176 #[p.val,.int .i64 d] w fun e w'=>e = .returned (.int .i64 (Int.tdiv (p.add d) (byOf p.prob)))∧Bel w w':=by
 obtain ⟨k1,k2,k3,k4,k5,k6,k7⟩:=Sr.wraps hok hd
 have b0:=(byOf_in p.prob).1
 have C:=fun w h=>implDivisorOf p.prob w h
 generalize p.add d=X at k5 k6 k7 ⊢
 generalize byOf p.prob=B at k6 k7 b0 C ⊢
 generalize hQ:Int.tdiv X B=Q at k6 k7 ⊢
 have k8:IntKind.i64.wrap (Int.tdiv X B)=Q:=by rw [hQ];exact k6
 clear k6 k7 hQ
 obtain ⟨v0,v1,v2⟩:=p
 simp only [Sr.val] at k1 k2 k3 k4 k5 C ⊢
 clear hok hd
 have C':Hid _:=C
 clear C
 have bz:¬ B=0:=by omega
 clear b0
 have Y:Hid (Boxed (w.alloc (.cells #[.int .i64 v0,.int .i64 v1,.int .i64 v2] 114)) w.heap.size #[.int .i64 v0,.int .i64 v1,.int .i64 v2] 114∧Bel w (w.alloc (.cells #[.int .i64 v0,.int .i64 v1,.int .i64 v2] 114))∧Dv (w.alloc (.cells #[.int .i64 v0,.int .i64 v1,.int .i64 v2] 114))) :=
  ⟨Boxed.new _ _ _,(Below.refl _ _).alloc nlr _,hD.on ((Below.refl _ _).alloc nlr _)⟩
 clear hD
 go_enter Tryz.func176,Tryz.ntmps176
 go_wp2_with fail
 refine (C'.out _ Y.out.2.2).mono ?_
 rintro e w1 ⟨rfl,q⟩
 have Y1:Hid (Bel w w1):=Y.out.2.1.trans (q.mono Y.out.2.1.size)
 clear q Y
 go_wp2
 go_ret
 exact ⟨rfl,Y1.out⟩
theorem implStirred (p:Sr) (d:Int) (w:World) (hD:Dv w) :
 Calls Tryz.prog 111 #[p.val,.int .i64 d] w fun e w'=>e = .returned (p.stirred d).val∧Bel w w':=by
 have A1:=fun w=>implSteerOk p w
 have A2:=fun B w h=>implUpTo1 100000 d w B h
 have A3:p.ok=true→inB 0 100000 d=true→∀ w,Dv w→_:=fun h1 h2 w hD=>implAdded p d w hD h1 h2
 have Hv:Hid (p.stirred d=if p.ok=true then (if inB 0 100000 d=true then p.stir d else p) else ⟨0,0,0⟩):=rfl
 have HR:Hid (p.raw d=max 0 (min 1048576 (p.prob+Int.tdiv (p.add d) (byOf p.prob)))):=rfl
 have HS:Hid (p.stir d=⟨p.target,d,if d=0∧p.old=0 then p.raw d-p.raw d/64 else p.raw d⟩):=rfl
 have HW:Hid (p.ok=true→inB 0 100000 d=true→IntKind.i64.wrap (p.prob+Int.tdiv (p.add d) (byOf p.prob))=p.prob+Int.tdiv (p.add d) (byOf p.prob)):=fun h1 h2=>(Sr.wraps h1 h2).2.2.2.2.2.2
 have hr:=p.raw_in d
 generalize p.stirred d=F at Hv ⊢
 generalize p.stir d=R at HS Hv
 generalize p.raw d=r at hr HR HS
 generalize Int.tdiv (p.add d) (byOf p.prob)=Q at A3 HR HW
 generalize p.ok=ok at A1 A3 Hv HW
 generalize inB 0 100000 d=t1 at A2 A3 Hv HW
 obtain ⟨v0,v1,v2⟩:=p
 simp only [Sr.val] at A1 A3 HR HS HW ⊢
 have A1':Hid _:=A1
 have A2':Hid _:=A2
 have A3':Hid _:=A3
 clear A1 A2 A3
 have HD:Hid (Dv w):=hD
 clear hD
 have X:Hid (Boxed ((w.alloc (.cells #[.int .i64 v0,.int .i64 v1,.int .i64 v2] 114)).alloc (.cells #[.int .i64 0,.int .i64 0,.int .i64 0] 114)) w.heap.size #[.int .i64 v0,.int .i64 v1,.int .i64 v2] 114∧Boxed ((w.alloc (.cells #[.int .i64 v0,.int .i64 v1,.int .i64 v2] 114)).alloc (.cells #[.int .i64 0,.int .i64 0,.int .i64 0] 114)) (w.heap.size+1) #[.int .i64 0,.int .i64 0,.int .i64 0] 114∧Bel w ((w.alloc (.cells #[.int .i64 v0,.int .i64 v1,.int .i64 v2] 114)).alloc (.cells #[.int .i64 0,.int .i64 0,.int .i64 0] 114))):=by
  refine ⟨(Boxed.new w _ _).more _,?_,((Below.refl _ _).alloc nlr _).alloc (by simp) _⟩
  have:=Boxed.new (w.alloc (.cells #[.int .i64 v0,.int .i64 v1,.int .i64 v2] 114)) #[.int .i64 0,.int .i64 0,.int .i64 0] 114
  simpa using this
 go_enter Tryz.func111,Tryz.ntmps111
 go_wp2_with (refine wpList_load_row rfl 114 (.tmp 2) rfl w.heap.size rfl _ _ _ _ X.out.1 Tryz.underlying114 rfl (by kernel_rfl) ?_)
 refine (A1'.out _).mono ?_
 rintro e w1 ⟨rfl,q⟩
 have X1:Hid (Boxed w1 w.heap.size #[.int .i64 v0,.int .i64 v1,.int .i64 v2] 114∧Boxed w1 (w.heap.size+1) #[.int .i64 0,.int .i64 0,.int .i64 0] 114∧Bel w w1):=⟨X.out.1.below X.out.1.under q,X.out.2.1.below X.out.2.1.under q,X.out.2.2.trans (q.mono X.out.2.2.size)⟩
 clear q X
 cases ok
 ·have e1:F=⟨0,0,0⟩:=by rw [Hv.out];rfl
  subst e1
  clear hr
  go_wp2_with (refine wpList_store_row rfl 114 (.tmp 4) (.tmp 9) rfl (w.heap.size+1) #[.int .i64 0,.int .i64 0,.int .i64 0] rfl rfl _ _ X1.out.2.1 (by kernel_rfl) rfl (srOnes _ _ _) ?_)
  exact bodyPost_ret (results_cell_row Tryz.results111 _ _ (w.heap.size+1) _ _ _ _ rfl (setRow_heap _ (w.heap.size+1) _ _ _ _ X1.out.2.1) Tryz.underlying114 rfl (by kernel_rfl)) rfl ⟨rfl,below_setRow X1.out.2.2 (by omega) _⟩
 have H1:Hid _:=hr
 clear hr
 go_wp2_with fail
 refine (A2'.out _ _ (by simp)).mono ?_
 rintro e w' ⟨rfl,hw⟩
 rw [hw]
 have X2:Hid (Boxed (w1.alloc (.cells #[.int .i64 d] 2)) w.heap.size #[.int .i64 v0,.int .i64 v1,.int .i64 v2] 114∧Boxed (w1.alloc (.cells #[.int .i64 d] 2)) (w.heap.size+1) #[.int .i64 0,.int .i64 0,.int .i64 0] 114∧Bel w (w1.alloc (.cells #[.int .i64 d] 2))):=⟨X1.out.1.more _,X1.out.2.1.more _,X1.out.2.2.alloc X1.out.2.2.size _⟩
 generalize w1.alloc (.cells #[.int .i64 d] 2)=w2 at X2 ⊢
 clear X1 hw A1' A2'
 cases t1
 ·have e1:F=⟨v0,v1,v2⟩:=by rw [Hv.out];rfl
  subst e1
  go_wp2_with (first|(refine wpList_load_row rfl 114 (.tmp 2) rfl w.heap.size rfl _ _ _ _ X2.out.1 Tryz.underlying114 rfl (by kernel_rfl) ?_)|(refine wpList_store_row rfl 114 (.tmp 4) (.tmp 14) rfl (w.heap.size+1) _ rfl rfl _ _ X2.out.2.1 (by kernel_rfl) rfl (srOnes _ _ _) ?_))
  exact bodyPost_ret (results_cell_row Tryz.results111 _ _ (w.heap.size+1) _ _ _ _ rfl (setRow_heap _ (w.heap.size+1) _ _ _ _ X2.out.2.1) Tryz.underlying114 rfl (by kernel_rfl)) rfl ⟨rfl,below_setRow X2.out.2.2 (by omega) _⟩
 have e1:F=R:=by rw [Hv.out];rfl
 subst e1
 have A4:=A3'.out (by first|exact trivial|exact rfl) (by first|exact trivial|exact rfl)
 have kw:=HW.out (by first|exact trivial|exact rfl) (by first|exact trivial|exact rfl)
 obtain ⟨S,hS⟩:∃ S,v2+Q=S:=⟨_,rfl⟩
 have k9:IntKind.i64.wrap (v2+Q)=S:=by rw [kw,hS]
 rw [hS] at HR
 clear kw hS HW A3' Hv
 have A4':Hid _:=A4
 clear A4
 have HDp:Hid (∀ p:BelW w2.heap.size w2,Dv p.w'):=fun p=>HD.out.on (X2.out.2.2.trans (p.h.mono X2.out.2.2.size))
 have c0:∀ p:BelW w2.heap.size w2,p.w'.cell? ⟨w.heap.size,0,none⟩=some (.int .i64 v0):=fun p=>(X2.out.1.below X2.out.1.under p.h).cell 0 rfl
 have c1:∀ p:BelW w2.heap.size w2,p.w'.cell? ⟨w.heap.size,1,none⟩=some (.int .i64 v1):=fun p=>(X2.out.1.below X2.out.1.under p.h).cell 1 rfl
 have c2:∀ p:BelW w2.heap.size w2,p.w'.cell? ⟨w.heap.size,2,none⟩=some (.int .i64 v2):=fun p=>(X2.out.1.below X2.out.1.under p.h).cell 2 rfl
 haveI:Nonempty (BelW w2.heap.size w2):=⟨⟨w2,Below.refl _ _⟩⟩
 go_upto_region 5 with fail
 refine rgb w2.heap.size (by kernel_rfl) (by kernel_rfl) ?_
 repeat (go_big_quiet_step ((go_at_call 176;refine qb (A4'.out _ (HDp.out _)))))
 refine wpQuiet_nil ?_
 intro w3 hx
 have q:=BelW.out hx
 have X3:Hid (Boxed w3 w.heap.size #[.int .i64 v0,.int .i64 v1,.int .i64 v2] 114∧Boxed w3 (w.heap.size+1) #[.int .i64 0,.int .i64 0,.int .i64 0] 114∧Bel w w3):=⟨X2.out.1.below X2.out.1.under q,X2.out.2.1.below X2.out.2.1.under q,X2.out.2.2.trans (q.mono X2.out.2.2.size)⟩
 have hE:(if 1048576<(if S<0 then 0 else S) then 1048576 else (if S<0 then 0 else S))=r:=by
  rw [HR.out]
  split<;>split<;>omega
 rw [hE]
 clear hE HR hx q c0 c1 c2 X2 A4' HDp k9 HD
 generalize (if S<0 then 0 else S)=m
 have hr:=H1.out
 have k10:IntKind.i64.wrap (r/64)=r/64:=by rw [IntKind.wrap_i64];omega
 have k11:IntKind.i64.wrap (r-r/64)=r-r/64:=by rw [IntKind.wrap_i64];omega
 have kd:Int.tdiv r 64=r/64:=Int.tdiv_eq_ediv_of_nonneg hr.1
 clear hr H1
 have c0:w3.cell? ⟨w.heap.size,0,none⟩=some (.int .i64 v0):=X3.out.1.cell 0 rfl
 have c1:w3.cell? ⟨w.heap.size,1,none⟩=some (.int .i64 v1):=X3.out.1.cell 1 rfl
 by_cases hd0:d=0
 ·subst hd0
  by_cases ho:v1=0
  ·subst ho
   obtain rfl:F=⟨v0,0,r-r/64⟩:=by rw [HS.out];simp
   go_wp2_with (refine wpList_store_row rfl 114 (.tmp 4) (.tmp 38) rfl (w.heap.size+1) #[.int .i64 v0,.int .i64 0,.int .i64 (r-r/64)] rfl rfl _ _ X3.out.2.1 (by kernel_rfl) rfl (srOnes _ _ _) ?_)
   exact bodyPost_ret (results_cell_row Tryz.results111 _ _ (w.heap.size+1) _ _ _ _ rfl (setRow_heap _ (w.heap.size+1) _ _ _ _ X3.out.2.1) Tryz.underlying114 rfl (by kernel_rfl)) rfl ⟨rfl,below_setRow X3.out.2.2 (by omega) _⟩
  ·obtain rfl:F=⟨v0,0,r⟩:=by rw [HS.out];simp [ho]
   go_wp2_with (refine wpList_store_row rfl 114 (.tmp 4) (.tmp 38) rfl (w.heap.size+1) #[.int .i64 v0,.int .i64 0,.int .i64 r] rfl rfl _ _ X3.out.2.1 (by kernel_rfl) rfl (srOnes _ _ _) ?_)
   exact bodyPost_ret (results_cell_row Tryz.results111 _ _ (w.heap.size+1) _ _ _ _ rfl (setRow_heap _ (w.heap.size+1) _ _ _ _ X3.out.2.1) Tryz.underlying114 rfl (by kernel_rfl)) rfl ⟨rfl,below_setRow X3.out.2.2 (by omega) _⟩
 ·obtain rfl:F=⟨v0,d,r⟩:=by rw [HS.out];simp [hd0]
  go_wp2_with (refine wpList_store_row rfl 114 (.tmp 4) (.tmp 38) rfl (w.heap.size+1) #[.int .i64 v0,.int .i64 d,.int .i64 r] rfl rfl _ _ X3.out.2.1 (by kernel_rfl) rfl (srOnes _ _ _) ?_)
  exact bodyPost_ret (results_cell_row Tryz.results111 _ _ (w.heap.size+1) _ _ _ _ rfl (setRow_heap _ (w.heap.size+1) _ _ _ _ X3.out.2.1) Tryz.underlying114 rfl (by kernel_rfl)) rfl ⟨rfl,below_setRow X3.out.2.2 (by omega) _⟩
end Go.Proofs.YtgebghkcikmfaaaGreatDoor
