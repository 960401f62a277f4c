import Derived.Test.YtmfabeghfdoibaaGreatQT19GtMvF
import Derived.Test.YtmfabeghfdoibaaGreatQT29GtNextI
import Derived.Shelf.SlIterI.Nil
import Derived.Shelf.SortM.Plain
import Derived.Shelf.SortM.SortNone
import Derived.Test.YtmfabeghfdoibaaGreatProg
set_option maxHeartbeats 6400000
set_option maxRecDepth 100000
namespace Go.Proofs.YtmfabeghfdoibaaGreat
open Go.RowKit
def Gt.tk (g:Gt) (i k:Nat):List Int:=tmsOf (ndAt g.tree 0).pz.tm (g.rows.pre i k)
theorem Gt.tk_zero (g:Gt):g.tk 0 0=[(ndAt g.tree 0).pz.tm]:=by unfold Gt.tk;rw [pre_zero,tmsOf_nil]
theorem Gt.tk_step {g:Gt} {i k:Nat} (h:k<(izAt g.rows.lists i).length):g.tk i (k+1)=insI (g.tk i k) (itAt (izAt g.rows.lists i) k).tm:=by unfold Gt.tk;rw [pre_step h,tmsOf_snoc]
theorem Gt.tk_next {g:Gt} {i:Nat} (h:i<g.rows.lists.length):g.tk (i+1) 0=g.tk i (izAt g.rows.lists i).length:=by unfold Gt.tk;rw [pre_next h]
theorem Gt.tk_end {g:Gt} (h:g.ok=true):g.times=g.tk g.rows.lists.length 0:=by unfold Gt.times Gt.tk;rw [if_pos h,pre_end]
theorem Gt.tk_len {g:Gt} (h:g.ok=true) {i k:Nat} (hi:i<g.rows.lists.length):(g.tk i k).length≤201:=by
 have h5:=Rw.ok_iff.1 (Gt.head_iff.1 (Gt.ok_iff.1 h).1).2.2.2.2.2.1
 obtain ⟨t,ht⟩:=pre_all hi k
 have h1:=(tmsOf_len (ndAt g.tree 0).pz.tm (g.rows.pre i k)).2
 have h2:=h5.2.2.2.2
 have h3:=h5.1.2
 rw [ht,List.length_append] at h2
 unfold Gt.tk
 omega
theorem wpList_load_rowG {P:Program} {ops:Array Oper} {rest:List Oper} {o:Oper} {a:Act} {w:World} {Q:Exit→Act→World→Prop} (hw:Region.wanted o (yielded ops a.tmps)=true) (ty:TypeId) (x:Operand) (ho:o.op = .load ty x)
 (g:Nat) (hx:a.eval x = .pointer (some ⟨g,0,none⟩)) (t:TypeId) (cs:Array Value) (fr:Nat×Nat) (d:TypeDesc) (hg:w.heap[g]? = some (.cells cs t fr))
 (hu:P.underlying ty=some d) (hd:(match d with | .struct _ | .array _ _=>true|_=>false)=true) (hi:(P.info? ty).map (·.size)=some cs.size)
 (h:wpList P ops Q rest (a.put o.dst (.agg cs)) w):wpList P ops Q (o :: rest) a w :=
 wpList_step fun K hK=>by
  rw [if_pos hw]
  exact wp_load_row ty x ho g hx t cs fr d hg hu hd hi (hK _ _ h)
open Go.RowKit Go.Shelf
structure EqTells (W0:World) (g:FuncId) (fs cb:Array Value) (p:It→Int→Bool):Prop where
 enters:Enters Tryz.prog g
 tells:∀ (W:World) (r:It) (z:Int),Below W0.heap.size W0 W→Calls Tryz.prog g (fs++(#[r.val,.int .i64 z]++cb)) W fun e w'=>e = .returned (.bool (p r z))∧Below W.heap.size W w'
def eqAll (p:It→Int→Bool) (l:List It) (s:List Int) (n:Nat):Bool:=(List.range n).all fun k=>p (itAt l k) (s[k]?.getD 0)
theorem eqAll_succ (p:It→Int→Bool) (l:List It) (s:List Int) (n:Nat):eqAll p l s (n+1)=(eqAll p l s n&&p (itAt l n) (s[n]?.getD 0)):=by
 simp [eqAll,List.range_succ]
theorem eqAll_hit {p:It→Int→Bool} {l:List It} {s:List Int} {k n:Nat} (h:k<n) (g:p (itAt l k) (s[k]?.getD 0)=false):eqAll p l s n=false:=by
 unfold eqAll
 rw [List.all_eq_false]
 exact ⟨k,List.mem_range.2 h,by rw [g];decide⟩
theorem implEqualT (a:Option Addr) (c:Nat) (l:List It) (a2:Option Addr) (c2:Nat) (s:List Int) (g:FuncId) (fs cb:Array Value) (p:It→Int→Bool) (w:World) (hT:l.length≤1048576) (hS:s.length≤1048576) (h:Hid (ItsAt w a l)) (h2:Hid (IntsAt w a2 s)) (ht:Hid (EqTells w g fs cb p)) :
 Calls Tryz.prog 173 #[.slice a l.length c,.slice a2 s.length c2,.func (.func g) fs cb] w fun e w'=>e = .returned (.bool (decide (l.length=s.length)&&eqAll p l s l.length))∧Below w.heap.size w w':=by
 have eg:∀ args w,(callFunc g args).run Tryz.prog w = .ok (.enter g args) w:=ht.out.enters
 obtain ⟨len,hlen⟩:∃ n,l.length=n:=⟨_,rfl⟩
 have Hlen:Hid (l.length=len):=hlen
 obtain ⟨ls,hls⟩:∃ n,s.length=n:=⟨_,rfl⟩
 have Hls:Hid (s.length=ls):=hls
 rw [hlen] at hT
 rw [hls] at hS
 rw [hlen,hls]
 clear hlen hls
 have Hv:Hid ((decide (len=ls)&&eqAll p l s len)=(decide (len=ls)&&eqAll p l s len)):=rfl
 generalize hR:(decide (len=ls)&&eqAll p l s len)=R at Hv ⊢
 have HR:Hid (R=(decide (len=ls)&&eqAll p l s len)):=hR.symm
 clear hR Hv
 by_cases hne:len=ls
 case neg =>
  have e1:R=false:=by rw [HR.out,decide_eq_false hne];rfl
  subst e1
  have hn2:¬ (len:Int)=(ls:Int):=by omega
  have hn3:((len:Int) != (ls:Int))=true:=by simpa using hn2
  go_enter Tryz.func173,Tryz.ntmps173
  go_wp2
  go_ret
  exact ⟨rfl,Below.refl _ _⟩
 subst hne
 have HR2:Hid (R=eqAll p l s len):=by show R=_;rw [HR.out,decide_eq_true rfl,Bool.true_and]
 clear HR
 go_enter Tryz.func173,Tryz.ntmps173
 go_wp2
 go_loopw [7,8,9,17] (fun _ _ _ i wr=>∃ k:Nat,k≤len∧i = .int .i64 k∧Hid (eqAll p l s k=true)∧Hid (Below w.heap.size w wr)) (fun _ _ _ i _=>len-(intOf i).toNat)
 case atStart=>exact ⟨0,Nat.zero_le _,rfl,rfl,Below.refl _ _⟩
 case round =>
  obtain ⟨k,hk,rfl,Hg,H1⟩:=hrel
  by_cases hlt:k<len
  ·have R1:Hid (ItsAt wr a l):=h.out.below H1.out
   obtain ⟨b1,o1,ha1,hb1,-⟩:=R1.out k (by rw [Hlen.out];exact hlt)
   subst ha1
   obtain ⟨c0,c1,c2'⟩:=R1.out.cells (k:=k) (by rw [Hlen.out];exact hlt)
   have S1:Hid (IntsAt wr a2 s):=h2.out.below H1.out
   obtain ⟨b2,o2,ha2,hb2,d0⟩:=S1.out k (by rw [Hls.out];exact hlt)
   subst ha2
   have HC:=fun W q=>ht.out.tells W (itAt l k) (s[k]?.getD 0) (H1.out.trans ((show Below wr.heap.size wr W from q).mono H1.out.size))
   have hs:=eqAll_succ p l s k
   rw [Hg.out,Bool.true_and] at hs
   have hh:p (itAt l k) (s[k]?.getD 0)=false→eqAll p l s len=false:=fun e=>eqAll_hit hlt e
   unfold It.val at HC
   have hlt':(k:Int)<(len:Int):=by omega
   generalize p (itAt l k) (s[k]?.getD 0)=pk at HC hs hh
   generalize itAt l k=r at c0 c1 c2' HC
   generalize s[k]?.getD 0=z at d0 HC
   obtain ⟨r1,r2,r3⟩:=r
   simp only at c0 c1 c2' HC
   have Hs:Hid _:=hs
   have Hh:Hid _:=hh
   have HC':Hid _:=HC
   clear hs hh HC R1 S1
   have N:Hid (Boxed (wr.alloc (.cells #[.int .i64 0,.int .i64 0,.int .i64 0] 80)) wr.heap.size #[.int .i64 0,.int .i64 0,.int .i64 0] 80):=Boxed.new _ _ _
   have bN:Hid (Below wr.heap.size wr ((wr.alloc (.cells #[.int .i64 0,.int .i64 0,.int .i64 0] 80)).setRow wr.heap.size #[.int .i64 r1,.int .i64 r2,.int .i64 r3])):=below_setRow ((Below.refl _ _).alloc nlr _) nlr _
   have X2:Hid (Boxed ((wr.alloc (.cells #[.int .i64 0,.int .i64 0,.int .i64 0] 80)).setRow wr.heap.size #[.int .i64 r1,.int .i64 r2,.int .i64 r3]) wr.heap.size #[.int .i64 r1,.int .i64 r2,.int .i64 r3] 80):=setRow_heap _ _ _ _ _ _ N.out
   have d1:((wr.alloc (.cells #[.int .i64 0,.int .i64 0,.int .i64 0] 80)).setRow wr.heap.size #[.int .i64 r1,.int .i64 r2,.int .i64 r3]).cell? ⟨b2,o2+k,none⟩=some (.int .i64 z):=by rw [bN.out.cell (p:=⟨b2,o2+k,none⟩) hb2];exact d0
   go_upto_region 6 with (refine wpList_store_row rfl 80 (.tmp 8) (.tmp 21) rfl wr.heap.size #[.int .i64 r1,.int .i64 r2,.int .i64 r3] rfl rfl _ _ N.out (by kernel_rfl) rfl (by simp [Value.oneCell']) ?_)
   try simp only [Act.put]
   generalize (wr.alloc (.cells #[.int .i64 0,.int .i64 0,.int .i64 0] 80)).setRow wr.heap.size #[.int .i64 r1,.int .i64 r2,.int .i64 r3]=w2 at bN X2 d1 ⊢
   have HC2:=HC'.out w2 bN.out
   have B2:Hid (Below w.heap.size w w2):=H1.out.trans (bN.out.mono H1.out.size)
   clear HC' N bN
   have x0:w2.cell? ⟨wr.heap.size,0,none⟩=some (.int .i64 r1):=X2.out.cell 0 rfl
   have x1:w2.cell? ⟨wr.heap.size,1,none⟩=some (.int .i64 r2):=X2.out.cell 1 rfl
   have x2:w2.cell? ⟨wr.heap.size,2,none⟩=some (.int .i64 r3):=X2.out.cell 2 rfl
   cases pk
   ·have e1:R=false:=by rw [HR2.out];exact Hh.out rfl
    subst e1
    go_wp2_with fail
    refine HC2.mono ?_
    rintro e w3 ⟨rfl,q⟩
    have B3:Hid (Below w.heap.size w w3):=B2.out.trans (q.mono B2.out.size)
    clear q HC2 B2 X2 x0 x1 x2 d1 d0 c0 c1 c2'
    go_wp2
    go_ret
    exact ⟨rfl,B3.out⟩
   ·go_wp2_with fail
    refine HC2.mono ?_
    rintro e w3 ⟨rfl,q⟩
    have B3:Hid (Below w.heap.size w w3):=B2.out.trans (q.mono B2.out.size)
    clear q HC2 B2 X2 x0 x1 x2 d1 d0 c0 c1 c2'
    go_wp2
    go_roundw
    case rel=>exact ⟨k+1,by omega,by go_num,Hs.out,B3⟩
    case measure=>simp [intOf];omega
  ·obtain rfl:k=len:=by omega
   have e1:R=true:=by rw [HR2.out];exact Hg.out
   subst e1
   go_wp2
   go_ret
   exact ⟨rfl,H1.out⟩
open Go.RowKit Go.Shelf
theorem implKept1 (g:Gt) (x:Ga) (r:It) (z:Int) (B:Nat) (w:World) (hB:Hid (Boxed w B (g.cells x) 50)) :
 Calls Tryz.prog 174 #[r.val,.int .i64 z,.pointer (some ⟨B,0,none⟩)] w fun e w'=>e = .returned (.bool (decide (g.ln.on r.size=z)))∧Below w.heap.size w w':=by
 have O:=fun w=>implOn g.ln r.size w
 obtain ⟨r1,r2,r3⟩:=r
 simp only [It.val] at O ⊢
 have c0:w.cell? ⟨B,0,none⟩=some (.int .i64 g.ln.kind):=hB.out.cell 0 rfl
 have c1:w.cell? ⟨B,1,none⟩=some (.int .i64 g.ln.extra):=hB.out.cell 1 rfl
 have c2:w.cell? ⟨B,2,none⟩=some (.int .i64 g.ln.least):=hB.out.cell 2 rfl
 have hl:B<w.heap.size:=hB.out.under
 have hne:¬ w.heap.size=B:=by omega
 have hne2:¬ B=w.heap.size:=by omega
 have H:Hid (Below w.heap.size w (w.alloc (.cells #[.int .i64 r1,.int .i64 r2,.int .i64 r3] 80))):=(Below.refl _ _).alloc nlr _
 unfold Ln.val at O
 generalize g.ln.on r2=y at O ⊢
 generalize g.ln.kind=y1 at O c0
 generalize g.ln.extra=y2 at O c1
 generalize g.ln.least=y3 at O c2
 have O':Hid _:=O
 clear O hB
 go_enter Tryz.func174,Tryz.ntmps174
 go_wp2_with fail
 refine (O'.out _).mono ?_
 rintro e w2 ⟨rfl,q⟩
 have H2:Hid (Below w.heap.size w w2):=H.out.trans (q.mono H.out.size)
 clear q O' H
 go_wp2
 go_ret
 exact ⟨ret_bool (by rw [Bool.eq_iff_iff];simp),H2.out⟩
theorem kept_hit {g:Gt} {k:Nat} (h:k<g.rows.lists.length) (e:keptB g.ln (izAt g.rows.lists k) (fwAt g.fair.flows k).sizes=false):((List.range g.rows.lists.length).all fun i=>keptB g.ln (izAt g.rows.lists i) (fwAt g.fair.flows i).sizes)=false:=by
 rw [List.all_eq_false]
 exact ⟨k,List.mem_range.2 h,by rw [e];decide⟩
theorem kept_succ (g:Gt) (k:Nat):((List.range (k+1)).all fun i=>keptB g.ln (izAt g.rows.lists i) (fwAt g.fair.flows i).sizes)=(((List.range k).all fun i=>keptB g.ln (izAt g.rows.lists i) (fwAt g.fair.flows i).sizes)&&keptB g.ln (izAt g.rows.lists k) (fwAt g.fair.flows k).sizes):=by
 simp [List.range_succ]
theorem implKept (g:Gt) (x:Ga) (w:World) (hB:g.big≤1048576) (h:Hid (GtV w x g)) :
 Calls Tryz.prog 117 #[g.val x] w fun e w'=>e = .returned (.bool g.kept)∧Below w.heap.size w w':=by
 obtain ⟨s1,s2,s3,s4,s5,s6,s7⟩:=Gt.small hB
 obtain ⟨sT,-,sin⟩:=Rw.small s5
 obtain ⟨fT,-,fin⟩:=Fs.small s7
 have E:Hid (∀ (k:Nat),k<g.rows.lists.length→∀ (ak:Option Addr) (ck:Nat) (a2:Option Addr) (c2:Nat) (B:Nat) (W:World),Boxed W B (g.cells x) 50→ItsAt W ak (izAt g.rows.lists k)→IntsAt W a2 (fwAt g.fair.flows k).sizes→(fwAt g.fair.flows k).sizes.length≤1048576→Calls Tryz.prog 173 #[.slice ak (izAt g.rows.lists k).length ck,.slice a2 (fwAt g.fair.flows k).sizes.length c2,.func (.func 174) #[] #[.pointer (some ⟨B,0,none⟩)]] W fun e w'=>e = .returned (.bool (keptB g.ln (izAt g.rows.lists k) (fwAt g.fair.flows k).sizes))∧Below W.heap.size W w'):=fun k hk ak ck a2 c2 B W h1 h2 h3 h4=>implEqualT ak ck _ a2 c2 _ 174 #[] #[.pointer (some ⟨B,0,none⟩)] (fun r z=>decide (g.ln.on r.size=z)) W (sin k hk) h4 h2 h3 ⟨enters_of Tryz.func174 (by kernel_rfl) rfl,fun W2 r z hW=>implKept1 g x r z B W2 (h1.below h1.under hW)⟩
 have Hs:Hid (∀ k,k<g.fair.flows.length→(fwAt g.fair.flows k).sizes.length≤1048576):=fun k hk=>fin k hk
 have Hh:Hid (∀ k,k<g.rows.lists.length→keptB g.ln (izAt g.rows.lists k) (fwAt g.fair.flows k).sizes=false→((List.range g.rows.lists.length).all fun i=>keptB g.ln (izAt g.rows.lists i) (fwAt g.fair.flows i).sizes)=false):=fun k hk e=>kept_hit hk e
 have Hn:Hid (∀ k,((List.range (k+1)).all fun i=>keptB g.ln (izAt g.rows.lists i) (fwAt g.fair.flows i).sizes)=(((List.range k).all fun i=>keptB g.ln (izAt g.rows.lists i) (fwAt g.fair.flows i).sizes)&&keptB g.ln (izAt g.rows.lists k) (fwAt g.fair.flows k).sizes)):=fun k=>kept_succ g k
 have Hv:Hid (g.kept=(decide (g.rows.lists.length=g.leaves.length)&&(decide (g.steers.length=g.leaves.length)&&(decide (g.fair.flows.length=g.leaves.length)&&(List.range g.rows.lists.length).all fun i=>keptB g.ln (izAt g.rows.lists i) (fwAt g.fair.flows i).sizes)))):=rfl
 have Iz:Hid (IzAt w x.a5 g.rows.lists):=h.out.rows.spot
 have Fz:Hid (FwsAt w x.a7 g.fair.flows):=h.out.fair.spot
 generalize g.kept=R at Hv ⊢
 generalize (fun i=>keptB g.ln (izAt g.rows.lists i) (fwAt g.fair.flows i).sizes)=P at Hh Hn Hv
 obtain ⟨W0,hW⟩:∃ W,W=w.alloc (.cells (g.cells x) 50):=⟨_,rfl⟩
 have X0:Hid (Boxed W0 w.heap.size (g.cells x) 50∧Below w.heap.size w W0):=by
  rw [hW]
  exact ⟨Boxed.new _ _ _,(Below.refl _ _).alloc nlr _⟩
 have HW:Hid (W0=_):=hW
 have c6:W0.cell? ⟨w.heap.size,6,none⟩=some (.slice x.a4 g.leaves.length x.c4):=X0.out.1.cell 6 rfl
 have c8:W0.cell? ⟨w.heap.size,8,none⟩=some (.slice x.a5 g.rows.lists.length x.c5):=X0.out.1.cell 8 rfl
 have c9:W0.cell? ⟨w.heap.size,9,none⟩=some (.slice x.a6 g.steers.length x.c6):=X0.out.1.cell 9 rfl
 have c11:W0.cell? ⟨w.heap.size,11,none⟩=some (.slice x.a7 g.fair.flows.length x.c7):=X0.out.1.cell 11 rfl
 clear hW h hB
 unfold Gt.val
 generalize g.leaves.length=n4 at c6 Hv s4
 generalize g.steers.length=n6 at c9 Hv s6
 have Hcs:Hid ((g.cells x).size=14∧(g.cells x).all (·.oneCell')=true):=⟨Gt.cells_size g x,Gt.cells_one g x⟩
 have Gc:Hid (∀ W B,Boxed W B (g.cells x) 50→W.cell? ⟨B,11,none⟩=some (.slice x.a7 g.fair.flows.length x.c7)):=fun W B hh=>hh.cell 11 rfl
 generalize g.cells x=cs at E X0 HW Hcs Gc ⊢
 generalize x.a5=p5 at Iz c8
 generalize x.a7=p7 at Fz c11 Gc
 generalize x.c5=q5 at c8
 generalize x.c7=q7 at c11 Gc
 go_enter Tryz.func117,Tryz.ntmps117
 go_upto_region 1 with fail
 rw [← HW.out]
 clear HW
 have hw1:Hid (w.heap.size<W0.heap.size):=X0.out.1.under
 obtain ⟨A,hA⟩:∃ A,w.heap.size=A:=⟨_,rfl⟩
 have HA:Hid (w.heap.size=A):=hA
 rw [hA] at c6 c8 c9 c11 ⊢
 rw [hA] at X0 hw1
 clear hA
 have hAw:Hid (A≤W0.heap.size):=by show A≤_;rw [← HA.out];exact X0.out.2.size
 obtain ⟨nl,hnl⟩:∃ n,g.rows.lists.length=n:=⟨_,rfl⟩
 have Hnl:Hid (g.rows.lists.length=nl):=hnl
 rw [hnl] at c8 Hv Hh E sT
 obtain ⟨nf,hnf⟩:∃ n,g.fair.flows.length=n:=⟨_,rfl⟩
 have Hnf:Hid (g.fair.flows.length=nf):=hnf
 rw [hnf] at c11 Hv Hs Gc fT
 clear hnl hnf
 by_cases h1:nl=n4
 case neg =>
  have e1:R=false:=by rw [Hv.out,decide_eq_false h1];rfl
  subst e1
  have hn2:¬ (nl:Int)=(n4:Int):=by omega
  have hn3:((nl:Int) != (n4:Int))=true:=by simpa using hn2
  go_wp2
  go_ret
  exact ⟨rfl,by rw [HA.out];exact X0.out.2⟩
 subst h1
 by_cases h2:n6=nl
 case neg =>
  have e1:R=false:=by rw [Hv.out,decide_eq_true rfl,decide_eq_false h2];rfl
  subst e1
  have hn2:¬ (n6:Int)=(nl:Int):=by omega
  have hn3:((n6:Int) != (nl:Int))=true:=by simpa using hn2
  go_wp2
  go_ret
  exact ⟨rfl,by rw [HA.out];exact X0.out.2⟩
 subst h2
 by_cases h3:nf=n6
 case neg =>
  have e1:R=false:=by rw [Hv.out,decide_eq_true rfl,decide_eq_false h3];rfl
  subst e1
  have hn2:¬ (nf:Int)=(n6:Int):=by omega
  have hn3:((nf:Int) != (n6:Int))=true:=by simpa using hn2
  go_wp2
  go_ret
  exact ⟨rfl,by rw [HA.out];exact X0.out.2⟩
 subst h3
 have HR:Hid (R=(List.range nf).all P):=by show R=_;rw [Hv.out,decide_eq_true rfl,Bool.true_and,Bool.true_and,Bool.true_and]
 clear Hv s1 s2 s3 s4 s5 s6 s7 sin fin
 go_upto_region 4 with fail
 go_wp2
 clear c6 c8 c9 c11
 go_loopw [4,5,34] (fun _ _ i wr=>∃ k:Nat,k≤nf∧i = .int .i64 k∧Hid ((List.range k).all P=true)∧Hid (Below W0.heap.size W0 wr)) (fun _ _ i _=>nf-(intOf i).toNat)
 case atStart=>exact ⟨0,Nat.zero_le _,rfl,rfl,Below.refl _ _⟩
 case round =>
  obtain ⟨k,hk,rfl,Hg,H1⟩:=hrel
  by_cases hlt:k<nf
  ·have hlt':(k:Int)<(nf:Int):=by omega
   have bw:Below w.heap.size w wr:=by rw [HA.out];exact X0.out.2.trans (H1.out.mono hAw.out)
   have Iz2:IzAt wr p5 g.rows.lists:=Iz.out.below bw
   have Fz2:FwsAt wr p7 g.fair.flows:=Fz.out.below bw
   have Bx:Hid (Boxed wr A cs 50):=X0.out.1.below hw1.out H1.out
   have cF:=Gc.out wr A Bx.out
   obtain ⟨b1,o1,ak,ck,ha1,hb1,d0,hit,-⟩:=Iz2 k (by rw [Hnl.out];exact hlt)
   obtain ⟨b2,o2,a2,c2,ha2,hb2,⟨e0,e1,e2⟩,hin,-⟩:=Fz2 k (by rw [Hnf.out];exact hlt)
   subst ha1 ha2
   have C:=E.out k hlt ak ck a2 c2 A wr Bx.out hit hin (Hs.out k hlt)
   have hn:=Hn.out k
   rw [Hg.out,Bool.true_and] at hn
   have hh:=Hh.out k hlt
   have HR2:Hid (keptB g.ln (izAt g.rows.lists k) (fwAt g.fair.flows k).sizes=false→R=false):=fun e=>by rw [HR.out];exact hh e
   generalize keptB g.ln (izAt g.rows.lists k) (fwAt g.fair.flows k).sizes=kb at C hn HR2
   generalize (izAt g.rows.lists k).length=m1 at C d0
   generalize (fwAt g.fair.flows k).sizes.length=m2 at C e2
   have Hn2:Hid _:=hn
   have hmf:∀ (fn:Fn) (first cap:Array Value) (w:World),(Instr.makeFunc fn first cap).run Tryz.prog w = .ok (.func fn first cap) w:=fun _ _ _ _=>rfl
   have B2:Hid (Below W0.heap.size W0 wr):=H1
   clear hn hh e0 e1 hit hin Iz2 Fz2 bw
   cases kb
   ·have e1:R=false:=HR2.out rfl
    subst e1
    go_wp2_with fail
    refine C.mono ?_
    rintro e w3 ⟨rfl,q⟩
    have B3:Hid (Below w.heap.size w w3):=by
     rw [HA.out]
     exact (X0.out.2.trans (B2.out.mono hAw.out)).trans (q.mono (Nat.le_trans hAw.out B2.out.size))
    clear q C
    go_wp2
    go_ret
    exact ⟨rfl,B3.out⟩
   ·go_wp2_with fail
    refine C.mono ?_
    rintro e w3 ⟨rfl,q⟩
    have B3:Hid (Below W0.heap.size W0 w3):=B2.out.trans (q.mono B2.out.size)
    clear q C
    go_wp2
    go_roundw
    case rel=>exact ⟨k+1,by omega,by go_num,Hn2.out,B3⟩
    case measure=>simp [intOf];omega
  ·obtain rfl:k=nf:=by omega
   have e1:R=true:=by rw [HR.out];exact Hg.out
   subst e1
   go_wp2
   go_ret
   exact ⟨rfl,by rw [HA.out];exact X0.out.2.trans (H1.out.mono hAw.out)⟩
open Go.RowKit Go.Shelf
theorem implGateOk (g:Gt) (x:Ga) (w:World) (hB:g.big≤1048576) (h:Hid (GtV w x g)) :
 Calls Tryz.prog 63 #[g.val x] w fun e w'=>e = .returned (.bool g.ok)∧Below w.heap.size w w':=by
 obtain ⟨s1,s2,s3,s4,s5,s6,s7⟩:=Gt.small hB
 have A1:=fun w (h:GtV w x g)=>implParts g x w hB h
 have A2:=fun w (h:GtV w x g)=>implLeavesOk g.leaves x.a4 x.c4 g.tree.length w s3 s4 h.leaves.spot'
 have A3:=fun w (h:GtV w x g)=>implKept g x w hB h
 have A4:=fun w (h:GtV w x g)=>implNext g x w hB h
 have A5:=fun w B hB=>implUpTo1 1048575 g.draw w B hB
 have Hv:Hid (g.ok=(g.parts&&(lvOk g.leaves g.tree.length&&(g.kept&&(g.nextB&&inB 0 1048575 g.draw))))):=g.ok_parts
 generalize g.ok=R at Hv ⊢
 generalize g.parts=o1 at A1 Hv
 generalize lvOk g.leaves g.tree.length=o2 at A2 Hv
 generalize g.kept=o3 at A3 Hv
 generalize g.nextB=o4 at A4 Hv
 generalize inB 0 1048575 g.draw=o5 at A5 Hv
 have Hcs:Hid ((g.cells x).size=14∧(g.cells x).all (·.oneCell')=true):=⟨Gt.cells_size g x,Gt.cells_one g x⟩
 have Gc:Hid (∀ W B,Boxed W B (g.cells x) 50→W.cell? ⟨B,5,none⟩=some (.slice x.a3 g.tree.length x.c3)∧W.cell? ⟨B,6,none⟩=some (.slice x.a4 g.leaves.length x.c4)∧W.cell? ⟨B,13,none⟩=some (.int .i64 g.draw)):=fun W B hh=>⟨hh.cell 5 rfl,hh.cell 6 rfl,hh.cell 13 rfl⟩
 unfold Gt.val at A1 A3 A4 ⊢
 have K:Hid (∀ w',Below w.heap.size w w'→GtV w' x g):=fun w' q=>h.out.below q
 generalize g.cells x=cs at A1 A3 A4 Hcs Gc ⊢
 generalize g.tree.length=n3 at A2 Gc
 generalize g.leaves.length=n4 at A2 Gc
 generalize g.draw=dr at A5 Gc
 have B1:Hid _:=A1
 clear A1
 have A1:=B1
 clear B1
 have B2:Hid _:=A2
 clear A2
 have A2:=B2
 clear B2
 have B3:Hid _:=A3
 clear A3
 have A3:=B3
 clear B3
 have B4:Hid _:=A4
 clear A4
 have A4:=B4
 clear B4
 have B5:Hid _:=A5
 clear A5
 have A5:=B5
 clear B5
 obtain ⟨A,hAq⟩:∃ A,A=w.heap.size:=⟨_,rfl⟩
 obtain ⟨W0,hW⟩:∃ W,W=w.alloc (.cells cs 50):=⟨_,rfl⟩
 have Z0:Hid (Boxed W0 A cs 50∧Below w.heap.size w W0):=by
  have bw:Below w.heap.size w W0:=by rw [hW];exact (Below.refl _ _).alloc nlr _
  exact ⟨by rw [hW,hAq];exact Boxed.new _ _ _,bw⟩
 have HW:Hid (W0=_):=hW
 have HA:Hid (A=_):=hAq
 clear hW hAq h hB s1 s2 s3 s4 s5 s6 s7
 go_enter Tryz.func63,Tryz.ntmps63
 go_upto_region 1 with fail
 rw [← HW.out,← HA.out]
 clear HW HA
 go_wp2_with (refine wpList_load_row rfl 50 (.tmp 1) rfl A rfl _ _ _ _ Z0.out.1 Tryz.underlying50 rfl (by rw [Hcs.out.1];kernel_rfl) ?_)
 refine (A1.out _ (K.out _ Z0.out.2)).mono ?_
 rintro e w1 ⟨rfl,q⟩
 have Z1:Hid (Boxed w1 A cs 50∧Below w.heap.size w w1):=⟨Z0.out.1.below Z0.out.1.under q,Z0.out.2.trans (q.mono Z0.out.2.size)⟩
 clear q Z0
 cases o1
 ·have e:R=false:=by rw [Hv.out];rfl
  subst e
  go_wp2
  go_ret
  exact ⟨rfl,Z1.out.2⟩
 obtain ⟨d5,d6,d13⟩:=Gc.out _ _ Z1.out.1
 go_wp2_with fail
 refine (A2.out _ (K.out _ Z1.out.2)).mono ?_
 rintro e w2 ⟨rfl,q⟩
 have Z2:Hid (Boxed w2 A cs 50∧Below w.heap.size w w2):=⟨Z1.out.1.below Z1.out.1.under q,Z1.out.2.trans (q.mono Z1.out.2.size)⟩
 clear q Z1 d5 d6 d13
 cases o2
 ·have e:R=false:=by rw [Hv.out];rfl
  subst e
  go_wp2
  go_ret
  exact ⟨rfl,Z2.out.2⟩
 go_wp2_with (refine wpList_load_rowG (by simp [Region.wanted,yielded,Act.put]<;>omega) 50 (.tmp 1) rfl A rfl _ _ _ _ Z2.out.1 Tryz.underlying50 rfl (by rw [Hcs.out.1];kernel_rfl) ?_)
 refine (A3.out _ (K.out _ Z2.out.2)).mono ?_
 rintro e w3 ⟨rfl,q⟩
 have Z3:Hid (Boxed w3 A cs 50∧Below w.heap.size w w3):=⟨Z2.out.1.below Z2.out.1.under q,Z2.out.2.trans (q.mono Z2.out.2.size)⟩
 clear q Z2
 cases o3
 ·have e:R=false:=by rw [Hv.out];rfl
  subst e
  go_wp2
  go_ret
  exact ⟨rfl,Z3.out.2⟩
 go_wp2_with (refine wpList_load_rowG (by simp [Region.wanted,yielded,Act.put]<;>omega) 50 (.tmp 1) rfl A rfl _ _ _ _ Z3.out.1 Tryz.underlying50 rfl (by rw [Hcs.out.1];kernel_rfl) ?_)
 refine (A4.out _ (K.out _ Z3.out.2)).mono ?_
 rintro e w4 ⟨rfl,q⟩
 have Z4:Hid (Boxed w4 A cs 50∧Below w.heap.size w w4):=⟨Z3.out.1.below Z3.out.1.under q,Z3.out.2.trans (q.mono Z3.out.2.size)⟩
 clear q Z3
 cases o4
 ·have e:R=false:=by rw [Hv.out];rfl
  subst e
  go_wp2
  go_ret
  exact ⟨rfl,Z4.out.2⟩
 have e:R=o5:=by rw [Hv.out];rfl
 subst e
 obtain ⟨d5,d6,d13⟩:=Gc.out _ _ Z4.out.1
 have N1:Hid (Below w4.heap.size w4 (w4.alloc (.cells #[.int .i64 dr] 2))):=(Below.refl _ _).alloc nlr _
 go_wp2_with fail
 refine (A5.out w4 _ rfl).mono ?_
 rintro e w5 ⟨rfl,hw5⟩
 have B5:Hid (Below w.heap.size w w5):=by rw [hw5];exact Z4.out.2.trans (N1.out.mono Z4.out.2.size)
 clear hw5 A5 N1 d5 d6 d13
 go_wp2
 go_ret
 exact ⟨rfl,B5.out⟩
theorem implTimeOf (g:Gt) (x:Ga) (w:World) (h0:0<g.tree.length) (hT:g.tree.length≤1048576) (h:NdsAt w x.a3 g.tree) :
 Calls Tryz.prog 65 #[g.val x] w fun e w'=>e = .returned (.int .i64 (ndAt g.tree 0).pz.tm)∧Below w.heap.size w w':=by
 have bw:Below w.heap.size w (w.alloc (.cells (g.cells x) 50)):=(Below.refl _ _).alloc nlr _
 have X0:Hid (Boxed (w.alloc (.cells (g.cells x) 50)) w.heap.size (g.cells x) 50):=Boxed.new _ _ _
 have c5:(w.alloc (.cells (g.cells x) 50)).cell? ⟨w.heap.size,5,none⟩=some (.slice x.a3 g.tree.length x.c3):=X0.out.cell 5 rfl
 have H:=h.below bw
 generalize x.a3=a3 at c5 H h
 obtain ⟨b1,o1,ha1,hb1,-⟩:=H 0 h0
 subst ha1
 have d4:=(H.cells (k:=0) h0).2.2.2.2
 have hb:Hid (Below w.heap.size w (w.alloc (.cells (g.cells x) 50))):=bw
 unfold Gt.val
 generalize (ndAt g.tree 0).pz.tm=tm at d4 ⊢
 generalize g.cells x=cs at X0 c5 d4 hb ⊢
 generalize g.tree.length=n at c5 h0 hT
 have hi:(0:Int)<(n:Int):=by omega
 clear H h bw
 obtain ⟨W,hW⟩:∃ W,W=w.alloc (.cells cs 50):=⟨_,rfl⟩
 rw [← hW] at c5 d4 hb
 have HW:Hid (W=_):=hW
 clear hW X0
 go_enter Tryz.func65,Tryz.ntmps65
 go_upto_region 1 with fail
 rw [← HW.out]
 clear HW
 simp only [Nat.zero_mul,Nat.add_zero] at d4
 go_wp2
 go_ret
 exact ⟨rfl,hb.out⟩
end Go.Proofs.YtmfabeghfdoibaaGreat
namespace Go.Proofs
open Go.Shelf
def Tryz.keysA_ren:Go.Shelf.Ren:=⟨fun|7=>120|10=>182|n=>n,fun|23=>104|26=>2|3=>118|28=>179|0=>0|27=>178|33=>72|4=>4|n=>n,fun|n=>n⟩
theorem Tryz.keysA:Go.Proofs.SlLaysZI.n7 Tryz.prog Tryz.keysA_ren:={
 mixed:=by kernel_rfl
 f7:=⟨Tryz.f120.name,by decide,Tryz.func120.trans (congrArg some (by kernel_rfl))⟩
 f10:=⟨Tryz.f182.name,by decide,Tryz.func182.trans (congrArg some (by kernel_rfl))⟩
 t0:=Tryz.underlying0
 a0:=Tryz.isAgg0
 z0:=Tryz.sizeOf0
 v0:=Tryz.zeroValue0
 t4:=Tryz.underlying4
 a4:=Tryz.isAgg4
 z4:=Tryz.sizeOf4
 v4:=Tryz.zeroValue4
 t23:=Tryz.underlying104
 a23:=Tryz.isAgg104
 z23:=Tryz.sizeOf104
 v23:=Tryz.zeroValue104
 t26:=Tryz.underlying2
 a26:=Tryz.isAgg2
 z26:=Tryz.sizeOf2
 v26:=Tryz.zeroValue2
 t27:=Tryz.underlying178
 a27:=Tryz.isAgg178
 z27:=Tryz.sizeOf178
 v27:=Tryz.zeroValue178
 t28:=Tryz.underlying179
 a28:=Tryz.isAgg179
 z28:=Tryz.sizeOf179
 v28:=Tryz.zeroValue179
 t33:=Tryz.underlying72
 a33:=Tryz.isAgg72
 z33:=Tryz.sizeOf72
 v33:=Tryz.zeroValue72 }
def Tryz.sortedA_ren:Go.Shelf.Ren:=⟨fun|6=>119|8=>180|9=>181|11=>214|13=>191|12=>215|23=>227|24=>228|14=>242|15=>243|16=>244|17=>245|18=>246|19=>247|20=>248|21=>249|22=>250|25=>258|26=>252|27=>253|28=>259|29=>260|30=>256|31=>262|n=>n,fun|26=>2|28=>179|24=>27|0=>0|3=>3|37=>195|48=>125|50=>122|4=>4|40=>270|39=>269|45=>274|5=>5|9=>9|51=>292|55=>295|57=>301|58=>302|33=>72|n=>n,fun|n=>n⟩
theorem Tryz.sortedA:Go.Proofs.SlLaysZI.n6 Tryz.prog Tryz.sortedA_ren:={
 mixed:=by kernel_rfl
 f6:=⟨Tryz.f119.name,by decide,Tryz.func119.trans (congrArg some (by kernel_rfl))⟩
 f8:=⟨Tryz.f180.name,by decide,Tryz.func180.trans (congrArg some (by kernel_rfl))⟩
 f11:=⟨Tryz.f214.name,by decide,Tryz.func214.trans (congrArg some (by kernel_rfl))⟩
 t0:=Tryz.underlying0
 a0:=Tryz.isAgg0
 z0:=Tryz.sizeOf0
 v0:=Tryz.zeroValue0
 t24:=Tryz.underlying27
 a24:=Tryz.isAgg27
 z24:=Tryz.sizeOf27
 v24:=Tryz.zeroValue27
 t26:=Tryz.underlying2
 a26:=Tryz.isAgg2
 z26:=Tryz.sizeOf2
 v26:=Tryz.zeroValue2
 t28:=Tryz.underlying179
 a28:=Tryz.isAgg179
 z28:=Tryz.sizeOf179
 v28:=Tryz.zeroValue179
 i26:=by kernel_rfl }
def Tryz.sortA_ren:Go.Shelf.Ren:=⟨fun|5=>181|8=>191|7=>215|19=>227|20=>228|10=>242|11=>243|12=>244|13=>245|14=>246|15=>247|16=>248|17=>249|18=>250|30=>258|31=>252|32=>253|33=>259|34=>260|35=>256|40=>262|n=>n,fun|23=>27|25=>2|3=>3|32=>195|22=>27|0=>0|44=>125|46=>122|4=>4|36=>270|35=>269|41=>274|5=>5|9=>9|53=>292|57=>295|63=>301|64=>302|n=>n,fun|n=>n⟩
theorem Tryz.sortA:Go.Proofs.SlLaysM.n5 Tryz.prog Tryz.sortA_ren:={
 mixed:=by kernel_rfl
 f5:=⟨Tryz.f181.name,by decide,Tryz.func181.trans (congrArg some (by kernel_rfl))⟩
 f7:=⟨Tryz.f215.name,by decide,Tryz.func215.trans (congrArg some (by kernel_rfl))⟩
 f8:=Tryz.func191.trans (congrArg some (by kernel_rfl))
 f10:=⟨Tryz.f242.name,by decide,Tryz.func242.trans (congrArg some (by kernel_rfl))⟩
 f11:=⟨Tryz.f243.name,by decide,Tryz.func243.trans (congrArg some (by kernel_rfl))⟩
 f12:=⟨Tryz.f244.name,by decide,Tryz.func244.trans (congrArg some (by kernel_rfl))⟩
 f13:=⟨Tryz.f245.name,by decide,Tryz.func245.trans (congrArg some (by kernel_rfl))⟩
 f14:=⟨Tryz.f246.name,by decide,Tryz.func246.trans (congrArg some (by kernel_rfl))⟩
 f15:=⟨Tryz.f247.name,by decide,Tryz.func247.trans (congrArg some (by kernel_rfl))⟩
 f16:=⟨Tryz.f248.name,by decide,Tryz.func248.trans (congrArg some (by kernel_rfl))⟩
 f17:=⟨Tryz.f249.name,by decide,Tryz.func249.trans (congrArg some (by kernel_rfl))⟩
 f18:=⟨Tryz.f250.name,by decide,Tryz.func250.trans (congrArg some (by kernel_rfl))⟩
 f19:=Tryz.func227.trans (congrArg some (by kernel_rfl))
 f20:=Tryz.func228.trans (congrArg some (by kernel_rfl))
 f30:=⟨Tryz.f258.name,by decide,Tryz.func258.trans (congrArg some (by kernel_rfl))⟩
 f31:=Tryz.func252.trans (congrArg some (by kernel_rfl))
 f32:=Tryz.func253.trans (congrArg some (by kernel_rfl))
 f33:=⟨Tryz.f259.name,by decide,Tryz.func259.trans (congrArg some (by kernel_rfl))⟩
 f34:=⟨Tryz.f260.name,by decide,Tryz.func260.trans (congrArg some (by kernel_rfl))⟩
 f35:=⟨Tryz.f256.name,by decide,Tryz.func256.trans (congrArg some (by kernel_rfl))⟩
 f40:=⟨Tryz.f262.name,by decide,Tryz.func262.trans (congrArg some (by kernel_rfl))⟩
 t0:=Tryz.underlying0
 a0:=Tryz.isAgg0
 z0:=Tryz.sizeOf0
 v0:=Tryz.zeroValue0
 t3:=Tryz.underlying3
 a3:=Tryz.isAgg3
 z3:=Tryz.sizeOf3
 v3:=Tryz.zeroValue3
 t4:=Tryz.underlying4
 a4:=Tryz.isAgg4
 z4:=Tryz.sizeOf4
 v4:=Tryz.zeroValue4
 t5:=Tryz.underlying5
 a5:=Tryz.isAgg5
 z5:=Tryz.sizeOf5
 v5:=Tryz.zeroValue5
 t9:=Tryz.underlying9
 a9:=Tryz.isAgg9
 z9:=Tryz.sizeOf9
 v9:=Tryz.zeroValue9
 t22:=Tryz.underlying27
 a22:=Tryz.isAgg27
 z22:=Tryz.sizeOf27
 v22:=Tryz.zeroValue27
 t23:=Tryz.underlying27
 a23:=Tryz.isAgg27
 z23:=Tryz.sizeOf27
 v23:=Tryz.zeroValue27
 t25:=Tryz.underlying2
 a25:=Tryz.isAgg2
 z25:=Tryz.sizeOf2
 v25:=Tryz.zeroValue2
 t32:=Tryz.underlying195
 a32:=Tryz.isAgg195
 z32:=Tryz.sizeOf195
 v32:=Tryz.zeroValue195
 t35:=Tryz.underlying269
 a35:=Tryz.isAgg269
 z35:=Tryz.sizeOf269
 v35:=Tryz.zeroValue269
 t36:=Tryz.underlying270
 a36:=Tryz.isAgg270
 z36:=Tryz.sizeOf270
 v36:=Tryz.zeroValue270
 t41:=Tryz.underlying274
 a41:=Tryz.isAgg274
 z41:=Tryz.sizeOf274
 v41:=Tryz.zeroValue274
 t44:=Tryz.underlying125
 a44:=Tryz.isAgg125
 z44:=Tryz.sizeOf125
 v44:=Tryz.zeroValue125
 t46:=Tryz.underlying122
 a46:=Tryz.isAgg122
 z46:=Tryz.sizeOf122
 v46:=Tryz.zeroValue122
 t53:=Tryz.underlying292
 a53:=Tryz.isAgg292
 z53:=Tryz.sizeOf292
 v53:=Tryz.zeroValue292
 t57:=Tryz.underlying295
 a57:=Tryz.isAgg295
 z57:=Tryz.sizeOf295
 v57:=Tryz.zeroValue295
 t63:=Tryz.underlying301
 a63:=Tryz.isAgg301
 z63:=Tryz.sizeOf301
 v63:=Tryz.zeroValue301
 t64:=Tryz.underlying302
 a64:=Tryz.isAgg302
 z64:=Tryz.sizeOf302
 v64:=Tryz.zeroValue302 }
end Go.Proofs
namespace Go.Proofs.YtmfabeghfdoibaaGreat
open Go.RowKit Go.Maps Go.Sort Go.Shelf
theorem setSorts (m:Nat):AnyZI.SortsIn Tryz.prog Tryz.sortedA_ren Fence.wide m :=
 ⟨fun blk off cap ss W hH hblk hsz=>callsIn_wide.2 (AnyM.slices_Sort_int Tryz.sortA blk off cap ss W hH hblk hsz),
  fun p cap W=>callsIn_wide.2 (AnyM.slices_Sort_int_none Tryz.sortA p cap W)⟩
theorem implRising0 {H:Type} (b nn:Nat) (D0:DataW H) (R:Value→Option (DataW H×List MemPlace)) (w:World) (hown:w.ownsMap Tryz.prog 2 R b nn D0) (hmax:Maps.size D0≤maxLen) (hbytes:Maps.size D0*8≤140737488355328) :
 Calls Tryz.prog 66 #[.map (some b)] w fun e w'=>∃ (v:Value) (ss:List Int),e = .returned v∧ss.Perm (intKeys D0) ∧
  w'.ownsRow w.heap.size 2 1 v ss.length ((ss.mergeSort (fun x y=>decide (x≤y))).map encZ)∧(v = .slice none 0 0↔ss=[])∧Below w.heap.size w w':=by
 refine (callsIn_wide (n:=6)).1 ?_
 have hbl:=hown.lt
 have hseq:SeqGives Fence.wide 2 Tryz.prog 182 #[.pointer (some ⟨w.heap.size,0,none⟩)] encZ (fun ss=>ss.Perm (intKeys D0)) (Maps.size D0) (w.alloc (.cells #[.map (some b)] 104)) :=
  AnyZI.keys_gives (ρ := Tryz.keysA_ren) { Tryz.keysA with } Fence.wide _ trivial rfl (by omega) w.heap.size b nn D0 _ (by simp) (by simp) (by
   obtain ⟨es,clock,hb,Ft,hs,hD⟩:=hown
   exact ⟨es,clock,(Below.heap_alloc _ _ b hbl).trans hb,Ft,hs,hD⟩)
 have cK:∀ mb W,CallsIn Fence.wide 5 Tryz.prog 120 #[.map mb] W fun e w'=>e = .returned (.func (.func 182) #[] #[.pointer (some ⟨W.heap.size,0,none⟩)])∧w'=W.alloc (.cells #[.map mb] 104):=fun mb W=>AnyZI.keys_in Tryz.keysA Fence.wide 5 trivial rfl mb W
 have cS:=AnyZI.sorted_in Tryz.sortedA Fence.wide 5 trivial trivial trivial trivial rfl (by omega) (setSorts _) (enters_of Tryz.func181 (by kernel_rfl) rfl) 182 #[.pointer (some ⟨w.heap.size,0,none⟩)] trivial (enters_of Tryz.func182 (by kernel_rfl) rfl) _ _ hmax hbytes _ hseq
 change CallsIn _ _ Tryz.prog 119 _ _ _ at cS
 have hfK:Fence.wide.fn 120:=trivial
 have hfS:Fence.wide.fn 119:=trivial
 refine callsIn_of_wp Tryz.func66 rfl trivial ?_ rfl
 simp only [Tryz.ntmps66,List.size_toArray,List.length_cons,List.length_nil,Nat.reduceAdd,Nat.reduceSub,Array.replicate_succ,Array.replicate_zero,List.push_toArray,List.append_toArray,List.nil_append,List.cons_append]
 gi_wp2_with (first
  |(gi_at_call 120;refine (cK _ _).mono ?_;rintro e w' ⟨rfl,rfl⟩)
  |(gi_at_call 119;refine cS.mono ?_;rintro e w' ⟨v,ss,rfl,hS,hrow,hnil,hb⟩))
 go_ret
 exact ⟨v,ss,rfl,hS,ownsRow_base_a hrow (by simp),hnil,((Below.refl _ w).alloc nlr _).trans (hb.mono (by simp))⟩
def noElem (_:Value):Option (DataW Unit×List MemPlace):=some (.lit (.bool true),[])
def ISet (w:World) (b n:Nat) (S:Int→Bool):Prop :=
 ∃ D:DataW Unit,w.ownsMap Tryz.prog 2 noElem b n D∧∀ x,has D (.int .i64 x)=S x
theorem ISet.lt {w:World} {b n:Nat} {S:Int→Bool} (h:ISet w b n S):b<w.heap.size:=by
 obtain ⟨D,o,_⟩:=h
 exact o.lt
theorem ISet.kept {w w':World} {b n:Nat} {S:Int→Bool} (h:ISet w b n S) (hb:w'.heap[b]? = w.heap[b]?):ISet w' b n S:=by
 obtain ⟨D,⟨es,clock,h1,h2⟩,hg⟩:=h
 exact ⟨D,⟨es,clock,hb.trans h1,h2⟩,hg⟩
theorem ISet.made (w:World):ISet (w.alloc (.map #[] 0)) w.heap.size 0 fun _=>false :=
 ⟨_,World.ownsMap_made w _ _ _,fun _=>rfl⟩
theorem ISet.store {w:World} {b n:Nat} {S:Int→Bool} (h:ISet w b n S) (hn:n<maxLen) {x:Int} (wx:(Lit.int .i64 x).wf=true) (v:Value) :
 ∃ w',(Instr.mapUpdate 104 (.map (some b)) (.int .i64 x) v).run Tryz.prog w = .ok () w'∧ISet w' b (n+1) (fun y=>decide (y=x)||S y)∧w.grownBy w' (some b):=by
 obtain ⟨D,o,hg⟩:=h
 have hk:keyOf Tryz.prog 2 (.int .i64 x)=some (.int .i64 x):=keyOf_int_mk Tryz.underlying2 wx
 obtain ⟨w',hrun,o',gr⟩:=o.update (int_keyed Tryz.underlying2) Tryz.underlying104 hn hk (val:=v) (d:=.lit (.bool true)) (ps:=[]) rfl
 refine ⟨w',hrun,⟨_,o',fun y=>?_⟩,gr⟩
 by_cases e:y=x
 ·subst e
  rw [has_put_same o.isMap ((int_keyed Tryz.underlying2).key hk)]
  simp
 ·rw [has_put_other (by intro e2;exact e (by simpa using e2)),hg y]
  show S y=(decide (y=x)||S y)
  rw [decide_eq_false e]
  rfl
theorem implAdd (b n:Nat) (S:Int→Bool) (x:Int) (w:World) (hn:n<1000) (wx:(Lit.int .i64 x).wf=true) (h:Hid (ISet w b n S)) :
 Calls Tryz.prog 64 #[.map (some b),.int .i64 x] w fun e w'=>e = .returned (.tuple #[])∧ISet w' b (n+1) (fun y=>decide (y=x)||S y)∧w.grownBy w' (some b):=by
 obtain ⟨w1,hrun,h1,g1⟩:=h.out.store (by unfold maxLen;omega) wx (.agg #[])
 have H1:Hid (ISet w1 b (n+1) (fun y=>decide (y=x)||S y)∧w.grownBy w1 (some b)):=⟨h1,g1⟩
 clear h1 g1
 go_enter Tryz.func64,Tryz.ntmps64
 go_wp2
 refine bodyPost_end (v:=.tuple #[]) ?_ rfl ?_
 ·simp [results,Tryz.results64,go_sem]
 ·exact ⟨rfl,H1.out⟩
theorem sorted_is {ss ys:List Int} (hp:ys.Pairwise (· < ·)) (hn:ss.Nodup) (hm:∀ x,x∈ss↔x∈ys):ss.mergeSort (fun x y=>decide (x≤y))=ys:=by
 have tr:∀ a b c:Int,decide (a≤b)=true→decide (b≤c)=true→decide (a≤c)=true:=fun a b c h1 h2=>by simp only [decide_eq_true_eq] at *;omega
 have ttl:∀ a b:Int,(decide (a≤b)||decide (b≤a))=true:=fun a b=>by simp only [Bool.or_eq_true,decide_eq_true_eq];omega
 have hny:ys.Nodup:=hp.imp (fun h=>by omega)
 have hperm:ss.Perm ys:=(List.perm_ext_iff_of_nodup hn hny).2 hm
 refine List.Perm.eq_of_pairwise (le:=fun a b=>decide (a≤b)=true) (fun a b _ _ h1 h2=>?_) (List.pairwise_mergeSort tr ttl ss) (hp.imp (fun h=>by simp;omega)) ((List.mergeSort_perm ss _).trans hperm)
 simp only [decide_eq_true_eq] at h1 h2
 omega
theorem implRising (b n:Nat) (S:Int→Bool) (ys:List Int) (w:World) (hn:n≤1000) (h:ISet w b n S) (hp:ys.Pairwise (· < ·)) (hm:∀ x,S x=true↔x∈ys) :
 Calls Tryz.prog 66 #[.map (some b)] w fun e w'=>(∃ v,e = .returned v∧IRow w.heap.size w' v ys)∧Below w.heap.size w w':=by
 obtain ⟨D,o,hg⟩:=h
 have hs:=o.size_le
 refine (implRising0 b n D noElem w o (by unfold maxLen;omega) (by omega)).mono ?_
 rintro e w' ⟨v,ss,rfl,hS,hrow,_,hb⟩
 obtain ⟨es,hD,hpw⟩:=o.tidy (int_keyed Tryz.underlying2)
 obtain ⟨es',hD',hko⟩:=o.keysOf
 obtain rfl:es=es':=by rw [hD] at hD';simpa using hD'
 have hint:∀ p∈es,∃ x,p.1 = .int .i64 x:=fun p hp=>by
  obtain ⟨v,hv⟩:=hko p hp
  obtain ⟨x,_,hx,_⟩:=Maps.keyOf_i64 Tryz.underlying2 hv
  exact ⟨x,hx⟩
 have hnd:(intKeys D).Nodup:=by
  rw [hD]
  show (es.map fun p=>Go.intOf p.1).Nodup
  refine List.pairwise_map.2 (hpw.imp_of_mem fun {p q} hp' hq' hne e=>hne ?_)
  obtain ⟨a,ha⟩:=hint p hp'
  obtain ⟨b,hb⟩:=hint q hq'
  rw [ha,hb] at e ⊢
  exact congrArg _ e
 have hmem:∀ x,x∈intKeys D↔has D (.int .i64 x)=true:=by
  intro x
  rw [hD,has_eq,List.any_eq_true]
  show x∈es.map (fun p=>Go.intOf p.1)↔_
  rw [List.mem_map]
  constructor
  ·rintro ⟨p,hp',rfl⟩
   obtain ⟨a,ha⟩:=hint p hp'
   exact ⟨p,hp',by rw [ha];simp [Lit.sameKey,Go.intOf]⟩
  ·rintro ⟨p,hp',hs⟩
   obtain ⟨a,ha⟩:=hint p hp'
   rw [ha] at hs
   exact ⟨p,hp',by rw [ha];simpa [Lit.sameKey,Go.intOf] using hs⟩
 have e1:=sorted_is hp (hS.nodup_iff.2 hnd) (fun x=>by rw [hS.mem_iff,hmem,hg,hm])
 have hl:ss.length=ys.length:=by rw [← e1,List.length_mergeSort]
 refine ⟨⟨v,rfl,?_⟩,hb⟩
 unfold IRow
 rw [hl,e1] at hrow
 exact hrow
open Go.RowKit Go.Shelf Go.Maps
theorem iset_no {w:World} {b n:Nat} {S:Int→Bool} (h:ISet w b n S) {off:Nat} {v:Value} (c:∃ o,w.cell? ⟨o,off,none⟩=some v∧o=b):False:=by
 obtain ⟨D,⟨es,clock,h1,_⟩,_⟩:=h
 obtain ⟨o,hc,rfl⟩:=c
 simp [World.cell?,h1] at hc
theorem ItsAt.asideS {w w':World} {a:Option Addr} {l:List It} {b n:Nat} {S:Int→Bool} (h:ItsAt w a l) (hm:ISet w b n S) (hg:w.grownBy w' (some b)):ItsAt w' a l:=by
 intro k hk
 obtain ⟨o,off,e,ho,c0,c1,c2⟩:=h k hk
 have hne:o≠b:=fun e=>iset_no hm ⟨o,c0,e⟩
 exact ⟨o,off,e,Nat.lt_of_lt_of_le ho hg.size,hg.cell c0 (by simpa using hne),hg.cell c1 (by simpa using hne),hg.cell c2 (by simpa using hne)⟩
theorem IzAt.asideS {w w':World} {a:Option Addr} {ls:List (List It)} {b n:Nat} {S:Int→Bool} (h:IzAt w a ls) (hm:ISet w b n S) (hg:w.grownBy w' (some b)):IzAt w' a ls:=by
 intro k hk
 obtain ⟨o,off,ak,ck,e,ho,hc,hr,hl⟩:=h k hk
 have hne:o≠b:=fun e=>iset_no hm ⟨o,hc,e⟩
 exact ⟨o,off,ak,ck,e,Nat.lt_of_lt_of_le ho hg.size,hg.cell hc (by simpa using hne),hr.asideS hm hg,hl⟩
structure TmR (w:World) (cs:Array Value) (a:Option Addr) (ls:List (List It)) (M n:Nat) (S:Int→Bool) (wr:World):Prop where
 ids:ISet wr M n S
 here:IzAt wr a ls
 box:Boxed wr w.heap.size cs 50
 bel:Below w.heap.size w wr
 far:w.heap.size<M
section
variable {w:World} {cs:Array Value} {a:Option Addr} {ls:List (List It)} {M n:Nat} {S S':Int→Bool} {wr wd:World}
theorem TmR.alloc (h:TmR w cs a ls M n S wr) (o:Obj):TmR w cs a ls M n S (wr.alloc o) :=
 ⟨h.ids.kept (Below.heap_alloc _ _ _ h.ids.lt),h.here.alloc _,h.box.more _,h.bel.alloc h.bel.size _,h.far⟩
theorem TmR.add (h:TmR w cs a ls M n S wr) (i:ISet wd M (n+1) S') (g:wr.grownBy wd (some M)):TmR w cs a ls M (n+1) S' wd :=
 ⟨i,h.here.asideS h.ids g,by have:=h.far;exact (g.block _ h.box.under (by simp;omega)).trans h.box,h.bel.grown g h.bel.size (by rintro j e;cases e;have:=h.far;omega),h.far⟩
end
theorem wf_tm {x:Int} (h0:0≤x) (h1:x≤1099511627776):(Lit.int .i64 x).wf=true:=WalkArith.wf_i64 (by omega)
def Gt.tS (g:Gt) (i k:Nat) (y:Int):Bool:=decide (y∈g.tk i k)
theorem implTimes (g:Gt) (v:Value) (w:World) (hB:g.big≤1048576) (h:Hid (GtAt w v g)) :
 Calls Tryz.prog 14 #[v] w fun e w'=>(∃ v',e = .returned v'∧IRow w.heap.size w' v' g.times)∧Below w.heap.size w w':=by
 obtain ⟨x,rfl,hG⟩:=h.out
 obtain ⟨z1,z2,z3,z4,z5,z6,z7⟩:=Gt.small hB
 obtain ⟨y1,y2,y3⟩:=Rw.small z5
 have A1:=fun w' (hh:GtV w' x g)=>implGateOk g x w' hB hh
 have A4:Hid (g.ok=true→∀ W,GtV W x g→Calls Tryz.prog 65 #[g.val x] W fun e w'=>e = .returned (.int .i64 (ndAt g.tree 0).pz.tm)∧Below W.heap.size W w'):=fun hk W h=>implTimeOf g x W (by have:=(tok_iff.1 (Gt.head_iff.1 (Gt.ok_iff.1 hk).1).2.2.2.1).1;omega) z3 h.tree.spot'
 have Hno:Hid (g.ok=false→g.times=[]):=fun e=>by unfold Gt.times;rw [e];rfl
 have Hyes:Hid (g.ok=true→g.times=g.tk g.rows.lists.length 0∧(0≤(ndAt g.tree 0).pz.tm∧(ndAt g.tree 0).pz.tm≤1099511627776)∧(∀ i k,i<g.rows.lists.length→(g.rows.pre i k).length≤200)∧g.rows.all.length≤200∧∀ i k,i<g.rows.lists.length→k<(izAt g.rows.lists i).length→0≤(itAt (izAt g.rows.lists i) k).tm∧(itAt (izAt g.rows.lists i) k).tm≤1099511627776):=fun e=>by
  have hp:=(tok_iff.1 (Gt.head_iff.1 (Gt.ok_iff.1 e).1).2.2.2.1).1
  have h5:=Rw.ok_iff.1 (Gt.head_iff.1 (Gt.ok_iff.1 e).1).2.2.2.2.2.1
  have h6:g.rows.all.length≤200:=by have:=h5.2.2.2.2;have:=h5.1.2;omega
  exact ⟨Gt.tk_end e,Gt.tree_tm e (by omega),fun i k hi=>by obtain ⟨t,ht⟩:=pre_all hi k;rw [ht,List.length_append] at h6;omega,h6,fun i k hi hk=>Gt.item_tm e hi hk⟩
 have K:Hid (∀ w',Below w.heap.size w w'→GtV w' x g):=fun w' q=>hG.below q
 have Iz:Hid (∀ w',GtV w' x g→IzAt w' x.a5 g.rows.lists):=fun w' hh=>hh.rows.spot
 have Sz:Hid (∀ i,i<g.rows.lists.length→(izAt g.rows.lists i).length≤1048576):=y3
 have S0:Hid ((fun y=>decide (y=(ndAt g.tree 0).pz.tm)||false)=g.tS 0 0):=by
  show _=_
  funext y
  unfold Gt.tS
  rw [Gt.tk_zero]
  simp
 have S1:Hid (∀ i k,k<(izAt g.rows.lists i).length→(fun y=>decide (y=(itAt (izAt g.rows.lists i) k).tm)||g.tS i k y)=g.tS i (k+1)):=fun i k hk=>by
  funext y
  unfold Gt.tS
  rw [Gt.tk_step hk,Bool.eq_iff_iff]
  simp only [Bool.or_eq_true,decide_eq_true_eq,insI_mem]
 have S2:Hid (∀ i,i<g.rows.lists.length→g.tS (i+1) 0=g.tS i (izAt g.rows.lists i).length):=fun i hi=>by
  funext y
  unfold Gt.tS
  rw [Gt.tk_next hi]
 have N0:Hid ((g.rows.pre 0 0).length=0):=by show _=_;rw [pre_zero];rfl
 have N1:Hid (∀ i k,k<(izAt g.rows.lists i).length→(g.rows.pre i (k+1)).length=(g.rows.pre i k).length+1):=fun i k hk=>by rw [pre_step hk,List.length_append];rfl
 have N2:Hid (∀ i,i<g.rows.lists.length→(g.rows.pre (i+1) 0).length=(g.rows.pre i (izAt g.rows.lists i).length).length):=fun i hi=>by rw [pre_next hi]
 have Ne:Hid ((g.rows.pre g.rows.lists.length 0).length=g.rows.all.length):=by show _=_;rw [pre_end]
 have RI:=fun b n w' hn h=>implRising b n (g.tS g.rows.lists.length 0) (g.tk g.rows.lists.length 0) w' hn h (by unfold Gt.tk;exact tmsOf_rise _ _) (fun y=>decide_eq_true_iff)
 generalize g.times=res at Hno Hyes ⊢
 generalize hok:g.ok=ok at A1 A4 Hno Hyes
 have hcs:(g.cells x)[8]? = some (.slice x.a5 g.rows.lists.length x.c5)∧(g.cells x).size=14:=⟨rfl,rfl⟩
 unfold Gt.val at A1 A4 ⊢
 generalize (ndAt g.tree 0).pz.tm=t0 at A4 S0 Hyes
 generalize g.cells x=cs at A1 A4 hcs ⊢
 have A1':Hid _:=A1
 have Hcs:Hid _:=hcs
 have RI':Hid _:=RI
 obtain ⟨len,hlen⟩:∃ n,g.rows.lists.length=n:=⟨_,rfl⟩
 rw [hlen] at Hcs Hyes S2 N2 Ne y1 Sz RI'
 have Hlen:Hid (g.rows.lists.length=len):=hlen
 generalize g.tk len 0=ys at Hyes RI'
 generalize g.tS=S at S0 S1 S2 RI'
 generalize hN:(fun i k=>(g.rows.pre i k).length)=Nn
 have eN:∀ i k,(g.rows.pre i k).length=Nn i k:=fun i k=>by rw [← hN]
 simp only [eN] at Hyes N0 N1 N2 Ne
 clear A1 RI hcs hok h hG hB hlen z1 z2 z3 z4 z5 z6 z7 y2 y3 hN eN
 obtain ⟨W0,hW⟩:∃ W,W=w.alloc (.cells cs 50):=⟨_,rfl⟩
 have X0:Hid (Below w.heap.size w W0∧Boxed W0 w.heap.size cs 50):=by
  rw [hW]
  exact ⟨(Below.refl _ _).alloc nlr _,Boxed.new w _ _⟩
 have HW:Hid (W0=_):=hW
 clear hW
 have hmm := @run_makeMap Tryz.prog
 go_enter Tryz.func14,Tryz.ntmps14
 go_upto_region 1 with fail
 rw [← HW.out]
 clear HW
 go_wp2_with (refine wpList_load_row rfl 50 (.tmp 1) rfl w.heap.size rfl _ _ _ _ X0.out.2 Tryz.underlying50 rfl (by rw [Hcs.out.2];kernel_rfl) ?_)
 refine (A1'.out _ (K.out _ X0.out.1)).mono ?_
 rintro e w1 ⟨rfl,q⟩
 have X1:Hid (Below w.heap.size w w1∧Boxed w1 w.heap.size cs 50):=⟨X0.out.1.trans (q.mono X0.out.1.size),X0.out.2.below X0.out.2.under q⟩
 clear q X0 A1'
 cases ok
 ·obtain rfl:=Hno.out rfl
  go_wp2
  go_ret
  exact ⟨⟨_,rfl,irow_built w1 w.heap.size X1.out.1.size⟩,X1.out.1.alloc X1.out.1.size _⟩
 obtain ⟨e1,ht0,hbd,hal,htm⟩:=Hyes.out rfl
 have E1:Hid (res=ys):=e1
 have Bd:Hid _:=hbd
 have Al:Hid _:=hal
 have Tm:Hid _:=htm
 have T0:Hid (0≤t0∧t0≤1099511627776):=ht0
 have A4':Hid _:=A4.out rfl
 clear e1 ht0 hbd hal htm Hno Hyes A4
 have M0:Hid (TmR w cs x.a5 g.rows.lists w1.heap.size 0 (fun _=>false) (w1.alloc (.map #[] 0))) :=
  ⟨ISet.made w1,(Iz.out w1 (K.out _ X1.out.1)).alloc _,X1.out.2.more _,X1.out.1.alloc X1.out.1.size _,X1.out.2.under⟩
 go_upto_region 4 with fail
 obtain ⟨M,hM⟩:∃ M,w1.heap.size=M:=⟨_,rfl⟩
 rw [hM] at M0 ⊢
 generalize w1.alloc (.map #[] 0)=w2 at M0 ⊢
 clear hM X1
 go_wp2_with (refine wpList_load_row rfl 50 (.tmp 1) rfl w.heap.size rfl _ _ _ _ M0.out.box Tryz.underlying50 rfl (by rw [Hcs.out.2];kernel_rfl) ?_)
 refine (A4'.out _ (K.out _ M0.out.bel)).mono ?_
 rintro e w3 ⟨rfl,q⟩
 have M1:Hid (TmR w cs x.a5 g.rows.lists M 0 (fun _=>false) w3):=⟨M0.out.ids.kept (q.block _ M0.out.ids.lt),M0.out.here.below q,M0.out.box.below M0.out.box.under q,M0.out.bel.trans (q.mono M0.out.bel.size),M0.out.far⟩
 clear q M0 A4'
 go_wp2_with fail
 refine (implAdd M 0 (fun _=>false) t0 w3 (by omega) (wf_tm T0.out.1 T0.out.2) M1.out.ids).mono ?_
 rintro e w4 ⟨rfl,m4,g4⟩
 rw [S0.out] at m4
 have M2:Hid (TmR w cs x.a5 g.rows.lists M (Nn 0 0+1) (S 0 0) w4):=by rw [N0.out];exact M1.out.add m4 g4
 clear m4 g4 M1 S0 T0
 have c8:w4.cell? ⟨w.heap.size,8,none⟩=some (.slice x.a5 len x.c5):=M2.out.box.cell 8 Hcs.out.1
 go_wp2_with fail
 clear c8
 go_loopw [21] (fun i wr=>∃ k:Nat,k≤len∧i = .int .i64 k∧Hid (TmR w cs x.a5 g.rows.lists M (Nn k 0+1) (S k 0) wr)) (fun i _=>len-(intOf i).toNat)
 case atStart=>exact ⟨0,Nat.zero_le _,rfl,M2.out⟩
 case round =>
  obtain ⟨k,hk,rfl,HK⟩:=hrel
  clear M2
  by_cases hlt:k<len
  ·have hkl:k<g.rows.lists.length:=by rw [Hlen.out];exact hlt
   obtain ⟨b,off,ak,ck,ha,hb,hc,hr,-⟩:=HK.out.here k hkl
   have hlt':(k:Int)<(len:Int):=by omega
   have hn:=Sz.out k hlt
   have Tm1:=Tm.out k
   have Bd1:=Bd.out k
   have S1k:=S1.out k
   have N1k:=N1.out k
   have Snx:Hid (S (k+1) 0=S k (izAt g.rows.lists k).length):=S2.out k hlt
   have Nnx:Hid (Nn (k+1) 0=Nn k (izAt g.rows.lists k).length):=N2.out k hlt
   obtain ⟨n,hnl⟩:∃ n,(izAt g.rows.lists k).length=n:=⟨_,rfl⟩
   rw [hnl] at hc hn Snx Nnx Tm1 S1k N1k
   have Hnl:Hid ((izAt g.rows.lists k).length=n):=hnl
   have TM:Hid _:=Tm1
   have BD:Hid _:=Bd1
   have SK:Hid _:=S1k
   have NK:Hid _:=N1k
   have HA:Hid (x.a5=some ⟨b,off,none⟩):=ha
   have HK0:Hid (TmR w cs x.a5 g.rows.lists M (Nn k 0+1) (S k 0) wr∧ItsAt wr ak (izAt g.rows.lists k)):=⟨HK.out,hr⟩
   rw [ha]
   clear hnl Tm1 Bd1 S1k N1k hr HK ha
   go_wp2
   clear hc hb
   go_loopw [27] (fun j wr=>∃ q:Nat,q≤n∧j = .int .i64 q∧Hid (TmR w cs x.a5 g.rows.lists M (Nn k q+1) (S k q) wr∧ItsAt wr ak (izAt g.rows.lists k))) (fun j _=>n-(intOf j).toNat)
   case atStart=>exact ⟨0,Nat.zero_le _,rfl,HK0.out⟩
   case round =>
    obtain ⟨q,hq,rfl,HQ⟩:=hrel
    clear HK0
    by_cases hql:q<n
    ·have hqn:q<(izAt g.rows.lists k).length:=by rw [Hnl.out];exact hql
     obtain ⟨b2,off2,ha2,hb2,-⟩:=HQ.out.2 q hqn
     subst ha2
     obtain ⟨e0,e1,e2⟩:=HQ.out.2.cells hqn
     have hs:=SK.out q hql
     have hnn:=NK.out q hql
     have wf:=TM.out q hlt hql
     have hL:=BD.out q hlt
     have hql':(q:Int)<(n:Int):=by omega
     generalize itAt (izAt g.rows.lists k) q=y at e0 e1 e2 hs wf
     obtain ⟨x0,x1,x2⟩:=y
     simp only [] at e0 e1 e2 hs wf
     have AD:=fun W1 h=>implAdd M (Nn k q+1) (S k q) x2 W1 (by omega) (wf_tm wf.1 wf.2) h
     rw [hs] at AD
     have AD':Hid _:=AD
     have Hnn:Hid (Nn k (q+1)=Nn k q+1):=hnn
     have H3:Hid (TmR w cs x.a5 g.rows.lists M (Nn k q+1) (S k q) (wr.alloc (.cells #[.int .i64 x0,.int .i64 x1,.int .i64 x2] 80))∧ItsAt (wr.alloc (.cells #[.int .i64 x0,.int .i64 x1,.int .i64 x2] 80)) (some ⟨b2,off2,none⟩) (izAt g.rows.lists k)):=⟨HQ.out.1.alloc _,HQ.out.2.alloc _⟩
     clear AD hs hL wf hnn
     go_wp2_with fail
     refine (AD'.out _ H3.out.1.ids).mono ?_
     rintro e5 w5 ⟨rfl,m5,g5⟩
     have H5:Hid (TmR w cs x.a5 g.rows.lists M (Nn k (q+1)+1) (S k (q+1)) w5∧ItsAt w5 (some ⟨b2,off2,none⟩) (izAt g.rows.lists k)):=by
      rw [Hnn.out]
      exact ⟨H3.out.1.add m5 g5,H3.out.2.asideS H3.out.1.ids g5⟩
     clear m5 g5 H3 HQ e0 e1 e2
     go_wp2
     go_roundw
     case rel=>exact ⟨q+1,by omega,by go_num,H5⟩
     case measure=>simp [intOf];omega
    ·obtain rfl:q=n:=by omega
     go_wp2
     go_roundw
     case rel =>
      refine ⟨k+1,by omega,by go_num,?_⟩
      show TmR _ _ _ _ _ _ _ _
      rw [Snx.out,Nnx.out,← HA.out]
      exact HQ.out.1
     case measure=>simp [intOf];omega
  ·obtain rfl:k=len:=by omega
   go_wp2_with fail
   refine (RI'.out M _ _ (by rw [Ne.out];have:=Al.out;omega) HK.out.ids).mono ?_
   rintro e5 w5 ⟨⟨v5,rfl,r5⟩,b5⟩
   have H5:Hid (IRow w.heap.size w5 v5 ys∧Below w.heap.size w w5):=⟨r5.mono HK.out.bel.size,HK.out.bel.trans (b5.mono HK.out.bel.size)⟩
   clear r5 b5 HK
   go_wp2
   go_ret
   exact ⟨⟨_,rfl,by rw [E1.out];exact H5.out.1⟩,H5.out.2⟩
end Go.Proofs.YtmfabeghfdoibaaGreat
