import Derived.Test.YtmfabeghfdoibaaGreatQT36GtMvP
import Derived.Test.YtmfabeghfdoibaaGreatQT30GtTmI
import Derived.Test.YtmfabeghfdoibaaGreatQT39GtOwnI
set_option maxHeartbeats 12800000
set_option maxRecDepth 100000
namespace Go.Proofs.YtmfabeghfdoibaaGreat
open Go.RowKit
theorem gtIn_zero (b:Nat) (w:World) (hb:b≤w.heap.size):GtIn b w.heap.size w (.agg #[.int .i64 0,.int .i64 0,.int .i64 0,.slice none 0 0,.slice none 0 0,.slice none 0 0,.slice none 0 0,.int .i64 0,.slice none 0 0,.slice none 0 0,.int .i64 0,.slice none 0 0,.int .i64 0,.int .i64 0]) Gt.zero:=by
 refine ⟨⟨none,0,none,0,none,0,none,0,none,0,none,0,none,0⟩,⟨w.heap.size,w.heap.size,w.heap.size,w.heap.size,w.heap.size,w.heap.size,w.heap.size,w.heap.size,w.heap.size,w.heap.size,w.heap.size,w.heap.size,w.heap.size,w.heap.size⟩,rfl,⟨RtsW.of_row (World.ownsRow_nil _ _ _ _),RusW.of_row (World.ownsRow_nil _ _ _ _),NdsW.of_row (World.ownsRow_nil _ _ _ _),IntsW.of_row (World.ownsRow_nil _ _ _ _),⟨none,0,rfl,[],(IzG.nil _ _).done⟩,SrsW.of_row (World.ownsRow_nil _ _ _ _),⟨none,0,rfl,[],(FwG.nil _ _).done⟩⟩,?_,?_,nlr⟩
 ·constructor<;>(try simp only)<;>omega
 ·constructor<;>exact .inl nlr
structure MvS (w:World) (A B:Nat) (x:Ga) (f:Gf) (g:Gt) (wr:World):Prop where
 gw:GtW wr x f g
 inn:f.In (A+2) B
 ap:f.Apart
 box:Boxed wr B (g.cells x) 50
 res:Boxed wr (A+1) gz 50
 bel:Below A w wr
section
variable {w wr:World} {A B:Nat} {x:Ga} {f:Gf} {g:Gt} {vs:List Value}
theorem MvS.tm (h:MvS w A B x f g wr) {sk off:Nat} (ea:x.a3=some ⟨sk,off,none⟩) (hsk:f.b3≤sk∧sk<f.t3) {k:Nat} (hk:k<g.tree.length) (n:Int) :
 MvS w A B x f { g with tree:=g.tree.set k (nmv n (ndAt g.tree k)) } (wr.setCell ⟨sk,off+k*5+4,none⟩ (.int .i64 ((ndAt g.tree k).pz.tm+n))):=by
 have i:=h.inn
 have l3:=i.l3
 have h3:=i.h3
 have p:=h.gw.putTm i (Nat.le_of_lt h.box.under) h.ap ea hk n
 refine ⟨p.1,i,h.ap,?_,h.res.far (by omega) _ _,h.bel.setCell (by show A≤sk;omega) _⟩
 rw [show (({ g with tree:=g.tree.set k (nmv n (ndAt g.tree k)) }:Gt).cells x)=g.cells x from Gt.cells_tree (l:=g.tree) (List.length_set ..)]
 exact h.box.far (by omega) _ _
theorem MvS.it (h:MvS w A B x f g wr) (hz:IzV f.b5 f.t5 wr (.slice x.a5 g.rows.lists.length x.c5) vs g.rows.lists) {j k sk off m c:Nat} (hj:j<g.rows.lists.length) (hk:k<(izAt g.rows.lists j).length) (e:izV vs j = .slice (some ⟨sk,off,none⟩) m c) (hsk:f.b5≤sk∧sk<f.t5) (n:Int) :
 MvS w A B x f { g with rows:=⟨g.rows.most,g.rows.lists.set j ((izAt g.rows.lists j).set k (imv n (itAt (izAt g.rows.lists j) k)))⟩ } (wr.setCell ⟨sk,off+k*3+2,none⟩ (.int .i64 ((itAt (izAt g.rows.lists j) k).tm+n))) ∧
 IzV f.b5 f.t5 (wr.setCell ⟨sk,off+k*3+2,none⟩ (.int .i64 ((itAt (izAt g.rows.lists j) k).tm+n))) (.slice x.a5 (g.rows.lists.set j ((izAt g.rows.lists j).set k (imv n (itAt (izAt g.rows.lists j) k)))).length x.c5) vs (g.rows.lists.set j ((izAt g.rows.lists j).set k (imv n (itAt (izAt g.rows.lists j) k)))):=by
 have i:=h.inn
 have l3:=i.l5
 have h3:=i.h5
 have p:=h.gw.putIt hz i (Nat.le_of_lt h.box.under) h.ap hj hk e n
 refine ⟨⟨p.1,i,h.ap,?_,h.res.far (by omega) _ _,h.bel.setCell (by show A≤sk;omega) _⟩,p.2.1⟩
 rw [show (({ g with rows:=⟨g.rows.most,g.rows.lists.set j ((izAt g.rows.lists j).set k (imv n (itAt (izAt g.rows.lists j) k)))⟩ }:Gt).cells x)=g.cells x from Gt.cells_lists (l:=g.rows.lists) (List.length_set ..)]
 exact h.box.far (by omega) _ _
end
theorem implMoved (g:Gt) (v:Value) (n:Int) (w:World) (hB:g.big≤1048576) (h:Hid (GtAt w v g)) :
 Calls Tryz.prog 9 #[v,.int .i64 n] w fun e w'=>(∃ v',e = .returned (.tuple #[v',.bool (g.movedB n)])∧GtIn w.heap.size w'.heap.size w' v' (g.moved n))∧Below w.heap.size w w':=by
 obtain ⟨x,rfl,hG⟩:=h.out
 obtain ⟨z1,z2,z3,z4,z5,z6,z7⟩:=Gt.small hB
 obtain ⟨y1,y2,y3⟩:=Rw.small z5
 have A1:∀ W,GtV W x g→Calls Tryz.prog 14 #[g.val x] W fun e w'=>(∃ v',e = .returned v'∧IRow W.heap.size w' v' g.times)∧Below W.heap.size W w':=fun W hh=>implTimes g (g.val x) W hB ⟨x,rfl,hh⟩
 have A2:=fun W (hh:GtV W x g)=>implOwnGate g x W hB hh
 have A4:Hid (∀ t W,Calls Tryz.prog 41 #[.int .i64 t] W fun e w'=>e = .returned (.bool (inB 0 1099511627776 t))∧Below W.heap.size W w'):=fun t W=>implTimeB t W
 have Hno:Hid (g.ok=false→g.times=[]∧g.movedB n=false∧g.moved n=Gt.zero):=fun e=>by
  have e2:g.movedB n=false:=by unfold Gt.movedB;rw [e,Bool.false_and]
  exact ⟨by unfold Gt.times;rw [e];rfl,e2,by unfold Gt.moved;rw [e2];rfl⟩
 have Hyes:Hid (g.ok=true→(∃ p,g.times.length=p+1∧p≤201)∧(0≤lastI g.times∧lastI g.times≤1099511627776)∧(inB 0 1099511627776 n=false→g.movedB n=false∧g.moved n=Gt.zero)∧(inB 0 1099511627776 n=true→g.movedB n=inB 0 1099511627776 (lastI g.times+n)∧g.moved n=if inB 0 1099511627776 (lastI g.times+n)=true then g.mv n else Gt.zero)∧(∀ k,k<g.tree.length→0≤(ndAt g.tree k).pz.tm∧(ndAt g.tree k).pz.tm≤1099511627776)∧∀ i k,i<g.rows.lists.length→k<(izAt g.rows.lists i).length→0≤(itAt (izAt g.rows.lists i) k).tm∧(itAt (izAt g.rows.lists i) k).tm≤1099511627776):=fun e=>by
  have et:g.times=tmsOf (ndAt g.tree 0).pz.tm g.rows.all:=by unfold Gt.times;rw [if_pos e]
  have hl:=tmsOf_len (ndAt g.tree 0).pz.tm g.rows.all
  rw [← et] at hl
  have hp:=(tok_iff.1 (Gt.head_iff.1 (Gt.ok_iff.1 e).1).2.2.2.1).1
  have h5:=Rw.ok_iff.1 (Gt.head_iff.1 (Gt.ok_iff.1 e).1).2.2.2.2.2.1
  have h6:g.rows.all.length≤200:=by have:=h5.2.2.2.2;have:=h5.1.2;omega
  refine ⟨⟨g.times.length-1,by omega,by omega⟩,?_,fun e2=>?_,fun e2=>?_,fun k hk=>Gt.tree_tm e hk,fun i k hi hk=>Gt.item_tm e hi hk⟩
  ·have hm:lastI g.times∈g.times:=lastI_mem hl.1
   rw [et,tmsOf_mem,← et] at hm
   rcases hm with e3|⟨y,hy,e3⟩
   ·rw [e3];exact Gt.tree_tm e (by omega)
   ·have:=h5.2.2.1 y hy
    unfold It.ok at this
    simp only [Bool.and_eq_true,inB_true] at this
    rw [← e3]
    exact this.2.2
  ·have e3:g.movedB n=false:=by unfold Gt.movedB;rw [e2,Bool.false_and,Bool.and_false]
   exact ⟨e3,by unfold Gt.moved;rw [e3];rfl⟩
  ·have e3:g.movedB n=inB 0 1099511627776 (lastI g.times+n):=by unfold Gt.movedB;rw [e,e2,mv_ok e e2];rfl
   exact ⟨e3,by unfold Gt.moved;rw [e3]⟩
 have K:Hid (∀ w',Below w.heap.size w w'→GtV w' x g):=fun w' q=>hG.below q
 generalize g.movedB n=fl at Hno Hyes ⊢
 generalize g.moved n=ga at Hno Hyes ⊢
 generalize g.ok=ok at Hno Hyes
 have Hl:Hid (∀ l:List Int,lastI l=l[l.length-1]?.getD 0):=fun l=>rfl
 generalize g.times=ts at A1 Hno Hyes
 obtain ⟨nb,hnb⟩:∃ z,inB 0 1099511627776 n=z:=⟨_,rfl⟩
 have A4n:=A4.out n
 rw [hnb] at A4n
 rw [hnb] at Hyes
 have Nn:Hid (nb=true→0≤n∧n≤1099511627776):=fun e=>inB_true.1 (hnb.trans e)
 have hs:=Gt.cells_size g x
 have Sh:Hid (∀ x':Ga,(g.cells x').size=14∧(g.cells x').all (·.oneCell')=true):=fun x'=>⟨Gt.cells_size g x',Gt.cells_one g x'⟩
 unfold Gt.val at A1 A2 ⊢
 generalize g.cells x=cs at A1 A2 hs ⊢
 have A1':Hid _:=A1
 have A2':Hid _:=A2
 have A4n':Hid _:=A4n
 have Hs:Hid (cs.size=14):=hs
 clear A1 A2 A4n h hG hs hnb
 obtain ⟨A,hA⟩:∃ A,A=w.heap.size:=⟨_,rfl⟩
 obtain ⟨W0,hW⟩:∃ W,W=(w.alloc (.cells cs 50)).alloc (.cells gz 50):=⟨_,rfl⟩
 have X:Hid (Boxed W0 A cs 50∧Boxed W0 (A+1) gz 50∧Below w.heap.size w W0):=by
  rw [hW,hA]
  refine ⟨(Boxed.new w _ _).more _,?_,((Below.refl _ _).alloc nlr _).alloc (by simp) _⟩
  have:=Boxed.new (w.alloc (.cells cs 50)) gz 50
  simpa using this
 have HW:Hid (W0=_):=hW
 have HA:Hid (A=w.heap.size):=hA
 clear hW hA
 go_enter Tryz.func9,Tryz.ntmps9
 go_upto_region 1 with fail
 rw [← HW.out,← HA.out]
 clear HW
 go_wp2_with (refine wpList_load_row rfl 50 (.tmp 2) rfl A rfl _ _ _ _ X.out.1 Tryz.underlying50 rfl (by rw [Hs.out];kernel_rfl) ?_)
 refine (A1'.out _ (K.out _ X.out.2.2)).mono ?_
 rintro e w1 ⟨⟨v1,rfl,r1⟩,q⟩
 have X1:Hid (Boxed w1 A cs 50∧Boxed w1 (A+1) gz 50∧Below w.heap.size w w1):=⟨X.out.1.below X.out.1.under q,X.out.2.1.below X.out.2.1.under q,X.out.2.2.trans (q.mono X.out.2.2.size)⟩
 obtain ⟨a1,c1,rfl⟩:=r1.shape
 have I1:Hid (IntsAt w1 a1 ts):=r1.ints
 clear q X A1' r1
 cases ok
 ·obtain ⟨e0,e1,e2⟩:=Hno.out rfl
  subst e0
  subst e1
  subst e2
  clear A2' A4 A4n' Hyes I1
  go_wp2_with (refine wpList_store_row rfl 50 (.tmp 4) (.tmp 34) rfl (A+1) gz rfl rfl _ _ X1.out.2.1 (by kernel_rfl) rfl (by simp [Value.oneCell']) ?_)
  refine bodyPost_ret (results_row_tmp Tryz.results9 _ _ (A+1) _ gz _ _ (.bool false) rfl rfl (setRow_heap w1 (A+1) _ _ _ _ X1.out.2.1) Tryz.underlying50 rfl (by kernel_rfl)) rfl ⟨⟨_,rfl,?_⟩,below_setRow X1.out.2.2 (by rw [HA.out];omega) _⟩
  exact gtIn_zero _ _ (by simp;have:=X1.out.2.2.size;omega)
 obtain ⟨⟨p,hp,hp2⟩,hla,hn0,hn1,htm,hit⟩:=Hyes.out rfl
 rw [hp]
 have Hp:Hid (ts.length=p+1):=hp
 have La:Hid _:=hla
 have N0:Hid _:=hn0
 have N1:Hid _:=hn1
 have Ht:Hid _:=htm
 have Hi:Hid _:=hit
 clear hp hla hn0 hn1 htm hit Hno Hyes
 have hpn:((p:Int)+1==0)=false:=by rw [beq_eq_false_iff_ne];omega
 go_wp2_with fail
 refine (A4n'.out w1).mono ?_
 rintro e w2 ⟨rfl,q⟩
 have X2:Hid (Boxed w2 A cs 50∧Boxed w2 (A+1) gz 50∧Below w.heap.size w w2∧IntsAt w2 a1 ts):=⟨X1.out.1.below X1.out.1.under q,X1.out.2.1.below X1.out.2.1.under q,X1.out.2.2.trans (q.mono X1.out.2.2.size),I1.out.below q⟩
 clear q X1 I1 A4n'
 cases nb
 ·obtain ⟨e1,e2⟩:=N0.out (by first|exact trivial|exact rfl)
  subst e1
  subst e2
  clear A2' A4 N1
  go_wp2_with (refine wpList_store_row rfl 50 (.tmp 4) (.tmp 34) rfl (A+1) gz rfl rfl _ _ X2.out.2.1 (by kernel_rfl) rfl (by simp [Value.oneCell']) ?_)
  refine bodyPost_ret (results_row_tmp Tryz.results9 _ _ (A+1) _ gz _ _ (.bool false) rfl rfl (setRow_heap w2 (A+1) _ _ _ _ X2.out.2.1) Tryz.underlying50 rfl (by kernel_rfl)) rfl ⟨⟨_,rfl,?_⟩,below_setRow X2.out.2.2.1 (by rw [HA.out];omega) _⟩
  exact gtIn_zero _ _ (by simp;have:=X2.out.2.2.1.size;omega)
 obtain ⟨e1,e2⟩:=N1.out (by first|exact trivial|exact rfl)
 have E1:Hid (fl=_):=e1
 have E2:Hid (ga=_):=e2
 have hn:=Nn.out (by first|exact trivial|exact rfl)
 have Hn:Hid (0≤n∧n≤1099511627776):=hn
 have hla:=La.out
 obtain ⟨gt,off,ea1,hb1,hc1⟩:=X2.out.2.2.2 p (by rw [Hp.out];omega)
 have el:ts[p]?.getD 0=lastI ts:=by rw [Hl.out,Hp.out];rfl
 rw [el] at hc1
 subst ea1
 generalize lastI ts=la at hc1 hla E1 E2 La
 have q1:IntKind.i64.wrap (la+n)=la+n:=by rw [IntKind.wrap_i64];omega
 have A4l:=A4.out (la+n)
 obtain ⟨lb,hlb⟩:∃ z,inB 0 1099511627776 (la+n)=z:=⟨_,rfl⟩
 rw [hlb] at A4l
 rw [hlb] at E1 E2
 have A4l':Hid _:=A4l
 have hp3:(p:Int)+1-1=(p:Int):=by omega
 have hp4:(p:Int)<(p:Int)+1:=by omega
 clear A4 A4l e1 e2 N0 N1 Nn La hlb el hn hla Hl
 go_wp2_with fail
 refine (A4l'.out w2).mono ?_
 rintro e w3 ⟨rfl,q⟩
 have X3:Hid (Boxed w3 A cs 50∧Boxed w3 (A+1) gz 50∧Below w.heap.size w w3):=⟨X2.out.1.below X2.out.1.under q,X2.out.2.1.below X2.out.2.1.under q,X2.out.2.2.1.trans (q.mono X2.out.2.2.1.size)⟩
 clear q X2 A4l' hc1 q1 hp3 hp4
 cases lb
 ·have E3:Hid (ga=Gt.zero):=by show ga=_;rw [E2.out];rfl
  obtain rfl:=E1.out
  clear A2'
  go_wp2_with (refine wpList_store_row rfl 50 (.tmp 4) (.tmp 34) rfl (A+1) gz rfl rfl _ _ X3.out.2.1 (by kernel_rfl) rfl (by simp [Value.oneCell']) ?_)
  refine bodyPost_ret (results_row_tmp Tryz.results9 _ _ (A+1) _ gz _ _ (.bool false) rfl rfl (setRow_heap w3 (A+1) _ _ _ _ X3.out.2.1) Tryz.underlying50 rfl (by kernel_rfl)) rfl ⟨⟨_,rfl,?_⟩,below_setRow X3.out.2.2 (by rw [HA.out];omega) _⟩
  rw [E3.out]
  exact gtIn_zero _ _ (by simp;have:=X3.out.2.2.size;omega)
 have E3:Hid (ga=g.mv n):=by show ga=_;rw [E2.out];rfl
 obtain rfl:=E1.out
 clear E1 E2 hpn
 go_wp2_with (refine wpList_load_row rfl 50 (.tmp 2) rfl A rfl _ _ _ _ X3.out.1 Tryz.underlying50 rfl (by rw [Hs.out];kernel_rfl) ?_)
 refine (A2'.out _ (K.out _ X3.out.2.2)).mono ?_
 rintro e w4 ⟨⟨x',f,vs,rs,rfl,-,gw,fi,fa⟩,q⟩
 have hu1:=X3.out.2.1.under
 have X4:Hid (Boxed w4 (A+1) gz 50∧Below w.heap.size w w4∧A+2≤w4.heap.size):=⟨X3.out.2.1.below X3.out.2.1.under q,X3.out.2.2.trans (q.mono X3.out.2.2.size),Nat.le_trans hu1 q.size⟩
 have M4:Hid (GtW w4 x' f g∧f.In (A+2) w4.heap.size∧f.Apart):=⟨gw,fi.wide (by omega) nlr,fa⟩
 clear gw fi fa q X3 A2' hu1
 have N:Hid (Boxed (w4.alloc (.cells gz 50)) w4.heap.size gz 50):=Boxed.new _ _ _
 have bN:Hid (Below w4.heap.size w4 ((w4.alloc (.cells gz 50)).setRow w4.heap.size (g.cells x'))):=below_setRow ((Below.refl _ _).alloc nlr _) nlr _
 have S5:Hid (MvS w A w4.heap.size x' f g ((w4.alloc (.cells gz 50)).setRow w4.heap.size (g.cells x'))) :=
  ⟨M4.out.1.below bN.out,M4.out.2.1,M4.out.2.2,setRow_heap _ _ _ _ _ _ N.out,X4.out.1.below X4.out.1.under bN.out,by rw [HA.out];exact X4.out.2.1.trans (bN.out.mono X4.out.2.1.size)⟩
 have Or:Hid (A+2≤w4.heap.size):=X4.out.2.2
 have H2:Hid ((g.cells x').size=14∧(g.cells x').all (·.oneCell')=true):=Sh.out x'
 generalize g.cells x'=c' at H2 N bN S5 ⊢
 go_upto_region 5 with (refine wpList_store_row rfl 50 (.tmp 7) (.tmp 36) rfl w4.heap.size c' rfl rfl _ _ N.out (by rw [H2.out.1];kernel_rfl) (by rw [H2.out.1];rfl) H2.out.2 ?_)
 try simp only [Act.put]
 generalize (w4.alloc (.cells gz 50)).setRow w4.heap.size c'=w5 at S5 ⊢
 generalize w4.heap.size=B at S5 Or ⊢
 clear N bN X4 M4 H2 K Sh
 have T0:Hid (MvS w A B x' f { g with tree:=mapTo (nmv n) 0 g.tree } w5):=by rw [mapTo_zero];exact S5.out
 clear S5
 have Tl:Hid (∀ i,(mapTo (nmv n) i g.tree).length=g.tree.length):=fun i=>mapTo_len
 have Ta:Hid (∀ i,i<g.tree.length→ndAt (mapTo (nmv n) i g.tree) i=ndAt g.tree i):=fun i hi=>ndAt_mapTo hi
 have Tn:Hid (∀ i,i<g.tree.length→(mapTo (nmv n) i g.tree).set i (nmv n (ndAt g.tree i))=mapTo (nmv n) (i+1) g.tree):=fun i hi=>mapTo_nd hi
 have Te:Hid (mapTo (nmv n) g.tree.length g.tree=g.tree.map (nmv n)):=mapTo_all
 obtain ⟨n3,hn3⟩:∃ m,g.tree.length=m:=⟨_,rfl⟩
 rw [hn3] at Tl Ta Tn Te Ht z3
 clear hn3
 have c5:w5.cell? ⟨B,5,none⟩=some (.slice x'.a3 (mapTo (nmv n) 0 g.tree).length x'.c3):=T0.out.box.cell 5 rfl
 rw [Tl.out 0] at c5
 go_wp2_with fail
 clear c5
 go_loopw [40] (fun s wr=>∃ i:Nat,i≤n3∧s = .int .i64 i∧Hid (MvS w A B x' f { g with tree:=mapTo (nmv n) i g.tree } wr)) (fun s _=>n3-(intOf s).toNat)
 case atStart=>exact ⟨0,Nat.zero_le _,rfl,T0.out⟩
 case round =>
  obtain ⟨i,hi,rfl,HK⟩:=hrel
  clear T0
  have c5:wr.cell? ⟨B,5,none⟩=some (.slice x'.a3 (mapTo (nmv n) i g.tree).length x'.c3):=HK.out.box.cell 5 rfl
  rw [Tl.out i] at c5
  by_cases hlt:i<n3
  ·have hlt':(i:Int)<(n3:Int):=by omega
   have hil:i<(mapTo (nmv n) i g.tree).length:=by rw [Tl.out];exact hlt
   obtain ⟨sk,off3,ea,hsk,c4,fz⟩:=GtW.tmSpot HK.out.gw (k:=i) hil
   have F0:=MvS.tm HK.out ea hsk (k:=i) hil n
   simp only [] at c4 F0
   rw [Ta.out i hlt] at c4 F0
   rw [Tn.out i hlt] at F0
   rw [ea] at c5
   have hz:=Ht.out i hlt
   have hnn:=Hn.out
   have q1:IntKind.i64.wrap ((ndAt g.tree i).pz.tm+n)=(ndAt g.tree i).pz.tm+n:=by rw [IntKind.wrap_i64];omega
   have F:Hid _:=F0
   generalize (ndAt g.tree i).pz.tm=tm at c4 q1 F
   clear F0 ea hsk hz hnn HK hil
   go_wp2
   go_roundw
   case rel=>exact ⟨i+1,by omega,by go_num,F.out⟩
   case measure=>simp [intOf];omega
  obtain rfl:n3=i:=by omega
  rw [Te.out] at HK
  clear Tl Ta Tn Te Ht hlt c5
  have Ll:Hid (∀ i,(mapTo (List.map (imv n)) i g.rows.lists).length=g.rows.lists.length):=fun i=>mapTo_len
  have Lm:Hid (∀ i k,(mapIn (imv n) i k g.rows.lists).length=g.rows.lists.length):=fun i k=>mapIn_len
  have Lz:Hid (∀ i,i<g.rows.lists.length→mapIn (imv n) i 0 g.rows.lists=mapTo (List.map (imv n)) i g.rows.lists):=fun i hi=>mapIn_zero hi
  have La:Hid (∀ i k,i<g.rows.lists.length→izAt (mapIn (imv n) i k g.rows.lists) i=mapTo (imv n) k (izAt g.rows.lists i)):=fun i k hi=>mapIn_at hi
  have Lx:Hid (∀ i,i<g.rows.lists.length→mapIn (imv n) i (izAt g.rows.lists i).length g.rows.lists=mapTo (List.map (imv n)) (i+1) g.rows.lists):=fun i hi=>mapIn_end hi
  have Le:Hid (mapTo (List.map (imv n)) g.rows.lists.length g.rows.lists=g.rows.lists.map (List.map (imv n))):=mapTo_all
  obtain ⟨g1,hg1⟩:∃ g1:Gt,g1={ g with tree:=g.tree.map (nmv n) }:=⟨_,rfl⟩
  have G1:Hid (∀ l,({ g with tree:=g.tree.map (nmv n),rows:=⟨g.rows.most,l⟩ }:Gt)={ g1 with rows:=⟨g.rows.most,l⟩ }):=fun l=>by rw [hg1]
  have G0:Hid ((∃ vs,IzV f.b5 f.t5 wr (.slice x'.a5 (mapTo (List.map (imv n)) 0 g.rows.lists).length x'.c5) vs (mapTo (List.map (imv n)) 0 g.rows.lists))∧MvS w A B x' f { g1 with rows:=⟨g.rows.most,mapTo (List.map (imv n)) 0 g.rows.lists⟩ } wr):=by
   rw [← G1.out,mapTo_zero]
   exact ⟨GtW.izv (g:={ g with tree:=g.tree.map (nmv n) }) HK.out.gw,HK.out⟩
  have Hmv:Hid ({ g1 with rows:=⟨g.rows.most,g.rows.lists.map (List.map (imv n))⟩ }=g.mv n):=by show _=_;rw [hg1];rfl
  clear HK G1 hg1
  obtain ⟨len,hlen⟩:∃ m,g.rows.lists.length=m:=⟨_,rfl⟩
  have Hlen:Hid (g.rows.lists.length=len):=hlen
  have Y3:Hid (∀ k,k<g.rows.lists.length→(izAt g.rows.lists k).length≤1048576):=y3
  rw [hlen] at y1
  have c8:wr.cell? ⟨B,8,none⟩=some (.slice x'.a5 (mapTo (List.map (imv n)) 0 g.rows.lists).length x'.c5):=G0.out.2.box.cell 8 rfl
  rw [Ll.out 0,hlen] at c8
  clear hlen y2 y3 z1 z2 z4 z5 z6 z7 hB
  go_wp2
  clear c8
  go_loopw [60] (fun s wr=>∃ i:Nat,i≤len∧s = .int .i64 i∧Hid ((∃ vs,IzV f.b5 f.t5 wr (.slice x'.a5 (mapTo (List.map (imv n)) i g.rows.lists).length x'.c5) vs (mapTo (List.map (imv n)) i g.rows.lists))∧MvS w A B x' f { g1 with rows:=⟨g.rows.most,mapTo (List.map (imv n)) i g.rows.lists⟩ } wr)) (fun s _=>len-(intOf s).toNat)
  case atStart=>exact ⟨0,Nat.zero_le _,rfl,G0.out⟩
  case round =>
   obtain ⟨i,hi,rfl,HK⟩:=hrel
   clear G0
   by_cases hlt:i<len
   ·have hlt':(i:Int)<(len:Int):=by omega
    have hil:i<g.rows.lists.length:=by rw [Hlen.out];exact hlt
    have hm:=Y3.out i hil
    obtain ⟨vs5,hz5⟩:=HK.out.1
    obtain ⟨b5,off5,ak,ck,ha5,hc5,hv5⟩:=hz5.header (i:=i) (by rw [Ll.out];exact hil)
    have la0:izAt (mapTo (List.map (imv n)) i g.rows.lists) i=izAt g.rows.lists i:=izAt_mapTo hil
    rw [la0] at hc5 hv5
    obtain ⟨m,hml⟩:∃ m,(izAt g.rows.lists i).length=m:=⟨_,rfl⟩
    have Hml:Hid ((izAt g.rows.lists i).length=m):=hml
    rw [hml] at hm hc5 hv5
    have Hv5:Hid _:=hv5
    have HA5:Hid (x'.a5=some ⟨b5,off5,none⟩):=ha5
    have Nx:Hid (mapIn (imv n) i m g.rows.lists=mapTo (List.map (imv n)) (i+1) g.rows.lists):=by have:=Lx.out i hil;rw [hml] at this;exact this
    have I0:Hid (IzV f.b5 f.t5 wr (.slice x'.a5 (mapIn (imv n) i 0 g.rows.lists).length x'.c5) vs5 (mapIn (imv n) i 0 g.rows.lists)∧MvS w A B x' f { g1 with rows:=⟨g.rows.most,mapIn (imv n) i 0 g.rows.lists⟩ } wr):=by rw [Lz.out i hil];exact ⟨hz5,HK.out.2⟩
    rw [ha5]
    clear hml HK hz5 hv5 la0 ha5
    go_wp2
    clear hc5
    go_loopw [66] (fun s wr=>∃ k:Nat,k≤m∧s = .int .i64 k∧Hid (IzV f.b5 f.t5 wr (.slice x'.a5 (mapIn (imv n) i k g.rows.lists).length x'.c5) vs5 (mapIn (imv n) i k g.rows.lists)∧MvS w A B x' f { g1 with rows:=⟨g.rows.most,mapIn (imv n) i k g.rows.lists⟩ } wr)) (fun s _=>m-(intOf s).toNat)
    case atStart=>exact ⟨0,Nat.zero_le _,rfl,I0.out⟩
    case round =>
     obtain ⟨k,hk,rfl,HQ⟩:=hrel
     clear I0
     by_cases hql:k<m
     ·have hql':(k:Int)<(m:Int):=by omega
      have hkm:k<(izAt g.rows.lists i).length:=by rw [Hml.out];exact hql
      have hk2:k<(izAt (mapIn (imv n) i k g.rows.lists) i).length:=by rw [La.out i k hil,mapTo_len];exact hkm
      have hi2:i<(mapIn (imv n) i k g.rows.lists).length:=by rw [Lm.out];exact hil
      obtain ⟨sk,off6,cc,es,hsk,c2,fz⟩:=HQ.out.1.tmSpot hi2 hk2
      rw [Hv5.out] at es
      obtain ⟨e1,e2,e3⟩:=Value.slice.inj es
      subst e1
      have F0:=MvS.it HQ.out.2 HQ.out.1 hi2 hk2 Hv5.out hsk n
      simp only [] at F0
      rw [La.out i k hil,itAt_mapTo hkm] at c2 F0
      have en:(mapIn (imv n) i k g.rows.lists).set i ((mapTo (imv n) k (izAt g.rows.lists i)).set k (imv n (itAt (izAt g.rows.lists i) k)))=mapIn (imv n) i (k+1) g.rows.lists:=by
       have:=mapIn_next (f:=imv n) hil hkm
       rw [La.out i k hil] at this
       exact this
      rw [en] at F0
      have hz:=Hi.out i k hil hkm
      have hnn:=Hn.out
      have q1:IntKind.i64.wrap ((itAt (izAt g.rows.lists i) k).tm+n)=(itAt (izAt g.rows.lists i) k).tm+n:=by rw [IntKind.wrap_i64];omega
      have F:Hid _:=F0
      generalize (itAt (izAt g.rows.lists i) k).tm=tm at c2 q1 F
      clear F0 en hz hnn es e2 e3 HQ hk2 hsk hi2
      go_wp2
      go_roundw
      case rel=>exact ⟨k+1,by omega,by go_num,F.out.2,F.out.1⟩
      case measure=>simp [intOf];omega
     obtain rfl:m=k:=by omega
     rw [Nx.out] at HQ
     go_wp2
     go_roundw
     case rel=>exact ⟨i+1,by omega,by go_num,⟨vs5,by rw [← HA5.out];exact HQ.out.1⟩,HQ.out.2⟩
     case measure=>simp [intOf];omega
   obtain rfl:len=i:=by omega
   have Z:Hid (MvS w A B x' f (g.mv n) wr):=by
    have:=HK.out.2
    rw [← Hlen.out,Le.out,Hmv.out] at this
    exact this
   clear HK Ll Lm Lz La Lx Le Hi Y3 hlt
   have Sm:Hid (((g.mv n).cells x').size=14∧((g.mv n).cells x').all (·.oneCell')=true):=⟨Gt.cells_size _ x',Gt.cells_one _ x'⟩
   have Bz:Hid (Boxed wr B ((g.mv n).cells x') 50):=Z.out.box
   have Va:Hid ((Value.agg ((g.mv n).cells x'))=(g.mv n).val x'):=rfl
   generalize (g.mv n).cells x'=c2 at Sm Bz Va
   go_wp2_with (first|(refine wpList_load_row rfl 50 (.tmp 7) rfl B rfl _ _ _ _ Bz.out Tryz.underlying50 rfl (by rw [Sm.out.1];kernel_rfl) ?_)|(refine wpList_store_row rfl 50 (.tmp 4) (.tmp 80) rfl (A+1) c2 rfl rfl _ _ Z.out.res (by rw [Sm.out.1];kernel_rfl) (by rw [Sm.out.1];rfl) Sm.out.2 ?_))
   refine bodyPost_ret (results_row_tmp Tryz.results9 _ _ (A+1) _ c2 _ _ (.bool true) rfl rfl (setRow_heap wr (A+1) _ _ _ _ Z.out.res) Tryz.underlying50 rfl (by rw [Sm.out.1];kernel_rfl)) rfl ⟨⟨_,rfl,?_⟩,?_⟩
   ·rw [E3.out,Va.out]
    have hA:=HA.out
    have zb:=Z.out.box.under
    have hs:wr.heap.size≤(wr.setRow (A+1) c2).heap.size:=Nat.le_of_eq (by rw [size_setRow])
    exact ⟨x',f,rfl,Z.out.gw.keep Z.out.inn hs fun k k1 k2=>setRow_other _ _ _ _ (by omega),Z.out.inn.wide (by omega) (by omega),Z.out.ap,nlr⟩
   ·have hb:=Z.out.bel
    rw [HA.out] at hb
    exact below_setRow hb (by rw [HA.out];omega) _
end Go.Proofs.YtmfabeghfdoibaaGreat
