import Derived.Test.YtmfabeghfdoibaaGreatQT46GtCopyS
import Derived.Test.YtmfabeghfdoibaaGreatQT34GtOkS
import Derived.Test.YtmfabeghfdoibaaGreatQT36GtMvP
import Derived.BigRegion
set_option maxHeartbeats 12800000
set_option maxRecDepth 100000
namespace Go.Proofs.YtmfabeghfdoibaaGreat
open Go.RowKit
theorem specMoved (g:Gt) (v:Value) (n:Int) (w:World) (hB:g.big≤1048576) (h:Hid (GtAt w v g)) :
 Calls Tryz.prog 7 #[v,.int .i64 n] w fun e w'=>(∃ v',e = .returned (.tuple #[v',.bool (g.movedB n)])∧GtLie w.heap.size w'.heap.size w' v' (g.moved n))∧Below w.heap.size w w':=by
 obtain ⟨x,rfl,hG⟩:=h.out
 obtain ⟨z1,z2,z3,z4,z5,z6,z7⟩:=Gt.small hB
 obtain ⟨y1,y2,y3⟩:=Rw.small z5
 have A1:=fun w' (hh:Hid (GtV w' x g))=>specGateOk g x w' hB hh
 have A2:=fun w' (hh:Hid (GtV w' x g))=>specCopyG g x w' hB hh
 have A4:=fun w'=>specTime n w'
 have A3:Hid (∀ x' W,GtV W x' (g.mv n)→Calls Tryz.prog 30 #[(g.mv n).val x'] W fun e w'=>e = .returned (.bool (g.mv n).ok)∧Below W.heap.size W w'):=fun x' W hh=>specGateOk (g.mv n) x' W (by rw [mv_big];exact hB) hh
 have Hno:Hid ((g.ok&&inB 0 1099511627776 n)=false→g.movedB n=false∧g.moved n=Gt.zero):=fun e=>by
  have e2:g.movedB n=false:=by unfold Gt.movedB;rw [← Bool.and_assoc,e,Bool.false_and]
  exact ⟨e2,by unfold Gt.moved;rw [e2];rfl⟩
 have Hyes:Hid (g.ok=true→inB 0 1099511627776 n=true→(g.movedB n=(g.mv n).ok∧g.moved n=if (g.mv n).ok=true then g.mv n else Gt.zero)∧(0≤n∧n≤1099511627776)∧(∀ k,k<g.tree.length→0≤(ndAt g.tree k).pz.tm∧(ndAt g.tree k).pz.tm≤1099511627776)∧∀ i k,i<g.rows.lists.length→k<(izAt g.rows.lists i).length→0≤(itAt (izAt g.rows.lists i) k).tm∧(itAt (izAt g.rows.lists i) k).tm≤1099511627776):=fun e e'=>by
  have e2:g.movedB n=(g.mv n).ok:=by unfold Gt.movedB;rw [e,e'];rfl
  exact ⟨⟨e2,by unfold Gt.moved;rw [e2]⟩,inB_true.1 e',fun k hk=>Gt.tree_tm e hk,fun i k hi hk=>Gt.item_tm e hi hk⟩
 have K:Hid (∀ w',Below w.heap.size w w'→GtV w' x g):=fun w' q=>hG.below q
 generalize (g.mv n).ok=okm at A3 Hyes
 generalize g.movedB n=fl at Hno Hyes ⊢
 generalize g.moved n=ga at Hno Hyes ⊢
 generalize g.ok=ok at A1 Hno Hyes
 generalize inB 0 1099511627776 n=nb at A4 Hno Hyes
 have hs:=Gt.cells_size g x
 have Sh:Hid (∀ x':Ga,(g.cells x').size=14∧(g.cells x').all (·.oneCell')=true):=fun x'=>⟨Gt.cells_size g x',Gt.cells_one g x'⟩
 unfold Gt.val at A1 A2 A3 ⊢
 generalize g.cells x=cs at A1 A2 hs ⊢
 have A1':Hid _:=A1
 have A2':Hid _:=A2
 have A4':Hid _:=A4
 have Hs:Hid (cs.size=14):=hs
 clear A1 A2 A4 h hG hs
 obtain ⟨A,hA⟩:∃ A,A=w.heap.size:=⟨_,rfl⟩
 obtain ⟨W0,hW⟩:∃ W,W=(w.alloc (.cells cs 50)).alloc (.cells gz 50):=⟨_,rfl⟩
 have X:Hid (Boxed W0 A cs 50∧Boxed W0 (A+1) gz 50∧Below w.heap.size w W0∧A+2≤W0.heap.size):=by
  rw [hW,hA]
  refine ⟨(Boxed.new w _ _).more _,?_,((Below.refl _ _).alloc nlr _).alloc (by simp) _,by simp⟩
  have:=Boxed.new (w.alloc (.cells cs 50)) gz 50
  simpa using this
 have HW:Hid (W0=_):=hW
 have HA:Hid (A=w.heap.size):=hA
 clear hW hA
 go_enter Tryz.func7,Tryz.ntmps7
 go_upto_region 1 with fail
 rw [← HW.out,← HA.out]
 clear HW
 go_wp2_with (refine wpList_load_row rfl 50 (.tmp 2) rfl A rfl _ _ _ _ X.out.1 Tryz.underlying50 rfl (by rw [Hs.out];kernel_rfl) ?_)
 refine (A1'.out _ (K.out _ X.out.2.2.1)).mono ?_
 rintro e w1 ⟨rfl,q⟩
 have X1:Hid (Boxed w1 A cs 50∧Boxed w1 (A+1) gz 50∧Below w.heap.size w w1∧A+2≤w1.heap.size):=⟨X.out.1.below X.out.1.under q,X.out.2.1.below X.out.2.1.under q,X.out.2.2.1.trans (q.mono X.out.2.2.1.size),Nat.le_trans X.out.2.2.2 q.size⟩
 clear q X A1'
 have Z1:Hid (∀ W,Boxed W (A+1) gz 50→Below w.heap.size w W→∃ v',(Value.tuple #[.agg gz,.bool false] = .tuple #[v',.bool false]∧GtLie w.heap.size W.heap.size W v' Gt.zero)):=fun W _ _=>⟨_,rfl,GtLie.zero _ _⟩
 cases ok
 ·clear A2' A3 A4' Hyes
  obtain ⟨e1,e2⟩:=Hno.out (by first|exact trivial|exact rfl)
  subst e1
  subst e2
  go_wp2_with (refine wpList_store_row rfl 50 (.tmp 4) (.tmp 18) rfl (A+1) gz rfl rfl _ _ X1.out.2.1 (by kernel_rfl) rfl (by simp [Value.oneCell']) ?_)
  refine bodyPost_ret (results_row_tmp Tryz.results7 _ _ (A+1) _ gz _ _ (.bool false) rfl rfl (setRow_heap w1 (A+1) _ _ _ _ X1.out.2.1) Tryz.underlying50 rfl (by kernel_rfl)) rfl ⟨⟨_,rfl,?_⟩,below_setRow X1.out.2.2.1 (by rw [HA.out];omega) _⟩
  exact GtLie.zero _ _
 go_wp2_with fail
 refine (A4'.out w1).mono ?_
 rintro e w1' ⟨rfl,hw⟩
 obtain rfl:=hw.symm
 clear hw A4'
 cases nb
 ·clear A2' A3 Hyes
  obtain ⟨e1,e2⟩:=Hno.out (by first|exact trivial|exact rfl)
  subst e1
  subst e2
  go_wp2_with (refine wpList_store_row rfl 50 (.tmp 4) (.tmp 18) rfl (A+1) gz rfl rfl _ _ X1.out.2.1 (by kernel_rfl) rfl (by simp [Value.oneCell']) ?_)
  refine bodyPost_ret (results_row_tmp Tryz.results7 _ _ (A+1) _ gz _ _ (.bool false) rfl rfl (setRow_heap w1 (A+1) _ _ _ _ X1.out.2.1) Tryz.underlying50 rfl (by kernel_rfl)) rfl ⟨⟨_,rfl,?_⟩,below_setRow X1.out.2.2.1 (by rw [HA.out];omega) _⟩
  exact GtLie.zero _ _
 obtain ⟨⟨e1,e2⟩,hn,ht,hi⟩:=Hyes.out (by first|exact trivial|exact rfl) (by first|exact trivial|exact rfl)
 have E1:Hid (fl=okm):=e1
 have E2:Hid (ga=_):=e2
 clear e1
 have Ht:Hid _:=ht
 have Hi:Hid _:=hi
 have Hn:Hid (0≤n∧n≤1099511627776):=hn
 clear e2 ht hi hn Hno Hyes
 go_wp2_with (refine wpList_load_row rfl 50 (.tmp 2) rfl A rfl _ _ _ _ X1.out.1 Tryz.underlying50 rfl (by rw [Hs.out];kernel_rfl) ?_)
 refine (A2'.out _ (K.out _ X1.out.2.2.1)).mono ?_
 rintro e w2 ⟨⟨x',vs,rs,rfl,o⟩,q⟩
 have hx':=Sh.out x'
 have Bx:Hid (∀ W,Boxed W w2.heap.size (g.cells x') 50→GtO w1.heap.size W x' vs rs g→GtB w1.heap.size w2.heap.size W x' vs rs g):=fun W h1 h2=>⟨h1,h2⟩
 generalize g.cells x'=cs' at hx' Bx ⊢
 have Hx':Hid _:=hx'
 have X2:Hid (Boxed w2 (A+1) gz 50∧Below w.heap.size w w2∧A+2≤w1.heap.size∧w1.heap.size≤w2.heap.size):=⟨X1.out.2.1.below X1.out.2.1.under q,X1.out.2.2.1.trans (q.mono X1.out.2.2.1.size),X1.out.2.2.2,q.size⟩
 have N:Hid (Boxed (w2.alloc (.cells gz 50)) w2.heap.size gz 50):=Boxed.new _ _ _
 have bN:Below w2.heap.size w2 ((w2.alloc (.cells gz 50)).setRow w2.heap.size cs'):=below_setRow ((Below.refl _ _).alloc nlr _) nlr _
 have Y:Hid (GtB w1.heap.size w2.heap.size ((w2.alloc (.cells gz 50)).setRow w2.heap.size cs') x' vs rs g∧Boxed ((w2.alloc (.cells gz 50)).setRow w2.heap.size cs') (A+1) gz 50∧Below w.heap.size w ((w2.alloc (.cells gz 50)).setRow w2.heap.size cs')) :=
  ⟨Bx.out _ (setRow_heap _ _ _ _ _ _ N.out) (o.below bN),X2.out.1.below X2.out.1.under bN,X2.out.2.1.trans (bN.mono X2.out.2.1.size)⟩
 have Or:Hid (A+2≤w1.heap.size∧w1.heap.size≤w2.heap.size):=X2.out.2.2
 clear q o hx' bN Bx X1 A2'
 go_upto_region 4 with (refine wpList_store_row rfl 50 (.tmp 6) (.tmp 20) rfl w2.heap.size cs' rfl rfl _ _ N.out (by rw [Hx'.out.1];kernel_rfl) (by rw [Hx'.out.1];rfl) Hx'.out.2 ?_)
 simp only [Act.put]
 generalize (w2.alloc (.cells gz 50)).setRow w2.heap.size cs'=w3 at Y ⊢
 generalize w2.heap.size=B at Y Or ⊢
 generalize w1.heap.size=b at Y Or
 clear N X2 Hx' K
 have T0:Hid (GtB b B w3 x' vs rs { g with tree:=mapTo (nmv n) 0 g.tree }∧Boxed w3 (A+1) gz 50∧Below w.heap.size w w3):=by rw [mapTo_zero];exact Y
 clear Y
 have Tl:Hid (∀ i,(mapTo (nmv n) i g.tree).length=g.tree.length):=fun i=>mapTo_len
 have Ta:Hid (∀ i,i<g.tree.length→ndAt (mapTo (nmv n) i g.tree) i=ndAt g.tree i):=fun i hi=>ndAt_mapTo hi
 have Tn:Hid (∀ i,i<g.tree.length→(mapTo (nmv n) i g.tree).set i (nmv n (ndAt g.tree i))=mapTo (nmv n) (i+1) g.tree):=fun i hi=>mapTo_nd hi
 have Te:Hid (mapTo (nmv n) g.tree.length g.tree=g.tree.map (nmv n)):=mapTo_all
 obtain ⟨n3,hn3⟩:∃ m,g.tree.length=m:=⟨_,rfl⟩
 rw [hn3] at Tl Ta Tn Te Ht z3
 clear hn3
 go_wp2_with fail
 go_loopw [7] (fun s wr=>∃ i:Nat,i≤n3∧s = .int .i64 i∧Hid (GtB b B wr x' vs rs { g with tree:=mapTo (nmv n) i g.tree }∧Boxed wr (A+1) gz 50∧Below w.heap.size w wr)) (fun s _=>n3-(intOf s).toNat)
 case atStart=>exact ⟨0,Nat.zero_le _,rfl,T0.out⟩
 case round =>
  obtain ⟨i,hi,rfl,HK⟩:=hrel
  clear T0
  have c5:wr.cell? ⟨B,5,none⟩=some (.slice x'.a3 (mapTo (nmv n) i g.tree).length x'.c3):=HK.out.1.box.cell 5 rfl
  rw [Tl.out i] at c5
  by_cases hlt:i<n3
  ·have hlt':(i:Int)<(n3:Int):=by omega
   have hr:NdRow b wr (.slice x'.a3 (mapTo (nmv n) i g.tree).length x'.c3) (mapTo (nmv n) i g.tree):=HK.out.1.own.tree
   obtain ⟨gt,c3,e3⟩:=hr.some (fun e=>by have e2:=(Value.slice.inj e).2.1;rw [Tl.out i] at e2;omega)
   obtain ⟨ea,-,ec⟩:=Value.slice.inj e3
   have HE:Hid (x'.a3=some ⟨gt,0,none⟩):=ea
   rw [ea] at hr c5
   have hrow:wr.ownsRow b 77 5 (.slice (some ⟨gt,0,none⟩) n3 x'.c3) n3 (ndcells (mapTo (nmv n) i g.tree)):=by have:=hr;unfold NdRow at this;rw [Tl.out i] at this;exact this
   obtain ⟨-,-,-,-,g4⟩:=ndcells_get (mapTo (nmv n) i g.tree) i (by rw [Tl.out i];exact hlt)
   rw [Ta.out i hlt] at g4
   have c4:=(World.ownsRow.cellAt hrow (i*5+4) (by omega)).trans g4
   have fz:=hrow.frozenAt (i*5+4)
   have hb:=hrow.lt gt rfl
   have F:Hid (GtB b B (wr.setCell ⟨gt,i*5+4,none⟩ (.int .i64 ((ndAt g.tree i).pz.tm+n))) x' vs rs { g with tree:=mapTo (nmv n) (i+1) g.tree }∧Boxed (wr.setCell ⟨gt,i*5+4,none⟩ (.int .i64 ((ndAt g.tree i).pz.tm+n))) (A+1) gz 50∧Below w.heap.size w (wr.setCell ⟨gt,i*5+4,none⟩ (.int .i64 ((ndAt g.tree i).pz.tm+n)))):=by
    have oo:=Or.out
    have hA:=HA.out
    refine ⟨HK.out.1.putTree (by rw [Tl.out,Tl.out]) HE.out ?_ (fun k hk _=>Below.heap_setCell _ _ _ _ hk),HK.out.2.1.far (by omega) _ _,HK.out.2.2.setCell (by show w.heap.size≤gt;omega) _⟩
    have q:=(hrow.stored (i*5+4) (.int .i64 ((ndAt g.tree i).pz.tm+n))).1
    rw [← Ta.out i hlt,ndcells_tm _ _ _ (by rw [Tl.out i];exact hlt),Ta.out i hlt,Tn.out i hlt] at q
    unfold NdRow
    rw [Tl.out (i+1)]
    exact q
   have hz:=Ht.out i hlt
   have hnn:=Hn.out
   have q1:IntKind.i64.wrap ((ndAt g.tree i).pz.tm+n)=(ndAt g.tree i).pz.tm+n:=by rw [IntKind.wrap_i64];omega
   generalize (ndAt g.tree i).pz.tm=tm at c4 q1 F
   clear hr hrow g4 hb hz hnn e3 ea ec HK
   go_wp2_with fail
   go_region
   all_goals (
    go_wp2
    go_roundw
    case rel=>exact ⟨i+1,by omega,by go_num,F.out.1.below (Below.refl _ _).drew,F.out.2.1.below F.out.2.1.under (Below.refl _ _).drew,F.out.2.2.drew⟩
    case measure=>simp [intOf];omega)
  obtain rfl:n3=i:=by omega
  rw [Te.out] at HK
  clear Tl Ta Tn Te Ht hlt
  go_wp2
  have Ll:Hid (∀ i,(mapTo (List.map (imv n)) i g.rows.lists).length=g.rows.lists.length):=fun i=>mapTo_len
  have Lm:Hid (∀ i k,(mapIn (imv n) i k g.rows.lists).length=g.rows.lists.length):=fun i k=>mapIn_len
  have Lz:Hid (∀ i,i<g.rows.lists.length→mapIn (imv n) i 0 g.rows.lists=mapTo (List.map (imv n)) i g.rows.lists):=fun i hi=>mapIn_zero hi
  have La:Hid (∀ i k,i<g.rows.lists.length→izAt (mapIn (imv n) i k g.rows.lists) i=mapTo (imv n) k (izAt g.rows.lists i)):=fun i k hi=>mapIn_at hi
  have Lx:Hid (∀ i,i<g.rows.lists.length→mapIn (imv n) i (izAt g.rows.lists i).length g.rows.lists=mapTo (List.map (imv n)) (i+1) g.rows.lists):=fun i hi=>mapIn_end hi
  have Le:Hid (mapTo (List.map (imv n)) g.rows.lists.length g.rows.lists=g.rows.lists.map (List.map (imv n))):=mapTo_all
  have G0:Hid (GtB b B wr x' vs rs { g with tree:=g.tree.map (nmv n),rows:=⟨g.rows.most,mapTo (List.map (imv n)) 0 g.rows.lists⟩ }∧Boxed wr (A+1) gz 50∧Below w.heap.size w wr):=by rw [mapTo_zero];exact HK.out
  clear HK
  obtain ⟨len,hlen⟩:∃ m,g.rows.lists.length=m:=⟨_,rfl⟩
  have Hlen:Hid (g.rows.lists.length=len):=hlen
  have Y3:Hid (∀ k,k<g.rows.lists.length→(izAt g.rows.lists k).length≤1048576):=y3
  rw [hlen] at y1
  clear hlen y2 y3 z1 z2 z4 z5 z6 z7 c5 hB
  go_loopw [8] (fun s wr=>∃ i:Nat,i≤len∧s = .int .i64 i∧Hid (GtB b B wr x' vs rs { g with tree:=g.tree.map (nmv n),rows:=⟨g.rows.most,mapTo (List.map (imv n)) i g.rows.lists⟩ }∧Boxed wr (A+1) gz 50∧Below w.heap.size w wr)) (fun s _=>len-(intOf s).toNat)
  case atStart=>exact ⟨0,Nat.zero_le _,rfl,G0.out⟩
  case round =>
   obtain ⟨i,hi,rfl,HK⟩:=hrel
   clear G0
   have c8:wr.cell? ⟨B,8,none⟩=some (.slice x'.a5 (mapTo (List.map (imv n)) i g.rows.lists).length x'.c5):=HK.out.1.box.cell 8 rfl
   rw [Ll.out i,Hlen.out] at c8
   by_cases hlt:i<len
   ·have hlt':(i:Int)<(len:Int):=by omega
    have hil:i<g.rows.lists.length:=by rw [Hlen.out];exact hlt
    have hm:=Y3.out i hil
    obtain ⟨m,hml⟩:∃ m,(izAt g.rows.lists i).length=m:=⟨_,rfl⟩
    have Hml:Hid ((izAt g.rows.lists i).length=m):=hml
    rw [hml] at hm
    have Nx:Hid (mapIn (imv n) i m g.rows.lists=mapTo (List.map (imv n)) (i+1) g.rows.lists):=by have:=Lx.out i hil;rw [hml] at this;exact this
    have I0:Hid (GtB b B wr x' vs rs { g with tree:=g.tree.map (nmv n),rows:=⟨g.rows.most,mapIn (imv n) i 0 g.rows.lists⟩ }∧Boxed wr (A+1) gz 50∧Below w.heap.size w wr):=by rw [Lz.out i hil];exact HK.out
    clear hml HK
    go_wp2_with fail
    clear c8
    go_loopw [9] (fun s wr=>∃ k:Nat,k≤m∧s = .int .i64 k∧Hid (GtB b B wr x' vs rs { g with tree:=g.tree.map (nmv n),rows:=⟨g.rows.most,mapIn (imv n) i k g.rows.lists⟩ }∧Boxed wr (A+1) gz 50∧Below w.heap.size w wr)) (fun s _=>m-(intOf s).toNat)
    case atStart=>exact ⟨0,Nat.zero_le _,rfl,I0.out⟩
    case round =>
     obtain ⟨k,hk,rfl,HQ⟩:=hrel
     clear I0
     have hr:IzG b (.slice x'.a5 (mapIn (imv n) i k g.rows.lists).length x'.c5) vs (mapIn (imv n) i k g.rows.lists) wr:=HQ.out.1.own.rows
     have c8:wr.cell? ⟨B,8,none⟩=some (.slice x'.a5 (mapIn (imv n) i k g.rows.lists).length x'.c5):=HQ.out.1.box.cell 8 rfl
     obtain ⟨b5,ak,ck,ha5,hc5,hv5⟩:=hr.header (i:=i) (by rw [Lm.out];exact hil)
     rw [La.out i k hil,mapTo_len,Hml.out] at hc5 hv5
     rw [Lm.out,Hlen.out,ha5] at c8
     by_cases hql:k<m
     ·have hql':(k:Int)<(m:Int):=by omega
      have hkm:k<(izAt g.rows.lists i).length:=by rw [Hml.out];exact hql
      have hk2:k<(izAt (mapIn (imv n) i k g.rows.lists) i).length:=by rw [La.out i k hil,mapTo_len];exact hkm
      obtain ⟨sk,cc,es,hsk,c2,fz⟩:=hr.tmSpot (k:=k) (by rw [Lm.out];exact hil) hk2
      rw [hv5] at es
      obtain ⟨e1,e2,e3⟩:=Value.slice.inj es
      subst e1
      have F0:=GtB.putIt (g:={ g with tree:=g.tree.map (nmv n) }) HQ.out.1 (by rw [Lm.out];exact hil) hk2 hv5 n
      rw [La.out i k hil,itAt_mapTo hkm] at c2 F0
      have en:(mapIn (imv n) i k g.rows.lists).set i ((mapTo (imv n) k (izAt g.rows.lists i)).set k (imv n (itAt (izAt g.rows.lists i) k)))=mapIn (imv n) i (k+1) g.rows.lists:=by
       have:=mapIn_next (f:=imv n) hil hkm
       rw [La.out i k hil] at this
       exact this
      rw [en] at F0
      have hz:=Hi.out i k hil hkm
      have hnn:=Hn.out
      have q1:IntKind.i64.wrap ((itAt (izAt g.rows.lists i) k).tm+n)=(itAt (izAt g.rows.lists i) k).tm+n:=by rw [IntKind.wrap_i64];omega
      have F:Hid (GtB b B (wr.setCell ⟨sk,k*3+2,none⟩ (.int .i64 ((itAt (izAt g.rows.lists i) k).tm+n))) x' vs rs { g with tree:=g.tree.map (nmv n),rows:=⟨g.rows.most,mapIn (imv n) i (k+1) g.rows.lists⟩ }∧Boxed (wr.setCell ⟨sk,k*3+2,none⟩ (.int .i64 ((itAt (izAt g.rows.lists i) k).tm+n))) (A+1) gz 50∧Below w.heap.size w (wr.setCell ⟨sk,k*3+2,none⟩ (.int .i64 ((itAt (izAt g.rows.lists i) k).tm+n)))):=by
       have oo:=Or.out
       have hA:=HA.out
       exact ⟨F0,HQ.out.2.1.far (by omega) _ _,HQ.out.2.2.setCell (by show w.heap.size≤sk;omega) _⟩
      generalize (itAt (izAt g.rows.lists i) k).tm=tm at c2 q1 F
      clear hr F0 en hz hnn es e2 e3 hv5 HQ ha5 hk2 hsk
      obtain ⟨wz,hwz⟩:∃ wz,wz=wr:=⟨_,rfl⟩
      go_wp2_with fail
      go_region
      all_goals (
       go_wp2
       go_roundw
       case rel=>exact ⟨k+1,by omega,by go_num,F.out.1.below (Below.refl _ _).drew,F.out.2.1.below F.out.2.1.under (Below.refl _ _).drew,F.out.2.2.drew⟩
       case measure=>simp [intOf];omega)
     obtain rfl:m=k:=by omega
     rw [Nx.out] at HQ
     clear hr hv5 ha5
     go_wp2
     go_roundw
     case rel=>exact ⟨i+1,by omega,by go_num,HQ.out⟩
     case measure=>simp [intOf];omega
   obtain rfl:len=i:=by omega
   have Z:Hid (GtB b B wr x' vs rs (g.mv n)∧Boxed wr (A+1) gz 50∧Below w.heap.size w wr):=by
    have:=HK.out
    rw [← Hlen.out,Le.out] at this
    exact this
   clear HK Ll Lm Lz La Lx Le Hi Y3
   have Sm:Hid (((g.mv n).cells x').size=14∧((g.mv n).cells x').all (·.oneCell')=true):=⟨Gt.cells_size _ x',Gt.cells_one _ x'⟩
   have A3':=fun W=>A3.out x' W
   have Bz:Hid (Boxed wr B ((g.mv n).cells x') 50∧GtO b wr x' vs rs (g.mv n)∧Boxed wr (A+1) gz 50∧Below w.heap.size w wr):=⟨Z.out.1.box,Z.out.1.own,Z.out.2⟩
   have Va:Hid ((Value.agg ((g.mv n).cells x'))=(g.mv n).val x'):=rfl
   generalize (g.mv n).cells x'=c2 at Sm A3' Bz Va
   have A3'':Hid _:=A3'
   clear Z A3 A3' hlt
   go_wp2_with (refine wpList_load_row rfl 50 (.tmp 6) rfl B rfl _ _ _ _ Bz.out.1 Tryz.underlying50 rfl (by rw [Sm.out.1];kernel_rfl) ?_)
   refine (A3''.out wr Bz.out.2.1.at).mono ?_
   rintro e w4 ⟨rfl,q⟩
   have R4:Hid (Boxed w4 B c2 50∧GtO b w4 x' vs rs (g.mv n)∧Boxed w4 (A+1) gz 50∧Below w.heap.size w w4):=⟨Bz.out.1.below Bz.out.1.under q,Bz.out.2.1.below q,Bz.out.2.2.1.below Bz.out.2.2.1.under q,Bz.out.2.2.2.trans (q.mono Bz.out.2.2.2.size)⟩
   clear q Bz A3'' c8
   cases okm
   ·have E3:Hid (ga=Gt.zero):=by show ga=_;rw [E2.out];rfl
    obtain rfl:=E1.out
    go_wp2_with (refine wpList_store_row rfl 50 (.tmp 4) (.tmp 86) rfl (A+1) gz rfl rfl _ _ R4.out.2.2.1 (by kernel_rfl) rfl (by simp [Value.oneCell']) ?_)
    refine bodyPost_ret (results_row_tmp Tryz.results7 _ _ (A+1) _ gz _ _ (.bool false) rfl rfl (setRow_heap w4 (A+1) _ _ _ _ R4.out.2.2.1) Tryz.underlying50 rfl (by kernel_rfl)) rfl ⟨⟨_,rfl,?_⟩,below_setRow R4.out.2.2.2 (by rw [HA.out];omega) _⟩
    rw [E3.out]
    exact GtLie.zero _ _
   have E3:Hid (ga=g.mv n):=by show ga=_;rw [E2.out];rfl
   obtain rfl:=E1.out
   go_wp2_with (first|(refine wpList_load_row rfl 50 (.tmp 6) rfl B rfl _ _ _ _ R4.out.1 Tryz.underlying50 rfl (by rw [Sm.out.1];kernel_rfl) ?_)|(refine wpList_store_row rfl 50 (.tmp 4) (.tmp 87) rfl (A+1) c2 rfl rfl _ _ R4.out.2.2.1 (by rw [Sm.out.1];kernel_rfl) (by rw [Sm.out.1];rfl) Sm.out.2 ?_))
   refine bodyPost_ret (results_row_tmp Tryz.results7 _ _ (A+1) _ c2 _ _ (.bool true) rfl rfl (setRow_heap w4 (A+1) _ _ _ _ R4.out.2.2.1) Tryz.underlying50 rfl (by rw [Sm.out.1];kernel_rfl)) rfl ⟨⟨_,rfl,?_⟩,below_setRow R4.out.2.2.2 (by rw [HA.out];omega) _⟩
   rw [E3.out,Va.out]
   have oo:=Or.out
   have hA:=HA.out
   have h1:GtO b (w4.setRow (A+1) c2) x' vs rs (g.mv n):=R4.out.2.1.other fun k k1 _=>setRow_other _ _ _ _ (by omega)
   exact (h1.mono (by omega)).lie
end Go.Proofs.YtmfabeghfdoibaaGreat
