import Derived.Test.YtmfabeghfdoibaaGreatQT50WalkMoved
set_option maxHeartbeats 12800000
set_option maxRecDepth 100000
namespace Go.Proofs.YtmfabeghfdoibaaGreat
open Go.RowKit
theorem row_iapp1n {ops:Array Oper} {rest:List Oper} {o:Oper} {a:Act} {Q:Exit→Act→World→Prop} {w wx:World} (hgd:o.guard=none) (s x:Operand)
 (ho:o.op = .call { callee:=.builtin .append,args:=#[s,x],argTypes:=#[27,27] })
 (base:Nat) (v:Value) (xs:List Int) (y:Int) {n:Nat} (hwx:wx=w.alloc (.cells #[.int .i64 y] 2)) (hs:a.eval s=v) (hrow:IRow base w v xs) (hx:a.eval x = .slice (some ⟨n,0,none⟩) 1 1) (hn:n=w.heap.size)
 (hlen:xs.length≤1000000) (hb:base≤w.heap.size)
 (h:∀ v' w',IRow base w' v' (xs++[y])→Below base w w'→wpList Tryz.prog ops Q rest (a.put o.dst v') w') :
 wpList Tryz.prog ops Q (o :: rest) a wx:=by
 subst hwx
 subst hn
 exact row_iapp1 hgd s x ho base v xs y hs hrow hx hlen hb h
theorem specPutNil (base g cap:Nat) (x:Int) (w:World) (hb:base≤w.heap.size) :
 Calls Tryz.prog 62 #[.slice (some ⟨g,0,none⟩) 0 cap,.int .i64 x] w fun e w'=>(∃ v',e = .returned v'∧IRow base w' v' [x])∧Bel w w':=by
 have R0:Hid (IRow w.heap.size ((w.alloc (.cells #[] 2)).alloc (.cells #[] 2)) (.slice (some ⟨w.heap.size+1,0,none⟩) 0 0) []):=by
  have q:=irow_built (w.alloc (.cells #[] 2)) w.heap.size (by simp)
  rw [World.size_alloc] at q
  exact q
 have B0:Hid (Bel w ((w.alloc (.cells #[] 2)).alloc (.cells #[] 2))):=((Below.refl _ w).alloc nlr _).alloc (by simp) _
 go_enter Tryz.func62,Tryz.ntmps62
 go_wp2
 go_loopw [5] (fun i wr=>i = .int .i64 0∧wr=w) (fun i _=>0)
 case atStart=>exact ⟨rfl,rfl⟩
 case round =>
  obtain ⟨rfl,hw⟩:=hrel
  have hw':=hw.symm
  subst hw'
  clear hw
  go_wp2_with (first|(refine row_iapp1n rfl (.tmp 43) (.tmp 45) rfl w.heap.size (.slice (some ⟨w.heap.size+1,0,none⟩) 0 0) [] x rfl rfl R0.out rfl (by simp) (by simp) (by simp;omega) ?_;intro v1 w1 r1 b1;have H1:Hid (IRow w.heap.size w1 v1 [x]∧Bel w w1):=⟨r1,B0.out.trans b1⟩;clear r1 b1)|(refine row_iapp rfl (.tmp 46) (.tmp 47) rfl w.heap.size v1 [x] w.heap.size 0 0 0 [] rfl rfl rfl H1.out.1 (fun k hk=>by omega) (by simp) H1.out.2.size ?_;intro v2 w2 r2 b2 _ _;have H2:Hid (IRow w.heap.size w2 v2 [x]∧Bel w w2):=⟨by simpa using r2,H1.out.2.trans b2⟩;clear r2 b2))
  go_ret
  exact ⟨⟨_,rfl,H2.out.1.mono hb⟩,H2.out.2⟩
theorem irow_full {base:Nat} {w:World} {v:Value} {l:List Int} (h:IRow base w v l) (hl:l≠[]):v ≠ .slice none 0 0:=by
 intro e
 rcases h.2 with ⟨_,hn⟩|⟨g,cap,cur,e2,_⟩
 ·exact hl (List.length_eq_zero_iff.1 hn)
 ·rw [e] at e2;cases e2
theorem insI_nil (x:Int):insI [] x=[x]:=by simp [insI,insK]
theorem insI_ne (xs:List Int) (x:Int):insI xs x≠[]:=fun e=>by
 have:x∈insI xs x:=insI_mem.2 (.inl rfl)
 rw [e] at this
 cases this
theorem specPutA (base g cap:Nat) (xs:List Int) (x:Int) (w:World) (hT:xs.length≤1024) (hcap:xs.length≤cap) (hb:base≤w.heap.size) (h:Hid (IRow base w (.slice (some ⟨g,0,none⟩) xs.length cap) xs)) :
 Calls Tryz.prog 62 #[.slice (some ⟨g,0,none⟩) xs.length cap,.int .i64 x] w fun e w'=>(∃ g' c',e = .returned (.slice (some ⟨g',0,none⟩) (insI xs x).length c')∧IRow base w' (.slice (some ⟨g',0,none⟩) (insI xs x).length c') (insI xs x)∧(insI xs x).length≤c')∧Bel w w':=by
 have fin:∀ (w':World) (v:Value),IRow base w' v (insI xs x)→∃ g' c',v = .slice (some ⟨g',0,none⟩) (insI xs x).length c'∧IRow base w' (.slice (some ⟨g',0,none⟩) (insI xs x).length c') (insI xs x)∧(insI xs x).length≤c':=by
  intro w' v hr
  obtain ⟨g',c',e,hc⟩:=hr.some (irow_full hr (insI_ne xs x))
  exact ⟨g',c',e,e▸hr,hc⟩
 by_cases h0:xs=[]
 ·subst h0
  refine (specPutNil base g cap x w hb).mono ?_
  rintro e w' ⟨⟨v,rfl,hr⟩,b⟩
  obtain ⟨g',c',rfl,h1,h2⟩:=fin w' v (by rw [insI_nil];exact hr)
  exact ⟨⟨g',c',rfl,h1,h2⟩,b⟩
 ·have h1:1≤xs.length:=by
   cases xs with
   |nil=>exact absurd rfl h0
   |cons y ys=>simp
  refine (specPutI base g cap xs x w hT h1 hcap hb h).mono ?_
  rintro e w' ⟨⟨v,rfl,hr,_⟩,b⟩
  obtain ⟨g',c',rfl,h1,h2⟩:=fin w' v hr
  exact ⟨⟨g',c',rfl,h1,h2⟩,b⟩
theorem specTimes (g:Gt) (v:Value) (w:World) (hB:g.big≤1048576) (h:Hid (GtAt w v g)) :
 Calls Tryz.prog 13 #[v] w fun e w'=>(∃ v',e = .returned v'∧IRow w.heap.size w' v' g.times)∧Bel w w':=by
 obtain ⟨x,rfl,hG⟩:=h.out
 obtain ⟨z1,z2,z3,z4,z5,z6,z7⟩:=Gt.small hB
 obtain ⟨y1,y2,y3⟩:=Rw.small z5
 have A1:=fun w' (hh:Hid (GtV w' x g))=>specGateOk g x w' hB hh
 have Hno:Hid (g.ok=false→g.times=[]):=fun e=>by unfold Gt.times;rw [e];rfl
 have Hyes:Hid (g.ok=true→g.times=g.tk g.rows.lists.length 0∧0<g.tree.length∧∀ i k,i<g.rows.lists.length→(g.tk i k).length≤201):=fun e=>⟨Gt.tk_end e,by have:=(tok_iff.1 (Gt.head_iff.1 (Gt.ok_iff.1 e).1).2.2.2.1).1;omega,fun i k hi=>Gt.tk_len e hi⟩
 have K:Hid (∀ w',Bel w w'→GtV w' x g):=fun w' q=>hG.below q
 have Tr:Hid (∀ w',GtV w' x g→0<g.tree.length→∃ b off,x.a3=some ⟨b,off,none⟩∧w'.cell? ⟨b,off+4,none⟩=some (.int .i64 (ndAt g.tree 0).pz.tm)):=fun w' hh h0=>by
  have H:=hh.tree.spot'
  obtain ⟨b1,o1,ha1,hb1,-⟩:=H 0 h0
  rw [ha1] at H
  have d4:=(H.cells (k:=0) h0).2.2.2.2
  rw [Nat.zero_mul,Nat.add_zero] at d4
  exact ⟨b1,o1,ha1,d4⟩
 have Iz:Hid (∀ w',GtV w' x g→IzAt w' x.a5 g.rows.lists):=fun w' hh=>hh.rows.spot
 have Sz:Hid (∀ i,i<g.rows.lists.length→(izAt g.rows.lists i).length≤1048576):=y3
 have T0:Hid (g.tk 0 0=[(ndAt g.tree 0).pz.tm]):=Gt.tk_zero g
 have T1:Hid (∀ i k,k<(izAt g.rows.lists i).length→g.tk i (k+1)=insI (g.tk i k) (itAt (izAt g.rows.lists i) k).tm):=fun i k hk=>Gt.tk_step hk
 have T2:Hid (∀ i,i<g.rows.lists.length→g.tk (i+1) 0=g.tk i (izAt g.rows.lists i).length):=fun i hi=>Gt.tk_next hi
 generalize g.times=res at Hno Hyes ⊢
 generalize hok:g.ok=ok at A1 Hno Hyes
 have hcs:(g.cells x)[5]? = some (.slice x.a3 g.tree.length x.c3)∧(g.cells x)[8]? = some (.slice x.a5 g.rows.lists.length x.c5)∧(g.cells x).size=14:=⟨rfl,rfl,rfl⟩
 unfold Gt.val at A1 ⊢
 generalize (ndAt g.tree 0).pz.tm=t0 at Tr T0
 generalize hT:g.tk=T at Hyes T0 T1 T2
 generalize g.cells x=cs at A1 hcs ⊢
 have A1':Hid _:=A1
 have Hcs:Hid _:=hcs
 obtain ⟨n3,hn3⟩:∃ n,g.tree.length=n:=⟨_,rfl⟩
 obtain ⟨len,hlen⟩:∃ n,g.rows.lists.length=n:=⟨_,rfl⟩
 rw [hn3] at Hcs Tr Hyes z3
 rw [hlen] at Hcs Hyes T2 y1 Sz
 have Hlen:Hid (g.rows.lists.length=len):=hlen
 clear A1 hcs hT hok h hG hB hn3 hlen z1 z2 z4 z5 z6 z7 y2 y3
 obtain ⟨W0,hW⟩:∃ W,W=(w.alloc (.cells cs 50)).alloc (.cells #[] 2):=⟨_,rfl⟩
 have X0:Hid (IRow w.heap.size W0 (.slice (some ⟨w.heap.size+1,0,none⟩) 0 0) []∧Bel w W0∧Boxed W0 w.heap.size cs 50):=by
  rw [hW]
  refine ⟨?_,((Below.refl _ _).alloc nlr _).alloc (by simp) _,(Boxed.new w _ _).more _⟩
  have:=irow_built (w.alloc (.cells cs 50)) w.heap.size (by simp)
  simpa using this
 have HW:Hid (W0=_):=hW
 clear hW
 go_enter Tryz.func13,Tryz.ntmps13
 go_upto_region 2 with fail
 rw [← HW.out]
 clear HW
 go_wp2_with (refine wpList_load_row rfl 50 (.tmp 1) rfl w.heap.size rfl _ _ _ _ X0.out.2.2 Tryz.underlying50 rfl (by rw [Hcs.out.2.2];kernel_rfl) ?_)
 refine (A1'.out _ (K.out _ X0.out.2.1)).mono ?_
 rintro e w1 ⟨rfl,q⟩
 have X1:Hid (IRow w.heap.size w1 (.slice (some ⟨w.heap.size+1,0,none⟩) 0 0) []∧Bel w w1∧Boxed w1 w.heap.size cs 50):=⟨X0.out.1.below (fun k hk=>(X0.out.1.lt k hk).2) q,X0.out.2.1.trans (q.mono X0.out.2.1.size),X0.out.2.2.below X0.out.2.2.under q⟩
 clear q X0 A1'
 cases ok
 ·obtain rfl:=Hno.out rfl
  go_wp2
  go_ret
  exact ⟨⟨_,rfl,X1.out.1⟩,X1.out.2.1⟩
 obtain ⟨e1,hpos,hbd⟩:=Hyes.out rfl
 have E1:Hid (res=T len 0):=e1
 have Bd:Hid (∀ i k,i<len→(T i k).length≤201):=hbd
 obtain ⟨b3,o3,ha3,d4⟩:=Tr.out w1 (K.out _ X1.out.2.1) hpos
 have c5:w1.cell? ⟨w.heap.size,5,none⟩=some (.slice x.a3 n3 x.c3):=X1.out.2.2.cell 5 Hcs.out.1
 rw [ha3] at c5
 clear e1 hbd Hno Hyes Tr ha3
 have hi3:(0:Int)<(n3:Int):=by omega
 go_wp2_with fail
 have P0:=specPutA w.heap.size (w.heap.size+1) 0 [] t0 w1 (by simp) (by simp) X1.out.2.1.size X1.out.1
 rw [insI_nil] at P0
 refine P0.mono ?_
 rintro e w2 ⟨⟨g2,c2,rfl,r2,hc2⟩,q⟩
 have X2:Hid (IRow w.heap.size w2 (.slice (some ⟨g2,0,none⟩) 1 c2) (T 0 0)∧Bel w w2∧Boxed w2 w.heap.size cs 50):=⟨by rw [T0.out];exact r2,X1.out.2.1.trans (q.mono X1.out.2.1.size),X1.out.2.2.below X1.out.2.2.under q⟩
 have hl0:Hid ((T 0 0).length=1):=by show _=_;rw [T0.out];rfl
 have hc2':1≤c2:=hc2
 clear r2 q c5 d4 X1 P0 T0 hc2 hi3
 go_wp2_with fail
 go_loopw [3,4] (fun v i wr=>∃ (k gg c n:Nat),k≤len∧v = .slice (some ⟨gg,0,none⟩) n c∧i = .int .i64 k∧n≤c∧Hid ((T k 0).length=n)∧Hid (IRow w.heap.size wr (.slice (some ⟨gg,0,none⟩) n c) (T k 0)∧Bel w wr∧Boxed wr w.heap.size cs 50)) (fun _ i _=>len-(intOf i).toNat)
 case atStart=>exact ⟨0,g2,c2,1,Nat.zero_le _,rfl,rfl,hc2',hl0,X2⟩
 case round =>
  clear X2 hl0 hc2'
  obtain ⟨k,gg,c,n,hk,rfl,rfl,hnc,Hn,HK⟩:=hrel
  have c8:wr.cell? ⟨w.heap.size,8,none⟩=some (.slice x.a5 len x.c5):=HK.out.2.2.cell 8 Hcs.out.2.1
  by_cases hlt:k<len
  case neg =>
   obtain rfl:len=k:=by omega
   go_wp2
   go_ret
   exact ⟨⟨_,rfl,by rw [E1.out];exact HK.out.1⟩,HK.out.2.1⟩
  have hlt':(k:Int)<(len:Int):=by omega
  have hkl:k<g.rows.lists.length:=by rw [Hlen.out];exact hlt
  have hm:=Sz.out k hlt
  have Bk:Hid (∀ q,(T k q).length≤201):=fun q=>Bd.out k q hlt
  have Nx:Hid (T (k+1) 0=T k (izAt g.rows.lists k).length):=T2.out k hlt
  obtain ⟨m,hml⟩:∃ m,(izAt g.rows.lists k).length=m:=⟨_,rfl⟩
  rw [hml] at hm Nx
  have Hml:Hid ((izAt g.rows.lists k).length=m):=hml
  clear hml
  go_wp2_with fail
  clear c8
  go_loopw [3,5] (fun v i wr=>∃ (q gg c n:Nat),q≤m∧v = .slice (some ⟨gg,0,none⟩) n c∧i = .int .i64 q∧n≤c∧Hid ((T k q).length=n)∧Hid (IRow w.heap.size wr (.slice (some ⟨gg,0,none⟩) n c) (T k q)∧Bel w wr∧Boxed wr w.heap.size cs 50)) (fun _ i _=>m-(intOf i).toNat)
  case atStart=>exact ⟨0,gg,c,n,Nat.zero_le _,rfl,rfl,hnc,Hn,HK⟩
  case round =>
   clear HK Hn hnc
   obtain ⟨q,gg,c,n,hq,rfl,rfl,hnc,Hn,HQ⟩:=hrel
   have c8:wr.cell? ⟨w.heap.size,8,none⟩=some (.slice x.a5 len x.c5):=HQ.out.2.2.cell 8 Hcs.out.2.1
   obtain ⟨b5,o5,ak,ck,ha5,hb5,hc5,hr5,-⟩:=Iz.out wr (K.out _ HQ.out.2.1) k hkl
   rw [ha5] at c8
   clear ha5
   rw [Hml.out] at hc5
   by_cases hql:q<m
   case neg =>
    obtain rfl:m=q:=by omega
    clear hr5
    go_wp2
    go_roundw
    case rel=>exact ⟨k+1,gg,c,n,by omega,rfl,by go_num,hnc,by show Hid _;rw [Nx.out];exact Hn,by rw [Nx.out];exact HQ⟩
    case measure=>simp [intOf];omega
   have hql':(q:Int)<(m:Int):=by omega
   have hqn:q<(izAt g.rows.lists k).length:=by rw [Hml.out];exact hql
   obtain ⟨b6,o6,ha6,hb6,-⟩:=hr5 q hqn
   subst ha6
   have e2:=(hr5.cells hqn).2.2
   have P:=fun wz hz h=>specPutA w.heap.size gg c (T k q) (itAt (izAt g.rows.lists k) q).tm wz (by have:=Bk.out q;omega) (by rw [Hn.out];exact hnc) hz h
   rw [← T1.out k q hqn,Hn.out] at P
   generalize (itAt (izAt g.rows.lists k) q).tm=tm at e2 P
   have P':Hid _:=P
   clear P hr5
   go_wp2_with fail
   refine (P'.out wr HQ.out.2.1.size HQ.out.1).mono ?_
   rintro e5 w5 ⟨⟨g5,c5,rfl,r5,hc5'⟩,q5⟩
   have H5:Hid (IRow w.heap.size w5 (.slice (some ⟨g5,0,none⟩) (T k (q+1)).length c5) (T k (q+1))∧Bel w w5∧Boxed w5 w.heap.size cs 50):=⟨r5,HQ.out.2.1.trans (q5.mono HQ.out.2.1.size),HQ.out.2.2.below HQ.out.2.2.under q5⟩
   clear r5 q5 HQ e2 hc5 c8 P'
   go_wp2
   go_roundw
   case rel=>exact ⟨q+1,g5,c5,_,by omega,rfl,by go_num,hc5',rfl,H5⟩
   case measure=>simp [intOf];omega
theorem times_len (g:Gt):g.times.length≤1048576:=by
 unfold Gt.times
 split
 ·rename_i h
  have h5:=Rw.ok_iff.1 (Gt.head_iff.1 (Gt.ok_iff.1 h).1).2.2.2.2.2.1
  have h1:=(tmsOf_len (ndAt g.tree 0).pz.tm g.rows.all).2
  have:=h5.2.2.2.2
  have:=h5.1.2
  omega
 ·simp
theorem fnExactTimes_of (impl':∀ (g:Gt) (v:Value) (w:World),g.big≤1048576→Hid (GtAt w v g)→Calls Tryz.prog 14 #[v] w fun e w'=>(∃ v',e = .returned v'∧IRow w.heap.size w' v' (g.times))∧Below w.heap.size w w')
 (g:Gt) (x:Ga) (w:World) (hl:GtLen g) (h:Hid (GtV w x g)) :
 Calls Tryz.prog 4 #[g.val x] w fun e w'=>e = .returned (.bool true)∧Below w.heap.size w w':=by
 have S:=fun (w:World) (h:Hid (GtV w x g))=>szGts 1048576 (by omega) (by omega) g x w hl h
 have hcs:(g.cells x).size=14∧(g.cells x).all (·.oneCell')=true:=⟨Gt.cells_size g x,Gt.cells_one g x⟩
 by_cases hbig:(1048576:Int)-(g.big:Nat)<0
 ·rw [if_pos hbig] at S
  unfold Gt.val at S ⊢
  have K:Hid (∀ w',Below w.heap.size w w'→GtV w' x g):=fun w' q=>h.out.below q
  generalize g.cells x=cs at S hcs ⊢
  have S':Hid _:=S
  obtain ⟨W,hW⟩:∃ W,W=w.alloc (.cells cs 36):=⟨_,rfl⟩
  have X0:Hid (Lies w [Thing.box w.heap.size cs 36] W):=by
   rw [hW]
   exact ⟨⟨Boxed.new _ _ _,trivial⟩,(Below.refl _ _).alloc nlr _⟩
  have HW:Hid (W=_):=hW
  have Hcs:Hid _:=hcs
  clear S hW hcs h hbig
  go_enter Tryz.func4,Tryz.ntmps4
  go_upto_region 2 with fail
  rw [← HW.out]
  clear HW
  go_wp2_with (refine wpList_load_row rfl 36 (.tmp 1) rfl w.heap.size rfl _ _ _ _ (show Boxed _ _ _ _ from X0.out.1.1) Tryz.underlying36 rfl (by rw [Hcs.out.1];kernel_rfl) ?_)
  refine (S'.out _ (K.out _ X0.out.2)).mono ?_
  rintro e w1 ⟨rfl,q⟩
  have X1:Hid (Below w.heap.size w w1):=X0.out.2.trans (q.mono X0.out.2.size)
  clear q
  go_wp2
  go_ret
  exact ⟨rfl,X1.out⟩
 rw [if_neg hbig] at S
 have hB:g.big≤1048576:=by omega
 have TT:∀ w,Hid (GtV w x g)→Calls Tryz.prog 8 #[g.val x] w fun e w'=>(∃ c:Array Value,e = .returned (.agg c)∧(c.size=14∧c.all (·.oneCell')=true)∧GtIn w.heap.size w'.heap.size w' (.agg c) g)∧Below w.heap.size w w':=fun w h=>(toGts g x w hB h).mono fun e w' hh=>by
  obtain ⟨⟨v,rfl,hi⟩,hb⟩:=hh
  obtain ⟨x',rfl⟩:=hi.cells
  exact ⟨⟨_,rfl,⟨Gt.cells_size g x',Gt.cells_one g x'⟩,hi⟩,hb⟩
 have hXB:(g.times).length≤1048576:=times_len g
 obtain ⟨X,hXe⟩:∃ X,g.times=X:=⟨_,rfl⟩
 have C:∀ v w,Hid (GtAt w v g)→Calls Tryz.prog 13 #[v] w fun e w'=>(∃ p d,e = .returned (.slice p X.length d)∧IntsW w.heap.size w'.heap.size w' (.slice p X.length d) X)∧Below w.heap.size w w':=fun v w h=>(specTimes g v w hB h).mono fun e w' hh=>by
  rw [hXe] at hh
  obtain ⟨⟨v,rfl,hi⟩,hb⟩:=hh
  obtain ⟨p,d,rfl⟩:=hi.shape
  exact ⟨⟨p,d,rfl,IntsW.of_row hi⟩,hb⟩
 have D:∀ v w,Hid (GtAt w v g)→Calls Tryz.prog 14 #[v] w fun e w'=>(∃ p d,e = .returned (.slice p X.length d)∧IntsW w.heap.size w'.heap.size w' (.slice p X.length d) X)∧Below w.heap.size w w':=fun v w h=>(impl' g v w hB h).mono fun e w' hh=>by
  rw [hXe] at hh
  obtain ⟨⟨v,rfl,hi⟩,hb⟩:=hh
  obtain ⟨p,d,rfl⟩:=hi.shape
  exact ⟨⟨p,d,rfl,IntsW.of_row hi⟩,hb⟩
 rw [hXe] at hXB
 have ER:=fun v1 v2 w h1 h2=>eqGts v1 v2 g w hB h1 h2
 have EX:=fun v1 v2 w h1 h2=>eqIntW v1 v2 X w hXB h1 h2
 have MR:∀ b t v w,Hid (GtIn b t w v g)→Calls Tryz.prog 11 #[v,.int .i64 1] w fun e w'=>e = .returned (.int .i64 (g.k7 1))∧Span b t w w':=fun b t v w h=>(markGts 1 (by omega) (by omega) b t v g w hB h).mono fun _ _ hh=>⟨hh.1,hh.2.2⟩
 have MX:=fun b t v w h=>markIntW b t v X w hXB h
 have HX:=fun v w h=>heldIntW v X w hXB h
 have m0:¬ g.k7 1<0:=by have:=(Gt.ks hB (s:=1) (by omega) (by omega)).2.2.2.2.2.2;omega
 have m1:¬ 1+(X.length:Int)<0:=by omega
 generalize g.k7 1=kr at MR m0
 generalize 1+(X.length:Int)=kx at MX HX m1
 obtain ⟨Xm,hXm⟩:∃ Xm,intMk1 X=Xm:=⟨_,rfl⟩
 have hXl:Xm.length=X.length:=by rw [← hXm];exact intMk1_length X
 rw [hXm] at MX HX
 obtain ⟨xl,hxl⟩:∃ n,X.length=n:=⟨_,rfl⟩
 rw [hxl] at C D
 have hb0:¬ (1048576:Int)-(g.big:Nat)<0:=hbig
 generalize (1048576:Int)-(g.big:Nat)=left at S hb0
 have K:Hid (∀ w',Below w.heap.size w w'→GtV w' x g):=fun w' q=>h.out.below q
 unfold Gt.val at S TT ⊢
 generalize g.cells x=cs at S TT hcs ⊢
 have S':Hid _:=S
 have TT':Hid _:=TT
 have C':Hid _:=C
 have D':Hid _:=D
 have ER':Hid _:=ER
 have EX':Hid _:=EX
 have MR':Hid _:=MR
 have MX':Hid _:=MX
 have HX':Hid _:=HX
 obtain ⟨W,hW⟩:∃ W,W=w.alloc (.cells cs 36):=⟨_,rfl⟩
 have X0:Hid (Lies w [Thing.box w.heap.size cs 36] W):=by
  rw [hW]
  exact ⟨⟨Boxed.new _ _ _,trivial⟩,(Below.refl _ _).alloc nlr _⟩
 have HW:Hid (W=_):=hW
 have Hcs:Hid _:=hcs
 clear S TT C D ER EX MR MX HX hbig hB hXB hXe hXm hXl hxl hl h hcs hW
 go_enter Tryz.func4,Tryz.ntmps4
 go_upto_region 2 with fail
 rw [← HW.out]
 clear HW
 go_wp2_with (refine wpList_load_row rfl 36 (.tmp 1) rfl w.heap.size rfl _ _ _ _ (show Boxed _ _ _ _ from X0.out.1.1) Tryz.underlying36 rfl (by rw [Hcs.out.1];kernel_rfl) ?_)
 refine (S'.out _ (K.out _ X0.out.2)).mono ?_
 rintro e w1 ⟨rfl,q⟩
 have Z1:Hid (Lies w [Thing.box w.heap.size cs 36] w1):=X0.out.below q
 clear q X0 S'
 go_upto_region 5 with fail
 go_wp2_with (refine wpList_load_row rfl 36 (.tmp 1) rfl w.heap.size rfl _ _ _ _ (show Boxed _ _ _ _ from Z1.out.1.1) Tryz.underlying36 rfl (by rw [Hcs.out.1];kernel_rfl) ?_)
 refine (TT'.out _ (K.out _ Z1.out.2)).mono ?_
 rintro e wAZ2 ⟨⟨cA,rfl,-,iA⟩,q⟩
 have Z2:Hid (Lies w [Thing.box w.heap.size cs 36] wAZ2):=Z1.out.below q
 have AT:Hid (GtAt wAZ2 (.agg cA) g):=iA.at
 clear q iA Z1
 go_wp2_with fail
 refine (C'.out _ _ AT).mono ?_
 rintro e wL0 ⟨⟨p0,d0,rfl,rx⟩,q⟩
 clear AT
 obtain ⟨t0,hZ⟩:∃ t0,Lies w [Thing.box w.heap.size cs 36,IntsW.th wAZ2.heap.size t0 (.slice p0 xl d0) X] wL0∧wAZ2.heap.size≤t0∧t0≤wL0.heap.size∧w.heap.size+1≤wAZ2.heap.size:=⟨wL0.heap.size,(Z2.out.below q).more (Below.refl _ _) ⟨⟨rx,nlr⟩,trivial⟩,q.size,nlr,Boxed.under (show Boxed _ w.heap.size _ _ from Z2.out.1.1)⟩
 have Z3:Hid (_∧_):=hZ
 clear hZ q rx Z2
 generalize wAZ2.heap.size=b0 at Z3
 have Z3A:Hid (Lies w [Thing.box w.heap.size cs 36,IntsW.th b0 t0 (.slice p0 xl d0) X] wL0):=Z3.out.1
 have O0:Hid (b0≤t0∧t0≤wL0.heap.size∧w.heap.size+1≤b0):=Z3.out.2
 clear Z3
 go_wp2_with (refine wpList_load_row rfl 36 (.tmp 1) rfl w.heap.size rfl _ _ _ _ (show Boxed _ _ _ _ from Z3A.out.1.1) Tryz.underlying36 rfl (by rw [Hcs.out.1];kernel_rfl) ?_)
 refine (TT'.out _ (K.out _ Z3A.out.2)).mono ?_
 rintro e wY ⟨⟨cx,rfl,hc,iY⟩,q⟩
 have Hcx:Hid (cx.size=14∧cx.all (·.oneCell')=true):=hc
 clear hc
 have N:Hid (Boxed (wY.alloc (.cells #[.int .i64 0,.int .i64 0,.int .i64 0,.slice none 0 0,.slice none 0 0,.slice none 0 0,.slice none 0 0,.int .i64 0,.slice none 0 0,.slice none 0 0,.int .i64 0,.slice none 0 0,.int .i64 0,.int .i64 0] 50)) wY.heap.size #[.int .i64 0,.int .i64 0,.int .i64 0,.slice none 0 0,.slice none 0 0,.slice none 0 0,.slice none 0 0,.int .i64 0,.slice none 0 0,.slice none 0 0,.int .i64 0,.slice none 0 0,.int .i64 0,.int .i64 0] 50):=Boxed.new _ _ _
 go_upto_region 7 with (refine wpList_store_row rfl 50 (.tmp 5) (.tmp 20) rfl wY.heap.size cx rfl rfl _ _ N.out (by rw [Hcx.out.1];kernel_rfl) (by rw [Hcx.out.1];rfl) Hcx.out.2 ?_)
 try simp only [Act.put]
 have bN:Below wY.heap.size wY ((wY.alloc (.cells #[.int .i64 0,.int .i64 0,.int .i64 0,.slice none 0 0,.slice none 0 0,.slice none 0 0,.slice none 0 0,.int .i64 0,.slice none 0 0,.slice none 0 0,.int .i64 0,.slice none 0 0,.int .i64 0,.int .i64 0] 50)).setRow wY.heap.size cx):=below_setRow ((Below.refl _ _).alloc nlr _) nlr _
 have Z4:Hid (Lies w [Thing.box w.heap.size cs 36,IntsW.th b0 t0 (.slice p0 xl d0) X,Thing.own (fun W=>GtIn wL0.heap.size wY.heap.size W (.agg cx) g) wL0.heap.size wY.heap.size (fun h s k=>GtIn.keep h s k),Thing.box wY.heap.size cx 50] ((wY.alloc (.cells #[.int .i64 0,.int .i64 0,.int .i64 0,.slice none 0 0,.slice none 0 0,.slice none 0 0,.slice none 0 0,.int .i64 0,.slice none 0 0,.slice none 0 0,.int .i64 0,.slice none 0 0,.int .i64 0,.int .i64 0] 50)).setRow wY.heap.size cx)∧wL0.heap.size≤wY.heap.size∧wY.heap.size+1≤((wY.alloc (.cells #[.int .i64 0,.int .i64 0,.int .i64 0,.slice none 0 0,.slice none 0 0,.slice none 0 0,.slice none 0 0,.int .i64 0,.slice none 0 0,.slice none 0 0,.int .i64 0,.slice none 0 0,.int .i64 0,.int .i64 0] 50)).setRow wY.heap.size cx).heap.size∧w.heap.size+1≤wL0.heap.size):=⟨(Z3A.out.below q).more bN ⟨⟨GtIn.below iY bN,bN.size⟩,setRow_heap _ _ _ _ _ _ N.out,trivial⟩,q.size,by rw [size_setRow];simp,Boxed.under (show Boxed _ w.heap.size _ _ from Z3A.out.1.1)⟩
 clear bN q iY N Z3A
 generalize ((wY.alloc (.cells #[.int .i64 0,.int .i64 0,.int .i64 0,.slice none 0 0,.slice none 0 0,.slice none 0 0,.slice none 0 0,.int .i64 0,.slice none 0 0,.slice none 0 0,.int .i64 0,.slice none 0 0,.int .i64 0,.int .i64 0] 50)).setRow wY.heap.size cx)=wx at Z4 ⊢
 generalize wY.heap.size=tx at Z4 ⊢
 generalize wL0.heap.size=bx at Z4 O0
 have Z4A:Hid (Lies w [Thing.box w.heap.size cs 36,IntsW.th b0 t0 (.slice p0 xl d0) X,Thing.own (fun W=>GtIn bx tx W (.agg cx) g) bx tx (fun h s k=>GtIn.keep h s k),Thing.box tx cx 50] wx):=Z4.out.1
 have Ox:Hid (bx≤tx∧tx+1≤wx.heap.size∧w.heap.size+1≤bx):=Z4.out.2
 clear Z4
 have OO:Hid (_∧_):=⟨O0.out,Ox.out⟩
 clear O0 Ox
 go_wp2_with (refine wpList_load_row rfl 50 (.tmp 5) rfl tx rfl _ _ _ _ (show Boxed _ _ _ _ from Z4A.out.1.2.2.2.1) Tryz.underlying50 rfl (by rw [Hcx.out.1];kernel_rfl) ?_)
 refine (D'.out _ _ (GtIn.at (show GtIn _ _ _ _ _ from Z4A.out.1.2.2.1.1))).mono ?_
 rintro e wL2 ⟨⟨p2,d2,rfl,rx⟩,q⟩
 obtain ⟨t2,hZ⟩:∃ t2,Lies w [Thing.box w.heap.size cs 36,IntsW.th b0 t0 (.slice p0 xl d0) X,Thing.own (fun W=>GtIn bx tx W (.agg cx) g) bx tx (fun h s k=>GtIn.keep h s k),Thing.box tx cx 50,IntsW.th wx.heap.size t2 (.slice p2 xl d2) X] wL2∧wx.heap.size≤t2∧t2≤wL2.heap.size∧w.heap.size+1≤wx.heap.size:=⟨wL2.heap.size,(Z4A.out.below q).more (Below.refl _ _) ⟨⟨rx,nlr⟩,trivial⟩,q.size,nlr,Boxed.under (show Boxed _ w.heap.size _ _ from Z4A.out.1.1)⟩
 have Z5:Hid (_∧_):=hZ
 clear hZ q rx Z4A
 generalize wx.heap.size=b2 at Z5 OO
 have Z5A:Hid (Lies w [Thing.box w.heap.size cs 36,IntsW.th b0 t0 (.slice p0 xl d0) X,Thing.own (fun W=>GtIn bx tx W (.agg cx) g) bx tx (fun h s k=>GtIn.keep h s k),Thing.box tx cx 50,IntsW.th b2 t2 (.slice p2 xl d2) X] wL2):=Z5.out.1
 have O2:Hid (b2≤t2∧t2≤wL2.heap.size∧w.heap.size+1≤b2):=Z5.out.2
 clear Z5
 have O9:Hid (_∧_):=And.intro OO.out (O2.out)
 clear O2 OO
 go_wp2_with fail
 refine (EX'.out _ _ _ (IntsW.at (show IntsW _ _ _ _ _ from Z5A.out.1.2.2.2.2.1.1)) (IntsW.at (show IntsW _ _ _ _ _ from Z5A.out.1.2.1.1))).mono ?_
 rintro e wE5 ⟨rfl,q⟩
 have Z6:Hid (Lies w [Thing.box w.heap.size cs 36,IntsW.th b0 t0 (.slice p0 xl d0) X,Thing.own (fun W=>GtIn bx tx W (.agg cx) g) bx tx (fun h s k=>GtIn.keep h s k),Thing.box tx cx 50,IntsW.th b2 t2 (.slice p2 xl d2) X] wE5):=Z5A.out.below q
 clear q Z5A
 go_upto_region 10 with fail
 go_cut [31] (fun s wc=>Hid (s = .bool false∧Lies w [Thing.box w.heap.size cs 36,IntsW.th b0 t0 (.slice p0 xl d0) X,Thing.own (fun W=>GtIn bx tx W (.agg cx) g) bx tx (fun h s k=>GtIn.keep h s k),Thing.box tx cx 50,IntsW.th b2 t2 (.slice p2 xl d2) X] wc))
 case first =>
  go_wp2_with fail
  refine region_lists (G:=Array Value) (by kernel_rfl) (by kernel_rfl) (by kernel_rfl) (fun _=>99) (fun (_:Nat→Bool) (_:Array Value) (x:World)=>Below wE5.heap.size wE5 x) (fun i (y:Array Value) x y' x'=>(i≠2→y'=y)∧Below x.heap.size x x') (fun kk y x u=>([fun _ _ u=>u = .agg cx,fun _ _ u=>u = .agg cs,fun (y:Array Value) x u=>u = .agg y∧GtAt x (.agg y) g,fun _ _ u=>u = .bool true,fun _ _ u=>u = .bool false]:List (Array Value→World→Value→Prop)).getD kk (fun _ _ _=>True) y x u) ?hR #[] ?h0 ?step ?last
  case hR =>
   intro i' j' y y' x x' u hi1 hj1 hne hu h1 h2 hp hr
   have hj':j'<5:=hj1
   have hcases:j'=0∨j'=1∨j'=2∨j'=3∨j'=4:=by omega
   rcases hcases with rfl|rfl|rfl|rfl|rfl
   ·exact hp
   ·exact hp
   ·obtain ⟨e,r⟩:=hp
    have ey:=hr.1 hne
    subst ey
    exact ⟨e,r.below hr.2⟩
   ·exact hp
   ·exact hp
  case h0=>exact (Below.refl _ _).drew
  case step =>
   intro q o hq ho L a y x hLi hwt hre hkp hI hp
   have LX:=Z6.out.below hI
   have sx:a.eval (.tmp 5) = .pointer (some ⟨tx,0,none⟩):=by have h2:a.tmps.getD 5 undef = .pointer (some ⟨tx,0,none⟩):=hkp.slot 5 (by kernel_rfl);simpa [Act.eval] using h2
   have sp:a.eval (.tmp 1) = .pointer (some ⟨w.heap.size,0,none⟩):=by have h2:a.tmps.getD 1 undef = .pointer (some ⟨w.heap.size,0,none⟩):=hkp.slot 1 (by kernel_rfl);simpa [Act.eval] using h2
   have hq':q<5:=hq
   have hcases:q=0∨q=1∨q=2∨q=3∨q=4:=by omega
   rcases hcases with rfl|rfl|rfl|rfl|rfl
   ·cases ho
    exact ⟨wno rfl,wp_load_row 50 (.tmp 5) rfl tx sx _ _ _ _ (show Boxed _ _ _ _ from LX.1.2.2.2.1) Tryz.underlying50 rfl (by rw [Hcx.out.1];kernel_rfl) ⟨_,y,rfl,⟨fun _=>rfl,Below.refl _ _⟩,hI,fun u hu=>hu (fun h=>by cases h)⟩⟩
   ·cases ho
    exact ⟨wno rfl,wp_load_row 36 (.tmp 1) rfl w.heap.size sp _ _ _ _ (show Boxed _ _ _ _ from LX.1.1) Tryz.underlying36 rfl (by rw [Hcs.out.1];kernel_rfl) ⟨_,y,rfl,⟨fun _=>rfl,Below.refl _ _⟩,hI,fun u hu=>hu (fun h=>by cases h)⟩⟩
   ·cases ho
    have e1:a.tmps.getD 28 undef = .agg cs:=hp 1 (od (by kernel_rfl)) (.inr (by decide))
    have q1:a.tmps[28]?.getD undef = .agg cs:=by simpa using e1
    refine ⟨wno rfl,op_callR (by simp [execOp,resolve,Deferred.ofValue,invoke,Act.eval,q1]) (TT'.out x (K.out _ LX.2)) ?_⟩
    rintro e z ⟨⟨cA,rfl,-,iA⟩,qb⟩
    exact ⟨_,rfl,_,cA,rfl,⟨fun h=>absurd rfl h,qb⟩,hI.trans (qb.mono hI.size),fun u hu=>⟨hu (fun h=>by cases h),iA.at⟩⟩
   ·cases ho
    have e0:a.tmps.getD 27 undef = .agg cx:=hp 0 (od (by kernel_rfl)) (.inr (by decide))
    have q0:a.tmps[27]?.getD undef = .agg cx:=by simpa using e0
    have e2:a.tmps.getD 29 undef = .agg y:=(hp 2 (od (by kernel_rfl)) (.inr (by decide))).1
    have q2:a.tmps[29]?.getD undef = .agg y:=by simpa using e2
    have at2:GtAt x (.agg y) g:=(hp 2 (od (by kernel_rfl)) (.inr (by decide))).2
    refine ⟨wno rfl,op_callR (by simp [execOp,resolve,Deferred.ofValue,invoke,Act.eval,q0,q2]) (ER'.out _ _ x (GtIn.at (show GtIn _ _ _ _ _ from LX.1.2.2.1.1)) at2) ?_⟩
    rintro e z ⟨rfl,qb⟩
    exact ⟨_,rfl,_,y,rfl,⟨fun _=>rfl,qb⟩,hI.trans (qb.mono hI.size),fun u hu=>hu (fun h=>by cases h)⟩
   ·cases ho
    have e3:a.tmps.getD 30 undef = .bool true:=hp 3 (od (by kernel_rfl)) (.inr (by decide))
    have q3:a.tmps[30]?.getD undef = .bool true:=by simpa using e3
    refine ⟨wno rfl,Oper.wp_mono (K:=fun a'' w''=>a''=a.put (some 31) (.bool false)∧w''=x) ?_ ?_⟩
    ·rintro _ _ ⟨rfl,rfl⟩
     exact ⟨_,y,rfl,⟨fun _=>rfl,Below.refl _ _⟩,hI,fun u hu=>hu (fun h=>by cases h)⟩
    ·unfold Oper.wp
     simp [go_sem,q3]
  case last =>
  intro L a y x hall hkp hI hp
  have e4:a.tmps.getD 31 undef = .bool false:=hp 4 (by decide) (by decide)
  have Fin:Hid (a.tmps.getD 31 undef = .bool false∧Lies w [Thing.box w.heap.size cs 36,IntsW.th b0 t0 (.slice p0 xl d0) X,Thing.own (fun W=>GtIn bx tx W (.agg cx) g) bx tx (fun h s k=>GtIn.keep h s k),Thing.box tx cx 50,IntsW.th b2 t2 (.slice p2 xl d2) X] x):=⟨e4,Z6.out.below hI⟩
  have ha:=hkp.pick [true,true,true,true,true,true,true,true,true,true,true,true,true,true,true,true,true,true,true,true,true,true,true,true,true,true,true,false,false,false,false,false,true,true,true,true,true,true,true,true,true,true,true,true,true,true,true,true,true,true,true,true,true,true,true,true,true,true,true,true,true,true,true,true,true,true,true,true,true] (by kernel_rfl)
  simp only [pickS] at ha
  clear hp hkp hI hall e4
  generalize a.tmps.getD 27 undef=y27 at ha
  generalize a.tmps.getD 28 undef=y28 at ha
  generalize a.tmps.getD 29 undef=y29 at ha
  generalize a.tmps.getD 30 undef=y30 at ha
  generalize a.tmps.getD 31 undef=y31 at ha Fin
  rw [ha]
  clear ha
  go_wp2_with fail
  go_meet
  exact Fin.out
 case rest =>
 obtain ⟨rfl,hP⟩:=hcut.out
 obtain ⟨wF,rfl⟩:∃ wF,wF=wc:=⟨_,rfl⟩
 have Z7:Hid (Lies w [Thing.box w.heap.size cs 36,IntsW.th b0 t0 (.slice p0 xl d0) X,Thing.own (fun W=>GtIn bx tx W (.agg cx) g) bx tx (fun h s k=>GtIn.keep h s k),Thing.box tx cx 50,IntsW.th b2 t2 (.slice p2 xl d2) X] wF):=hP
 clear hcut hP Z6
 go_upto_region 13 with fail
 go_wp2_with (refine wpList_load_row rfl 50 (.tmp 5) rfl tx rfl _ _ _ _ (show Boxed _ _ _ _ from Z7.out.1.2.2.2.1) Tryz.underlying50 rfl (by rw [Hcx.out.1];kernel_rfl) ?_)
 refine (MR'.out bx tx _ _ (show GtIn _ _ _ _ _ from Z7.out.1.2.2.1.1)).mono ?_
 rintro e wG ⟨rfl,q⟩
 have Z8:Hid (Lies w [Thing.box w.heap.size cs 36,IntsW.th b0 t0 (.slice p0 xl d0) X,IntsW.th b2 t2 (.slice p2 xl d2) X] wG):=by
  have oo:=O9.out
  have k0:Lies w [Thing.box w.heap.size cs 36,IntsW.th b0 t0 (.slice p0 xl d0) X,IntsW.th b2 t2 (.slice p2 xl d2) X] wF:=⟨⟨Z7.out.1.1,Z7.out.1.2.1,Z7.out.1.2.2.2.2.1,trivial⟩,Z7.out.2⟩
  exact k0.span q ⟨(show w.heap.size+1≤bx∨tx≤w.heap.size by omega),(show t0≤bx∨tx≤b0 by omega),(show t2≤bx∨tx≤b2 by omega),trivial⟩ (by omega)
 clear q Z7
 go_upto_region 14 with fail
 go_wp2_with fail
 refine (EX'.out _ _ _ (IntsW.at (show IntsW _ _ _ _ _ from Z8.out.1.2.2.1.1)) (IntsW.at (show IntsW _ _ _ _ _ from Z8.out.1.2.1.1))).mono ?_
 rintro e wE8 ⟨rfl,q⟩
 have Z9:Hid (Lies w [Thing.box w.heap.size cs 36,IntsW.th b0 t0 (.slice p0 xl d0) X,IntsW.th b2 t2 (.slice p2 xl d2) X] wE8):=Z8.out.below q
 clear q Z8
 go_upto_region 17 with fail
 go_wp2_with fail
 refine (MX'.out b2 t2 _ _ (show IntsW _ _ _ _ _ from Z9.out.1.2.2.1.1)).mono ?_
 rintro e wJ ⟨rfl,m,q⟩
 have Z10:Hid (Lies w [Thing.box w.heap.size cs 36,IntsW.th b0 t0 (.slice p0 xl d0) X,IntsW.th b2 t2 (.slice p2 xl d2) Xm] wJ):=by
  have oo:=O9.out
  have k0:Lies w [Thing.box w.heap.size cs 36,IntsW.th b0 t0 (.slice p0 xl d0) X] wE8:=⟨⟨Z9.out.1.1,Z9.out.1.2.1,trivial⟩,Z9.out.2⟩
  have k1:=k0.span q ⟨(show w.heap.size+1≤b2∨t2≤w.heap.size by omega),(show t0≤b2∨t2≤b0 by omega),trivial⟩ (by omega)
  exact ⟨k1.1.app (us:=[IntsW.th b2 t2 (.slice p2 xl d2) Xm]) ⟨⟨m,Nat.le_trans (show t2≤wE8.heap.size from Z9.out.1.2.2.1.2) q.size⟩,trivial⟩,k1.2⟩
 clear q m Z9
 go_upto_region 19 with fail
 go_wp2_with fail
 refine (HX'.out _ _ (IntsW.at (show IntsW _ _ _ _ _ from Z10.out.1.2.2.1.1))).mono ?_
 rintro e wK ⟨rfl,q⟩
 have Z11:Hid (Lies w [Thing.box w.heap.size cs 36,IntsW.th b0 t0 (.slice p0 xl d0) X,IntsW.th b2 t2 (.slice p2 xl d2) Xm] wK):=Z10.out.below q
 clear q Z10
 go_upto_region 24 with fail
 go_wp2_with (refine wpList_load_row rfl 36 (.tmp 1) rfl w.heap.size rfl _ _ _ _ (show Boxed _ _ _ _ from Z11.out.1.1) Tryz.underlying36 rfl (by rw [Hcs.out.1];kernel_rfl) ?_)
 refine (TT'.out _ (K.out _ Z11.out.2)).mono ?_
 rintro e wAZ12 ⟨⟨cA,rfl,-,iA⟩,q⟩
 have Z12:Hid (Lies w [Thing.box w.heap.size cs 36,IntsW.th b0 t0 (.slice p0 xl d0) X,IntsW.th b2 t2 (.slice p2 xl d2) Xm] wAZ12):=Z11.out.below q
 have AT:Hid (GtAt wAZ12 (.agg cA) g):=iA.at
 clear q iA Z11
 go_wp2_with fail
 refine (D'.out _ _ AT).mono ?_
 rintro e wL3 ⟨⟨p3,d3,rfl,rx⟩,q⟩
 clear AT
 obtain ⟨t3,hZ⟩:∃ t3,Lies w [Thing.box w.heap.size cs 36,IntsW.th b0 t0 (.slice p0 xl d0) X,IntsW.th b2 t2 (.slice p2 xl d2) Xm,IntsW.th wAZ12.heap.size t3 (.slice p3 xl d3) X] wL3∧wAZ12.heap.size≤t3∧t3≤wL3.heap.size∧w.heap.size+1≤wAZ12.heap.size:=⟨wL3.heap.size,(Z12.out.below q).more (Below.refl _ _) ⟨⟨rx,nlr⟩,trivial⟩,q.size,nlr,Boxed.under (show Boxed _ w.heap.size _ _ from Z12.out.1.1)⟩
 have Z13:Hid (_∧_):=hZ
 clear hZ q rx Z12
 generalize wAZ12.heap.size=b3 at Z13
 have Z13A:Hid (Lies w [Thing.box w.heap.size cs 36,IntsW.th b0 t0 (.slice p0 xl d0) X,IntsW.th b2 t2 (.slice p2 xl d2) Xm,IntsW.th b3 t3 (.slice p3 xl d3) X] wL3):=Z13.out.1
 have O3:Hid (b3≤t3∧t3≤wL3.heap.size∧w.heap.size+1≤b3):=Z13.out.2
 clear Z13
 clear O3
 go_wp2_with fail
 refine (EX'.out _ _ _ (IntsW.at (show IntsW _ _ _ _ _ from Z13A.out.1.2.2.2.1.1)) (IntsW.at (show IntsW _ _ _ _ _ from Z13A.out.1.2.1.1))).mono ?_
 rintro e wE13 ⟨rfl,q⟩
 have Z14:Hid (Lies w [Thing.box w.heap.size cs 36,IntsW.th b0 t0 (.slice p0 xl d0) X,IntsW.th b2 t2 (.slice p2 xl d2) Xm,IntsW.th b3 t3 (.slice p3 xl d3) X] wE13):=Z13A.out.below q
 clear q Z13A
 go_upto_region 28 with fail
 go_wp2_with fail
 refine (HX'.out _ _ (IntsW.at (show IntsW _ _ _ _ _ from Z14.out.1.2.2.1.1))).mono ?_
 rintro e wQ ⟨rfl,q⟩
 have Z15:Hid (Lies w [Thing.box w.heap.size cs 36,IntsW.th b0 t0 (.slice p0 xl d0) X,IntsW.th b2 t2 (.slice p2 xl d2) Xm,IntsW.th b3 t3 (.slice p3 xl d3) X] wQ):=Z14.out.below q
 clear q Z14
 go_wp2
 go_ret
 exact ⟨rfl,Z15.out.2⟩
theorem fnExactTimes_walk (g:Gt) (x:Ga) (w:World) (hl:GtLen g) (h:Hid (GtV w x g)) :
 Calls Tryz.prog 4 #[g.val x] w fun e w'=>e = .returned (.bool true)∧Bel w w' :=
 fnExactTimes_of implTimes g x w hl h
end Go.Proofs.YtmfabeghfdoibaaGreat
