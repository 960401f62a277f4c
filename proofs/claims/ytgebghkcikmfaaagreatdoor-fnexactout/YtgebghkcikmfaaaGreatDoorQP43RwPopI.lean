import Derived.Test.YtgebghkcikmfaaaGreatDoorQP39RwOkI
import Derived.Test.YtgebghkcikmfaaaGreatDoorQP35RwPuPo
import Derived.BigQuiet
set_option maxHeartbeats 12800000
set_option maxRecDepth 100000
namespace Go.Proofs.YtgebghkcikmfaaaGreatDoor
open Go.RowKit Go.Shelf
theorem implHasRow (r:Rw) (a:Option Addr) (c:Nat) (row:Int) (w:World) (hT:r.lists.length≤1048576) :
 Calls Tryz.prog 174 #[r.val a c,.int .i64 row] w fun e w'=>e = .returned (.bool (decide (0≤row)&&decide (row<r.lists.length)))∧Bel w w':=by
 have A:=fun B w h=>implUpTo1 ((r.lists.length:Int)-1) row w B h
 have e:Hid (inB 0 ((r.lists.length:Int)-1) row=(decide (0≤row)&&decide (row<r.lists.length))):=by
  show _=_
  rw [Bool.eq_iff_iff,inB_true,Bool.and_eq_true,decide_eq_true_iff,decide_eq_true_iff]
  omega
 generalize (decide (0≤row)&&decide (row<(r.lists.length:Int)))=z at e ⊢
 generalize inB 0 ((r.lists.length:Int)-1) row=y at A e
 unfold Rw.val
 generalize r.lists.length=n at A hT ⊢
 generalize r.most=f
 have A':Hid _:=A
 clear A
 have q1 : -9223372036854775808≤(n:Int)-1:=by omega
 have q2:(n:Int)-1≤9223372036854775807:=by omega
 go_enter Tryz.func174,Tryz.ntmps174
 go_wp2_with fail
 refine (A'.out _ _ (by simp)).mono ?_
 rintro e w' ⟨rfl,rfl⟩
 go_wp2
 go_ret
 exact ⟨ret_bool (by rw [← e.out]),((Below.refl _ _).alloc nlr _).alloc (by simp) _⟩
theorem implCopied (r:Rw) (a:Option Addr) (c:Nat) (w:World) (hB:r.big≤1048576) (h:Hid (IzAt w a r.lists)) :
 Calls Tryz.prog 99 #[r.val a c] w fun e w'=>(∃ v vs,e = .returned (.agg #[.int .i64 r.most,v])∧IzG (w.heap.size+2) v vs r.lists w')∧Bel w w' :=
 (implCpyRw r a c w hB h).mono fun _ _ hh=>by
  obtain ⟨⟨v,vs,e,hG,_⟩,hb⟩:=hh
  exact ⟨⟨v,vs,e,hG⟩,hb⟩
theorem implPopped (r:Rw) (v:Value) (row:Int) (w:World) (hB:r.big≤1048576) (h:Hid (RwAt w v r)) :
 Calls Tryz.prog 110 #[v,.int .i64 row] w fun e w'=>(∃ v',e = .returned (.tuple #[v',(r.poppedI row).val,.bool (r.poppedB row)])∧RwIn w.heap.size w'.heap.size w' v' (r.popped row))∧Below w.heap.size w w':=by
 obtain ⟨a,c,rfl,k⟩:=h.out
 obtain ⟨hT,-,hin⟩:=Rw.small hB
 have A1:=fun w h=>implRowsOk r a c w hB h
 have A2:=fun w h=>implCopied r a c w hB h
 have A6:=fun w=>implHasRow r a c row w hT
 have Hb:Hid (r.poppedB row=(r.ok&&r.mayPop row)):=rfl
 have Hi:Hid (r.poppedI row=if (r.ok&&r.mayPop row)=true then itAt (izAt r.lists row.toNat) 0 else ⟨0,0,0⟩):=rfl
 have Hp:Hid (r.popped row=if r.ok=true then (if r.mayPop row=true then ⟨r.most,r.lists.set row.toNat ((izAt r.lists row.toNat).drop 1)⟩ else r) else ⟨0,[]⟩):=rfl
 have Hm:Hid (r.mayPop row=((decide (0≤row)&&decide (row<r.lists.length)) && !decide ((izAt r.lists row.toNat).length=0))):=rfl
 have Hin:Hid (∀ k,k<r.lists.length→(izAt r.lists k).length≤1048576):=hin
 generalize r.poppedB row=pb at Hb ⊢
 generalize r.poppedI row=pi at Hi ⊢
 generalize r.popped row=pr at Hp ⊢
 generalize r.mayPop row=mp at Hb Hi Hp Hm
 generalize r.ok=ok at A1 Hb Hi Hp
 obtain ⟨f,ls⟩:=r
 simp only [Rw.val] at A1 A2 A6 Hi Hp Hm Hin k hT ⊢
 obtain ⟨n,hn⟩:∃ n,ls.length=n:=⟨_,rfl⟩
 rw [hn] at A1 A2 A6 Hm Hin hT ⊢
 obtain ⟨hv,hhv⟩:∃ z,(decide (0≤row)&&decide (row<(n:Int)))=z:=⟨_,rfl⟩
 rw [hhv] at A6 Hm
 have Hh:Hid ((decide (0≤row)&&decide (row<(n:Int)))=hv):=hhv
 have A6':Hid _:=A6
 have Hn:Hid (ls.length=n):=hn
 have A1':Hid _:=A1
 have A2':Hid _:=A2
 have K:Hid (IzAt w a ls):=k
 clear A1 A2 A6 h k hB hin hn hhv
 obtain ⟨W,hW⟩:∃ W,W=((w.alloc (.cells #[.int .i64 f,.slice a n c] 44)).alloc (.cells #[.int .i64 0,.slice none 0 0] 44)).alloc (.cells #[.int .i64 0,.int .i64 0,.int .i64 0] 52):=⟨_,rfl⟩
 have X:Hid (IzAt W a ls∧Boxed W w.heap.size #[.int .i64 f,.slice a n c] 44∧Boxed W (w.heap.size+1) #[.int .i64 0,.slice none 0 0] 44∧Boxed W (w.heap.size+1+1) #[.int .i64 0,.int .i64 0,.int .i64 0] 52∧Below w.heap.size w W):=by
  rw [hW]
  refine ⟨((K.out.alloc _).alloc _).alloc _,((Boxed.new w _ _).more _).more _,?_,?_,(((Below.refl _ _).alloc nlr _).alloc (by simp) _).alloc (by simp;omega) _⟩
  ·have:=(Boxed.new (w.alloc (.cells #[.int .i64 f,.slice a n c] 44)) #[.int .i64 0,.slice none 0 0] 44).more (.cells #[.int .i64 0,.int .i64 0,.int .i64 0] 52)
   simpa using this
  ·have:=Boxed.new ((w.alloc (.cells #[.int .i64 f,.slice a n c] 44)).alloc (.cells #[.int .i64 0,.slice none 0 0] 44)) #[.int .i64 0,.int .i64 0,.int .i64 0] 52
   simpa using this
 have HW:Hid (W=_):=hW
 clear hW
 go_enter Tryz.func110,Tryz.ntmps110
 go_wp2_with fail
 rw [← HW.out]
 refine (A1'.out _ X.out.1).mono ?_
 rintro e w1 ⟨rfl,q⟩
 have X1:Hid (IzAt w1 a ls∧Boxed w1 w.heap.size #[.int .i64 f,.slice a n c] 44∧Boxed w1 (w.heap.size+1) #[.int .i64 0,.slice none 0 0] 44∧Boxed w1 (w.heap.size+1+1) #[.int .i64 0,.int .i64 0,.int .i64 0] 52∧Below w.heap.size w w1) :=
  ⟨X.out.1.below q,X.out.2.1.below X.out.2.1.under q,X.out.2.2.1.below X.out.2.2.1.under q,X.out.2.2.2.1.below X.out.2.2.2.1.under q,X.out.2.2.2.2.trans (q.mono X.out.2.2.2.2.size)⟩
 clear q X A1' HW
 cases ok
 ·have e1:pb=false:=by rw [Hb.out];rfl
  have e2:pr=⟨0,[]⟩:=by rw [Hp.out];rfl
  have e3:pi=⟨0,0,0⟩:=by rw [Hi.out];rfl
  subst e1
  subst e2
  subst e3
  have r2:Boxed (w1.setRow (w.heap.size+1) #[.int .i64 0,.slice none 0 0]) (w.heap.size+1+1) #[.int .i64 0,.int .i64 0,.int .i64 0] 52:=(setRow_other _ _ _ _ (by omega)).trans X1.out.2.2.2.1
  go_wp2_with (first|(refine wpList_store_row rfl 44 (.tmp 4) (.tmp 12) rfl (w.heap.size+1) #[.int .i64 0,.slice none 0 0] rfl rfl _ _ X1.out.2.2.1 (by kernel_rfl) rfl (by simp [Value.oneCell']) ?_)|(refine wpList_store_row rfl 52 (.tmp 5) (.tmp 13) rfl (w.heap.size+1+1) #[.int .i64 0,.int .i64 0,.int .i64 0] rfl rfl _ _ r2 (by kernel_rfl) rfl (by simp [Value.oneCell']) ?_))
  refine bodyPost_ret (results_two_tmp Tryz.results110 _ _ (w.heap.size+1) (w.heap.size+1+1) _ _ #[.int .i64 0,.slice none 0 0] #[.int .i64 0,.int .i64 0,.int .i64 0] _ _ _ _ (.bool false) rfl rfl rfl ((setRow_other _ _ _ _ (by omega)).trans (setRow_heap w1 (w.heap.size+1) _ _ _ _ X1.out.2.2.1)) (setRow_heap _ (w.heap.size+1+1) _ _ _ _ r2) Tryz.underlying44 rfl (by kernel_rfl) Tryz.underlying52 rfl (by kernel_rfl)) rfl ⟨⟨_,rfl,none,0,rfl,izIn_nil _ _ _⟩,below_setRow (below_setRow X1.out.2.2.2.2 (by omega) _) (by omega) _⟩
 have c0:w1.cell? ⟨w.heap.size,0,none⟩=some (.int .i64 f):=X1.out.2.1.cell 0 rfl
 have c1:w1.cell? ⟨w.heap.size,1,none⟩=some (.slice a n c):=X1.out.2.1.cell 1 rfl
 go_wp2_with fail
 refine (A2'.out _ X1.out.1).mono ?_
 rintro e w2 ⟨⟨v2,vs,rfl,g2⟩,q⟩
 obtain ⟨vx,vc,ev⟩:=rows_shape g2.outer
 rw [Hn.out] at ev
 subst ev
 have X2:Hid (PoR w f a n c w2.heap.size (w1.heap.size+2) vx vc vs ls (w2.alloc (.cells #[.int .i64 f,.slice vx n vc] 44))):=by
  have s1:=X1.out.2.2.2.1.under
  have s2:=q.size
  refine ⟨(X1.out.2.1.below X1.out.2.1.under q).more _,(X1.out.2.2.1.below X1.out.2.2.1.under q).more _,(X1.out.2.2.2.1.below X1.out.2.2.2.1.under q).more _,Boxed.new _ _ _,g2.below ((Below.refl _ _).alloc nlr _),?_,by omega,by omega⟩
  have b:=X1.out.2.2.2.2.trans (q.mono X1.out.2.2.2.2.size)
  exact b.alloc b.size _
 clear q g2 X1 c0 c1 A2'
 go_upto_region 4 with fail
 generalize w2.alloc (.cells #[.int .i64 f,.slice vx n vc] 44)=w3 at X2 ⊢
 generalize w2.heap.size=B at X2 ⊢
 generalize w1.heap.size+2=G at X2
 have e1:pb=mp:=by rw [Hb.out];rfl
 subst e1
 have c0:w3.cell? ⟨w.heap.size,0,none⟩=some (.int .i64 f):=X2.out.box.cell 0 rfl
 have c1:w3.cell? ⟨w.heap.size,1,none⟩=some (.slice a n c):=X2.out.box.cell 1 rfl
 go_cut [28] (fun s wc=>Hid (s = .bool (!pb)∧PoR w f a n c B G vx vc vs ls wc))
 case first =>
  go_wp2_with fail
  refine (A6'.out _).mono ?_
  rintro e w4 ⟨rfl,q⟩
  have X4:Hid (PoR w f a n c B G vx vc vs ls w4):=X2.out.below q
  clear q c0 c1 X2
  cases hv
  ·have ep:pb=false:=by rw [Hm.out];rfl
   subst ep
   go_wp2_with fail
   go_meet
   exact ⟨rfl,X4.out⟩
  have hyes:0≤row∧row<(n:Int):=by
   have:=Hh.out
   rwa [Bool.and_eq_true,decide_eq_true_iff,decide_eq_true_iff] at this
  obtain ⟨j,rfl⟩:=Int.eq_ofNat_of_zero_le hyes.1
  have hjn:j<n:=by omega
  have hjl:j<ls.length:=by rw [Hn.out];exact hjn
  have hj2:(j:Int).toNat=j:=by simp
  rw [hj2] at Hm
  obtain ⟨b,off,ak,ck,ha,hb,hc,-⟩:=K.out.below X4.out.bel j hjl
  subst ha
  have c1:w4.cell? ⟨w.heap.size,1,none⟩=some (.slice (some ⟨b,off,none⟩) n c):=X4.out.box.cell 1 rfl
  have Eb:Hid (pb = !decide ((izAt ls j).length=0)):=by show pb=_;rw [Hm.out];rfl
  clear hj2 hyes
  generalize (izAt ls j).length=m at hc Eb
  have hjn':(j:Int)<(n:Int):=by omega
  by_cases hz:m=0
  ·have ep:pb=false:=by rw [Eb.out,decide_eq_true hz];rfl
   subst ep
   subst hz
   go_wp2_with fail
   go_meet
   exact ⟨rfl,X4.out⟩
  ·have ep:pb=true:=by rw [Eb.out,decide_eq_false hz];rfl
   subst ep
   have hz':¬ (m:Int)=0:=by omega
   go_wp2_with fail
   go_meet
   exact ⟨by first|rfl|simp [hz],X4.out⟩
 case rest =>
 obtain ⟨rfl,hP⟩:=hcut.out
 clear X2 c0 c1 A6'
 obtain ⟨w3,rfl⟩:∃ w3,w3=wc:=⟨_,rfl⟩
 have X2:Hid (PoR w f a n c B G vx vc vs ls w3):=hP
 clear hcut hP
 cases pb
 ·have e2:pr=⟨f,ls⟩:=by rw [Hp.out];rfl
  have e3:pi=⟨0,0,0⟩:=by rw [Hi.out];rfl
  subst e2
  subst e3
  have r2:Boxed (w3.setRow (w.heap.size+1) #[.int .i64 f,.slice vx n vc]) (w.heap.size+1+1) #[.int .i64 0,.int .i64 0,.int .i64 0] 52:=(setRow_other _ _ _ _ (by omega)).trans X2.out.item
  have D:=X2.out.done Hn.out (wz:=(w3.setRow (w.heap.size+1) #[.int .i64 f,.slice vx n vc]).setRow (w.heap.size+1+1) #[.int .i64 0,.int .i64 0,.int .i64 0]) (fun k h1 h2=>two_rows k h1 h2) (below_setRow (below_setRow (Below.refl _ _) (by omega) _) (by omega) _)
  go_wp2_with (first|(refine wpList_load_row rfl 44 (.tmp 7) rfl B rfl _ _ _ _ X2.out.out Tryz.underlying44 rfl (by kernel_rfl) ?_)|(refine wpList_store_row rfl 44 (.tmp 4) (.tmp 29) rfl (w.heap.size+1) _ rfl rfl _ _ X2.out.res (by kernel_rfl) rfl (by simp [Value.oneCell']) ?_)|(refine wpList_store_row rfl 52 (.tmp 5) (.tmp 30) rfl (w.heap.size+1+1) #[.int .i64 0,.int .i64 0,.int .i64 0] rfl rfl _ _ r2 (by kernel_rfl) rfl (by simp [Value.oneCell']) ?_))
  exact bodyPost_ret (results_two_tmp Tryz.results110 _ _ (w.heap.size+1) (w.heap.size+1+1) _ _ #[.int .i64 f,.slice vx n vc] #[.int .i64 0,.int .i64 0,.int .i64 0] _ _ _ _ (.bool false) rfl rfl rfl ((setRow_other _ _ _ _ (by omega)).trans (setRow_heap w3 (w.heap.size+1) _ _ _ _ X2.out.res)) (setRow_heap _ (w.heap.size+1+1) _ _ _ _ r2) Tryz.underlying44 rfl (by kernel_rfl) Tryz.underlying52 rfl (by kernel_rfl)) rfl ⟨⟨_,rfl,D.1⟩,D.2⟩
 have hm:=Hm.out
 have hrow:(0≤row∧row<(n:Int))∧¬ (izAt ls row.toNat).length=0:=by
  have h1:=hm.symm
  rw [← Hh.out] at h1
  simpa only [Bool.and_eq_true,decide_eq_true_eq,Bool.not_eq_true',decide_eq_false_iff_not] using h1
 obtain ⟨j,rfl⟩:=Int.eq_ofNat_of_zero_le hrow.1.1
 have hj2:(j:Int).toNat=j:=by simp
 rw [hj2] at Hi Hp hrow
 have hjn:j<n:=by omega
 have hjl:j<ls.length:=by rw [Hn.out];exact hjn
 have h0':¬ (j:Int)<0:=by omega
 have e2:pr=⟨f,ls.set j ((izAt ls j).drop 1)⟩:=by rw [Hp.out];rfl
 have e3:pi=itAt (izAt ls j) 0:=by rw [Hi.out];rfl
 have hz:=hrow.2
 subst e2
 subst e3
 clear hm Hm Hp Hi Hb hrow hj2 Hh
 obtain ⟨g,eg⟩:∃ g,vx=some ⟨g,0,none⟩:=by
  rcases X2.out.g.outer.2 with ⟨e,e0⟩|⟨g,cap,cur,e,_⟩
  ·rw [Hn.out] at e0;omega
  ·cases e;exact ⟨g,rfl⟩
 subst eg
 have hin:=Hin.out j hjn
 have K3:IzAt w3 a ls:=K.out.below X2.out.bel
 obtain ⟨b,off,ak,ck,ha,hb,hc,hr,hcap,hnil⟩:=K3 j hjl
 subst ha
 obtain ⟨b2,off2,eak,hb2,-⟩:=hr 0 (by omega)
 subst eak
 obtain ⟨e0,e1,e2⟩:=hr.cells (k:=0) (by omega)
 have hT:=hr.tail
 obtain ⟨l,hl⟩:∃ l,izAt ls j=l:=⟨_,rfl⟩
 have Hx:Hid (itAt (izAt ls j) 0=itAt l 0):=by show itAt (izAt ls j) 0=itAt l 0;rw [hl]
 rw [hl] at hin hc hcap hz e0 e1 e2 hT
 have Hl:Hid (izAt ls j=l):=hl
 generalize itAt l 0=x at e0 e1 e2 Hx
 obtain ⟨x0,x1,x2⟩:=x
 simp only [Nat.zero_mul,Nat.add_zero] at e0 e1 e2
 obtain ⟨m,hml⟩:∃ m,l.length=m+1:=⟨l.length-1,by omega⟩
 have Hm1:Hid (l.length=m+1):=hml
 have Hml:Hid ((l.drop 1).length=m):=by show (l.drop 1).length=m;rw [List.length_drop,hml];rfl
 rw [hml] at hc hin hcap
 have HT:Hid (ItsAt w3 (some ⟨b2,off2+3,none⟩) (l.drop 1)):=hT
 have c1:w3.cell? ⟨w.heap.size,1,none⟩=some (.slice (some ⟨b,off,none⟩) n c):=X2.out.box.cell 1 rfl
 have hjn':(j:Int)<(n:Int):=by omega
 have hm1:(0:Int)<(m:Int)+1:=by omega
 have Y:Hid (PoR w f (some ⟨b,off,none⟩) n c B G (some ⟨g,0,none⟩) vc vs ls (w3.alloc (.cells #[.int .i64 x0,.int .i64 x1,.int .i64 x2] 52))∧Boxed (w3.alloc (.cells #[.int .i64 x0,.int .i64 x1,.int .i64 x2] 52)) w3.heap.size #[.int .i64 x0,.int .i64 x1,.int .i64 x2] 52∧ItsAt (w3.alloc (.cells #[.int .i64 x0,.int .i64 x1,.int .i64 x2] 52)) (some ⟨b2,off2+3,none⟩) (l.drop 1)∧(w3.alloc (.cells #[.int .i64 x0,.int .i64 x1,.int .i64 x2] 52)).cell? ⟨b,off+j,none⟩=some (.slice (some ⟨b2,off2,none⟩) (m+1) ck)∧g<w3.heap.size∧w.heap.size+3≤w3.heap.size∧b<w3.heap.size):=by
  have hb0:Below w3.heap.size w3 (w3.alloc (.cells #[.int .i64 x0,.int .i64 x1,.int .i64 x2] 52)):=(Below.refl _ _).alloc nlr _
  exact ⟨X2.out.below hb0,Boxed.new _ _ _,hT.below hb0,by rw [hb0.cell (p:=⟨b,off+j,none⟩) hb];exact hc,(World.ownsRow.lt X2.out.g.outer g rfl).2,by have:=X2.out.hi;have:=X2.out.out.under;omega,hb⟩
 go_upto_region 7 with fail
 generalize w3.alloc (.cells #[.int .i64 x0,.int .i64 x1,.int .i64 x2] 52)=wy at Y ⊢
 generalize w3.heap.size=F at Y ⊢
 clear X2 e0 e1 e2 hT hc hr K3 c1 HT hb hb2 hnil hl hml
 obtain ⟨w3,rfl⟩:∃ w3,w3=wy:=⟨_,rfl⟩
 have X2:Hid (PoR w f (some ⟨b,off,none⟩) n c B G (some ⟨g,0,none⟩) vc vs ls w3):=Y.out.1
 have hin':m≤1048576:=by omega
 have hg1:=World.ownsRow.lt X2.out.g.outer g rfl
 have hlo:=X2.out.lo
 have hhi:=X2.out.hi
 have hBs:=X2.out.out.under
 have hout:w3.ownsRow G 111 1 (.slice (some ⟨g,0,none⟩) n vc) n vs:=by
  have h1:=X2.out.g.outer
  rw [Hn.out] at h1
  exact h1
 have hcell:w3.cell? ⟨g,j,none⟩=some (izV vs j):=by
  have hl:=X2.out.g.len
  rw [hout.cellAt j (by omega)]
  unfold izV
  rw [List.getElem?_eq_getElem (by omega)]
  rfl
 have hice:=hout.frozenAt j
 have hgB:g≠B:=by
  intro e
  subst e
  have h1:=X2.out.out
  rcases X2.out.g.outer.2 with ⟨e,_⟩|⟨g',cap,cur,e,_,hg',_⟩
  ·cases e
  ·cases e
   unfold Boxed at h1
   rw [h1] at hg'
   simp only [Option.some.injEq,Obj.cells.injEq] at hg'
   exact absurd hg'.2.1 (by decide)
 have Set:Hid (∀ u w2,ItRow w3.heap.size w2 u (l.drop 1)→Below w3.heap.size w3 w2→PoR w f (some ⟨b,off,none⟩) n c B G (some ⟨g,0,none⟩) vc (vs.set j u) (ls.set j (l.drop 1)) (w2.setCell ⟨g,j,none⟩ u)∧Boxed (w2.setCell ⟨g,j,none⟩ u) F #[.int .i64 x0,.int .i64 x1,.int .i64 x2] 52):=fun u w2 q1 q2=>by
  have oth:∀ y,y≠g→y<w3.heap.size→(w2.setCell ⟨g,j,none⟩ u).heap[y]? = w3.heap[y]? := fun y hy hl=>(Below.heap_setCell _ _ _ _ hy).trans (q2.block y hl)
  have bel:Below w.heap.size w (w2.setCell ⟨g,j,none⟩ u):=(X2.out.bel.trans (q2.mono (by omega))).setCell (by show w.heap.size≤g;omega) _
  refine ⟨⟨(oth _ (by omega) (by omega)).trans X2.out.box,(oth _ (by omega) (by omega)).trans X2.out.res,(oth _ (by omega) (by omega)).trans X2.out.item,(oth _ (fun e=>hgB e.symm) hBs).trans X2.out.out,?_,bel,hlo,hhi⟩,(oth F (fun e=>by have:=Y.out.2.2.2.2.1;omega) Y.out.2.1.under).trans Y.out.2.1⟩
  exact X2.out.g.set hjl (q1.mono (by omega)) (fun k _ hk=>q2.block k hk) (fun k hk=>.inr (q1.lt k hk).1) (g:=g) (cap:=vc) (by rw [Hn.out])
 have HC:=fun a0 c0 wx h=>implCopyOf a0 c0 (l.drop 1) wx (by rw [Hml.out];exact hin') h
 rw [Hml.out] at HC
 have HC':Hid _:=HC
 have hcl:w3.cell? ⟨B,1,none⟩=some (.slice (some ⟨g,0,none⟩) n vc):=X2.out.out.cell 1 rfl
 have c1:w3.cell? ⟨w.heap.size,1,none⟩=some (.slice (some ⟨b,off,none⟩) n c):=X2.out.box.cell 1 rfl
 have hc:w3.cell? ⟨b,off+j,none⟩=some (.slice (some ⟨b2,off2,none⟩) (m+1) ck):=Y.out.2.2.2.1
 have hgl:g<w3.heap.size:=hg1.2
 have hsl:w.heap.size<w3.heap.size:=by omega
 have Hcell:Hid _:=hcell
 clear hg1 hlo hhi hz hout HC hcell
 go_cut [] (fun wz=>Hid (∃ u,PoR w f (some ⟨b,off,none⟩) n c B G (some ⟨g,0,none⟩) vc (vs.set j u) (ls.set j (l.drop 1)) wz∧Boxed wz F #[.int .i64 x0,.int .i64 x1,.int .i64 x2] 52))
 case first =>
  have hm1:(1:Int)≤(m:Int)+1:=by omega
  have hm2:(0:Int)≤(m:Int):=by omega
  by_cases hck:ck=1
  ·subst hck
   obtain rfl:m=0:=by omega
   have HT0:Hid (ItsAt w3 (some ⟨b2,off2,none⟩) (l.drop 1)):=by
    show ItsAt _ _ _
    rw [List.eq_nil_of_length_eq_zero Hml.out]
    exact ItsAt.nil _ _
   go_region_law (refine stepCall rfl 175 rfl #[.slice (some ⟨b2,off2,none⟩) 0 0] (by kernel_rfl) (HC'.out _ _ w3.drew (HT0.out.drew)) ?_;rintro e w2 ⟨x,rfl,q1,q2⟩;refine ⟨_,rfl,?_⟩;have q6:Below w3.heap.size w3 w2:=(Below.refl _ w3).drew.trans q2;have R:Hid _:=Set.out _ w2 q1 q6;have f1:∃ y,w2.cell? ⟨g,j,none⟩=some y:=⟨_,by rw [q6.cell (p:=⟨g,j,none⟩) hgl];exact Hcell.out⟩;obtain ⟨y1,f1⟩:=f1;have f2:w2.cell? ⟨B,1,none⟩=some (.slice (some ⟨g,0,none⟩) n vc):=(by rw [q6.cell (p:=⟨B,1,none⟩) hBs];exact hcl);have f3:w2.frozen? ⟨g,j,none⟩=false:=(by rw [ice_kept (q6.block g hgl)];exact hice);have l2:B<w2.heap.size:=Nat.lt_of_lt_of_le hBs q6.size;have l3:g<w2.heap.size:=Nat.lt_of_lt_of_le hgl q6.size;clear q1 q2 q6)
   all_goals (go_wp2_with fail;go_meet;exact ⟨_,R.out⟩)
  ·have hck':(ck=1)=False:=by simp [hck]
   go_region_law (refine stepCall rfl 175 rfl #[.slice (some ⟨b2,off2+3,none⟩) m (ck-1)] (by kernel_rfl) (HC'.out _ _ w3.drew (Y.out.2.2.1.drew)) ?_;rintro e w2 ⟨x,rfl,q1,q2⟩;refine ⟨_,rfl,?_⟩;have q6:Below w3.heap.size w3 w2:=(Below.refl _ w3).drew.trans q2;have R:Hid _:=Set.out _ w2 q1 q6;have f1:∃ y,w2.cell? ⟨g,j,none⟩=some y:=⟨_,by rw [q6.cell (p:=⟨g,j,none⟩) hgl];exact Hcell.out⟩;obtain ⟨y1,f1⟩:=f1;have f2:w2.cell? ⟨B,1,none⟩=some (.slice (some ⟨g,0,none⟩) n vc):=(by rw [q6.cell (p:=⟨B,1,none⟩) hBs];exact hcl);have f3:w2.frozen? ⟨g,j,none⟩=false:=(by rw [ice_kept (q6.block g hgl)];exact hice);have l2:B<w2.heap.size:=Nat.lt_of_lt_of_le hBs q6.size;have l3:g<w2.heap.size:=Nat.lt_of_lt_of_le hgl q6.size;clear q1 q2 q6)
   all_goals (go_wp2_with fail;go_meet;exact ⟨_,R.out⟩)
 case rest =>
 obtain ⟨u,hP⟩:=hcut.out
 obtain ⟨w4,rfl⟩:∃ w4,w4=wc:=⟨_,rfl⟩
 have X4:Hid (PoR w f (some ⟨b,off,none⟩) n c B G (some ⟨g,0,none⟩) vc (vs.set j u) (ls.set j (l.drop 1)) w4):=hP.1
 have XF:Hid (Boxed w4 F #[.int .i64 x0,.int .i64 x1,.int .i64 x2] 52):=hP.2
 have hF:=Y.out.2.2.2.2.2.1
 have n1:¬ F=w.heap.size+1:=by omega
 have n2:¬ F=w.heap.size+1+1:=by omega
 have hB3:=X4.out.hi
 have n5:¬ B=w.heap.size+1:=by omega
 have n6:¬ B=w.heap.size+1+1:=by omega
 have e0:w4.cell? ⟨F,0,none⟩=some (.int .i64 x0):=XF.out.cell 0 rfl
 have e1:w4.cell? ⟨F,1,none⟩=some (.int .i64 x1):=XF.out.cell 1 rfl
 have e2:w4.cell? ⟨F,2,none⟩=some (.int .i64 x2):=XF.out.cell 2 rfl
 clear hcut hP Hcell hice hcl hc c1 X2 Set Y
 have o0:w4.cell? ⟨B,0,none⟩=some (.int .i64 f):=X4.out.out.cell 0 rfl
 have o1:w4.cell? ⟨B,1,none⟩=some (.slice (some ⟨g,0,none⟩) n vc):=X4.out.out.cell 1 rfl
 have s1:w4.cell? ⟨w.heap.size,1,none⟩=some (.slice (some ⟨b,off,none⟩) n c):=X4.out.box.cell 1 rfl
 have t0:w4.cell? ⟨w.heap.size+1,0,none⟩=some (.int .i64 0):=X4.out.res.cell 0 rfl
 have t1:w4.cell? ⟨w.heap.size+1,1,none⟩=some (.slice none 0 0):=X4.out.res.cell 1 rfl
 have y0:w4.cell? ⟨w.heap.size+1+1,0,none⟩=some (.int .i64 0):=X4.out.item.cell 0 rfl
 have y1:w4.cell? ⟨w.heap.size+1+1,1,none⟩=some (.int .i64 0):=X4.out.item.cell 1 rfl
 have y2:w4.cell? ⟨w.heap.size+1+1,2,none⟩=some (.int .i64 0):=X4.out.item.cell 2 rfl
 have t2:=X4.out.res.ice 0
 have t3:=X4.out.res.ice 1
 have y3:=X4.out.item.ice 0
 have y4:=X4.out.item.ice 1
 have y5:=X4.out.item.ice 2
 clear hBs hgB hgl hsl hcap hin hF
 have P:=pop_fill (n:=w.heap.size) (.int .i64 f) (.slice (some ⟨g,0,none⟩) n vc) (.int .i64 x0) (.int .i64 x1) (.int .i64 x2) X4.out.res X4.out.item (by omega) (by omega) (by omega)
 have hln:(ls.set j (l.drop 1)).length=n:=by rw [List.length_set];exact Hn.out
 have Fin:Hid (∀ X:World,Boxed X (w.heap.size+1) #[.int .i64 f,.slice (some ⟨g,0,none⟩) n vc] 44∧Boxed X (w.heap.size+1+1) #[.int .i64 x0,.int .i64 x1,.int .i64 x2] 52∧(∀ k,k≠w.heap.size+1→k≠w.heap.size+1+1→X.heap[k]? = w4.heap[k]?)∧Below w.heap.size w4 X →
  ∀ z:Act,z.tmps.getD 4 undef = .pointer (some ⟨w.heap.size+1,0,none⟩)→z.tmps.getD 5 undef = .pointer (some ⟨w.heap.size+1+1,0,none⟩)→z.tmps.getD 6 undef = .bool true→z.defers=[] →
  bodyPost Tryz.prog Tryz.f110 (fun e w'=>(∃ v',e = .returned (.tuple #[v',(itAt (izAt ls j) 0).val,.bool true])∧RwIn w.heap.size w'.heap.size w' v' ⟨f,ls.set j ((izAt ls j).drop 1)⟩)∧Below w.heap.size w w') .ret z X):=by
  intro X hX z z4 z5 z6 zd
  have D:=X4.out.done hln hX.2.2.1 hX.2.2.2
  exact bodyPost_ret (results_two_tmp Tryz.results110 _ _ (w.heap.size+1) (w.heap.size+1+1) _ _ _ _ _ _ _ _ (.bool true) z4 z5 z6 hX.1 hX.2.1 Tryz.underlying44 rfl (by kernel_rfl) Tryz.underlying52 rfl (by kernel_rfl)) zd ⟨⟨_,by rw [Hx.out];rfl,by rw [Hl.out];exact D.1⟩,D.2⟩
 have P1:Hid (_∧_∧_∧_):=P.1
 clear P hln
 go_wp2_with fail
 go_region
 all_goals (
  go_wp2
  generalize ((((w4.setCell ⟨w.heap.size+1,0,none⟩ (.int .i64 f)).setCell ⟨w.heap.size+1,1,none⟩ (.slice (some ⟨g,0,none⟩) n vc)).setCell ⟨w.heap.size+1+1,0,none⟩ (.int .i64 x0)).setCell ⟨w.heap.size+1+1,1,none⟩ (.int .i64 x1)).setCell ⟨w.heap.size+1+1,2,none⟩ (.int .i64 x2)=XX at P1 ⊢
  exact Fin.out XX.drew ⟨P1.out.1,P1.out.2.1,P1.out.2.2.1,P1.out.2.2.2.drew⟩ _ rfl rfl rfl rfl)
end Go.Proofs.YtgebghkcikmfaaaGreatDoor
