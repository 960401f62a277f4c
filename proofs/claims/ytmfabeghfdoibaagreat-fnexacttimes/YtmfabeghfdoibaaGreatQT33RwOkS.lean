import Derived.Test.YtmfabeghfdoibaaGreatQT11RwFn
import Derived.Test.YtmfabeghfdoibaaGreatQT7NumIn
import Derived.Test.YtmfabeghfdoibaaGreatQT3IntRow
import Derived.Test.YtmfabeghfdoibaaGreatQT15Quiet
set_option maxHeartbeats 6400000
set_option maxRecDepth 100000
namespace Go.Proofs.YtmfabeghfdoibaaGreat
open Go.RowKit
theorem specTime (t:Int) (w:World) :
 Calls Tryz.prog 31 #[.int .i64 t] w fun e w'=>e = .returned (.bool (inB 0 1099511627776 t))∧w'=w:=by
 go_enter Tryz.func31,Tryz.ntmps31
 go_wp2_with (go_at_call 86;refine (specIn _ _ _ _).mono ?_;rintro e w' ⟨rfl,rfl⟩)
 go_ret
 exact ⟨rfl,rfl⟩
theorem specItem (i:It) (w:World) :
 Calls Tryz.prog 151 #[i.val] w fun e w'=>e = .returned (.bool i.ok)∧w'=w.alloc (.cells i.cells.toArray 80):=by
 have Hok:Hid (i.ok=(inB 1 1000000 i.id&&(inB 1 100000 i.size&&inB 0 1099511627776 i.tm))):=rfl
 obtain ⟨k,x,m⟩:=i
 generalize It.ok _=ok at Hok ⊢
 simp only [It.val,It.cells] at Hok ⊢
 have A1:=fun w=>specIn k 1 1000000 w
 have A2:=fun w=>specIn x 1 100000 w
 have A3:=fun w=>specTime m w
 generalize inB 1 1000000 k=b1 at A1 Hok
 generalize inB 1 100000 x=b2 at A2 Hok
 generalize inB 0 1099511627776 m=b3 at A3 Hok
 have A1':Hid _:=A1
 have A2':Hid _:=A2
 have A3':Hid _:=A3
 clear A1 A2 A3
 go_enter Tryz.func151,Tryz.ntmps151
 go_wp2_with fail
 refine (A1'.out _).mono ?_
 rintro e w' ⟨rfl,rfl⟩
 cases b1
 ·go_wp2
  go_ret
  exact ⟨ret_bool (by rw [Hok.out];rfl),rfl⟩
 go_wp2_with fail
 refine (A2'.out _).mono ?_
 rintro e w' ⟨rfl,rfl⟩
 cases b2
 ·go_wp2
  go_ret
  exact ⟨ret_bool (by rw [Hok.out];rfl),rfl⟩
 go_wp2_with fail
 refine (A3'.out _).mono ?_
 rintro e w' ⟨rfl,rfl⟩
 go_wp2
 go_ret
 exact ⟨ret_bool (by rw [Hok.out];rfl),rfl⟩
theorem specHasI (a:Option Addr) (cap:Nat) (zs:List Int) (x:Int) (w:World) (hbig:zs.length≤1048576) (hc:Hid (IntsAt w a zs)) :
 Calls Tryz.prog 152 #[.slice a zs.length cap,.int .i64 x] w fun e w'=>e = .returned (.bool (decide (x∈zs)))∧w'=w:=by
 obtain ⟨len,hlen⟩:∃ n,zs.length=n:=⟨_,rfl⟩
 obtain ⟨r,hr⟩:∃ r,decide (x∈zs)=r:=⟨_,rfl⟩
 rw [hlen] at hbig ⊢
 rw [hr]
 have Hlen:Hid (zs.length=len):=hlen
 have Hr:Hid (decide (x∈zs)=r):=hr
 clear hlen hr
 go_enter Tryz.func152,Tryz.ntmps152
 go_wp2
 go_loop [5] (fun i=>∃ k:Nat,k≤len∧i = .int .i64 k∧Hid (x∉zs.take k)) (fun i=>len-(intOf i).toNat)
 case atStart=>exact ⟨0,Nat.zero_le _,rfl,by show x∉zs.take 0;simp⟩
 case round =>
  obtain ⟨k,hk,rfl,Hno⟩:=hrel
  by_cases hlt:k<len
  ·obtain ⟨b,off,ha,hb,hcell⟩:=hc.out k (by rw [Hlen.out];exact hlt)
   subst ha
   have hkz:k<zs.length:=by rw [Hlen.out];exact hlt
   have hs:zs.take (k+1)=zs.take k++[zs[k]?.getD 0]:=by rw [List.take_succ_eq_append_getElem hkz,List.getElem?_eq_getElem hkz];rfl
   have hm:zs[k]?.getD 0∈zs:=by rw [List.getElem?_eq_getElem hkz];exact List.getElem_mem hkz
   generalize zs[k]?.getD 0=z at hcell hs hm
   have Hs:Hid (zs.take (k+1)=zs.take k++[z]):=hs
   have Hm:Hid (z∈zs):=hm
   clear hs hm
   by_cases hz:z=x
   ·have er:r=true:=by rw [← Hr.out];simp;rw [← hz];exact Hm.out
    subst er
    subst hz
    go_wp2
    go_ret
    exact ⟨rfl,rfl⟩
   ·have hz':¬ z=x:=hz
    go_wp2
    go_round
    case rel =>
     refine ⟨k+1,by omega,by go_num,?_⟩
     show x∉zs.take (k+1)
     rw [Hs.out]
     intro h
     rcases List.mem_append.1 h with h|h
     ·exact Hno.out h
     ·exact hz (List.mem_singleton.1 h).symm
    case measure=>simp [intOf];omega
  ·have er:r=false:=by
    rw [← Hr.out]
    have:zs.take k=zs:=List.take_of_length_le (by rw [Hlen.out];omega)
    have h:=Hno.out
    rw [this] at h
    simp [h]
   subst er
   go_wp2
   go_ret
   exact ⟨rfl,rfl⟩
theorem ok_bad {r:Rw} (h:¬ ((1≤r.most∧r.most≤200)∧(1≤r.lists.length∧r.lists.length≤16))):r.ok=false:=by
 rw [Rw.ok_no]
 intro g
 exact h ⟨g.1,g.2.1⟩
theorem ok_long {r:Rw} {i:Nat} (hi:i<r.lists.length) (h:200<(izAt r.lists i).length):r.ok=false:=by
 rw [Rw.ok_no]
 intro g
 have h1:=g.2.2.2.2
 rw [all_length] at h1
 have h2:=izSum_one hi
 have h3:=g.1.2
 omega
theorem ok_end {r:Rw} (h:(1≤r.most∧r.most≤200)∧(1≤r.lists.length∧r.lists.length≤16)) (g:goodIts r.most (r.pre r.lists.length 0)):r.ok=true:=by
 rw [pre_end] at g
 rw [Rw.ok_iff]
 exact ⟨h.1,h.2,g⟩
theorem specRowsOk (r:Rw) (a:Option Addr) (c:Nat) (w:World) (hB:r.big≤1048576) (h:Hid (IzAt w a r.lists)) :
 Calls Tryz.prog 84 #[r.val a c] w fun e w'=>e = .returned (.bool r.ok)∧Bel w w':=by
 obtain ⟨hT,-,-⟩:=Rw.small hB
 obtain ⟨R,hR⟩:∃ R,r.ok=R:=⟨_,rfl⟩
 rw [hR]
 have HR:Hid (r.ok=R):=hR
 obtain ⟨len,hlen⟩:∃ n,r.lists.length=n:=⟨_,rfl⟩
 obtain ⟨f,hf⟩:∃ f,r.most=f:=⟨_,rfl⟩
 unfold Rw.val
 rw [hlen] at hT ⊢
 rw [hf]
 have Hlen:Hid (r.lists.length=len):=hlen
 have Hf:Hid (r.most=f):=hf
 have A1:=fun w=>specIn f 1 200 w
 clear hlen hB hR hf
 obtain ⟨W,hW⟩:∃ W,W=w.alloc (.cells #[.int .i64 f,.slice a len c] 44):=⟨_,rfl⟩
 have X:Hid (IzAt W a r.lists∧Bel w W∧Boxed W w.heap.size #[.int .i64 f,.slice a len c] 44∧w.heap.size<W.heap.size):=by
  rw [hW]
  exact ⟨h.out.alloc _,(Below.refl _ _).alloc nlr _,Boxed.new _ _ _,by simp⟩
 have HW:Hid (W=_):=hW
 clear hW h
 by_cases h1:inB 1 200 f=true
 case neg =>
  have h1':inB 1 200 f=false:=by simpa using h1
  rw [h1'] at A1
  have er:R=false:=by
   rw [← HR.out]
   refine ok_bad fun g=>?_
   rw [Hf.out] at g
   exact h1 (inB_true.2 g.1)
  subst er
  have A1':Hid _:=A1
  clear A1 h1 h1'
  go_enter Tryz.func84,Tryz.ntmps84
  go_wp2_with fail
  refine (A1'.out _).mono ?_
  rintro e w' ⟨rfl,rfl⟩
  go_wp2
  go_ret
  exact ⟨rfl,by rw [← HW.out];exact X.out.2.1⟩
 rw [h1] at A1
 have A1':Hid _:=A1
 have hf:=inB_true.1 h1
 clear A1 h1
 by_cases h2:1≤len∧len≤16
 case neg =>
  have er:R=false:=by
   rw [← HR.out]
   refine ok_bad fun g=>?_
   rw [Hlen.out] at g
   exact h2 g.2
  subst er
  have h3:len<1∨16<len:=by omega
  clear h2
  rcases h3 with h3|h3
  ·have h3':(len:Int)<1:=by omega
   go_enter Tryz.func84,Tryz.ntmps84
   go_wp2_with fail
   refine (A1'.out _).mono ?_
   rintro e w' ⟨rfl,rfl⟩
   go_wp2
   go_ret
   exact ⟨rfl,by rw [← HW.out];exact X.out.2.1⟩
  ·have h3':¬ (len:Int)<1:=by omega
   have h4':(16:Int)<len:=by omega
   go_enter Tryz.func84,Tryz.ntmps84
   go_wp2_with fail
   refine (A1'.out _).mono ?_
   rintro e w' ⟨rfl,rfl⟩
   go_wp2
   go_ret
   exact ⟨rfl,by rw [← HW.out];exact X.out.2.1⟩
 have Yes:Hid (goodIts f (r.pre len 0)→R=true):=fun g=>by
  rw [← HR.out]
  refine ok_end ?_ (by rw [Hf.out,Hlen.out];exact g)
  rw [Hf.out,Hlen.out]
  exact ⟨hf,h2⟩
 have No:Hid (∀ i k,i<len→¬ goodIts f (r.pre i k)→R=false):=fun i k hi hn=>by
  rw [← HR.out]
  exact pre_no (i:=i) (k:=k) (by rw [Hlen.out];exact hi) (by rw [Hf.out];exact hn)
 have Long:Hid (∀ i,i<len→200<(izAt r.lists i).length→R=false):=fun i hi hn=>by
  rw [← HR.out]
  exact ok_long (by rw [Hlen.out];exact hi) hn
 have h3':¬ (len:Int)<1:=by omega
 have h4':¬ (16:Int)<len:=by omega
 have f0:0≤f:=by omega
 have f1:f≤200:=by omega
 clear hf h2 HR
 go_enter Tryz.func84,Tryz.ntmps84
 go_wp2_with fail
 refine (A1'.out _).mono ?_
 rintro e w' ⟨rfl,rfl⟩
 have c0:(w.alloc (.cells #[.int .i64 f,.slice a len c] 44)).cell? ⟨w.heap.size,1,none⟩=some (.slice a len c):=by rw [← HW.out];exact X.out.2.2.1.cell 1 rfl
 go_wp2
 rw [← HW.out]
 clear c0 h3' h4' A1'
 have S0:Hid (IRow W.heap.size (W.alloc (.cells #[] 2)) (.slice (some ⟨W.heap.size,0,none⟩) 0 0) []∧Bel W (W.alloc (.cells #[] 2))):=⟨irow_built _ _ nlr,(Below.refl _ _).alloc nlr _⟩
 have hWs:Hid (w.heap.size+1=W.heap.size):=by show w.heap.size+1=W.heap.size;rw [HW.out];simp
 go_loopw [3,4,5,6] (fun v i _ _ wr=>∃ k:Nat,k≤len∧i = .int .i64 k∧Hid (IRow W.heap.size wr v ((r.pre k 0).map It.id)∧goodIts f (r.pre k 0)∧Bel W wr)) (fun _ i _ _ _=>len-(intOf i).toNat)
 case atStart =>
  refine ⟨0,Nat.zero_le _,rfl,?_⟩
  show IRow _ _ _ _∧_∧_
  rw [pre_zero]
  refine ⟨?_,goodIts.nil f0,S0.out.2⟩
  have:=S0.out.1
  rw [← hWs.out] at this
  rw [← hWs.out]
  exact this
 case round =>
  obtain ⟨k,hk,rfl,HK⟩:=hrel
  clear S0
  obtain ⟨wo,rfl⟩:∃ wo,wo=wr:=⟨_,rfl⟩
  have cb:wo.cell? ⟨w.heap.size,1,none⟩=some (.slice a len c):=(X.out.2.2.1.below X.out.2.2.2 HK.out.2.2).cell 1 rfl
  by_cases hlt:k<len
  ·have hkl:k<r.lists.length:=by rw [Hlen.out];exact hlt
   have RO:=X.out.1.below HK.out.2.2
   obtain ⟨b,off,ak,ck,ha,hb,hc,-,-⟩:=X.out.1 k hkl
   subst ha
   have hc':wo.cell? ⟨b,off+k,none⟩=some (.slice ak (izAt r.lists k).length ck):=by rw [HK.out.2.2.cell (p:=⟨b,off+k,none⟩) hb];exact hc
   have HC:Hid (∀ wx,Bel W wx→wx.cell? ⟨b,off+k,none⟩=some (.slice ak (izAt r.lists k).length ck)∧ItsAt wx ak (izAt r.lists k)∧wx.cell? ⟨w.heap.size,1,none⟩=some (.slice (some ⟨b,off,none⟩) len c)∧wx.cell? ⟨w.heap.size,0,none⟩=some (.int .i64 f)):=fun wx g=>by
    obtain ⟨b',off',ak',ck',ha',hb',hc1,hr1,-⟩:=X.out.1 k hkl
    cases ha'
    rw [hc1] at hc
    cases hc
    exact ⟨by rw [g.cell (p:=⟨b,off+k,none⟩) hb];exact hc1,hr1.below g,(X.out.2.2.1.below X.out.2.2.2 g).cell 1 rfl,(X.out.2.2.1.below X.out.2.2.2 g).cell 0 rfl⟩
   have hl:=Long.out k hlt
   have hnx:r.pre (k+1) 0=r.pre k (izAt r.lists k).length:=pre_next hkl
   obtain ⟨n,hnl⟩:∃ n,(izAt r.lists k).length=n:=⟨_,rfl⟩
   rw [hnl] at hc' HC hl hnx
   have Hnl:Hid ((izAt r.lists k).length=n):=hnl
   have Hnx:Hid (r.pre (k+1) 0=r.pre k n):=hnx
   clear hnl hnx RO hc
   by_cases h200:200<n
   ·have er:=hl h200
    subst er
    have h200':(200:Int)<n:=by omega
    go_wp2
    go_ret
    exact ⟨rfl,X.out.2.1.trans (HK.out.2.2.mono X.out.2.1.size)⟩
   have h200':¬ (200:Int)<n:=by omega
   clear hl
   go_wp2
   go_loopw [3,5,6] (fun v j _ wr=>∃ q:Nat,q≤n∧j = .int .i64 q∧Hid (IRow W.heap.size wr v ((r.pre k q).map It.id)∧goodIts f (r.pre k q)∧Bel W wr)) (fun _ j _ _=>n-(intOf j).toNat)
   case atStart=>exact ⟨0,Nat.zero_le _,rfl,HK.out⟩
   case round =>
    obtain ⟨q,hq,rfl,HQ⟩:=hrel
    clear HK cb hc'
    obtain ⟨ce,cr,cb,cf⟩:=HC.out _ HQ.out.2.2
    by_cases hql:q<n
    ·have hqn:q<(izAt r.lists k).length:=by rw [Hnl.out];exact hql
     obtain ⟨b2,off2,ha2,hb2,-⟩:=cr q hqn
     subst ha2
     obtain ⟨e0,e1,e2⟩:=cr.cells hqn
     have hs:r.pre k (q+1)=r.pre k q++[itAt (izAt r.lists k) q]:=pre_step hqn
     have Hg:=fun g=>goodIts.one (x:=itAt (izAt r.lists k) q) (a:=r.pre k q) (most:=f) g
     rw [← hs] at Hg
     have IC:=fun w=>(specItem (itAt (izAt r.lists k) q) w).mono (R':=fun e w'=>e = .returned (.bool (itAt (izAt r.lists k) q).ok)∧Bel w w') fun _ _ h=>⟨h.1,by rw [h.2];exact (Below.refl _ _).alloc nlr _⟩
     generalize itAt (izAt r.lists k) q=x at e0 e1 e2 hs Hg IC
     have Hs:Hid (r.pre k (q+1)=r.pre k q++[x]):=hs
     have HG:Hid (goodIts f (r.pre k (q+1))↔x.ok=true∧x.id∉(r.pre k q).map It.id∧((r.pre k q).length:Int)<f):=Hg HQ.out.2.1
     have Hxid:Hid ((r.pre k (q+1)).map It.id=(r.pre k q).map It.id++[x.id]):=by rw [hs];exact List.map_append ..
     have hlq:((r.pre k q).length:Int)≤200:=by have:=HQ.out.2.1.2.2;omega
     obtain ⟨av,cv,hv⟩:=HQ.out.1.shape
     rw [List.length_map] at hv
     have HC2:=fun w h=>specHasI av cv ((r.pre k q).map It.id) x.id w (by rw [List.length_map];omega) h
     rw [List.length_map] at HC2
     generalize hok:x.ok=ok at IC HG
     generalize hhas:decide (x.id∈(r.pre k q).map It.id)=has at HC2
     obtain ⟨m,hm⟩:∃ m,(r.pre k q).length=m:=⟨_,rfl⟩
     rw [hm] at hv HC2 HG hlq
     have Hm:Hid ((r.pre k q).length=m):=hm
     obtain ⟨x0,x1,x2⟩:=x
     simp only [It.val] at e0 e1 e2 IC HC2 HG Hs Hxid hhas hok
     have Hhas:Hid (decide (x0∈(r.pre k q).map It.id)=has):=hhas
     subst hv
     have HC2':Hid _:=HC2
     have IC':Hid _:=IC
     clear hs Hg cr hm HC2 IC hhas hok
     have Y:Hid (Boxed (wr.alloc (.cells #[.int .i64 x0,.int .i64 x1,.int .i64 x2] 80)) wr.heap.size #[.int .i64 x0,.int .i64 x1,.int .i64 x2] 80∧Bel wr (wr.alloc (.cells #[.int .i64 x0,.int .i64 x1,.int .i64 x2] 80))):=⟨Boxed.new _ _ _,(Below.refl _ _).alloc nlr _⟩
     go_wp2_with fail
     refine (IC'.out _).mono ?_
     rintro e w2 ⟨rfl,g2⟩
     have Y2:Hid (Boxed w2 wr.heap.size #[.int .i64 x0,.int .i64 x1,.int .i64 x2] 80∧Bel wr w2):=⟨Y.out.1.below Y.out.1.under g2,Y.out.2.trans (g2.mono Y.out.2.size)⟩
     clear g2 Y e0 e1 e2 ce cb cf
     cases ok
     ·have er:=No.out k (q+1) hlt (fun g=>by have:=(HG.out.1 g).1;cases this)
      subst er
      go_wp2
      go_ret
      exact ⟨rfl,X.out.2.1.trans ((HQ.out.2.2.trans (Y2.out.2.mono HQ.out.2.2.size)).mono X.out.2.1.size)⟩
     have Q2:Hid (IRow W.heap.size w2 (.slice av m cv) ((r.pre k q).map It.id)∧Bel W w2):=⟨HQ.out.1.below (fun y hy=>(HQ.out.1.lt y hy).2) Y2.out.2,HQ.out.2.2.trans (Y2.out.2.mono HQ.out.2.2.size)⟩
     obtain ⟨-,-,cb,cf⟩:=HC.out _ Q2.out.2
     have d0:w2.cell? ⟨wr.heap.size,0,none⟩=some (.int .i64 x0):=Y2.out.1.cell 0 rfl
     have hi2:IntsAt w2 av ((r.pre k q).map It.id):=by
      have:=Q2.out.1
      rw [← Hm.out,← List.length_map (f:=It.id)] at this
      exact this.ints
     have Hi2:Hid _:=hi2
     clear hi2
     go_wp2_with fail
     refine (HC2'.out _ Hi2.out).mono ?_
     rintro e w3 ⟨rfl,hw3⟩
     have hw3:=hw3.symm
     subst hw3
     cases has
     case true =>
      have er:=No.out k (q+1) hlt (fun g=>(HG.out.1 g).2.1 (of_decide_eq_true Hhas.out))
      subst er
      go_wp2
      go_ret
      exact ⟨rfl,X.out.2.1.trans (Q2.out.2.mono X.out.2.1.size)⟩
     by_cases hmf:(m:Int)=f
     ·have er:=No.out k (q+1) hlt (fun g=>by have:=(HG.out.1 g).2.2;omega)
      subst er
      have hmf':f=(m:Int):=hmf.symm
      subst hmf'
      go_wp2
      go_ret
      exact ⟨rfl,X.out.2.1.trans (Q2.out.2.mono X.out.2.1.size)⟩
     ·have HG2:Hid (goodIts f (r.pre k (q+1))):=HG.out.2 ⟨by first|exact trivial|exact rfl,of_decide_eq_false Hhas.out,by
       have:=HQ.out.2.1.2.2
       have:=Hm.out
       omega⟩
      have hsz:=Q2.out.2.size
      go_wp2_with (at_builtin;refine row_iapp1 rfl (.tmp 72) (.tmp 75) rfl W.heap.size _ ((r.pre k q).map It.id) x0 rfl Q2.out.1 rfl ?_ ?_ ?_)
      ·rw [List.length_map,Hm.out];omega
      ·exact hsz
      ·intro v' w4 hr4 hb4
       have H4:Hid (IRow W.heap.size w4 v' ((r.pre k (q+1)).map It.id)∧goodIts f (r.pre k (q+1))∧Bel W w4):=⟨by rw [Hxid.out];exact hr4,HG2.out,Q2.out.2.trans hb4⟩
       clear hr4 hb4
       go_wp2
       go_roundw
       case rel=>exact ⟨q+1,by omega,by go_num,H4⟩
       case measure=>simp [intOf];omega
    ·obtain rfl:q=n:=by omega
     go_wp2
     go_roundw
     case rel =>
      refine ⟨k+1,by omega,by go_num,?_⟩
      show IRow _ _ _ _∧_∧_
      rw [Hnx.out]
      exact HQ.out
     case measure=>simp [intOf];omega
  ·obtain rfl:k=len:=by omega
   have er:=Yes.out HK.out.2.1
   subst er
   go_wp2
   go_ret
   exact ⟨rfl,X.out.2.1.trans (HK.out.2.2.mono X.out.2.1.size)⟩
end Go.Proofs.YtmfabeghfdoibaaGreat
