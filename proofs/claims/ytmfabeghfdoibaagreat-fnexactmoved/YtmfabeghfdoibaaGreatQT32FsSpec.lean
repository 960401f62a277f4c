import Derived.Test.YtmfabeghfdoibaaGreatQT10FsFn
import Derived.Test.YtmfabeghfdoibaaGreatQT7NumIn
import Derived.Test.YtmfabeghfdoibaaGreatQT15Quiet
import Derived.Test.YtmfabeghfdoibaaGreatQT21StepRow
import Derived.BigQuiet
import Derived.Laws.ResultCell
import Derived.Laws.CopyOwn
set_option maxHeartbeats 6400000
set_option maxRecDepth 100000
namespace Go.Proofs.YtmfabeghfdoibaaGreat
open Go.RowKit
theorem specFairOk (d:Fs) (v:Value) (w:World) (hB:d.big≤1048576) (h:Hid (FsAt w v d)) :
 Calls Tryz.prog 85 #[v] w fun e w'=>e = .returned (.bool d.ok)∧Below w.heap.size w w':=by
 obtain ⟨a,c,rfl,k1⟩:=h.out
 clear h
 obtain ⟨hT,-,hin⟩:=Fs.small hB
 have HR:Hid (d.ok=(inB 0 1125899906842624 d.now&&(inB 1 8 (d.flows.length:Int)&&d.flows.all Fw.ok))):=rfl
 generalize d.ok=R at HR ⊢
 obtain ⟨f,ls⟩:=d
 simp only [Fs.val] at HR k1 hT hin ⊢
 obtain ⟨len,hlen⟩:∃ n,ls.length=n:=⟨_,rfl⟩
 have Hlen:Hid (ls.length=len):=hlen
 have Hin:Hid _:=hin
 rw [hlen] at HR hT ⊢
 clear hB hin hlen
 have X:Hid (FwsAt (w.alloc (.cells #[.int .i64 f,.slice a len c] 48)) a ls∧Boxed (w.alloc (.cells #[.int .i64 f,.slice a len c] 48)) w.heap.size #[.int .i64 f,.slice a len c] 48∧Below w.heap.size w (w.alloc (.cells #[.int .i64 f,.slice a len c] 48))):=⟨k1.alloc _,Boxed.new _ _ _,(Below.refl _ _).alloc nlr _⟩
 clear k1
 have bad:Hid ((len<1∨8<len)→R=false):=fun hb=>by
  rw [HR.out,inB_false.2 (show (len:Int)<1∨8<(len:Int) by omega),Bool.false_and,Bool.and_false]
 have B1:=fun w=>specIn f 0 1125899906842624 w
 generalize inB 0 1125899906842624 f=b0 at HR B1
 have B1':Hid _:=B1
 clear B1
 go_enter Tryz.func85,Tryz.ntmps85
 go_wp2_with fail
 refine (B1'.out _).mono ?_
 rintro e w' ⟨rfl,hw⟩
 have hw:=hw.symm
 subst hw
 clear B1'
 cases b0
 ·have e:R=false:=by rw [HR.out];rfl
  subst e
  go_wp2
  go_ret
  exact ⟨rfl,X.out.2.2⟩
 by_cases b1:len<1
 ·have e:R=false:=bad.out (.inl b1)
  subst e
  have b1':(len:Int)<1:=by omega
  go_wp2
  go_ret
  exact ⟨rfl,X.out.2.2⟩
 have b1':¬ (len:Int)<1:=by omega
 by_cases b2:8<len
 ·have e:R=false:=bad.out (.inr b2)
  subst e
  have b2':(8:Int)<len:=by omega
  go_wp2
  go_ret
  exact ⟨rfl,X.out.2.2⟩
 have b2':¬ (8:Int)<len:=by omega
 have Yes:Hid ((∀ k,k<len→(fwAt ls k).ok=true)→R=true):=fun hg=>by
  rw [HR.out,inB_true.2 (by omega),Bool.true_and,Bool.true_and,List.all_eq_true]
  intro x hx
  obtain ⟨i,hi,rfl⟩:=List.mem_iff_getElem.1 hx
  rw [← fwAt_lt hi]
  exact hg i (by rw [← Hlen.out];exact hi)
 have No:Hid (∀ k,k<len→(fwAt ls k).ok=false→R=false):=fun k hk hn=>by
  rw [HR.out,Bool.and_eq_false_iff]
  right
  rw [Bool.and_eq_false_iff]
  right
  rw [List.all_eq_false]
  have hkl:k<ls.length:=by rw [Hlen.out];exact hk
  refine ⟨ls[k],List.getElem_mem hkl,?_⟩
  rw [← fwAt_lt hkl,hn]
  simp
 clear bad HR
 go_wp2
 generalize w.alloc (.cells #[.int .i64 f,.slice a len c] 48)=W at X ⊢
 have hWs:Hid (w.heap.size<W.heap.size):=X.out.2.1.under
 clear b1 b1' b2 b2'
 go_loopw [3,4,5] (fun i _ _ wr=>∃ k:Nat,k≤len∧i = .int .i64 k∧Hid ((∀ j,j<k→(fwAt ls j).ok=true)∧Below W.heap.size W wr)) (fun i _ _ _=>len-(intOf i).toNat)
 case atStart=>exact ⟨0,Nat.zero_le _,rfl,fun j hj=>by omega,Below.refl _ _⟩
 case round =>
  obtain ⟨k,hk,rfl,HK⟩:=hrel
  obtain ⟨wo,rfl⟩:∃ wo,wo=wr:=⟨_,rfl⟩
  have cb:wo.cell? ⟨w.heap.size,1,none⟩=some (.slice a len c):=(X.out.2.1.below hWs.out HK.out.2).cell 1 rfl
  by_cases hlt:k<len
  ·have hkl:k<ls.length:=by rw [Hlen.out];exact hlt
   obtain ⟨b,off,ak,ck,ha,hb,⟨c0,c1,c2⟩,hr,-⟩:=(X.out.1.below HK.out.2) k hkl
   subst ha
   have hin:=Hin.out k hkl
   obtain ⟨q,hq⟩:∃ q,fwAt ls k=q:=⟨_,rfl⟩
   have Hq:Hid (fwAt ls k=q):=hq
   rw [hq] at c0 c1 c2 hr hin
   clear hq
   obtain ⟨t,u,fl⟩:=q
   simp only at c0 c1 c2 hr hin
   obtain ⟨n,hn⟩:∃ n,fl.length=n:=⟨_,rfl⟩
   have Hn:Hid (fl.length=n):=hn
   rw [hn] at c2 hin
   clear hn
   have Hq2:Hid ((fwAt ls k).ok=(inB 1 10 t&&(inB 0 1125899906842624 u&&(inB 0 40 (n:Int)&&fl.all (inB 1 2000))))):=by
    show Fw.ok _=_
    rw [Hq.out]
    unfold Fw.ok
    simp only [Hn.out]
   have N:Hid (Boxed (wo.alloc (.cells #[.int .i64 0,.int .i64 0,.slice none 0 0] 109)) wo.heap.size #[.int .i64 0,.int .i64 0,.slice none 0 0] 109):=Boxed.new _ _ _
   obtain ⟨wh,hwh⟩:∃ wh,(wo.alloc (.cells #[.int .i64 0,.int .i64 0,.slice none 0 0] 109)).setRow wo.heap.size #[.int .i64 t,.int .i64 u,.slice ak n ck]=wh:=⟨_,rfl⟩
   have V:Hid (Boxed wh wo.heap.size #[.int .i64 t,.int .i64 u,.slice ak n ck] 109∧Below W.heap.size W wh∧IntsAt wh ak fl∧Below w.heap.size w wh):=by
    have b0:Below wo.heap.size wo wh:=by rw [← hwh];exact below_setRow ((Below.refl _ _).alloc nlr _) nlr _
    have b1:=HK.out.2.trans (b0.mono HK.out.2.size)
    exact ⟨by rw [← hwh];exact setRow_heap _ _ _ _ _ _ N.out,b1,hr.below b0,X.out.2.2.trans (b1.mono X.out.2.2.size)⟩
   have HW:Hid _:=hwh
   have d0:wh.cell? ⟨wo.heap.size,0,none⟩=some (.int .i64 t):=V.out.1.cell 0 rfl
   have d1:wh.cell? ⟨wo.heap.size,1,none⟩=some (.int .i64 u):=V.out.1.cell 1 rfl
   have d2:wh.cell? ⟨wo.heap.size,2,none⟩=some (.slice ak n ck):=V.out.1.cell 2 rfl
   clear hr hwh
   have hlt':(k:Int)<(len:Int):=by omega
   go_upto_region 7 with (refine wpList_store_row rfl 109 (.tmp 4) (.tmp 33) rfl wo.heap.size #[.int .i64 t,.int .i64 u,.slice ak n ck] rfl rfl _ _ N.out (by kernel_rfl) rfl (by simp [Value.oneCell']) ?_)
   rw [HW.out]
   clear N HW c0 c1 c2 cb
   generalize wo.heap.size=B at V d0 d1 d2 ⊢
   have B2:=fun w=>specIn t 1 10 w
   have B3:=fun w=>specIn u 0 1125899906842624 w
   generalize inB 1 10 t=b2 at B2 Hq2
   generalize inB 0 1125899906842624 u=b3 at B3 Hq2
   have B2':Hid _:=B2
   have B3':Hid _:=B3
   clear B2 B3
   go_wp2_with fail
   refine (B2'.out _).mono ?_
   rintro e w' ⟨rfl,hw⟩
   have hw:=hw.symm
   subst hw
   cases b2
   ·have e:R=false:=No.out k hlt (by rw [Hq2.out];rfl)
    subst e
    go_wp2
    go_ret
    exact ⟨rfl,V.out.2.2.2⟩
   go_wp2_with fail
   refine (B3'.out _).mono ?_
   rintro e w' ⟨rfl,hw⟩
   have hw:=hw.symm
   subst hw
   clear B2' B3'
   cases b3
   ·have e:R=false:=No.out k hlt (by rw [Hq2.out];rfl)
    subst e
    go_wp2
    go_ret
    exact ⟨rfl,V.out.2.2.2⟩
   by_cases b4:40<n
   ·have e:R=false:=No.out k hlt (by rw [Hq2.out,inB_false.2 (show (n:Int)<0∨40<(n:Int) by omega)];rfl)
    subst e
    have b4':(40:Int)<n:=by omega
    go_wp2
    go_ret
    exact ⟨rfl,V.out.2.2.2⟩
   have b4':¬ (40:Int)<n:=by omega
   have Good:Hid ((∀ j,j<n→inB 1 2000 (szAt fl j)=true)→(fwAt ls k).ok=true):=fun hg=>by
    rw [Hq2.out,inB_true.2 (by omega),Bool.true_and,Bool.true_and,Bool.true_and,List.all_eq_true]
    intro x hx
    obtain ⟨i,hi,rfl⟩:=List.mem_iff_getElem.1 hx
    have:=hg i (by rw [← Hn.out];exact hi)
    rwa [szAt,List.getElem?_eq_getElem hi,Option.getD_some] at this
   have Bad:Hid (∀ j,j<n→inB 1 2000 (szAt fl j)=false→R=false):=fun j hj hn=>by
    refine No.out k hlt ?_
    have hjl:j<fl.length:=by rw [Hn.out];exact hj
    have:fl.all (inB 1 2000)=false:=by
     rw [List.all_eq_false]
     refine ⟨fl[j],List.getElem_mem hjl,?_⟩
     rw [szAt,List.getElem?_eq_getElem hjl,Option.getD_some] at hn
     rw [hn]
     simp
    rw [Hq2.out,this]
    simp
   clear Hq2 Hq
   go_wp2
   clear b4 b4'
   go_loop [5] (fun j=>∃ m:Nat,m≤n∧j = .int .i64 m∧Hid (∀ i,i<m→inB 1 2000 (szAt fl i)=true)) (fun j=>n-(intOf j).toNat)
   case atStart=>exact ⟨0,Nat.zero_le _,rfl,fun i hi=>by omega⟩
   case round =>
    obtain ⟨m,hm,rfl,HM⟩:=hrel
    by_cases hlm:m<n
    ·obtain ⟨b5,o5,ha5,hb5,c5⟩:=V.out.2.2.1 m (by rw [Hn.out];exact hlm)
     subst ha5
     have e5:fl[m]?.getD 0=szAt fl m:=rfl
     rw [e5] at c5
     have A1:=fun w=>specIn (szAt fl m) 1 2000 w
     have Bm:=Bad.out m hlm
     have Gm:Hid (inB 1 2000 (szAt fl m)=true→∀ i,i<m+1→inB 1 2000 (szAt fl i)=true):=fun h i hi=>by
      by_cases e:i=m
      ·subst e;exact h
      ·exact HM.out i (by omega)
     generalize szAt fl m=y at c5 A1 Bm Gm
     have HBm:Hid (inB 1 2000 y=false→R=false):=Bm
     generalize inB 1 2000 y=bb at A1 HBm Gm
     have A1':Hid _:=A1
     have hlm':(m:Int)<(n:Int):=by omega
     clear A1 e5 Bm
     go_wp2_with fail
     refine (A1'.out _).mono ?_
     rintro e w' ⟨rfl,hw⟩
     have hw:=hw.symm
     subst hw
     cases bb
     ·have e:R=false:=HBm.out (by first|exact trivial|exact rfl)
      subst e
      go_wp2
      go_ret
      exact ⟨rfl,V.out.2.2.2⟩
     ·go_wp2
      go_round
      case rel=>exact ⟨m+1,by omega,by go_num,Gm.out (by first|exact trivial|exact rfl)⟩
      case measure=>simp [intOf];omega
    ·obtain rfl:m=n:=by omega
     have K2:Hid ((∀ j,j<k+1→(fwAt ls j).ok=true)∧Below W.heap.size W wh):=⟨fun j hj=>by
      by_cases e:j=k
      ·subst e;exact Good.out HM.out
      ·exact HK.out.1 j (by omega),V.out.2.1⟩
     clear HK Good Bad HM
     go_wp2
     go_roundw
     case rel=>exact ⟨k+1,by omega,by go_num,K2⟩
     case measure=>simp [intOf];omega
  ·obtain rfl:k=len:=by omega
   have e:R=true:=Yes.out HK.out.1
   subst e
   go_wp2
   go_ret
   exact ⟨rfl,X.out.2.2.trans (HK.out.2.mono X.out.2.2.size)⟩
end Go.Proofs.YtmfabeghfdoibaaGreat
