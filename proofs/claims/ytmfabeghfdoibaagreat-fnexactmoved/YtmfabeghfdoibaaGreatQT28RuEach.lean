import Derived.Test.YtmfabeghfdoibaaGreatQT26RtRouteS
import Derived.Test.YtmfabeghfdoibaaGreatQT25RtLow
import Derived.Test.YtmfabeghfdoibaaGreatQT22RwAll
import Derived.Shelf.Abstract
import Derived.Test.YtmfabeghfdoibaaGreatQT27RuOkS
set_option maxHeartbeats 6400000
set_option maxRecDepth 100000
namespace Go.Proofs.YtmfabeghfdoibaaGreat
open Go.RowKit
theorem implNet (net bits:Int) (w:World) :
 Calls Tryz.prog 230 #[.int .i64 net,.int .i64 bits] w fun e w'=>e = .returned (.bool (netB net bits))∧Bel w w':=by
 have C':=implUpTo1 32 bits w w.heap.size rfl
 have D':=implUpTo1 4294967295 net (w.alloc (.cells #[.int .i64 bits] 2)) (w.heap.size+1) (by simp)
 cases hb:inB 0 32 bits
 ·have hb':netB net bits=false:=by rw [netB,hb];rfl
  rw [hb']
  rw [hb] at C'
  clear D' hb hb'
  go_enter Tryz.func230,Tryz.ntmps230
  go_wp2_with (go_at_call 97;refine C'.mono ?_;rintro e w' ⟨rfl,rfl⟩)
  go_ret
  exact ⟨rfl,(Below.refl _ _).alloc nlr _⟩
 rw [hb] at C'
 cases hn:inB 0 4294967295 net
 ·have hb':netB net bits=false:=by rw [netB,hb,hn];rfl
  rw [hb']
  rw [hn] at D'
  clear hb hn hb'
  go_enter Tryz.func230,Tryz.ntmps230
  go_wp2_with fail
  refine C'.mono ?_
  rintro e w' ⟨rfl,rfl⟩
  go_wp2_with fail
  refine D'.mono ?_
  rintro e w' ⟨rfl,rfl⟩
  go_wp2
  go_ret
  exact ⟨rfl,bel_alloc ((Below.refl _ _).alloc nlr _) nlr _⟩
 rw [hn] at D'
 have hnb:netB net bits=decide (net%2 ^ (32-bits).toNat=0):=by rw [netB,hb,hn];rfl
 obtain ⟨s,hs,rfl⟩:=bits_of hb
 rw [pow_of hs] at hnb
 rw [hnb]
 have hn':=inB_true.1 hn
 have ha:=and_mask hs hn'.1 hn'.2
 have hw:wrap64 (2 ^ (32-(32-s)))=2 ^ s:=by
  rw [show 32-(32-s)=s by omega]
  have:=pow_le32 hs
  have:=pow_pos' s
  unfold wrap64;omega
 have hm:=pow_pos' s
 have hm1:=pow_le32 hs
 clear hb hn hnb
 generalize (2:Int) ^ s=m at hw hm hm1 ha ⊢
 go_enter Tryz.func230,Tryz.ntmps230
 go_wp2_with fail
 refine C'.mono ?_
 rintro e w' ⟨rfl,rfl⟩
 go_wp2_with fail
 refine D'.mono ?_
 rintro e w' ⟨rfl,rfl⟩
 go_wp2
 go_ret
 exact ⟨rfl,bel_alloc ((Below.refl _ _).alloc nlr _) nlr _⟩
theorem implRoute (r:Rt) (w:World) :
 Calls Tryz.prog 196 #[r.val] w fun e w'=>e = .returned (.bool r.ok)∧Bel w w':=by
 unfold Rt.ok Rt.val
 obtain ⟨net,bits,hop⟩:=r
 simp only []
 have C:=fun w=>implNet net bits w
 cases hn:netB net bits
 ·rw [hn] at C
  clear hn
  go_enter Tryz.func196,Tryz.ntmps196
  go_wp2_with fail
  refine (C _).mono ?_
  rintro e w1 ⟨rfl,b1⟩
  have B:Hid (Bel w w1):=((Below.refl _ w).alloc nlr _).trans (b1.mono (by simp))
  clear b1 C
  go_wp2
  go_ret
  exact ⟨rfl,B.out⟩
 ·rw [hn] at C
  clear hn
  have D:=fun (w:World)=>implUpTo1 99 hop w w.heap.size rfl
  generalize inB 0 99 hop=b at D ⊢
  go_enter Tryz.func196,Tryz.ntmps196
  go_wp2_with fail
  refine (C _).mono ?_
  rintro e w1 ⟨rfl,b1⟩
  have B:Hid (Bel w w1):=((Below.refl _ w).alloc nlr _).trans (b1.mono (by simp))
  have c2:w1.cell? ⟨w.heap.size,2,none⟩=some (.int .i64 hop):=cell_of_below b1 (by simp) (by simp)
  clear b1 C
  go_wp2_with fail
  refine (D _).mono ?_
  rintro e w' ⟨rfl,rfl⟩
  go_wp2
  go_ret
  exact ⟨rfl,B.out.alloc B.out.size _⟩
def cmpV (a b:Int):Int:=if a<b then -1 else if b<a then 1 else 0
theorem implCompare (a b:Int) (w:World) :
 Calls Tryz.prog 232 #[.int .i64 a,.int .i64 b] w fun e w'=>e = .returned (.int .i64 (cmpV a b))∧w'=w:=by
 unfold cmpV
 by_cases h:a<b
 ·rw [if_pos h]
  go_enter Tryz.func232,Tryz.ntmps232
  go_wp2_with (go_at_call 256;go_in)
  go_ret
  exact ⟨rfl,rfl⟩
 ·rw [if_neg h]
  by_cases h2:b<a
  ·rw [if_pos h2]
   go_enter Tryz.func232,Tryz.ntmps232
   go_wp2_with (go_at_call 256;go_in)
   go_ret
   exact ⟨rfl,rfl⟩
  ·rw [if_neg h2]
   go_enter Tryz.func232,Tryz.ntmps232
   go_wp2_with (go_at_call 256;go_in)
   go_ret
   exact ⟨rfl,rfl⟩
theorem implOr (x y:Int) (w:World) (B:Nat) (c0:w.cell? ⟨B,0,none⟩=some (.int .i64 x)) (c1:w.cell? ⟨B,1,none⟩=some (.int .i64 y)) :
 Calls Tryz.prog 231 #[.slice (some ⟨B,0,none⟩) 2 2] w fun e w'=>e = .returned (.int .i64 (if x=0 then y else x))∧w'=w:=by
 by_cases hx:x=0
 ·rw [if_pos hx]
  subst hx
  by_cases hy:y=0
  ·subst hy
   go_enter Tryz.func231,Tryz.ntmps231
   go_wp2
   go_rounds 3
   all_goals (go_ret;exact ⟨rfl,rfl⟩)
  ·go_enter Tryz.func231,Tryz.ntmps231
   go_wp2
   go_rounds 2
   all_goals (go_ret;exact ⟨rfl,rfl⟩)
 ·rw [if_neg hx]
  go_enter Tryz.func231,Tryz.ntmps231
  go_wp2
  go_rounds 1
  all_goals (go_ret;exact ⟨rfl,rfl⟩)
theorem op_call {P:Program} {o:Oper} {a:Act} {w:World} {K:Act→World→Prop} {Q:Exit→Act→World→Prop} {f:FuncId} {args:Array Value} (hrun:(execOp a.eval o).run P w = .ok (.enter f args) w) {v:Value}
 (hc:Calls P f args w fun e w'=>e = .returned v∧w'=w) (h:K (a.put o.dst v) w):o.wp P a w K Q:=by
 unfold Oper.wp
 rw [hrun,Oper.upon_enter]
 refine hc.mono fun e w' hh=>?_
 obtain ⟨rfl,rfl⟩:=hh
 exact h
def ordV (a b:Rt):Int:=if cmpV a.net b.net=0 then cmpV a.bits b.bits else cmpV a.net b.net
def ordPr (B:Nat) (n1 n2 b1 b2 x y z:Int):Nat→World→Value→Prop:=fun i w v =>
 if i=0 then v = .pointer (some ⟨B,0,none⟩) else if i=1 then v = .int .i64 n1 else if i=2 then v = .pointer (some ⟨B+1,0,none⟩) else if i=3 then v = .int .i64 n2 else if i=4 then v = .int .i64 x
 else if i=5 then v = .pointer (some ⟨B,1,none⟩) else if i=6 then v = .int .i64 b1 else if i=7 then v = .pointer (some ⟨B+1,1,none⟩) else if i=8 then v = .int .i64 b2 else if i=9 then v = .int .i64 y
 else if i=10 then ∃ b,v = .slice (some ⟨b,0,none⟩) 2 2∧b<w.heap.size∧w.cell? ⟨b,0,none⟩=some (.int .i64 x)∧w.cell? ⟨b,1,none⟩=some (.int .i64 y)
 else v = .int .i64 z
theorem ordPr_keep {B:Nat} {n1 n2 b1 b2 x y z:Int} (i:Nat) (w w':World) (v:Value) (h:ordPr B n1 n2 b1 b2 x y z i w v) (k:Bel w w'):ordPr B n1 n2 b1 b2 x y z i w' v:=by
 unfold ordPr at *
 by_cases h10:i=10
 ·subst h10
  simp only [Nat.reduceEqDiff,if_false,if_true] at h ⊢
  obtain ⟨b,e,hb,c0,c1⟩:=h
  exact ⟨b,e,Nat.lt_of_lt_of_le hb k.size,by rw [k.cell (p:=⟨b,0,none⟩) hb];exact c0,by rw [k.cell (p:=⟨b,1,none⟩) hb];exact c1⟩
 ·simp only [h10,if_false] at h ⊢
  exact h
theorem implOrder (a b:Rt) (w:World) :
 Calls Tryz.prog 197 #[a.val,b.val] w fun e w'=>e = .returned (.int .i64 (ordV a b))∧Bel w w':=by
 unfold ordV Rt.val
 obtain ⟨n1,b1,h1⟩:=a
 obtain ⟨n2,b2,h2⟩:=b
 simp only []
 have C:=fun w=>implCompare n1 n2 w
 have D:=fun w=>implCompare b1 b2 w
 have O:=fun w b c0 c1=>implOr (cmpV n1 n2) (cmpV b1 b2) w b c0 c1
 generalize cmpV n1 n2=x at C O ⊢
 generalize cmpV b1 b2=y at D O ⊢
 generalize (if x=0 then y else x)=z at O ⊢
 go_enter Tryz.func197,Tryz.ntmps197
 go_wp2_with fail
 rename_i Q1 K1 hK1
 obtain ⟨W,hW⟩:∃ W,W=((w.alloc (.cells #[.int .i64 n1,.int .i64 b1,.int .i64 h1] 148)).alloc (.cells #[.int .i64 n2,.int .i64 b2,.int .i64 h2] 148)):=⟨_,rfl⟩
 have cA0:W.cell? ⟨w.heap.size,0,none⟩=some (.int .i64 n1):=by rw [hW];simp
 have cA1:W.cell? ⟨w.heap.size,1,none⟩=some (.int .i64 b1):=by rw [hW];simp
 have cB0:W.cell? ⟨w.heap.size+1,0,none⟩=some (.int .i64 n2):=by rw [hW];simp
 have cB1:W.cell? ⟨w.heap.size+1,1,none⟩=some (.int .i64 b2):=by rw [hW];simp
 have hS:w.heap.size+2=W.heap.size:=by rw [hW];simp
 have hBW:Bel w W:=by rw [hW];exact bel_alloc ((Below.refl _ _).alloc nlr _) nlr _
 rw [← hW]
 clear hW
 refine region_draws (by kernel_rfl) (by kernel_rfl) (by kernel_rfl) (by kernel_rfl) (fun w'=>Bel W w') (fun x y=>Bel x y) (ordPr w.heap.size n1 n2 b1 b2 x y z) ordPr_keep ?h0 ?step ?last
 case h0=>exact (Below.refl _ _).drew
 case step =>
  intro i o hi ho a w2 hk hI hp
  have t2:a.tmps.getD 2 undef = .pointer (some ⟨w.heap.size,0,none⟩):=hk.slot 2 (by kernel_rfl)
  have t3:a.tmps.getD 3 undef = .pointer (some ⟨w.heap.size+1,0,none⟩):=hk.slot 3 (by kernel_rfl)
  have t2':a.tmps[2]?.getD undef = .pointer (some ⟨w.heap.size,0,none⟩):=by simpa using t2
  have t3':a.tmps[3]?.getD undef = .pointer (some ⟨w.heap.size+1,0,none⟩):=by simpa using t3
  have dA0:=cell_of_below hI (show (⟨w.heap.size,0,none⟩:Addr).block<_ by show w.heap.size<_;omega) cA0
  have dA1:=cell_of_below hI (show (⟨w.heap.size,1,none⟩:Addr).block<_ by show w.heap.size<_;omega) cA1
  have dB0:=cell_of_below hI (show (⟨w.heap.size+1,0,none⟩:Addr).block<_ by show w.heap.size+1<_;omega) cB0
  have dB1:=cell_of_below hI (show (⟨w.heap.size+1,1,none⟩:Addr).block<_ by show w.heap.size+1<_;omega) cB1
  have hcases:i=0∨i=1∨i=2∨i=3∨i=4∨i=5∨i=6∨i=7∨i=8∨i=9∨i=10∨i=11:=by
   have:i+1<13:=hi
   omega
  rcases hcases with rfl|rfl|rfl|rfl|rfl|rfl|rfl|rfl|rfl|rfl|rfl|rfl
  ·cases ho
   refine ⟨rfl,?_⟩
   unfold Oper.wp
   simp [go_sem,t2']
   exact ⟨_,rfl,Below.refl _ _,hI,rfl⟩
  ·cases ho
   have e:a.tmps[5]?.getD undef = .pointer (some ⟨w.heap.size,0,none⟩):=by simpa [ordPr] using hp ⟨0,.data⟩ 5 (by simp) rfl rfl
   refine ⟨rfl,?_⟩
   unfold Oper.wp
   simp [go_sem,e,dA0]
   exact ⟨_,rfl,Below.refl _ _,hI,rfl⟩
  ·cases ho
   refine ⟨rfl,?_⟩
   unfold Oper.wp
   simp [go_sem,t3']
   exact ⟨_,rfl,Below.refl _ _,hI,rfl⟩
  ·cases ho
   have e:a.tmps[7]?.getD undef = .pointer (some ⟨w.heap.size+1,0,none⟩):=by simpa [ordPr] using hp ⟨2,.data⟩ 7 (by simp) rfl rfl
   refine ⟨rfl,?_⟩
   unfold Oper.wp
   simp [go_sem,e,dB0]
   exact ⟨_,rfl,Below.refl _ _,hI,rfl⟩
  ·cases ho
   have e1:a.tmps[6]?.getD undef = .int .i64 n1:=by simpa [ordPr] using hp ⟨1,.data⟩ 6 (by simp) rfl rfl
   have e2:a.tmps[8]?.getD undef = .int .i64 n2:=by simpa [ordPr] using hp ⟨3,.data⟩ 8 (by simp) rfl rfl
   exact ⟨rfl,op_call (by simp [execOp,resolve,Deferred.ofValue,invoke,Act.eval,e1,e2]) (C _) ⟨_,rfl,Below.refl _ _,hI,rfl⟩⟩
  ·cases ho
   refine ⟨rfl,?_⟩
   unfold Oper.wp
   simp [go_sem,t2']
   exact ⟨_,rfl,Below.refl _ _,hI,rfl⟩
  ·cases ho
   have e:a.tmps[10]?.getD undef = .pointer (some ⟨w.heap.size,1,none⟩):=by simpa [ordPr] using hp ⟨5,.data⟩ 10 (by simp) rfl rfl
   refine ⟨rfl,?_⟩
   unfold Oper.wp
   simp [go_sem,e,dA1]
   exact ⟨_,rfl,Below.refl _ _,hI,rfl⟩
  ·cases ho
   refine ⟨rfl,?_⟩
   unfold Oper.wp
   simp [go_sem,t3']
   exact ⟨_,rfl,Below.refl _ _,hI,rfl⟩
  ·cases ho
   have e:a.tmps[12]?.getD undef = .pointer (some ⟨w.heap.size+1,1,none⟩):=by simpa [ordPr] using hp ⟨7,.data⟩ 12 (by simp) rfl rfl
   refine ⟨rfl,?_⟩
   unfold Oper.wp
   simp [go_sem,e,dB1]
   exact ⟨_,rfl,Below.refl _ _,hI,rfl⟩
  ·cases ho
   have e1:a.tmps[11]?.getD undef = .int .i64 b1:=by simpa [ordPr] using hp ⟨6,.data⟩ 11 (by simp) rfl rfl
   have e2:a.tmps[13]?.getD undef = .int .i64 b2:=by simpa [ordPr] using hp ⟨8,.data⟩ 13 (by simp) rfl rfl
   exact ⟨rfl,op_call (by simp [execOp,resolve,Deferred.ofValue,invoke,Act.eval,e1,e2]) (D _) ⟨_,rfl,Below.refl _ _,hI,rfl⟩⟩
  ·cases ho
   have e1:a.tmps[9]?.getD undef = .int .i64 x:=by simpa [ordPr] using hp ⟨4,.data⟩ 9 (by simp) rfl rfl
   have e2:a.tmps[14]?.getD undef = .int .i64 y:=by simpa [ordPr] using hp ⟨9,.data⟩ 14 (by simp) rfl rfl
   refine ⟨rfl,?_⟩
   unfold Oper.wp
   simp [go_sem,e1,e2]
   exact ⟨_,rfl,(Below.refl _ _).alloc nlr _,hI.alloc hI.size _,w2.heap.size,rfl,by simp,by simp,by simp⟩
  ·cases ho
   obtain ⟨b,e,hb,c0,c1⟩:=hp ⟨10,.data⟩ 15 (by simp) rfl rfl
   have e':a.tmps[15]?.getD undef = .slice (some ⟨b,0,none⟩) 2 2:=by simpa using e
   exact ⟨rfl,op_call (by simp [execOp,resolve,Deferred.ofValue,invoke,Act.eval,e']) (O _ _ c0 c1) ⟨_,rfl,Below.refl _ _,hI,rfl⟩⟩
 case last =>
  intro o ho a w2 hk hI hp
  cases ho
  have e:a.tmps[16]?.getD undef = .int .i64 z:=by simpa [ordPr] using hp 11 16 (by decide) rfl
  refine ⟨rfl,?_⟩
  unfold Oper.wp
  simp [go_sem,e]
  refine hK1 _ _ ?_
  clear hp
  go_wp2
  have hsz:a.tmps.size=17:=hk.size
  have hv:(a.tmps.setIfInBounds 4 (.int .i64 z)).getD 4 undef = .int .i64 z:=by
   rw [Array.getD_eq_getD_getElem?,Array.getElem?_setIfInBounds,if_pos rfl,if_pos (by omega)]
   rfl
  refine bodyPost_ret (results_tmp rfl _ _ _) hk.defers ⟨?_,hBW.trans (hI.mono (by omega))⟩
  show Ending.returned ((a.tmps.setIfInBounds 4 (.int .i64 z)).getD 4 undef)=_
  rw [hv]
theorem ordV_lt (a b:Rt):decide (ordV a b<0)=a.lt b:=by
 rw [Bool.eq_iff_iff,decide_eq_true_iff]
 unfold Rt.lt
 rw [decide_eq_true_iff]
 unfold ordV cmpV
 by_cases h1:a.net<b.net<;>by_cases h2:b.net<a.net<;>by_cases h3:a.bits<b.bits<;>by_cases h4:b.bits<a.bits<;>simp [h1,h2,h3,h4]<;>omega
theorem implOk (a0:Option Addr) (cap:Nat) (l:List Rt) (w:World) (hT:l.length≤1048576) (h:Hid (RtsAt w a0 l)) :
 Calls Tryz.prog 163 #[.slice a0 l.length cap] w fun e w'=>e = .returned (.bool (rtsOk l))∧Bel w w':=by
 have Hok:Hid (rtsOk l=(decide (l.length≤64)&&goodTo l l.length)):=rfl
 obtain ⟨len,hlen⟩:∃ n,l.length=n:=⟨_,rfl⟩
 rw [hlen] at hT ⊢
 have Hlen:Hid (l.length=len):=hlen
 clear hlen
 by_cases h64:64<len
 ·have e:rtsOk l=false:=by rw [Hok.out,Hlen.out];simp;omega
  rw [e]
  clear e Hok
  go_enter Tryz.func163,Tryz.ntmps163
  go_wp2
  go_ret
  exact ⟨rfl,Below.refl _ _⟩
 have e:Hid (rtsOk l=goodTo l len):=by
  show rtsOk l=goodTo l len
  rw [Hok.out,Hlen.out]
  simp;omega
 clear Hok
 go_enter Tryz.func163,Tryz.ntmps163
 go_wp2
 go_loopw [10] (fun i wr=>∃ k:Nat,k≤len∧i = .int .i64 k∧Hid (goodTo l k=true)∧Hid (Bel w wr)) (fun i _=>len-(intOf i).toNat)
 case atStart=>exact ⟨0,Nat.zero_le _,rfl,rfl,Below.refl _ _⟩
 case round =>
  obtain ⟨k,hk,rfl,hg,hb⟩:=hrel
  by_cases hlt:k<len
  ·have R:Hid (RtsAt wr a0 l):=h.out.below hb.out
   obtain ⟨b1,o1,ha1,hb1,-⟩:=R.out k (by rw [Hlen.out];exact hlt)
   subst ha1
   have hc:=cells_at R.out (k:=k) (by rw [Hlen.out];exact hlt)
   have hn:=goodTo_succ l k
   have hh:=fun g=>goodTo_hit (l:=l) (k:=k) (n:=len) hlt g
   have hgd:good l k=((rtAt l k).ok&&(decide (k=0)||(rtAt l (k-1)).lt (rtAt l k))):=rfl
   obtain ⟨W1,hW1⟩:∃ W,W=wr.alloc (.cells #[.int .i64 (rtAt l k).net,.int .i64 (rtAt l k).bits,.int .i64 (rtAt l k).hop] 148):=⟨_,rfl⟩
   have hW1s:W1.heap.size=wr.heap.size+1:=by rw [hW1];simp
   have B1:Hid (Bel w W1):=by rw [hW1];exact hb.out.alloc hb.out.size _
   have R1:Hid (RtsAt W1 (some ⟨b1,o1,none⟩) l):=by rw [hW1];exact R.out.alloc _
   have d0:W1.cell? ⟨wr.heap.size,0,none⟩=some (.int .i64 (rtAt l k).net):=by rw [hW1];simp
   have d1:W1.cell? ⟨wr.heap.size,1,none⟩=some (.int .i64 (rtAt l k).bits):=by rw [hW1];simp
   have d2:W1.cell? ⟨wr.heap.size,2,none⟩=some (.int .i64 (rtAt l k).hop):=by rw [hW1];simp
   have f0:=fun p:BelW W1.heap.size W1=>cell_of_below p.h (show (⟨wr.heap.size,0,none⟩:Addr).block<_ by show wr.heap.size<_;omega) d0
   have f1:=fun p:BelW W1.heap.size W1=>cell_of_below p.h (show (⟨wr.heap.size,1,none⟩:Addr).block<_ by show wr.heap.size<_;omega) d1
   have f2:=fun p:BelW W1.heap.size W1=>cell_of_below p.h (show (⟨wr.heap.size,2,none⟩:Addr).block<_ by show wr.heap.size<_;omega) d2
   have C:=fun w=>implRoute (rtAt l k) w
   have O:=fun w=>implOrder (rtAt l (k-1)) (rtAt l k) w
   have hord:=ordV_lt (rtAt l (k-1)) (rtAt l k)
   have HW1:Hid (W1=_):=hW1
   have Hn:Hid _:=hn
   have Hh:Hid _:=hh
   have Hgd:Hid _:=hgd
   clear hW1 hn hh hgd d0 d1 d2 hW1s
   have hlt':(k:Int)<(len:Int):=by omega
   haveI:Nonempty (BelW W1.heap.size W1):=⟨⟨W1,Below.refl _ _⟩⟩
   cases hok:(rtAt l k).ok
   ·rw [hok] at C
    have hbad:Hid (goodTo l len=false):=Hh.out (by rw [Hgd.out,hok];rfl)
    clear hok Hn Hh Hgd O hord
    unfold Rt.val at C
    generalize rtAt l k=r at hc HW1 f0 f1 f2 C
    obtain ⟨hc0,hc1,hc2⟩:=hc
    go_wp2
    rw [← HW1.out]
    refine rgb W1.heap.size (by kernel_rfl) (by kernel_rfl) ?_
    repeat (go_big_quiet_step ((go_at_call 196;refine qb (C _))))
    refine wpQuiet_nil ?_
    intro wq hx
    have hq:=BelW.out hx
    have B:Hid (Bel w wq):=B1.out.trans (hq.mono B1.out.size)
    clear hx hq f0 f1 f2
    go_wp2
    go_ret
    exact ⟨ret_bool (by rw [e.out,hbad.out]),B.out⟩
   rw [hok] at C
   by_cases hk0:k=0
   ·have hgood:Hid (goodTo l (k+1)=true):=by
     show goodTo l (k+1)=true
     rw [Hn.out,hg.out,Hgd.out,hok];simp [hk0]
    clear hok Hn Hh Hgd O hord
    unfold Rt.val at C
    generalize rtAt l k=r at hc HW1 f0 f1 f2 C
    obtain ⟨hc0,hc1,hc2⟩:=hc
    subst hk0
    simp only [Nat.zero_mul,Nat.add_zero] at hc0 hc1 hc2
    go_wp2
    rw [← HW1.out]
    refine rgb W1.heap.size (by kernel_rfl) (by kernel_rfl) ?_
    repeat (go_big_quiet_step ((go_at_call 196;refine qb (C _))))
    refine wpQuiet_nil ?_
    intro wq hx
    have hq:=BelW.out hx
    have B:Hid (Bel w wq):=B1.out.trans (hq.mono B1.out.size)
    clear hx hq f0 f1 f2
    go_wp2
    go_roundw
    case rel=>exact ⟨0+1,by omega,by go_num,hgood,B⟩
    case measure=>simp [intOf];omega
   ·obtain ⟨j,rfl⟩:∃ j,k=j+1:=⟨k-1,by omega⟩
    have g0:=fun p:BelW W1.heap.size W1=>(cells_at (R1.out.below p.h) (k:=j) (by rw [Hlen.out];omega)).1
    have g1:=fun p:BelW W1.heap.size W1=>(cells_at (R1.out.below p.h) (k:=j) (by rw [Hlen.out];omega)).2.1
    have g2:=fun p:BelW W1.heap.size W1=>(cells_at (R1.out.below p.h) (k:=j) (by rw [Hlen.out];omega)).2.2
    have hj0:(0:Int)<(j:Int)+1:=by omega
    have hjl:(j:Int)<(len:Int):=by omega
    simp only [Nat.add_sub_cancel] at O hord Hgd
    have hgd2:Hid (good l (j+1)=decide (ordV (rtAt l j) (rtAt l (j+1))<0)):=by
     show good l (j+1)=decide (ordV (rtAt l j) (rtAt l (j+1))<0)
     rw [Hgd.out,hok,hord];simp
    clear hok Hgd hord
    generalize ordV (rtAt l j) (rtAt l (j+1))=z at O hgd2
    unfold Rt.val at C O
    generalize rtAt l (j+1)=r at hc HW1 f0 f1 f2 C O
    generalize rtAt l j=r2 at g0 g1 g2 O
    obtain ⟨hc0,hc1,hc2⟩:=hc
    by_cases hz:z<0
    ·have hgood:Hid (goodTo l (j+1+1)=true):=by
      show goodTo l (j+1+1)=true
      rw [Hn.out,hg.out,hgd2.out];simp [hz]
     clear Hn Hh hgd2
     have hz':¬ (0≤z):=by omega
     go_wp2
     rw [← HW1.out]
     refine rgb W1.heap.size (by kernel_rfl) (by kernel_rfl) ?_
     repeat (go_big_quiet_step ((first|(go_at_call 196;refine qb (C _))|(go_at_call 197;refine qb (O _)))))
     refine wpQuiet_nil ?_
     intro wq hx
     have hq:=BelW.out hx
     have B:Hid (Bel w wq):=B1.out.trans (hq.mono B1.out.size)
     clear hx hq f0 f1 f2 g0 g1 g2
     go_wp2
     go_roundw
     case rel=>exact ⟨j+1+1,by omega,by go_num,hgood,B⟩
     case measure=>simp [intOf];omega
    ·have hbad:Hid (goodTo l len=false):=Hh.out (by rw [hgd2.out];simp [hz])
     clear Hn Hh hgd2
     have hz':0≤z:=by omega
     go_wp2
     rw [← HW1.out]
     refine rgb W1.heap.size (by kernel_rfl) (by kernel_rfl) ?_
     repeat (go_big_quiet_step ((first|(go_at_call 196;refine qb (C _))|(go_at_call 197;refine qb (O _)))))
     refine wpQuiet_nil ?_
     intro wq hx
     have hq:=BelW.out hx
     have B:Hid (Bel w wq):=B1.out.trans (hq.mono B1.out.size)
     clear hx hq f0 f1 f2 g0 g1 g2
     go_wp2
     go_ret
     exact ⟨ret_bool (by rw [e.out,hbad.out]),B.out⟩
  ·obtain rfl:k=len:=by omega
   go_wp2
   go_ret
   exact ⟨ret_bool (by rw [e.out,hg.out]),hb.out⟩
theorem Ru.ok_asks (r:Ru):r.ok=(decide (1≤r.id)&&(inB 0 999 r.id&&(inB 0 99 r.prio&&(netB r.snet r.sbits&&(netB r.dnet r.dbits&&((decide (r.proto = -1)||inB 0 255 r.proto)&&(inB 0 r.high r.low&&(inB 0 65535 r.high&&inB 0 15 r.cls)))))))):=by
 rw [Bool.eq_iff_iff]
 unfold Ru.ok
 simp only [Bool.and_eq_true,Bool.or_eq_true,inB_true,decide_eq_true_eq]
 generalize (netB r.snet r.sbits=true)=p
 generalize (netB r.dnet r.dbits=true)=q
 constructor
 ·rintro ⟨h1,h2,h3,h4,h5,h6,h7,h8⟩
  exact ⟨by omega,by omega,h2,h3,h4,by omega,h7,h6,h8⟩
 ·rintro ⟨h0,h1,h2,h3,h4,h5,h6,h7,h8⟩
  exact ⟨by omega,h2,h3,h4,by omega,h7,h6,h8⟩
theorem implRule (r:Ru) (w:World) :
 Calls Tryz.prog 235 #[r.val] w fun e w'=>e = .returned (.bool r.ok)∧Bel w w':=by
 have Hok:Hid _:=r.ok_asks
 obtain ⟨i,p,sn,sb,dn,db,pr,lo,hi,cl⟩:=r
 generalize Ru.ok _=ok at Hok ⊢
 simp only [Ru.val] at Hok ⊢
 have X0:Hid (Bel w (w.alloc (.cells #[.int .i64 i,.int .i64 p,.int .i64 sn,.int .i64 sb,.int .i64 dn,.int .i64 db,.int .i64 pr,.int .i64 lo,.int .i64 hi,.int .i64 cl] 152))∧Boxed (w.alloc (.cells #[.int .i64 i,.int .i64 p,.int .i64 sn,.int .i64 sb,.int .i64 dn,.int .i64 db,.int .i64 pr,.int .i64 lo,.int .i64 hi,.int .i64 cl] 152)) w.heap.size #[.int .i64 i,.int .i64 p,.int .i64 sn,.int .i64 sb,.int .i64 dn,.int .i64 db,.int .i64 pr,.int .i64 lo,.int .i64 hi,.int .i64 cl] 152):=⟨(Below.refl _ _).alloc nlr _,Boxed.new _ _ _⟩
 by_cases h0:1≤i
 rotate_left
 ·have e:Hid (ok=false):=by show ok=false;rw [Hok.out,decide_eq_false h0];rfl
  clear Hok
  go_enter Tryz.func235,Tryz.ntmps235
  go_wp2
  go_ret
  exact ⟨ret_bool e.out.symm,X0.out.1⟩
 have A1:=fun (w:World) (B:Nat) (hB:B=w.heap.size)=>implUpTo1 999 i w B hB
 have A2:=fun (w:World) (B:Nat) (hB:B=w.heap.size)=>implUpTo1 99 p w B hB
 have A3:=fun (w:World)=>implNet sn sb w
 have A4:=fun (w:World)=>implNet dn db w
 have A5:=fun (w:World) (B:Nat) (hB:B=w.heap.size)=>implUpTo1 255 pr w B hB
 have A6:=fun (w:World) (B:Nat) (hB:B=w.heap.size)=>implUpTo1 hi lo w B hB
 have A7:=fun (w:World) (B:Nat) (hB:B=w.heap.size)=>implUpTo1 65535 hi w B hB
 have A8:=fun (w:World) (B:Nat) (hB:B=w.heap.size)=>implUpTo1 15 cl w B hB
 generalize inB 0 999 i=b1 at A1 Hok
 generalize inB 0 99 p=b2 at A2 Hok
 generalize netB sn sb=b3 at A3 Hok
 generalize netB dn db=b4 at A4 Hok
 generalize inB 0 255 pr=b5 at A5 Hok
 generalize inB 0 hi lo=b6 at A6 Hok
 generalize inB 0 65535 hi=b7 at A7 Hok
 generalize inB 0 15 cl=b8 at A8 Hok
 have A1':Hid _:=A1
 have A2':Hid _:=A2
 have A3':Hid _:=A3
 have A4':Hid _:=A4
 have A5':Hid _:=A5
 have A6':Hid _:=A6
 have A7':Hid _:=A7
 have A8':Hid _:=A8
 clear A1 A2 A3 A4 A5 A6 A7 A8
 rw [decide_eq_true h0] at Hok
 go_enter Tryz.func235,Tryz.ntmps235
 go_wp2_with fail
 refine (A1'.out _ _ (by simp)).mono ?_
 rintro e w' ⟨rfl,rfl⟩
 have X1:Hid (Bel w ((w.alloc (.cells #[.int .i64 i,.int .i64 p,.int .i64 sn,.int .i64 sb,.int .i64 dn,.int .i64 db,.int .i64 pr,.int .i64 lo,.int .i64 hi,.int .i64 cl] 152)).alloc (.cells #[.int .i64 i] 2))∧Boxed ((w.alloc (.cells #[.int .i64 i,.int .i64 p,.int .i64 sn,.int .i64 sb,.int .i64 dn,.int .i64 db,.int .i64 pr,.int .i64 lo,.int .i64 hi,.int .i64 cl] 152)).alloc (.cells #[.int .i64 i] 2)) w.heap.size #[.int .i64 i,.int .i64 p,.int .i64 sn,.int .i64 sb,.int .i64 dn,.int .i64 db,.int .i64 pr,.int .i64 lo,.int .i64 hi,.int .i64 cl] 152):=⟨X0.out.1.alloc X0.out.1.size _,X0.out.2.more _⟩
 generalize (w.alloc (.cells #[.int .i64 i,.int .i64 p,.int .i64 sn,.int .i64 sb,.int .i64 dn,.int .i64 db,.int .i64 pr,.int .i64 lo,.int .i64 hi,.int .i64 cl] 152)).alloc (.cells #[.int .i64 i] 2)=w1 at X1 ⊢
 clear X0
 cases b1
 ·go_wp2
  go_ret
  exact ⟨ret_bool (by rw [Hok.out];simp),X1.out.1⟩
 have c1_1:w1.cell? ⟨w.heap.size,1,none⟩=some (.int .i64 p):=X1.out.2.cell 1 rfl
 go_wp2_with fail
 refine (A2'.out _ _ (by simp)).mono ?_
 rintro e w' ⟨rfl,rfl⟩
 have X2:Hid (Bel w (w1.alloc (.cells #[.int .i64 p] 2))∧Boxed (w1.alloc (.cells #[.int .i64 p] 2)) w.heap.size #[.int .i64 i,.int .i64 p,.int .i64 sn,.int .i64 sb,.int .i64 dn,.int .i64 db,.int .i64 pr,.int .i64 lo,.int .i64 hi,.int .i64 cl] 152):=⟨X1.out.1.alloc X1.out.1.size _,X1.out.2.more _⟩
 generalize w1.alloc (.cells #[.int .i64 p] 2)=w2 at X2 ⊢
 clear X1
 cases b2
 ·go_wp2
  go_ret
  exact ⟨ret_bool (by rw [Hok.out];simp),X2.out.1⟩
 have c2_2:w2.cell? ⟨w.heap.size,2,none⟩=some (.int .i64 sn):=X2.out.2.cell 2 rfl
 have c2_3:w2.cell? ⟨w.heap.size,3,none⟩=some (.int .i64 sb):=X2.out.2.cell 3 rfl
 go_wp2_with fail
 refine (A3'.out _).mono ?_
 rintro e w3 ⟨rfl,hb⟩
 have X3:Hid (Bel w w3∧Boxed w3 w.heap.size #[.int .i64 i,.int .i64 p,.int .i64 sn,.int .i64 sb,.int .i64 dn,.int .i64 db,.int .i64 pr,.int .i64 lo,.int .i64 hi,.int .i64 cl] 152):=⟨X2.out.1.trans (hb.mono X2.out.1.size),X2.out.2.below X2.out.2.under hb⟩
 clear hb
 clear X2
 cases b3
 ·go_wp2
  go_ret
  exact ⟨ret_bool (by rw [Hok.out];simp),X3.out.1⟩
 have c3_4:w3.cell? ⟨w.heap.size,4,none⟩=some (.int .i64 dn):=X3.out.2.cell 4 rfl
 have c3_5:w3.cell? ⟨w.heap.size,5,none⟩=some (.int .i64 db):=X3.out.2.cell 5 rfl
 go_wp2_with fail
 refine (A4'.out _).mono ?_
 rintro e w4 ⟨rfl,hb⟩
 have X4:Hid (Bel w w4∧Boxed w4 w.heap.size #[.int .i64 i,.int .i64 p,.int .i64 sn,.int .i64 sb,.int .i64 dn,.int .i64 db,.int .i64 pr,.int .i64 lo,.int .i64 hi,.int .i64 cl] 152):=⟨X3.out.1.trans (hb.mono X3.out.1.size),X3.out.2.below X3.out.2.under hb⟩
 clear hb
 clear X3
 cases b4
 ·go_wp2
  go_ret
  exact ⟨ret_bool (by rw [Hok.out];simp),X4.out.1⟩
 have c4_6:w4.cell? ⟨w.heap.size,6,none⟩=some (.int .i64 pr):=X4.out.2.cell 6 rfl
 have c4_7:w4.cell? ⟨w.heap.size,7,none⟩=some (.int .i64 lo):=X4.out.2.cell 7 rfl
 have c4_8:w4.cell? ⟨w.heap.size,8,none⟩=some (.int .i64 hi):=X4.out.2.cell 8 rfl
 by_cases hp:pr = -1
 ·have O2:Hid (ok=(b6&&(b7&&b8))):=by show ok=_;rw [Hok.out,decide_eq_true hp];simp
  clear Hok
  have Hok:=O2
  subst hp
  have X5:=X4
  clear X4 A5' O2
  have d5_7:w4.cell? ⟨w.heap.size,7,none⟩=some (.int .i64 lo):=X5.out.2.cell 7 rfl
  have d5_8:w4.cell? ⟨w.heap.size,8,none⟩=some (.int .i64 hi):=X5.out.2.cell 8 rfl
  go_wp2_with fail
  refine (A6'.out _ _ (by simp)).mono ?_
  rintro e w' ⟨rfl,rfl⟩
  have X6:Hid (Bel w (w4.alloc (.cells #[.int .i64 lo] 2))∧Boxed (w4.alloc (.cells #[.int .i64 lo] 2)) w.heap.size #[.int .i64 i,.int .i64 p,.int .i64 sn,.int .i64 sb,.int .i64 dn,.int .i64 db,.int .i64 (-1),.int .i64 lo,.int .i64 hi,.int .i64 cl] 152):=⟨X5.out.1.alloc X5.out.1.size _,X5.out.2.more _⟩
  generalize w4.alloc (.cells #[.int .i64 lo] 2)=w6 at X6 ⊢
  clear X5
  cases b6
  ·go_wp2
   go_ret
   exact ⟨ret_bool (by rw [Hok.out];simp),X6.out.1⟩
  have c6_8:w6.cell? ⟨w.heap.size,8,none⟩=some (.int .i64 hi):=X6.out.2.cell 8 rfl
  go_wp2_with fail
  refine (A7'.out _ _ (by simp)).mono ?_
  rintro e w' ⟨rfl,rfl⟩
  have X7:Hid (Bel w (w6.alloc (.cells #[.int .i64 hi] 2))∧Boxed (w6.alloc (.cells #[.int .i64 hi] 2)) w.heap.size #[.int .i64 i,.int .i64 p,.int .i64 sn,.int .i64 sb,.int .i64 dn,.int .i64 db,.int .i64 (-1),.int .i64 lo,.int .i64 hi,.int .i64 cl] 152):=⟨X6.out.1.alloc X6.out.1.size _,X6.out.2.more _⟩
  generalize w6.alloc (.cells #[.int .i64 hi] 2)=w7 at X7 ⊢
  clear X6
  cases b7
  ·go_wp2
   go_ret
   exact ⟨ret_bool (by rw [Hok.out];simp),X7.out.1⟩
  have c7_9:w7.cell? ⟨w.heap.size,9,none⟩=some (.int .i64 cl):=X7.out.2.cell 9 rfl
  go_wp2_with fail
  refine (A8'.out _ _ (by simp)).mono ?_
  rintro e w' ⟨rfl,rfl⟩
  have X8:Hid (Bel w (w7.alloc (.cells #[.int .i64 cl] 2))∧Boxed (w7.alloc (.cells #[.int .i64 cl] 2)) w.heap.size #[.int .i64 i,.int .i64 p,.int .i64 sn,.int .i64 sb,.int .i64 dn,.int .i64 db,.int .i64 (-1),.int .i64 lo,.int .i64 hi,.int .i64 cl] 152):=⟨X7.out.1.alloc X7.out.1.size _,X7.out.2.more _⟩
  generalize w7.alloc (.cells #[.int .i64 cl] 2)=w8 at X8 ⊢
  clear X7
  go_wp2
  go_ret
  exact ⟨ret_bool (by rw [Hok.out];simp),X8.out.1⟩
 have hp2:(pr == -1)=false:=by simp [hp]
 have O2:Hid (ok=(b5&&(b6&&(b7&&b8)))):=by show ok=_;rw [Hok.out,decide_eq_false hp];simp
 clear Hok
 have Hok:=O2
 go_wp2_with fail
 refine (A5'.out _ _ (by simp)).mono ?_
 rintro e w' ⟨rfl,rfl⟩
 have X5:Hid (Bel w (w4.alloc (.cells #[.int .i64 pr] 2))∧Boxed (w4.alloc (.cells #[.int .i64 pr] 2)) w.heap.size #[.int .i64 i,.int .i64 p,.int .i64 sn,.int .i64 sb,.int .i64 dn,.int .i64 db,.int .i64 pr,.int .i64 lo,.int .i64 hi,.int .i64 cl] 152):=⟨X4.out.1.alloc X4.out.1.size _,X4.out.2.more _⟩
 generalize w4.alloc (.cells #[.int .i64 pr] 2)=w5 at X5 ⊢
 clear X4
 cases b5
 ·go_wp2
  go_ret
  exact ⟨ret_bool (by rw [Hok.out];simp),X5.out.1⟩
 have c5_7:w5.cell? ⟨w.heap.size,7,none⟩=some (.int .i64 lo):=X5.out.2.cell 7 rfl
 have c5_8:w5.cell? ⟨w.heap.size,8,none⟩=some (.int .i64 hi):=X5.out.2.cell 8 rfl
 go_wp2_with fail
 refine (A6'.out _ _ (by simp)).mono ?_
 rintro e w' ⟨rfl,rfl⟩
 have X6:Hid (Bel w (w5.alloc (.cells #[.int .i64 lo] 2))∧Boxed (w5.alloc (.cells #[.int .i64 lo] 2)) w.heap.size #[.int .i64 i,.int .i64 p,.int .i64 sn,.int .i64 sb,.int .i64 dn,.int .i64 db,.int .i64 pr,.int .i64 lo,.int .i64 hi,.int .i64 cl] 152):=⟨X5.out.1.alloc X5.out.1.size _,X5.out.2.more _⟩
 generalize w5.alloc (.cells #[.int .i64 lo] 2)=w6 at X6 ⊢
 clear X5
 cases b6
 ·go_wp2
  go_ret
  exact ⟨ret_bool (by rw [Hok.out];simp),X6.out.1⟩
 have c6_8:w6.cell? ⟨w.heap.size,8,none⟩=some (.int .i64 hi):=X6.out.2.cell 8 rfl
 go_wp2_with fail
 refine (A7'.out _ _ (by simp)).mono ?_
 rintro e w' ⟨rfl,rfl⟩
 have X7:Hid (Bel w (w6.alloc (.cells #[.int .i64 hi] 2))∧Boxed (w6.alloc (.cells #[.int .i64 hi] 2)) w.heap.size #[.int .i64 i,.int .i64 p,.int .i64 sn,.int .i64 sb,.int .i64 dn,.int .i64 db,.int .i64 pr,.int .i64 lo,.int .i64 hi,.int .i64 cl] 152):=⟨X6.out.1.alloc X6.out.1.size _,X6.out.2.more _⟩
 generalize w6.alloc (.cells #[.int .i64 hi] 2)=w7 at X7 ⊢
 clear X6
 cases b7
 ·go_wp2
  go_ret
  exact ⟨ret_bool (by rw [Hok.out];simp),X7.out.1⟩
 have c7_9:w7.cell? ⟨w.heap.size,9,none⟩=some (.int .i64 cl):=X7.out.2.cell 9 rfl
 go_wp2_with fail
 refine (A8'.out _ _ (by simp)).mono ?_
 rintro e w' ⟨rfl,rfl⟩
 have X8:Hid (Bel w (w7.alloc (.cells #[.int .i64 cl] 2))∧Boxed (w7.alloc (.cells #[.int .i64 cl] 2)) w.heap.size #[.int .i64 i,.int .i64 p,.int .i64 sn,.int .i64 sb,.int .i64 dn,.int .i64 db,.int .i64 pr,.int .i64 lo,.int .i64 hi,.int .i64 cl] 152):=⟨X7.out.1.alloc X7.out.1.size _,X7.out.2.more _⟩
 generalize w7.alloc (.cells #[.int .i64 cl] 2)=w8 at X8 ⊢
 clear X7
 go_wp2
 go_ret
 exact ⟨ret_bool (by rw [Hok.out];simp),X8.out.1⟩
open Go.RowKit Go.Shelf
structure RuTells (W0:World) (D:Nat→Prop) (g:FuncId) (fs cb:Array Value) (Q:Ru→Prop) (p:Ru→Bool):Prop where
 enters:Enters Tryz.prog g
 under:∀ k,D k→k<W0.heap.size
 tells:∀ (W:World) (r:Ru),Q r→(∀ k,D k→W.heap[k]? = W0.heap[k]?)→Calls Tryz.prog g (fs++#[r.val]++cb) W fun e w'=>e = .returned (.bool (p r))∧Bel W w'
theorem implIndexU (a:Option Addr) (cap:Nat) (l:List Ru) (g:FuncId) (fs cb:Array Value) (D:Nat→Prop) (Q:Ru→Prop) (p:Ru→Bool) (w:World) (hT:l.length≤1048576) (h:Hid (RusAt w a l)) (hq:Hid (∀ r∈l,Q r)) (ht:Hid (RuTells w D g fs cb Q p)) :
 Calls Tryz.prog 257 #[.slice a l.length cap,.func (.func g) fs cb] w fun e w'=>e = .returned (.int .i64 (if l.findIdx p<l.length then (l.findIdx p:Int) else -1))∧Bel w w':=by
 have eg:∀ args w,(callFunc g args).run Tryz.prog w = .ok (.enter g args) w:=ht.out.enters
 obtain ⟨len,hlen⟩:∃ n,l.length=n:=⟨_,rfl⟩
 have Hlen:Hid (l.length=len):=hlen
 obtain ⟨N,hN⟩:∃ N,l.findIdx p=N:=⟨_,rfl⟩
 have HN:Hid (l.findIdx p=N):=hN
 have hNl:N≤len:=by rw [← hN,← hlen];exact List.findIdx_le_length
 rw [hlen] at hT ⊢
 rw [hN]
 clear hlen hN
 go_enter Tryz.func257,Tryz.ntmps257
 go_wp2
 go_loopw [8] (fun i wr=>∃ k:Nat,k≤N∧i = .int .i64 k∧Hid (Bel w wr)) (fun i _=>len-(intOf i).toNat)
 case atStart=>exact ⟨0,Nat.zero_le _,rfl,Below.refl _ _⟩
 case round =>
  obtain ⟨k,hk,rfl,H1⟩:=hrel
  by_cases hlt:k<len
  ·have R:Hid (RusAt wr a l):=h.out.below H1.out
   obtain ⟨b1,o1,ha1,hb1,-⟩:=R.out k (by rw [Hlen.out];exact hlt)
   subst ha1
   obtain ⟨c0,c1,c2,c3,c4,c5,c6,c7,c8,c9⟩:=R.out.cells (k:=k) (by rw [Hlen.out];exact hlt)
   have hmem:ruAt l k∈l:=by rw [ruAt_lt (by rw [Hlen.out];exact hlt)];exact List.getElem_mem _
   have HC:=ht.out.tells wr (ruAt l k) (hq.out _ hmem) fun j hj=>H1.out.block j (ht.out.under j hj)
   unfold Ru.val at HC
   have hlt':(k:Int)<(len:Int):=by omega
   by_cases hkN:k=N
   ·have hp:p (ruAt l k)=true:=by
     rw [ruAt_lt (by rw [Hlen.out];exact hlt)]
     have:=List.findIdx_getElem (p:=p) (xs:=l) (w:=by rw [HN.out,Hlen.out,← hkN];exact hlt)
     simpa only [HN.out,← hkN] using this
    rw [hp] at HC
    clear hmem hp R
    generalize ruAt l k=r at c0 c1 c2 c3 c4 c5 c6 c7 c8 c9 HC
    subst hkN
    go_wp2_with fail
    refine HC.mono ?_
    rintro e w' ⟨rfl,hb'⟩
    have B2:Hid (Bel w w'):=H1.out.trans (hb'.mono H1.out.size)
    clear hb' H1 HC c0 c1 c2 c3 c4 c5 c6 c7 c8 c9
    go_wp2
    go_ret
    exact ⟨by first|rfl|(rw [if_pos hlt];rfl),B2.out⟩
   ·have hp:p (ruAt l k)=false:=by
     rw [ruAt_lt (by rw [Hlen.out];exact hlt)]
     have:=List.not_of_lt_findIdx (p:=p) (xs:=l) (i:=k) (by rw [HN.out];omega)
     simpa using this
    rw [hp] at HC
    clear hmem hp R
    generalize ruAt l k=r at c0 c1 c2 c3 c4 c5 c6 c7 c8 c9 HC
    go_wp2_with fail
    refine HC.mono ?_
    rintro e w' ⟨rfl,hb'⟩
    have B2:Hid (Bel w w'):=H1.out.trans (hb'.mono H1.out.size)
    clear hb' H1 HC c0 c1 c2 c3 c4 c5 c6 c7 c8 c9
    go_wp2
    go_roundw
    case rel=>exact ⟨k+1,by omega,by go_num,B2⟩
    case measure=>simp [intOf];omega
  ·obtain rfl:k=len:=by omega
   obtain rfl:k=N:=by omega
   go_wp2
   go_ret
   exact ⟨by first|rfl|(rw [if_neg (Nat.lt_irrefl _)];rfl),H1.out⟩
theorem any_idx {α:Type} (l:List α) (p:α→Bool):decide (l.findIdx p<l.length)=l.any p:=by
 rw [Bool.eq_iff_iff,decide_eq_true_iff,List.findIdx_lt_length,List.any_eq_true]
theorem implContainsU (a:Option Addr) (cap:Nat) (l:List Ru) (g:FuncId) (fs cb:Array Value) (D:Nat→Prop) (Q:Ru→Prop) (p:Ru→Bool) (w:World) (hT:l.length≤1048576) (h:Hid (RusAt w a l)) (hq:Hid (∀ r∈l,Q r)) (ht:Hid (RuTells w D g fs cb Q p)) :
 Calls Tryz.prog 233 #[.slice a l.length cap,.func (.func g) fs cb] w fun e w'=>e = .returned (.bool (l.any p))∧Bel w w':=by
 have I:=fun (w:World) h ht=>implIndexU a cap l g fs cb D Q p w hT h hq ht
 have Ha:Hid (decide (l.findIdx p<l.length)=l.any p):=any_idx l p
 generalize l.any p=b at Ha ⊢
 by_cases hlt:l.findIdx p<l.length
 ·rw [if_pos hlt] at I
  rw [decide_eq_true hlt] at Ha
  generalize l.findIdx p=N at I hlt
  generalize l.length=len at I hlt hT ⊢
  have I':Hid _:=I
  clear I hlt
  have hp:(0:Int)≤(N:Int):=by omega
  go_enter Tryz.func233,Tryz.ntmps233
  go_wp2_with fail
  refine (I'.out _ h ht).mono ?_
  rintro e w' ⟨rfl,hb⟩
  have B2:Hid (Bel w w'):=hb
  clear hb
  go_wp2
  go_ret
  exact ⟨ret_bool (by rw [← Ha.out]),B2.out⟩
 ·rw [if_neg hlt] at I
  rw [decide_eq_false hlt] at Ha
  generalize l.length=len at I hT ⊢
  have I':Hid _:=I
  clear I hlt
  go_enter Tryz.func233,Tryz.ntmps233
  go_wp2_with fail
  refine (I'.out _ h ht).mono ?_
  rintro e w' ⟨rfl,hb⟩
  have B2:Hid (Bel w w'):=hb
  clear hb
  go_wp2
  go_ret
  exact ⟨ret_bool (by rw [← Ha.out]),B2.out⟩
open Go.RowKit Go.Shelf
theorem implNotOk (r:Ru) (w:World) :
 Calls Tryz.prog 234 #[r.val] w fun e w'=>e = .returned (.bool (!r.ok))∧Bel w w':=by
 have C:=fun w=>implRule r w
 generalize r.ok=ok at C ⊢
 obtain ⟨i,p,sn,sb,dn,db,pr,lo,hi,cl⟩:=r
 simp only [Ru.val] at C ⊢
 have C':Hid _:=C
 clear C
 have hB:Hid (Bel w (w.alloc (.cells #[.int .i64 i,.int .i64 p,.int .i64 sn,.int .i64 sb,.int .i64 dn,.int .i64 db,.int .i64 pr,.int .i64 lo,.int .i64 hi,.int .i64 cl] 152))):=(Below.refl _ _).alloc nlr _
 go_enter Tryz.func234,Tryz.ntmps234
 go_wp2_with fail
 refine (C'.out _).mono ?_
 rintro e w1 ⟨rfl,b1⟩
 have B:Hid (Bel w w1):=hB.out.trans (b1.mono hB.out.size)
 clear b1 hB
 go_wp2
 go_ret
 exact ⟨rfl,B.out⟩
theorem notOkTells (w:World):RuTells w (fun _=>False) 234 #[] #[] (fun _=>True) (fun r => !r.ok) :=
 ⟨enters_of Tryz.func234 (by kernel_rfl) rfl,fun _ h=>h.elim,fun W r _ _=>implNotOk r W⟩
theorem implEach (a:Option Addr) (cap:Nat) (l:List Ru) (w:World) (hT:l.length≤1048576) (h:Hid (RusAt w a l)) :
 Calls Tryz.prog 198 #[.slice a l.length cap] w fun e w'=>e = .returned (.bool (l.all Ru.ok))∧Bel w w':=by
 have C:=fun w h=>implContainsU a cap l 234 #[] #[] (fun _=>False) (fun _=>True) (fun r => !r.ok) w hT h (fun _ _=>trivial) (notOkTells w)
 have Ha:Hid ((!(l.any fun r => !r.ok))=l.all Ru.ok):=by
  show _=_
  rw [List.all_eq_not_any_not]
 generalize (l.any fun r => !r.ok)=b at C Ha
 generalize l.all Ru.ok=b2 at Ha ⊢
 generalize l.length=len at C ⊢
 have C':Hid _:=C
 clear C
 go_enter Tryz.func198,Tryz.ntmps198
 go_wp2_with fail
 refine (C'.out _ h).mono ?_
 rintro e w1 ⟨rfl,b1⟩
 have B:Hid (Bel w w1):=b1
 clear b1
 go_wp2
 go_ret
 exact ⟨ret_bool Ha.out,B.out⟩
def riseK (l:List Ru) (k:Nat):Bool:=(List.range k).all fun i=>decide (i=0)||decide ((ruAt l (i-1)).id<(ruAt l i).id)
theorem riseK_succ (l:List Ru) (k:Nat):riseK l (k+1)=(riseK l k&&(decide (k=0)||decide ((ruAt l (k-1)).id<(ruAt l k).id))):=by simp [riseK,List.range_succ]
theorem riseK_hit {l:List Ru} {k n:Nat} (h:k<n) (g:(decide (k=0)||decide ((ruAt l (k-1)).id<(ruAt l k).id))=false):riseK l n=false:=by
 unfold riseK
 rw [List.all_eq_false]
 exact ⟨k,List.mem_range.2 h,by simp [g]⟩
theorem goodRs_each (l:List Ru):goodRs l l.length=(l.all Ru.ok&&riseK l l.length):=by
 have hall:l.all Ru.ok=(List.range l.length).all fun i=>(ruAt l i).ok:=by
  rw [Bool.eq_iff_iff,List.all_eq_true,List.all_eq_true]
  constructor
  ·intro h i hi
   rw [ruAt_lt (List.mem_range.1 hi)]
   exact h _ (List.getElem_mem _)
  ·intro h r hr
   obtain ⟨i,hi,rfl⟩:=List.mem_iff_getElem.1 hr
   have:=h i (List.mem_range.2 hi)
   rwa [ruAt_lt hi] at this
 rw [hall]
 unfold goodRs riseK goodR
 induction (List.range l.length) with
 |nil=>rfl
 |cons x xs ih =>
  simp only [List.all_cons,ih]
  cases (ruAt l x).ok<;>cases (decide (x=0)||decide ((ruAt l (x-1)).id<(ruAt l x).id))<;>simp
theorem implRise (a:Option Addr) (cap:Nat) (l:List Ru) (w:World) (hT:l.length≤40) (h:Hid (RusAt w a l)) :
 Calls Tryz.prog 199 #[.slice a l.length cap] w fun e w'=>e = .returned (.bool (riseK l l.length))∧Bel w w':=by
 obtain ⟨len,hlen⟩:∃ n,l.length=n:=⟨_,rfl⟩
 rw [hlen] at hT ⊢
 have Hlen:Hid (l.length=len):=hlen
 clear hlen
 have e:Hid (len=0→riseK l len=true):=by rintro rfl;rfl
 go_enter Tryz.func199,Tryz.ntmps199
 go_wp2
 go_loopw [3] (fun i wr=>∃ k:Nat,1≤k∧(k≤len∨len=0∧k=1)∧i = .int .i64 k∧Hid (riseK l k=true)∧Hid (Bel w wr)) (fun i _=>len-(intOf i).toNat)
 case atStart=>exact ⟨1,nlr,by omega,rfl,by show riseK l 1=true;simp [riseK],Below.refl _ _⟩
 case round =>
  obtain ⟨k,hk1,hk,rfl,hg,hb⟩:=hrel
  by_cases hlt:k<len
  ·have R:Hid (RusAt wr a l):=h.out.below hb.out
   obtain ⟨j,rfl⟩:∃ j,k=j+1:=⟨k-1,by omega⟩
   obtain ⟨b1,o1,ha1,hb1,-⟩:=R.out (j+1) (by rw [Hlen.out];exact hlt)
   subst ha1
   have c0:=(R.out.drew.cells (k:=j+1) (by rw [Hlen.out];exact hlt)).1
   have d0:=(R.out.drew.cells (k:=j) (by rw [Hlen.out];omega)).1
   have Hn:Hid _:=riseK_succ l (j+1)
   have Hh:Hid _:=fun g=>riseK_hit (l:=l) (k:=j+1) (n:=len) hlt g
   have hlt':(j:Int)+1<(len:Int):=by omega
   have hj0:(0:Int)≤(j:Int):=by omega
   have hjl:(j:Int)<(len:Int):=by omega
   simp only [Nat.add_sub_cancel] at Hn Hh
   by_cases hL:(ruAt l j).id<(ruAt l (j+1)).id
   ·have hgood:Hid (riseK l (j+1+1)=true):=by
     show riseK l (j+1+1)=true
     rw [Hn.out,hg.out,decide_eq_true hL];simp
    clear Hn Hh R
    generalize (ruAt l (j+1)).id=x at c0 hL
    generalize (ruAt l j).id=y at d0 hL
    go_wp2
    go_region
    all_goals
     go_wp2
     go_roundw
     case rel=>exact ⟨j+1+1,by omega,by omega,by go_num,hgood,hb.out.trans ((Below.refl _ _).drew.mono hb.out.size)⟩
     case measure=>simp [intOf];omega
   ·have hbad:Hid (riseK l len=false):=Hh.out (by rw [decide_eq_false hL];simp)
    clear Hn Hh R
    generalize (ruAt l (j+1)).id=x at c0 hL
    generalize (ruAt l j).id=y at d0 hL
    go_wp2
    go_region
    all_goals
     go_wp2
     go_ret
     exact ⟨ret_bool hbad.out.symm,hb.out.trans ((Below.refl _ _).drew.mono hb.out.size)⟩
  ·have hfin:Hid (riseK l len=true):=by
    show riseK l len=true
    by_cases h0:len=0
    ·exact e.out h0
    ·obtain rfl:k=len:=by omega
     exact hg.out
   go_wp2
   go_ret
   exact ⟨ret_bool hfin.out.symm,hb.out⟩
theorem implRules (a:Option Addr) (cap:Nat) (l:List Ru) (w:World) (hT:l.length≤1048576) (h:Hid (RusAt w a l)) :
 Calls Tryz.prog 164 #[.slice a l.length cap] w fun e w'=>e = .returned (.bool (rusOk l))∧Bel w w':=by
 have Hok:Hid (rusOk l=(decide (l.length≤40)&&(l.all Ru.ok&&riseK l l.length))):=by show rusOk l=_;unfold rusOk;rw [goodRs_each]
 have C:=fun w h=>implEach a cap l w hT h
 have D:=fun (w:World) (h40:l.length≤40) h=>implRise a cap l w h40 h
 generalize l.all Ru.ok=b1 at Hok C
 generalize riseK l l.length=b2 at Hok D
 generalize rusOk l=ok at Hok ⊢
 generalize l.length=len at *
 have C':Hid _:=C
 have D':Hid _:=D
 clear C D
 by_cases h40:len≤40
 ·have h40':(len:Int)≤40:=by omega
  rw [decide_eq_true h40] at Hok
  go_enter Tryz.func164,Tryz.ntmps164
  go_wp2_with fail
  refine (C'.out _ h).mono ?_
  rintro e w1 ⟨rfl,q1⟩
  have B:Hid (Bel w w1):=q1
  clear q1
  cases b1
  ·go_wp2
   go_ret
   exact ⟨ret_bool (by rw [Hok.out];rfl),B.out⟩
  ·go_wp2_with fail
   refine (D'.out _ h40 (h.out.below B.out)).mono ?_
   rintro e w2 ⟨rfl,q2⟩
   have B2:Hid (Bel w w2):=B.out.trans (q2.mono B.out.size)
   clear q2
   go_wp2
   go_ret
   exact ⟨ret_bool (by rw [Hok.out];rfl),B2.out⟩
 ·have h40':¬ (len:Int)≤40:=by omega
  rw [decide_eq_false h40] at Hok
  go_enter Tryz.func164,Tryz.ntmps164
  go_wp2
  go_ret
  exact ⟨ret_bool (by rw [Hok.out];rfl),Below.refl _ _⟩
end Go.Proofs.YtmfabeghfdoibaaGreat
