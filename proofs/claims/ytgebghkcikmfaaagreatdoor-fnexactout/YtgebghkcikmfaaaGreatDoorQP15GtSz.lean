import Derived.Test.YtgebghkcikmfaaaGreatDoorQP5GtZc
import Derived.Test.YtgebghkcikmfaaaGreatDoorQP14GtMk
set_option maxHeartbeats 6400000
set_option maxRecDepth 100000
namespace Go.Proofs.YtgebghkcikmfaaaGreatDoor
open Go.RowKit
theorem toIt (r:It) (w:World) :
 Calls Tryz.prog 211 #[r.val] w fun e w'=>e = .returned r.val∧w'=((w.alloc (.cells r.cells.toArray 245)).alloc (.cells r.cells.toArray 52)).alloc (.cells r.cells.toArray 52):=by
 unfold It.val It.cells
 obtain ⟨v0,v1,v2⟩:=r
 simp only []
 go_enter Tryz.func211,Tryz.ntmps211
 go_wp2
 refine bodyPost_ret (v:=.agg #[.int .i64 v0,.int .i64 v1,.int .i64 v2]) (by simp [results,Tryz.results211,go_sem]) rfl ⟨rfl,rfl⟩
theorem toItB (r:It) (w:World) :
 Calls Tryz.prog 211 #[r.val] w fun e w'=>e = .returned r.val∧Bel w w' :=
 (toIt r w).mono fun _ _ h=>⟨h.1,by
  rw [h.2]
  exact (((Below.refl _ w).alloc nlr _).alloc (by simp) _).alloc (by simp;omega) _⟩
theorem toIts (a:Option Addr) (cap:Nat) (l:List It) (w:World) (hT:l.length≤1048576) (h:Hid (ItsAt w a l)) :
 Calls Tryz.prog 147 #[.slice a l.length cap] w fun e w'=>∃ g,e = .returned (.slice (some ⟨g,0,none⟩) l.length l.length)∧ItRow w.heap.size w' (.slice (some ⟨g,0,none⟩) l.length l.length) l∧Bel w w':=by
 obtain ⟨i0,hi,hz0,hz1,hz2⟩:=info_parts itInfo
 obtain ⟨len,hlen⟩:∃ n,l.length=n:=⟨_,rfl⟩
 unfold ItRow
 rw [hlen] at hT ⊢
 have Hlen:Hid (l.length=len):=hlen
 clear hlen
 have hmk:∀ wx,(Instr.makeSlice 111 (.int .i64 (len:Int)) (.int .i64 (len:Int))).run Tryz.prog wx = .ok (.slice (some ⟨wx.heap.size,0,none⟩) len len) (wx.alloc (.cells (madeCells #[.int .i64 0,.int .i64 0,.int .i64 0] (len*3)) 52)):=by
  intro wx
  have:=run_make (P:=Tryz.prog) wx 111 52 i0 (.agg #[.int .i64 0,.int .i64 0,.int .i64 0]) Tryz.underlying111 hi hz0 .i64 .i64 len len (by omega) (by omega) (by rw [hz2];omega) (by omega)
  rw [this,hz1];simp [Value.cells]
 have H0:Hid ((w.alloc (.cells (madeCells #[.int .i64 0,.int .i64 0,.int .i64 0] (len*3)) 52)).ownsRow w.heap.size 52 3 (.slice (some ⟨w.heap.size,0,none⟩) len len) len (itcells (l.take 0++List.replicate (len-0) ⟨0,0,0⟩))):=by
  have:=World.ownsRow_lit (size:=3) (e:=52) (base:=w.heap.size) w (madeCells #[.int .i64 0,.int .i64 0,.int .i64 0] (len*3)) len nlr (by unfold maxLen;omega) (by rw [size_madeCells])
  rw [itMade] at this
  show World.ownsRow _ _ _ _ _ _ _
  simpa using this
 clear hi hz0 hz1 hz2
 go_enter Tryz.func147,Tryz.ntmps147
 go_wp2
 go_loopw [4] (fun i wr=>∃ k:Nat,k≤len∧i = .int .i64 k∧Hid (wr.ownsRow w.heap.size 52 3 (.slice (some ⟨w.heap.size,0,none⟩) len len) len (itcells (l.take k++List.replicate (len-k) ⟨0,0,0⟩))∧Bel w wr)) (fun i _=>len-(intOf i).toNat)
 case atStart=>exact ⟨0,Nat.zero_le _,rfl,H0.out,(Below.refl _ _).alloc nlr _⟩
 case round =>
  clear H0 hmk
  obtain ⟨k,hk,rfl,H1⟩:=hrel
  by_cases hlt:k<len
  ·have R:Hid (ItsAt wr a l):=h.out.below H1.out.2
   obtain ⟨b1,o1,ha1,hb1,-⟩:=R.out k (by rw [Hlen.out];exact hlt)
   subst ha1
   obtain ⟨c0,c1,c2⟩:=R.out.cells (k:=k) (by rw [Hlen.out];exact hlt)
   have hts:=itTakeSet l len k Hlen.out hlt
   have T:=fun w=>toItB (itAt l k) w
   unfold It.val at T
   generalize itAt l k=r at c0 c1 c2 hts T
   have Hts:Hid _:=hts
   clear hts
   go_wp2_with fail
   refine (T _).mono ?_
   rintro e w2 ⟨rfl,b2⟩
   have hsz:w.heap.size<wr.heap.size:=(World.ownsRow.lt H1.out.1 _ rfl).2
   have H2:Hid (w2.ownsRow w.heap.size 52 3 (.slice (some ⟨w.heap.size,0,none⟩) len len) len (itcells (l.take k++List.replicate (len-k) ⟨0,0,0⟩))∧Bel w w2):=by
    refine ⟨?_,H1.out.2.trans (b2.mono H1.out.2.size)⟩
    have hh:=H1.out.1
    refine ⟨hh.1,hh.2.imp id ?_⟩
    rintro ⟨g0,cp,cur,h1,h2,h3,h4⟩
    cases h1
    exact ⟨_,_,cur,rfl,h2,by rw [b2.block _ hsz];exact h3,h4⟩
   have hL:(itcells (l.take k++List.replicate (len-k) ⟨0,0,0⟩)).length=len*3:=by
    rw [itcells_length];have:=Hlen.out;simp;omega
   have ex:∀ j,j<len*3→∃ v,w2.cell? ⟨w.heap.size,j,none⟩=some v:=by
    intro j hj
    rw [H2.out.1.cellAt j hj]
    exact ⟨_,List.getElem?_eq_getElem (by omega)⟩
   obtain ⟨y0,hy0⟩:=ex (k*3) (by omega)
   obtain ⟨y1,hy1⟩:=ex (k*3+1) (by omega)
   obtain ⟨y2,hy2⟩:=ex (k*3+2) (by omega)
   have z0:=H2.out.1.frozenAt (k*3)
   have z1:=H2.out.1.frozenAt (k*3+1)
   have z2:=H2.out.1.frozenAt (k*3+2)
   have H3:Hid (_∧Bel w (((w2.setCell ⟨w.heap.size,k*3,none⟩ (.int .i64 r.id)).setCell ⟨w.heap.size,k*3+1,none⟩ (.int .i64 r.size)).setCell ⟨w.heap.size,k*3+2,none⟩ (.int .i64 r.tm))):=⟨ItRow.put H2.out.1 k r,((H2.out.2.setCell nlr _).setCell nlr _).setCell nlr _⟩
   clear b2 hL ex H1 R H2
   go_wp2
   go_roundw
   case rel=>exact ⟨k+1,by omega,by go_num,by rw [← Hts.out];exact H3.out⟩
   case measure=>simp [intOf];omega
  ·obtain rfl:k=len:=by omega
   go_wp2
   go_ret
   refine ⟨_,rfl,?_,H1.out.2⟩
   have hh:=H1.out.1
   rw [Nat.sub_self,List.take_of_length_le (by rw [Hlen.out];omega)] at hh
   simpa using hh
theorem szIts (L:Int) (h0:0≤L) (h1:L≤1048576) (a:Option Addr) (cap len:Nat) (w:World) (hl:(len:Int)≤9223372036854775807) :
 Calls Tryz.prog 138 #[.slice a len cap,.int .i64 L] w fun e w'=>e = .returned (.int .i64 (if L-len<0 then -1 else L-len))∧w'=w:=by
 by_cases h:L-len<0
 ·rw [if_pos h]
  go_enter Tryz.func138,Tryz.ntmps138
  go_wp2
  go_ret
  exact ⟨rfl,rfl⟩
 ·rw [if_neg h]
  go_enter Tryz.func138,Tryz.ntmps138
  go_wp2
  go_ret
  exact ⟨rfl,rfl⟩
theorem szIzs (L:Int) (h0:0≤L) (h1:L≤1048576) (a:Option Addr) (cap:Nat) (ls:List (List It)) (w:World) (hl:(ls.length:Int)≤9223372036854775807) (hin:Hid (∀ k,k<ls.length→((izAt ls k).length:Int)≤9223372036854775807)) (h:Hid (IzAt w a ls)) :
 Calls Tryz.prog 64 #[.slice a ls.length cap,.int .i64 L] w fun e w'=>e = .returned (.int .i64 (if L-(ls.length+izSum ls ls.length:Nat)<0 then -1 else L-(ls.length+izSum ls ls.length:Nat)))∧w'=w:=by
 obtain ⟨len,hlen⟩:∃ n,ls.length=n:=⟨_,rfl⟩
 obtain ⟨R,hR⟩:∃ R:Int,R=if L-(ls.length+izSum ls ls.length:Nat)<0 then -1 else L-(ls.length+izSum ls ls.length:Nat):=⟨_,rfl⟩
 rw [← hR]
 have HR:Hid (R=if L-(len+izSum ls len:Nat)<0 then -1 else L-(len+izSum ls len:Nat)):=by rw [hlen] at hR;exact hR
 clear hR
 rw [hlen] at hl ⊢
 have Hlen:Hid (ls.length=len):=hlen
 clear hlen
 by_cases hbig:L-len<0
 ·have hr:R = -1:=by rw [HR.out,if_pos (by push_cast;omega)]
  subst hr
  go_enter Tryz.func64,Tryz.ntmps64
  go_wp2
  go_ret
  exact ⟨rfl,rfl⟩
 ·go_enter Tryz.func64,Tryz.ntmps64
  go_wp2
  go_loop [1,5] (fun l i=>∃ (k:Nat) (lf:Int),k≤len∧i = .int .i64 k∧l = .int .i64 lf∧0≤lf∧lf≤1048576∧Hid (lf=L-len-izSum ls k)) (fun _ i=>len-(intOf i).toNat)
  case atStart=>exact ⟨0,L-len,Nat.zero_le _,rfl,rfl,by omega,by omega,by show L-len=L-len-(izSum ls 0:Nat);rw [izSum_zero];simp⟩
  case round =>
   obtain ⟨k,lf,hk,rfl,rfl,f0,f1,Hf⟩:=hrel
   by_cases hlt:k<len
   ·obtain ⟨b,off,ak,ck,ha,hb,hc,-,-⟩:=h.out k (by rw [Hlen.out];exact hlt)
    subst ha
    have hi:=hin.out k (by rw [Hlen.out];exact hlt)
    have hs:=izSum_succ (ls:=ls) (i:=k) (by rw [Hlen.out];exact hlt)
    have hm:=izSum_mono (ls:=ls) (i:=k+1) (j:=len) (by omega) (by rw [Hlen.out];exact Nat.le_refl _)
    generalize (izAt ls k).length=n at hc hi hs
    have C:=szIts lf f0 f1 ak ck n w hi
    have Hs:Hid (izSum ls (k+1)=izSum ls k+n):=hs
    have Hm:Hid (izSum ls (k+1)≤izSum ls len):=hm
    clear hs hm
    by_cases hn:lf-n<0
    ·rw [if_pos hn] at C
     have hr:R = -1:=by
      rw [HR.out,if_pos]
      have:=Hf.out
      have:=Hs.out
      have:=Hm.out
      push_cast
      omega
     subst hr
     go_wp2_with fail
     refine C.mono ?_
     rintro e w' ⟨rfl,hw⟩
     have hw:=hw.symm
     subst hw
     go_wp2
     go_ret
     exact ⟨rfl,rfl⟩
    ·rw [if_neg hn] at C
     go_wp2_with fail
     refine C.mono ?_
     rintro e w' ⟨rfl,hw⟩
     have hw:=hw.symm
     subst hw
     go_wp2
     go_round
     case rel =>
      refine ⟨k+1,lf-n,by omega,by go_num,rfl,by omega,by omega,?_⟩
      show lf-n=L-len-(izSum ls (k+1):Nat)
      rw [Hs.out,Hf.out]
      push_cast
      omega
     case measure=>simp [intOf];omega
   ·obtain rfl:k=len:=by omega
    have hr:R=lf:=by
     rw [HR.out,if_neg (by have:=Hf.out;push_cast;omega),Hf.out]
     push_cast
     omega
    subst hr
    go_wp2
    go_ret
    exact ⟨rfl,rfl⟩
theorem toIzs (a:Option Addr) (cap:Nat) (ls:List (List It)) (w:World) (hT:ls.length≤1048576) (hin:Hid (∀ k,k<ls.length→(izAt ls k).length≤1048576)) (h:Hid (IzAt w a ls)) :
 Calls Tryz.prog 87 #[.slice a ls.length cap] w fun e w'=>∃ g,e = .returned (.slice (some ⟨g,0,none⟩) ls.length ls.length)∧IzIn w.heap.size w'.heap.size w' (.slice (some ⟨g,0,none⟩) ls.length ls.length) ls∧Bel w w':=by
 obtain ⟨i0,hi,hz0,hz1,hz2⟩:=info_parts izInfo
 obtain ⟨len,hlen⟩:∃ n,ls.length=n:=⟨_,rfl⟩
 rw [hlen] at hT ⊢
 have Hlen:Hid (ls.length=len):=hlen
 clear hlen
 have hmk:∀ wx,(Instr.makeSlice 42 (.int .i64 (len:Int)) (.int .i64 (len:Int))).run Tryz.prog wx = .ok (.slice (some ⟨wx.heap.size,0,none⟩) len len) (wx.alloc (.cells (madeCells #[.slice none 0 0] (len*1)) 111)):=by
  intro wx
  have:=run_make (P:=Tryz.prog) wx 42 111 i0 (.slice none 0 0) Tryz.underlying42 hi hz0 .i64 .i64 len len (by omega) (by omega) (by rw [hz2];omega) (by omega)
  rw [this,hz1];simp [Value.cells]
 have H0:Hid (IzB ls len w.heap.size 0 [] (w.alloc (.cells (madeCells #[.slice none 0 0] (len*1)) 111))):=by
  have:=World.ownsRow_lit (size:=1) (e:=111) (base:=w.heap.size) w (madeCells #[.slice none 0 0] (len*1)) len nlr (by unfold maxLen;omega) (by rw [size_madeCells])
  rw [izMade] at this
  exact ⟨by simpa using this,rfl,fun i hi=>by omega,fun i hi=>by omega,fun i j hi=>by omega⟩
 clear hi hz0 hz1 hz2
 go_enter Tryz.func87,Tryz.ntmps87
 go_wp2
 go_loopw [4] (fun i wr=>∃ k:Nat,k≤len∧i = .int .i64 k∧Hid (∃ vs,IzB ls len w.heap.size k vs wr∧Bel w wr)) (fun i _=>len-(intOf i).toNat)
 case atStart=>exact ⟨0,Nat.zero_le _,rfl,[],by have:=H0.out;rw [Nat.mul_one] at this;exact this,(Below.refl _ _).alloc nlr _⟩
 case round =>
  clear H0 hmk
  obtain ⟨k,hk,rfl,H1⟩:=hrel
  obtain ⟨vs,H1⟩:∃ vs,Hid (IzB ls len w.heap.size k vs wr∧Bel w wr):=H1.out
  by_cases hlt:k<len
  ·have R:Hid (IzAt wr a ls):=h.out.below H1.out.2
   obtain ⟨b1,o1,i1,c1,ha1,hb1,hc1,hr1,-⟩:=R.out k (by rw [Hlen.out];exact hlt)
   subst ha1
   have hn:=hin.out k (by rw [Hlen.out];exact hlt)
   have T:=fun w h=>toIts i1 c1 (izAt ls k) w hn h
   have hG:w.heap.size<wr.heap.size:=(World.ownsRow.lt H1.out.1.outer _ rfl).2
   have St:Hid (∀ w2 x,ItRow wr.heap.size w2 (.slice (some ⟨x,0,none⟩) (izAt ls k).length (izAt ls k).length) (izAt ls k)→Bel wr w2 →
    (∃ vs',IzB ls len w.heap.size (k+1) vs' (w2.setCell ⟨w.heap.size,k,none⟩ (.slice (some ⟨x,0,none⟩) (izAt ls k).length (izAt ls k).length))∧Bel w (w2.setCell ⟨w.heap.size,k,none⟩ (.slice (some ⟨x,0,none⟩) (izAt ls k).length (izAt ls k).length)))∧(∃ y,w2.cell? ⟨w.heap.size,k,none⟩=some y)∧w2.frozen? ⟨w.heap.size,k,none⟩=false):=fun w2 x q1 q2=>by
    have hb:=H1.out.1.below q2
    refine ⟨⟨_,H1.out.1.add hlt q2 q1,(H1.out.2.trans (q2.mono H1.out.2.size)).setCell nlr _⟩,?_,hb.outer.frozenAt k⟩
    rw [hb.outer.cellAt k (by omega)]
    exact ⟨_,List.getElem?_eq_getElem (by have:=hb.len;simp;omega)⟩
   generalize izAt ls k=l at hc1 hr1 T St
   generalize hln:l.length=n at hc1 T St
   clear hln
   have T':Hid _:=T
   have Hr1:Hid (ItsAt wr i1 l):=hr1
   clear T hr1 hn R
   go_wp2_with fail
   refine (T'.out _ Hr1.out).mono ?_
   rintro e w2 ⟨x,rfl,q1,q2⟩
   obtain ⟨H3,⟨y,hy⟩,hz⟩:=St.out w2 x q1 q2
   have H3:Hid _:=H3
   have hG2:w.heap.size<w2.heap.size:=Nat.lt_of_lt_of_le hG q2.size
   clear q1 q2 St
   go_wp2
   go_roundw
   case rel=>exact ⟨k+1,by omega,by go_num,H3⟩
   case measure=>simp [intOf];omega
  ·obtain rfl:k=len:=by omega
   go_wp2
   go_ret
   exact ⟨_,rfl,⟨vs,H1.out.1.done Hlen.out⟩,H1.out.2⟩
theorem szRws (L:Int) (h0:0≤L) (h1:L≤1048576) (r:Rw) (a:Option Addr) (c:Nat) (w:World) (hl:(r.lists.length:Int)≤9223372036854775807) (hin:Hid (∀ k,k<r.lists.length→((izAt r.lists k).length:Int)≤9223372036854775807)) (h:Hid (IzAt w a r.lists)) :
 Calls Tryz.prog 19 #[r.val a c,.int .i64 L] w fun e w'=>e = .returned (.int .i64 (if L-(r.big:Nat)<0 then -1 else L-(r.big:Nat)))∧Bel w w':=by
 have C:=fun w h=>szIzs L h0 h1 a c r.lists w hl hin h
 rw [show r.lists.length+izSum r.lists r.lists.length=r.big from rfl] at C
 generalize r.big=B at C ⊢
 unfold Rw.val
 have X:Hid (IzAt (w.alloc (.cells #[.int .i64 r.most,.slice a r.lists.length c] 30)) a r.lists∧Bel w (w.alloc (.cells #[.int .i64 r.most,.slice a r.lists.length c] 30))):=⟨h.out.alloc _,(Below.refl _ _).alloc nlr _⟩
 generalize r.lists.length=n at C X ⊢
 generalize r.most=f at X ⊢
 have C':Hid _:=C
 clear C
 by_cases hn:L-(B:Nat)<0
 ·rw [if_pos hn] at C' ⊢
  go_enter Tryz.func19,Tryz.ntmps19
  go_wp2_with fail
  refine (C'.out _ X.out.1).mono ?_
  rintro e w' ⟨rfl,rfl⟩
  go_wp2
  go_ret
  exact ⟨rfl,X.out.2⟩
 ·rw [if_neg hn] at C' ⊢
  have hn':¬ L-(B:Int)<0:=hn
  go_enter Tryz.func19,Tryz.ntmps19
  go_wp2_with fail
  refine (C'.out _ X.out.1).mono ?_
  rintro e w' ⟨rfl,rfl⟩
  go_wp2
  go_ret
  exact ⟨rfl,X.out.2⟩
theorem toRws (r:Rw) (a:Option Addr) (c:Nat) (w:World) (hB:r.big≤1048576) (h:Hid (IzAt w a r.lists)) :
 Calls Tryz.prog 30 #[r.val a c] w fun e w'=>(∃ v,e = .returned v∧RwIn w.heap.size w'.heap.size w' v r)∧Bel w w':=by
 obtain ⟨hT,-,hin⟩:=Rw.small hB
 have T:=fun w h=>toIzs a c r.lists w hT hin h
 obtain ⟨f,l⟩:=r
 simp only [Rw.val] at T h ⊢
 clear hin hT hB
 obtain ⟨n,hn⟩:∃ n,l.length=n:=⟨_,rfl⟩
 have Hn:Hid (l.length=n):=hn
 rw [hn] at T ⊢
 clear hn
 have T':Hid _:=T
 clear T
 obtain ⟨W,hW⟩:∃ W,W=((w.alloc (.cells #[.int .i64 f,.slice a n c] 30)).alloc (.cells #[.int .i64 0,.slice none 0 0] 44)).alloc (.cells #[.int .i64 f,.slice none 0 0] 44):=⟨_,rfl⟩
 have X:Hid (IzAt W a l∧Bel w W∧Boxed W (w.heap.size+1) #[.int .i64 0,.slice none 0 0] 44∧Boxed W (w.heap.size+2) #[.int .i64 f,.slice none 0 0] 44∧w.heap.size+3=W.heap.size):=by
  rw [hW]
  refine ⟨((h.out.alloc _).alloc _).alloc _,(((Below.refl _ _).alloc nlr _).alloc (by simp) _).alloc (by simp;omega) _,?_,?_,by simp⟩
  ·have:=(Boxed.new (w.alloc (.cells #[.int .i64 f,.slice a n c] 30)) #[.int .i64 0,.slice none 0 0] 44).more (.cells #[.int .i64 f,.slice none 0 0] 44)
   simpa using this
  ·have:=Boxed.new ((w.alloc (.cells #[.int .i64 f,.slice a n c] 30)).alloc (.cells #[.int .i64 0,.slice none 0 0] 44)) #[.int .i64 f,.slice none 0 0] 44
   simpa using this
 have HW:Hid (W=_):=hW
 clear hW h
 go_enter Tryz.func30,Tryz.ntmps30
 go_wp2_with fail
 rw [← HW.out]
 refine (T'.out _ X.out.1).mono ?_
 rintro e w1 ⟨g,rfl,q1,q2⟩
 have hz:=X.out.2.2.2.2
 have X1:Hid (Bel w w1∧Boxed w1 (w.heap.size+1) #[.int .i64 0,.slice none 0 0] 44∧Boxed w1 (w.heap.size+2) #[.int .i64 f,.slice none 0 0] 44∧IzIn W.heap.size w1.heap.size w1 (.slice (some ⟨g,0,none⟩) n n) l∧w.heap.size+3≤w1.heap.size∧w.heap.size+3=W.heap.size) :=
  ⟨X.out.2.1.trans (q2.mono X.out.2.1.size),X.out.2.2.1.below (by omega) q2,X.out.2.2.2.1.below (by omega) q2,q1,by have:=q2.size;omega,hz⟩
 have X2:Hid (Boxed (w1.setCell ⟨w.heap.size+2,1,none⟩ (.slice (some ⟨g,0,none⟩) n n)) (w.heap.size+1) #[.int .i64 0,.slice none 0 0] 44∧Boxed (w1.setCell ⟨w.heap.size+2,1,none⟩ (.slice (some ⟨g,0,none⟩) n n)) (w.heap.size+2) #[.int .i64 f,.slice (some ⟨g,0,none⟩) n n] 44) :=
  ⟨X1.out.2.1.far (by omega) _ _,X1.out.2.2.1.put 1 _⟩
 have d1:w1.cell? ⟨w.heap.size+2,1,none⟩=some (.slice none 0 0):=X1.out.2.2.1.cell 1 rfl
 have z1:=X1.out.2.2.1.ice 1
 clear q1 q2 X hz
 go_wp2_with (first|(refine wpList_load_row rfl 44 (.tmp 3) rfl (w.heap.size+2) rfl _ _ _ _ X2.out.2 Tryz.underlying44 rfl (by kernel_rfl) ?_)|(refine wpList_store_row rfl 44 (.tmp 2) (.tmp 11) rfl (w.heap.size+1) _ rfl rfl _ _ X2.out.1 (by kernel_rfl) rfl (by simp [Value.oneCell']) ?_))
 have hB:∀ k,k≠w.heap.size+1→k≠w.heap.size+2→((w1.setCell ⟨w.heap.size+2,1,none⟩ (.slice (some ⟨g,0,none⟩) n n)).setRow (w.heap.size+1) #[.int .i64 f,.slice (some ⟨g,0,none⟩) n n]).heap[k]? = w1.heap[k]? := fun k h1 h2=>by
  rw [setRow_other _ _ _ _ h1]
  exact Below.heap_setCell _ _ _ _ h2
 have hS:((w1.setCell ⟨w.heap.size+2,1,none⟩ (.slice (some ⟨g,0,none⟩) n n)).setRow (w.heap.size+1) #[.int .i64 f,.slice (some ⟨g,0,none⟩) n n]).heap.size=w1.heap.size:=by
  rw [size_setRow]
  simp [World.setCell]
 refine bodyPost_ret (results_cell_row Tryz.results30 _ _ (w.heap.size+1) _ _ _ _ rfl (setRow_heap _ (w.heap.size+1) _ _ _ _ X2.out.1) Tryz.underlying44 rfl (by kernel_rfl)) rfl ⟨⟨_,rfl,some ⟨g,0,none⟩,n,by show _=Value.agg #[_,.slice _ l.length _];rw [Hn.out],?_⟩,below_setRow (X1.out.1.setCell (by show w.heap.size≤w.heap.size+2;omega) _) (by omega) _⟩
 rw [hS]
 show IzIn _ _ _ (.slice _ l.length _) l
 rw [Hn.out]
 have q:=X1.out.2.2.2.1
 have e:=X1.out.2.2.2.2.2
 exact (q.keep (by rw [hS];exact Nat.le_refl _) fun k h1 h2=>hB k (by omega) (by omega)).wide (by omega) nlr (by rw [hS];exact Nat.le_refl _)
structure GtLen (g:Gt):Prop where
 routes:(g.routes.length:Int)≤9223372036854775807
 rules:(g.rules.length:Int)≤9223372036854775807
 tree:(g.tree.length:Int)≤9223372036854775807
 leaves:(g.leaves.length:Int)≤9223372036854775807
 rows:(g.rows.lists.length:Int)≤9223372036854775807
 row:∀ k,k<g.rows.lists.length→((izAt g.rows.lists k).length:Int)≤9223372036854775807
 steers:(g.steers.length:Int)≤9223372036854775807
 fair:(g.fair.flows.length:Int)≤9223372036854775807
 flow:∀ k,k<g.fair.flows.length→((fwAt g.fair.flows k).sizes.length:Int)≤9223372036854775807
theorem szGts (L:Int) (h0:0≤L) (h1:L≤1048576) (g:Gt) (x:Ga) (w:World) (hl:GtLen g) (hG:Hid (GtV w x g)) :
 Calls Tryz.prog 5 #[g.val x,.int .i64 L] w fun e w'=>e = .returned (.int .i64 (if L-(g.big:Nat)<0 then -1 else L-(g.big:Nat)))∧Below w.heap.size w w':=by
 have M1:Hid (∀ (L:Int) (W:World),0≤L→L≤1048576→GtV W x g→Calls Tryz.prog 15 #[(.slice x.a1 g.routes.length x.c1),.int .i64 L] W fun e w'=>e = .returned (.int .i64 (if L-(g.routes.length:Nat)<0 then -1 else L-(g.routes.length:Nat)))∧Below W.heap.size W w'):=fun L W h0 h1 h=>by
  exact (szRts L h0 h1 x.a1 x.c1 g.routes.length W hl.routes).mono fun e w' hh=>⟨hh.1,by rw [hh.2];exact Below.refl _ _⟩
 have M2:Hid (∀ (L:Int) (W:World),0≤L→L≤1048576→GtV W x g→Calls Tryz.prog 16 #[(.slice x.a2 g.rules.length x.c2),.int .i64 L] W fun e w'=>e = .returned (.int .i64 (if L-(g.rules.length:Nat)<0 then -1 else L-(g.rules.length:Nat)))∧Below W.heap.size W w'):=fun L W h0 h1 h=>by
  exact (szRus L h0 h1 x.a2 x.c2 g.rules.length W hl.rules).mono fun e w' hh=>⟨hh.1,by rw [hh.2];exact Below.refl _ _⟩
 have M3:Hid (∀ (L:Int) (W:World),0≤L→L≤1048576→GtV W x g→Calls Tryz.prog 17 #[(.slice x.a3 g.tree.length x.c3),.int .i64 L] W fun e w'=>e = .returned (.int .i64 (if L-(g.tree.length:Nat)<0 then -1 else L-(g.tree.length:Nat)))∧Below W.heap.size W w'):=fun L W h0 h1 h=>by
  exact (szNds L h0 h1 x.a3 x.c3 g.tree.length W hl.tree).mono fun e w' hh=>⟨hh.1,by rw [hh.2];exact Below.refl _ _⟩
 have M4:Hid (∀ (L:Int) (W:World),0≤L→L≤1048576→GtV W x g→Calls Tryz.prog 18 #[(.slice x.a4 g.leaves.length x.c4),.int .i64 L] W fun e w'=>e = .returned (.int .i64 (if L-(g.leaves.length:Nat)<0 then -1 else L-(g.leaves.length:Nat)))∧Below W.heap.size W w'):=fun L W h0 h1 h=>by
  exact (szIntsN x.a4 x.c4 g.leaves.length L W hl.leaves h0 h1).mono fun e w' hh=>⟨hh.1,by rw [hh.2];exact Below.refl _ _⟩
 have M5:Hid (∀ (L:Int) (W:World),0≤L→L≤1048576→GtV W x g→Calls Tryz.prog 19 #[(g.rows.val x.a5 x.c5),.int .i64 L] W fun e w'=>e = .returned (.int .i64 (if L-(g.rows.big:Nat)<0 then -1 else L-(g.rows.big:Nat)))∧Below W.heap.size W w'):=fun L W h0 h1 h=>by
  exact szRws L h0 h1 g.rows x.a5 x.c5 W hl.rows hl.row h.rows.spot
 have M6:Hid (∀ (L:Int) (W:World),0≤L→L≤1048576→GtV W x g→Calls Tryz.prog 20 #[(.slice x.a6 g.steers.length x.c6),.int .i64 L] W fun e w'=>e = .returned (.int .i64 (if L-(g.steers.length:Nat)<0 then -1 else L-(g.steers.length:Nat)))∧Below W.heap.size W w'):=fun L W h0 h1 h=>by
  exact (szSrs L h0 h1 x.a6 x.c6 g.steers.length W hl.steers).mono fun e w' hh=>⟨hh.1,by rw [hh.2];exact Below.refl _ _⟩
 have M7:Hid (∀ (L:Int) (W:World),0≤L→L≤1048576→GtV W x g→Calls Tryz.prog 21 #[(g.fair.val x.a7 x.c7),.int .i64 L] W fun e w'=>e = .returned (.int .i64 (if L-(g.fair.big:Nat)<0 then -1 else L-(g.fair.big:Nat)))∧Below W.heap.size W w'):=fun L W h0 h1 h=>by
  exact szFss L h0 h1 g.fair x.a7 x.c7 W hl.fair hl.flow h.fair.spot
 have hbig:g.big=g.routes.length+g.rules.length+g.tree.length+g.leaves.length+g.rows.big+g.steers.length+g.fair.big:=rfl
 rw [hbig]
 clear hbig hl
 obtain ⟨m1,hm1⟩:∃ m,g.routes.length=m:=⟨_,rfl⟩
 obtain ⟨m2,hm2⟩:∃ m,g.rules.length=m:=⟨_,rfl⟩
 obtain ⟨m3,hm3⟩:∃ m,g.tree.length=m:=⟨_,rfl⟩
 obtain ⟨m4,hm4⟩:∃ m,g.leaves.length=m:=⟨_,rfl⟩
 obtain ⟨m5,hm5⟩:∃ m,g.rows.big=m:=⟨_,rfl⟩
 obtain ⟨m6,hm6⟩:∃ m,g.steers.length=m:=⟨_,rfl⟩
 obtain ⟨m7,hm7⟩:∃ m,g.fair.big=m:=⟨_,rfl⟩
 simp only [hm1,hm2,hm3,hm4,hm5,hm6,hm7] at M5 M7 ⊢
 have M1':Hid (∀ (L:Int) (W:World),0≤L→L≤1048576→GtV W x g→Calls Tryz.prog 15 #[.slice x.a1 m1 x.c1,.int .i64 L] W fun e w'=>e = .returned (.int .i64 (if L-(m1:Nat)<0 then -1 else L-(m1:Nat)))∧Below W.heap.size W w'):=by rw [← hm1];exact M1
 have M2':Hid (∀ (L:Int) (W:World),0≤L→L≤1048576→GtV W x g→Calls Tryz.prog 16 #[.slice x.a2 m2 x.c2,.int .i64 L] W fun e w'=>e = .returned (.int .i64 (if L-(m2:Nat)<0 then -1 else L-(m2:Nat)))∧Below W.heap.size W w'):=by rw [← hm2];exact M2
 have M3':Hid (∀ (L:Int) (W:World),0≤L→L≤1048576→GtV W x g→Calls Tryz.prog 17 #[.slice x.a3 m3 x.c3,.int .i64 L] W fun e w'=>e = .returned (.int .i64 (if L-(m3:Nat)<0 then -1 else L-(m3:Nat)))∧Below W.heap.size W w'):=by rw [← hm3];exact M3
 have M4':Hid (∀ (L:Int) (W:World),0≤L→L≤1048576→GtV W x g→Calls Tryz.prog 18 #[.slice x.a4 m4 x.c4,.int .i64 L] W fun e w'=>e = .returned (.int .i64 (if L-(m4:Nat)<0 then -1 else L-(m4:Nat)))∧Below W.heap.size W w'):=by rw [← hm4];exact M4
 have M6':Hid (∀ (L:Int) (W:World),0≤L→L≤1048576→GtV W x g→Calls Tryz.prog 20 #[.slice x.a6 m6 x.c6,.int .i64 L] W fun e w'=>e = .returned (.int .i64 (if L-(m6:Nat)<0 then -1 else L-(m6:Nat)))∧Below W.heap.size W w'):=by rw [← hm6];exact M6
 have M5':Hid _:=M5
 have M7':Hid _:=M7
 clear M1 M2 M3 M4 M5 M6 M7
 have HV:Hid (Gt.val g x = .agg (gc g.ln.kind g.ln.extra g.ln.least (.slice x.a1 m1 x.c1) (.slice x.a2 m2 x.c2) (.slice x.a3 m3 x.c3) (.slice x.a4 m4 x.c4) g.rows.most (.slice x.a5 g.rows.lists.length x.c5) (.slice x.a6 m6 x.c6) g.fair.now (.slice x.a7 g.fair.flows.length x.c7) g.next g.draw)):=by
  show Gt.val g x=_
  rw [← hm1,← hm2,← hm3,← hm4,← hm6]
  rfl
 rw [HV.out]
 clear HV hm1 hm2 hm3 hm4 hm5 hm6 hm7
 unfold Rw.val at M5'
 unfold Fs.val at M7'
 generalize g.ln.kind=kd
 generalize g.ln.extra=ex
 generalize g.ln.least=le
 generalize g.next=nx
 generalize g.draw=dr
 generalize g.rows.most=mo at M5' ⊢
 generalize g.rows.lists.length=n5 at M5' ⊢
 generalize g.fair.now=nw at M7' ⊢
 generalize g.fair.flows.length=n7 at M7' ⊢
 obtain ⟨R,hR⟩:∃ R,R=(if L-((m1+m2+m3+m4+m5+m6+m7:Nat):Int)<0 then -1 else L-((m1+m2+m3+m4+m5+m6+m7:Nat):Int)):=⟨_,rfl⟩
 rw [← hR]
 have HR:Hid (R=_):=hR
 clear hR
 obtain ⟨A,hAq⟩:∃ A,A=w.heap.size:=⟨_,rfl⟩
 obtain ⟨W0,hW⟩:∃ W,W=w.alloc (.cells (gc kd ex le (.slice x.a1 m1 x.c1) (.slice x.a2 m2 x.c2) (.slice x.a3 m3 x.c3) (.slice x.a4 m4 x.c4) mo (.slice x.a5 n5 x.c5) (.slice x.a6 m6 x.c6) nw (.slice x.a7 n7 x.c7) nx dr) 36):=⟨_,rfl⟩
 have Z0:Hid (Boxed W0 A (gc kd ex le (.slice x.a1 m1 x.c1) (.slice x.a2 m2 x.c2) (.slice x.a3 m3 x.c3) (.slice x.a4 m4 x.c4) mo (.slice x.a5 n5 x.c5) (.slice x.a6 m6 x.c6) nw (.slice x.a7 n7 x.c7) nx dr) 36∧GtV W0 x g∧Below w.heap.size w W0):=by
  have bw:Below w.heap.size w W0:=by rw [hW];exact (Below.refl _ _).alloc nlr _
  exact ⟨by rw [hW,hAq];exact Boxed.new _ _ _,hG.out.below bw,bw⟩
 have HW:Hid (W0=_):=hW
 have HA:Hid (A=_):=hAq
 clear hW hAq hG
 go_enter Tryz.func5,Tryz.ntmps5
 go_upto_region 1 with fail
 rw [← HW.out,← HA.out]
 clear HW HA
 have c3:W0.cell? ⟨A,3,none⟩=some (.slice x.a1 m1 x.c1):=Z0.out.1.cell 3 rfl
 have C1:=fun (_:Nat)=>M1'.out L W0 (by omega) (by omega) Z0.out.2.1
 by_cases u1:L-(m1:Nat)<0
 ·rw [if_pos u1] at C1
  have C1':Hid _:=C1
  clear C1
  go_wp2_with fail
  refine (C1'.out 0).mono ?_
  rintro e W1 ⟨rfl,r⟩
  have Z1:Hid (Boxed W1 A (gc kd ex le (.slice x.a1 m1 x.c1) (.slice x.a2 m2 x.c2) (.slice x.a3 m3 x.c3) (.slice x.a4 m4 x.c4) mo (.slice x.a5 n5 x.c5) (.slice x.a6 m6 x.c6) nw (.slice x.a7 n7 x.c7) nx dr) 36∧GtV W1 x g∧Below w.heap.size w W1):=⟨Z0.out.1.below Z0.out.1.under r,Z0.out.2.1.below r,Z0.out.2.2.trans (r.mono Z0.out.2.2.size)⟩
  clear r c3 C1'
  have eR:R = -1:=by rw [HR.out,if_pos (by omega)]
  subst eR
  go_wp2
  go_ret
  exact ⟨rfl,Z1.out.2.2⟩
 rw [if_neg u1] at C1
 obtain ⟨L1,hL1⟩:∃ l,l=L-(m1:Nat):=⟨_,rfl⟩
 rw [← hL1] at C1 u1
 have v1:decide (L1<0)=false:=decide_eq_false u1
 have k1:L1≤1048576:=by omega
 have HL1:Hid (L1=L-(m1:Nat)):=hL1
 clear hL1
 have C1':Hid _:=C1
 clear C1
 go_wp2_with fail
 refine (C1'.out 0).mono ?_
 rintro e W1 ⟨rfl,r⟩
 have Z1:Hid (Boxed W1 A (gc kd ex le (.slice x.a1 m1 x.c1) (.slice x.a2 m2 x.c2) (.slice x.a3 m3 x.c3) (.slice x.a4 m4 x.c4) mo (.slice x.a5 n5 x.c5) (.slice x.a6 m6 x.c6) nw (.slice x.a7 n7 x.c7) nx dr) 36∧GtV W1 x g∧Below w.heap.size w W1):=⟨Z0.out.1.below Z0.out.1.under r,Z0.out.2.1.below r,Z0.out.2.2.trans (r.mono Z0.out.2.2.size)⟩
 clear r c3 C1'
 clear Z0
 have c4:W1.cell? ⟨A,4,none⟩=some (.slice x.a2 m2 x.c2):=Z1.out.1.cell 4 rfl
 have C2:=fun (_:Nat)=>M2'.out L1 W1 (by omega) (by omega) Z1.out.2.1
 by_cases u2:L1-(m2:Nat)<0
 ·rw [if_pos u2] at C2
  have C2':Hid _:=C2
  clear C2
  go_wp2_with fail
  refine (C2'.out 0).mono ?_
  rintro e W2 ⟨rfl,r⟩
  have Z2:Hid (Boxed W2 A (gc kd ex le (.slice x.a1 m1 x.c1) (.slice x.a2 m2 x.c2) (.slice x.a3 m3 x.c3) (.slice x.a4 m4 x.c4) mo (.slice x.a5 n5 x.c5) (.slice x.a6 m6 x.c6) nw (.slice x.a7 n7 x.c7) nx dr) 36∧GtV W2 x g∧Below w.heap.size w W2):=⟨Z1.out.1.below Z1.out.1.under r,Z1.out.2.1.below r,Z1.out.2.2.trans (r.mono Z1.out.2.2.size)⟩
  clear r c4 C2'
  have eR:R = -1:=by rw [HR.out,if_pos (by have:=HL1.out;omega)]
  subst eR
  go_wp2
  go_ret
  exact ⟨rfl,Z2.out.2.2⟩
 rw [if_neg u2] at C2
 obtain ⟨L2,hL2⟩:∃ l,l=L1-(m2:Nat):=⟨_,rfl⟩
 rw [← hL2] at C2 u2
 have v2:decide (L2<0)=false:=decide_eq_false u2
 have k2:L2≤1048576:=by omega
 have HL2:Hid (L2=L1-(m2:Nat)):=hL2
 clear hL2
 have C2':Hid _:=C2
 clear C2
 go_wp2_with fail
 refine (C2'.out 0).mono ?_
 rintro e W2 ⟨rfl,r⟩
 have Z2:Hid (Boxed W2 A (gc kd ex le (.slice x.a1 m1 x.c1) (.slice x.a2 m2 x.c2) (.slice x.a3 m3 x.c3) (.slice x.a4 m4 x.c4) mo (.slice x.a5 n5 x.c5) (.slice x.a6 m6 x.c6) nw (.slice x.a7 n7 x.c7) nx dr) 36∧GtV W2 x g∧Below w.heap.size w W2):=⟨Z1.out.1.below Z1.out.1.under r,Z1.out.2.1.below r,Z1.out.2.2.trans (r.mono Z1.out.2.2.size)⟩
 clear r c4 C2'
 clear Z1
 have c5:W2.cell? ⟨A,5,none⟩=some (.slice x.a3 m3 x.c3):=Z2.out.1.cell 5 rfl
 have C3:=fun (_:Nat)=>M3'.out L2 W2 (by omega) (by omega) Z2.out.2.1
 by_cases u3:L2-(m3:Nat)<0
 ·rw [if_pos u3] at C3
  have C3':Hid _:=C3
  clear C3
  go_wp2_with fail
  refine (C3'.out 0).mono ?_
  rintro e W3 ⟨rfl,r⟩
  have Z3:Hid (Boxed W3 A (gc kd ex le (.slice x.a1 m1 x.c1) (.slice x.a2 m2 x.c2) (.slice x.a3 m3 x.c3) (.slice x.a4 m4 x.c4) mo (.slice x.a5 n5 x.c5) (.slice x.a6 m6 x.c6) nw (.slice x.a7 n7 x.c7) nx dr) 36∧GtV W3 x g∧Below w.heap.size w W3):=⟨Z2.out.1.below Z2.out.1.under r,Z2.out.2.1.below r,Z2.out.2.2.trans (r.mono Z2.out.2.2.size)⟩
  clear r c5 C3'
  have eR:R = -1:=by rw [HR.out,if_pos (by have:=HL1.out;have:=HL2.out;omega)]
  subst eR
  go_wp2
  go_ret
  exact ⟨rfl,Z3.out.2.2⟩
 rw [if_neg u3] at C3
 obtain ⟨L3,hL3⟩:∃ l,l=L2-(m3:Nat):=⟨_,rfl⟩
 rw [← hL3] at C3 u3
 have v3:decide (L3<0)=false:=decide_eq_false u3
 have k3:L3≤1048576:=by omega
 have HL3:Hid (L3=L2-(m3:Nat)):=hL3
 clear hL3
 have C3':Hid _:=C3
 clear C3
 go_wp2_with fail
 refine (C3'.out 0).mono ?_
 rintro e W3 ⟨rfl,r⟩
 have Z3:Hid (Boxed W3 A (gc kd ex le (.slice x.a1 m1 x.c1) (.slice x.a2 m2 x.c2) (.slice x.a3 m3 x.c3) (.slice x.a4 m4 x.c4) mo (.slice x.a5 n5 x.c5) (.slice x.a6 m6 x.c6) nw (.slice x.a7 n7 x.c7) nx dr) 36∧GtV W3 x g∧Below w.heap.size w W3):=⟨Z2.out.1.below Z2.out.1.under r,Z2.out.2.1.below r,Z2.out.2.2.trans (r.mono Z2.out.2.2.size)⟩
 clear r c5 C3'
 clear Z2
 have c6:W3.cell? ⟨A,6,none⟩=some (.slice x.a4 m4 x.c4):=Z3.out.1.cell 6 rfl
 have C4:=fun (_:Nat)=>M4'.out L3 W3 (by omega) (by omega) Z3.out.2.1
 by_cases u4:L3-(m4:Nat)<0
 ·rw [if_pos u4] at C4
  have C4':Hid _:=C4
  clear C4
  go_wp2_with fail
  refine (C4'.out 0).mono ?_
  rintro e W4 ⟨rfl,r⟩
  have Z4:Hid (Boxed W4 A (gc kd ex le (.slice x.a1 m1 x.c1) (.slice x.a2 m2 x.c2) (.slice x.a3 m3 x.c3) (.slice x.a4 m4 x.c4) mo (.slice x.a5 n5 x.c5) (.slice x.a6 m6 x.c6) nw (.slice x.a7 n7 x.c7) nx dr) 36∧GtV W4 x g∧Below w.heap.size w W4):=⟨Z3.out.1.below Z3.out.1.under r,Z3.out.2.1.below r,Z3.out.2.2.trans (r.mono Z3.out.2.2.size)⟩
  clear r c6 C4'
  have eR:R = -1:=by rw [HR.out,if_pos (by have:=HL1.out;have:=HL2.out;have:=HL3.out;omega)]
  subst eR
  go_wp2
  go_ret
  exact ⟨rfl,Z4.out.2.2⟩
 rw [if_neg u4] at C4
 obtain ⟨L4,hL4⟩:∃ l,l=L3-(m4:Nat):=⟨_,rfl⟩
 rw [← hL4] at C4 u4
 have v4:decide (L4<0)=false:=decide_eq_false u4
 have k4:L4≤1048576:=by omega
 have HL4:Hid (L4=L3-(m4:Nat)):=hL4
 clear hL4
 have C4':Hid _:=C4
 clear C4
 go_wp2_with fail
 refine (C4'.out 0).mono ?_
 rintro e W4 ⟨rfl,r⟩
 have Z4:Hid (Boxed W4 A (gc kd ex le (.slice x.a1 m1 x.c1) (.slice x.a2 m2 x.c2) (.slice x.a3 m3 x.c3) (.slice x.a4 m4 x.c4) mo (.slice x.a5 n5 x.c5) (.slice x.a6 m6 x.c6) nw (.slice x.a7 n7 x.c7) nx dr) 36∧GtV W4 x g∧Below w.heap.size w W4):=⟨Z3.out.1.below Z3.out.1.under r,Z3.out.2.1.below r,Z3.out.2.2.trans (r.mono Z3.out.2.2.size)⟩
 clear r c6 C4'
 clear Z3
 have c7:W4.cell? ⟨A,7,none⟩=some (.int .i64 mo):=Z4.out.1.cell 7 rfl
 have c8:W4.cell? ⟨A,8,none⟩=some (.slice x.a5 n5 x.c5):=Z4.out.1.cell 8 rfl
 have C5:=fun (_:Nat)=>M5'.out L4 W4 (by omega) (by omega) Z4.out.2.1
 by_cases u5:L4-(m5:Nat)<0
 ·rw [if_pos u5] at C5
  have C5':Hid _:=C5
  clear C5
  go_wp2_with fail
  refine (C5'.out 0).mono ?_
  rintro e W5 ⟨rfl,r⟩
  have Z5:Hid (Boxed W5 A (gc kd ex le (.slice x.a1 m1 x.c1) (.slice x.a2 m2 x.c2) (.slice x.a3 m3 x.c3) (.slice x.a4 m4 x.c4) mo (.slice x.a5 n5 x.c5) (.slice x.a6 m6 x.c6) nw (.slice x.a7 n7 x.c7) nx dr) 36∧GtV W5 x g∧Below w.heap.size w W5):=⟨Z4.out.1.below Z4.out.1.under r,Z4.out.2.1.below r,Z4.out.2.2.trans (r.mono Z4.out.2.2.size)⟩
  clear r c7 c8 C5'
  have eR:R = -1:=by rw [HR.out,if_pos (by have:=HL1.out;have:=HL2.out;have:=HL3.out;have:=HL4.out;omega)]
  subst eR
  go_wp2
  go_ret
  exact ⟨rfl,Z5.out.2.2⟩
 rw [if_neg u5] at C5
 obtain ⟨L5,hL5⟩:∃ l,l=L4-(m5:Nat):=⟨_,rfl⟩
 rw [← hL5] at C5 u5
 have v5:decide (L5<0)=false:=decide_eq_false u5
 have k5:L5≤1048576:=by omega
 have HL5:Hid (L5=L4-(m5:Nat)):=hL5
 clear hL5
 have C5':Hid _:=C5
 clear C5
 go_wp2_with fail
 refine (C5'.out 0).mono ?_
 rintro e W5 ⟨rfl,r⟩
 have Z5:Hid (Boxed W5 A (gc kd ex le (.slice x.a1 m1 x.c1) (.slice x.a2 m2 x.c2) (.slice x.a3 m3 x.c3) (.slice x.a4 m4 x.c4) mo (.slice x.a5 n5 x.c5) (.slice x.a6 m6 x.c6) nw (.slice x.a7 n7 x.c7) nx dr) 36∧GtV W5 x g∧Below w.heap.size w W5):=⟨Z4.out.1.below Z4.out.1.under r,Z4.out.2.1.below r,Z4.out.2.2.trans (r.mono Z4.out.2.2.size)⟩
 clear r c7 c8 C5'
 clear Z4
 have c9:W5.cell? ⟨A,9,none⟩=some (.slice x.a6 m6 x.c6):=Z5.out.1.cell 9 rfl
 have C6:=fun (_:Nat)=>M6'.out L5 W5 (by omega) (by omega) Z5.out.2.1
 by_cases u6:L5-(m6:Nat)<0
 ·rw [if_pos u6] at C6
  have C6':Hid _:=C6
  clear C6
  go_wp2_with fail
  refine (C6'.out 0).mono ?_
  rintro e W6 ⟨rfl,r⟩
  have Z6:Hid (Boxed W6 A (gc kd ex le (.slice x.a1 m1 x.c1) (.slice x.a2 m2 x.c2) (.slice x.a3 m3 x.c3) (.slice x.a4 m4 x.c4) mo (.slice x.a5 n5 x.c5) (.slice x.a6 m6 x.c6) nw (.slice x.a7 n7 x.c7) nx dr) 36∧GtV W6 x g∧Below w.heap.size w W6):=⟨Z5.out.1.below Z5.out.1.under r,Z5.out.2.1.below r,Z5.out.2.2.trans (r.mono Z5.out.2.2.size)⟩
  clear r c9 C6'
  have eR:R = -1:=by rw [HR.out,if_pos (by have:=HL1.out;have:=HL2.out;have:=HL3.out;have:=HL4.out;have:=HL5.out;omega)]
  subst eR
  go_wp2
  go_ret
  exact ⟨rfl,Z6.out.2.2⟩
 rw [if_neg u6] at C6
 obtain ⟨L6,hL6⟩:∃ l,l=L5-(m6:Nat):=⟨_,rfl⟩
 rw [← hL6] at C6 u6
 have v6:decide (L6<0)=false:=decide_eq_false u6
 have k6:L6≤1048576:=by omega
 have HL6:Hid (L6=L5-(m6:Nat)):=hL6
 clear hL6
 have C6':Hid _:=C6
 clear C6
 go_wp2_with fail
 refine (C6'.out 0).mono ?_
 rintro e W6 ⟨rfl,r⟩
 have Z6:Hid (Boxed W6 A (gc kd ex le (.slice x.a1 m1 x.c1) (.slice x.a2 m2 x.c2) (.slice x.a3 m3 x.c3) (.slice x.a4 m4 x.c4) mo (.slice x.a5 n5 x.c5) (.slice x.a6 m6 x.c6) nw (.slice x.a7 n7 x.c7) nx dr) 36∧GtV W6 x g∧Below w.heap.size w W6):=⟨Z5.out.1.below Z5.out.1.under r,Z5.out.2.1.below r,Z5.out.2.2.trans (r.mono Z5.out.2.2.size)⟩
 clear r c9 C6'
 clear Z5
 have c10:W6.cell? ⟨A,10,none⟩=some (.int .i64 nw):=Z6.out.1.cell 10 rfl
 have c11:W6.cell? ⟨A,11,none⟩=some (.slice x.a7 n7 x.c7):=Z6.out.1.cell 11 rfl
 have C7:=fun (_:Nat)=>M7'.out L6 W6 (by omega) (by omega) Z6.out.2.1
 by_cases u7:L6-(m7:Nat)<0
 ·rw [if_pos u7] at C7
  have C7':Hid _:=C7
  clear C7
  go_wp2_with fail
  refine (C7'.out 0).mono ?_
  rintro e W7 ⟨rfl,r⟩
  have Z7:Hid (Boxed W7 A (gc kd ex le (.slice x.a1 m1 x.c1) (.slice x.a2 m2 x.c2) (.slice x.a3 m3 x.c3) (.slice x.a4 m4 x.c4) mo (.slice x.a5 n5 x.c5) (.slice x.a6 m6 x.c6) nw (.slice x.a7 n7 x.c7) nx dr) 36∧GtV W7 x g∧Below w.heap.size w W7):=⟨Z6.out.1.below Z6.out.1.under r,Z6.out.2.1.below r,Z6.out.2.2.trans (r.mono Z6.out.2.2.size)⟩
  clear r c10 c11 C7'
  have eR:R = -1:=by rw [HR.out,if_pos (by have:=HL1.out;have:=HL2.out;have:=HL3.out;have:=HL4.out;have:=HL5.out;have:=HL6.out;omega)]
  subst eR
  go_wp2
  go_ret
  exact ⟨rfl,Z7.out.2.2⟩
 rw [if_neg u7] at C7
 obtain ⟨L7,hL7⟩:∃ l,l=L6-(m7:Nat):=⟨_,rfl⟩
 rw [← hL7] at C7 u7
 have v7:decide (L7<0)=false:=decide_eq_false u7
 have k7:L7≤1048576:=by omega
 have HL7:Hid (L7=L6-(m7:Nat)):=hL7
 clear hL7
 have C7':Hid _:=C7
 clear C7
 go_wp2_with fail
 refine (C7'.out 0).mono ?_
 rintro e W7 ⟨rfl,r⟩
 have Z7:Hid (Boxed W7 A (gc kd ex le (.slice x.a1 m1 x.c1) (.slice x.a2 m2 x.c2) (.slice x.a3 m3 x.c3) (.slice x.a4 m4 x.c4) mo (.slice x.a5 n5 x.c5) (.slice x.a6 m6 x.c6) nw (.slice x.a7 n7 x.c7) nx dr) 36∧GtV W7 x g∧Below w.heap.size w W7):=⟨Z6.out.1.below Z6.out.1.under r,Z6.out.2.1.below r,Z6.out.2.2.trans (r.mono Z6.out.2.2.size)⟩
 clear r c10 c11 C7'
 clear Z6
 have eL:L-((m1+m2+m3+m4+m5+m6+m7:Nat):Int)=L7:=by have:=HL1.out;have:=HL2.out;have:=HL3.out;have:=HL4.out;have:=HL5.out;have:=HL6.out;have:=HL7.out;omega
 have eR:R=L7:=by rw [HR.out,eL,if_neg (by omega)]
 clear eL HR
 subst eR
 go_wp2
 go_ret
 exact ⟨rfl,Z7.out.2.2⟩
end Go.Proofs.YtgebghkcikmfaaaGreatDoor
