import Derived.Test.YtmfabeghfdoibaaGreatQT17GtOwn
import Derived.Test.YtmfabeghfdoibaaGreatQT31GtZc
import Derived.Test.YtmfabeghfdoibaaGreatQT43GtMk
set_option maxHeartbeats 12800000
set_option maxRecDepth 100000
namespace Go.Proofs.YtmfabeghfdoibaaGreat
open Go.RowKit
abbrev RtsW.th (b t:Nat) (v:Value) (l:List Rt):Thing:=Thing.own (fun W=>RtsW b t W v l) b t (fun h s k=>RtsW.keep h s k)
abbrev RusW.th (b t:Nat) (v:Value) (l:List Ru):Thing:=Thing.own (fun W=>RusW b t W v l) b t (fun h s k=>RusW.keep h s k)
abbrev NdsW.th (b t:Nat) (v:Value) (l:List Nd):Thing:=Thing.own (fun W=>NdsW b t W v l) b t (fun h s k=>NdsW.keep h s k)
abbrev IntsW.th (b t:Nat) (v:Value) (l:List Int):Thing:=Thing.own (fun W=>IntsW b t W v l) b t (fun h s k=>IntsW.keep h s k)
abbrev SrsW.th (b t:Nat) (v:Value) (l:List Sr):Thing:=Thing.own (fun W=>SrsW b t W v l) b t (fun h s k=>SrsW.keep h s k)
abbrev RwIn.th (b t:Nat) (v:Value) (l:Rw):Thing:=Thing.own (fun W=>RwIn b t W v l) b t (fun h s k=>RwIn.keep h s k)
abbrev FsIn.th (b t:Nat) (v:Value) (l:Fs):Thing:=Thing.own (fun W=>FsIn b t W v l) b t (fun h s k=>FsIn.keep h s k)
theorem toIt (r:It) (w:World) :
 Calls Tryz.prog 193 #[r.val] w fun e w'=>e = .returned r.val∧w'=((w.alloc (.cells r.cells.toArray 246)).alloc (.cells r.cells.toArray 80)).alloc (.cells r.cells.toArray 80):=by
 unfold It.val It.cells
 obtain ⟨v0,v1,v2⟩:=r
 simp only []
 go_enter Tryz.func193,Tryz.ntmps193
 go_wp2
 refine bodyPost_ret (v:=.agg #[.int .i64 v0,.int .i64 v1,.int .i64 v2]) (by simp [results,Tryz.results193,go_sem]) rfl ⟨rfl,rfl⟩
theorem toItB (r:It) (w:World) :
 Calls Tryz.prog 193 #[r.val] w fun e w'=>e = .returned r.val∧Bel w w' :=
 (toIt r w).mono fun _ _ h=>⟨h.1,by
  rw [h.2]
  exact (((Below.refl _ w).alloc nlr _).alloc (by simp) _).alloc (by simp;omega) _⟩
theorem toIts (a:Option Addr) (cap:Nat) (l:List It) (w:World) (hT:l.length≤1048576) (h:Hid (ItsAt w a l)) :
 Calls Tryz.prog 154 #[.slice a l.length cap] w fun e w'=>∃ g,e = .returned (.slice (some ⟨g,0,none⟩) l.length l.length)∧ItRow w.heap.size w' (.slice (some ⟨g,0,none⟩) l.length l.length) l∧Bel w w':=by
 obtain ⟨i0,hi,hz0,hz1,hz2⟩:=info_parts itInfo
 obtain ⟨len,hlen⟩:∃ n,l.length=n:=⟨_,rfl⟩
 unfold ItRow
 rw [hlen] at hT ⊢
 have Hlen:Hid (l.length=len):=hlen
 clear hlen
 have hmk:∀ wx,(Instr.makeSlice 78 (.int .i64 (len:Int)) (.int .i64 (len:Int))).run Tryz.prog wx = .ok (.slice (some ⟨wx.heap.size,0,none⟩) len len) (wx.alloc (.cells (madeCells #[.int .i64 0,.int .i64 0,.int .i64 0] (len*3)) 80)):=by
  intro wx
  have:=run_make (P:=Tryz.prog) wx 78 80 i0 (.agg #[.int .i64 0,.int .i64 0,.int .i64 0]) Tryz.underlying78 hi hz0 .i64 .i64 len len (by omega) (by omega) (by rw [hz2];omega) (by omega)
  rw [this,hz1];simp [Value.cells]
 have H0:Hid ((w.alloc (.cells (madeCells #[.int .i64 0,.int .i64 0,.int .i64 0] (len*3)) 80)).ownsRow w.heap.size 80 3 (.slice (some ⟨w.heap.size,0,none⟩) len len) len (itcells (l.take 0++List.replicate (len-0) ⟨0,0,0⟩))):=by
  have:=World.ownsRow_lit (size:=3) (e:=80) (base:=w.heap.size) w (madeCells #[.int .i64 0,.int .i64 0,.int .i64 0] (len*3)) len nlr (by unfold maxLen;omega) (by rw [size_madeCells])
  rw [itMade] at this
  show World.ownsRow _ _ _ _ _ _ _
  simpa using this
 clear hi hz0 hz1 hz2
 go_enter Tryz.func154,Tryz.ntmps154
 go_wp2
 go_loopw [4] (fun i wr=>∃ k:Nat,k≤len∧i = .int .i64 k∧Hid (wr.ownsRow w.heap.size 80 3 (.slice (some ⟨w.heap.size,0,none⟩) len len) len (itcells (l.take k++List.replicate (len-k) ⟨0,0,0⟩))∧Bel w wr)) (fun i _=>len-(intOf i).toNat)
 case atStart=>exact ⟨0,Nat.zero_le _,rfl,H0.out,(Below.refl _ _).alloc nlr _⟩
 case round =>
  clear H0 hmk
  obtain ⟨k,hk,rfl,H1⟩:=hrel
  by_cases hlt:k<len
  ·have R:Hid (ItsAt wr a l):=h.out.below H1.out.2
   obtain ⟨b1,o1,ha1,hb1,-⟩:=R.out k (by rw [Hlen.out];exact hlt)
   subst ha1
   obtain ⟨c0,c1,c2⟩:=R.out.cells (k:=k) (by rw [Hlen.out];exact hlt)
   have hts:=itTakeSet l len k Hlen.out hlt
   have T:=fun w=>toItB (itAt l k) w
   unfold It.val at T
   generalize itAt l k=r at c0 c1 c2 hts T
   have Hts:Hid _:=hts
   clear hts
   go_wp2_with fail
   refine (T _).mono ?_
   rintro e w2 ⟨rfl,b2⟩
   have hsz:w.heap.size<wr.heap.size:=(World.ownsRow.lt H1.out.1 _ rfl).2
   have H2:Hid (w2.ownsRow w.heap.size 80 3 (.slice (some ⟨w.heap.size,0,none⟩) len len) len (itcells (l.take k++List.replicate (len-k) ⟨0,0,0⟩))∧Bel w w2):=by
    refine ⟨?_,H1.out.2.trans (b2.mono H1.out.2.size)⟩
    have hh:=H1.out.1
    refine ⟨hh.1,hh.2.imp id ?_⟩
    rintro ⟨g0,cp,cur,h1,h2,h3,h4⟩
    cases h1
    exact ⟨_,_,cur,rfl,h2,by rw [b2.block _ hsz];exact h3,h4⟩
   have hL:(itcells (l.take k++List.replicate (len-k) ⟨0,0,0⟩)).length=len*3:=by
    rw [itcells_length];have:=Hlen.out;simp;omega
   have ex:∀ j,j<len*3→∃ v,w2.cell? ⟨w.heap.size,j,none⟩=some v:=by
    intro j hj
    rw [H2.out.1.cellAt j hj]
    exact ⟨_,List.getElem?_eq_getElem (by omega)⟩
   obtain ⟨y0,hy0⟩:=ex (k*3) (by omega)
   obtain ⟨y1,hy1⟩:=ex (k*3+1) (by omega)
   obtain ⟨y2,hy2⟩:=ex (k*3+2) (by omega)
   have z0:=H2.out.1.frozenAt (k*3)
   have z1:=H2.out.1.frozenAt (k*3+1)
   have z2:=H2.out.1.frozenAt (k*3+2)
   have H3:Hid (_∧Bel w (((w2.setCell ⟨w.heap.size,k*3,none⟩ (.int .i64 r.id)).setCell ⟨w.heap.size,k*3+1,none⟩ (.int .i64 r.size)).setCell ⟨w.heap.size,k*3+2,none⟩ (.int .i64 r.tm))):=⟨ItRow.put H2.out.1 k r,((H2.out.2.setCell nlr _).setCell nlr _).setCell nlr _⟩
   clear b2 hL ex H1 R H2
   go_wp2
   go_roundw
   case rel=>exact ⟨k+1,by omega,by go_num,by rw [← Hts.out];exact H3.out⟩
   case measure=>simp [intOf];omega
  ·obtain rfl:k=len:=by omega
   go_wp2
   go_ret
   refine ⟨_,rfl,?_,H1.out.2⟩
   have hh:=H1.out.1
   rw [Nat.sub_self,List.take_of_length_le (by rw [Hlen.out];omega)] at hh
   simpa using hh
theorem szIts (L:Int) (h0:0≤L) (h1:L≤1048576) (a:Option Addr) (cap len:Nat) (w:World) (hl:(len:Int)≤9223372036854775807) :
 Calls Tryz.prog 146 #[.slice a len cap,.int .i64 L] w fun e w'=>e = .returned (.int .i64 (if L-len<0 then -1 else L-len))∧w'=w:=by
 by_cases h:L-len<0
 ·rw [if_pos h]
  go_enter Tryz.func146,Tryz.ntmps146
  go_wp2
  go_ret
  exact ⟨rfl,rfl⟩
 ·rw [if_neg h]
  go_enter Tryz.func146,Tryz.ntmps146
  go_wp2
  go_ret
  exact ⟨rfl,rfl⟩
theorem szIzs (L:Int) (h0:0≤L) (h1:L≤1048576) (a:Option Addr) (cap:Nat) (ls:List (List It)) (w:World) (hl:(ls.length:Int)≤9223372036854775807) (hin:Hid (∀ k,k<ls.length→((izAt ls k).length:Int)≤9223372036854775807)) (h:Hid (IzAt w a ls)) :
 Calls Tryz.prog 78 #[.slice a ls.length cap,.int .i64 L] w fun e w'=>e = .returned (.int .i64 (if L-(ls.length+izSum ls ls.length:Nat)<0 then -1 else L-(ls.length+izSum ls ls.length:Nat)))∧w'=w:=by
 obtain ⟨len,hlen⟩:∃ n,ls.length=n:=⟨_,rfl⟩
 obtain ⟨R,hR⟩:∃ R:Int,R=if L-(ls.length+izSum ls ls.length:Nat)<0 then -1 else L-(ls.length+izSum ls ls.length:Nat):=⟨_,rfl⟩
 rw [← hR]
 have HR:Hid (R=if L-(len+izSum ls len:Nat)<0 then -1 else L-(len+izSum ls len:Nat)):=by rw [hlen] at hR;exact hR
 clear hR
 rw [hlen] at hl ⊢
 have Hlen:Hid (ls.length=len):=hlen
 clear hlen
 by_cases hbig:L-len<0
 ·have hr:R = -1:=by rw [HR.out,if_pos (by push_cast;omega)]
  subst hr
  go_enter Tryz.func78,Tryz.ntmps78
  go_wp2
  go_ret
  exact ⟨rfl,rfl⟩
 ·go_enter Tryz.func78,Tryz.ntmps78
  go_wp2
  go_loop [1,5] (fun l i=>∃ (k:Nat) (lf:Int),k≤len∧i = .int .i64 k∧l = .int .i64 lf∧0≤lf∧lf≤1048576∧Hid (lf=L-len-izSum ls k)) (fun _ i=>len-(intOf i).toNat)
  case atStart=>exact ⟨0,L-len,Nat.zero_le _,rfl,rfl,by omega,by omega,by show L-len=L-len-(izSum ls 0:Nat);rw [izSum_zero];simp⟩
  case round =>
   obtain ⟨k,lf,hk,rfl,rfl,f0,f1,Hf⟩:=hrel
   by_cases hlt:k<len
   ·obtain ⟨b,off,ak,ck,ha,hb,hc,-,-⟩:=h.out k (by rw [Hlen.out];exact hlt)
    subst ha
    have hi:=hin.out k (by rw [Hlen.out];exact hlt)
    have hs:=izSum_succ (ls:=ls) (i:=k) (by rw [Hlen.out];exact hlt)
    have hm:=izSum_mono (ls:=ls) (i:=k+1) (j:=len) (by omega) (by rw [Hlen.out];exact Nat.le_refl _)
    generalize (izAt ls k).length=n at hc hi hs
    have C:=szIts lf f0 f1 ak ck n w hi
    have Hs:Hid (izSum ls (k+1)=izSum ls k+n):=hs
    have Hm:Hid (izSum ls (k+1)≤izSum ls len):=hm
    clear hs hm
    by_cases hn:lf-n<0
    ·rw [if_pos hn] at C
     have hr:R = -1:=by
      rw [HR.out,if_pos]
      have:=Hf.out
      have:=Hs.out
      have:=Hm.out
      push_cast
      omega
     subst hr
     go_wp2_with fail
     refine C.mono ?_
     rintro e w' ⟨rfl,hw⟩
     have hw:=hw.symm
     subst hw
     go_wp2
     go_ret
     exact ⟨rfl,rfl⟩
    ·rw [if_neg hn] at C
     go_wp2_with fail
     refine C.mono ?_
     rintro e w' ⟨rfl,hw⟩
     have hw:=hw.symm
     subst hw
     go_wp2
     go_round
     case rel =>
      refine ⟨k+1,lf-n,by omega,by go_num,rfl,by omega,by omega,?_⟩
      show lf-n=L-len-(izSum ls (k+1):Nat)
      rw [Hs.out,Hf.out]
      push_cast
      omega
     case measure=>simp [intOf];omega
   ·obtain rfl:k=len:=by omega
    have hr:R=lf:=by
     rw [HR.out,if_neg (by have:=Hf.out;push_cast;omega),Hf.out]
     push_cast
     omega
    subst hr
    go_wp2
    go_ret
    exact ⟨rfl,rfl⟩
theorem toIzs (a:Option Addr) (cap:Nat) (ls:List (List It)) (w:World) (hT:ls.length≤1048576) (hin:Hid (∀ k,k<ls.length→(izAt ls k).length≤1048576)) (h:Hid (IzAt w a ls)) :
 Calls Tryz.prog 94 #[.slice a ls.length cap] w fun e w'=>∃ g,e = .returned (.slice (some ⟨g,0,none⟩) ls.length ls.length)∧IzIn w.heap.size w'.heap.size w' (.slice (some ⟨g,0,none⟩) ls.length ls.length) ls∧Bel w w':=by
 obtain ⟨i0,hi,hz0,hz1,hz2⟩:=info_parts izInfo
 obtain ⟨len,hlen⟩:∃ n,ls.length=n:=⟨_,rfl⟩
 rw [hlen] at hT ⊢
 have Hlen:Hid (ls.length=len):=hlen
 clear hlen
 have hmk:∀ wx,(Instr.makeSlice 42 (.int .i64 (len:Int)) (.int .i64 (len:Int))).run Tryz.prog wx = .ok (.slice (some ⟨wx.heap.size,0,none⟩) len len) (wx.alloc (.cells (madeCells #[.slice none 0 0] (len*1)) 78)):=by
  intro wx
  have:=run_make (P:=Tryz.prog) wx 42 78 i0 (.slice none 0 0) Tryz.underlying42 hi hz0 .i64 .i64 len len (by omega) (by omega) (by rw [hz2];omega) (by omega)
  rw [this,hz1];simp [Value.cells]
 have H0:Hid (IzB ls len w.heap.size 0 [] (w.alloc (.cells (madeCells #[.slice none 0 0] (len*1)) 78))):=by
  have:=World.ownsRow_lit (size:=1) (e:=78) (base:=w.heap.size) w (madeCells #[.slice none 0 0] (len*1)) len nlr (by unfold maxLen;omega) (by rw [size_madeCells])
  rw [izMade] at this
  exact ⟨by simpa using this,rfl,fun i hi=>by omega,fun i hi=>by omega,fun i j hi=>by omega⟩
 clear hi hz0 hz1 hz2
 go_enter Tryz.func94,Tryz.ntmps94
 go_wp2
 go_loopw [4] (fun i wr=>∃ k:Nat,k≤len∧i = .int .i64 k∧Hid (∃ vs,IzB ls len w.heap.size k vs wr∧Bel w wr)) (fun i _=>len-(intOf i).toNat)
 case atStart=>exact ⟨0,Nat.zero_le _,rfl,[],by have:=H0.out;rw [Nat.mul_one] at this;exact this,(Below.refl _ _).alloc nlr _⟩
 case round =>
  clear H0 hmk
  obtain ⟨k,hk,rfl,H1⟩:=hrel
  obtain ⟨vs,H1⟩:∃ vs,Hid (IzB ls len w.heap.size k vs wr∧Bel w wr):=H1.out
  by_cases hlt:k<len
  ·have R:Hid (IzAt wr a ls):=h.out.below H1.out.2
   obtain ⟨b1,o1,i1,c1,ha1,hb1,hc1,hr1,-⟩:=R.out k (by rw [Hlen.out];exact hlt)
   subst ha1
   have hn:=hin.out k (by rw [Hlen.out];exact hlt)
   have T:=fun w h=>toIts i1 c1 (izAt ls k) w hn h
   have hG:w.heap.size<wr.heap.size:=(World.ownsRow.lt H1.out.1.outer _ rfl).2
   have St:Hid (∀ w2 x,ItRow wr.heap.size w2 (.slice (some ⟨x,0,none⟩) (izAt ls k).length (izAt ls k).length) (izAt ls k)→Bel wr w2 →
    (∃ vs',IzB ls len w.heap.size (k+1) vs' (w2.setCell ⟨w.heap.size,k,none⟩ (.slice (some ⟨x,0,none⟩) (izAt ls k).length (izAt ls k).length))∧Bel w (w2.setCell ⟨w.heap.size,k,none⟩ (.slice (some ⟨x,0,none⟩) (izAt ls k).length (izAt ls k).length)))∧(∃ y,w2.cell? ⟨w.heap.size,k,none⟩=some y)∧w2.frozen? ⟨w.heap.size,k,none⟩=false):=fun w2 x q1 q2=>by
    have hb:=H1.out.1.below q2
    refine ⟨⟨_,H1.out.1.add hlt q2 q1,(H1.out.2.trans (q2.mono H1.out.2.size)).setCell nlr _⟩,?_,hb.outer.frozenAt k⟩
    rw [hb.outer.cellAt k (by omega)]
    exact ⟨_,List.getElem?_eq_getElem (by have:=hb.len;simp;omega)⟩
   generalize izAt ls k=l at hc1 hr1 T St
   generalize hln:l.length=n at hc1 T St
   clear hln
   have T':Hid _:=T
   have Hr1:Hid (ItsAt wr i1 l):=hr1
   clear T hr1 hn R
   go_wp2_with fail
   refine (T'.out _ Hr1.out).mono ?_
   rintro e w2 ⟨x,rfl,q1,q2⟩
   obtain ⟨H3,⟨y,hy⟩,hz⟩:=St.out w2 x q1 q2
   have H3:Hid _:=H3
   have hG2:w.heap.size<w2.heap.size:=Nat.lt_of_lt_of_le hG q2.size
   clear q1 q2 St
   go_wp2
   go_roundw
   case rel=>exact ⟨k+1,by omega,by go_num,H3⟩
   case measure=>simp [intOf];omega
  ·obtain rfl:k=len:=by omega
   go_wp2
   go_ret
   exact ⟨_,rfl,⟨vs,H1.out.1.done Hlen.out⟩,H1.out.2⟩
theorem szRws (L:Int) (h0:0≤L) (h1:L≤1048576) (r:Rw) (a:Option Addr) (c:Nat) (w:World) (hl:(r.lists.length:Int)≤9223372036854775807) (hin:Hid (∀ k,k<r.lists.length→((izAt r.lists k).length:Int)≤9223372036854775807)) (h:Hid (IzAt w a r.lists)) :
 Calls Tryz.prog 27 #[r.val a c,.int .i64 L] w fun e w'=>e = .returned (.int .i64 (if L-(r.big:Nat)<0 then -1 else L-(r.big:Nat)))∧Bel w w':=by
 have C:=fun w h=>szIzs L h0 h1 a c r.lists w hl hin h
 rw [show r.lists.length+izSum r.lists r.lists.length=r.big from rfl] at C
 generalize r.big=B at C ⊢
 unfold Rw.val
 have X:Hid (IzAt (w.alloc (.cells #[.int .i64 r.most,.slice a r.lists.length c] 30)) a r.lists∧Bel w (w.alloc (.cells #[.int .i64 r.most,.slice a r.lists.length c] 30))):=⟨h.out.alloc _,(Below.refl _ _).alloc nlr _⟩
 generalize r.lists.length=n at C X ⊢
 generalize r.most=f at X ⊢
 have C':Hid _:=C
 clear C
 by_cases hn:L-(B:Nat)<0
 ·rw [if_pos hn] at C' ⊢
  go_enter Tryz.func27,Tryz.ntmps27
  go_wp2_with fail
  refine (C'.out _ X.out.1).mono ?_
  rintro e w' ⟨rfl,rfl⟩
  go_wp2
  go_ret
  exact ⟨rfl,X.out.2⟩
 ·rw [if_neg hn] at C' ⊢
  have hn':¬ L-(B:Int)<0:=hn
  go_enter Tryz.func27,Tryz.ntmps27
  go_wp2_with fail
  refine (C'.out _ X.out.1).mono ?_
  rintro e w' ⟨rfl,rfl⟩
  go_wp2
  go_ret
  exact ⟨rfl,X.out.2⟩
theorem toRws (r:Rw) (a:Option Addr) (c:Nat) (w:World) (hB:r.big≤1048576) (h:Hid (IzAt w a r.lists)) :
 Calls Tryz.prog 38 #[r.val a c] w fun e w'=>(∃ v,e = .returned v∧RwIn w.heap.size w'.heap.size w' v r)∧Bel w w':=by
 obtain ⟨hT,-,hin⟩:=Rw.small hB
 have T:=fun w h=>toIzs a c r.lists w hT hin h
 obtain ⟨f,l⟩:=r
 simp only [Rw.val] at T h ⊢
 clear hin hT hB
 obtain ⟨n,hn⟩:∃ n,l.length=n:=⟨_,rfl⟩
 have Hn:Hid (l.length=n):=hn
 rw [hn] at T ⊢
 clear hn
 have T':Hid _:=T
 clear T
 obtain ⟨W,hW⟩:∃ W,W=((w.alloc (.cells #[.int .i64 f,.slice a n c] 30)).alloc (.cells #[.int .i64 0,.slice none 0 0] 44)).alloc (.cells #[.int .i64 f,.slice none 0 0] 44):=⟨_,rfl⟩
 have X:Hid (IzAt W a l∧Bel w W∧Boxed W (w.heap.size+1) #[.int .i64 0,.slice none 0 0] 44∧Boxed W (w.heap.size+2) #[.int .i64 f,.slice none 0 0] 44∧w.heap.size+3=W.heap.size):=by
  rw [hW]
  refine ⟨((h.out.alloc _).alloc _).alloc _,(((Below.refl _ _).alloc nlr _).alloc (by simp) _).alloc (by simp;omega) _,?_,?_,by simp⟩
  ·have:=(Boxed.new (w.alloc (.cells #[.int .i64 f,.slice a n c] 30)) #[.int .i64 0,.slice none 0 0] 44).more (.cells #[.int .i64 f,.slice none 0 0] 44)
   simpa using this
  ·have:=Boxed.new ((w.alloc (.cells #[.int .i64 f,.slice a n c] 30)).alloc (.cells #[.int .i64 0,.slice none 0 0] 44)) #[.int .i64 f,.slice none 0 0] 44
   simpa using this
 have HW:Hid (W=_):=hW
 clear hW h
 go_enter Tryz.func38,Tryz.ntmps38
 go_wp2_with fail
 rw [← HW.out]
 refine (T'.out _ X.out.1).mono ?_
 rintro e w1 ⟨g,rfl,q1,q2⟩
 have hz:=X.out.2.2.2.2
 have X1:Hid (Bel w w1∧Boxed w1 (w.heap.size+1) #[.int .i64 0,.slice none 0 0] 44∧Boxed w1 (w.heap.size+2) #[.int .i64 f,.slice none 0 0] 44∧IzIn W.heap.size w1.heap.size w1 (.slice (some ⟨g,0,none⟩) n n) l∧w.heap.size+3≤w1.heap.size∧w.heap.size+3=W.heap.size) :=
  ⟨X.out.2.1.trans (q2.mono X.out.2.1.size),X.out.2.2.1.below (by omega) q2,X.out.2.2.2.1.below (by omega) q2,q1,by have:=q2.size;omega,hz⟩
 have X2:Hid (Boxed (w1.setCell ⟨w.heap.size+2,1,none⟩ (.slice (some ⟨g,0,none⟩) n n)) (w.heap.size+1) #[.int .i64 0,.slice none 0 0] 44∧Boxed (w1.setCell ⟨w.heap.size+2,1,none⟩ (.slice (some ⟨g,0,none⟩) n n)) (w.heap.size+2) #[.int .i64 f,.slice (some ⟨g,0,none⟩) n n] 44) :=
  ⟨X1.out.2.1.far (by omega) _ _,X1.out.2.2.1.put 1 _⟩
 have d1:w1.cell? ⟨w.heap.size+2,1,none⟩=some (.slice none 0 0):=X1.out.2.2.1.cell 1 rfl
 have z1:=X1.out.2.2.1.ice 1
 clear q1 q2 X hz
 go_wp2_with (first|(refine wpList_load_row rfl 44 (.tmp 3) rfl (w.heap.size+2) rfl _ _ _ _ X2.out.2 Tryz.underlying44 rfl (by kernel_rfl) ?_)|(refine wpList_store_row rfl 44 (.tmp 2) (.tmp 11) rfl (w.heap.size+1) _ rfl rfl _ _ X2.out.1 (by kernel_rfl) rfl (by simp [Value.oneCell']) ?_))
 have hB:∀ k,k≠w.heap.size+1→k≠w.heap.size+2→((w1.setCell ⟨w.heap.size+2,1,none⟩ (.slice (some ⟨g,0,none⟩) n n)).setRow (w.heap.size+1) #[.int .i64 f,.slice (some ⟨g,0,none⟩) n n]).heap[k]? = w1.heap[k]? := fun k h1 h2=>by
  rw [setRow_other _ _ _ _ h1]
  exact Below.heap_setCell _ _ _ _ h2
 have hS:((w1.setCell ⟨w.heap.size+2,1,none⟩ (.slice (some ⟨g,0,none⟩) n n)).setRow (w.heap.size+1) #[.int .i64 f,.slice (some ⟨g,0,none⟩) n n]).heap.size=w1.heap.size:=by
  rw [size_setRow]
  simp [World.setCell]
 refine bodyPost_ret (results_cell_row Tryz.results38 _ _ (w.heap.size+1) _ _ _ _ rfl (setRow_heap _ (w.heap.size+1) _ _ _ _ X2.out.1) Tryz.underlying44 rfl (by kernel_rfl)) rfl ⟨⟨_,rfl,some ⟨g,0,none⟩,n,by show _=Value.agg #[_,.slice _ l.length _];rw [Hn.out],?_⟩,below_setRow (X1.out.1.setCell (by show w.heap.size≤w.heap.size+2;omega) _) (by omega) _⟩
 rw [hS]
 show IzIn _ _ _ (.slice _ l.length _) l
 rw [Hn.out]
 have q:=X1.out.2.2.2.1
 have e:=X1.out.2.2.2.2.2
 exact (q.keep (by rw [hS];exact Nat.le_refl _) fun k h1 h2=>hB k (by omega) (by omega)).wide (by omega) nlr (by rw [hS];exact Nat.le_refl _)
theorem toLn (r:Ln) (w:World) :
 Calls Tryz.prog 33 #[r.val] w fun e w'=>e = .returned r.val∧w'=((w.alloc (.cells r.cells.toArray 23)).alloc (.cells r.cells.toArray 38)).alloc (.cells r.cells.toArray 38):=by
 unfold Ln.val Ln.cells
 obtain ⟨v0,v1,v2⟩:=r
 simp only []
 go_enter Tryz.func33,Tryz.ntmps33
 go_wp2
 refine bodyPost_ret (v:=.agg #[.int .i64 v0,.int .i64 v1,.int .i64 v2]) (by simp [results,Tryz.results33,go_sem]) rfl ⟨rfl,rfl⟩
theorem toLnB (r:Ln) (w:World) :
 Calls Tryz.prog 33 #[r.val] w fun e w'=>e = .returned r.val∧Bel w w' :=
 (toLn r w).mono fun _ _ h=>⟨h.1,by
  rw [h.2]
  exact (((Below.refl _ w).alloc nlr _).alloc (by simp) _).alloc (by simp;omega) _⟩
structure GtLen (g:Gt):Prop where
 routes:(g.routes.length:Int)≤9223372036854775807
 rules:(g.rules.length:Int)≤9223372036854775807
 tree:(g.tree.length:Int)≤9223372036854775807
 leaves:(g.leaves.length:Int)≤9223372036854775807
 rows:(g.rows.lists.length:Int)≤9223372036854775807
 row:∀ k,k<g.rows.lists.length→((izAt g.rows.lists k).length:Int)≤9223372036854775807
 steers:(g.steers.length:Int)≤9223372036854775807
 fair:(g.fair.flows.length:Int)≤9223372036854775807
 flow:∀ k,k<g.fair.flows.length→((fwAt g.fair.flows k).sizes.length:Int)≤9223372036854775807
theorem szGts (L:Int) (h0:0≤L) (h1:L≤1048576) (g:Gt) (x:Ga) (w:World) (hl:GtLen g) (hG:Hid (GtV w x g)) :
 Calls Tryz.prog 6 #[g.val x,.int .i64 L] w fun e w'=>e = .returned (.int .i64 (if L-(g.big:Nat)<0 then -1 else L-(g.big:Nat)))∧Below w.heap.size w w':=by
 have M1:Hid (∀ (L:Int) (W:World),0≤L→L≤1048576→GtV W x g→Calls Tryz.prog 23 #[(.slice x.a1 g.routes.length x.c1),.int .i64 L] W fun e w'=>e = .returned (.int .i64 (if L-(g.routes.length:Nat)<0 then -1 else L-(g.routes.length:Nat)))∧Below W.heap.size W w'):=fun L W h0 h1 h=>by
  exact (szRts L h0 h1 x.a1 x.c1 g.routes.length W hl.routes).mono fun e w' hh=>⟨hh.1,by rw [hh.2];exact Below.refl _ _⟩
 have M2:Hid (∀ (L:Int) (W:World),0≤L→L≤1048576→GtV W x g→Calls Tryz.prog 24 #[(.slice x.a2 g.rules.length x.c2),.int .i64 L] W fun e w'=>e = .returned (.int .i64 (if L-(g.rules.length:Nat)<0 then -1 else L-(g.rules.length:Nat)))∧Below W.heap.size W w'):=fun L W h0 h1 h=>by
  exact (szRus L h0 h1 x.a2 x.c2 g.rules.length W hl.rules).mono fun e w' hh=>⟨hh.1,by rw [hh.2];exact Below.refl _ _⟩
 have M3:Hid (∀ (L:Int) (W:World),0≤L→L≤1048576→GtV W x g→Calls Tryz.prog 25 #[(.slice x.a3 g.tree.length x.c3),.int .i64 L] W fun e w'=>e = .returned (.int .i64 (if L-(g.tree.length:Nat)<0 then -1 else L-(g.tree.length:Nat)))∧Below W.heap.size W w'):=fun L W h0 h1 h=>by
  exact (szNds L h0 h1 x.a3 x.c3 g.tree.length W hl.tree).mono fun e w' hh=>⟨hh.1,by rw [hh.2];exact Below.refl _ _⟩
 have M4:Hid (∀ (L:Int) (W:World),0≤L→L≤1048576→GtV W x g→Calls Tryz.prog 26 #[(.slice x.a4 g.leaves.length x.c4),.int .i64 L] W fun e w'=>e = .returned (.int .i64 (if L-(g.leaves.length:Nat)<0 then -1 else L-(g.leaves.length:Nat)))∧Below W.heap.size W w'):=fun L W h0 h1 h=>by
  exact (szIntsN x.a4 x.c4 g.leaves.length L W hl.leaves h0 h1).mono fun e w' hh=>⟨hh.1,by rw [hh.2];exact Below.refl _ _⟩
 have M5:Hid (∀ (L:Int) (W:World),0≤L→L≤1048576→GtV W x g→Calls Tryz.prog 27 #[(g.rows.val x.a5 x.c5),.int .i64 L] W fun e w'=>e = .returned (.int .i64 (if L-(g.rows.big:Nat)<0 then -1 else L-(g.rows.big:Nat)))∧Below W.heap.size W w'):=fun L W h0 h1 h=>by
  exact szRws L h0 h1 g.rows x.a5 x.c5 W hl.rows hl.row h.rows.spot
 have M6:Hid (∀ (L:Int) (W:World),0≤L→L≤1048576→GtV W x g→Calls Tryz.prog 28 #[(.slice x.a6 g.steers.length x.c6),.int .i64 L] W fun e w'=>e = .returned (.int .i64 (if L-(g.steers.length:Nat)<0 then -1 else L-(g.steers.length:Nat)))∧Below W.heap.size W w'):=fun L W h0 h1 h=>by
  exact (szSrs L h0 h1 x.a6 x.c6 g.steers.length W hl.steers).mono fun e w' hh=>⟨hh.1,by rw [hh.2];exact Below.refl _ _⟩
 have M7:Hid (∀ (L:Int) (W:World),0≤L→L≤1048576→GtV W x g→Calls Tryz.prog 29 #[(g.fair.val x.a7 x.c7),.int .i64 L] W fun e w'=>e = .returned (.int .i64 (if L-(g.fair.big:Nat)<0 then -1 else L-(g.fair.big:Nat)))∧Below W.heap.size W w'):=fun L W h0 h1 h=>by
  exact szFss L h0 h1 g.fair x.a7 x.c7 W hl.fair hl.flow h.fair.spot
 have hbig:g.big=g.routes.length+g.rules.length+g.tree.length+g.leaves.length+g.rows.big+g.steers.length+g.fair.big:=rfl
 rw [hbig]
 clear hbig hl
 obtain ⟨m1,hm1⟩:∃ m,g.routes.length=m:=⟨_,rfl⟩
 obtain ⟨m2,hm2⟩:∃ m,g.rules.length=m:=⟨_,rfl⟩
 obtain ⟨m3,hm3⟩:∃ m,g.tree.length=m:=⟨_,rfl⟩
 obtain ⟨m4,hm4⟩:∃ m,g.leaves.length=m:=⟨_,rfl⟩
 obtain ⟨m5,hm5⟩:∃ m,g.rows.big=m:=⟨_,rfl⟩
 obtain ⟨m6,hm6⟩:∃ m,g.steers.length=m:=⟨_,rfl⟩
 obtain ⟨m7,hm7⟩:∃ m,g.fair.big=m:=⟨_,rfl⟩
 simp only [hm1,hm2,hm3,hm4,hm5,hm6,hm7] at M5 M7 ⊢
 have M1':Hid (∀ (L:Int) (W:World),0≤L→L≤1048576→GtV W x g→Calls Tryz.prog 23 #[.slice x.a1 m1 x.c1,.int .i64 L] W fun e w'=>e = .returned (.int .i64 (if L-(m1:Nat)<0 then -1 else L-(m1:Nat)))∧Below W.heap.size W w'):=by rw [← hm1];exact M1
 have M2':Hid (∀ (L:Int) (W:World),0≤L→L≤1048576→GtV W x g→Calls Tryz.prog 24 #[.slice x.a2 m2 x.c2,.int .i64 L] W fun e w'=>e = .returned (.int .i64 (if L-(m2:Nat)<0 then -1 else L-(m2:Nat)))∧Below W.heap.size W w'):=by rw [← hm2];exact M2
 have M3':Hid (∀ (L:Int) (W:World),0≤L→L≤1048576→GtV W x g→Calls Tryz.prog 25 #[.slice x.a3 m3 x.c3,.int .i64 L] W fun e w'=>e = .returned (.int .i64 (if L-(m3:Nat)<0 then -1 else L-(m3:Nat)))∧Below W.heap.size W w'):=by rw [← hm3];exact M3
 have M4':Hid (∀ (L:Int) (W:World),0≤L→L≤1048576→GtV W x g→Calls Tryz.prog 26 #[.slice x.a4 m4 x.c4,.int .i64 L] W fun e w'=>e = .returned (.int .i64 (if L-(m4:Nat)<0 then -1 else L-(m4:Nat)))∧Below W.heap.size W w'):=by rw [← hm4];exact M4
 have M6':Hid (∀ (L:Int) (W:World),0≤L→L≤1048576→GtV W x g→Calls Tryz.prog 28 #[.slice x.a6 m6 x.c6,.int .i64 L] W fun e w'=>e = .returned (.int .i64 (if L-(m6:Nat)<0 then -1 else L-(m6:Nat)))∧Below W.heap.size W w'):=by rw [← hm6];exact M6
 have M5':Hid _:=M5
 have M7':Hid _:=M7
 clear M1 M2 M3 M4 M5 M6 M7
 have HV:Hid (Gt.val g x = .agg (gc g.ln.kind g.ln.extra g.ln.least (.slice x.a1 m1 x.c1) (.slice x.a2 m2 x.c2) (.slice x.a3 m3 x.c3) (.slice x.a4 m4 x.c4) g.rows.most (.slice x.a5 g.rows.lists.length x.c5) (.slice x.a6 m6 x.c6) g.fair.now (.slice x.a7 g.fair.flows.length x.c7) g.next g.draw)):=by
  show Gt.val g x=_
  rw [← hm1,← hm2,← hm3,← hm4,← hm6]
  rfl
 rw [HV.out]
 clear HV hm1 hm2 hm3 hm4 hm5 hm6 hm7
 unfold Rw.val at M5'
 unfold Fs.val at M7'
 generalize g.ln.kind=kd
 generalize g.ln.extra=ex
 generalize g.ln.least=le
 generalize g.next=nx
 generalize g.draw=dr
 generalize g.rows.most=mo at M5' ⊢
 generalize g.rows.lists.length=n5 at M5' ⊢
 generalize g.fair.now=nw at M7' ⊢
 generalize g.fair.flows.length=n7 at M7' ⊢
 obtain ⟨R,hR⟩:∃ R,R=(if L-((m1+m2+m3+m4+m5+m6+m7:Nat):Int)<0 then -1 else L-((m1+m2+m3+m4+m5+m6+m7:Nat):Int)):=⟨_,rfl⟩
 rw [← hR]
 have HR:Hid (R=_):=hR
 clear hR
 obtain ⟨A,hAq⟩:∃ A,A=w.heap.size:=⟨_,rfl⟩
 obtain ⟨W0,hW⟩:∃ W,W=w.alloc (.cells (gc kd ex le (.slice x.a1 m1 x.c1) (.slice x.a2 m2 x.c2) (.slice x.a3 m3 x.c3) (.slice x.a4 m4 x.c4) mo (.slice x.a5 n5 x.c5) (.slice x.a6 m6 x.c6) nw (.slice x.a7 n7 x.c7) nx dr) 36):=⟨_,rfl⟩
 have Z0:Hid (Boxed W0 A (gc kd ex le (.slice x.a1 m1 x.c1) (.slice x.a2 m2 x.c2) (.slice x.a3 m3 x.c3) (.slice x.a4 m4 x.c4) mo (.slice x.a5 n5 x.c5) (.slice x.a6 m6 x.c6) nw (.slice x.a7 n7 x.c7) nx dr) 36∧GtV W0 x g∧Below w.heap.size w W0):=by
  have bw:Below w.heap.size w W0:=by rw [hW];exact (Below.refl _ _).alloc nlr _
  exact ⟨by rw [hW,hAq];exact Boxed.new _ _ _,hG.out.below bw,bw⟩
 have HW:Hid (W0=_):=hW
 have HA:Hid (A=_):=hAq
 clear hW hAq hG
 go_enter Tryz.func6,Tryz.ntmps6
 go_upto_region 1 with fail
 rw [← HW.out,← HA.out]
 clear HW HA
 have c3:W0.cell? ⟨A,3,none⟩=some (.slice x.a1 m1 x.c1):=Z0.out.1.cell 3 rfl
 have C1:=fun (_:Nat)=>M1'.out L W0 (by omega) (by omega) Z0.out.2.1
 by_cases u1:L-(m1:Nat)<0
 ·rw [if_pos u1] at C1
  have C1':Hid _:=C1
  clear C1
  go_wp2_with fail
  refine (C1'.out 0).mono ?_
  rintro e W1 ⟨rfl,r⟩
  have Z1:Hid (Boxed W1 A (gc kd ex le (.slice x.a1 m1 x.c1) (.slice x.a2 m2 x.c2) (.slice x.a3 m3 x.c3) (.slice x.a4 m4 x.c4) mo (.slice x.a5 n5 x.c5) (.slice x.a6 m6 x.c6) nw (.slice x.a7 n7 x.c7) nx dr) 36∧GtV W1 x g∧Below w.heap.size w W1):=⟨Z0.out.1.below Z0.out.1.under r,Z0.out.2.1.below r,Z0.out.2.2.trans (r.mono Z0.out.2.2.size)⟩
  clear r c3 C1'
  have eR:R = -1:=by rw [HR.out,if_pos (by omega)]
  subst eR
  go_wp2
  go_ret
  exact ⟨rfl,Z1.out.2.2⟩
 rw [if_neg u1] at C1
 obtain ⟨L1,hL1⟩:∃ l,l=L-(m1:Nat):=⟨_,rfl⟩
 rw [← hL1] at C1 u1
 have v1:decide (L1<0)=false:=decide_eq_false u1
 have k1:L1≤1048576:=by omega
 have HL1:Hid (L1=L-(m1:Nat)):=hL1
 clear hL1
 have C1':Hid _:=C1
 clear C1
 go_wp2_with fail
 refine (C1'.out 0).mono ?_
 rintro e W1 ⟨rfl,r⟩
 have Z1:Hid (Boxed W1 A (gc kd ex le (.slice x.a1 m1 x.c1) (.slice x.a2 m2 x.c2) (.slice x.a3 m3 x.c3) (.slice x.a4 m4 x.c4) mo (.slice x.a5 n5 x.c5) (.slice x.a6 m6 x.c6) nw (.slice x.a7 n7 x.c7) nx dr) 36∧GtV W1 x g∧Below w.heap.size w W1):=⟨Z0.out.1.below Z0.out.1.under r,Z0.out.2.1.below r,Z0.out.2.2.trans (r.mono Z0.out.2.2.size)⟩
 clear r c3 C1'
 clear Z0
 have c4:W1.cell? ⟨A,4,none⟩=some (.slice x.a2 m2 x.c2):=Z1.out.1.cell 4 rfl
 have C2:=fun (_:Nat)=>M2'.out L1 W1 (by omega) (by omega) Z1.out.2.1
 by_cases u2:L1-(m2:Nat)<0
 ·rw [if_pos u2] at C2
  have C2':Hid _:=C2
  clear C2
  go_wp2_with fail
  refine (C2'.out 0).mono ?_
  rintro e W2 ⟨rfl,r⟩
  have Z2:Hid (Boxed W2 A (gc kd ex le (.slice x.a1 m1 x.c1) (.slice x.a2 m2 x.c2) (.slice x.a3 m3 x.c3) (.slice x.a4 m4 x.c4) mo (.slice x.a5 n5 x.c5) (.slice x.a6 m6 x.c6) nw (.slice x.a7 n7 x.c7) nx dr) 36∧GtV W2 x g∧Below w.heap.size w W2):=⟨Z1.out.1.below Z1.out.1.under r,Z1.out.2.1.below r,Z1.out.2.2.trans (r.mono Z1.out.2.2.size)⟩
  clear r c4 C2'
  have eR:R = -1:=by rw [HR.out,if_pos (by have:=HL1.out;omega)]
  subst eR
  go_wp2
  go_ret
  exact ⟨rfl,Z2.out.2.2⟩
 rw [if_neg u2] at C2
 obtain ⟨L2,hL2⟩:∃ l,l=L1-(m2:Nat):=⟨_,rfl⟩
 rw [← hL2] at C2 u2
 have v2:decide (L2<0)=false:=decide_eq_false u2
 have k2:L2≤1048576:=by omega
 have HL2:Hid (L2=L1-(m2:Nat)):=hL2
 clear hL2
 have C2':Hid _:=C2
 clear C2
 go_wp2_with fail
 refine (C2'.out 0).mono ?_
 rintro e W2 ⟨rfl,r⟩
 have Z2:Hid (Boxed W2 A (gc kd ex le (.slice x.a1 m1 x.c1) (.slice x.a2 m2 x.c2) (.slice x.a3 m3 x.c3) (.slice x.a4 m4 x.c4) mo (.slice x.a5 n5 x.c5) (.slice x.a6 m6 x.c6) nw (.slice x.a7 n7 x.c7) nx dr) 36∧GtV W2 x g∧Below w.heap.size w W2):=⟨Z1.out.1.below Z1.out.1.under r,Z1.out.2.1.below r,Z1.out.2.2.trans (r.mono Z1.out.2.2.size)⟩
 clear r c4 C2'
 clear Z1
 have c5:W2.cell? ⟨A,5,none⟩=some (.slice x.a3 m3 x.c3):=Z2.out.1.cell 5 rfl
 have C3:=fun (_:Nat)=>M3'.out L2 W2 (by omega) (by omega) Z2.out.2.1
 by_cases u3:L2-(m3:Nat)<0
 ·rw [if_pos u3] at C3
  have C3':Hid _:=C3
  clear C3
  go_wp2_with fail
  refine (C3'.out 0).mono ?_
  rintro e W3 ⟨rfl,r⟩
  have Z3:Hid (Boxed W3 A (gc kd ex le (.slice x.a1 m1 x.c1) (.slice x.a2 m2 x.c2) (.slice x.a3 m3 x.c3) (.slice x.a4 m4 x.c4) mo (.slice x.a5 n5 x.c5) (.slice x.a6 m6 x.c6) nw (.slice x.a7 n7 x.c7) nx dr) 36∧GtV W3 x g∧Below w.heap.size w W3):=⟨Z2.out.1.below Z2.out.1.under r,Z2.out.2.1.below r,Z2.out.2.2.trans (r.mono Z2.out.2.2.size)⟩
  clear r c5 C3'
  have eR:R = -1:=by rw [HR.out,if_pos (by have:=HL1.out;have:=HL2.out;omega)]
  subst eR
  go_wp2
  go_ret
  exact ⟨rfl,Z3.out.2.2⟩
 rw [if_neg u3] at C3
 obtain ⟨L3,hL3⟩:∃ l,l=L2-(m3:Nat):=⟨_,rfl⟩
 rw [← hL3] at C3 u3
 have v3:decide (L3<0)=false:=decide_eq_false u3
 have k3:L3≤1048576:=by omega
 have HL3:Hid (L3=L2-(m3:Nat)):=hL3
 clear hL3
 have C3':Hid _:=C3
 clear C3
 go_wp2_with fail
 refine (C3'.out 0).mono ?_
 rintro e W3 ⟨rfl,r⟩
 have Z3:Hid (Boxed W3 A (gc kd ex le (.slice x.a1 m1 x.c1) (.slice x.a2 m2 x.c2) (.slice x.a3 m3 x.c3) (.slice x.a4 m4 x.c4) mo (.slice x.a5 n5 x.c5) (.slice x.a6 m6 x.c6) nw (.slice x.a7 n7 x.c7) nx dr) 36∧GtV W3 x g∧Below w.heap.size w W3):=⟨Z2.out.1.below Z2.out.1.under r,Z2.out.2.1.below r,Z2.out.2.2.trans (r.mono Z2.out.2.2.size)⟩
 clear r c5 C3'
 clear Z2
 have c6:W3.cell? ⟨A,6,none⟩=some (.slice x.a4 m4 x.c4):=Z3.out.1.cell 6 rfl
 have C4:=fun (_:Nat)=>M4'.out L3 W3 (by omega) (by omega) Z3.out.2.1
 by_cases u4:L3-(m4:Nat)<0
 ·rw [if_pos u4] at C4
  have C4':Hid _:=C4
  clear C4
  go_wp2_with fail
  refine (C4'.out 0).mono ?_
  rintro e W4 ⟨rfl,r⟩
  have Z4:Hid (Boxed W4 A (gc kd ex le (.slice x.a1 m1 x.c1) (.slice x.a2 m2 x.c2) (.slice x.a3 m3 x.c3) (.slice x.a4 m4 x.c4) mo (.slice x.a5 n5 x.c5) (.slice x.a6 m6 x.c6) nw (.slice x.a7 n7 x.c7) nx dr) 36∧GtV W4 x g∧Below w.heap.size w W4):=⟨Z3.out.1.below Z3.out.1.under r,Z3.out.2.1.below r,Z3.out.2.2.trans (r.mono Z3.out.2.2.size)⟩
  clear r c6 C4'
  have eR:R = -1:=by rw [HR.out,if_pos (by have:=HL1.out;have:=HL2.out;have:=HL3.out;omega)]
  subst eR
  go_wp2
  go_ret
  exact ⟨rfl,Z4.out.2.2⟩
 rw [if_neg u4] at C4
 obtain ⟨L4,hL4⟩:∃ l,l=L3-(m4:Nat):=⟨_,rfl⟩
 rw [← hL4] at C4 u4
 have v4:decide (L4<0)=false:=decide_eq_false u4
 have k4:L4≤1048576:=by omega
 have HL4:Hid (L4=L3-(m4:Nat)):=hL4
 clear hL4
 have C4':Hid _:=C4
 clear C4
 go_wp2_with fail
 refine (C4'.out 0).mono ?_
 rintro e W4 ⟨rfl,r⟩
 have Z4:Hid (Boxed W4 A (gc kd ex le (.slice x.a1 m1 x.c1) (.slice x.a2 m2 x.c2) (.slice x.a3 m3 x.c3) (.slice x.a4 m4 x.c4) mo (.slice x.a5 n5 x.c5) (.slice x.a6 m6 x.c6) nw (.slice x.a7 n7 x.c7) nx dr) 36∧GtV W4 x g∧Below w.heap.size w W4):=⟨Z3.out.1.below Z3.out.1.under r,Z3.out.2.1.below r,Z3.out.2.2.trans (r.mono Z3.out.2.2.size)⟩
 clear r c6 C4'
 clear Z3
 have c7:W4.cell? ⟨A,7,none⟩=some (.int .i64 mo):=Z4.out.1.cell 7 rfl
 have c8:W4.cell? ⟨A,8,none⟩=some (.slice x.a5 n5 x.c5):=Z4.out.1.cell 8 rfl
 have C5:=fun (_:Nat)=>M5'.out L4 W4 (by omega) (by omega) Z4.out.2.1
 by_cases u5:L4-(m5:Nat)<0
 ·rw [if_pos u5] at C5
  have C5':Hid _:=C5
  clear C5
  go_wp2_with fail
  refine (C5'.out 0).mono ?_
  rintro e W5 ⟨rfl,r⟩
  have Z5:Hid (Boxed W5 A (gc kd ex le (.slice x.a1 m1 x.c1) (.slice x.a2 m2 x.c2) (.slice x.a3 m3 x.c3) (.slice x.a4 m4 x.c4) mo (.slice x.a5 n5 x.c5) (.slice x.a6 m6 x.c6) nw (.slice x.a7 n7 x.c7) nx dr) 36∧GtV W5 x g∧Below w.heap.size w W5):=⟨Z4.out.1.below Z4.out.1.under r,Z4.out.2.1.below r,Z4.out.2.2.trans (r.mono Z4.out.2.2.size)⟩
  clear r c7 c8 C5'
  have eR:R = -1:=by rw [HR.out,if_pos (by have:=HL1.out;have:=HL2.out;have:=HL3.out;have:=HL4.out;omega)]
  subst eR
  go_wp2
  go_ret
  exact ⟨rfl,Z5.out.2.2⟩
 rw [if_neg u5] at C5
 obtain ⟨L5,hL5⟩:∃ l,l=L4-(m5:Nat):=⟨_,rfl⟩
 rw [← hL5] at C5 u5
 have v5:decide (L5<0)=false:=decide_eq_false u5
 have k5:L5≤1048576:=by omega
 have HL5:Hid (L5=L4-(m5:Nat)):=hL5
 clear hL5
 have C5':Hid _:=C5
 clear C5
 go_wp2_with fail
 refine (C5'.out 0).mono ?_
 rintro e W5 ⟨rfl,r⟩
 have Z5:Hid (Boxed W5 A (gc kd ex le (.slice x.a1 m1 x.c1) (.slice x.a2 m2 x.c2) (.slice x.a3 m3 x.c3) (.slice x.a4 m4 x.c4) mo (.slice x.a5 n5 x.c5) (.slice x.a6 m6 x.c6) nw (.slice x.a7 n7 x.c7) nx dr) 36∧GtV W5 x g∧Below w.heap.size w W5):=⟨Z4.out.1.below Z4.out.1.under r,Z4.out.2.1.below r,Z4.out.2.2.trans (r.mono Z4.out.2.2.size)⟩
 clear r c7 c8 C5'
 clear Z4
 have c9:W5.cell? ⟨A,9,none⟩=some (.slice x.a6 m6 x.c6):=Z5.out.1.cell 9 rfl
 have C6:=fun (_:Nat)=>M6'.out L5 W5 (by omega) (by omega) Z5.out.2.1
 by_cases u6:L5-(m6:Nat)<0
 ·rw [if_pos u6] at C6
  have C6':Hid _:=C6
  clear C6
  go_wp2_with fail
  refine (C6'.out 0).mono ?_
  rintro e W6 ⟨rfl,r⟩
  have Z6:Hid (Boxed W6 A (gc kd ex le (.slice x.a1 m1 x.c1) (.slice x.a2 m2 x.c2) (.slice x.a3 m3 x.c3) (.slice x.a4 m4 x.c4) mo (.slice x.a5 n5 x.c5) (.slice x.a6 m6 x.c6) nw (.slice x.a7 n7 x.c7) nx dr) 36∧GtV W6 x g∧Below w.heap.size w W6):=⟨Z5.out.1.below Z5.out.1.under r,Z5.out.2.1.below r,Z5.out.2.2.trans (r.mono Z5.out.2.2.size)⟩
  clear r c9 C6'
  have eR:R = -1:=by rw [HR.out,if_pos (by have:=HL1.out;have:=HL2.out;have:=HL3.out;have:=HL4.out;have:=HL5.out;omega)]
  subst eR
  go_wp2
  go_ret
  exact ⟨rfl,Z6.out.2.2⟩
 rw [if_neg u6] at C6
 obtain ⟨L6,hL6⟩:∃ l,l=L5-(m6:Nat):=⟨_,rfl⟩
 rw [← hL6] at C6 u6
 have v6:decide (L6<0)=false:=decide_eq_false u6
 have k6:L6≤1048576:=by omega
 have HL6:Hid (L6=L5-(m6:Nat)):=hL6
 clear hL6
 have C6':Hid _:=C6
 clear C6
 go_wp2_with fail
 refine (C6'.out 0).mono ?_
 rintro e W6 ⟨rfl,r⟩
 have Z6:Hid (Boxed W6 A (gc kd ex le (.slice x.a1 m1 x.c1) (.slice x.a2 m2 x.c2) (.slice x.a3 m3 x.c3) (.slice x.a4 m4 x.c4) mo (.slice x.a5 n5 x.c5) (.slice x.a6 m6 x.c6) nw (.slice x.a7 n7 x.c7) nx dr) 36∧GtV W6 x g∧Below w.heap.size w W6):=⟨Z5.out.1.below Z5.out.1.under r,Z5.out.2.1.below r,Z5.out.2.2.trans (r.mono Z5.out.2.2.size)⟩
 clear r c9 C6'
 clear Z5
 have c10:W6.cell? ⟨A,10,none⟩=some (.int .i64 nw):=Z6.out.1.cell 10 rfl
 have c11:W6.cell? ⟨A,11,none⟩=some (.slice x.a7 n7 x.c7):=Z6.out.1.cell 11 rfl
 have C7:=fun (_:Nat)=>M7'.out L6 W6 (by omega) (by omega) Z6.out.2.1
 by_cases u7:L6-(m7:Nat)<0
 ·rw [if_pos u7] at C7
  have C7':Hid _:=C7
  clear C7
  go_wp2_with fail
  refine (C7'.out 0).mono ?_
  rintro e W7 ⟨rfl,r⟩
  have Z7:Hid (Boxed W7 A (gc kd ex le (.slice x.a1 m1 x.c1) (.slice x.a2 m2 x.c2) (.slice x.a3 m3 x.c3) (.slice x.a4 m4 x.c4) mo (.slice x.a5 n5 x.c5) (.slice x.a6 m6 x.c6) nw (.slice x.a7 n7 x.c7) nx dr) 36∧GtV W7 x g∧Below w.heap.size w W7):=⟨Z6.out.1.below Z6.out.1.under r,Z6.out.2.1.below r,Z6.out.2.2.trans (r.mono Z6.out.2.2.size)⟩
  clear r c10 c11 C7'
  have eR:R = -1:=by rw [HR.out,if_pos (by have:=HL1.out;have:=HL2.out;have:=HL3.out;have:=HL4.out;have:=HL5.out;have:=HL6.out;omega)]
  subst eR
  go_wp2
  go_ret
  exact ⟨rfl,Z7.out.2.2⟩
 rw [if_neg u7] at C7
 obtain ⟨L7,hL7⟩:∃ l,l=L6-(m7:Nat):=⟨_,rfl⟩
 rw [← hL7] at C7 u7
 have v7:decide (L7<0)=false:=decide_eq_false u7
 have k7:L7≤1048576:=by omega
 have HL7:Hid (L7=L6-(m7:Nat)):=hL7
 clear hL7
 have C7':Hid _:=C7
 clear C7
 go_wp2_with fail
 refine (C7'.out 0).mono ?_
 rintro e W7 ⟨rfl,r⟩
 have Z7:Hid (Boxed W7 A (gc kd ex le (.slice x.a1 m1 x.c1) (.slice x.a2 m2 x.c2) (.slice x.a3 m3 x.c3) (.slice x.a4 m4 x.c4) mo (.slice x.a5 n5 x.c5) (.slice x.a6 m6 x.c6) nw (.slice x.a7 n7 x.c7) nx dr) 36∧GtV W7 x g∧Below w.heap.size w W7):=⟨Z6.out.1.below Z6.out.1.under r,Z6.out.2.1.below r,Z6.out.2.2.trans (r.mono Z6.out.2.2.size)⟩
 clear r c10 c11 C7'
 clear Z6
 have eL:L-((m1+m2+m3+m4+m5+m6+m7:Nat):Int)=L7:=by have:=HL1.out;have:=HL2.out;have:=HL3.out;have:=HL4.out;have:=HL5.out;have:=HL6.out;have:=HL7.out;omega
 have eR:R=L7:=by rw [HR.out,eL,if_neg (by omega)]
 clear eL HR
 subst eR
 go_wp2
 go_ret
 exact ⟨rfl,Z7.out.2.2⟩
theorem toGts (g:Gt) (x:Ga) (w:World) (hB:g.big≤1048576) (hG:Hid (GtV w x g)) :
 Calls Tryz.prog 8 #[g.val x] w fun e w'=>(∃ v,e = .returned v∧GtIn w.heap.size w'.heap.size w' v g)∧Below w.heap.size w w':=by
 obtain ⟨z1,z2,z3,z4,z5,z6,z7⟩:=Gt.small hB
 obtain ⟨n1,hn1⟩:∃ n,g.routes.length=n:=⟨_,rfl⟩
 obtain ⟨n2,hn2⟩:∃ n,g.rules.length=n:=⟨_,rfl⟩
 obtain ⟨n3,hn3⟩:∃ n,g.tree.length=n:=⟨_,rfl⟩
 obtain ⟨n4,hn4⟩:∃ n,g.leaves.length=n:=⟨_,rfl⟩
 obtain ⟨n5,hn5⟩:∃ n,g.rows.lists.length=n:=⟨_,rfl⟩
 obtain ⟨n6,hn6⟩:∃ n,g.steers.length=n:=⟨_,rfl⟩
 obtain ⟨n7,hn7⟩:∃ n,g.fair.flows.length=n:=⟨_,rfl⟩
 obtain ⟨kd,hkd⟩:∃ n,g.ln.kind=n:=⟨_,rfl⟩
 obtain ⟨ex,hex⟩:∃ n,g.ln.extra=n:=⟨_,rfl⟩
 obtain ⟨le,hle⟩:∃ n,g.ln.least=n:=⟨_,rfl⟩
 obtain ⟨mo,hmo⟩:∃ n,g.rows.most=n:=⟨_,rfl⟩
 obtain ⟨nw,hnw⟩:∃ n,g.fair.now=n:=⟨_,rfl⟩
 obtain ⟨nx,hnx⟩:∃ n,g.next=n:=⟨_,rfl⟩
 obtain ⟨dr,hdr⟩:∃ n,g.draw=n:=⟨_,rfl⟩
 have M1:Hid (∀ (W:World),GtV W x g→Calls Tryz.prog 34 #[.slice x.a1 n1 x.c1] W fun e w'=>(∃ y d,e = .returned (.slice y n1 d)∧RtsW W.heap.size w'.heap.size w' (.slice y n1 d) g.routes)∧Below W.heap.size W w'):=fun W h=>by
  have e1:∀ (a:Option Addr) (c:Nat),(Value.slice a g.routes.length c) = .slice a n1 c:=fun a c=>by rw [hn1]
  rw [← e1]
  refine (toRtW x.a1 x.c1 g.routes W z1 (RtsV.spot' h.routes)).mono fun e w' hh=>?_
  obtain ⟨⟨v,rfl,r⟩,q⟩:=hh
  obtain ⟨y,d,e⟩:=r.cells
  subst e
  rw [e1] at r ⊢
  exact ⟨⟨y,d,rfl,r⟩,q⟩
 have M2:Hid (∀ (W:World),GtV W x g→Calls Tryz.prog 35 #[.slice x.a2 n2 x.c2] W fun e w'=>(∃ y d,e = .returned (.slice y n2 d)∧RusW W.heap.size w'.heap.size w' (.slice y n2 d) g.rules)∧Below W.heap.size W w'):=fun W h=>by
  have e1:∀ (a:Option Addr) (c:Nat),(Value.slice a g.rules.length c) = .slice a n2 c:=fun a c=>by rw [hn2]
  rw [← e1]
  refine (toRuW x.a2 x.c2 g.rules W z2 (RusV.spot' h.rules)).mono fun e w' hh=>?_
  obtain ⟨⟨v,rfl,r⟩,q⟩:=hh
  obtain ⟨y,d,e⟩:=r.cells
  subst e
  rw [e1] at r ⊢
  exact ⟨⟨y,d,rfl,r⟩,q⟩
 have M3:Hid (∀ (W:World),GtV W x g→Calls Tryz.prog 36 #[.slice x.a3 n3 x.c3] W fun e w'=>(∃ y d,e = .returned (.slice y n3 d)∧NdsW W.heap.size w'.heap.size w' (.slice y n3 d) g.tree)∧Below W.heap.size W w'):=fun W h=>by
  have e1:∀ (a:Option Addr) (c:Nat),(Value.slice a g.tree.length c) = .slice a n3 c:=fun a c=>by rw [hn3]
  rw [← e1]
  refine (toNdW x.a3 x.c3 g.tree W z3 (NdsV.spot' h.tree)).mono fun e w' hh=>?_
  obtain ⟨⟨v,rfl,r⟩,q⟩:=hh
  obtain ⟨y,d,e⟩:=r.cells
  subst e
  rw [e1] at r ⊢
  exact ⟨⟨y,d,rfl,r⟩,q⟩
 have M4:Hid (∀ (W:World),GtV W x g→Calls Tryz.prog 37 #[.slice x.a4 n4 x.c4] W fun e w'=>(∃ y d,e = .returned (.slice y n4 d)∧IntsW W.heap.size w'.heap.size w' (.slice y n4 d) g.leaves)∧Below W.heap.size W w'):=fun W h=>by
  have e1:∀ (a:Option Addr) (c:Nat),(Value.slice a g.leaves.length c) = .slice a n4 c:=fun a c=>by rw [hn4]
  rw [← e1]
  refine (toIntW x.a4 x.c4 g.leaves W z4 (IntsV.spot' h.leaves)).mono fun e w' hh=>?_
  obtain ⟨⟨v,rfl,r⟩,q⟩:=hh
  obtain ⟨y,d,e⟩:=r.cells
  subst e
  rw [e1] at r ⊢
  exact ⟨⟨y,d,rfl,r⟩,q⟩
 have M5:Hid (∀ (W:World),GtV W x g→Calls Tryz.prog 38 #[.agg #[.int .i64 mo,.slice x.a5 n5 x.c5]] W fun e w'=>(∃ y d,e = .returned (.agg #[.int .i64 mo,.slice y n5 d])∧RwIn W.heap.size w'.heap.size w' (.agg #[.int .i64 mo,.slice y n5 d]) g.rows)∧Below W.heap.size W w'):=fun W h=>by
  have e1:∀ a c,g.rows.val a c = .agg #[.int .i64 mo,.slice a n5 c]:=fun a c=>by { unfold Rw.val;rw [hn5,hmo] }
  rw [← e1]
  refine (toRws g.rows x.a5 x.c5 W z5 h.rows.spot).mono fun e w' hh=>?_
  obtain ⟨⟨v,rfl,r⟩,q⟩:=hh
  obtain ⟨y,d,e,-⟩:=id r
  subst e
  rw [e1] at r ⊢
  exact ⟨⟨y,d,rfl,r⟩,q⟩
 have M6:Hid (∀ (W:World),GtV W x g→Calls Tryz.prog 39 #[.slice x.a6 n6 x.c6] W fun e w'=>(∃ y d,e = .returned (.slice y n6 d)∧SrsW W.heap.size w'.heap.size w' (.slice y n6 d) g.steers)∧Below W.heap.size W w'):=fun W h=>by
  have e1:∀ (a:Option Addr) (c:Nat),(Value.slice a g.steers.length c) = .slice a n6 c:=fun a c=>by rw [hn6]
  rw [← e1]
  refine (toSrW x.a6 x.c6 g.steers W z6 (SrsV.spot' h.steers)).mono fun e w' hh=>?_
  obtain ⟨⟨v,rfl,r⟩,q⟩:=hh
  obtain ⟨y,d,e⟩:=r.cells
  subst e
  rw [e1] at r ⊢
  exact ⟨⟨y,d,rfl,r⟩,q⟩
 have M7:Hid (∀ (W:World),GtV W x g→Calls Tryz.prog 40 #[.agg #[.int .i64 nw,.slice x.a7 n7 x.c7]] W fun e w'=>(∃ y d,e = .returned (.agg #[.int .i64 nw,.slice y n7 d])∧FsIn W.heap.size w'.heap.size w' (.agg #[.int .i64 nw,.slice y n7 d]) g.fair)∧Below W.heap.size W w'):=fun W h=>by
  have e1:∀ a c,g.fair.val a c = .agg #[.int .i64 nw,.slice a n7 c]:=fun a c=>by { unfold Fs.val;rw [hn7,hnw] }
  rw [← e1]
  refine (toFss g.fair x.a7 x.c7 W z7 h.fair.spot).mono fun e w' hh=>?_
  obtain ⟨⟨v,rfl,r⟩,q⟩:=hh
  obtain ⟨y,d,e,-⟩:=id r
  subst e
  rw [e1] at r ⊢
  exact ⟨⟨y,d,rfl,r⟩,q⟩
 have LN:=fun w=>toLnB g.ln w
 unfold Ln.val at LN
 rw [hkd,hex,hle] at LN
 have LN':Hid _:=LN
 have HV:Hid (∀ x:Ga,g.val x = .agg (gc kd ex le (.slice x.a1 n1 x.c1) (.slice x.a2 n2 x.c2) (.slice x.a3 n3 x.c3) (.slice x.a4 n4 x.c4) mo (.slice x.a5 n5 x.c5) (.slice x.a6 n6 x.c6) nw (.slice x.a7 n7 x.c7) nx dr)):=fun x=>by
  show Gt.val g x=_
  rw [← hn1,← hn2,← hn3,← hn4,← hn5,← hn6,← hn7,← hkd,← hex,← hle,← hmo,← hnw,← hnx,← hdr]
  rfl
 have V1:Hid (∀ (b t:Nat) (w:World) (y:Option Addr) (d:Nat),RtsW b t w (.slice y n1 d) g.routes→RtsW b t w (.slice y g.routes.length d) g.routes):=fun b t w y d h=>by
  have e1:(Value.slice y g.routes.length d) = .slice y n1 d:=by rw [hn1]
  rw [e1]
  exact h
 have V2:Hid (∀ (b t:Nat) (w:World) (y:Option Addr) (d:Nat),RusW b t w (.slice y n2 d) g.rules→RusW b t w (.slice y g.rules.length d) g.rules):=fun b t w y d h=>by
  have e1:(Value.slice y g.rules.length d) = .slice y n2 d:=by rw [hn2]
  rw [e1]
  exact h
 have V3:Hid (∀ (b t:Nat) (w:World) (y:Option Addr) (d:Nat),NdsW b t w (.slice y n3 d) g.tree→NdsW b t w (.slice y g.tree.length d) g.tree):=fun b t w y d h=>by
  have e1:(Value.slice y g.tree.length d) = .slice y n3 d:=by rw [hn3]
  rw [e1]
  exact h
 have V4:Hid (∀ (b t:Nat) (w:World) (y:Option Addr) (d:Nat),IntsW b t w (.slice y n4 d) g.leaves→IntsW b t w (.slice y g.leaves.length d) g.leaves):=fun b t w y d h=>by
  have e1:(Value.slice y g.leaves.length d) = .slice y n4 d:=by rw [hn4]
  rw [e1]
  exact h
 have V5:Hid (∀ (b t:Nat) (w:World) (y:Option Addr) (d:Nat),RwIn b t w (.agg #[.int .i64 mo,.slice y n5 d]) g.rows→RwIn b t w (g.rows.val y d) g.rows):=fun b t w y d h=>by
  have e1:g.rows.val y d = .agg #[.int .i64 mo,.slice y n5 d]:=by { unfold Rw.val;rw [hn5,hmo] }
  rw [e1]
  exact h
 have V6:Hid (∀ (b t:Nat) (w:World) (y:Option Addr) (d:Nat),SrsW b t w (.slice y n6 d) g.steers→SrsW b t w (.slice y g.steers.length d) g.steers):=fun b t w y d h=>by
  have e1:(Value.slice y g.steers.length d) = .slice y n6 d:=by rw [hn6]
  rw [e1]
  exact h
 have V7:Hid (∀ (b t:Nat) (w:World) (y:Option Addr) (d:Nat),FsIn b t w (.agg #[.int .i64 nw,.slice y n7 d]) g.fair→FsIn b t w (g.fair.val y d) g.fair):=fun b t w y d h=>by
  have e1:g.fair.val y d = .agg #[.int .i64 nw,.slice y n7 d]:=by { unfold Fs.val;rw [hn7,hnw] }
  rw [e1]
  exact h
 rw [HV.out]
 clear LN hB z1 z2 z3 z4 z5 z6 z7 hn1 hn2 hn3 hn4 hn5 hn6 hn7 hkd hex hle hmo hnw hnx hdr
 obtain ⟨P,hP⟩:∃ A,A=w.heap.size:=⟨_,rfl⟩
 obtain ⟨R,hR⟩:∃ A,A=w.heap.size+1:=⟨_,rfl⟩
 obtain ⟨O,hO⟩:∃ A,A=w.heap.size+1+1:=⟨_,rfl⟩
 obtain ⟨W0,hW⟩:∃ W,W=((w.alloc (.cells (gc kd ex le (.slice x.a1 n1 x.c1) (.slice x.a2 n2 x.c2) (.slice x.a3 n3 x.c3) (.slice x.a4 n4 x.c4) mo (.slice x.a5 n5 x.c5) (.slice x.a6 n6 x.c6) nw (.slice x.a7 n7 x.c7) nx dr) 36)).alloc (.cells gz 50)).alloc (.cells gz 50):=⟨_,rfl⟩
 have Z0:Hid (Lies w [Thing.box O gz 50,Thing.box P (gc kd ex le (.slice x.a1 n1 x.c1) (.slice x.a2 n2 x.c2) (.slice x.a3 n3 x.c3) (.slice x.a4 n4 x.c4) mo (.slice x.a5 n5 x.c5) (.slice x.a6 n6 x.c6) nw (.slice x.a7 n7 x.c7) nx dr) 36,Thing.box R gz 50] W0):=by
  rw [hW,hO,hP,hR]
  refine ⟨⟨?_,?_,?_,trivial⟩,(((Below.refl _ _).alloc nlr _).alloc (by simp) _).alloc (by simp;omega) _⟩
  ·have:=Boxed.new ((w.alloc (.cells (gc kd ex le (.slice x.a1 n1 x.c1) (.slice x.a2 n2 x.c2) (.slice x.a3 n3 x.c3) (.slice x.a4 n4 x.c4) mo (.slice x.a5 n5 x.c5) (.slice x.a6 n6 x.c6) nw (.slice x.a7 n7 x.c7) nx dr) 36)).alloc (.cells gz 50)) gz 50
   simpa using this
  ·exact ((Boxed.new w _ _).more _).more _
  ·have:=(Boxed.new (w.alloc (.cells (gc kd ex le (.slice x.a1 n1 x.c1) (.slice x.a2 n2 x.c2) (.slice x.a3 n3 x.c3) (.slice x.a4 n4 x.c4) mo (.slice x.a5 n5 x.c5) (.slice x.a6 n6 x.c6) nw (.slice x.a7 n7 x.c7) nx dr) 36)) gz 50).more (.cells gz 50)
   simpa using this
 have Or0:Hid (P=w.heap.size∧R=P+1∧O=P+2∧O+1≤W0.heap.size):=⟨hP,by omega,by omega,by rw [hW,hO];simp⟩
 have HW:Hid (W0=_):=hW
 have HP:Hid (P=_):=hP
 have HR:Hid (R=_):=hR
 have HO:Hid (O=_):=hO
 clear hW hP hR hO
 have K:Hid (∀ W,Below w.heap.size w W→GtV W x g):=fun W q=>hG.out.below q
 clear hG
 go_enter Tryz.func8,Tryz.ntmps8
 go_upto_region 2 with fail
 rw [← HW.out,← HO.out,← HR.out,← HP.out]
 clear HW HP HR HO
 have c0:W0.cell? ⟨P,0,none⟩=some (.int .i64 kd):=Boxed.cell (show Boxed _ _ _ _ from Z0.out.1.2.1) 0 rfl
 have c1:W0.cell? ⟨P,1,none⟩=some (.int .i64 ex):=Boxed.cell (show Boxed _ _ _ _ from Z0.out.1.2.1) 1 rfl
 have c2:W0.cell? ⟨P,2,none⟩=some (.int .i64 le):=Boxed.cell (show Boxed _ _ _ _ from Z0.out.1.2.1) 2 rfl
 go_wp2_with fail
 refine (LN'.out _).mono ?_
 rintro e U0 ⟨rfl,q⟩
 have T0:Hid (Lies w [Thing.box O gz 50,Thing.box P (gc kd ex le (.slice x.a1 n1 x.c1) (.slice x.a2 n2 x.c2) (.slice x.a3 n3 x.c3) (.slice x.a4 n4 x.c4) mo (.slice x.a5 n5 x.c5) (.slice x.a6 n6 x.c6) nw (.slice x.a7 n7 x.c7) nx dr) 36,Thing.box R gz 50] U0):=Z0.out.below q
 have Or1:Hid (P=w.heap.size∧R=P+1∧O=P+2∧O+1≤U0.heap.size):=⟨Or0.out.1,Or0.out.2.1,Or0.out.2.2.1,Nat.le_trans Or0.out.2.2.2 q.size⟩
 clear q c0 c1 c2 Z0 Or0
 have e0:U0.cell? ⟨O,0,none⟩=some (.int .i64 0):=Boxed.cell (show Boxed _ _ _ _ from T0.out.1.1) 0 rfl
 have f0:U0.frozen? ⟨O,0,none⟩=false:=Boxed.ice (show Boxed _ _ _ _ from T0.out.1.1) 0
 have e1:U0.cell? ⟨O,1,none⟩=some (.int .i64 0):=Boxed.cell (show Boxed _ _ _ _ from T0.out.1.1) 1 rfl
 have f1:U0.frozen? ⟨O,1,none⟩=false:=Boxed.ice (show Boxed _ _ _ _ from T0.out.1.1) 1
 have e2:U0.cell? ⟨O,2,none⟩=some (.int .i64 0):=Boxed.cell (show Boxed _ _ _ _ from T0.out.1.1) 2 rfl
 have f2:U0.frozen? ⟨O,2,none⟩=false:=Boxed.ice (show Boxed _ _ _ _ from T0.out.1.1) 2
 have hOl:O<U0.heap.size:=Boxed.under (show Boxed _ _ _ _ from T0.out.1.1)
 have off:OffT O (O+1) [Thing.box P (gc kd ex le (.slice x.a1 n1 x.c1) (.slice x.a2 n2 x.c2) (.slice x.a3 n3 x.c3) (.slice x.a4 n4 x.c4) mo (.slice x.a5 n5 x.c5) (.slice x.a6 n6 x.c6) nw (.slice x.a7 n7 x.c7) nx dr) 36,Thing.box R gz 50]:=⟨(by show _∨_;have:=Or1.out;left;show P+1≤O;omega),(by show _∨_;have:=Or1.out;left;show R+1≤O;omega),trivial⟩
 have S1_0:Lies w [Thing.box O (gc kd 0 0 (.slice none 0 0) (.slice none 0 0) (.slice none 0 0) (.slice none 0 0) 0 (.slice none 0 0) (.slice none 0 0) 0 (.slice none 0 0) 0 0) 50,Thing.box P (gc kd ex le (.slice x.a1 n1 x.c1) (.slice x.a2 n2 x.c2) (.slice x.a3 n3 x.c3) (.slice x.a4 n4 x.c4) mo (.slice x.a5 n5 x.c5) (.slice x.a6 n6 x.c6) nw (.slice x.a7 n7 x.c7) nx dr) 36,Thing.box R gz 50] (U0.setCell ⟨O,0,none⟩ (.int .i64 kd)):=lies_cell T0.out 0 (.int .i64 kd) rfl off (by have:=Or1.out;omega)
 have S1_1:Lies w [Thing.box O (gc kd ex 0 (.slice none 0 0) (.slice none 0 0) (.slice none 0 0) (.slice none 0 0) 0 (.slice none 0 0) (.slice none 0 0) 0 (.slice none 0 0) 0 0) 50,Thing.box P (gc kd ex le (.slice x.a1 n1 x.c1) (.slice x.a2 n2 x.c2) (.slice x.a3 n3 x.c3) (.slice x.a4 n4 x.c4) mo (.slice x.a5 n5 x.c5) (.slice x.a6 n6 x.c6) nw (.slice x.a7 n7 x.c7) nx dr) 36,Thing.box R gz 50] ((U0.setCell ⟨O,0,none⟩ (.int .i64 kd)).setCell ⟨O,1,none⟩ (.int .i64 ex)):=lies_cell S1_0 1 (.int .i64 ex) rfl off (by have:=Or1.out;omega)
 have S1_2:Lies w [Thing.box O (gc kd ex le (.slice none 0 0) (.slice none 0 0) (.slice none 0 0) (.slice none 0 0) 0 (.slice none 0 0) (.slice none 0 0) 0 (.slice none 0 0) 0 0) 50,Thing.box P (gc kd ex le (.slice x.a1 n1 x.c1) (.slice x.a2 n2 x.c2) (.slice x.a3 n3 x.c3) (.slice x.a4 n4 x.c4) mo (.slice x.a5 n5 x.c5) (.slice x.a6 n6 x.c6) nw (.slice x.a7 n7 x.c7) nx dr) 36,Thing.box R gz 50] (((U0.setCell ⟨O,0,none⟩ (.int .i64 kd)).setCell ⟨O,1,none⟩ (.int .i64 ex)).setCell ⟨O,2,none⟩ (.int .i64 le)):=lies_cell S1_1 2 (.int .i64 le) rfl off (by have:=Or1.out;omega)
 have Y1:Hid (Lies w [Thing.box O (gc kd ex le (.slice none 0 0) (.slice none 0 0) (.slice none 0 0) (.slice none 0 0) 0 (.slice none 0 0) (.slice none 0 0) 0 (.slice none 0 0) 0 0) 50,Thing.box P (gc kd ex le (.slice x.a1 n1 x.c1) (.slice x.a2 n2 x.c2) (.slice x.a3 n3 x.c3) (.slice x.a4 n4 x.c4) mo (.slice x.a5 n5 x.c5) (.slice x.a6 n6 x.c6) nw (.slice x.a7 n7 x.c7) nx dr) 36,Thing.box R gz 50] (((U0.setCell ⟨O,0,none⟩ (.int .i64 kd)).setCell ⟨O,1,none⟩ (.int .i64 ex)).setCell ⟨O,2,none⟩ (.int .i64 le))):=S1_2
 clear off S1_0 S1_1 S1_2
 have sz:(((U0.setCell ⟨O,0,none⟩ (.int .i64 kd)).setCell ⟨O,1,none⟩ (.int .i64 ex)).setCell ⟨O,2,none⟩ (.int .i64 le)).heap.size=U0.heap.size:=by simp [World.setCell]
 have Sz:Hid (_=_):=sz
 clear sz
 go_upto_region 3 with fail
 generalize (((U0.setCell ⟨O,0,none⟩ (.int .i64 kd)).setCell ⟨O,1,none⟩ (.int .i64 ex)).setCell ⟨O,2,none⟩ (.int .i64 le))=X1 at Y1 Sz ⊢
 clear hOl e0 f0 e1 f1 e2 f2 T0
 have OrL:Hid (P=w.heap.size∧R=P+1∧O=P+2∧O+1≤X1.heap.size):=⟨Or1.out.1,Or1.out.2.1,Or1.out.2.2.1,by rw [Sz.out];exact Or1.out.2.2.2⟩
 clear Sz Or1
 have c3:X1.cell? ⟨P,3,none⟩=some (.slice x.a1 n1 x.c1):=Boxed.cell (show Boxed _ _ _ _ from Y1.out.1.2.1) 3 rfl
 go_wp2_with fail
 refine (M1.out _ (K.out _ Y1.out.2)).mono ?_
 rintro e U1 ⟨⟨y1,d1,rfl,r⟩,q⟩
 obtain ⟨b1,hb1⟩:∃ b,b=X1.heap.size:=⟨_,rfl⟩
 obtain ⟨t1,ht1⟩:∃ b,b=U1.heap.size:=⟨_,rfl⟩
 have T1:Hid (Lies w [Thing.box O (gc kd ex le (.slice none 0 0) (.slice none 0 0) (.slice none 0 0) (.slice none 0 0) 0 (.slice none 0 0) (.slice none 0 0) 0 (.slice none 0 0) 0 0) 50,Thing.box P (gc kd ex le (.slice x.a1 n1 x.c1) (.slice x.a2 n2 x.c2) (.slice x.a3 n3 x.c3) (.slice x.a4 n4 x.c4) mo (.slice x.a5 n5 x.c5) (.slice x.a6 n6 x.c6) nw (.slice x.a7 n7 x.c7) nx dr) 36,Thing.box R gz 50,RtsW.th b1 t1 (.slice y1 n1 d1) g.routes] U1):=by rw [hb1,ht1];exact Y1.out.more q ⟨⟨r,nlr⟩,trivial⟩
 have Oa1:Hid (P=w.heap.size∧R=P+1∧O=P+2∧O+1≤b1∧b1≤t1∧t1≤U1.heap.size):=by
  have h:=OrL.out
  have h2:=q.size
  refine ⟨by omega,by omega,by omega,by omega,by omega,by omega⟩
 clear q r hb1 ht1 c3 Y1 OrL M1
 have e3:U1.cell? ⟨O,3,none⟩=some (.slice none 0 0):=Boxed.cell (show Boxed _ _ _ _ from T1.out.1.1) 3 rfl
 have f3:U1.frozen? ⟨O,3,none⟩=false:=Boxed.ice (show Boxed _ _ _ _ from T1.out.1.1) 3
 have hOl:O<U1.heap.size:=Boxed.under (show Boxed _ _ _ _ from T1.out.1.1)
 have off:OffT O (O+1) [Thing.box P (gc kd ex le (.slice x.a1 n1 x.c1) (.slice x.a2 n2 x.c2) (.slice x.a3 n3 x.c3) (.slice x.a4 n4 x.c4) mo (.slice x.a5 n5 x.c5) (.slice x.a6 n6 x.c6) nw (.slice x.a7 n7 x.c7) nx dr) 36,Thing.box R gz 50,RtsW.th b1 t1 (.slice y1 n1 d1) g.routes]:=⟨(by show _∨_;have:=Oa1.out;left;show P+1≤O;omega),(by show _∨_;have:=Oa1.out;left;show R+1≤O;omega),(by show _∨_;have:=Oa1.out;right;show O+1≤b1;omega),trivial⟩
 have S2_0:Lies w [Thing.box O (gc kd ex le (.slice y1 n1 d1) (.slice none 0 0) (.slice none 0 0) (.slice none 0 0) 0 (.slice none 0 0) (.slice none 0 0) 0 (.slice none 0 0) 0 0) 50,Thing.box P (gc kd ex le (.slice x.a1 n1 x.c1) (.slice x.a2 n2 x.c2) (.slice x.a3 n3 x.c3) (.slice x.a4 n4 x.c4) mo (.slice x.a5 n5 x.c5) (.slice x.a6 n6 x.c6) nw (.slice x.a7 n7 x.c7) nx dr) 36,Thing.box R gz 50,RtsW.th b1 t1 (.slice y1 n1 d1) g.routes] (U1.setCell ⟨O,3,none⟩ (.slice y1 n1 d1)):=lies_cell T1.out 3 (.slice y1 n1 d1) rfl off (by have:=Oa1.out;omega)
 have Y2:Hid (Lies w [Thing.box O (gc kd ex le (.slice y1 n1 d1) (.slice none 0 0) (.slice none 0 0) (.slice none 0 0) 0 (.slice none 0 0) (.slice none 0 0) 0 (.slice none 0 0) 0 0) 50,Thing.box P (gc kd ex le (.slice x.a1 n1 x.c1) (.slice x.a2 n2 x.c2) (.slice x.a3 n3 x.c3) (.slice x.a4 n4 x.c4) mo (.slice x.a5 n5 x.c5) (.slice x.a6 n6 x.c6) nw (.slice x.a7 n7 x.c7) nx dr) 36,Thing.box R gz 50,RtsW.th b1 t1 (.slice y1 n1 d1) g.routes] (U1.setCell ⟨O,3,none⟩ (.slice y1 n1 d1))):=S2_0
 clear off S2_0
 have sz:(U1.setCell ⟨O,3,none⟩ (.slice y1 n1 d1)).heap.size=U1.heap.size:=by simp [World.setCell]
 have Sz:Hid (_=_):=sz
 clear sz
 go_upto_region 4 with fail
 generalize (U1.setCell ⟨O,3,none⟩ (.slice y1 n1 d1))=X2 at Y2 Sz ⊢
 clear hOl e3 f3 T1
 have Ob1:Hid (P=w.heap.size∧R=P+1∧O=P+2∧O+1≤b1∧b1≤t1∧t1≤X2.heap.size):=by rw [Sz.out];exact Oa1.out
 clear Sz Oa1
 have c4:X2.cell? ⟨P,4,none⟩=some (.slice x.a2 n2 x.c2):=Boxed.cell (show Boxed _ _ _ _ from Y2.out.1.2.1) 4 rfl
 go_wp2_with fail
 refine (M2.out _ (K.out _ Y2.out.2)).mono ?_
 rintro e U2 ⟨⟨y2,d2,rfl,r⟩,q⟩
 obtain ⟨b2,hb2⟩:∃ b,b=X2.heap.size:=⟨_,rfl⟩
 obtain ⟨t2,ht2⟩:∃ b,b=U2.heap.size:=⟨_,rfl⟩
 have T2:Hid (Lies w [Thing.box O (gc kd ex le (.slice y1 n1 d1) (.slice none 0 0) (.slice none 0 0) (.slice none 0 0) 0 (.slice none 0 0) (.slice none 0 0) 0 (.slice none 0 0) 0 0) 50,Thing.box P (gc kd ex le (.slice x.a1 n1 x.c1) (.slice x.a2 n2 x.c2) (.slice x.a3 n3 x.c3) (.slice x.a4 n4 x.c4) mo (.slice x.a5 n5 x.c5) (.slice x.a6 n6 x.c6) nw (.slice x.a7 n7 x.c7) nx dr) 36,Thing.box R gz 50,RtsW.th b1 t1 (.slice y1 n1 d1) g.routes,RusW.th b2 t2 (.slice y2 n2 d2) g.rules] U2):=by rw [hb2,ht2];exact Y2.out.more q ⟨⟨r,nlr⟩,trivial⟩
 have Oa2:Hid (P=w.heap.size∧R=P+1∧O=P+2∧O+1≤b1∧b1≤t1∧t1≤b2∧b2≤t2∧t2≤U2.heap.size):=by
  have h:=Ob1.out
  have h2:=q.size
  refine ⟨by omega,by omega,by omega,by omega,by omega,by omega,by omega,by omega⟩
 clear q r hb2 ht2 c4 Y2 Ob1 M2
 have e4:U2.cell? ⟨O,4,none⟩=some (.slice none 0 0):=Boxed.cell (show Boxed _ _ _ _ from T2.out.1.1) 4 rfl
 have f4:U2.frozen? ⟨O,4,none⟩=false:=Boxed.ice (show Boxed _ _ _ _ from T2.out.1.1) 4
 have hOl:O<U2.heap.size:=Boxed.under (show Boxed _ _ _ _ from T2.out.1.1)
 have off:OffT O (O+1) [Thing.box P (gc kd ex le (.slice x.a1 n1 x.c1) (.slice x.a2 n2 x.c2) (.slice x.a3 n3 x.c3) (.slice x.a4 n4 x.c4) mo (.slice x.a5 n5 x.c5) (.slice x.a6 n6 x.c6) nw (.slice x.a7 n7 x.c7) nx dr) 36,Thing.box R gz 50,RtsW.th b1 t1 (.slice y1 n1 d1) g.routes,RusW.th b2 t2 (.slice y2 n2 d2) g.rules]:=⟨(by show _∨_;have:=Oa2.out;left;show P+1≤O;omega),(by show _∨_;have:=Oa2.out;left;show R+1≤O;omega),(by show _∨_;have:=Oa2.out;right;show O+1≤b1;omega),(by show _∨_;have:=Oa2.out;right;show O+1≤b2;omega),trivial⟩
 have S3_0:Lies w [Thing.box O (gc kd ex le (.slice y1 n1 d1) (.slice y2 n2 d2) (.slice none 0 0) (.slice none 0 0) 0 (.slice none 0 0) (.slice none 0 0) 0 (.slice none 0 0) 0 0) 50,Thing.box P (gc kd ex le (.slice x.a1 n1 x.c1) (.slice x.a2 n2 x.c2) (.slice x.a3 n3 x.c3) (.slice x.a4 n4 x.c4) mo (.slice x.a5 n5 x.c5) (.slice x.a6 n6 x.c6) nw (.slice x.a7 n7 x.c7) nx dr) 36,Thing.box R gz 50,RtsW.th b1 t1 (.slice y1 n1 d1) g.routes,RusW.th b2 t2 (.slice y2 n2 d2) g.rules] (U2.setCell ⟨O,4,none⟩ (.slice y2 n2 d2)):=lies_cell T2.out 4 (.slice y2 n2 d2) rfl off (by have:=Oa2.out;omega)
 have Y3:Hid (Lies w [Thing.box O (gc kd ex le (.slice y1 n1 d1) (.slice y2 n2 d2) (.slice none 0 0) (.slice none 0 0) 0 (.slice none 0 0) (.slice none 0 0) 0 (.slice none 0 0) 0 0) 50,Thing.box P (gc kd ex le (.slice x.a1 n1 x.c1) (.slice x.a2 n2 x.c2) (.slice x.a3 n3 x.c3) (.slice x.a4 n4 x.c4) mo (.slice x.a5 n5 x.c5) (.slice x.a6 n6 x.c6) nw (.slice x.a7 n7 x.c7) nx dr) 36,Thing.box R gz 50,RtsW.th b1 t1 (.slice y1 n1 d1) g.routes,RusW.th b2 t2 (.slice y2 n2 d2) g.rules] (U2.setCell ⟨O,4,none⟩ (.slice y2 n2 d2))):=S3_0
 clear off S3_0
 have sz:(U2.setCell ⟨O,4,none⟩ (.slice y2 n2 d2)).heap.size=U2.heap.size:=by simp [World.setCell]
 have Sz:Hid (_=_):=sz
 clear sz
 go_upto_region 5 with fail
 generalize (U2.setCell ⟨O,4,none⟩ (.slice y2 n2 d2))=X3 at Y3 Sz ⊢
 clear hOl e4 f4 T2
 have Ob2:Hid (P=w.heap.size∧R=P+1∧O=P+2∧O+1≤b1∧b1≤t1∧t1≤b2∧b2≤t2∧t2≤X3.heap.size):=by rw [Sz.out];exact Oa2.out
 clear Sz Oa2
 have c5:X3.cell? ⟨P,5,none⟩=some (.slice x.a3 n3 x.c3):=Boxed.cell (show Boxed _ _ _ _ from Y3.out.1.2.1) 5 rfl
 go_wp2_with fail
 refine (M3.out _ (K.out _ Y3.out.2)).mono ?_
 rintro e U3 ⟨⟨y3,d3,rfl,r⟩,q⟩
 obtain ⟨b3,hb3⟩:∃ b,b=X3.heap.size:=⟨_,rfl⟩
 obtain ⟨t3,ht3⟩:∃ b,b=U3.heap.size:=⟨_,rfl⟩
 have T3:Hid (Lies w [Thing.box O (gc kd ex le (.slice y1 n1 d1) (.slice y2 n2 d2) (.slice none 0 0) (.slice none 0 0) 0 (.slice none 0 0) (.slice none 0 0) 0 (.slice none 0 0) 0 0) 50,Thing.box P (gc kd ex le (.slice x.a1 n1 x.c1) (.slice x.a2 n2 x.c2) (.slice x.a3 n3 x.c3) (.slice x.a4 n4 x.c4) mo (.slice x.a5 n5 x.c5) (.slice x.a6 n6 x.c6) nw (.slice x.a7 n7 x.c7) nx dr) 36,Thing.box R gz 50,RtsW.th b1 t1 (.slice y1 n1 d1) g.routes,RusW.th b2 t2 (.slice y2 n2 d2) g.rules,NdsW.th b3 t3 (.slice y3 n3 d3) g.tree] U3):=by rw [hb3,ht3];exact Y3.out.more q ⟨⟨r,nlr⟩,trivial⟩
 have Oa3:Hid (P=w.heap.size∧R=P+1∧O=P+2∧O+1≤b1∧b1≤t1∧t1≤b2∧b2≤t2∧t2≤b3∧b3≤t3∧t3≤U3.heap.size):=by
  have h:=Ob2.out
  have h2:=q.size
  refine ⟨by omega,by omega,by omega,by omega,by omega,by omega,by omega,by omega,by omega,by omega⟩
 clear q r hb3 ht3 c5 Y3 Ob2 M3
 have e5:U3.cell? ⟨O,5,none⟩=some (.slice none 0 0):=Boxed.cell (show Boxed _ _ _ _ from T3.out.1.1) 5 rfl
 have f5:U3.frozen? ⟨O,5,none⟩=false:=Boxed.ice (show Boxed _ _ _ _ from T3.out.1.1) 5
 have hOl:O<U3.heap.size:=Boxed.under (show Boxed _ _ _ _ from T3.out.1.1)
 have off:OffT O (O+1) [Thing.box P (gc kd ex le (.slice x.a1 n1 x.c1) (.slice x.a2 n2 x.c2) (.slice x.a3 n3 x.c3) (.slice x.a4 n4 x.c4) mo (.slice x.a5 n5 x.c5) (.slice x.a6 n6 x.c6) nw (.slice x.a7 n7 x.c7) nx dr) 36,Thing.box R gz 50,RtsW.th b1 t1 (.slice y1 n1 d1) g.routes,RusW.th b2 t2 (.slice y2 n2 d2) g.rules,NdsW.th b3 t3 (.slice y3 n3 d3) g.tree]:=⟨(by show _∨_;have:=Oa3.out;left;show P+1≤O;omega),(by show _∨_;have:=Oa3.out;left;show R+1≤O;omega),(by show _∨_;have:=Oa3.out;right;show O+1≤b1;omega),(by show _∨_;have:=Oa3.out;right;show O+1≤b2;omega),(by show _∨_;have:=Oa3.out;right;show O+1≤b3;omega),trivial⟩
 have S4_0:Lies w [Thing.box O (gc kd ex le (.slice y1 n1 d1) (.slice y2 n2 d2) (.slice y3 n3 d3) (.slice none 0 0) 0 (.slice none 0 0) (.slice none 0 0) 0 (.slice none 0 0) 0 0) 50,Thing.box P (gc kd ex le (.slice x.a1 n1 x.c1) (.slice x.a2 n2 x.c2) (.slice x.a3 n3 x.c3) (.slice x.a4 n4 x.c4) mo (.slice x.a5 n5 x.c5) (.slice x.a6 n6 x.c6) nw (.slice x.a7 n7 x.c7) nx dr) 36,Thing.box R gz 50,RtsW.th b1 t1 (.slice y1 n1 d1) g.routes,RusW.th b2 t2 (.slice y2 n2 d2) g.rules,NdsW.th b3 t3 (.slice y3 n3 d3) g.tree] (U3.setCell ⟨O,5,none⟩ (.slice y3 n3 d3)):=lies_cell T3.out 5 (.slice y3 n3 d3) rfl off (by have:=Oa3.out;omega)
 have Y4:Hid (Lies w [Thing.box O (gc kd ex le (.slice y1 n1 d1) (.slice y2 n2 d2) (.slice y3 n3 d3) (.slice none 0 0) 0 (.slice none 0 0) (.slice none 0 0) 0 (.slice none 0 0) 0 0) 50,Thing.box P (gc kd ex le (.slice x.a1 n1 x.c1) (.slice x.a2 n2 x.c2) (.slice x.a3 n3 x.c3) (.slice x.a4 n4 x.c4) mo (.slice x.a5 n5 x.c5) (.slice x.a6 n6 x.c6) nw (.slice x.a7 n7 x.c7) nx dr) 36,Thing.box R gz 50,RtsW.th b1 t1 (.slice y1 n1 d1) g.routes,RusW.th b2 t2 (.slice y2 n2 d2) g.rules,NdsW.th b3 t3 (.slice y3 n3 d3) g.tree] (U3.setCell ⟨O,5,none⟩ (.slice y3 n3 d3))):=S4_0
 clear off S4_0
 have sz:(U3.setCell ⟨O,5,none⟩ (.slice y3 n3 d3)).heap.size=U3.heap.size:=by simp [World.setCell]
 have Sz:Hid (_=_):=sz
 clear sz
 go_upto_region 6 with fail
 generalize (U3.setCell ⟨O,5,none⟩ (.slice y3 n3 d3))=X4 at Y4 Sz ⊢
 clear hOl e5 f5 T3
 have Ob3:Hid (P=w.heap.size∧R=P+1∧O=P+2∧O+1≤b1∧b1≤t1∧t1≤b2∧b2≤t2∧t2≤b3∧b3≤t3∧t3≤X4.heap.size):=by rw [Sz.out];exact Oa3.out
 clear Sz Oa3
 have c6:X4.cell? ⟨P,6,none⟩=some (.slice x.a4 n4 x.c4):=Boxed.cell (show Boxed _ _ _ _ from Y4.out.1.2.1) 6 rfl
 go_wp2_with fail
 refine (M4.out _ (K.out _ Y4.out.2)).mono ?_
 rintro e U4 ⟨⟨y4,d4,rfl,r⟩,q⟩
 obtain ⟨b4,hb4⟩:∃ b,b=X4.heap.size:=⟨_,rfl⟩
 obtain ⟨t4,ht4⟩:∃ b,b=U4.heap.size:=⟨_,rfl⟩
 have T4:Hid (Lies w [Thing.box O (gc kd ex le (.slice y1 n1 d1) (.slice y2 n2 d2) (.slice y3 n3 d3) (.slice none 0 0) 0 (.slice none 0 0) (.slice none 0 0) 0 (.slice none 0 0) 0 0) 50,Thing.box P (gc kd ex le (.slice x.a1 n1 x.c1) (.slice x.a2 n2 x.c2) (.slice x.a3 n3 x.c3) (.slice x.a4 n4 x.c4) mo (.slice x.a5 n5 x.c5) (.slice x.a6 n6 x.c6) nw (.slice x.a7 n7 x.c7) nx dr) 36,Thing.box R gz 50,RtsW.th b1 t1 (.slice y1 n1 d1) g.routes,RusW.th b2 t2 (.slice y2 n2 d2) g.rules,NdsW.th b3 t3 (.slice y3 n3 d3) g.tree,IntsW.th b4 t4 (.slice y4 n4 d4) g.leaves] U4):=by rw [hb4,ht4];exact Y4.out.more q ⟨⟨r,nlr⟩,trivial⟩
 have Oa4:Hid (P=w.heap.size∧R=P+1∧O=P+2∧O+1≤b1∧b1≤t1∧t1≤b2∧b2≤t2∧t2≤b3∧b3≤t3∧t3≤b4∧b4≤t4∧t4≤U4.heap.size):=by
  have h:=Ob3.out
  have h2:=q.size
  refine ⟨by omega,by omega,by omega,by omega,by omega,by omega,by omega,by omega,by omega,by omega,by omega,by omega⟩
 clear q r hb4 ht4 c6 Y4 Ob3 M4
 have e6:U4.cell? ⟨O,6,none⟩=some (.slice none 0 0):=Boxed.cell (show Boxed _ _ _ _ from T4.out.1.1) 6 rfl
 have f6:U4.frozen? ⟨O,6,none⟩=false:=Boxed.ice (show Boxed _ _ _ _ from T4.out.1.1) 6
 have hOl:O<U4.heap.size:=Boxed.under (show Boxed _ _ _ _ from T4.out.1.1)
 have off:OffT O (O+1) [Thing.box P (gc kd ex le (.slice x.a1 n1 x.c1) (.slice x.a2 n2 x.c2) (.slice x.a3 n3 x.c3) (.slice x.a4 n4 x.c4) mo (.slice x.a5 n5 x.c5) (.slice x.a6 n6 x.c6) nw (.slice x.a7 n7 x.c7) nx dr) 36,Thing.box R gz 50,RtsW.th b1 t1 (.slice y1 n1 d1) g.routes,RusW.th b2 t2 (.slice y2 n2 d2) g.rules,NdsW.th b3 t3 (.slice y3 n3 d3) g.tree,IntsW.th b4 t4 (.slice y4 n4 d4) g.leaves]:=⟨(by show _∨_;have:=Oa4.out;left;show P+1≤O;omega),(by show _∨_;have:=Oa4.out;left;show R+1≤O;omega),(by show _∨_;have:=Oa4.out;right;show O+1≤b1;omega),(by show _∨_;have:=Oa4.out;right;show O+1≤b2;omega),(by show _∨_;have:=Oa4.out;right;show O+1≤b3;omega),(by show _∨_;have:=Oa4.out;right;show O+1≤b4;omega),trivial⟩
 have S5_0:Lies w [Thing.box O (gc kd ex le (.slice y1 n1 d1) (.slice y2 n2 d2) (.slice y3 n3 d3) (.slice y4 n4 d4) 0 (.slice none 0 0) (.slice none 0 0) 0 (.slice none 0 0) 0 0) 50,Thing.box P (gc kd ex le (.slice x.a1 n1 x.c1) (.slice x.a2 n2 x.c2) (.slice x.a3 n3 x.c3) (.slice x.a4 n4 x.c4) mo (.slice x.a5 n5 x.c5) (.slice x.a6 n6 x.c6) nw (.slice x.a7 n7 x.c7) nx dr) 36,Thing.box R gz 50,RtsW.th b1 t1 (.slice y1 n1 d1) g.routes,RusW.th b2 t2 (.slice y2 n2 d2) g.rules,NdsW.th b3 t3 (.slice y3 n3 d3) g.tree,IntsW.th b4 t4 (.slice y4 n4 d4) g.leaves] (U4.setCell ⟨O,6,none⟩ (.slice y4 n4 d4)):=lies_cell T4.out 6 (.slice y4 n4 d4) rfl off (by have:=Oa4.out;omega)
 have Y5:Hid (Lies w [Thing.box O (gc kd ex le (.slice y1 n1 d1) (.slice y2 n2 d2) (.slice y3 n3 d3) (.slice y4 n4 d4) 0 (.slice none 0 0) (.slice none 0 0) 0 (.slice none 0 0) 0 0) 50,Thing.box P (gc kd ex le (.slice x.a1 n1 x.c1) (.slice x.a2 n2 x.c2) (.slice x.a3 n3 x.c3) (.slice x.a4 n4 x.c4) mo (.slice x.a5 n5 x.c5) (.slice x.a6 n6 x.c6) nw (.slice x.a7 n7 x.c7) nx dr) 36,Thing.box R gz 50,RtsW.th b1 t1 (.slice y1 n1 d1) g.routes,RusW.th b2 t2 (.slice y2 n2 d2) g.rules,NdsW.th b3 t3 (.slice y3 n3 d3) g.tree,IntsW.th b4 t4 (.slice y4 n4 d4) g.leaves] (U4.setCell ⟨O,6,none⟩ (.slice y4 n4 d4))):=S5_0
 clear off S5_0
 have sz:(U4.setCell ⟨O,6,none⟩ (.slice y4 n4 d4)).heap.size=U4.heap.size:=by simp [World.setCell]
 have Sz:Hid (_=_):=sz
 clear sz
 go_upto_region 7 with fail
 generalize (U4.setCell ⟨O,6,none⟩ (.slice y4 n4 d4))=X5 at Y5 Sz ⊢
 clear hOl e6 f6 T4
 have Ob4:Hid (P=w.heap.size∧R=P+1∧O=P+2∧O+1≤b1∧b1≤t1∧t1≤b2∧b2≤t2∧t2≤b3∧b3≤t3∧t3≤b4∧b4≤t4∧t4≤X5.heap.size):=by rw [Sz.out];exact Oa4.out
 clear Sz Oa4
 have c7:X5.cell? ⟨P,7,none⟩=some (.int .i64 mo):=Boxed.cell (show Boxed _ _ _ _ from Y5.out.1.2.1) 7 rfl
 have c8:X5.cell? ⟨P,8,none⟩=some (.slice x.a5 n5 x.c5):=Boxed.cell (show Boxed _ _ _ _ from Y5.out.1.2.1) 8 rfl
 go_wp2_with fail
 refine (M5.out _ (K.out _ Y5.out.2)).mono ?_
 rintro e U5 ⟨⟨y5,d5,rfl,r⟩,q⟩
 obtain ⟨b5,hb5⟩:∃ b,b=X5.heap.size:=⟨_,rfl⟩
 obtain ⟨t5,ht5⟩:∃ b,b=U5.heap.size:=⟨_,rfl⟩
 have T5:Hid (Lies w [Thing.box O (gc kd ex le (.slice y1 n1 d1) (.slice y2 n2 d2) (.slice y3 n3 d3) (.slice y4 n4 d4) 0 (.slice none 0 0) (.slice none 0 0) 0 (.slice none 0 0) 0 0) 50,Thing.box P (gc kd ex le (.slice x.a1 n1 x.c1) (.slice x.a2 n2 x.c2) (.slice x.a3 n3 x.c3) (.slice x.a4 n4 x.c4) mo (.slice x.a5 n5 x.c5) (.slice x.a6 n6 x.c6) nw (.slice x.a7 n7 x.c7) nx dr) 36,Thing.box R gz 50,RtsW.th b1 t1 (.slice y1 n1 d1) g.routes,RusW.th b2 t2 (.slice y2 n2 d2) g.rules,NdsW.th b3 t3 (.slice y3 n3 d3) g.tree,IntsW.th b4 t4 (.slice y4 n4 d4) g.leaves,RwIn.th b5 t5 (.agg #[.int .i64 mo,.slice y5 n5 d5]) g.rows] U5):=by rw [hb5,ht5];exact Y5.out.more q ⟨⟨r,nlr⟩,trivial⟩
 have Oa5:Hid (P=w.heap.size∧R=P+1∧O=P+2∧O+1≤b1∧b1≤t1∧t1≤b2∧b2≤t2∧t2≤b3∧b3≤t3∧t3≤b4∧b4≤t4∧t4≤b5∧b5≤t5∧t5≤U5.heap.size):=by
  have h:=Ob4.out
  have h2:=q.size
  refine ⟨by omega,by omega,by omega,by omega,by omega,by omega,by omega,by omega,by omega,by omega,by omega,by omega,by omega,by omega⟩
 clear q r hb5 ht5 c7 c8 Y5 Ob4 M5
 have e7:U5.cell? ⟨O,7,none⟩=some (.int .i64 0):=Boxed.cell (show Boxed _ _ _ _ from T5.out.1.1) 7 rfl
 have f7:U5.frozen? ⟨O,7,none⟩=false:=Boxed.ice (show Boxed _ _ _ _ from T5.out.1.1) 7
 have e8:U5.cell? ⟨O,8,none⟩=some (.slice none 0 0):=Boxed.cell (show Boxed _ _ _ _ from T5.out.1.1) 8 rfl
 have f8:U5.frozen? ⟨O,8,none⟩=false:=Boxed.ice (show Boxed _ _ _ _ from T5.out.1.1) 8
 have hOl:O<U5.heap.size:=Boxed.under (show Boxed _ _ _ _ from T5.out.1.1)
 have off:OffT O (O+1) [Thing.box P (gc kd ex le (.slice x.a1 n1 x.c1) (.slice x.a2 n2 x.c2) (.slice x.a3 n3 x.c3) (.slice x.a4 n4 x.c4) mo (.slice x.a5 n5 x.c5) (.slice x.a6 n6 x.c6) nw (.slice x.a7 n7 x.c7) nx dr) 36,Thing.box R gz 50,RtsW.th b1 t1 (.slice y1 n1 d1) g.routes,RusW.th b2 t2 (.slice y2 n2 d2) g.rules,NdsW.th b3 t3 (.slice y3 n3 d3) g.tree,IntsW.th b4 t4 (.slice y4 n4 d4) g.leaves,RwIn.th b5 t5 (.agg #[.int .i64 mo,.slice y5 n5 d5]) g.rows]:=⟨(by show _∨_;have:=Oa5.out;left;show P+1≤O;omega),(by show _∨_;have:=Oa5.out;left;show R+1≤O;omega),(by show _∨_;have:=Oa5.out;right;show O+1≤b1;omega),(by show _∨_;have:=Oa5.out;right;show O+1≤b2;omega),(by show _∨_;have:=Oa5.out;right;show O+1≤b3;omega),(by show _∨_;have:=Oa5.out;right;show O+1≤b4;omega),(by show _∨_;have:=Oa5.out;right;show O+1≤b5;omega),trivial⟩
 have S6_0:Lies w [Thing.box O (gc kd ex le (.slice y1 n1 d1) (.slice y2 n2 d2) (.slice y3 n3 d3) (.slice y4 n4 d4) mo (.slice none 0 0) (.slice none 0 0) 0 (.slice none 0 0) 0 0) 50,Thing.box P (gc kd ex le (.slice x.a1 n1 x.c1) (.slice x.a2 n2 x.c2) (.slice x.a3 n3 x.c3) (.slice x.a4 n4 x.c4) mo (.slice x.a5 n5 x.c5) (.slice x.a6 n6 x.c6) nw (.slice x.a7 n7 x.c7) nx dr) 36,Thing.box R gz 50,RtsW.th b1 t1 (.slice y1 n1 d1) g.routes,RusW.th b2 t2 (.slice y2 n2 d2) g.rules,NdsW.th b3 t3 (.slice y3 n3 d3) g.tree,IntsW.th b4 t4 (.slice y4 n4 d4) g.leaves,RwIn.th b5 t5 (.agg #[.int .i64 mo,.slice y5 n5 d5]) g.rows] (U5.setCell ⟨O,7,none⟩ (.int .i64 mo)):=lies_cell T5.out 7 (.int .i64 mo) rfl off (by have:=Oa5.out;omega)
 have S6_1:Lies w [Thing.box O (gc kd ex le (.slice y1 n1 d1) (.slice y2 n2 d2) (.slice y3 n3 d3) (.slice y4 n4 d4) mo (.slice y5 n5 d5) (.slice none 0 0) 0 (.slice none 0 0) 0 0) 50,Thing.box P (gc kd ex le (.slice x.a1 n1 x.c1) (.slice x.a2 n2 x.c2) (.slice x.a3 n3 x.c3) (.slice x.a4 n4 x.c4) mo (.slice x.a5 n5 x.c5) (.slice x.a6 n6 x.c6) nw (.slice x.a7 n7 x.c7) nx dr) 36,Thing.box R gz 50,RtsW.th b1 t1 (.slice y1 n1 d1) g.routes,RusW.th b2 t2 (.slice y2 n2 d2) g.rules,NdsW.th b3 t3 (.slice y3 n3 d3) g.tree,IntsW.th b4 t4 (.slice y4 n4 d4) g.leaves,RwIn.th b5 t5 (.agg #[.int .i64 mo,.slice y5 n5 d5]) g.rows] ((U5.setCell ⟨O,7,none⟩ (.int .i64 mo)).setCell ⟨O,8,none⟩ (.slice y5 n5 d5)):=lies_cell S6_0 8 (.slice y5 n5 d5) rfl off (by have:=Oa5.out;omega)
 have Y6:Hid (Lies w [Thing.box O (gc kd ex le (.slice y1 n1 d1) (.slice y2 n2 d2) (.slice y3 n3 d3) (.slice y4 n4 d4) mo (.slice y5 n5 d5) (.slice none 0 0) 0 (.slice none 0 0) 0 0) 50,Thing.box P (gc kd ex le (.slice x.a1 n1 x.c1) (.slice x.a2 n2 x.c2) (.slice x.a3 n3 x.c3) (.slice x.a4 n4 x.c4) mo (.slice x.a5 n5 x.c5) (.slice x.a6 n6 x.c6) nw (.slice x.a7 n7 x.c7) nx dr) 36,Thing.box R gz 50,RtsW.th b1 t1 (.slice y1 n1 d1) g.routes,RusW.th b2 t2 (.slice y2 n2 d2) g.rules,NdsW.th b3 t3 (.slice y3 n3 d3) g.tree,IntsW.th b4 t4 (.slice y4 n4 d4) g.leaves,RwIn.th b5 t5 (.agg #[.int .i64 mo,.slice y5 n5 d5]) g.rows] ((U5.setCell ⟨O,7,none⟩ (.int .i64 mo)).setCell ⟨O,8,none⟩ (.slice y5 n5 d5))):=S6_1
 clear off S6_0 S6_1
 have sz:((U5.setCell ⟨O,7,none⟩ (.int .i64 mo)).setCell ⟨O,8,none⟩ (.slice y5 n5 d5)).heap.size=U5.heap.size:=by simp [World.setCell]
 have Sz:Hid (_=_):=sz
 clear sz
 go_upto_region 8 with fail
 generalize ((U5.setCell ⟨O,7,none⟩ (.int .i64 mo)).setCell ⟨O,8,none⟩ (.slice y5 n5 d5))=X6 at Y6 Sz ⊢
 clear hOl e7 f7 e8 f8 T5
 have Ob5:Hid (P=w.heap.size∧R=P+1∧O=P+2∧O+1≤b1∧b1≤t1∧t1≤b2∧b2≤t2∧t2≤b3∧b3≤t3∧t3≤b4∧b4≤t4∧t4≤b5∧b5≤t5∧t5≤X6.heap.size):=by rw [Sz.out];exact Oa5.out
 clear Sz Oa5
 have c9:X6.cell? ⟨P,9,none⟩=some (.slice x.a6 n6 x.c6):=Boxed.cell (show Boxed _ _ _ _ from Y6.out.1.2.1) 9 rfl
 go_wp2_with fail
 refine (M6.out _ (K.out _ Y6.out.2)).mono ?_
 rintro e U6 ⟨⟨y6,d6,rfl,r⟩,q⟩
 obtain ⟨b6,hb6⟩:∃ b,b=X6.heap.size:=⟨_,rfl⟩
 obtain ⟨t6,ht6⟩:∃ b,b=U6.heap.size:=⟨_,rfl⟩
 have T6:Hid (Lies w [Thing.box O (gc kd ex le (.slice y1 n1 d1) (.slice y2 n2 d2) (.slice y3 n3 d3) (.slice y4 n4 d4) mo (.slice y5 n5 d5) (.slice none 0 0) 0 (.slice none 0 0) 0 0) 50,Thing.box P (gc kd ex le (.slice x.a1 n1 x.c1) (.slice x.a2 n2 x.c2) (.slice x.a3 n3 x.c3) (.slice x.a4 n4 x.c4) mo (.slice x.a5 n5 x.c5) (.slice x.a6 n6 x.c6) nw (.slice x.a7 n7 x.c7) nx dr) 36,Thing.box R gz 50,RtsW.th b1 t1 (.slice y1 n1 d1) g.routes,RusW.th b2 t2 (.slice y2 n2 d2) g.rules,NdsW.th b3 t3 (.slice y3 n3 d3) g.tree,IntsW.th b4 t4 (.slice y4 n4 d4) g.leaves,RwIn.th b5 t5 (.agg #[.int .i64 mo,.slice y5 n5 d5]) g.rows,SrsW.th b6 t6 (.slice y6 n6 d6) g.steers] U6):=by rw [hb6,ht6];exact Y6.out.more q ⟨⟨r,nlr⟩,trivial⟩
 have Oa6:Hid (P=w.heap.size∧R=P+1∧O=P+2∧O+1≤b1∧b1≤t1∧t1≤b2∧b2≤t2∧t2≤b3∧b3≤t3∧t3≤b4∧b4≤t4∧t4≤b5∧b5≤t5∧t5≤b6∧b6≤t6∧t6≤U6.heap.size):=by
  have h:=Ob5.out
  have h2:=q.size
  refine ⟨by omega,by omega,by omega,by omega,by omega,by omega,by omega,by omega,by omega,by omega,by omega,by omega,by omega,by omega,by omega,by omega⟩
 clear q r hb6 ht6 c9 Y6 Ob5 M6
 have e9:U6.cell? ⟨O,9,none⟩=some (.slice none 0 0):=Boxed.cell (show Boxed _ _ _ _ from T6.out.1.1) 9 rfl
 have f9:U6.frozen? ⟨O,9,none⟩=false:=Boxed.ice (show Boxed _ _ _ _ from T6.out.1.1) 9
 have hOl:O<U6.heap.size:=Boxed.under (show Boxed _ _ _ _ from T6.out.1.1)
 have off:OffT O (O+1) [Thing.box P (gc kd ex le (.slice x.a1 n1 x.c1) (.slice x.a2 n2 x.c2) (.slice x.a3 n3 x.c3) (.slice x.a4 n4 x.c4) mo (.slice x.a5 n5 x.c5) (.slice x.a6 n6 x.c6) nw (.slice x.a7 n7 x.c7) nx dr) 36,Thing.box R gz 50,RtsW.th b1 t1 (.slice y1 n1 d1) g.routes,RusW.th b2 t2 (.slice y2 n2 d2) g.rules,NdsW.th b3 t3 (.slice y3 n3 d3) g.tree,IntsW.th b4 t4 (.slice y4 n4 d4) g.leaves,RwIn.th b5 t5 (.agg #[.int .i64 mo,.slice y5 n5 d5]) g.rows,SrsW.th b6 t6 (.slice y6 n6 d6) g.steers]:=⟨(by show _∨_;have:=Oa6.out;left;show P+1≤O;omega),(by show _∨_;have:=Oa6.out;left;show R+1≤O;omega),(by show _∨_;have:=Oa6.out;right;show O+1≤b1;omega),(by show _∨_;have:=Oa6.out;right;show O+1≤b2;omega),(by show _∨_;have:=Oa6.out;right;show O+1≤b3;omega),(by show _∨_;have:=Oa6.out;right;show O+1≤b4;omega),(by show _∨_;have:=Oa6.out;right;show O+1≤b5;omega),(by show _∨_;have:=Oa6.out;right;show O+1≤b6;omega),trivial⟩
 have S7_0:Lies w [Thing.box O (gc kd ex le (.slice y1 n1 d1) (.slice y2 n2 d2) (.slice y3 n3 d3) (.slice y4 n4 d4) mo (.slice y5 n5 d5) (.slice y6 n6 d6) 0 (.slice none 0 0) 0 0) 50,Thing.box P (gc kd ex le (.slice x.a1 n1 x.c1) (.slice x.a2 n2 x.c2) (.slice x.a3 n3 x.c3) (.slice x.a4 n4 x.c4) mo (.slice x.a5 n5 x.c5) (.slice x.a6 n6 x.c6) nw (.slice x.a7 n7 x.c7) nx dr) 36,Thing.box R gz 50,RtsW.th b1 t1 (.slice y1 n1 d1) g.routes,RusW.th b2 t2 (.slice y2 n2 d2) g.rules,NdsW.th b3 t3 (.slice y3 n3 d3) g.tree,IntsW.th b4 t4 (.slice y4 n4 d4) g.leaves,RwIn.th b5 t5 (.agg #[.int .i64 mo,.slice y5 n5 d5]) g.rows,SrsW.th b6 t6 (.slice y6 n6 d6) g.steers] (U6.setCell ⟨O,9,none⟩ (.slice y6 n6 d6)):=lies_cell T6.out 9 (.slice y6 n6 d6) rfl off (by have:=Oa6.out;omega)
 have Y7:Hid (Lies w [Thing.box O (gc kd ex le (.slice y1 n1 d1) (.slice y2 n2 d2) (.slice y3 n3 d3) (.slice y4 n4 d4) mo (.slice y5 n5 d5) (.slice y6 n6 d6) 0 (.slice none 0 0) 0 0) 50,Thing.box P (gc kd ex le (.slice x.a1 n1 x.c1) (.slice x.a2 n2 x.c2) (.slice x.a3 n3 x.c3) (.slice x.a4 n4 x.c4) mo (.slice x.a5 n5 x.c5) (.slice x.a6 n6 x.c6) nw (.slice x.a7 n7 x.c7) nx dr) 36,Thing.box R gz 50,RtsW.th b1 t1 (.slice y1 n1 d1) g.routes,RusW.th b2 t2 (.slice y2 n2 d2) g.rules,NdsW.th b3 t3 (.slice y3 n3 d3) g.tree,IntsW.th b4 t4 (.slice y4 n4 d4) g.leaves,RwIn.th b5 t5 (.agg #[.int .i64 mo,.slice y5 n5 d5]) g.rows,SrsW.th b6 t6 (.slice y6 n6 d6) g.steers] (U6.setCell ⟨O,9,none⟩ (.slice y6 n6 d6))):=S7_0
 clear off S7_0
 have sz:(U6.setCell ⟨O,9,none⟩ (.slice y6 n6 d6)).heap.size=U6.heap.size:=by simp [World.setCell]
 have Sz:Hid (_=_):=sz
 clear sz
 go_upto_region 9 with fail
 generalize (U6.setCell ⟨O,9,none⟩ (.slice y6 n6 d6))=X7 at Y7 Sz ⊢
 clear hOl e9 f9 T6
 have Ob6:Hid (P=w.heap.size∧R=P+1∧O=P+2∧O+1≤b1∧b1≤t1∧t1≤b2∧b2≤t2∧t2≤b3∧b3≤t3∧t3≤b4∧b4≤t4∧t4≤b5∧b5≤t5∧t5≤b6∧b6≤t6∧t6≤X7.heap.size):=by rw [Sz.out];exact Oa6.out
 clear Sz Oa6
 have c10:X7.cell? ⟨P,10,none⟩=some (.int .i64 nw):=Boxed.cell (show Boxed _ _ _ _ from Y7.out.1.2.1) 10 rfl
 have c11:X7.cell? ⟨P,11,none⟩=some (.slice x.a7 n7 x.c7):=Boxed.cell (show Boxed _ _ _ _ from Y7.out.1.2.1) 11 rfl
 go_wp2_with fail
 refine (M7.out _ (K.out _ Y7.out.2)).mono ?_
 rintro e U7 ⟨⟨y7,d7,rfl,r⟩,q⟩
 obtain ⟨b7,hb7⟩:∃ b,b=X7.heap.size:=⟨_,rfl⟩
 obtain ⟨t7,ht7⟩:∃ b,b=U7.heap.size:=⟨_,rfl⟩
 have T7:Hid (Lies w [Thing.box O (gc kd ex le (.slice y1 n1 d1) (.slice y2 n2 d2) (.slice y3 n3 d3) (.slice y4 n4 d4) mo (.slice y5 n5 d5) (.slice y6 n6 d6) 0 (.slice none 0 0) 0 0) 50,Thing.box P (gc kd ex le (.slice x.a1 n1 x.c1) (.slice x.a2 n2 x.c2) (.slice x.a3 n3 x.c3) (.slice x.a4 n4 x.c4) mo (.slice x.a5 n5 x.c5) (.slice x.a6 n6 x.c6) nw (.slice x.a7 n7 x.c7) nx dr) 36,Thing.box R gz 50,RtsW.th b1 t1 (.slice y1 n1 d1) g.routes,RusW.th b2 t2 (.slice y2 n2 d2) g.rules,NdsW.th b3 t3 (.slice y3 n3 d3) g.tree,IntsW.th b4 t4 (.slice y4 n4 d4) g.leaves,RwIn.th b5 t5 (.agg #[.int .i64 mo,.slice y5 n5 d5]) g.rows,SrsW.th b6 t6 (.slice y6 n6 d6) g.steers,FsIn.th b7 t7 (.agg #[.int .i64 nw,.slice y7 n7 d7]) g.fair] U7):=by rw [hb7,ht7];exact Y7.out.more q ⟨⟨r,nlr⟩,trivial⟩
 have Oa7:Hid (P=w.heap.size∧R=P+1∧O=P+2∧O+1≤b1∧b1≤t1∧t1≤b2∧b2≤t2∧t2≤b3∧b3≤t3∧t3≤b4∧b4≤t4∧t4≤b5∧b5≤t5∧t5≤b6∧b6≤t6∧t6≤b7∧b7≤t7∧t7≤U7.heap.size):=by
  have h:=Ob6.out
  have h2:=q.size
  refine ⟨by omega,by omega,by omega,by omega,by omega,by omega,by omega,by omega,by omega,by omega,by omega,by omega,by omega,by omega,by omega,by omega,by omega,by omega⟩
 clear q r hb7 ht7 c10 c11 Y7 Ob6 M7
 have e10:U7.cell? ⟨O,10,none⟩=some (.int .i64 0):=Boxed.cell (show Boxed _ _ _ _ from T7.out.1.1) 10 rfl
 have f10:U7.frozen? ⟨O,10,none⟩=false:=Boxed.ice (show Boxed _ _ _ _ from T7.out.1.1) 10
 have e11:U7.cell? ⟨O,11,none⟩=some (.slice none 0 0):=Boxed.cell (show Boxed _ _ _ _ from T7.out.1.1) 11 rfl
 have f11:U7.frozen? ⟨O,11,none⟩=false:=Boxed.ice (show Boxed _ _ _ _ from T7.out.1.1) 11
 have hOl:O<U7.heap.size:=Boxed.under (show Boxed _ _ _ _ from T7.out.1.1)
 have off:OffT O (O+1) [Thing.box P (gc kd ex le (.slice x.a1 n1 x.c1) (.slice x.a2 n2 x.c2) (.slice x.a3 n3 x.c3) (.slice x.a4 n4 x.c4) mo (.slice x.a5 n5 x.c5) (.slice x.a6 n6 x.c6) nw (.slice x.a7 n7 x.c7) nx dr) 36,Thing.box R gz 50,RtsW.th b1 t1 (.slice y1 n1 d1) g.routes,RusW.th b2 t2 (.slice y2 n2 d2) g.rules,NdsW.th b3 t3 (.slice y3 n3 d3) g.tree,IntsW.th b4 t4 (.slice y4 n4 d4) g.leaves,RwIn.th b5 t5 (.agg #[.int .i64 mo,.slice y5 n5 d5]) g.rows,SrsW.th b6 t6 (.slice y6 n6 d6) g.steers,FsIn.th b7 t7 (.agg #[.int .i64 nw,.slice y7 n7 d7]) g.fair]:=⟨(by show _∨_;have:=Oa7.out;left;show P+1≤O;omega),(by show _∨_;have:=Oa7.out;left;show R+1≤O;omega),(by show _∨_;have:=Oa7.out;right;show O+1≤b1;omega),(by show _∨_;have:=Oa7.out;right;show O+1≤b2;omega),(by show _∨_;have:=Oa7.out;right;show O+1≤b3;omega),(by show _∨_;have:=Oa7.out;right;show O+1≤b4;omega),(by show _∨_;have:=Oa7.out;right;show O+1≤b5;omega),(by show _∨_;have:=Oa7.out;right;show O+1≤b6;omega),(by show _∨_;have:=Oa7.out;right;show O+1≤b7;omega),trivial⟩
 have S8_0:Lies w [Thing.box O (gc kd ex le (.slice y1 n1 d1) (.slice y2 n2 d2) (.slice y3 n3 d3) (.slice y4 n4 d4) mo (.slice y5 n5 d5) (.slice y6 n6 d6) nw (.slice none 0 0) 0 0) 50,Thing.box P (gc kd ex le (.slice x.a1 n1 x.c1) (.slice x.a2 n2 x.c2) (.slice x.a3 n3 x.c3) (.slice x.a4 n4 x.c4) mo (.slice x.a5 n5 x.c5) (.slice x.a6 n6 x.c6) nw (.slice x.a7 n7 x.c7) nx dr) 36,Thing.box R gz 50,RtsW.th b1 t1 (.slice y1 n1 d1) g.routes,RusW.th b2 t2 (.slice y2 n2 d2) g.rules,NdsW.th b3 t3 (.slice y3 n3 d3) g.tree,IntsW.th b4 t4 (.slice y4 n4 d4) g.leaves,RwIn.th b5 t5 (.agg #[.int .i64 mo,.slice y5 n5 d5]) g.rows,SrsW.th b6 t6 (.slice y6 n6 d6) g.steers,FsIn.th b7 t7 (.agg #[.int .i64 nw,.slice y7 n7 d7]) g.fair] (U7.setCell ⟨O,10,none⟩ (.int .i64 nw)):=lies_cell T7.out 10 (.int .i64 nw) rfl off (by have:=Oa7.out;omega)
 have S8_1:Lies w [Thing.box O (gc kd ex le (.slice y1 n1 d1) (.slice y2 n2 d2) (.slice y3 n3 d3) (.slice y4 n4 d4) mo (.slice y5 n5 d5) (.slice y6 n6 d6) nw (.slice y7 n7 d7) 0 0) 50,Thing.box P (gc kd ex le (.slice x.a1 n1 x.c1) (.slice x.a2 n2 x.c2) (.slice x.a3 n3 x.c3) (.slice x.a4 n4 x.c4) mo (.slice x.a5 n5 x.c5) (.slice x.a6 n6 x.c6) nw (.slice x.a7 n7 x.c7) nx dr) 36,Thing.box R gz 50,RtsW.th b1 t1 (.slice y1 n1 d1) g.routes,RusW.th b2 t2 (.slice y2 n2 d2) g.rules,NdsW.th b3 t3 (.slice y3 n3 d3) g.tree,IntsW.th b4 t4 (.slice y4 n4 d4) g.leaves,RwIn.th b5 t5 (.agg #[.int .i64 mo,.slice y5 n5 d5]) g.rows,SrsW.th b6 t6 (.slice y6 n6 d6) g.steers,FsIn.th b7 t7 (.agg #[.int .i64 nw,.slice y7 n7 d7]) g.fair] ((U7.setCell ⟨O,10,none⟩ (.int .i64 nw)).setCell ⟨O,11,none⟩ (.slice y7 n7 d7)):=lies_cell S8_0 11 (.slice y7 n7 d7) rfl off (by have:=Oa7.out;omega)
 have Y8:Hid (Lies w [Thing.box O (gc kd ex le (.slice y1 n1 d1) (.slice y2 n2 d2) (.slice y3 n3 d3) (.slice y4 n4 d4) mo (.slice y5 n5 d5) (.slice y6 n6 d6) nw (.slice y7 n7 d7) 0 0) 50,Thing.box P (gc kd ex le (.slice x.a1 n1 x.c1) (.slice x.a2 n2 x.c2) (.slice x.a3 n3 x.c3) (.slice x.a4 n4 x.c4) mo (.slice x.a5 n5 x.c5) (.slice x.a6 n6 x.c6) nw (.slice x.a7 n7 x.c7) nx dr) 36,Thing.box R gz 50,RtsW.th b1 t1 (.slice y1 n1 d1) g.routes,RusW.th b2 t2 (.slice y2 n2 d2) g.rules,NdsW.th b3 t3 (.slice y3 n3 d3) g.tree,IntsW.th b4 t4 (.slice y4 n4 d4) g.leaves,RwIn.th b5 t5 (.agg #[.int .i64 mo,.slice y5 n5 d5]) g.rows,SrsW.th b6 t6 (.slice y6 n6 d6) g.steers,FsIn.th b7 t7 (.agg #[.int .i64 nw,.slice y7 n7 d7]) g.fair] ((U7.setCell ⟨O,10,none⟩ (.int .i64 nw)).setCell ⟨O,11,none⟩ (.slice y7 n7 d7))):=S8_1
 clear off S8_0 S8_1
 have sz:((U7.setCell ⟨O,10,none⟩ (.int .i64 nw)).setCell ⟨O,11,none⟩ (.slice y7 n7 d7)).heap.size=U7.heap.size:=by simp [World.setCell]
 have Sz:Hid (_=_):=sz
 clear sz
 go_upto_region 10 with fail
 generalize ((U7.setCell ⟨O,10,none⟩ (.int .i64 nw)).setCell ⟨O,11,none⟩ (.slice y7 n7 d7))=X8 at Y8 Sz ⊢
 clear hOl e10 f10 e11 f11 T7
 have Ob7:Hid (P=w.heap.size∧R=P+1∧O=P+2∧O+1≤b1∧b1≤t1∧t1≤b2∧b2≤t2∧t2≤b3∧b3≤t3∧t3≤b4∧b4≤t4∧t4≤b5∧b5≤t5∧t5≤b6∧b6≤t6∧t6≤b7∧b7≤t7∧t7≤X8.heap.size):=by rw [Sz.out];exact Oa7.out
 clear Sz Oa7
 have c12:X8.cell? ⟨P,12,none⟩=some (.int .i64 nx):=Boxed.cell (show Boxed _ _ _ _ from Y8.out.1.2.1) 12 rfl
 have e12:X8.cell? ⟨O,12,none⟩=some (.int .i64 0):=Boxed.cell (show Boxed _ _ _ _ from Y8.out.1.1) 12 rfl
 have f12:X8.frozen? ⟨O,12,none⟩=false:=Boxed.ice (show Boxed _ _ _ _ from Y8.out.1.1) 12
 have hOl:O<X8.heap.size:=Boxed.under (show Boxed _ _ _ _ from Y8.out.1.1)
 have off:OffT O (O+1) [Thing.box P (gc kd ex le (.slice x.a1 n1 x.c1) (.slice x.a2 n2 x.c2) (.slice x.a3 n3 x.c3) (.slice x.a4 n4 x.c4) mo (.slice x.a5 n5 x.c5) (.slice x.a6 n6 x.c6) nw (.slice x.a7 n7 x.c7) nx dr) 36,Thing.box R gz 50,RtsW.th b1 t1 (.slice y1 n1 d1) g.routes,RusW.th b2 t2 (.slice y2 n2 d2) g.rules,NdsW.th b3 t3 (.slice y3 n3 d3) g.tree,IntsW.th b4 t4 (.slice y4 n4 d4) g.leaves,RwIn.th b5 t5 (.agg #[.int .i64 mo,.slice y5 n5 d5]) g.rows,SrsW.th b6 t6 (.slice y6 n6 d6) g.steers,FsIn.th b7 t7 (.agg #[.int .i64 nw,.slice y7 n7 d7]) g.fair]:=⟨(by show _∨_;have:=Ob7.out;left;show P+1≤O;omega),(by show _∨_;have:=Ob7.out;left;show R+1≤O;omega),(by show _∨_;have:=Ob7.out;right;show O+1≤b1;omega),(by show _∨_;have:=Ob7.out;right;show O+1≤b2;omega),(by show _∨_;have:=Ob7.out;right;show O+1≤b3;omega),(by show _∨_;have:=Ob7.out;right;show O+1≤b4;omega),(by show _∨_;have:=Ob7.out;right;show O+1≤b5;omega),(by show _∨_;have:=Ob7.out;right;show O+1≤b6;omega),(by show _∨_;have:=Ob7.out;right;show O+1≤b7;omega),trivial⟩
 have S9_0:Lies w [Thing.box O (gc kd ex le (.slice y1 n1 d1) (.slice y2 n2 d2) (.slice y3 n3 d3) (.slice y4 n4 d4) mo (.slice y5 n5 d5) (.slice y6 n6 d6) nw (.slice y7 n7 d7) nx 0) 50,Thing.box P (gc kd ex le (.slice x.a1 n1 x.c1) (.slice x.a2 n2 x.c2) (.slice x.a3 n3 x.c3) (.slice x.a4 n4 x.c4) mo (.slice x.a5 n5 x.c5) (.slice x.a6 n6 x.c6) nw (.slice x.a7 n7 x.c7) nx dr) 36,Thing.box R gz 50,RtsW.th b1 t1 (.slice y1 n1 d1) g.routes,RusW.th b2 t2 (.slice y2 n2 d2) g.rules,NdsW.th b3 t3 (.slice y3 n3 d3) g.tree,IntsW.th b4 t4 (.slice y4 n4 d4) g.leaves,RwIn.th b5 t5 (.agg #[.int .i64 mo,.slice y5 n5 d5]) g.rows,SrsW.th b6 t6 (.slice y6 n6 d6) g.steers,FsIn.th b7 t7 (.agg #[.int .i64 nw,.slice y7 n7 d7]) g.fair] (X8.setCell ⟨O,12,none⟩ (.int .i64 nx)):=lies_cell Y8.out 12 (.int .i64 nx) rfl off (by have:=Ob7.out;omega)
 have Y9:Hid (Lies w [Thing.box O (gc kd ex le (.slice y1 n1 d1) (.slice y2 n2 d2) (.slice y3 n3 d3) (.slice y4 n4 d4) mo (.slice y5 n5 d5) (.slice y6 n6 d6) nw (.slice y7 n7 d7) nx 0) 50,Thing.box P (gc kd ex le (.slice x.a1 n1 x.c1) (.slice x.a2 n2 x.c2) (.slice x.a3 n3 x.c3) (.slice x.a4 n4 x.c4) mo (.slice x.a5 n5 x.c5) (.slice x.a6 n6 x.c6) nw (.slice x.a7 n7 x.c7) nx dr) 36,Thing.box R gz 50,RtsW.th b1 t1 (.slice y1 n1 d1) g.routes,RusW.th b2 t2 (.slice y2 n2 d2) g.rules,NdsW.th b3 t3 (.slice y3 n3 d3) g.tree,IntsW.th b4 t4 (.slice y4 n4 d4) g.leaves,RwIn.th b5 t5 (.agg #[.int .i64 mo,.slice y5 n5 d5]) g.rows,SrsW.th b6 t6 (.slice y6 n6 d6) g.steers,FsIn.th b7 t7 (.agg #[.int .i64 nw,.slice y7 n7 d7]) g.fair] (X8.setCell ⟨O,12,none⟩ (.int .i64 nx))):=S9_0
 clear off S9_0
 have sz:(X8.setCell ⟨O,12,none⟩ (.int .i64 nx)).heap.size=X8.heap.size:=by simp [World.setCell]
 have Sz:Hid (_=_):=sz
 clear sz
 go_upto_region 11 with fail
 generalize (X8.setCell ⟨O,12,none⟩ (.int .i64 nx))=X9 at Y9 Sz ⊢
 clear hOl e12 f12 Y8
 have Oc12:Hid (P=w.heap.size∧R=P+1∧O=P+2∧O+1≤b1∧b1≤t1∧t1≤b2∧b2≤t2∧t2≤b3∧b3≤t3∧t3≤b4∧b4≤t4∧t4≤b5∧b5≤t5∧t5≤b6∧b6≤t6∧t6≤b7∧b7≤t7∧t7≤X9.heap.size):=by rw [Sz.out];exact Ob7.out
 clear Sz Ob7 c12
 have c13:X9.cell? ⟨P,13,none⟩=some (.int .i64 dr):=Boxed.cell (show Boxed _ _ _ _ from Y9.out.1.2.1) 13 rfl
 have e13:X9.cell? ⟨O,13,none⟩=some (.int .i64 0):=Boxed.cell (show Boxed _ _ _ _ from Y9.out.1.1) 13 rfl
 have f13:X9.frozen? ⟨O,13,none⟩=false:=Boxed.ice (show Boxed _ _ _ _ from Y9.out.1.1) 13
 have hOl:O<X9.heap.size:=Boxed.under (show Boxed _ _ _ _ from Y9.out.1.1)
 have off:OffT O (O+1) [Thing.box P (gc kd ex le (.slice x.a1 n1 x.c1) (.slice x.a2 n2 x.c2) (.slice x.a3 n3 x.c3) (.slice x.a4 n4 x.c4) mo (.slice x.a5 n5 x.c5) (.slice x.a6 n6 x.c6) nw (.slice x.a7 n7 x.c7) nx dr) 36,Thing.box R gz 50,RtsW.th b1 t1 (.slice y1 n1 d1) g.routes,RusW.th b2 t2 (.slice y2 n2 d2) g.rules,NdsW.th b3 t3 (.slice y3 n3 d3) g.tree,IntsW.th b4 t4 (.slice y4 n4 d4) g.leaves,RwIn.th b5 t5 (.agg #[.int .i64 mo,.slice y5 n5 d5]) g.rows,SrsW.th b6 t6 (.slice y6 n6 d6) g.steers,FsIn.th b7 t7 (.agg #[.int .i64 nw,.slice y7 n7 d7]) g.fair]:=⟨(by show _∨_;have:=Oc12.out;left;show P+1≤O;omega),(by show _∨_;have:=Oc12.out;left;show R+1≤O;omega),(by show _∨_;have:=Oc12.out;right;show O+1≤b1;omega),(by show _∨_;have:=Oc12.out;right;show O+1≤b2;omega),(by show _∨_;have:=Oc12.out;right;show O+1≤b3;omega),(by show _∨_;have:=Oc12.out;right;show O+1≤b4;omega),(by show _∨_;have:=Oc12.out;right;show O+1≤b5;omega),(by show _∨_;have:=Oc12.out;right;show O+1≤b6;omega),(by show _∨_;have:=Oc12.out;right;show O+1≤b7;omega),trivial⟩
 have S10_0:Lies w [Thing.box O (gc kd ex le (.slice y1 n1 d1) (.slice y2 n2 d2) (.slice y3 n3 d3) (.slice y4 n4 d4) mo (.slice y5 n5 d5) (.slice y6 n6 d6) nw (.slice y7 n7 d7) nx dr) 50,Thing.box P (gc kd ex le (.slice x.a1 n1 x.c1) (.slice x.a2 n2 x.c2) (.slice x.a3 n3 x.c3) (.slice x.a4 n4 x.c4) mo (.slice x.a5 n5 x.c5) (.slice x.a6 n6 x.c6) nw (.slice x.a7 n7 x.c7) nx dr) 36,Thing.box R gz 50,RtsW.th b1 t1 (.slice y1 n1 d1) g.routes,RusW.th b2 t2 (.slice y2 n2 d2) g.rules,NdsW.th b3 t3 (.slice y3 n3 d3) g.tree,IntsW.th b4 t4 (.slice y4 n4 d4) g.leaves,RwIn.th b5 t5 (.agg #[.int .i64 mo,.slice y5 n5 d5]) g.rows,SrsW.th b6 t6 (.slice y6 n6 d6) g.steers,FsIn.th b7 t7 (.agg #[.int .i64 nw,.slice y7 n7 d7]) g.fair] (X9.setCell ⟨O,13,none⟩ (.int .i64 dr)):=lies_cell Y9.out 13 (.int .i64 dr) rfl off (by have:=Oc12.out;omega)
 have Y10:Hid (Lies w [Thing.box O (gc kd ex le (.slice y1 n1 d1) (.slice y2 n2 d2) (.slice y3 n3 d3) (.slice y4 n4 d4) mo (.slice y5 n5 d5) (.slice y6 n6 d6) nw (.slice y7 n7 d7) nx dr) 50,Thing.box P (gc kd ex le (.slice x.a1 n1 x.c1) (.slice x.a2 n2 x.c2) (.slice x.a3 n3 x.c3) (.slice x.a4 n4 x.c4) mo (.slice x.a5 n5 x.c5) (.slice x.a6 n6 x.c6) nw (.slice x.a7 n7 x.c7) nx dr) 36,Thing.box R gz 50,RtsW.th b1 t1 (.slice y1 n1 d1) g.routes,RusW.th b2 t2 (.slice y2 n2 d2) g.rules,NdsW.th b3 t3 (.slice y3 n3 d3) g.tree,IntsW.th b4 t4 (.slice y4 n4 d4) g.leaves,RwIn.th b5 t5 (.agg #[.int .i64 mo,.slice y5 n5 d5]) g.rows,SrsW.th b6 t6 (.slice y6 n6 d6) g.steers,FsIn.th b7 t7 (.agg #[.int .i64 nw,.slice y7 n7 d7]) g.fair] (X9.setCell ⟨O,13,none⟩ (.int .i64 dr))):=S10_0
 clear off S10_0
 have sz:(X9.setCell ⟨O,13,none⟩ (.int .i64 dr)).heap.size=X9.heap.size:=by simp [World.setCell]
 have Sz:Hid (_=_):=sz
 clear sz
 go_upto_region 12 with fail
 generalize (X9.setCell ⟨O,13,none⟩ (.int .i64 dr))=X10 at Y10 Sz ⊢
 clear hOl e13 f13 Y9
 have Oc13:Hid (P=w.heap.size∧R=P+1∧O=P+2∧O+1≤b1∧b1≤t1∧t1≤b2∧b2≤t2∧t2≤b3∧b3≤t3∧t3≤b4∧b4≤t4∧t4≤b5∧b5≤t5∧t5≤b6∧b6≤t6∧t6≤b7∧b7≤t7∧t7≤X10.heap.size):=by rw [Sz.out];exact Oc12.out
 clear Sz Oc12 c13
 go_wp2_with (first|(refine wpList_load_row rfl 50 (.tmp 3) rfl O rfl _ _ _ _ (show Boxed _ _ _ _ from Y10.out.1.1) Tryz.underlying50 rfl (by kernel_rfl) ?_)|(refine wpList_store_row rfl 50 (.tmp 2) (.tmp 42) rfl R _ rfl rfl _ _ (show Boxed _ _ _ _ from Y10.out.1.2.2.1) (by kernel_rfl) rfl (by simp [Value.oneCell']) ?_))
 have hz:(X10.setRow R (gc kd ex le (.slice y1 n1 d1) (.slice y2 n2 d2) (.slice y3 n3 d3) (.slice y4 n4 d4) mo (.slice y5 n5 d5) (.slice y6 n6 d6) nw (.slice y7 n7 d7) nx dr)).heap.size=X10.heap.size:=size_setRow _ _ _
 refine bodyPost_ret (results_cell_row Tryz.results8 _ _ R _ _ _ _ rfl (setRow_heap _ R _ _ _ _ (show Boxed _ _ _ _ from Y10.out.1.2.2.1)) Tryz.underlying50 rfl (by kernel_rfl)) rfl ⟨⟨_,rfl,?_⟩,below_setRow Y10.out.2 (by have:=Oc13.out;omega) _⟩
 have oo:=Oc13.out
 rw [hz]
 refine ⟨(⟨y1,d1,y2,d2,y3,d3,y4,d4,y5,d5,y6,d6,y7,d7⟩:Ga),(⟨b1,t1,b2,t2,b3,t3,b4,t4,b5,t5,b6,t6,b7,t7⟩:Gf),(HV.out (⟨y1,d1,y2,d2,y3,d3,y4,d4,y5,d5,y6,d6,y7,d7⟩:Ga)).symm,?_,?_,?_,by rw [hz];exact nlr⟩
 ·exact ⟨V1.out _ _ _ _ _ (RtsW.keep (show RtsW b1 t1 _ _ _ from Y10.out.1.2.2.2.1.1) (by rw [hz];exact Nat.le_refl _) (fun k k1 k2=>setRow_other _ _ _ _ (by have k3:b1≤k:=k1;omega))),V2.out _ _ _ _ _ (RusW.keep (show RusW b2 t2 _ _ _ from Y10.out.1.2.2.2.2.1.1) (by rw [hz];exact Nat.le_refl _) (fun k k1 k2=>setRow_other _ _ _ _ (by have k3:b2≤k:=k1;omega))),V3.out _ _ _ _ _ (NdsW.keep (show NdsW b3 t3 _ _ _ from Y10.out.1.2.2.2.2.2.1.1) (by rw [hz];exact Nat.le_refl _) (fun k k1 k2=>setRow_other _ _ _ _ (by have k3:b3≤k:=k1;omega))),V4.out _ _ _ _ _ (IntsW.keep (show IntsW b4 t4 _ _ _ from Y10.out.1.2.2.2.2.2.2.1.1) (by rw [hz];exact Nat.le_refl _) (fun k k1 k2=>setRow_other _ _ _ _ (by have k3:b4≤k:=k1;omega))),V5.out _ _ _ _ _ (RwIn.keep (show RwIn b5 t5 _ _ _ from Y10.out.1.2.2.2.2.2.2.2.1.1) (by rw [hz];exact Nat.le_refl _) (fun k k1 k2=>setRow_other _ _ _ _ (by have k3:b5≤k:=k1;omega))),V6.out _ _ _ _ _ (SrsW.keep (show SrsW b6 t6 _ _ _ from Y10.out.1.2.2.2.2.2.2.2.2.1.1) (by rw [hz];exact Nat.le_refl _) (fun k k1 k2=>setRow_other _ _ _ _ (by have k3:b6≤k:=k1;omega))),V7.out _ _ _ _ _ (FsIn.keep (show FsIn b7 t7 _ _ _ from Y10.out.1.2.2.2.2.2.2.2.2.2.1.1) (by rw [hz];exact Nat.le_refl _) (fun k k1 k2=>setRow_other _ _ _ _ (by have k3:b7≤k:=k1;omega)))⟩
 ·exact ⟨by show _≤b1;omega,by show t1≤_;omega,by show _≤b2;omega,by show t2≤_;omega,by show _≤b3;omega,by show t3≤_;omega,by show _≤b4;omega,by show t4≤_;omega,by show _≤b5;omega,by show t5≤_;omega,by show _≤b6;omega,by show t6≤_;omega,by show _≤b7;omega,by show t7≤_;omega⟩
 ·exact ⟨by show t1≤b2∨_;left;omega,by show t1≤b3∨_;left;omega,by show t1≤b4∨_;left;omega,by show t1≤b5∨_;left;omega,by show t1≤b6∨_;left;omega,by show t1≤b7∨_;left;omega,by show t2≤b3∨_;left;omega,by show t2≤b4∨_;left;omega,by show t2≤b5∨_;left;omega,by show t2≤b6∨_;left;omega,by show t2≤b7∨_;left;omega,by show t3≤b4∨_;left;omega,by show t3≤b5∨_;left;omega,by show t3≤b6∨_;left;omega,by show t3≤b7∨_;left;omega,by show t4≤b5∨_;left;omega,by show t4≤b6∨_;left;omega,by show t4≤b7∨_;left;omega,by show t5≤b6∨_;left;omega,by show t5≤b7∨_;left;omega,by show t6≤b7∨_;left;omega⟩
end Go.Proofs.YtmfabeghfdoibaaGreat
