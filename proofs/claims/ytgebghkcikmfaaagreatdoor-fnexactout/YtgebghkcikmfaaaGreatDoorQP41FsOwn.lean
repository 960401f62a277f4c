import Derived.Test.YtgebghkcikmfaaaGreatDoorQP40NdPayI
import Derived.Test.YtgebghkcikmfaaaGreatDoorQP28GtOutE
import Derived.Test.YtgebghkcikmfaaaGreatDoorQP6FwBlk
set_option maxHeartbeats 6400000
set_option maxRecDepth 100000
namespace Go.Proofs.YtgebghkcikmfaaaGreatDoor
open Go.RowKit
theorem mkInts_run (n:Nat) (hn:n≤1048576) (wx:World):(Instr.makeSlice 27 (.int .i64 (n:Int)) (.int .i64 (n:Int))).run Tryz.prog wx = .ok (.slice (some ⟨wx.heap.size,0,none⟩) n n) (wx.alloc (.cells (madeCells #[.int .i64 0] (n*1)) 2)):=by
 obtain ⟨i0,hi,hz0,hz1,hz2⟩:=info_parts info2'
 have:=run_make (P:=Tryz.prog) wx 27 2 i0 (.int .i64 0) Tryz.underlying27 hi hz0 .i64 .i64 n n (by omega) (by omega) (by rw [hz2];omega) (by omega)
 rw [this,hz1];simp [Value.cells]
theorem IntsAt.src {w:World} {ad:Addr} {L:List Int} (h:IntsAt w (some ad) L):∀ j v,(L.map (Value.int .i64))[j]? = some v→w.cell? (ad.add j)=some v:=by
 intro j u hj
 have hj':j<L.length:=by have:=(List.getElem?_eq_some_iff.1 hj).1;simpa using this
 obtain ⟨b,off,e,_,c0⟩:=h j hj'
 cases e
 rw [show (⟨b,off,none⟩:Addr).add j=⟨b,off+j,none⟩ by by_cases h0:j=0<;>simp [Addr.add,h0],c0]
 rw [List.getElem?_map,List.getElem?_eq_getElem hj'] at hj
 rw [List.getElem?_eq_getElem hj']
 simpa using hj
theorem int_oneCell (L:List Int):∀ v∈L.map (Value.int .i64),v.oneCell'=true:=by
 intro v hv
 obtain ⟨y,_,rfl⟩:=List.mem_map.1 hv
 rfl
theorem int_copy (w:World) (ty:TypeId) (g:Nat) (a:Option Addr) (sCap:Nat) (l:List Int) (cur:Array Value)
 (hg:w.heap[g]? = some (.cells cur 2 (0,0))) (hc:cur.size=l.length) (h:IntsAt w a l) :
 (Builtin.copy_ #[27,27] ty #[.slice (some ⟨g,0,none⟩) l.length l.length,.slice a l.length sCap]).run Tryz.prog w =
  .ok (.int .i64 (l.length:Int)) (w.setRow g (l.map (Value.int .i64)).toArray):=by
 obtain ⟨i0,hi0,hz0,hz1,hz2⟩:=info_parts info2'
 have hs:(Tryz.prog.info? 2).map (·.size)=some 1:=by rw [hi0];simp [hz1]
 cases l with
 |nil =>
  have e:w.setRow g (([]:List Int).map (Value.int .i64)).toArray=w:=by
   obtain rfl:cur=#[]:=by simpa using hc
   exact setRow_self w g _ _ _ hg
  rw [e]
  exact run_copy_none w _ _ ty 2 _ _ _ _ _ _ Tryz.underlying27 hs rfl
 |cons x xs =>
  obtain ⟨b,off,ha,_⟩:=h 0 (by simp)
  subst ha
  have hr:=run_copy_row (P:=Tryz.prog) w 27 27 ty 2 g 0 (x :: xs).length (x :: xs).length ⟨b,off,none⟩ (x :: xs).length sCap cur _ ((x :: xs).map (Value.int .i64)) Tryz.underlying27 hs hg (by simp) h.src (by simp [hc]) (int_oneCell _)
  have e1:(cur.toList.take 0++(x :: xs).map (Value.int .i64)++cur.toList.drop (0+((x :: xs).map (Value.int .i64)).length))=(x :: xs).map (Value.int .i64):=by
   rw [List.take_zero,List.nil_append,Nat.zero_add,List.length_map,← hc,← Array.length_toList,List.drop_length,List.append_nil]
  rw [e1,List.length_map] at hr
  exact hr
theorem implCopyN (a:Option Addr) (cap:Nat) (l:List Int) (w:World) (h:Hid (IntsAt w a l)) (hT:l.length≤1048576) :
 Calls Tryz.prog 98 #[.slice a l.length cap] w fun e w'=>∃ v,e = .returned v∧IRow w.heap.size w' v l∧Below w.heap.size w w':=by
 have hgm:(w.alloc (.cells (madeCells #[.int .i64 0] (l.length*1)) 2)).heap[w.heap.size]? = some (.cells (madeCells #[.int .i64 0] (l.length*1)) 2 (0,0)):=by
  show (w.heap.push _)[w.heap.size]? = _
  simp
 have hcp:=fun ty=>int_copy (w.alloc (.cells (madeCells #[.int .i64 0] (l.length*1)) 2)) ty w.heap.size a cap l _ hgm (by rw [size_madeCells];omega) (h.out.below ((Below.refl _ _).alloc nlr _))
 have Fin:Hid (IRow w.heap.size ((w.alloc (.cells (madeCells #[.int .i64 0] (l.length*1)) 2)).setRow w.heap.size (l.map (Value.int .i64)).toArray) (.slice (some ⟨w.heap.size,0,none⟩) l.length l.length) l∧Below w.heap.size w ((w.alloc (.cells (madeCells #[.int .i64 0] (l.length*1)) 2)).setRow w.heap.size (l.map (Value.int .i64)).toArray)):=by
  refine ⟨⟨by simp,.inr ⟨w.heap.size,l.length,(l.map (Value.int .i64)).toArray,rfl,nlr,setRow_heap _ _ _ _ _ _ hgm,nlr,by unfold maxLen;omega,by simp,?_⟩⟩,?_⟩
  ·rw [Nat.mul_one]
   exact List.take_of_length_le (by simp)
  ·exact below_setRow ((Below.refl _ _).alloc nlr _) nlr _
 clear hgm
 have hmk:=mkInts_run l.length hT
 obtain ⟨len,hlen⟩:∃ n,l.length=n:=⟨_,rfl⟩
 rw [hlen] at hT hcp Fin hmk ⊢
 clear hlen
 rw [Nat.mul_one] at hcp Fin hmk
 generalize (w.alloc (.cells (madeCells #[.int .i64 0] len) 2)).setRow w.heap.size (l.map (Value.int .i64)).toArray=W2 at hcp Fin
 go_enter Tryz.func98,Tryz.ntmps98
 go_wp2
 go_ret
 exact ⟨_,rfl,Fin.out⟩
open Go.RowKit Go.Shelf
theorem ones_of (most:Int) (l:List Int):(l.all (inB 0 most) && !decide ((0:Int)∈l))=l.all (inB 1 most):=by
 induction l with
 |nil=>rfl
 |cons x r ih =>
  rw [List.all_cons,List.all_cons,← ih,Bool.eq_iff_iff]
  simp only [Bool.and_eq_true,inB_true,Bool.not_eq_true',decide_eq_false_iff_not,List.mem_cons,not_or]
  constructor
  ·rintro ⟨⟨h1,h2⟩,h3,h4⟩
   exact ⟨by omega,h2,h4⟩
  ·rintro ⟨h1,h2,h3⟩
   exact ⟨⟨by omega,h2⟩,by omega,h3⟩
theorem implFromOneL (most:Int) (a:Option Addr) (cap:Nat) (l:List Int) (w:World) (hT:l.length≤1048576) (h:Hid (IntsAt w a l)) :
 Calls Tryz.prog 133 #[.int .i64 most,.slice a l.length cap] w fun e w'=>e = .returned (.bool (l.all (inB 1 most)))∧w'=w:=by
 have A1:=fun (_:Nat)=>implUpTo most a cap l w hT h
 have A2:=fun (_:Nat)=>implHasN a cap l 0 w hT h
 have H:=ones_of most l
 generalize decide ((0:Int)∈l)=z at A2 H
 generalize l.all (inB 0 most)=y at A1 H
 generalize l.all (inB 1 most)=x at H ⊢
 generalize l.length=n at A1 A2 ⊢
 have A1':Hid _:=A1
 have A2':Hid _:=A2
 have HH:Hid _:=H
 clear A1 A2 H h hT
 go_enter Tryz.func133,Tryz.ntmps133
 go_wp2_with fail
 refine (A1'.out 0).mono ?_
 rintro e w1 ⟨rfl,rfl⟩
 cases y
 ·go_wp2
  go_ret
  exact ⟨ret_bool (by rw [← HH.out];rfl),rfl⟩
 go_wp2_with fail
 refine (A2'.out 0).mono ?_
 rintro e w2 ⟨rfl,rfl⟩
 go_wp2
 go_ret
 exact ⟨ret_bool (by rw [← HH.out];cases z<;>rfl),rfl⟩
def Fw.pay (x:Fw) (a:Option Addr) (c:Nat):Value:=.agg #[.slice a x.sizes.length c,.int .i64 x.weight,.int .i64 x.finish]
theorem implSizesOk (a:Option Addr) (cap:Nat) (l:List Int) (w:World) (hT:l.length≤1048576) (h:Hid (IntsAt w a l)) :
 Calls Tryz.prog 270 #[.slice a l.length cap] w fun e w'=>e = .returned (.bool (inB 0 40 (l.length:Int)&&l.all (inB 1 2000)))∧w'=w:=by
 have A:=fun (_:Nat)=>implFromOneL 2000 a cap l w hT h
 generalize l.all (inB 1 2000)=y at A ⊢
 generalize l.length=n at A ⊢
 have A':Hid _:=A
 clear A h hT
 by_cases hn:(n:Int)≤40
 ·have e1:inB 0 40 (n:Int)=true:=by rw [inB_true];omega
  rw [e1]
  clear e1
  go_enter Tryz.func270,Tryz.ntmps270
  go_wp2_with fail
  refine (A'.out 0).mono ?_
  rintro e w' ⟨rfl,rfl⟩
  go_wp2
  go_ret
  exact ⟨by simp,rfl⟩
 ·have e1:inB 0 40 (n:Int)=false:=by rw [inB_false];omega
  rw [e1]
  clear e1
  go_enter Tryz.func270,Tryz.ntmps270
  go_wp2
  go_ret
  exact ⟨by simp,rfl⟩
theorem implPayerOf (x:Fw) (a:Option Addr) (c:Nat) (w:World) :
 Calls Tryz.prog 170 #[x.val a c] w fun e w'=>e = .returned (x.pay a c)∧Bel w w':=by
 obtain ⟨t,u,fl⟩:=x
 simp only [Fw.val,Fw.pay]
 generalize fl.length=n
 obtain ⟨W0,hW0⟩:∃ W0,W0=(w.alloc (.cells #[.int .i64 t,.int .i64 u,.slice a n c] 116)).alloc (.cells #[.slice none 0 0,.int .i64 0,.int .i64 0] 211):=⟨_,rfl⟩
 have X:Hid (Boxed W0 w.heap.size #[.int .i64 t,.int .i64 u,.slice a n c] 116∧Boxed W0 (w.heap.size+1) #[.slice none 0 0,.int .i64 0,.int .i64 0] 211∧Bel w W0):=by
  rw [hW0]
  refine ⟨(Boxed.new w _ _).more _,?_,((Below.refl _ _).alloc nlr _).alloc (by simp) _⟩
  have:=Boxed.new (w.alloc (.cells #[.int .i64 t,.int .i64 u,.slice a n c] 116)) #[.slice none 0 0,.int .i64 0,.int .i64 0] 211
  simpa using this
 have HW:Hid (W0=_):=hW0
 clear hW0
 have c0:W0.cell? ⟨w.heap.size,0,none⟩=some (.int .i64 t):=X.out.1.cell 0 rfl
 have c1:W0.cell? ⟨w.heap.size,1,none⟩=some (.int .i64 u):=X.out.1.cell 1 rfl
 have c2:W0.cell? ⟨w.heap.size,2,none⟩=some (.slice a n c):=X.out.1.cell 2 rfl
 go_enter Tryz.func170,Tryz.ntmps170
 go_upto_region 1 with fail
 rw [← HW.out]
 go_wp2_with (refine wpList_store_row rfl 211 (.tmp 2) (.tmp 9) rfl (w.heap.size+1) _ rfl rfl _ _ X.out.2.1 (by kernel_rfl) rfl (by simp [Value.oneCell']) ?_)
 exact bodyPost_ret (results_cell_row Tryz.results170 _ _ (w.heap.size+1) _ _ _ _ rfl (setRow_heap _ (w.heap.size+1) _ _ _ _ X.out.2.1) Tryz.underlying211 rfl (by kernel_rfl)) rfl ⟨rfl,below_setRow X.out.2.2 (by omega) _⟩
theorem implPayerOk (x:Fw) (a:Option Addr) (c:Nat) (w:World) (hT:x.sizes.length≤1048576) (H:IntsAt w a x.sizes) :
 Calls Tryz.prog 222 #[x.pay a c] w fun e w'=>e = .returned (.bool x.ok)∧Bel w w':=by
 have Hok:Hid (x.ok=(inB 1 10 x.weight&&(inB 0 1125899906842624 x.finish&&(inB 0 40 (x.sizes.length:Int)&&x.sizes.all (inB 1 2000))))):=rfl
 have A1:=fun B w hh=>implFromOne 10 x.weight B w hh
 have A2:=fun B w hh=>implUpTo1 1125899906842624 x.finish w B hh
 have A3:=fun w hh=>implSizesOk a c x.sizes w hT hh
 generalize x.ok=ok at Hok ⊢
 have HI:Hid (∀ w',Bel w w'→IntsAt w' a x.sizes):=fun w' g=>H.below g
 generalize (inB 0 40 (x.sizes.length:Int)&&x.sizes.all (inB 1 2000))=b3 at A3 Hok
 obtain ⟨t,u,fl⟩:=x
 simp only [Fw.pay] at Hok A1 A2 A3 HI ⊢
 generalize fl.length=n at A3 ⊢
 generalize inB 1 10 t=b1 at A1 Hok
 generalize inB 0 1125899906842624 u=b2 at A2 Hok
 have A1':Hid _:=A1
 have A2':Hid _:=A2
 have A3':Hid _:=A3
 clear A1 A2 A3 H hT
 go_enter Tryz.func222,Tryz.ntmps222
 cases b1
 ·go_wp2_with fail
  refine (A1'.out _ _ (by simp)).mono ?_
  rintro e w' ⟨rfl,rfl⟩
  go_wp2
  go_ret
  exact ⟨ret_bool (by rw [Hok.out];rfl),((Below.refl _ _).alloc nlr _).alloc (by simp) _⟩
 cases b2
 ·go_wp2_with fail
  refine (A1'.out _ _ (by simp)).mono ?_
  rintro e w' ⟨rfl,rfl⟩
  go_wp2_with fail
  refine (A2'.out _ _ (by simp)).mono ?_
  rintro e w' ⟨rfl,rfl⟩
  go_wp2
  go_ret
  exact ⟨ret_bool (by rw [Hok.out];rfl),(((Below.refl _ _).alloc nlr _).alloc (by simp) _).alloc (by simp;omega) _⟩
 go_wp2_with fail
 refine (A1'.out _ _ (by simp)).mono ?_
 rintro e w' ⟨rfl,rfl⟩
 go_wp2_with fail
 refine (A2'.out _ _ (by simp)).mono ?_
 rintro e w' ⟨rfl,rfl⟩
 go_wp2_with fail
 refine (A3'.out _ (HI.out _ ((((Below.refl _ _).alloc nlr _).alloc (by simp) _).alloc (by simp;omega) _))).mono ?_
 rintro e w' ⟨rfl,rfl⟩
 go_wp2
 go_ret
 exact ⟨ret_bool (by rw [Hok.out];rfl),(((Below.refl _ _).alloc nlr _).alloc (by simp) _).alloc (by simp;omega) _⟩
structure FwTells (W0:World) (g:FuncId) (fs cb:Array Value) (p:Fw→Bool):Prop where
 enters:Enters Tryz.prog g
 tells:∀ (W:World) (ak:Option Addr) (ck:Nat) (h:Fw),Bel W0 W→h.sizes.length≤1048576→IntsAt W ak h.sizes→Calls Tryz.prog g (fs++#[h.val ak ck]++cb) W fun e w'=>e = .returned (.bool (p h))∧Bel W w'
theorem implIndexF (a:Option Addr) (cap:Nat) (l:List Fw) (g:FuncId) (fs cb:Array Value) (p:Fw→Bool) (w:World) (hT:l.length≤1048576) (hin:∀ k,k<l.length→(fwAt l k).sizes.length≤1048576) (h:Hid (FwsAt w a l)) (ht:Hid (FwTells w g fs cb p)) :
 Calls Tryz.prog 269 #[.slice a l.length cap,.func (.func g) fs cb] w fun e w'=>e = .returned (.int .i64 (if l.findIdx p<l.length then (l.findIdx p:Int) else -1))∧Bel w w':=by
 have eg:∀ args w,(callFunc g args).run Tryz.prog w = .ok (.enter g args) w:=ht.out.enters
 have Hin:Hid (∀ k,k<l.length→(fwAt l k).sizes.length≤1048576):=hin
 obtain ⟨len,hlen⟩:∃ n,l.length=n:=⟨_,rfl⟩
 have Hlen:Hid (l.length=len):=hlen
 obtain ⟨N,hN⟩:∃ N,l.findIdx p=N:=⟨_,rfl⟩
 have HN:Hid (l.findIdx p=N):=hN
 have hNl:N≤len:=by rw [← hN,← hlen];exact List.findIdx_le_length
 rw [hlen] at hT ⊢
 rw [hN]
 clear hlen hN hin
 go_enter Tryz.func269,Tryz.ntmps269
 go_wp2
 go_loopw [8] (fun i wr=>∃ k:Nat,k≤N∧i = .int .i64 k∧Hid (Bel w wr)) (fun i _=>len-(intOf i).toNat)
 case atStart=>exact ⟨0,Nat.zero_le _,rfl,Below.refl _ _⟩
 case round =>
  obtain ⟨k,hk,rfl,H1⟩:=hrel
  by_cases hlt:k<len
  ·have hkl:k<l.length:=by rw [Hlen.out];exact hlt
   obtain ⟨b1,o1,ak,ck,ha1,hb1,⟨c0,c1,c2⟩,hr,-⟩:=(h.out.below H1.out) k hkl
   subst ha1
   have HC:=ht.out.tells wr ak ck (fwAt l k) H1.out (Hin.out k hkl) hr
   unfold Fw.val at HC
   have hlt':(k:Int)<(len:Int):=by omega
   by_cases hkN:k=N
   ·have hp:p (fwAt l k)=true:=by
     rw [fwAt_lt hkl]
     have:=List.findIdx_getElem (p:=p) (xs:=l) (w:=by rw [HN.out,Hlen.out,← hkN];exact hlt)
     simpa only [HN.out,← hkN] using this
    rw [hp] at HC
    clear hp hr hkl
    generalize (fwAt l k).sizes.length=n at c2 HC
    generalize (fwAt l k).weight=t at c0 HC
    generalize (fwAt l k).finish=u at c1 HC
    subst hkN
    go_wp2_with fail
    refine HC.mono ?_
    rintro e w' ⟨rfl,hb'⟩
    have B2:Hid (Bel w w'):=H1.out.trans (hb'.mono H1.out.size)
    clear hb' H1 HC c0 c1 c2
    go_wp2
    go_ret
    exact ⟨by first|rfl|(rw [if_pos hlt];rfl),B2.out⟩
   ·have hp:p (fwAt l k)=false:=by
     rw [fwAt_lt hkl]
     have:=List.not_of_lt_findIdx (p:=p) (xs:=l) (i:=k) (by rw [HN.out];omega)
     simpa using this
    rw [hp] at HC
    clear hp hr hkl
    generalize (fwAt l k).sizes.length=n at c2 HC
    generalize (fwAt l k).weight=t at c0 HC
    generalize (fwAt l k).finish=u at c1 HC
    go_wp2_with fail
    refine HC.mono ?_
    rintro e w' ⟨rfl,hb'⟩
    have B2:Hid (Bel w w'):=H1.out.trans (hb'.mono H1.out.size)
    clear hb' H1 HC c0 c1 c2
    go_wp2
    go_roundw
    case rel=>exact ⟨k+1,by omega,by go_num,B2⟩
    case measure=>simp [intOf];omega
  ·obtain rfl:k=len:=by omega
   obtain rfl:k=N:=by omega
   go_wp2
   go_ret
   exact ⟨by first|rfl|(rw [if_neg (Nat.lt_irrefl _)];rfl),H1.out⟩
theorem any_idxF {α:Type} (l:List α) (p:α→Bool):decide (l.findIdx p<l.length)=l.any p:=by
 rw [Bool.eq_iff_iff,decide_eq_true_iff,List.findIdx_lt_length,List.any_eq_true]
theorem implContainsF (a:Option Addr) (cap:Nat) (l:List Fw) (g:FuncId) (fs cb:Array Value) (p:Fw→Bool) (w:World) (hT:l.length≤1048576) (hin:∀ k,k<l.length→(fwAt l k).sizes.length≤1048576) (h:Hid (FwsAt w a l)) (ht:Hid (FwTells w g fs cb p)) :
 Calls Tryz.prog 220 #[.slice a l.length cap,.func (.func g) fs cb] w fun e w'=>e = .returned (.bool (l.any p))∧Bel w w':=by
 have I:=fun (_:Nat)=>implIndexF a cap l g fs cb p w hT hin h ht
 have Ha:Hid (decide (l.findIdx p<l.length)=l.any p):=any_idxF l p
 generalize l.any p=b at Ha ⊢
 generalize l.findIdx p=N at I Ha
 generalize l.length=len at I Ha ⊢
 have I':Hid _:=I
 clear I hT hin h ht
 go_enter Tryz.func220,Tryz.ntmps220
 go_wp2_with fail
 refine (I'.out 0).mono ?_
 rintro e w' ⟨rfl,hb⟩
 have B2:Hid (Bel w w'):=hb
 clear hb I'
 by_cases hk:N<len
 ·rw [if_pos hk]
  have hp:(0:Int)≤(N:Int):=by omega
  go_wp2
  go_ret
  exact ⟨ret_bool (by rw [← Ha.out,decide_eq_true hk]),B2.out⟩
 ·rw [if_neg hk]
  go_wp2
  go_ret
  exact ⟨ret_bool (by rw [← Ha.out,decide_eq_false hk]),B2.out⟩
theorem implNotFlow (x:Fw) (a:Option Addr) (c:Nat) (w:World) (hT:x.sizes.length≤1048576) (H:IntsAt w a x.sizes) :
 Calls Tryz.prog 221 #[x.val a c] w fun e w'=>e = .returned (.bool (!x.ok))∧Bel w w':=by
 have C:=fun (w:World) hh=>implPayerOk x a c w hT hh
 have D:=fun (w:World)=>implPayerOf x a c w
 generalize x.ok=ok at C ⊢
 have HI:Hid (∀ w',Bel w w'→IntsAt w' a x.sizes):=fun w' g=>H.below g
 obtain ⟨t,u,fl⟩:=x
 simp only [Fw.val,Fw.pay] at C D HI ⊢
 generalize fl.length=n at C D ⊢
 have C':Hid _:=C
 have D':Hid _:=D
 clear C D H hT
 have hB:Hid (Bel w (w.alloc (.cells #[.int .i64 t,.int .i64 u,.slice a n c] 116))):=(Below.refl _ _).alloc nlr _
 go_enter Tryz.func221,Tryz.ntmps221
 go_wp2_with fail
 refine (D'.out _).mono ?_
 rintro e w1 ⟨rfl,b1⟩
 have B1:Hid (Bel w w1):=hB.out.trans (b1.mono hB.out.size)
 clear b1 hB
 go_wp2_with fail
 refine (C'.out _ (HI.out _ B1.out)).mono ?_
 rintro e w2 ⟨rfl,b2⟩
 have B2:Hid (Bel w w2):=B1.out.trans (b2.mono B1.out.size)
 clear b2
 go_wp2
 go_ret
 exact ⟨rfl,B2.out⟩
theorem flows_any (l:List Fw):(!l.any fun x => !x.ok)=l.all Fw.ok:=by
 induction l with
 |nil=>rfl
 |cons x r ih=>simp only [List.any_cons,List.all_cons,Bool.not_or,Bool.not_not,ih]
theorem implFairOk (d:Fs) (v:Value) (w:World) (hB:d.big≤1048576) (h:Hid (FsAt w v d)) :
 Calls Tryz.prog 154 #[v] w fun e w'=>e = .returned (.bool d.ok)∧Bel w w':=by
 obtain ⟨a,c,rfl,k1⟩:=h.out
 clear h
 obtain ⟨hT,-,hin⟩:=Fs.small hB
 have Hok:Hid (d.ok=(inB 0 1125899906842624 d.now&&(inB 1 8 (d.flows.length:Int) && !d.flows.any fun x => !x.ok))):=by
  show d.ok=_
  rw [flows_any]
  rfl
 have A1:=fun B w hh=>implUpTo1 1125899906842624 d.now w B hh
 have A2:=fun B w hh=>implFromOne 8 (d.flows.length:Int) B w hh
 have A3:=fun (w:World) (hh:FwsAt w a d.flows)=>implContainsF a c d.flows 221 #[] #[] (fun x => !x.ok) w hT hin hh ⟨enters_of Tryz.func221 (by kernel_rfl) rfl,fun W ak ck l _ hl hr=>implNotFlow l ak ck W hl hr⟩
 generalize d.ok=ok at Hok ⊢
 have HI:Hid (∀ w',Bel w w'→FwsAt w' a d.flows):=fun w' g=>k1.below g
 generalize (d.flows.any fun x => !x.ok)=b3 at A3 Hok
 obtain ⟨t,fl⟩:=d
 simp only [Fs.val] at Hok A1 A2 A3 HI ⊢
 generalize fl.length=n at Hok A2 A3 ⊢
 generalize inB 0 1125899906842624 t=b1 at A1 Hok
 generalize inB 1 8 (n:Int)=b2 at A2 Hok
 have A1':Hid _:=A1
 have A2':Hid _:=A2
 have A3':Hid _:=A3
 clear A1 A2 A3 k1 hT hin hB
 go_enter Tryz.func154,Tryz.ntmps154
 cases b1
 ·go_wp2_with fail
  refine (A1'.out _ _ (by simp)).mono ?_
  rintro e w' ⟨rfl,rfl⟩
  go_wp2
  go_ret
  exact ⟨ret_bool (by rw [Hok.out];rfl),((Below.refl _ _).alloc nlr _).alloc (by simp) _⟩
 cases b2
 ·go_wp2_with fail
  refine (A1'.out _ _ (by simp)).mono ?_
  rintro e w' ⟨rfl,rfl⟩
  go_wp2_with fail
  refine (A2'.out _ _ (by simp)).mono ?_
  rintro e w' ⟨rfl,rfl⟩
  go_wp2
  go_ret
  exact ⟨ret_bool (by rw [Hok.out];rfl),(((Below.refl _ _).alloc nlr _).alloc (by simp) _).alloc (by simp;omega) _⟩
 go_wp2_with fail
 refine (A1'.out _ _ (by simp)).mono ?_
 rintro e w' ⟨rfl,rfl⟩
 go_wp2_with fail
 refine (A2'.out _ _ (by simp)).mono ?_
 rintro e w' ⟨rfl,rfl⟩
 have b0:Hid (Bel w (((w.alloc (.cells #[.int .i64 t,.slice a n c] 48)).alloc (.cells #[.int .i64 t] 2)).alloc (.cells #[.int .i64 (n:Int)] 2))):=(((Below.refl _ _).alloc nlr _).alloc (by simp) _).alloc (by simp;omega) _
 go_wp2_with fail
 refine (A3'.out _ (HI.out _ b0.out)).mono ?_
 rintro e w' ⟨rfl,q⟩
 have B2:Hid (Bel w w'):=b0.out.trans (q.mono b0.out.size)
 clear q b0
 go_wp2
 go_ret
 exact ⟨ret_bool (by rw [Hok.out];rfl),B2.out⟩
open Go.RowKit Go.Shelf
theorem implEmpty (a:Option Addr) (n cap:Nat) (w:World) :
 Calls Tryz.prog 226 #[.slice a n cap] w fun e w'=>e = .returned (.bool (decide ((n:Int)=0)))∧w'=w:=by
 by_cases hn:(n:Int)=0
 ·rw [decide_eq_true hn]
  go_enter Tryz.func226,Tryz.ntmps226
  go_wp2
  go_ret
  exact ⟨by first|rfl|simp|(simp;omega),rfl⟩
 ·rw [decide_eq_false hn]
  go_enter Tryz.func226,Tryz.ntmps226
  go_wp2
  go_ret
  exact ⟨by first|rfl|(simp;omega),rfl⟩
theorem implBeg (x:Fw) (a:Option Addr) (c:Nat) (now:Int) (w:World) :
 Calls Tryz.prog 171 #[x.pay a c,.int .i64 now] w fun e w'=>e = .returned (.int .i64 (max now x.finish))∧Below w.heap.size w w':=by
 obtain ⟨t,u,fl⟩:=x
 simp only [Fw.pay]
 generalize fl.length=n
 go_enter Tryz.func171,Tryz.ntmps171
 go_wp2
 all_goals
  go_ret
  exact ⟨congrArg (fun z=>Ending.returned (Value.int .i64 z)) (by first|rfl|omega|(simp only [Int.max_def];split<;>omega)),(Below.refl _ _).alloc nlr _⟩
theorem Fs.begins_at {f:Fs} (hk:f.ok=true) {H:Nat} (hH:H<f.flows.length):f.begins (H:Int)=if 0<(fwAt f.flows H).sizes.length then max f.now (fwAt f.flows H).finish else -1:=by
 unfold Fs.begins Fs.waits Fs.beg
 rw [hk,show inB 0 ((f.flows.length:Int)-1) (H:Int)=true by rw [inB_true];omega,Int.toNat_natCast]
 simp
theorem implBegins (d:Fs) (v:Value) (flow:Int) (w:World) (hB:d.big≤1048576) (h:Hid (FsAt w v d)) :
 Calls Tryz.prog 166 #[v,.int .i64 flow] w fun e w'=>e = .returned (.int .i64 (d.begins flow))∧Below w.heap.size w w':=by
 have A1:=fun v w h=>implFairOk d v w hB h
 have hT:=(Fs.small hB).1
 have AP:=fun (w:World)=>implPlace d.flows.length flow w hT
 obtain ⟨a,c,rfl,k1⟩:=h.out
 clear h
 have Hn0:Hid (d.ok=false→d.begins flow = -1):=fun e=>by show d.begins flow = -1;unfold Fs.begins;rw [e];rfl
 have Hn1:Hid (inB 0 ((d.flows.length:Int)-1) flow=false→d.begins flow = -1):=fun e=>by show d.begins flow = -1;unfold Fs.begins;rw [e];simp
 have Hy:Hid (d.ok=true→∀ H:Nat,H<d.flows.length→flow=(H:Int)→d.begins flow=if 0<(fwAt d.flows H).sizes.length then max d.now (fwAt d.flows H).finish else -1):=fun hk H hH e=>by rw [e];exact Fs.begins_at hk hH
 generalize d.begins flow=R at Hn0 Hn1 Hy ⊢
 have A2:∀ a c w,FwsAt w a d.flows→Calls Tryz.prog 154 #[.agg #[.int .i64 d.now,.slice a d.flows.length c]] w fun e w'=>e = .returned (.bool d.ok)∧Below w.heap.size w w':=fun a c w h=>A1 _ w ⟨a,c,rfl,h⟩
 generalize d.ok=ok at A2 Hn0 Hy
 clear A1 hB
 obtain ⟨f,ls⟩:=d
 simp only [Fs.val] at A2 AP Hn1 Hy k1 hT ⊢
 obtain ⟨len,hlen⟩:∃ n,ls.length=n:=⟨_,rfl⟩
 have Hlen:Hid (ls.length=len):=hlen
 rw [hlen] at A2 AP Hn1 Hy hT ⊢
 clear hlen
 have A2':Hid _:=A2
 have Hp:Hid (inB 0 ((len:Int)-1) flow=true↔0≤flow∧flow≤(len:Int)-1):=inB_true
 generalize inB 0 ((len:Int)-1) flow=pl at AP Hn1 Hp
 have AP':Hid _:=AP
 clear A2 AP
 have X:Hid (FwsAt (w.alloc (.cells #[.int .i64 f,.slice a len c] 48)) a ls∧Boxed (w.alloc (.cells #[.int .i64 f,.slice a len c] 48)) w.heap.size #[.int .i64 f,.slice a len c] 48∧Below w.heap.size w (w.alloc (.cells #[.int .i64 f,.slice a len c] 48))):=⟨k1.alloc _,Boxed.new _ _ _,(Below.refl _ _).alloc nlr _⟩
 clear k1
 go_enter Tryz.func166,Tryz.ntmps166
 go_wp2_with (refine wpList_load_row rfl 48 (.tmp 2) rfl w.heap.size rfl _ _ _ _ X.out.2.1 Tryz.underlying48 rfl (by kernel_rfl) ?_)
 refine (A2'.out _ _ _ X.out.1).mono ?_
 rintro e W0 ⟨rfl,q⟩
 have X0:Hid (FwsAt W0 a ls∧Boxed W0 w.heap.size #[.int .i64 f,.slice a len c] 48∧Below w.heap.size w W0):=⟨X.out.1.below q,X.out.2.1.below X.out.2.1.under q,X.out.2.2.trans (q.mono X.out.2.2.size)⟩
 clear q X A2'
 cases ok
 ·have e1:R = -1:=Hn0.out rfl
  subst e1
  go_wp2
  go_ret
  exact ⟨rfl,X0.out.2.2⟩
 have ca:W0.cell? ⟨w.heap.size,1,none⟩=some (.slice a len c):=X0.out.2.1.cell 1 rfl
 have X1:Hid (FwsAt (W0.alloc (.cells #[.int .i64 flow] 2)) a ls∧Boxed (W0.alloc (.cells #[.int .i64 flow] 2)) w.heap.size #[.int .i64 f,.slice a len c] 48∧Below w.heap.size w (W0.alloc (.cells #[.int .i64 flow] 2))):=⟨X0.out.1.alloc _,X0.out.2.1.more _,X0.out.2.2.alloc X0.out.2.2.size _⟩
 cases pl
 ·have e1:R = -1:=Hn1.out rfl
  subst e1
  go_wp2_with fail
  refine (AP'.out _).mono ?_
  rintro e w' ⟨rfl,rfl⟩
  go_wp2
  go_ret
  exact ⟨rfl,X1.out.2.2⟩
 obtain ⟨g1,g2⟩:=Hp.out.1 (by first|exact trivial|exact rfl)
 go_wp2_with fail
 refine (AP'.out _).mono ?_
 rintro e W ⟨rfl,hW⟩
 rw [← hW] at X1
 clear hW AP' X0 ca Hp Hn0 Hn1
 obtain ⟨H,hH⟩:∃ H:Nat,flow=H:=⟨flow.toNat,by omega⟩
 subst hH
 have hHl:H<len:=by omega
 have HR:=Hy.out (by first|exact trivial|exact rfl) H hHl rfl
 clear Hy
 have cb:W.cell? ⟨w.heap.size,1,none⟩=some (.slice a len c):=X1.out.2.1.cell 1 rfl
 obtain ⟨b,off,ak,ck,ha,hb,⟨c0,c1,c2⟩,hr,-⟩:=X1.out.1 H (by rw [Hlen.out];exact hHl)
 subst ha
 have D:=fun w=>implPayerOf (fwAt ls H) ak ck w
 have E:=fun w=>implBeg (fwAt ls H) ak ck f w
 have F:=fun w=>implEmpty ak (fwAt ls H).sizes.length ck w
 generalize max f (fwAt ls H).finish=mx at HR E
 generalize fwAt ls H=q at c0 c1 c2 D E F HR
 obtain ⟨t,u,fl⟩:=q
 simp only [Fw.val,Fw.pay] at c0 c1 c2 D E F HR
 generalize fl.length=n at c2 D E F HR
 have HR':Hid _:=HR
 have D':Hid _:=D
 have E':Hid _:=E
 have F':Hid _:=F
 clear D E F hr HR
 have g2':(H:Int)<(len:Int):=by omega
 go_wp2_with fail
 refine (D'.out _).mono ?_
 rintro e w2 ⟨rfl,q⟩
 have X2:Hid (Boxed w2 w.heap.size #[.int .i64 f,.slice (some ⟨b,off,none⟩) len c] 48∧Below w.heap.size w w2):=⟨X1.out.2.1.below X1.out.2.1.under q,X1.out.2.2.trans (q.mono X1.out.2.2.size)⟩
 clear q c0 c1 c2 cb D' X1
 have N:Hid (Boxed (w2.alloc (.cells #[.slice none 0 0,.int .i64 0,.int .i64 0] 211)) w2.heap.size #[.slice none 0 0,.int .i64 0,.int .i64 0] 211):=Boxed.new _ _ _
 obtain ⟨w3,hw3⟩:∃ w3,(w2.alloc (.cells #[.slice none 0 0,.int .i64 0,.int .i64 0] 211)).setRow w2.heap.size #[.slice ak n ck,.int .i64 t,.int .i64 u]=w3:=⟨_,rfl⟩
 have b3:Below w2.heap.size w2 w3:=by rw [← hw3];exact below_setRow ((Below.refl _ _).alloc nlr _) nlr _
 have X3:Hid (Boxed w3 w.heap.size #[.int .i64 f,.slice (some ⟨b,off,none⟩) len c] 48∧Boxed w3 w2.heap.size #[.slice ak n ck,.int .i64 t,.int .i64 u] 211∧Below w.heap.size w w3):=⟨X2.out.1.below X2.out.1.under b3,by rw [← hw3];exact setRow_heap _ _ _ _ _ _ N.out,X2.out.2.trans (b3.mono X2.out.2.size)⟩
 have H3:Hid _:=hw3
 clear hw3 b3 X2
 go_upto_region 4 with (refine wpList_store_row rfl 211 (.tmp 5) (.tmp 22) rfl w2.heap.size #[.slice ak n ck,.int .i64 t,.int .i64 u] rfl rfl _ _ N.out (by kernel_rfl) rfl (by simp [Value.oneCell']) ?_)
 rw [H3.out]
 generalize w2.heap.size=B at X3 ⊢
 clear N H3
 have d0:w3.cell? ⟨B,0,none⟩=some (.slice ak n ck):=X3.out.2.1.cell 0 rfl
 have d1:w3.cell? ⟨B,1,none⟩=some (.int .i64 t):=X3.out.2.1.cell 1 rfl
 have d2:w3.cell? ⟨B,2,none⟩=some (.int .i64 u):=X3.out.2.1.cell 2 rfl
 have d3:w3.cell? ⟨w.heap.size,0,none⟩=some (.int .i64 f):=X3.out.1.cell 0 rfl
 go_wp2_with fail
 refine (F'.out _).mono ?_
 rintro e w4 ⟨rfl,rfl⟩
 clear F'
 by_cases hn:(n:Int)=0
 ·rw [decide_eq_true hn]
  have e1:R = -1:=by rw [HR'.out,if_neg (by omega)]
  subst e1
  clear hn HR'
  go_wp2
  go_ret
  exact ⟨rfl,X3.out.2.2⟩
 ·rw [decide_eq_false hn]
  have e1:R=mx:=by rw [HR'.out,if_pos (by omega)]
  subst e1
  clear hn HR'
  go_wp2_with fail
  refine (E'.out _).mono ?_
  rintro e w5 ⟨rfl,q⟩
  have X5:Hid (Below w.heap.size w w5):=X3.out.2.2.trans (q.mono X3.out.2.2.size)
  clear q
  go_wp2
  go_ret
  exact ⟨rfl,X5.out⟩
theorem Fs.begins_of {f:Fs} (hk:f.ok=true) {k:Nat} (hkl:k<f.flows.length):(f.waits k=true∧f.begins (k:Int)=f.beg k∧0≤f.beg k)∨(f.waits k=false∧f.begins (k:Int) = -1):=by
 have h0:=(Fs.ok_iff.1 hk).1
 have h1:f.begins (k:Int)=if f.waits k=true then f.beg k else -1:=by
  unfold Fs.begins
  rw [hk,show inB 0 ((f.flows.length:Int)-1) (k:Int)=true by rw [inB_true];omega,Int.toNat_natCast]
  simp
 cases hw:f.waits k with
 |false=>exact .inr ⟨rfl,by rw [h1,hw];rfl⟩
 |true =>
  refine .inl ⟨rfl,by rw [h1,hw];rfl,?_⟩
  unfold Fs.beg
  omega
structure MayF (W0:World) (g:FuncId) (fs cb:Array Value) (Q:Nat→Prop) (p:Nat→Bool):Prop where
 enters:Enters Tryz.prog g
 tells:∀ (W:World) (k:Nat),Q k→Below W0.heap.size W0 W→Calls Tryz.prog g (fs++#[.int .i64 (k:Int)]++cb) W fun e w'=>e = .returned (.bool (p k))∧Below W.heap.size W w'
theorem implChosenOf (d:Fs) (a:Option Addr) (c:Nat) (g:FuncId) (fs cb:Array Value) (p:Nat→Bool) (w:World) (hB:d.big≤1048576) (hok:d.ok=true) (h:Hid (FwsAt w a d.flows)) (hm:Hid (MayF w g fs cb (fun k=>k<d.flows.length∧d.waits k=true) p)) :
 Calls Tryz.prog 103 #[.agg #[.int .i64 d.now,.slice a d.flows.length c],.func (.func g) fs cb] w fun e w'=>e = .returned (.int .i64 (d.bestP p d.flows.length))∧Below w.heap.size w w':=by
 have eg:∀ args w,(callFunc g args).run Tryz.prog w = .ok (.enter g args) w:=hm.out.enters
 have A3:=fun v flow w h=>implBegins d v flow w hB h
 have Hs:Hid (∀ k,d.bestP p (k+1)=if (d.waits k&&(p k&&(decide (d.bestP p k<0)||decide (d.beg k<d.beg (d.bestP p k).toNat))))=true then (k:Int) else d.bestP p k):=fun k=>rfl
 have Hl:Hid (∀ k,d.leastP p k=if d.bestP p k<0 then -1 else d.beg (d.bestP p k).toNat):=fun k=>rfl
 have Hbi:Hid (∀ k,-1≤d.bestP p k∧d.bestP p k<k):=fun k=>d.bestP_in p k
 have Hbo:Hid (∀ k,k<d.flows.length→(d.waits k=true∧d.begins (k:Int)=d.beg k∧0≤d.beg k)∨(d.waits k=false∧d.begins (k:Int) = -1)):=fun k hkl=>Fs.begins_of hok hkl
 have h8:d.flows.length≤8:=(Fs.ok_iff.1 hok).2.1.2
 have H0:Hid (d.bestP p 0 = -1∧d.leastP p 0 = -1):=⟨rfl,rfl⟩
 have HM:Hid (∀ k,k<d.flows.length→d.waits k=true→∀ W,Below w.heap.size w W→Calls Tryz.prog g (fs++#[.int .i64 (k:Int)]++cb) W fun e w'=>e = .returned (.bool (p k))∧Below W.heap.size W w'):=fun k h1 h2 W h3=>hm.out.tells W k ⟨h1,h2⟩ h3
 have A4:∀ a c flow w,FwsAt w a d.flows→Calls Tryz.prog 166 #[.agg #[.int .i64 d.now,.slice a d.flows.length c],.int .i64 flow] w fun e w'=>e = .returned (.int .i64 (d.begins flow))∧Below w.heap.size w w':=fun a c flow w h=>A3 _ flow w ⟨a,c,rfl,h⟩
 clear A3 hB hm hok
 generalize d.leastP p=least at Hl H0
 generalize d.bestP p=best at Hs Hl Hbi H0 ⊢
 generalize d.waits=waits at Hs Hbo HM
 generalize d.beg=beg at Hs Hl Hbo
 generalize d.begins=begins at A4 Hbo
 obtain ⟨f,ls⟩:=d
 simp only at A4 Hbo HM h8 h ⊢
 obtain ⟨len,hlen⟩:∃ n,ls.length=n:=⟨_,rfl⟩
 rw [hlen] at A4 Hbo HM h8 ⊢
 clear hlen
 have A4':Hid _:=A4
 clear A4
 have X0:Hid (FwsAt (w.alloc (.cells #[.int .i64 f,.slice a len c] 48)) a ls∧Boxed (w.alloc (.cells #[.int .i64 f,.slice a len c] 48)) w.heap.size #[.int .i64 f,.slice a len c] 48∧Below w.heap.size w (w.alloc (.cells #[.int .i64 f,.slice a len c] 48))):=⟨h.out.alloc _,Boxed.new _ _ _,(Below.refl _ _).alloc nlr _⟩
 clear h
 obtain ⟨W,hW⟩:∃ W,W=w.alloc (.cells #[.int .i64 f,.slice a len c] 48):=⟨_,rfl⟩
 rw [← hW] at X0
 have HW:Hid (W=_):=hW
 clear hW
 have ca:W.cell? ⟨w.heap.size,1,none⟩=some (.slice a len c):=X0.out.2.1.cell 1 rfl
 have hWs:Hid (w.heap.size<W.heap.size):=X0.out.2.1.under
 go_enter Tryz.func103,Tryz.ntmps103
 go_upto_region 1 with fail
 rw [← HW.out]
 clear HW
 go_wp2
 clear ca
 go_loopw [5,6,7,8,12] (fun ch le _ _ i wr=>∃ (k:Nat) (z y:Int),k≤len∧i = .int .i64 k∧ch = .int .i64 z∧le = .int .i64 y∧Hid (z=best k)∧Hid (y=least k)∧Hid (Below W.heap.size W wr)) (fun _ _ _ _ i _=>len-(intOf i).toNat)
 case atStart=>exact ⟨0,-1,-1,Nat.zero_le _,rfl,rfl,rfl,H0.out.1.symm,H0.out.2.symm,Below.refl _ _⟩
 case round =>
  obtain ⟨k,z,y,hk,rfl,rfl,rfl,Hz,Hy,HK⟩:=hrel
  by_cases hlt:k<len
  ·have hlt':(k:Int)<(len:Int):=by omega
   have Xr:Hid (FwsAt wr a ls∧Boxed wr w.heap.size #[.int .i64 f,.slice a len c] 48):=⟨X0.out.1.below HK.out,X0.out.2.1.below hWs.out HK.out⟩
   have hz:=Hbi.out k
   rw [← Hz.out] at hz
   have C:=fun a c w=>A4'.out a c (k:Int) w
   have hb:=Hbo.out k hlt
   have hs:=Hs.out k
   have hl:=Hl.out (k+1)
   have hl0:=Hl.out k
   rw [← Hz.out] at hs hl0
   rw [← Hy.out] at hl0
   have Mk:Hid (waits k=true→∀ w1,Below W.heap.size W w1→Calls Tryz.prog g (fs++#[.int .i64 (k:Int)]++cb) w1 fun e w'=>e = .returned (.bool (p k))∧Below w1.heap.size w1 w'):=fun e w1 q=>HM.out k hlt e w1 (X0.out.2.2.trans (q.mono X0.out.2.2.size))
   generalize begins (k:Int)=bg at C hb
   generalize waits k=wt at hb hs Mk
   generalize p k=pk at hs Mk
   have C':Hid _:=C
   have Hb:Hid _:=hb
   have HS:Hid _:=hs
   have HL:Hid _:=hl
   have HL0:Hid _:=hl0
   clear C hb hs hl hl0
   go_wp2_with (refine wpList_load_row rfl 48 (.tmp 2) rfl w.heap.size rfl _ _ _ _ Xr.out.2 Tryz.underlying48 rfl (by kernel_rfl) ?_)
   refine (C'.out _ _ _ Xr.out.1).mono ?_
   rintro e w2 ⟨rfl,q⟩
   have K2:Hid (Below W.heap.size W w2):=HK.out.trans (q.mono HK.out.size)
   clear q C' Xr
   rcases Hb.out with ⟨e1,e2,e3⟩|⟨e1,e2⟩
   ·have hbg:¬ bg = -1:=by omega
    have hbd:(bg == -1)=false:=by simpa using hbg
    have M1:=Mk.out e1 w2 K2.out
    subst e1
    have E2:Hid (bg=beg k):=e2
    clear Mk e2 e3
    go_wp2_with fail
    refine M1.mono ?_
    rintro e w3 ⟨rfl,q⟩
    have K3:Hid (Below W.heap.size W w3):=K2.out.trans (q.mono K2.out.size)
    clear q M1 K2
    cases pk
    ·have F1:Hid (z=best (k+1)):=by show z=_;rw [HS.out];rfl
     have F2:Hid (y=least (k+1)):=by show y=_;rw [HL.out,← F1.out];exact HL0.out
     clear Hb HS HL HL0 Hz Hy hz E2
     go_wp2
     go_roundw
     case rel=>exact ⟨k+1,z,y,by omega,by go_num,rfl,rfl,F1,F2,K3⟩
     case measure=>simp [intOf];omega
    by_cases hz0:z = -1
    ·have F1:Hid ((k:Int)=best (k+1)):=by show (k:Int)=_;rw [HS.out,hz0];rfl
     have F2:Hid (bg=least (k+1)):=by show bg=_;rw [HL.out,← F1.out,if_neg (by omega),Int.toNat_natCast];exact E2.out
     subst hz0
     clear Hb HS HL HL0 Hz Hy hz E2
     go_wp2
     go_roundw
     case rel=>exact ⟨k+1,k,bg,by omega,by go_num,rfl,rfl,F1,F2,K3⟩
     case measure=>simp [intOf];omega
    ·have hzd:(z == -1)=false:=by simpa using hz0
     have hy0:y=beg z.toNat:=by rw [HL0.out,if_neg (by omega)]
     by_cases hlt2:bg<y
     ·have F1:Hid ((k:Int)=best (k+1)):=by show (k:Int)=_;rw [HS.out,if_pos (by rw [← hy0,← E2.out];simp [hlt2])]
      have F2:Hid (bg=least (k+1)):=by show bg=_;rw [HL.out,← F1.out,if_neg (by omega),Int.toNat_natCast];exact E2.out
      clear Hb HS HL HL0 Hz Hy hz E2 hy0
      go_wp2
      go_roundw
      case rel=>exact ⟨k+1,k,bg,by omega,by go_num,rfl,rfl,F1,F2,K3⟩
      case measure=>simp [intOf];omega
     ·have F1:Hid (z=best (k+1)):=by show z=_;rw [HS.out,if_neg (by rw [← hy0,← E2.out];simp [hlt2];omega)]
      have F2:Hid (y=least (k+1)):=by show y=_;rw [HL.out,← F1.out,if_neg (by omega)];exact hy0
      clear Hb HS HL HL0 Hz Hy hz E2 hy0
      go_wp2
      go_roundw
      case rel=>exact ⟨k+1,z,y,by omega,by go_num,rfl,rfl,F1,F2,K3⟩
      case measure=>simp [intOf];omega
   ·have F1:Hid (z=best (k+1)):=by show z=_;rw [HS.out,e1];rfl
    have F2:Hid (y=least (k+1)):=by show y=_;rw [HL.out,← F1.out];exact HL0.out
    subst e2
    clear Hb HS HL HL0 Hz Hy hz e1 Mk
    go_wp2
    go_roundw
    case rel=>exact ⟨k+1,z,y,by omega,by go_num,rfl,rfl,F1,F2,K2⟩
    case measure=>simp [intOf];omega
  ·obtain rfl:k=len:=by omega
   have HZ:Hid _:=Hz
   go_wp2
   go_ret
   exact ⟨by rw [HZ.out];rfl,X0.out.2.2.trans (HK.out.mono X0.out.2.2.size)⟩
theorem FwG.flow {base g cap:Nat} {u:Value} {rs:List Fwr} {l:List Fw} {wr W:World} {j:Nat} (h:FwG base (.slice (some ⟨g,0,none⟩) l.length cap) rs l wr) (hj:j<l.length) (gr:Below wr.heap.size wr W) {r:Fw} (hu:IRow wr.heap.size W u r.sizes) (hb:base≤wr.heap.size) :
 FwG base (.slice (some ⟨g,0,none⟩) l.length cap) (rs.set j ⟨r.weight,r.finish,u⟩) (l.set j r) (((W.setCell ⟨g,j*3,none⟩ (.int .i64 r.weight)).setCell ⟨g,j*3+1,none⟩ (.int .i64 r.finish)).setCell ⟨g,j*3+2,none⟩ u):=by
 have hW:=h.below gr
 have hl:=h.len
 have hg:g<wr.heap.size:=(World.ownsRow.lt h.outer g rfl).2
 have oth:∀ y,y≠g→(((W.setCell ⟨g,j*3,none⟩ (.int .i64 r.weight)).setCell ⟨g,j*3+1,none⟩ (.int .i64 r.finish)).setCell ⟨g,j*3+2,none⟩ u).heap[y]? = W.heap[y]? := fun y hy=>by
  rw [Below.heap_setCell _ _ _ _ (by exact hy),Below.heap_setCell _ _ _ _ (by exact hy),Below.heap_setCell _ _ _ _ (by exact hy)]
 have new:fwrAt (rs.set j ⟨r.weight,r.finish,u⟩) j=⟨r.weight,r.finish,u⟩:=fwrAt_set (by omega)
 refine ⟨?_,by simp [hl],fun i hi=>?_,fun i hi=>?_,fun i k x hi hk hne h1 h2=>?_⟩
 ·have h0:=hW.outer
  have h0:=(h0.stored (j*3) (.int .i64 r.weight)).1
  have h0:=(h0.stored (j*3+1) (.int .i64 r.finish)).1
  have h0:=(h0.stored (j*3+2) u).1
  have hs:=fwcells_set rs j ⟨r.weight,r.finish,u⟩
  simp only at hs
  rw [hs] at h0
  rw [List.length_set]
  exact h0
 ·rw [List.length_set] at hi
  by_cases hij:i=j
  ·subst hij;rw [new,fwAt_set hj];exact ⟨rfl,rfl⟩
  ·rw [fwrAt_other hij,fwAt_other hij];exact h.num i hi
 ·rw [List.length_set] at hi
  by_cases hij:i=j
  ·subst hij
   rw [new,fwAt_set hj]
   exact IRow.mono (fwrows_carry hu fun y hy _=>oth y (by have:=(hu.lt y hy).1;omega)) hb
  ·rw [fwrAt_other hij,fwAt_other hij]
   have hr:=hW.row i hi
   exact fwrows_carry hr fun y hy _=>oth y fun e=>hW.off hr (by rw [hy,e])
 ·rw [List.length_set] at hi hk
  have old:∀ i,i<l.length→(fwrAt rs i).hd.ownBlock=some x→u.ownBlock≠some x:=fun i hi a1 a2=>by
   have b1:=((h.row i hi).lt x a1).2
   have b2:=(hu.lt x a2).1
   omega
  by_cases ei:i=j
  ·subst ei
   rw [new] at h1
   rw [fwrAt_other (fun e=>hne e.symm)] at h2
   exact old k hk h2 h1
  ·rw [fwrAt_other ei] at h1
   by_cases ek:k=j
   ·subst ek
    rw [new] at h2
    exact old i hi h1 h2
   ·rw [fwrAt_other ek] at h2
    exact h.apart i k x hi hk hne h1 h2
theorem set3_other (w:World) (B y:Nat) (i j k:Nat) (a b c:Value) (h:y≠B):(((w.setCell ⟨B,i,none⟩ a).setCell ⟨B,j,none⟩ b).setCell ⟨B,k,none⟩ c).heap[y]? = w.heap[y]? := by
 rw [Below.heap_setCell _ _ _ _ (by exact h),Below.heap_setCell _ _ _ _ (by exact h),Below.heap_setCell _ _ _ _ (by exact h)]
theorem implFirst (a:Option Addr) (cap:Nat) (l:List Int) (w:World) (h0:0<l.length) (hT:l.length≤1048576) (h:IntsAt w a l) :
 Calls Tryz.prog 230 #[.slice a l.length cap] w fun e w'=>e = .returned (.int .i64 (szAt l 0))∧w'=w:=by
 obtain ⟨b,off,ha,hb,c0⟩:=h 0 h0
 subst ha
 have e0:l[0]?.getD 0=szAt l 0:=rfl
 rw [e0,Nat.add_zero] at c0
 generalize szAt l 0=z at c0 ⊢
 obtain ⟨n,hn⟩:∃ n,l.length=n:=⟨_,rfl⟩
 rw [hn] at h0 hT ⊢
 clear h hn e0
 have h1:(0:Int)<(n:Int):=by omega
 go_enter Tryz.func230,Tryz.ntmps230
 go_wp2
 go_ret
 exact ⟨rfl,rfl⟩
theorem ints_drop {w:World} {b off:Nat} {l:List Int} (h:IntsAt w (some ⟨b,off,none⟩) l):IntsAt w (some ⟨b,off+1,none⟩) (l.drop 1):=by
 intro k hk
 rw [List.length_drop] at hk
 obtain ⟨b',off',e,hb,c⟩:=h (k+1) (by omega)
 cases e
 refine ⟨_,_,rfl,hb,?_⟩
 rw [show off+1+k=off+(k+1) by omega,c,List.getElem?_drop,Nat.add_comm 1 k]
theorem implRest (a:Option Addr) (cap:Nat) (l:List Int) (w:World) (h0:0<l.length) (hT:l.length≤1048576) (hc:l.length≤cap) (h:IntsAt w a l) :
 Calls Tryz.prog 173 #[.slice a l.length cap] w fun e w'=>∃ v,e = .returned v∧IRow w.heap.size w' v (l.drop 1)∧Bel w w':=by
 obtain ⟨b,off,ha,hb,c0⟩:=h 0 h0
 subst ha
 have C:=fun a cap h=>implCopyN a cap (l.drop 1) w h (by rw [List.length_drop];omega)
 have hd:=ints_drop h
 have hl:Hid (cap=1→l.drop 1=[]):=fun e=>List.eq_nil_of_length_eq_zero (by rw [List.length_drop];omega)
 obtain ⟨n,hn⟩:∃ n,l.length=n+1:=⟨l.length-1,by omega⟩
 rw [hn] at h0 hT hc ⊢
 rw [List.length_drop,hn,Nat.add_sub_cancel] at C
 have C':Hid _:=C
 have HD:Hid _:=hd
 clear C hd hn h c0
 have h1:(1:Int)≤(n:Int)+1:=by omega
 have h2:(0:Int)≤(n:Int):=by omega
 have h3:((n:Int)+1)≤(cap:Int):=by omega
 by_cases hck:cap=1
 ·subst hck
  obtain rfl:n=0:=by omega
  have HT0:Hid (IntsAt w (some ⟨b,off,none⟩) (l.drop 1)):=by
   show IntsAt _ _ _
   rw [hl.out rfl]
   intro k hk
   simp at hk
  go_enter Tryz.func173,Tryz.ntmps173
  go_wp2_with fail
  refine (C'.out _ _ HT0).mono ?_
  rintro e w' ⟨v,rfl,q1,q2⟩
  have R:Hid (IRow w.heap.size w' v (l.drop 1)∧Bel w w'):=⟨q1,q2⟩
  clear q1 q2
  go_wp2
  go_ret
  exact ⟨_,rfl,R.out⟩
 ·have hck':(cap=1)=False:=by simp [hck]
  go_enter Tryz.func173,Tryz.ntmps173
  go_wp2_with fail
  refine (C'.out _ _ HD).mono ?_
  rintro e w' ⟨v,rfl,q1,q2⟩
  have R:Hid (IRow w.heap.size w' v (l.drop 1)∧Bel w w'):=⟨q1,q2⟩
  clear q1 q2
  go_wp2
  go_ret
  exact ⟨_,rfl,R.out⟩
theorem price_of {s t:Int} (h1:1≤t) (h2:t≤10):Int.tdiv (s*2520) t=s*(2520/t):=by
 have:t=1∨t=2∨t=3∨t=4∨t=5∨t=6∨t=7∨t=8∨t=9∨t=10:=by omega
 have key:∀ (d q:Int),0<d→d*q=2520→Int.tdiv (s*2520) d=s*(2520/d):=fun d q hd e=>by
  rw [← e,Int.mul_ediv_cancel_left _ (by omega),show s*(d*q)=d*(s*q) by rw [Int.mul_left_comm],Int.mul_tdiv_cancel_left _ (by omega)]
 rcases this with rfl|rfl|rfl|rfl|rfl|rfl|rfl|rfl|rfl|rfl
 ·exact key 1 2520 (by omega) (by omega)
 ·exact key 2 1260 (by omega) (by omega)
 ·exact key 3 840 (by omega) (by omega)
 ·exact key 4 630 (by omega) (by omega)
 ·exact key 5 504 (by omega) (by omega)
 ·exact key 6 420 (by omega) (by omega)
 ·exact key 7 360 (by omega) (by omega)
 ·exact key 8 315 (by omega) (by omega)
 ·exact key 9 280 (by omega) (by omega)
 ·exact key 10 252 (by omega) (by omega)
theorem implPrice (x:Fw) (a:Option Addr) (c:Nat) (w:World) (hk:x.ok=true) (h0:0<x.sizes.length) (h:IntsAt w a x.sizes) :
 Calls Tryz.prog 172 #[x.pay a c] w fun e w'=>e = .returned (.int .i64 x.cost)∧Bel w w':=by
 have h1:=Fw.ok_iff.1 hk
 have hT:x.sizes.length≤1048576:=by have:=h1.2.2.1;omega
 have C:=fun w h=>implFirst a c x.sizes w h0 hT h
 have hc:=(Fs.cost_in hk h0).2
 have hp:=price_of (s:=szAt x.sizes 0) h1.1.1 h1.1.2
 have e:x.cost=szAt x.sizes 0*(2520/x.weight):=rfl
 rw [← e] at hp
 have HI:Hid (∀ w',Bel w w'→IntsAt w' a x.sizes):=fun w' g=>h.below g
 generalize x.cost=K at hc hp ⊢
 generalize szAt x.sizes 0=s at C hc hp
 obtain ⟨t,u,fl⟩:=x
 simp only [Fw.pay] at C hp HI h1 ⊢
 generalize fl.length=n at C ⊢
 obtain ⟨⟨t1,t2⟩,-⟩:=h1
 obtain ⟨⟨s1,s2⟩,k1,k2⟩:=hc
 have C':Hid _:=C
 clear C h hT h0 e
 have kw:IntKind.i64.wrap (s*2520)=s*2520:=by rw [IntKind.wrap_i64];omega
 have kw2:IntKind.i64.wrap K=K:=by rw [IntKind.wrap_i64];omega
 have tz:¬ t=0:=by omega
 have tz':(t==0)=false:=by simpa using tz
 obtain ⟨W,hW⟩:∃ W,W=w.alloc (.cells #[.slice a n c,.int .i64 t,.int .i64 u] 211):=⟨_,rfl⟩
 have X:Hid (Boxed W w.heap.size #[.slice a n c,.int .i64 t,.int .i64 u] 211∧Bel w W):=by rw [hW];exact ⟨Boxed.new _ _ _,(Below.refl _ _).alloc nlr _⟩
 have HW:Hid _:=hW
 clear hW
 have c0:W.cell? ⟨w.heap.size,0,none⟩=some (.slice a n c):=X.out.1.cell 0 rfl
 have c1:W.cell? ⟨w.heap.size,1,none⟩=some (.int .i64 t):=X.out.1.cell 1 rfl
 have Wd:Hid (IntsAt W.drew a fl):=HI.out _ X.out.2.drew
 go_enter Tryz.func172,Tryz.ntmps172
 go_upto_region 1 with fail
 rw [← HW.out]
 go_region_law (refine stepCall rfl 230 rfl #[.slice a n c] (by kernel_rfl) (C'.out W.drew Wd.out) ?_;rintro e x1 ⟨rfl,hx1⟩;refine ⟨_,rfl,?_⟩;obtain rfl:=hx1.symm;clear hx1;have c1:W.drew.cell? ⟨w.heap.size,1,none⟩=some (.int .i64 t):=X.out.1.cell 1 rfl)
 all_goals (
  go_wp2
  go_ret
  exact ⟨rfl,X.out.2.drew⟩)
structure FwL (ls:List Fw) (len G k:Nat) (rs:List Fwr) (wr:World):Prop where
 outer:wr.ownsRow G 116 3 (.slice (some ⟨G,0,none⟩) len len) len (fwcells (rs++List.replicate (len-k) (Fwr.mk 0 0 (.slice none 0 0))))
 len:rs.length=k
 num:∀ i,i<k→(fwrAt rs i).weight=(fwAt ls i).weight∧(fwrAt rs i).finish=(fwAt ls i).finish
 row:∀ i,i<k→IRow (G+1) wr (fwrAt rs i).hd (fwAt ls i).sizes
 apart:∀ i j x,i<k→j<k→i≠j→(fwrAt rs i).hd.ownBlock=some x→(fwrAt rs j).hd.ownBlock≠some x
section
variable {ls:List Fw} {len G k:Nat} {rs:List Fwr} {wr wd:World} {u:Value}
theorem FwL.below (h:FwL ls len G k rs wr) (gr:Below wr.heap.size wr wd):FwL ls len G k rs wd :=
 ⟨fwrows_carry h.outer fun x _ hx=>gr.block x hx,h.len,h.num,fun i hi=>fwrows_carry (h.row i hi) fun x _ hx=>gr.block x hx,h.apart⟩
theorem FwL.add (h:FwL ls len G k rs wr) (hk:k<len) (gr:Below wr.heap.size wr wd) (hu:IRow wr.heap.size wd u (fwAt ls k).sizes) :
 FwL ls len G (k+1) (rs++[⟨(fwAt ls k).weight,(fwAt ls k).finish,u⟩]) (((wd.setCell ⟨G,k*3,none⟩ (.int .i64 (fwAt ls k).weight)).setCell ⟨G,k*3+1,none⟩ (.int .i64 (fwAt ls k).finish)).setCell ⟨G,k*3+2,none⟩ u):=by
 have hb:=h.below gr
 have hG:G<wr.heap.size:=(World.ownsRow.lt h.outer G rfl).2
 have hl:=h.len
 have oth:∀ y,y≠G→(((wd.setCell ⟨G,k*3,none⟩ (.int .i64 (fwAt ls k).weight)).setCell ⟨G,k*3+1,none⟩ (.int .i64 (fwAt ls k).finish)).setCell ⟨G,k*3+2,none⟩ u).heap[y]? = wd.heap[y]? := fun y hy=>by
  rw [Below.heap_setCell _ _ _ _ (by exact hy),Below.heap_setCell _ _ _ _ (by exact hy),Below.heap_setCell _ _ _ _ (by exact hy)]
 refine ⟨?_,by simp [hl],fun i hi=>?_,fun i hi=>?_,fun i j x hi hj hne h1 h2=>?_⟩
 ·have h0:=hb.outer
  have h0:=(h0.stored (k*3) (.int .i64 (fwAt ls k).weight)).1
  have h0:=(h0.stored (k*3+1) (.int .i64 (fwAt ls k).finish)).1
  have h0:=(h0.stored (k*3+2) u).1
  have hs:=fwcells_set (rs++List.replicate (len-k) (Fwr.mk 0 0 (.slice none 0 0))) k ⟨(fwAt ls k).weight,(fwAt ls k).finish,u⟩
  simp only at hs
  rw [hs] at h0
  have e:(rs++List.replicate (len-k) (Fwr.mk 0 0 (.slice none 0 0))).set k ⟨(fwAt ls k).weight,(fwAt ls k).finish,u⟩=(rs++[⟨(fwAt ls k).weight,(fwAt ls k).finish,u⟩])++List.replicate (len-(k+1)) (Fwr.mk 0 0 (.slice none 0 0)):=by
   obtain ⟨n,hn⟩:∃ n,len-k=n+1:=⟨len-k-1,by omega⟩
   rw [hn,show len-(k+1)=n by omega,List.replicate_succ,List.set_append_right _ _ (by omega),hl,Nat.sub_self,List.set_cons_zero]
   simp
  rw [e] at h0
  exact h0
 ·by_cases e:i=k
  ·subst e
   rw [← hl,fwrAt_new,hl]
   try exact ⟨rfl,rfl⟩
  ·rw [fwrAt_old (by omega)]
   exact h.num i (by omega)
 ·by_cases e:i=k
  ·subst e
   rw [← hl,fwrAt_new,hl]
   exact IRow.mono (fwrows_carry hu fun y hy hlt=>oth y (by have:=(hu.lt y hy).1;omega)) (by omega)
  ·rw [fwrAt_old (by omega)]
   refine fwrows_carry (hb.row i (by omega)) fun y hy _=>oth y ?_
   have:=((hb.row i (by omega)).lt y hy).1
   omega
 ·have old:∀ i,i<k→(fwrAt rs i).hd.ownBlock=some x→u.ownBlock≠some x:=fun i hi a1 a2=>by
   have b1:=((h.row i hi).lt x a1).2
   have b2:=(hu.lt x a2).1
   omega
  have new:fwrAt (rs++[⟨(fwAt ls k).weight,(fwAt ls k).finish,u⟩]) k=⟨(fwAt ls k).weight,(fwAt ls k).finish,u⟩:=by rw [← hl,fwrAt_new]
  by_cases ei:i=k
  ·subst ei
   rw [new] at h1
   rw [fwrAt_old (by omega)] at h2
   exact old j (by omega) h2 h1
  ·rw [fwrAt_old (by omega)] at h1
   by_cases ej:j=k
   ·subst ej
    rw [new] at h2
    exact old i (by omega) h1 h2
   ·rw [fwrAt_old (by omega)] at h2
    exact h.apart i j x (by omega) (by omega) hne h1 h2
theorem FwL.grow (h:FwL ls len G len rs wr) (hl:ls.length=len):FwG G (.slice (some ⟨G,0,none⟩) len len) rs ls wr:=by
 subst hl
 have ho:=h.outer
 rw [Nat.sub_self,List.replicate_zero,List.append_nil] at ho
 exact ⟨ho,h.len,h.num,fun i hi=>IRow.mono (h.row i hi) (by omega),h.apart⟩
theorem FwL.new (ls:List Fw) (len:Nat) (w:World) (hT:len≤1048576):FwL ls len w.heap.size 0 [] (w.alloc (.cells (madeCells #[.int .i64 0,.int .i64 0,.slice none 0 0] (len*3)) 116)):=by
 have:=World.ownsRow_lit (size:=3) (e:=116) (base:=w.heap.size) w (madeCells #[.int .i64 0,.int .i64 0,.slice none 0 0] (len*3)) len nlr (by unfold maxLen;omega) (by rw [size_madeCells])
 rw [fwMade] at this
 exact ⟨by simpa using this,rfl,fun i hi=>by omega,fun i hi=>by omega,fun i j x hi=>by omega⟩
theorem FwL.cell (h:FwL ls len G k rs wr) (hk:k<len) {j:Nat} (hj:j<3):(∃ y,wr.cell? ⟨G,k*3+j,none⟩=some y)∧wr.frozen? ⟨G,k*3+j,none⟩=false:=by
 have hcl:=fwcells_length (rs++List.replicate (len-k) (Fwr.mk 0 0 (.slice none 0 0)))
 have hlr:=h.len
 simp only [List.length_append,List.length_replicate] at hcl
 refine ⟨?_,h.outer.frozenAt (k*3+j)⟩
 rw [h.outer.cellAt (k*3+j) (by omega)]
 exact ⟨_,List.getElem?_eq_getElem (by omega)⟩
end
theorem implOwnFair (d:Fs) (a:Option Addr) (c:Nat) (w:World) (hB:d.big≤1048576) (h:Hid (FwsAt w a d.flows)) :
 Calls Tryz.prog 101 #[d.val a c] w fun e w'=>(∃ v rs,e = .returned (.agg #[.int .i64 d.now,v])∧FwG (w.heap.size+2) v rs d.flows w')∧Bel w w':=by
 obtain ⟨hT,-,hin⟩:=Fs.small hB
 obtain ⟨f,ls⟩:=d
 simp only [Fs.val] at h hT hin ⊢
 clear hB
 have Hin:Hid (∀ k,k<ls.length→(fwAt ls k).sizes.length≤1048576):=hin
 obtain ⟨i0,hi,hz0,hz1,hz2⟩:=info_parts fwInfo
 obtain ⟨n,hn⟩:∃ n,ls.length=n:=⟨_,rfl⟩
 rw [hn] at hT ⊢
 have Hn:Hid (ls.length=n):=hn
 clear hn hin
 have hmk:∀ wx,(Instr.makeSlice 46 (.int .i64 (n:Int)) (.int .i64 (n:Int))).run Tryz.prog wx = .ok (.slice (some ⟨wx.heap.size,0,none⟩) n n) (wx.alloc (.cells (madeCells #[.int .i64 0,.int .i64 0,.slice none 0 0] (n*3)) 116)):=by
  intro wx
  have:=run_make (P:=Tryz.prog) wx 46 116 i0 (.agg #[.int .i64 0,.int .i64 0,.slice none 0 0]) Tryz.underlying46 hi hz0 .i64 .i64 n n (by omega) (by omega) (by rw [hz2];omega) (by omega)
  rw [this,hz1];simp [Value.cells]
 clear hi hz0 hz1 hz2
 obtain ⟨W0,hW0⟩:∃ W0,W0=(w.alloc (.cells #[.int .i64 f,.slice a n c] 48)).alloc (.cells #[.int .i64 0,.slice none 0 0] 48):=⟨_,rfl⟩
 have hs0:W0.heap.size=w.heap.size+1+1:=by rw [hW0];simp
 have X0:Hid (Boxed W0 w.heap.size #[.int .i64 f,.slice a n c] 48∧Boxed W0 (w.heap.size+1) #[.int .i64 0,.slice none 0 0] 48∧Bel w W0):=by
  rw [hW0]
  refine ⟨(Boxed.new w _ _).more _,?_,((Below.refl _ _).alloc nlr _).alloc (by simp) _⟩
  have:=Boxed.new (w.alloc (.cells #[.int .i64 f,.slice a n c] 48)) #[.int .i64 0,.slice none 0 0] 48
  simpa using this
 have X:Hid (FwL ls n (w.heap.size+1+1) 0 [] (W0.alloc (.cells (madeCells #[.int .i64 0,.int .i64 0,.slice none 0 0] (n*3)) 116))∧Below (w.heap.size+1+1) W0 (W0.alloc (.cells (madeCells #[.int .i64 0,.int .i64 0,.slice none 0 0] (n*3)) 116))):=by
  rw [← hs0]
  exact ⟨FwL.new ls n W0 hT,(Below.refl _ _).alloc nlr _⟩
 have HS:Hid (W0.heap.size=w.heap.size+1+1):=hs0
 have HW:Hid (W0=_):=hW0
 clear hW0 hs0
 go_enter Tryz.func101,Tryz.ntmps101
 go_wp2
 rw [← HW.out]
 generalize W0.alloc (.cells (madeCells #[.int .i64 0,.int .i64 0,.slice none 0 0] (n*3)) 116)=W1 at X ⊢
 go_loopw [4,5,13] (fun _ _ i wr=>∃ k:Nat,k≤n∧i = .int .i64 k∧Hid (∃ rs,FwL ls n (w.heap.size+1+1) k rs wr∧Below (w.heap.size+1+1) W0 wr)) (fun _ _ i _=>n-(intOf i).toNat)
 case atStart=>exact ⟨0,Nat.zero_le _,rfl,[],X.out⟩
 case round =>
  clear X hmk
  obtain ⟨k,hk,rfl,H1⟩:=hrel
  obtain ⟨rs,H1⟩:∃ rs,Hid (FwL ls n (w.heap.size+1+1) k rs wr∧Below (w.heap.size+1+1) W0 wr):=H1.out
  have Bw:Hid (Bel w wr):=X0.out.2.2.trans (H1.out.2.mono (by omega))
  obtain ⟨wo,rfl⟩:∃ wo,wo=wr:=⟨_,rfl⟩
  by_cases hlt:k<n
  ·have hkl:k<ls.length:=by rw [Hn.out];exact hlt
   obtain ⟨b1,o1,ak,ck,ha1,hb1,⟨c0,c1,c2⟩,hr1,-⟩:=(h.out.below Bw.out) k hkl
   subst ha1
   have hn:=Hin.out k hkl
   have T:=fun w h=>implCopyN ak ck (fwAt ls k).sizes w h hn
   have hG:w.heap.size+1+1<wo.heap.size:=(World.ownsRow.lt H1.out.1.outer _ rfl).2
   have hlt':(k:Int)<(n:Int):=by omega
   have St:Hid (∀ w1 w2 u,Bel wo w1→IRow w1.heap.size w2 u (fwAt ls k).sizes→Bel w1 w2 →
    (∃ rs',FwL ls n (w.heap.size+1+1) (k+1) rs' (((w2.setCell ⟨w.heap.size+1+1,k*3,none⟩ (.int .i64 (fwAt ls k).weight)).setCell ⟨w.heap.size+1+1,k*3+1,none⟩ (.int .i64 (fwAt ls k).finish)).setCell ⟨w.heap.size+1+1,k*3+2,none⟩ u)∧Below (w.heap.size+1+1) W0 (((w2.setCell ⟨w.heap.size+1+1,k*3,none⟩ (.int .i64 (fwAt ls k).weight)).setCell ⟨w.heap.size+1+1,k*3+1,none⟩ (.int .i64 (fwAt ls k).finish)).setCell ⟨w.heap.size+1+1,k*3+2,none⟩ u))∧((∃ y,w2.cell? ⟨w.heap.size+1+1,k*3,none⟩=some y)∧w2.frozen? ⟨w.heap.size+1+1,k*3,none⟩=false)∧((∃ y,w2.cell? ⟨w.heap.size+1+1,k*3+1,none⟩=some y)∧w2.frozen? ⟨w.heap.size+1+1,k*3+1,none⟩=false)∧((∃ y,w2.cell? ⟨w.heap.size+1+1,k*3+2,none⟩=some y)∧w2.frozen? ⟨w.heap.size+1+1,k*3+2,none⟩=false)):=fun w1 w2 u q0 q1 q2=>by
    have hb0:=H1.out.1.below q0
    have hb:=hb0.below q2
    refine ⟨⟨_,hb0.add hlt q2 q1,(((((H1.out.2.trans (q0.mono (Nat.le_of_lt hG))).trans (q2.mono (Nat.le_trans (Nat.le_of_lt hG) q0.size)))).setCell nlr _).setCell nlr _).setCell nlr _⟩,?_,hb.cell hlt (j:=1) (by omega),hb.cell hlt (j:=2) (by omega)⟩
    have:=hb.cell hlt (j:=0) (by omega)
    simpa using this
   generalize fwAt ls k=q at c0 c1 c2 hr1 T St
   obtain ⟨t,tu,fl⟩:=q
   simp only at c0 c1 c2 hr1 T St
   have Hm:Hid (∀ {base:Nat} {w:World} {u:Value},IRow base w u fl→∃ x y,u = .slice x fl.length y):=fun h=>h.shape
   generalize fl.length=m at c2 T Hm
   have T':Hid _:=T
   have N:Hid (Boxed (wo.alloc (.cells #[.int .i64 0,.int .i64 0,.slice none 0 0] 116)) wo.heap.size #[.int .i64 0,.int .i64 0,.slice none 0 0] 116):=Boxed.new _ _ _
   obtain ⟨wh,hwh⟩:∃ wh,(wo.alloc (.cells #[.int .i64 0,.int .i64 0,.slice none 0 0] 116)).setRow wo.heap.size #[.int .i64 t,.int .i64 tu,.slice ak m ck]=wh:=⟨_,rfl⟩
   have b0:Bel wo wh:=by rw [← hwh];exact below_setRow ((Below.refl _ _).alloc nlr _) nlr _
   have V:Hid (Boxed wh wo.heap.size #[.int .i64 t,.int .i64 tu,.slice ak m ck] 116∧Bel wo wh∧IntsAt wh.drew ak fl):=⟨by rw [← hwh];exact setRow_heap _ _ _ _ _ _ N.out,b0,hr1.below b0.drew⟩
   have HW2:Hid _:=hwh
   clear T hr1 hn hwh b0 hkl
   go_upto_region 5 with (refine wpList_store_row rfl 116 (.tmp 5) (.tmp 17) rfl wo.heap.size #[.int .i64 t,.int .i64 tu,.slice ak m ck] rfl rfl _ _ N.out (by kernel_rfl) rfl (by simp [Value.oneCell']) ?_)
   rw [HW2.out]
   clear N HW2 c0 c1 c2
   have d0:wh.cell? ⟨wo.heap.size,0,none⟩=some (.int .i64 t):=V.out.1.cell 0 rfl
   have d1:wh.cell? ⟨wo.heap.size,1,none⟩=some (.int .i64 tu):=V.out.1.cell 1 rfl
   have d2:wh.cell? ⟨wo.heap.size,2,none⟩=some (.slice ak m ck):=V.out.1.cell 2 rfl
   have dl:wo.heap.size<wh.heap.size:=V.out.1.under
   go_region_with (go_at_call 98;refine (T'.out wh.drew V.out.2.2).mono ?_;rintro e w2 ⟨u,rfl,q1,q2⟩;obtain ⟨x,y,ev⟩:=Hm.out q1;subst ev;obtain ⟨H3,⟨⟨y0,hy0⟩,hz0⟩,⟨⟨y1,hy1⟩,hz1⟩,⟨yy2,hy2⟩,hz2⟩:=St.out wh.drew w2 _ V.out.2.1.drew q1 q2;have H3:Hid _:=H3;have hG2:w.heap.size+1+1<w2.heap.size:=Nat.lt_of_lt_of_le hG (Nat.le_trans V.out.2.1.size q2.size);have V2:Hid (Boxed w2 wo.heap.size #[.int .i64 t,.int .i64 tu,.slice ak m ck] 116):=Boxed.below (w:=wh.drew) V.out.1 dl q2;have d0:w2.cell? ⟨wo.heap.size,0,none⟩=some (.int .i64 t):=V2.out.cell 0 rfl;have d1:w2.cell? ⟨wo.heap.size,1,none⟩=some (.int .i64 tu):=V2.out.cell 1 rfl;clear q1 q2)
   all_goals (
    go_wp2
    go_roundw
    case rel=>exact ⟨k+1,by omega,by go_num,H3⟩
    case measure=>simp [intOf];omega)
  ·obtain rfl:k=n:=by omega
   have hlt2:w.heap.size+1<w.heap.size+1+1:=by omega
   have B0:Hid (Boxed wo w.heap.size #[.int .i64 f,.slice a k c] 48∧Boxed wo (w.heap.size+1) #[.int .i64 0,.slice none 0 0] 48∧FwG (w.heap.size+1+1) (.slice (some ⟨w.heap.size+1+1,0,none⟩) k k) rs ls wo):=⟨X0.out.1.below (by omega) H1.out.2,X0.out.2.1.below hlt2 H1.out.2,H1.out.1.grow Hn.out⟩
   have c0:wo.cell? ⟨w.heap.size,0,none⟩=some (.int .i64 f):=B0.out.1.cell 0 rfl
   clear H1 hlt2
   go_wp2_with (refine wpList_store_row rfl 48 (.tmp 2) (.tmp 33) rfl (w.heap.size+1) _ rfl rfl _ _ B0.out.2.1 (by kernel_rfl) rfl (by simp [Value.oneCell']) ?_)
   refine bodyPost_ret (results_cell_row Tryz.results101 _ _ (w.heap.size+1) _ _ _ _ rfl (setRow_heap _ (w.heap.size+1) _ _ _ _ B0.out.2.1) Tryz.underlying48 rfl (by kernel_rfl)) rfl ⟨⟨_,rs,rfl,B0.out.2.2.other fun y hy _=>setRow_other _ _ _ _ (by omega)⟩,below_setRow Bw.out (by omega) _⟩
end Go.Proofs.YtgebghkcikmfaaaGreatDoor
