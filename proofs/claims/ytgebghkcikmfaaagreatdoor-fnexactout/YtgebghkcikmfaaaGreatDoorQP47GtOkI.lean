import Derived.Test.YtgebghkcikmfaaaGreatDoorQP46RuEach
import Derived.Test.YtgebghkcikmfaaaGreatDoorQP41FsOwn
import Derived.Test.YtgebghkcikmfaaaGreatDoorQP44SrStirI
import Derived.Test.YtgebghkcikmfaaaGreatDoorQP38LawOut
set_option maxHeartbeats 6400000
set_option maxRecDepth 100000
namespace Go.Proofs.YtgebghkcikmfaaaGreatDoor
open Go.RowKit
def lvB (ls:List Int) (n i:Nat):Bool:=decide (0≤ls[i]?.getD 0)&&(decide (ls[i]?.getD 0<(n:Int))&&(decide (i=0)||decide (ls[i-1]?.getD 0<ls[i]?.getD 0)))
def lvOk (ls:List Int) (n:Nat):Bool:=decide (1≤ls.length)&&(decide (ls.length≤8)&&(List.range ls.length).all (lvB ls n))
def Gt.parts (g:Gt):Bool:=g.ln.ok&&(rtsOk g.routes&&(rusOk g.rules&&(tok g.tree&&(g.rows.ok&&(g.fair.ok&&g.steers.all Sr.ok)))))
def keptB (ln:Ln) (l:List It) (s:List Int):Bool:=decide (l.length=s.length)&&(List.range l.length).all fun k=>decide (ln.on (itAt l k).size=s[k]?.getD 0)
def Gt.kept (g:Gt):Bool:=decide (g.rows.lists.length=g.leaves.length)&&(decide (g.steers.length=g.leaves.length)&&(decide (g.fair.flows.length=g.leaves.length)&&(List.range g.rows.lists.length).all fun i=>keptB g.ln (izAt g.rows.lists i) (fwAt g.fair.flows i).sizes))
def Gt.nextB (g:Gt):Bool:=inB 1 1000000 g.next && !(g.rows.lists.any fun l=>l.any fun i=>decide (g.next≤i.id))
theorem Rw.it_ok {r:Rw} (h:r.ok=true) {i k:Nat} (hi:i<r.lists.length) (hk:k<(izAt r.lists i).length):(itAt (izAt r.lists i) k).ok=true:=by
 have h1:=(Bool.and_eq_true _ _▸(Bool.and_eq_true _ _▸h).2:_∧_).1
 rw [List.all_eq_true] at h1
 refine h1 _ ?_
 unfold Rw.all
 rw [List.mem_flatten]
 refine ⟨izAt r.lists i,?_,?_⟩
 ·rw [izAt,List.getElem?_eq_getElem hi,Option.getD_some]
  exact List.getElem_mem _
 ·rw [itAt_lt hk]
  exact List.getElem_mem _
theorem Gt.ok_parts (g:Gt):g.ok=(g.parts&&(lvOk g.leaves g.tree.length&&(g.kept&&(g.nextB&&inB 0 1048575 g.draw)))):=by
 rw [Bool.eq_iff_iff]
 constructor
 ·intro h
  obtain ⟨h1,h2⟩:=Gt.ok_iff.1 h
  obtain ⟨a1,a2,a3,a4,a5,a6,a7,a8,a9,a10,a11,a12,a13⟩:=Gt.head_iff.1 h1
  have lf:=fun i hi=>Gt.leaf_iff.1 (h2 i hi)
  unfold Gt.parts lvOk Gt.kept Gt.nextB lvB keptB
  simp only [Bool.and_eq_true,Bool.or_eq_true,Bool.not_eq_true',decide_eq_true_eq,List.all_eq_true,List.mem_range,inB_true,List.any_eq_false,List.any_eq_true,not_exists,not_and,Int.not_le]
  refine ⟨⟨a1,a2,a3,a4,a6,a9,?_⟩,⟨a5.1,a5.2,fun i hi=>⟨(lf i hi).1.1,(lf i hi).1.2,(lf i hi).2.1⟩⟩,⟨a7,a8,a10,fun i hi=>⟨(lf i (by omega)).2.2.2.1.symm,fun k hk=>?_⟩⟩,⟨a11,?_⟩,a12,a13⟩
  ·intro s hs
   obtain ⟨i,hi,rfl⟩:=List.getElem_of_mem hs
   have:=(lf i (by omega)).2.2.1
   rwa [srAt_lt hi] at this
  ·have ok:=Rw.it_ok a6 hi hk
   unfold It.ok at ok
   simp only [Bool.and_eq_true,inB_true] at ok
   rw [on_ok a1 (by rw [inB_true];omega)]
   exact ((lf i (by omega)).2.2.2.2 k hk).2
  ·intro l hl it hit
   obtain ⟨i,hi,rfl⟩:=List.getElem_of_mem hl
   obtain ⟨k,hk,rfl⟩:=List.getElem_of_mem hit
   have e1:izAt g.rows.lists i=g.rows.lists[i]:=by rw [izAt,List.getElem?_eq_getElem hi,Option.getD_some]
   have:=((lf i (by omega)).2.2.2.2 k (by rw [e1];exact hk)).1
   rw [e1,itAt_lt hk] at this
   exact this
 ·intro h
  unfold Gt.parts lvOk Gt.kept Gt.nextB lvB keptB at h
  simp only [Bool.and_eq_true,Bool.or_eq_true,Bool.not_eq_true',decide_eq_true_eq,List.all_eq_true,List.mem_range,inB_true,List.any_eq_false,List.any_eq_true,not_exists,not_and,Int.not_le] at h
  obtain ⟨⟨a1,a2,a3,a4,a6,a9,b1⟩,⟨b2,b3,b4⟩,⟨a7,a8,a10,b5⟩,⟨a11,b6⟩,a12,a13⟩:=h
  refine Gt.ok_iff.2 ⟨Gt.head_iff.2 ⟨a1,a2,a3,a4,⟨b2,b3⟩,a6,a7,a8,a9,a10,a11,a12,a13⟩,fun i hi=>Gt.leaf_iff.2 ⟨⟨(b4 i hi).1,(b4 i hi).2.1⟩,(b4 i hi).2.2,?_,(b5 i (by omega)).1.symm,fun k hk=>⟨?_,?_⟩⟩⟩
  ·rw [srAt_lt (by omega)]
   exact b1 _ (List.getElem_mem _)
  ·have hi2:i<g.rows.lists.length:=by omega
   have e1:izAt g.rows.lists i=g.rows.lists[i]:=by rw [izAt,List.getElem?_eq_getElem hi2,Option.getD_some]
   rw [itAt_lt hk]
   refine b6 (izAt g.rows.lists i) (by rw [e1];exact List.getElem_mem _) _ (List.getElem_mem _)
  ·have ok:=Rw.it_ok a6 (i:=i) (by omega) hk
   unfold It.ok at ok
   simp only [Bool.and_eq_true,inB_true] at ok
   have:=(b5 i (by omega)).2 k hk
   rwa [on_ok a1 (by rw [inB_true];omega)] at this
theorem lnKind (k:Int):inB 1 3 k=(decide (1≤k)&&inB 0 3 k):=by
 rw [Bool.eq_iff_iff]
 simp [inB]
 omega
theorem implLineOk (l:Ln) (w:World) :
 Calls Tryz.prog 149 #[l.val] w fun e w'=>e = .returned (.bool l.ok)∧Below w.heap.size w w':=by
 have Hok:Hid (l.ok=((decide (1≤l.kind)&&inB 0 3 l.kind)&&(inB 0 100 l.extra&&inB 0 2000 l.least))):=by
  show l.ok=_
  rw [← lnKind];rfl
 obtain ⟨k,x,m⟩:=l
 generalize Ln.ok _=ok at Hok ⊢
 simp only [Ln.val] at Hok ⊢
 have A1:=fun w B h=>implUpTo1 3 k w B h
 have A2:=fun w B h=>implUpTo1 100 x w B h
 have A3:=fun w B h=>implUpTo1 2000 m w B h
 generalize inB 0 3 k=b1 at A1 Hok
 generalize inB 0 100 x=b2 at A2 Hok
 generalize inB 0 2000 m=b3 at A3 Hok
 have A1':Hid _:=A1
 have A2':Hid _:=A2
 have A3':Hid _:=A3
 clear A1 A2 A3
 by_cases h1:1≤k
 ·have hd:decide (1≤k)=true:=by simp [h1]
  rw [hd] at Hok
  clear hd
  go_enter Tryz.func149,Tryz.ntmps149
  go_wp2_with fail
  refine (A1'.out _ _ (by simp)).mono ?_
  rintro e w' ⟨rfl,rfl⟩
  cases b1
  ·go_wp2
   go_ret
   exact ⟨ret_bool (by rw [Hok.out];rfl),by repeat (first|exact Below.refl _ _|refine Below.alloc ?_ (by simp<;>omega) _)⟩
  go_wp2_with fail
  refine (A2'.out _ _ (by simp)).mono ?_
  rintro e w' ⟨rfl,rfl⟩
  cases b2
  ·go_wp2
   go_ret
   exact ⟨ret_bool (by rw [Hok.out];rfl),by repeat (first|exact Below.refl _ _|refine Below.alloc ?_ (by simp<;>omega) _)⟩
  go_wp2_with fail
  refine (A3'.out _ _ (by simp)).mono ?_
  rintro e w' ⟨rfl,rfl⟩
  go_wp2
  go_ret
  exact ⟨ret_bool (by rw [Hok.out];rfl),by repeat (first|exact Below.refl _ _|refine Below.alloc ?_ (by simp<;>omega) _)⟩
 ·have hd:decide (1≤k)=false:=by simp;omega
  rw [hd] at Hok
  clear hd
  go_enter Tryz.func149,Tryz.ntmps149
  go_wp2
  go_ret
  exact ⟨ret_bool (by rw [Hok.out];rfl),by repeat (first|exact Below.refl _ _|refine Below.alloc ?_ (by simp<;>omega) _)⟩
open Go.RowKit Go.Shelf
structure SrTells (W0:World) (D:Nat→Prop) (g:FuncId) (fs cb:Array Value) (Q:Sr→Prop) (p:Sr→Bool):Prop where
 enters:Enters Tryz.prog g
 under:∀ k,D k→k<W0.heap.size
 tells:∀ (W:World) (r:Sr),Q r→(∀ k,D k→W.heap[k]? = W0.heap[k]?)→Calls Tryz.prog g (fs++#[r.val]++cb) W fun e w'=>e = .returned (.bool (p r))∧Below W.heap.size W w'
theorem implIndexS (a:Option Addr) (cap:Nat) (l:List Sr) (g:FuncId) (fs cb:Array Value) (D:Nat→Prop) (Q:Sr→Prop) (p:Sr→Bool) (w:World) (hT:l.length≤1048576) (h:Hid (SrsAt w a l)) (hq:Hid (∀ r∈l,Q r)) (ht:Hid (SrTells w D g fs cb Q p)) :
 Calls Tryz.prog 223 #[.slice a l.length cap,.func (.func g) fs cb] w fun e w'=>e = .returned (.int .i64 (if l.findIdx p<l.length then (l.findIdx p:Int) else -1))∧Below w.heap.size w w':=by
 have eg:∀ args w,(callFunc g args).run Tryz.prog w = .ok (.enter g args) w:=ht.out.enters
 obtain ⟨len,hlen⟩:∃ n,l.length=n:=⟨_,rfl⟩
 have Hlen:Hid (l.length=len):=hlen
 obtain ⟨N,hN⟩:∃ N,l.findIdx p=N:=⟨_,rfl⟩
 have HN:Hid (l.findIdx p=N):=hN
 have hNl:N≤len:=by rw [← hN,← hlen];exact List.findIdx_le_length
 rw [hlen] at hT ⊢
 rw [hN]
 clear hlen hN
 go_enter Tryz.func223,Tryz.ntmps223
 go_wp2
 go_loopw [8] (fun i wr=>∃ k:Nat,k≤N∧i = .int .i64 k∧Hid (Below w.heap.size w wr)) (fun i _=>len-(intOf i).toNat)
 case atStart=>exact ⟨0,Nat.zero_le _,rfl,Below.refl _ _⟩
 case round =>
  obtain ⟨k,hk,rfl,H1⟩:=hrel
  by_cases hlt:k<len
  ·have R:Hid (SrsAt wr a l):=h.out.below H1.out
   obtain ⟨b1,o1,ha1,hb1,-⟩:=R.out k (by rw [Hlen.out];exact hlt)
   subst ha1
   obtain ⟨c0,c1,c2⟩:=R.out.cells (k:=k) (by rw [Hlen.out];exact hlt)
   have hmem:srAt l k∈l:=by rw [srAt_lt (by rw [Hlen.out];exact hlt)];exact List.getElem_mem _
   have HC:=ht.out.tells wr (srAt l k) (hq.out _ hmem) fun j hj=>H1.out.block j (ht.out.under j hj)
   unfold Sr.val at HC
   have hlt':(k:Int)<(len:Int):=by omega
   by_cases hkN:k=N
   ·have hp:p (srAt l k)=true:=by
     rw [srAt_lt (by rw [Hlen.out];exact hlt)]
     have:=List.findIdx_getElem (p:=p) (xs:=l) (w:=by rw [HN.out,Hlen.out,← hkN];exact hlt)
     simpa only [HN.out,← hkN] using this
    rw [hp] at HC
    clear hmem hp R
    generalize srAt l k=r at c0 c1 c2 HC
    subst hkN
    go_wp2_with fail
    refine HC.mono ?_
    rintro e w' ⟨rfl,hb'⟩
    have B2:Hid (Below w.heap.size w w'):=H1.out.trans (hb'.mono H1.out.size)
    clear hb' H1 HC c0 c1 c2
    go_wp2
    go_ret
    exact ⟨by first|rfl|(rw [if_pos hlt];rfl),B2.out⟩
   ·have hp:p (srAt l k)=false:=by
     rw [srAt_lt (by rw [Hlen.out];exact hlt)]
     have:=List.not_of_lt_findIdx (p:=p) (xs:=l) (i:=k) (by rw [HN.out];omega)
     simpa using this
    rw [hp] at HC
    clear hmem hp R
    generalize srAt l k=r at c0 c1 c2 HC
    go_wp2_with fail
    refine HC.mono ?_
    rintro e w' ⟨rfl,hb'⟩
    have B2:Hid (Below w.heap.size w w'):=H1.out.trans (hb'.mono H1.out.size)
    clear hb' H1 HC c0 c1 c2
    go_wp2
    go_roundw
    case rel=>exact ⟨k+1,by omega,by go_num,B2⟩
    case measure=>simp [intOf];omega
  ·obtain rfl:k=len:=by omega
   obtain rfl:k=N:=by omega
   go_wp2
   go_ret
   exact ⟨by first|rfl|(rw [if_neg (Nat.lt_irrefl _)];rfl),H1.out⟩
theorem implContainsS (a:Option Addr) (cap:Nat) (l:List Sr) (g:FuncId) (fs cb:Array Value) (D:Nat→Prop) (Q:Sr→Prop) (p:Sr→Bool) (w:World) (hT:l.length≤1048576) (h:Hid (SrsAt w a l)) (hq:Hid (∀ r∈l,Q r)) (ht:Hid (SrTells w D g fs cb Q p)) :
 Calls Tryz.prog 155 #[.slice a l.length cap,.func (.func g) fs cb] w fun e w'=>e = .returned (.bool (l.any p))∧Below w.heap.size w w':=by
 have I:=fun (w:World) h ht=>implIndexS a cap l g fs cb D Q p w hT h hq ht
 have Ha:Hid (decide (l.findIdx p<l.length)=l.any p):=any_idxT l p
 generalize l.any p=b at Ha ⊢
 by_cases hlt:l.findIdx p<l.length
 ·rw [if_pos hlt] at I
  rw [decide_eq_true hlt] at Ha
  generalize l.findIdx p=N at I hlt
  generalize l.length=len at I hlt hT ⊢
  have I':Hid _:=I
  clear I hlt
  have hp:(0:Int)≤(N:Int):=by omega
  go_enter Tryz.func155,Tryz.ntmps155
  go_wp2_with fail
  refine (I'.out _ h ht).mono ?_
  rintro e w' ⟨rfl,hb⟩
  have B2:Hid (Below w.heap.size w w'):=hb
  clear hb
  go_wp2
  go_ret
  exact ⟨ret_bool (by rw [← Ha.out]),B2.out⟩
 ·rw [if_neg hlt] at I
  rw [decide_eq_false hlt] at Ha
  generalize l.length=len at I hT ⊢
  have I':Hid _:=I
  clear I hlt
  go_enter Tryz.func155,Tryz.ntmps155
  go_wp2_with fail
  refine (I'.out _ h ht).mono ?_
  rintro e w' ⟨rfl,hb⟩
  have B2:Hid (Below w.heap.size w w'):=hb
  clear hb
  go_wp2
  go_ret
  exact ⟨ret_bool (by rw [← Ha.out]),B2.out⟩
open Go.RowKit Go.Shelf
theorem implBadSr (r:Sr) (w:World) :
 Calls Tryz.prog 156 #[r.val] w fun e w'=>e = .returned (.bool (!r.ok))∧Below w.heap.size w w':=by
 have O:=fun w=>implSteerOk r w
 generalize r.ok=ok at O ⊢
 obtain ⟨r1,r2,r3⟩:=r
 simp only [Sr.val] at O ⊢
 have H:Hid (Below w.heap.size w (w.alloc (.cells #[.int .i64 r1,.int .i64 r2,.int .i64 r3] 114))):=(Below.refl _ _).alloc nlr _
 have O':Hid _:=O
 clear O
 go_enter Tryz.func156,Tryz.ntmps156
 go_wp2_with fail
 refine (O'.out _).mono ?_
 rintro e w2 ⟨rfl,q⟩
 have H2:Hid (Below w.heap.size w w2):=H.out.trans (q.mono H.out.size)
 clear q O' H
 go_wp2
 go_ret
 exact ⟨rfl,H2.out⟩
theorem any_bad (l:List Sr):(l.any fun r => !r.ok) = !l.all Sr.ok:=by
 induction l with
 |nil=>rfl
 |cons a l ih=>rw [List.any_cons,List.all_cons,ih,Bool.not_and]
theorem implTreeOkV (g:Gt) (x:Ga) (w:World) (hT:g.tree.length≤1048576) (h:GtV w x g) :
 Calls Tryz.prog 152 #[.slice x.a3 g.tree.length x.c3] w fun e w'=>e = .returned (.bool (tok g.tree))∧Below w.heap.size w w':=by
 obtain ⟨a,c,e,h1,h2,h3⟩:=h.tree
 cases e
 exact implTreeOk g.tree _ _ w hT h2 h3 h1
theorem implParts (g:Gt) (x:Ga) (w:World) (hB:g.big≤1048576) (h:Hid (GtV w x g)) :
 Calls Tryz.prog 90 #[g.val x] w fun e w'=>e = .returned (.bool g.parts)∧Below w.heap.size w w':=by
 obtain ⟨s1,s2,s3,s4,s5,s6,s7⟩:=Gt.small hB
 have A1:=fun w=>implLineOk g.ln w
 have A2:=fun w (h:GtV w x g)=>implOk x.a1 x.c1 g.routes w s1 h.routes.spot'
 have A3:=fun w (h:GtV w x g)=>implRules x.a2 x.c2 g.rules w s2 h.rules.spot'
 have A4:=fun w (h:GtV w x g)=>implTreeOkV g x w s3 h
 have A5:=fun w (h:GtV w x g)=>implRowsOk g.rows x.a5 x.c5 w s5 h.rows.spot
 have A6:=fun w (h:GtV w x g)=>implFairOk g.fair (g.fair.val x.a7 x.c7) w s7 h.fair
 have A7:=fun w (h:GtV w x g)=>implContainsS x.a6 x.c6 g.steers 156 #[] #[] (fun _=>False) (fun _=>True) (fun r => !r.ok) w s6 h.steers.spot' (fun _ _=>trivial) ⟨enters_of Tryz.func156 (by kernel_rfl) rfl,fun _ hk=>hk.elim,fun W r _ _=>implBadSr r W⟩
 have Hv:Hid (g.parts=(g.ln.ok&&(rtsOk g.routes&&(rusOk g.rules&&(tok g.tree&&(g.rows.ok&&(g.fair.ok && !(g.steers.any fun r => !r.ok)))))))):=by show _=_;unfold Gt.parts;rw [any_bad,Bool.not_not]
 unfold Ln.val at A1
 unfold Rw.val at A5
 unfold Fs.val at A6
 generalize g.parts=R at Hv ⊢
 generalize g.ln.ok=o1 at A1 Hv
 generalize rtsOk g.routes=o2 at A2 Hv
 generalize rusOk g.rules=o3 at A3 Hv
 generalize tok g.tree=o4 at A4 Hv
 generalize g.rows.ok=o5 at A5 Hv
 generalize g.fair.ok=o6 at A6 Hv
 generalize (g.steers.any fun r => !r.ok)=o7 at A7 Hv
 have K:Hid (∀ w',Below w.heap.size w w'→GtV w' x g):=fun w' q=>h.out.below q
 unfold Gt.val Gt.cells
 generalize g.ln.kind=kd at A1 ⊢
 generalize g.ln.extra=ex at A1 ⊢
 generalize g.ln.least=le at A1 ⊢
 generalize g.routes.length=n1 at A2 ⊢
 generalize g.rules.length=n2 at A3 ⊢
 generalize g.tree.length=n3 at A4 ⊢
 generalize g.leaves.length=n4
 generalize g.rows.most=mo at A5 ⊢
 generalize g.rows.lists.length=n5 at A5 ⊢
 generalize g.steers.length=n6 at A7 ⊢
 generalize g.fair.now=nw at A6 ⊢
 generalize g.fair.flows.length=n7 at A6 ⊢
 generalize g.next=nx
 generalize g.draw=dr
 have B1:Hid _:=A1
 clear A1
 have A1:=B1
 clear B1
 have B2:Hid _:=A2
 clear A2
 have A2:=B2
 clear B2
 have B3:Hid _:=A3
 clear A3
 have A3:=B3
 clear B3
 have B4:Hid _:=A4
 clear A4
 have A4:=B4
 clear B4
 have B5:Hid _:=A5
 clear A5
 have A5:=B5
 clear B5
 have B6:Hid _:=A6
 clear A6
 have A6:=B6
 clear B6
 have B7:Hid _:=A7
 clear A7
 have A7:=B7
 clear B7
 obtain ⟨A,hAq⟩:∃ A,A=w.heap.size:=⟨_,rfl⟩
 obtain ⟨W0,hW⟩:∃ W,W=w.alloc (.cells #[.int .i64 kd,.int .i64 ex,.int .i64 le,.slice x.a1 n1 x.c1,.slice x.a2 n2 x.c2,.slice x.a3 n3 x.c3,.slice x.a4 n4 x.c4,.int .i64 mo,.slice x.a5 n5 x.c5,.slice x.a6 n6 x.c6,.int .i64 nw,.slice x.a7 n7 x.c7,.int .i64 nx,.int .i64 dr] 50):=⟨_,rfl⟩
 have Z0:Hid (Boxed W0 A #[.int .i64 kd,.int .i64 ex,.int .i64 le,.slice x.a1 n1 x.c1,.slice x.a2 n2 x.c2,.slice x.a3 n3 x.c3,.slice x.a4 n4 x.c4,.int .i64 mo,.slice x.a5 n5 x.c5,.slice x.a6 n6 x.c6,.int .i64 nw,.slice x.a7 n7 x.c7,.int .i64 nx,.int .i64 dr] 50∧Below w.heap.size w W0):=by
  have bw:Below w.heap.size w W0:=by rw [hW];exact (Below.refl _ _).alloc nlr _
  exact ⟨by rw [hW,hAq];exact Boxed.new _ _ _,bw⟩
 have HW:Hid (W0=_):=hW
 have HA:Hid (A=_):=hAq
 clear hW hAq h hB s1 s2 s3 s4 s5 s6 s7
 go_enter Tryz.func90,Tryz.ntmps90
 go_upto_region 1 with fail
 rw [← HW.out,← HA.out]
 clear HW HA
 have c0:∀ p:BelW W0.heap.size W0,p.w'.cell? ⟨A,0,none⟩=some (.int .i64 kd):=fun p=>(Z0.out.1.below Z0.out.1.under p.h).cell 0 rfl
 have c1:∀ p:BelW W0.heap.size W0,p.w'.cell? ⟨A,1,none⟩=some (.int .i64 ex):=fun p=>(Z0.out.1.below Z0.out.1.under p.h).cell 1 rfl
 have c2:∀ p:BelW W0.heap.size W0,p.w'.cell? ⟨A,2,none⟩=some (.int .i64 le):=fun p=>(Z0.out.1.below Z0.out.1.under p.h).cell 2 rfl
 have c3:∀ p:BelW W0.heap.size W0,p.w'.cell? ⟨A,3,none⟩=some (.slice x.a1 n1 x.c1):=fun p=>(Z0.out.1.below Z0.out.1.under p.h).cell 3 rfl
 have c4:∀ p:BelW W0.heap.size W0,p.w'.cell? ⟨A,4,none⟩=some (.slice x.a2 n2 x.c2):=fun p=>(Z0.out.1.below Z0.out.1.under p.h).cell 4 rfl
 have c5:∀ p:BelW W0.heap.size W0,p.w'.cell? ⟨A,5,none⟩=some (.slice x.a3 n3 x.c3):=fun p=>(Z0.out.1.below Z0.out.1.under p.h).cell 5 rfl
 have c7:∀ p:BelW W0.heap.size W0,p.w'.cell? ⟨A,7,none⟩=some (.int .i64 mo):=fun p=>(Z0.out.1.below Z0.out.1.under p.h).cell 7 rfl
 have c8:∀ p:BelW W0.heap.size W0,p.w'.cell? ⟨A,8,none⟩=some (.slice x.a5 n5 x.c5):=fun p=>(Z0.out.1.below Z0.out.1.under p.h).cell 8 rfl
 have c9:∀ p:BelW W0.heap.size W0,p.w'.cell? ⟨A,9,none⟩=some (.slice x.a6 n6 x.c6):=fun p=>(Z0.out.1.below Z0.out.1.under p.h).cell 9 rfl
 have c10:∀ p:BelW W0.heap.size W0,p.w'.cell? ⟨A,10,none⟩=some (.int .i64 nw):=fun p=>(Z0.out.1.below Z0.out.1.under p.h).cell 10 rfl
 have c11:∀ p:BelW W0.heap.size W0,p.w'.cell? ⟨A,11,none⟩=some (.slice x.a7 n7 x.c7):=fun p=>(Z0.out.1.below Z0.out.1.under p.h).cell 11 rfl
 have Kp:Hid (∀ p:BelW W0.heap.size W0,GtV p.w' x g):=fun p=>K.out _ (Z0.out.2.trans (p.h.mono Z0.out.2.size))
 have Sp:Hid (∀ w2,Below W0.heap.size W0 w2→Below w.heap.size w w2):=fun w2 q=>Z0.out.2.trans (q.mono Z0.out.2.size)
 clear Z0 K
 haveI:Nonempty (BelW W0.heap.size W0):=⟨⟨W0,Below.refl _ _⟩⟩
 cases o1
 ·have e:R=false:=by rw [Hv.out];rfl
  subst e
  refine region_belowS W0.heap.size ?_
  try simp only [List.append]
  repeat (go_big_quiet_step (first|(go_at_call 149;with_reducible refine qb (A1.out _))|(go_at_call 150;with_reducible refine qb (A2.out _ (Kp.out _)))|(go_at_call 151;with_reducible refine qb (A3.out _ (Kp.out _)))|(go_at_call 152;with_reducible refine qb (A4.out _ (Kp.out _)))|(go_at_call 153;with_reducible refine qb (A5.out _ (Kp.out _)))|(go_at_call 154;with_reducible refine qb (A6.out _ (Kp.out _)))|(go_at_call 155;with_reducible refine qb (A7.out _ (Kp.out _)))))
  refine wpQuiet_nil ?_
  intro w2 hx
  have Z2:Hid (Below w.heap.size w w2):=Sp.out _ (BelW.out hx)
  clear hx Kp Sp c0 c1 c2 c3 c4 c5 c7 c8 c9 c10 c11
  go_wp2
  go_ret
  exact ⟨rfl,Z2.out⟩
 cases o2
 ·have e:R=false:=by rw [Hv.out];rfl
  subst e
  refine region_belowS W0.heap.size ?_
  try simp only [List.append]
  repeat (go_big_quiet_step (first|(go_at_call 149;with_reducible refine qb (A1.out _))|(go_at_call 150;with_reducible refine qb (A2.out _ (Kp.out _)))|(go_at_call 151;with_reducible refine qb (A3.out _ (Kp.out _)))|(go_at_call 152;with_reducible refine qb (A4.out _ (Kp.out _)))|(go_at_call 153;with_reducible refine qb (A5.out _ (Kp.out _)))|(go_at_call 154;with_reducible refine qb (A6.out _ (Kp.out _)))|(go_at_call 155;with_reducible refine qb (A7.out _ (Kp.out _)))))
  refine wpQuiet_nil ?_
  intro w2 hx
  have Z2:Hid (Below w.heap.size w w2):=Sp.out _ (BelW.out hx)
  clear hx Kp Sp c0 c1 c2 c3 c4 c5 c7 c8 c9 c10 c11
  go_wp2
  go_ret
  exact ⟨rfl,Z2.out⟩
 cases o3
 ·have e:R=false:=by rw [Hv.out];rfl
  subst e
  refine region_belowS W0.heap.size ?_
  try simp only [List.append]
  repeat (go_big_quiet_step (first|(go_at_call 149;with_reducible refine qb (A1.out _))|(go_at_call 150;with_reducible refine qb (A2.out _ (Kp.out _)))|(go_at_call 151;with_reducible refine qb (A3.out _ (Kp.out _)))|(go_at_call 152;with_reducible refine qb (A4.out _ (Kp.out _)))|(go_at_call 153;with_reducible refine qb (A5.out _ (Kp.out _)))|(go_at_call 154;with_reducible refine qb (A6.out _ (Kp.out _)))|(go_at_call 155;with_reducible refine qb (A7.out _ (Kp.out _)))))
  refine wpQuiet_nil ?_
  intro w2 hx
  have Z2:Hid (Below w.heap.size w w2):=Sp.out _ (BelW.out hx)
  clear hx Kp Sp c0 c1 c2 c3 c4 c5 c7 c8 c9 c10 c11
  go_wp2
  go_ret
  exact ⟨rfl,Z2.out⟩
 cases o4
 ·have e:R=false:=by rw [Hv.out];rfl
  subst e
  refine region_belowS W0.heap.size ?_
  try simp only [List.append]
  repeat (go_big_quiet_step (first|(go_at_call 149;with_reducible refine qb (A1.out _))|(go_at_call 150;with_reducible refine qb (A2.out _ (Kp.out _)))|(go_at_call 151;with_reducible refine qb (A3.out _ (Kp.out _)))|(go_at_call 152;with_reducible refine qb (A4.out _ (Kp.out _)))|(go_at_call 153;with_reducible refine qb (A5.out _ (Kp.out _)))|(go_at_call 154;with_reducible refine qb (A6.out _ (Kp.out _)))|(go_at_call 155;with_reducible refine qb (A7.out _ (Kp.out _)))))
  refine wpQuiet_nil ?_
  intro w2 hx
  have Z2:Hid (Below w.heap.size w w2):=Sp.out _ (BelW.out hx)
  clear hx Kp Sp c0 c1 c2 c3 c4 c5 c7 c8 c9 c10 c11
  go_wp2
  go_ret
  exact ⟨rfl,Z2.out⟩
 cases o5
 ·have e:R=false:=by rw [Hv.out];rfl
  subst e
  refine region_belowS W0.heap.size ?_
  try simp only [List.append]
  repeat (go_big_quiet_step (first|(go_at_call 149;with_reducible refine qb (A1.out _))|(go_at_call 150;with_reducible refine qb (A2.out _ (Kp.out _)))|(go_at_call 151;with_reducible refine qb (A3.out _ (Kp.out _)))|(go_at_call 152;with_reducible refine qb (A4.out _ (Kp.out _)))|(go_at_call 153;with_reducible refine qb (A5.out _ (Kp.out _)))|(go_at_call 154;with_reducible refine qb (A6.out _ (Kp.out _)))|(go_at_call 155;with_reducible refine qb (A7.out _ (Kp.out _)))))
  refine wpQuiet_nil ?_
  intro w2 hx
  have Z2:Hid (Below w.heap.size w w2):=Sp.out _ (BelW.out hx)
  clear hx Kp Sp c0 c1 c2 c3 c4 c5 c7 c8 c9 c10 c11
  go_wp2
  go_ret
  exact ⟨rfl,Z2.out⟩
 cases o6
 ·have e:R=false:=by rw [Hv.out];rfl
  subst e
  refine region_belowS W0.heap.size ?_
  try simp only [List.append]
  repeat (go_big_quiet_step (first|(go_at_call 149;with_reducible refine qb (A1.out _))|(go_at_call 150;with_reducible refine qb (A2.out _ (Kp.out _)))|(go_at_call 151;with_reducible refine qb (A3.out _ (Kp.out _)))|(go_at_call 152;with_reducible refine qb (A4.out _ (Kp.out _)))|(go_at_call 153;with_reducible refine qb (A5.out _ (Kp.out _)))|(go_at_call 154;with_reducible refine qb (A6.out _ (Kp.out _)))|(go_at_call 155;with_reducible refine qb (A7.out _ (Kp.out _)))))
  refine wpQuiet_nil ?_
  intro w2 hx
  have Z2:Hid (Below w.heap.size w w2):=Sp.out _ (BelW.out hx)
  clear hx Kp Sp c0 c1 c2 c3 c4 c5 c7 c8 c9 c10 c11
  go_wp2
  go_ret
  exact ⟨rfl,Z2.out⟩
 ·have e:R = !o7:=by rw [Hv.out];rfl
  subst e
  refine region_belowS W0.heap.size ?_
  try simp only [List.append]
  repeat (go_big_quiet_step (first|(go_at_call 149;with_reducible refine qb (A1.out _))|(go_at_call 150;with_reducible refine qb (A2.out _ (Kp.out _)))|(go_at_call 151;with_reducible refine qb (A3.out _ (Kp.out _)))|(go_at_call 152;with_reducible refine qb (A4.out _ (Kp.out _)))|(go_at_call 153;with_reducible refine qb (A5.out _ (Kp.out _)))|(go_at_call 154;with_reducible refine qb (A6.out _ (Kp.out _)))|(go_at_call 155;with_reducible refine qb (A7.out _ (Kp.out _)))))
  refine wpQuiet_nil ?_
  intro w2 hx
  have Z2:Hid (Below w.heap.size w w2):=Sp.out _ (BelW.out hx)
  clear hx Kp Sp c0 c1 c2 c3 c4 c5 c7 c8 c9 c10 c11
  go_wp2
  go_ret
  exact ⟨rfl,Z2.out⟩
theorem lv_hit {ls:List Int} {n k:Nat} (h:k<ls.length) (g:lvB ls n k=false):(List.range ls.length).all (lvB ls n)=false:=by
 rw [List.all_eq_false]
 exact ⟨k,List.mem_range.2 h,by rw [g];decide⟩
theorem lv_succ (ls:List Int) (n k:Nat):(List.range (k+1)).all (lvB ls n)=((List.range k).all (lvB ls n)&&lvB ls n k):=by
 simp [List.range_succ]
theorem implLeavesOk (ls:List Int) (a:Option Addr) (c n:Nat) (w:World) (hn:n≤1048576) (hT:ls.length≤1048576) (h:Hid (IntsAt w a ls)) :
 Calls Tryz.prog 91 #[.slice a ls.length c,.int .i64 (n:Int)] w fun e w'=>e = .returned (.bool (lvOk ls n))∧Below w.heap.size w w':=by
 have Hv:Hid (lvOk ls n=(inB 1 8 (ls.length:Int)&&(List.range ls.length).all (lvB ls n))):=by
  show lvOk ls n=_
  unfold lvOk
  rw [← Bool.and_assoc]
  congr 1
  rw [Bool.eq_iff_iff]
  simp only [Bool.and_eq_true,decide_eq_true_eq,inB_true]
  omega
 have Hh:Hid (∀ k,k<ls.length→lvB ls n k=false→(List.range ls.length).all (lvB ls n)=false):=fun k hk g=>lv_hit hk g
 have Hs:Hid (∀ k,(List.range (k+1)).all (lvB ls n)=((List.range k).all (lvB ls n)&&lvB ls n k)):=fun k=>lv_succ ls n k
 have Hb:Hid (∀ k,lvB ls n k=(inB 0 ((n:Int)-1) (ls[k]?.getD 0)&&(decide (k=0)||decide (ls[k-1]?.getD 0<ls[k]?.getD 0)))):=fun k=>by
  unfold lvB
  rw [← Bool.and_assoc]
  congr 1
  rw [Bool.eq_iff_iff]
  simp only [Bool.and_eq_true,decide_eq_true_eq,inB_true]
  omega
 obtain ⟨len,hlen⟩:∃ m,ls.length=m:=⟨_,rfl⟩
 have Hlen:Hid (ls.length=len):=hlen
 rw [hlen] at hT Hv Hh ⊢
 clear hlen
 have F:=fun B w hB=>implFromOne 8 (len:Int) B w hB
 have AP:=fun p w=>implPlace n p w hn
 generalize lvOk ls n=R at Hv ⊢
 generalize inB 1 8 (len:Int)=ok at F Hv
 have F':Hid _:=F
 have AP':Hid _:=AP
 clear F AP
 have N1:Hid (Below w.heap.size w (w.alloc (.cells #[.int .i64 (len:Int)] 2))):=(Below.refl _ _).alloc nlr _
 go_enter Tryz.func91,Tryz.ntmps91
 go_wp2_with fail
 refine (F'.out _ w rfl).mono ?_
 rintro e w1 ⟨rfl,hw1⟩
 have B1:Hid (Below w.heap.size w w1):=by rw [hw1];exact N1.out
 clear hw1 F' N1
 cases ok
 ·have e1:R=false:=by rw [Hv.out];rfl
  subst e1
  go_wp2
  go_ret
  exact ⟨rfl,B1.out⟩
 have e1:R=(List.range len).all (lvB ls n):=by rw [Hv.out,Bool.true_and]
 have HR:Hid _:=e1
 clear e1 Hv
 go_wp2
 go_loopw [5,6,14] (fun _ _ i wr=>∃ k:Nat,k≤len∧i = .int .i64 k∧Hid ((List.range k).all (lvB ls n)=true)∧Hid (Below w.heap.size w wr)) (fun _ _ i _=>len-(intOf i).toNat)
 case atStart=>exact ⟨0,Nat.zero_le _,rfl,rfl,B1.out⟩
 case round =>
  obtain ⟨k,hk,rfl,hg,HB⟩:=hrel
  by_cases hlt:k<len
  ·have hlt':(k:Int)<(len:Int):=by omega
   have Rr:Hid (IntsAt wr a ls):=h.out.below HB.out
   obtain ⟨b1,o1,ha1,hb1,c0⟩:=Rr.out k (by rw [Hlen.out];exact hlt)
   subst ha1
   have AP:=fun w=>AP'.out (ls[k]?.getD 0) w
   have hb:=Hb.out k
   have hh:=Hh.out k hlt
   have hs:=Hs.out k
   rw [hg.out,Bool.true_and] at hs
   have P1:Hid (∀ j,j<k→∀ w2,Below wr.heap.size wr w2→w2.cell? ⟨b1,o1+j,none⟩=some (.int .i64 (ls[j]?.getD 0))):=fun j hj w2 q=>by
    obtain ⟨b2,o2,ha2,hb2,d0⟩:=(Rr.out.below q) j (by rw [Hlen.out];omega)
    cases ha2
    exact d0
   generalize lvB ls n k=lb at hb hh hs
   have HS:Hid _:=hs
   have HH:Hid _:=hh
   have HP:Hid (∀ j,k=j+1→ls[k-1]?.getD 0=ls[j]?.getD 0):=fun j e=>by rw [e];rfl
   generalize ls[k-1]?.getD 0=y at hb HP
   generalize ls[k]?.getD 0=x at c0 AP hb
   generalize inB 0 ((n:Int)-1) x=pl at AP hb
   have AP2:Hid _:=AP
   have HB2:Hid _:=hb
   clear hb hh hs AP
   have Bx:Hid (Below wr.heap.size wr (wr.alloc (.cells #[.int .i64 x] 2))):=(Below.refl _ _).alloc nlr _
   go_wp2_with fail
   refine (AP2.out _).mono ?_
   rintro e w2 ⟨rfl,hw2⟩
   have B2:Hid (Below wr.heap.size wr w2):=by rw [hw2];exact Bx.out
   clear hw2 AP2 Bx
   cases pl
   ·have e1:R=false:=by rw [HR.out];exact HH.out (by rw [HB2.out];rfl)
    subst e1
    have B3:Hid (Below w.heap.size w w2):=HB.out.trans (B2.out.mono HB.out.size)
    go_wp2
    go_ret
    exact ⟨rfl,B3.out⟩
   by_cases hk0:k=0
   ·subst hk0
    have hg2:Hid ((List.range (0+1)).all (lvB ls n)=true):=by show _=true;rw [HS.out,HB2.out];rfl
    have B3:Hid (Below w.heap.size w w2):=HB.out.trans (B2.out.mono HB.out.size)
    clear HS HB2 HH HP P1 B2
    go_wp2
    go_roundw
    case rel=>exact ⟨1,by omega,by go_num,hg2,B3⟩
    case measure=>simp [intOf];omega
   obtain ⟨j,rfl⟩:∃ j,k=j+1:=⟨k-1,by omega⟩
   have d0:=P1.out j (by omega) w2 B2.out
   rw [← HP.out j rfl] at d0
   have hb12:b1<w2.heap.size:=Nat.lt_of_lt_of_le hb1 B2.out.size
   have B3:Hid (Below w.heap.size w w2):=HB.out.trans (B2.out.mono HB.out.size)
   have hj0:(0:Int)≤(j:Int):=by omega
   have hjl:(j:Int)<(len:Int):=by omega
   have hj1:(0:Int)<(j:Int)+1:=by omega
   by_cases hL:x≤y
   ·have e1:R=false:=by rw [HR.out];exact HH.out (by rw [HB2.out,decide_eq_false (by omega),decide_eq_false (by omega)];rfl)
    subst e1
    clear HS HB2 HH HP P1 B2
    go_wp2
    go_ret
    exact ⟨rfl,B3.out⟩
   ·have hg2:Hid ((List.range (j+1+1)).all (lvB ls n)=true):=by show _=true;rw [HS.out,HB2.out,decide_eq_true (show y<x by omega)];simp
    clear HS HB2 HH HP P1 B2
    go_wp2
    go_roundw
    case rel=>exact ⟨j+1+1,by omega,by go_num,hg2,B3⟩
    case measure=>simp [intOf];omega
  ·obtain rfl:k=len:=by omega
   have e1:R=true:=by rw [HR.out];exact hg.out
   subst e1
   go_wp2
   go_ret
   exact ⟨rfl,HB.out⟩
open Go.RowKit Go.Shelf
structure EqTells (W0:World) (g:FuncId) (fs cb:Array Value) (p:It→Int→Bool):Prop where
 enters:Enters Tryz.prog g
 tells:∀ (W:World) (r:It) (z:Int),Below W0.heap.size W0 W→Calls Tryz.prog g (fs++(#[r.val,.int .i64 z]++cb)) W fun e w'=>e = .returned (.bool (p r z))∧Below W.heap.size W w'
def eqAll (p:It→Int→Bool) (l:List It) (s:List Int) (n:Nat):Bool:=(List.range n).all fun k=>p (itAt l k) (s[k]?.getD 0)
theorem eqAll_succ (p:It→Int→Bool) (l:List It) (s:List Int) (n:Nat):eqAll p l s (n+1)=(eqAll p l s n&&p (itAt l n) (s[n]?.getD 0)):=by
 simp [eqAll,List.range_succ]
theorem eqAll_hit {p:It→Int→Bool} {l:List It} {s:List Int} {k n:Nat} (h:k<n) (g:p (itAt l k) (s[k]?.getD 0)=false):eqAll p l s n=false:=by
 unfold eqAll
 rw [List.all_eq_false]
 exact ⟨k,List.mem_range.2 h,by rw [g];decide⟩
theorem implEqualT (a:Option Addr) (c:Nat) (l:List It) (a2:Option Addr) (c2:Nat) (s:List Int) (g:FuncId) (fs cb:Array Value) (p:It→Int→Bool) (w:World) (hT:l.length≤1048576) (hS:s.length≤1048576) (h:Hid (ItsAt w a l)) (h2:Hid (IntsAt w a2 s)) (ht:Hid (EqTells w g fs cb p)) :
 Calls Tryz.prog 159 #[.slice a l.length c,.slice a2 s.length c2,.func (.func g) fs cb] w fun e w'=>e = .returned (.bool (decide (l.length=s.length)&&eqAll p l s l.length))∧Below w.heap.size w w':=by
 have eg:∀ args w,(callFunc g args).run Tryz.prog w = .ok (.enter g args) w:=ht.out.enters
 obtain ⟨len,hlen⟩:∃ n,l.length=n:=⟨_,rfl⟩
 have Hlen:Hid (l.length=len):=hlen
 obtain ⟨ls,hls⟩:∃ n,s.length=n:=⟨_,rfl⟩
 have Hls:Hid (s.length=ls):=hls
 rw [hlen] at hT
 rw [hls] at hS
 rw [hlen,hls]
 clear hlen hls
 have Hv:Hid ((decide (len=ls)&&eqAll p l s len)=(decide (len=ls)&&eqAll p l s len)):=rfl
 generalize hR:(decide (len=ls)&&eqAll p l s len)=R at Hv ⊢
 have HR:Hid (R=(decide (len=ls)&&eqAll p l s len)):=hR.symm
 clear hR Hv
 by_cases hne:len=ls
 case neg =>
  have e1:R=false:=by rw [HR.out,decide_eq_false hne];rfl
  subst e1
  have hn2:¬ (len:Int)=(ls:Int):=by omega
  have hn3:((len:Int) != (ls:Int))=true:=by simpa using hn2
  go_enter Tryz.func159,Tryz.ntmps159
  go_wp2
  go_ret
  exact ⟨rfl,Below.refl _ _⟩
 subst hne
 have HR2:Hid (R=eqAll p l s len):=by show R=_;rw [HR.out,decide_eq_true rfl,Bool.true_and]
 clear HR
 go_enter Tryz.func159,Tryz.ntmps159
 go_wp2
 go_loopw [7,8,9,17] (fun _ _ _ i wr=>∃ k:Nat,k≤len∧i = .int .i64 k∧Hid (eqAll p l s k=true)∧Hid (Below w.heap.size w wr)) (fun _ _ _ i _=>len-(intOf i).toNat)
 case atStart=>exact ⟨0,Nat.zero_le _,rfl,rfl,Below.refl _ _⟩
 case round =>
  obtain ⟨k,hk,rfl,Hg,H1⟩:=hrel
  by_cases hlt:k<len
  ·have R1:Hid (ItsAt wr a l):=h.out.below H1.out
   obtain ⟨b1,o1,ha1,hb1,-⟩:=R1.out k (by rw [Hlen.out];exact hlt)
   subst ha1
   obtain ⟨c0,c1,c2'⟩:=R1.out.cells (k:=k) (by rw [Hlen.out];exact hlt)
   have S1:Hid (IntsAt wr a2 s):=h2.out.below H1.out
   obtain ⟨b2,o2,ha2,hb2,d0⟩:=S1.out k (by rw [Hls.out];exact hlt)
   subst ha2
   have HC:=fun W q=>ht.out.tells W (itAt l k) (s[k]?.getD 0) (H1.out.trans ((show Below wr.heap.size wr W from q).mono H1.out.size))
   have hs:=eqAll_succ p l s k
   rw [Hg.out,Bool.true_and] at hs
   have hh:p (itAt l k) (s[k]?.getD 0)=false→eqAll p l s len=false:=fun e=>eqAll_hit hlt e
   unfold It.val at HC
   have hlt':(k:Int)<(len:Int):=by omega
   generalize p (itAt l k) (s[k]?.getD 0)=pk at HC hs hh
   generalize itAt l k=r at c0 c1 c2' HC
   generalize s[k]?.getD 0=z at d0 HC
   obtain ⟨r1,r2,r3⟩:=r
   simp only at c0 c1 c2' HC
   have Hs:Hid _:=hs
   have Hh:Hid _:=hh
   have HC':Hid _:=HC
   clear hs hh HC R1 S1
   have N:Hid (Boxed (wr.alloc (.cells #[.int .i64 0,.int .i64 0,.int .i64 0] 52)) wr.heap.size #[.int .i64 0,.int .i64 0,.int .i64 0] 52):=Boxed.new _ _ _
   have bN:Hid (Below wr.heap.size wr ((wr.alloc (.cells #[.int .i64 0,.int .i64 0,.int .i64 0] 52)).setRow wr.heap.size #[.int .i64 r1,.int .i64 r2,.int .i64 r3])):=below_setRow ((Below.refl _ _).alloc nlr _) nlr _
   have X2:Hid (Boxed ((wr.alloc (.cells #[.int .i64 0,.int .i64 0,.int .i64 0] 52)).setRow wr.heap.size #[.int .i64 r1,.int .i64 r2,.int .i64 r3]) wr.heap.size #[.int .i64 r1,.int .i64 r2,.int .i64 r3] 52):=setRow_heap _ _ _ _ _ _ N.out
   have d1:((wr.alloc (.cells #[.int .i64 0,.int .i64 0,.int .i64 0] 52)).setRow wr.heap.size #[.int .i64 r1,.int .i64 r2,.int .i64 r3]).cell? ⟨b2,o2+k,none⟩=some (.int .i64 z):=by rw [bN.out.cell (p:=⟨b2,o2+k,none⟩) hb2];exact d0
   go_upto_region 6 with (refine wpList_store_row rfl 52 (.tmp 8) (.tmp 21) rfl wr.heap.size #[.int .i64 r1,.int .i64 r2,.int .i64 r3] rfl rfl _ _ N.out (by kernel_rfl) rfl (by simp [Value.oneCell']) ?_)
   try simp only [Act.put]
   generalize (wr.alloc (.cells #[.int .i64 0,.int .i64 0,.int .i64 0] 52)).setRow wr.heap.size #[.int .i64 r1,.int .i64 r2,.int .i64 r3]=w2 at bN X2 d1 ⊢
   have HC2:=HC'.out w2 bN.out
   have B2:Hid (Below w.heap.size w w2):=H1.out.trans (bN.out.mono H1.out.size)
   clear HC' N bN
   have x0:w2.cell? ⟨wr.heap.size,0,none⟩=some (.int .i64 r1):=X2.out.cell 0 rfl
   have x1:w2.cell? ⟨wr.heap.size,1,none⟩=some (.int .i64 r2):=X2.out.cell 1 rfl
   have x2:w2.cell? ⟨wr.heap.size,2,none⟩=some (.int .i64 r3):=X2.out.cell 2 rfl
   cases pk
   ·have e1:R=false:=by rw [HR2.out];exact Hh.out rfl
    subst e1
    go_wp2_with fail
    refine HC2.mono ?_
    rintro e w3 ⟨rfl,q⟩
    have B3:Hid (Below w.heap.size w w3):=B2.out.trans (q.mono B2.out.size)
    clear q HC2 B2 X2 x0 x1 x2 d1 d0 c0 c1 c2'
    go_wp2
    go_ret
    exact ⟨rfl,B3.out⟩
   ·go_wp2_with fail
    refine HC2.mono ?_
    rintro e w3 ⟨rfl,q⟩
    have B3:Hid (Below w.heap.size w w3):=B2.out.trans (q.mono B2.out.size)
    clear q HC2 B2 X2 x0 x1 x2 d1 d0 c0 c1 c2'
    go_wp2
    go_roundw
    case rel=>exact ⟨k+1,by omega,by go_num,Hs.out,B3⟩
    case measure=>simp [intOf];omega
  ·obtain rfl:k=len:=by omega
   have e1:R=true:=by rw [HR2.out];exact Hg.out
   subst e1
   go_wp2
   go_ret
   exact ⟨rfl,H1.out⟩
theorem implBegun (c p:Int) (hp:p=48∨p=64) (c0:0≤c) (c1:c≤100100) (w:World) :
 Calls Tryz.prog 249 #[.int .i64 c,.int .i64 p] w fun e w'=>e = .returned (.int .i64 ((c+(p-1))/p))∧w'=w:=by
 rcases hp with rfl|rfl
 ·go_enter Tryz.func249,Tryz.ntmps249
  go_wp2
  go_ret
  exact ⟨ret_num (by omega),rfl⟩
 ·go_enter Tryz.func249,Tryz.ntmps249
  go_wp2
  go_ret
  exact ⟨ret_num (by omega),rfl⟩
theorem implTakes (l:Ln) (n:Int) (hok:l.ok=true) (n0:0≤n) (n1:n≤100000) (w:World) :
 Calls Tryz.prog 195 #[l.val,.int .i64 n] w fun e w'=>e = .returned (.int .i64 (l.takes n))∧w'=w.alloc (.cells l.cells.toArray 38):=by
 have hc0:=(carry_le hok n).1
 have hc1:=carry_most hok n1
 have D1:=fun w=>implBegun (l.carry n) 48 (.inl rfl) hc0 hc1 w
 have D2:=fun w=>implBegun (l.carry n) 64 (.inr rfl) hc0 hc1 w
 have Ht:Hid (l.takes n=takeK l.kind (l.carry n)):=rfl
 have Hk:Hid (∀ c,takeK l.kind c=if l.kind=2 then (c+47)/48*53 else if l.kind=3 then c+(c+63)/64 else c):=fun _=>rfl
 have ho:=Ln.ok_iff.1 hok
 obtain ⟨⟨k0,k1⟩,⟨x0,x1⟩,m0,m1⟩:=ho
 have Hc:Hid (l.carry n=if n+l.extra<l.least then l.least else n+l.extra):=rfl
 generalize l.takes n=t at Ht ⊢
 generalize l.carry n=c at D1 D2 hc0 hc1 Ht Hc
 clear hok
 obtain ⟨k,x,m⟩:=l
 simp only [Ln.val,Ln.cells] at *
 have D1':Hid _:=D1
 have D2':Hid _:=D2
 clear D1 D2
 by_cases hlt:n+x<m
 ·obtain rfl:m=c:=by rw [Hc.out,if_pos hlt]
  by_cases h2:k=2
  ·subst h2
   go_enter Tryz.func195,Tryz.ntmps195
   go_wp2_with fail
   refine (D1'.out _).mono ?_
   rintro e w' ⟨rfl,rfl⟩
   go_wp2
   go_ret
   exact ⟨ret_num (by rw [Ht.out,Hk.out];simp;omega),rfl⟩
  by_cases h3:k=3
  ·subst h3
   go_enter Tryz.func195,Tryz.ntmps195
   go_wp2_with fail
   refine (D2'.out _).mono ?_
   rintro e w' ⟨rfl,rfl⟩
   go_wp2
   go_ret
   exact ⟨ret_num (by rw [Ht.out,Hk.out];simp;omega),rfl⟩
  obtain rfl:1=k:=by omega
  go_enter Tryz.func195,Tryz.ntmps195
  go_wp2
  go_ret
  exact ⟨ret_num (by rw [Ht.out,Hk.out];simp),rfl⟩
 ·obtain ⟨s,hs⟩:∃ s,s=n+x:=⟨_,rfl⟩
  obtain rfl:n+x=c:=by rw [Hc.out,if_neg hlt]
  by_cases h2:k=2
  ·subst h2
   go_enter Tryz.func195,Tryz.ntmps195
   go_wp2_with fail
   refine (D1'.out _).mono ?_
   rintro e w' ⟨rfl,rfl⟩
   go_wp2
   go_ret
   exact ⟨ret_num (by rw [Ht.out,Hk.out];simp;omega),rfl⟩
  by_cases h3:k=3
  ·subst h3
   go_enter Tryz.func195,Tryz.ntmps195
   go_wp2_with fail
   refine (D2'.out _).mono ?_
   rintro e w' ⟨rfl,rfl⟩
   go_wp2
   go_ret
   exact ⟨ret_num (by rw [Ht.out,Hk.out];simp;omega),rfl⟩
  obtain rfl:1=k:=by omega
  go_enter Tryz.func195,Tryz.ntmps195
  go_wp2
  go_ret
  exact ⟨ret_num (by rw [Ht.out,Hk.out];simp),rfl⟩
theorem implOn (l:Ln) (n:Int) (w:World) :
 Calls Tryz.prog 132 #[l.val,.int .i64 n] w fun e w'=>e = .returned (.int .i64 (l.on n))∧Below w.heap.size w w':=by
 have Hon:Hid (l.on n=if (l.ok&&inB 0 100000 n)=true then l.takes n else -1):=rfl
 have A1:=fun w=>implLineOk l w
 have A2:=fun w B h=>implUpTo1 100000 n w B h
 have A3:=fun (h:(l.ok&&inB 0 100000 n)=true) (w:World)=>implTakes l n (Bool.and_eq_true_iff.1 h).1 (inB_true.1 (Bool.and_eq_true_iff.1 h).2).1 (inB_true.1 (Bool.and_eq_true_iff.1 h).2).2 w
 generalize l.on n=v at Hon ⊢
 generalize l.takes n=t at A3 Hon
 generalize l.ok=b1 at A1 A3 Hon
 generalize inB 0 100000 n=b2 at A2 A3 Hon
 obtain ⟨k,x,m⟩:=l
 simp only [Ln.val,Ln.cells] at *
 have A1':Hid _:=A1
 have A2':Hid _:=A2
 have A3':Hid _:=A3
 clear A1 A2 A3
 have X:Hid (Boxed (w.alloc (.cells #[.int .i64 k,.int .i64 x,.int .i64 m] 38)) w.heap.size #[.int .i64 k,.int .i64 x,.int .i64 m] 38∧Below w.heap.size w (w.alloc (.cells #[.int .i64 k,.int .i64 x,.int .i64 m] 38))) :=
  ⟨Boxed.new _ _ _,(Below.refl _ _).alloc nlr _⟩
 go_enter Tryz.func132,Tryz.ntmps132
 go_wp2_with fail
 refine (A1'.out _).mono ?_
 rintro e w1 ⟨rfl,q⟩
 have X1:Hid (Boxed w1 w.heap.size #[.int .i64 k,.int .i64 x,.int .i64 m] 38∧Below w.heap.size w w1):=⟨X.out.1.below X.out.1.under q,X.out.2.trans (q.mono X.out.2.size)⟩
 clear q X
 have c0:w1.cell? ⟨w.heap.size,0,none⟩=some (.int .i64 k):=X1.out.1.cell 0 rfl
 have c1:w1.cell? ⟨w.heap.size,1,none⟩=some (.int .i64 x):=X1.out.1.cell 1 rfl
 have c2:w1.cell? ⟨w.heap.size,2,none⟩=some (.int .i64 m):=X1.out.1.cell 2 rfl
 have hlt:w.heap.size<w1.heap.size:=X1.out.1.under
 cases b1
 ·go_wp2
  go_ret
  exact ⟨ret_num (by rw [Hon.out];rfl),X1.out.2⟩
 go_wp2_with fail
 refine (A2'.out _ _ (by simp)).mono ?_
 rintro e w2 ⟨rfl,rfl⟩
 cases b2
 ·go_wp2
  go_ret
  exact ⟨ret_num (by rw [Hon.out];rfl),X1.out.2.alloc (by omega) _⟩
 go_wp2_with fail
 refine (A3'.out rfl _).mono ?_
 rintro e w' ⟨rfl,rfl⟩
 go_wp2
 go_ret
 exact ⟨ret_num (by rw [Hon.out];rfl),(X1.out.2.alloc (by omega) _).alloc (by simp;omega) _⟩
open Go.RowKit Go.Shelf
theorem implKept1 (g:Gt) (x:Ga) (r:It) (z:Int) (B:Nat) (w:World) (hB:Hid (Boxed w B (g.cells x) 50)) :
 Calls Tryz.prog 160 #[r.val,.int .i64 z,.pointer (some ⟨B,0,none⟩)] w fun e w'=>e = .returned (.bool (decide (g.ln.on r.size=z)))∧Below w.heap.size w w':=by
 have O:=fun w=>implOn g.ln r.size w
 obtain ⟨r1,r2,r3⟩:=r
 simp only [It.val] at O ⊢
 have c0:w.cell? ⟨B,0,none⟩=some (.int .i64 g.ln.kind):=hB.out.cell 0 rfl
 have c1:w.cell? ⟨B,1,none⟩=some (.int .i64 g.ln.extra):=hB.out.cell 1 rfl
 have c2:w.cell? ⟨B,2,none⟩=some (.int .i64 g.ln.least):=hB.out.cell 2 rfl
 have hl:B<w.heap.size:=hB.out.under
 have hne:¬ w.heap.size=B:=by omega
 have hne2:¬ B=w.heap.size:=by omega
 have H:Hid (Below w.heap.size w (w.alloc (.cells #[.int .i64 r1,.int .i64 r2,.int .i64 r3] 52))):=(Below.refl _ _).alloc nlr _
 unfold Ln.val at O
 generalize g.ln.on r2=y at O ⊢
 generalize g.ln.kind=y1 at O c0
 generalize g.ln.extra=y2 at O c1
 generalize g.ln.least=y3 at O c2
 have O':Hid _:=O
 clear O hB
 go_enter Tryz.func160,Tryz.ntmps160
 go_wp2_with fail
 refine (O'.out _).mono ?_
 rintro e w2 ⟨rfl,q⟩
 have H2:Hid (Below w.heap.size w w2):=H.out.trans (q.mono H.out.size)
 clear q O' H
 go_wp2
 go_ret
 exact ⟨ret_bool (by rw [Bool.eq_iff_iff];simp),H2.out⟩
theorem kept_hit {g:Gt} {k:Nat} (h:k<g.rows.lists.length) (e:keptB g.ln (izAt g.rows.lists k) (fwAt g.fair.flows k).sizes=false):((List.range g.rows.lists.length).all fun i=>keptB g.ln (izAt g.rows.lists i) (fwAt g.fair.flows i).sizes)=false:=by
 rw [List.all_eq_false]
 exact ⟨k,List.mem_range.2 h,by rw [e];decide⟩
theorem kept_succ (g:Gt) (k:Nat):((List.range (k+1)).all fun i=>keptB g.ln (izAt g.rows.lists i) (fwAt g.fair.flows i).sizes)=(((List.range k).all fun i=>keptB g.ln (izAt g.rows.lists i) (fwAt g.fair.flows i).sizes)&&keptB g.ln (izAt g.rows.lists k) (fwAt g.fair.flows k).sizes):=by
 simp [List.range_succ]
theorem implKept (g:Gt) (x:Ga) (w:World) (hB:g.big≤1048576) (h:Hid (GtV w x g)) :
 Calls Tryz.prog 92 #[g.val x] w fun e w'=>e = .returned (.bool g.kept)∧Below w.heap.size w w':=by
 obtain ⟨s1,s2,s3,s4,s5,s6,s7⟩:=Gt.small hB
 obtain ⟨sT,-,sin⟩:=Rw.small s5
 obtain ⟨fT,-,fin⟩:=Fs.small s7
 have E:Hid (∀ (k:Nat),k<g.rows.lists.length→∀ (ak:Option Addr) (ck:Nat) (a2:Option Addr) (c2:Nat) (B:Nat) (W:World),Boxed W B (g.cells x) 50→ItsAt W ak (izAt g.rows.lists k)→IntsAt W a2 (fwAt g.fair.flows k).sizes→(fwAt g.fair.flows k).sizes.length≤1048576→Calls Tryz.prog 159 #[.slice ak (izAt g.rows.lists k).length ck,.slice a2 (fwAt g.fair.flows k).sizes.length c2,.func (.func 160) #[] #[.pointer (some ⟨B,0,none⟩)]] W fun e w'=>e = .returned (.bool (keptB g.ln (izAt g.rows.lists k) (fwAt g.fair.flows k).sizes))∧Below W.heap.size W w'):=fun k hk ak ck a2 c2 B W h1 h2 h3 h4=>implEqualT ak ck _ a2 c2 _ 160 #[] #[.pointer (some ⟨B,0,none⟩)] (fun r z=>decide (g.ln.on r.size=z)) W (sin k hk) h4 h2 h3 ⟨enters_of Tryz.func160 (by kernel_rfl) rfl,fun W2 r z hW=>implKept1 g x r z B W2 (h1.below h1.under hW)⟩
 have Hs:Hid (∀ k,k<g.fair.flows.length→(fwAt g.fair.flows k).sizes.length≤1048576):=fun k hk=>fin k hk
 have Hh:Hid (∀ k,k<g.rows.lists.length→keptB g.ln (izAt g.rows.lists k) (fwAt g.fair.flows k).sizes=false→((List.range g.rows.lists.length).all fun i=>keptB g.ln (izAt g.rows.lists i) (fwAt g.fair.flows i).sizes)=false):=fun k hk e=>kept_hit hk e
 have Hn:Hid (∀ k,((List.range (k+1)).all fun i=>keptB g.ln (izAt g.rows.lists i) (fwAt g.fair.flows i).sizes)=(((List.range k).all fun i=>keptB g.ln (izAt g.rows.lists i) (fwAt g.fair.flows i).sizes)&&keptB g.ln (izAt g.rows.lists k) (fwAt g.fair.flows k).sizes)):=fun k=>kept_succ g k
 have Hv:Hid (g.kept=(decide (g.rows.lists.length=g.leaves.length)&&(decide (g.steers.length=g.leaves.length)&&(decide (g.fair.flows.length=g.leaves.length)&&(List.range g.rows.lists.length).all fun i=>keptB g.ln (izAt g.rows.lists i) (fwAt g.fair.flows i).sizes)))):=rfl
 have Iz:Hid (IzAt w x.a5 g.rows.lists):=h.out.rows.spot
 have Fz:Hid (FwsAt w x.a7 g.fair.flows):=h.out.fair.spot
 generalize g.kept=R at Hv ⊢
 generalize (fun i=>keptB g.ln (izAt g.rows.lists i) (fwAt g.fair.flows i).sizes)=P at Hh Hn Hv
 obtain ⟨W0,hW⟩:∃ W,W=w.alloc (.cells (g.cells x) 50):=⟨_,rfl⟩
 have X0:Hid (Boxed W0 w.heap.size (g.cells x) 50∧Below w.heap.size w W0):=by
  rw [hW]
  exact ⟨Boxed.new _ _ _,(Below.refl _ _).alloc nlr _⟩
 have HW:Hid (W0=_):=hW
 have c6:W0.cell? ⟨w.heap.size,6,none⟩=some (.slice x.a4 g.leaves.length x.c4):=X0.out.1.cell 6 rfl
 have c8:W0.cell? ⟨w.heap.size,8,none⟩=some (.slice x.a5 g.rows.lists.length x.c5):=X0.out.1.cell 8 rfl
 have c9:W0.cell? ⟨w.heap.size,9,none⟩=some (.slice x.a6 g.steers.length x.c6):=X0.out.1.cell 9 rfl
 have c11:W0.cell? ⟨w.heap.size,11,none⟩=some (.slice x.a7 g.fair.flows.length x.c7):=X0.out.1.cell 11 rfl
 clear hW h hB
 unfold Gt.val
 generalize g.leaves.length=n4 at c6 Hv s4
 generalize g.steers.length=n6 at c9 Hv s6
 have Hcs:Hid ((g.cells x).size=14∧(g.cells x).all (·.oneCell')=true):=⟨Gt.cells_size g x,Gt.cells_one g x⟩
 have Gc:Hid (∀ W B,Boxed W B (g.cells x) 50→W.cell? ⟨B,11,none⟩=some (.slice x.a7 g.fair.flows.length x.c7)):=fun W B hh=>hh.cell 11 rfl
 generalize g.cells x=cs at E X0 HW Hcs Gc ⊢
 generalize x.a5=p5 at Iz c8
 generalize x.a7=p7 at Fz c11 Gc
 generalize x.c5=q5 at c8
 generalize x.c7=q7 at c11 Gc
 go_enter Tryz.func92,Tryz.ntmps92
 go_upto_region 1 with fail
 rw [← HW.out]
 clear HW
 have hw1:Hid (w.heap.size<W0.heap.size):=X0.out.1.under
 obtain ⟨A,hA⟩:∃ A,w.heap.size=A:=⟨_,rfl⟩
 have HA:Hid (w.heap.size=A):=hA
 rw [hA] at c6 c8 c9 c11 ⊢
 rw [hA] at X0 hw1
 clear hA
 have hAw:Hid (A≤W0.heap.size):=by show A≤_;rw [← HA.out];exact X0.out.2.size
 obtain ⟨nl,hnl⟩:∃ n,g.rows.lists.length=n:=⟨_,rfl⟩
 have Hnl:Hid (g.rows.lists.length=nl):=hnl
 rw [hnl] at c8 Hv Hh E sT
 obtain ⟨nf,hnf⟩:∃ n,g.fair.flows.length=n:=⟨_,rfl⟩
 have Hnf:Hid (g.fair.flows.length=nf):=hnf
 rw [hnf] at c11 Hv Hs Gc fT
 clear hnl hnf
 by_cases h1:nl=n4
 case neg =>
  have e1:R=false:=by rw [Hv.out,decide_eq_false h1];rfl
  subst e1
  have hn2:¬ (nl:Int)=(n4:Int):=by omega
  have hn3:((nl:Int) != (n4:Int))=true:=by simpa using hn2
  go_wp2
  go_ret
  exact ⟨rfl,by rw [HA.out];exact X0.out.2⟩
 subst h1
 by_cases h2:n6=nl
 case neg =>
  have e1:R=false:=by rw [Hv.out,decide_eq_true rfl,decide_eq_false h2];rfl
  subst e1
  have hn2:¬ (n6:Int)=(nl:Int):=by omega
  have hn3:((n6:Int) != (nl:Int))=true:=by simpa using hn2
  go_wp2
  go_ret
  exact ⟨rfl,by rw [HA.out];exact X0.out.2⟩
 subst h2
 by_cases h3:nf=n6
 case neg =>
  have e1:R=false:=by rw [Hv.out,decide_eq_true rfl,decide_eq_false h3];rfl
  subst e1
  have hn2:¬ (nf:Int)=(n6:Int):=by omega
  have hn3:((nf:Int) != (n6:Int))=true:=by simpa using hn2
  go_wp2
  go_ret
  exact ⟨rfl,by rw [HA.out];exact X0.out.2⟩
 subst h3
 have HR:Hid (R=(List.range nf).all P):=by show R=_;rw [Hv.out,decide_eq_true rfl,Bool.true_and,Bool.true_and,Bool.true_and]
 clear Hv s1 s2 s3 s4 s5 s6 s7 sin fin
 go_upto_region 4 with fail
 go_wp2
 clear c6 c8 c9 c11
 go_loopw [4,5,34] (fun _ _ i wr=>∃ k:Nat,k≤nf∧i = .int .i64 k∧Hid ((List.range k).all P=true)∧Hid (Below W0.heap.size W0 wr)) (fun _ _ i _=>nf-(intOf i).toNat)
 case atStart=>exact ⟨0,Nat.zero_le _,rfl,rfl,Below.refl _ _⟩
 case round =>
  obtain ⟨k,hk,rfl,Hg,H1⟩:=hrel
  by_cases hlt:k<nf
  ·have hlt':(k:Int)<(nf:Int):=by omega
   have bw:Below w.heap.size w wr:=by rw [HA.out];exact X0.out.2.trans (H1.out.mono hAw.out)
   have Iz2:IzAt wr p5 g.rows.lists:=Iz.out.below bw
   have Fz2:FwsAt wr p7 g.fair.flows:=Fz.out.below bw
   have Bx:Hid (Boxed wr A cs 50):=X0.out.1.below hw1.out H1.out
   have cF:=Gc.out wr A Bx.out
   obtain ⟨b1,o1,ak,ck,ha1,hb1,d0,hit,-⟩:=Iz2 k (by rw [Hnl.out];exact hlt)
   obtain ⟨b2,o2,a2,c2,ha2,hb2,⟨e0,e1,e2⟩,hin,-⟩:=Fz2 k (by rw [Hnf.out];exact hlt)
   subst ha1 ha2
   have C:=E.out k hlt ak ck a2 c2 A wr Bx.out hit hin (Hs.out k hlt)
   have hn:=Hn.out k
   rw [Hg.out,Bool.true_and] at hn
   have hh:=Hh.out k hlt
   have HR2:Hid (keptB g.ln (izAt g.rows.lists k) (fwAt g.fair.flows k).sizes=false→R=false):=fun e=>by rw [HR.out];exact hh e
   generalize keptB g.ln (izAt g.rows.lists k) (fwAt g.fair.flows k).sizes=kb at C hn HR2
   generalize (izAt g.rows.lists k).length=m1 at C d0
   generalize (fwAt g.fair.flows k).sizes.length=m2 at C e2
   have Hn2:Hid _:=hn
   have hmf:∀ (fn:Fn) (first cap:Array Value) (w:World),(Instr.makeFunc fn first cap).run Tryz.prog w = .ok (.func fn first cap) w:=fun _ _ _ _=>rfl
   have B2:Hid (Below W0.heap.size W0 wr):=H1
   clear hn hh e0 e1 hit hin Iz2 Fz2 bw
   cases kb
   ·have e1:R=false:=HR2.out rfl
    subst e1
    go_wp2_with fail
    refine C.mono ?_
    rintro e w3 ⟨rfl,q⟩
    have B3:Hid (Below w.heap.size w w3):=by
     rw [HA.out]
     exact (X0.out.2.trans (B2.out.mono hAw.out)).trans (q.mono (Nat.le_trans hAw.out B2.out.size))
    clear q C
    go_wp2
    go_ret
    exact ⟨rfl,B3.out⟩
   ·go_wp2_with fail
    refine C.mono ?_
    rintro e w3 ⟨rfl,q⟩
    have B3:Hid (Below W0.heap.size W0 w3):=B2.out.trans (q.mono B2.out.size)
    clear q C
    go_wp2
    go_roundw
    case rel=>exact ⟨k+1,by omega,by go_num,Hn2.out,B3⟩
    case measure=>simp [intOf];omega
  ·obtain rfl:k=nf:=by omega
   have e1:R=true:=by rw [HR.out];exact Hg.out
   subst e1
   go_wp2
   go_ret
   exact ⟨rfl,by rw [HA.out];exact X0.out.2.trans (H1.out.mono hAw.out)⟩
open Go.RowKit Go.Shelf
structure IzTells (W0:World) (g:FuncId) (fs cb:Array Value) (p:List It→Bool):Prop where
 enters:Enters Tryz.prog g
 tells:∀ (W:World) (ak:Option Addr) (ck:Nat) (l:List It),Below W0.heap.size W0 W→l.length≤1048576→ItsAt W ak l→Calls Tryz.prog g (fs++#[.slice ak l.length ck]++cb) W fun e w'=>e = .returned (.bool (p l))∧Below W.heap.size W w'
theorem implIndexZ (a:Option Addr) (cap:Nat) (l:List (List It)) (g:FuncId) (fs cb:Array Value) (p:List It→Bool) (w:World) (hT:l.length≤1048576) (hin:∀ k,k<l.length→(izAt l k).length≤1048576) (h:Hid (IzAt w a l)) (ht:Hid (IzTells w g fs cb p)) :
 Calls Tryz.prog 224 #[.slice a l.length cap,.func (.func g) fs cb] w fun e w'=>e = .returned (.int .i64 (if l.findIdx p<l.length then (l.findIdx p:Int) else -1))∧Below w.heap.size w w':=by
 have eg:∀ args w,(callFunc g args).run Tryz.prog w = .ok (.enter g args) w:=ht.out.enters
 have Hin:Hid (∀ k,k<l.length→(izAt l k).length≤1048576):=hin
 obtain ⟨len,hlen⟩:∃ n,l.length=n:=⟨_,rfl⟩
 have Hlen:Hid (l.length=len):=hlen
 obtain ⟨N,hN⟩:∃ N,l.findIdx p=N:=⟨_,rfl⟩
 have HN:Hid (l.findIdx p=N):=hN
 have hNl:N≤len:=by rw [← hN,← hlen];exact List.findIdx_le_length
 rw [hlen] at hT ⊢
 rw [hN]
 clear hlen hN hin
 go_enter Tryz.func224,Tryz.ntmps224
 go_wp2
 go_loopw [8] (fun i wr=>∃ k:Nat,k≤N∧i = .int .i64 k∧Hid (Below w.heap.size w wr)) (fun i _=>len-(intOf i).toNat)
 case atStart=>exact ⟨0,Nat.zero_le _,rfl,Below.refl _ _⟩
 case round =>
  obtain ⟨k,hk,rfl,H1⟩:=hrel
  by_cases hlt:k<len
  ·have hkl:k<l.length:=by rw [Hlen.out];exact hlt
   obtain ⟨b1,o1,ak,ck,ha1,hb1,hc,hr,-⟩:=(h.out.below H1.out) k hkl
   subst ha1
   have HC:=ht.out.tells wr ak ck (izAt l k) H1.out (Hin.out k hkl) hr
   have hlt':(k:Int)<(len:Int):=by omega
   by_cases hkN:k=N
   ·have hp:p (izAt l k)=true:=by
     rw [izAt_lt hkl]
     have:=List.findIdx_getElem (p:=p) (xs:=l) (w:=by rw [HN.out,Hlen.out,← hkN];exact hlt)
     simpa only [HN.out,← hkN] using this
    rw [hp] at HC
    clear hp hr hkl
    generalize (izAt l k).length=n at hc HC
    subst hkN
    go_wp2_with fail
    refine HC.mono ?_
    rintro e w' ⟨rfl,hb'⟩
    have B2:Hid (Below w.heap.size w w'):=H1.out.trans (hb'.mono H1.out.size)
    clear hb' H1 HC hc
    go_wp2
    go_ret
    exact ⟨by first|rfl|(rw [if_pos hlt];rfl),B2.out⟩
   ·have hp:p (izAt l k)=false:=by
     rw [izAt_lt hkl]
     have:=List.not_of_lt_findIdx (p:=p) (xs:=l) (i:=k) (by rw [HN.out];omega)
     simpa using this
    rw [hp] at HC
    clear hp hr hkl
    generalize (izAt l k).length=n at hc HC
    go_wp2_with fail
    refine HC.mono ?_
    rintro e w' ⟨rfl,hb'⟩
    have B2:Hid (Below w.heap.size w w'):=H1.out.trans (hb'.mono H1.out.size)
    clear hb' H1 HC hc
    go_wp2
    go_roundw
    case rel=>exact ⟨k+1,by omega,by go_num,B2⟩
    case measure=>simp [intOf];omega
  ·obtain rfl:k=len:=by omega
   obtain rfl:k=N:=by omega
   go_wp2
   go_ret
   exact ⟨by first|rfl|(rw [if_neg (Nat.lt_irrefl _)];rfl),H1.out⟩
theorem implContainsZ (a:Option Addr) (cap:Nat) (l:List (List It)) (g:FuncId) (fs cb:Array Value) (p:List It→Bool) (w:World) (hT:l.length≤1048576) (hin:∀ k,k<l.length→(izAt l k).length≤1048576) (h:Hid (IzAt w a l)) (ht:Hid (IzTells w g fs cb p)) :
 Calls Tryz.prog 161 #[.slice a l.length cap,.func (.func g) fs cb] w fun e w'=>e = .returned (.bool (l.any p))∧Below w.heap.size w w':=by
 have I:=fun (_:Nat)=>implIndexZ a cap l g fs cb p w hT hin h ht
 have Ha:Hid (decide (l.findIdx p<l.length)=l.any p):=any_idxT l p
 generalize l.any p=b at Ha ⊢
 generalize l.findIdx p=N at I Ha
 generalize l.length=len at I Ha ⊢
 have I':Hid _:=I
 clear I hT hin h ht
 go_enter Tryz.func161,Tryz.ntmps161
 go_wp2_with fail
 refine (I'.out 0).mono ?_
 rintro e w' ⟨rfl,hb⟩
 have B2:Hid (Below w.heap.size w w'):=hb
 clear hb I'
 by_cases hk:N<len
 ·rw [if_pos hk]
  have hp:(0:Int)≤(N:Int):=by omega
  go_wp2
  go_ret
  exact ⟨ret_bool (by rw [← Ha.out,decide_eq_true hk]),B2.out⟩
 ·rw [if_neg hk]
  go_wp2
  go_ret
  exact ⟨ret_bool (by rw [← Ha.out,decide_eq_false hk]),B2.out⟩
open Go.RowKit Go.Shelf
theorem implNextA (g:Gt) (x:Ga) (r:It) (B:Nat) (w:World) (hB:Hid (Boxed w B (g.cells x) 50)) :
 Calls Tryz.prog 164 #[r.val,.pointer (some ⟨B,0,none⟩)] w fun e w'=>e = .returned (.bool (decide (g.next≤r.id)))∧Below w.heap.size w w':=by
 obtain ⟨r1,r2,r3⟩:=r
 simp only [It.val]
 have c0:w.cell? ⟨B,12,none⟩=some (.int .i64 g.next):=hB.out.cell 12 rfl
 have hl:B<w.heap.size:=hB.out.under
 have hne:¬ w.heap.size=B:=by omega
 have hne2:¬ B=w.heap.size:=by omega
 have H:Hid (Below w.heap.size w (w.alloc (.cells #[.int .i64 r1,.int .i64 r2,.int .i64 r3] 52))):=(Below.refl _ _).alloc nlr _
 generalize g.next=y at c0 ⊢
 clear hB
 go_enter Tryz.func164,Tryz.ntmps164
 go_wp2
 go_ret
 exact ⟨rfl,H.out⟩
theorem implNextL (g:Gt) (x:Ga) (ak:Option Addr) (ck:Nat) (l:List It) (B:Nat) (w:World) (hT:l.length≤1048576) (h:ItsAt w ak l) (hB:Boxed w B (g.cells x) 50) :
 Calls Tryz.prog 162 #[.slice ak l.length ck,.pointer (some ⟨B,0,none⟩)] w fun e w'=>e = .returned (.bool (l.any fun r=>decide (g.next≤r.id)))∧Below w.heap.size w w':=by
 have C:=fun (_:Nat)=>implContainsT ak ck l 164 #[] #[.pointer (some ⟨B,0,none⟩)] (fun k=>k=B) (fun _=>True) (fun r=>decide (g.next≤r.id)) w hT h (fun _ _=>trivial) ⟨enters_of Tryz.func164 (by kernel_rfl) rfl,fun k hk=>by rw [hk];exact hB.under,fun W r _ hW=>implNextA g x r B W ((hW B rfl).trans hB)⟩
 generalize (l.any fun r=>decide (g.next≤r.id))=z at C ⊢
 generalize l.length=n at C ⊢
 have hmf:∀ (fn:Fn) (first cap:Array Value) (w:World),(Instr.makeFunc fn first cap).run Tryz.prog w = .ok (.func fn first cap) w:=fun _ _ _ _=>rfl
 have C':Hid _:=C
 clear C h hB hT
 go_enter Tryz.func162,Tryz.ntmps162
 go_wp2_with fail
 refine (C'.out 0).mono ?_
 rintro e w' ⟨rfl,hb⟩
 have B2:Hid (Below w.heap.size w w'):=hb
 clear hb C'
 go_wp2
 go_ret
 exact ⟨rfl,B2.out⟩
theorem implNext (g:Gt) (x:Ga) (w:World) (hB:g.big≤1048576) (h:Hid (GtV w x g)) :
 Calls Tryz.prog 93 #[g.val x] w fun e w'=>e = .returned (.bool g.nextB)∧Below w.heap.size w w':=by
 obtain ⟨-,-,-,-,s5,-,-⟩:=Gt.small hB
 obtain ⟨sT,-,sin⟩:=Rw.small s5
 have C:Hid (∀ (B:Nat) (W:World),IzAt W x.a5 g.rows.lists→Boxed W B (g.cells x) 50→Calls Tryz.prog 161 #[.slice x.a5 g.rows.lists.length x.c5,.func (.func 162) #[] #[.pointer (some ⟨B,0,none⟩)]] W fun e w'=>e = .returned (.bool (g.rows.lists.any fun l=>l.any fun i=>decide (g.next≤i.id)))∧Below W.heap.size W w'):=fun B W h1 h2=>implContainsZ x.a5 x.c5 g.rows.lists 162 #[] #[.pointer (some ⟨B,0,none⟩)] (fun l=>l.any fun i=>decide (g.next≤i.id)) W sT sin h1 ⟨enters_of Tryz.func162 (by kernel_rfl) rfl,fun W2 ak ck l hW hl hr=>implNextL g x ak ck l B W2 hl hr (h2.below h2.under hW)⟩
 have F:=fun B w hB=>implFromOne 1000000 g.next B w hB
 have Iz:Hid (IzAt w x.a5 g.rows.lists):=h.out.rows.spot
 have Hv:Hid (g.nextB=(inB 1 1000000 g.next && !(g.rows.lists.any fun l=>l.any fun i=>decide (g.next≤i.id)))):=rfl
 generalize g.nextB=R at Hv ⊢
 generalize (g.rows.lists.any fun l=>l.any fun i=>decide (g.next≤i.id))=an at C Hv
 generalize inB 1 1000000 g.next=ib at F Hv
 obtain ⟨W0,hW⟩:∃ W,W=w.alloc (.cells (g.cells x) 50):=⟨_,rfl⟩
 have X0:Hid (Boxed W0 w.heap.size (g.cells x) 50∧Below w.heap.size w W0∧IzAt W0 x.a5 g.rows.lists):=by
  rw [hW]
  exact ⟨Boxed.new _ _ _,(Below.refl _ _).alloc nlr _,Iz.out.alloc _⟩
 have HW:Hid (W0=_):=hW
 have Cx:Hid (∀ W B,Boxed W B (g.cells x) 50→W.cell? ⟨B,12,none⟩=some (.int .i64 g.next)∧W.cell? ⟨B,8,none⟩=some (.slice x.a5 g.rows.lists.length x.c5)):=fun W B hh=>⟨hh.cell 12 rfl,hh.cell 8 rfl⟩
 have F':Hid _:=F
 clear F hW h hB Iz sin
 unfold Gt.val
 generalize g.cells x=cs at C X0 HW Cx ⊢
 generalize g.next=nx at F' Cx
 generalize g.rows.lists.length=n5 at C Cx sT
 have hmf:∀ (fn:Fn) (first cap:Array Value) (w:World),(Instr.makeFunc fn first cap).run Tryz.prog w = .ok (.func fn first cap) w:=fun _ _ _ _=>rfl
 go_enter Tryz.func93,Tryz.ntmps93
 go_upto_region 1 with fail
 rw [← HW.out]
 clear HW
 obtain ⟨c12,c8⟩:=Cx.out _ _ X0.out.1
 have hu:=X0.out.1.under
 have N1:Hid (Below W0.heap.size W0 (W0.alloc (.cells #[.int .i64 nx] 2))):=(Below.refl _ _).alloc nlr _
 cases ib
 ·have e1:R=false:=by rw [Hv.out];rfl
  subst e1
  go_wp2_with fail
  refine (F'.out _ W0 rfl).mono ?_
  rintro e w1 ⟨rfl,hw1⟩
  have B1:Hid (Below w.heap.size w w1):=by rw [hw1];exact X0.out.2.1.trans (N1.out.mono X0.out.2.1.size)
  clear hw1 F' N1
  go_wp2
  go_ret
  exact ⟨rfl,B1.out⟩
 have e1:R = !an:=by rw [Hv.out,Bool.true_and]
 subst e1
 go_wp2_with fail
 refine (F'.out _ W0 rfl).mono ?_
 rintro e w1 ⟨rfl,hw1⟩
 have b1:Below W0.heap.size W0 w1:=by rw [hw1];exact N1.out
 have X1:Hid (Boxed w1 w.heap.size cs 50∧Below w.heap.size w w1∧IzAt w1 x.a5 g.rows.lists):=⟨X0.out.1.below X0.out.1.under b1,X0.out.2.1.trans (b1.mono X0.out.2.1.size),X0.out.2.2.below b1⟩
 obtain ⟨d12,d8⟩:=Cx.out _ _ X1.out.1
 clear hw1 F' N1 b1 X0 c12 c8 hu
 go_wp2_with fail
 refine (C.out _ _ X1.out.2.2 X1.out.1).mono ?_
 rintro e w2 ⟨rfl,q⟩
 have B2:Hid (Below w.heap.size w w2):=X1.out.2.1.trans (q.mono X1.out.2.1.size)
 clear q C X1 d12 d8
 go_wp2
 go_ret
 exact ⟨rfl,B2.out⟩
open Go.RowKit Go.Shelf
theorem implGateOk (g:Gt) (x:Ga) (w:World) (hB:g.big≤1048576) (h:Hid (GtV w x g)) :
 Calls Tryz.prog 33 #[g.val x] w fun e w'=>e = .returned (.bool g.ok)∧Below w.heap.size w w':=by
 obtain ⟨s1,s2,s3,s4,s5,s6,s7⟩:=Gt.small hB
 have A1:=fun w (h:GtV w x g)=>implParts g x w hB h
 have A2:=fun w (h:GtV w x g)=>implLeavesOk g.leaves x.a4 x.c4 g.tree.length w s3 s4 h.leaves.spot'
 have A3:=fun w (h:GtV w x g)=>implKept g x w hB h
 have A4:=fun w (h:GtV w x g)=>implNext g x w hB h
 have A5:=fun w B hB=>implUpTo1 1048575 g.draw w B hB
 have Hv:Hid (g.ok=(g.parts&&(lvOk g.leaves g.tree.length&&(g.kept&&(g.nextB&&inB 0 1048575 g.draw))))):=g.ok_parts
 generalize g.ok=R at Hv ⊢
 generalize g.parts=o1 at A1 Hv
 generalize lvOk g.leaves g.tree.length=o2 at A2 Hv
 generalize g.kept=o3 at A3 Hv
 generalize g.nextB=o4 at A4 Hv
 generalize inB 0 1048575 g.draw=o5 at A5 Hv
 have Hcs:Hid ((g.cells x).size=14∧(g.cells x).all (·.oneCell')=true):=⟨Gt.cells_size g x,Gt.cells_one g x⟩
 have Gc:Hid (∀ W B,Boxed W B (g.cells x) 50→W.cell? ⟨B,5,none⟩=some (.slice x.a3 g.tree.length x.c3)∧W.cell? ⟨B,6,none⟩=some (.slice x.a4 g.leaves.length x.c4)∧W.cell? ⟨B,13,none⟩=some (.int .i64 g.draw)):=fun W B hh=>⟨hh.cell 5 rfl,hh.cell 6 rfl,hh.cell 13 rfl⟩
 unfold Gt.val at A1 A3 A4 ⊢
 have K:Hid (∀ w',Below w.heap.size w w'→GtV w' x g):=fun w' q=>h.out.below q
 generalize g.cells x=cs at A1 A3 A4 Hcs Gc ⊢
 generalize g.tree.length=n3 at A2 Gc
 generalize g.leaves.length=n4 at A2 Gc
 generalize g.draw=dr at A5 Gc
 have B1:Hid _:=A1
 clear A1
 have A1:=B1
 clear B1
 have B2:Hid _:=A2
 clear A2
 have A2:=B2
 clear B2
 have B3:Hid _:=A3
 clear A3
 have A3:=B3
 clear B3
 have B4:Hid _:=A4
 clear A4
 have A4:=B4
 clear B4
 have B5:Hid _:=A5
 clear A5
 have A5:=B5
 clear B5
 obtain ⟨A,hAq⟩:∃ A,A=w.heap.size:=⟨_,rfl⟩
 obtain ⟨W0,hW⟩:∃ W,W=w.alloc (.cells cs 50):=⟨_,rfl⟩
 have Z0:Hid (Boxed W0 A cs 50∧Below w.heap.size w W0):=by
  have bw:Below w.heap.size w W0:=by rw [hW];exact (Below.refl _ _).alloc nlr _
  exact ⟨by rw [hW,hAq];exact Boxed.new _ _ _,bw⟩
 have HW:Hid (W0=_):=hW
 have HA:Hid (A=_):=hAq
 clear hW hAq h hB s1 s2 s3 s4 s5 s6 s7
 go_enter Tryz.func33,Tryz.ntmps33
 go_upto_region 1 with fail
 rw [← HW.out,← HA.out]
 clear HW HA
 go_wp2_with (refine wpList_load_row rfl 50 (.tmp 1) rfl A rfl _ _ _ _ Z0.out.1 Tryz.underlying50 rfl (by rw [Hcs.out.1];kernel_rfl) ?_)
 refine (A1.out _ (K.out _ Z0.out.2)).mono ?_
 rintro e w1 ⟨rfl,q⟩
 have Z1:Hid (Boxed w1 A cs 50∧Below w.heap.size w w1):=⟨Z0.out.1.below Z0.out.1.under q,Z0.out.2.trans (q.mono Z0.out.2.size)⟩
 clear q Z0
 cases o1
 ·have e:R=false:=by rw [Hv.out];rfl
  subst e
  go_wp2
  go_ret
  exact ⟨rfl,Z1.out.2⟩
 obtain ⟨d5,d6,d13⟩:=Gc.out _ _ Z1.out.1
 go_wp2_with fail
 refine (A2.out _ (K.out _ Z1.out.2)).mono ?_
 rintro e w2 ⟨rfl,q⟩
 have Z2:Hid (Boxed w2 A cs 50∧Below w.heap.size w w2):=⟨Z1.out.1.below Z1.out.1.under q,Z1.out.2.trans (q.mono Z1.out.2.size)⟩
 clear q Z1 d5 d6 d13
 cases o2
 ·have e:R=false:=by rw [Hv.out];rfl
  subst e
  go_wp2
  go_ret
  exact ⟨rfl,Z2.out.2⟩
 go_wp2_with (refine wpList_load_rowG (by simp [Region.wanted,yielded,Act.put]<;>omega) 50 (.tmp 1) rfl A rfl _ _ _ _ Z2.out.1 Tryz.underlying50 rfl (by rw [Hcs.out.1];kernel_rfl) ?_)
 refine (A3.out _ (K.out _ Z2.out.2)).mono ?_
 rintro e w3 ⟨rfl,q⟩
 have Z3:Hid (Boxed w3 A cs 50∧Below w.heap.size w w3):=⟨Z2.out.1.below Z2.out.1.under q,Z2.out.2.trans (q.mono Z2.out.2.size)⟩
 clear q Z2
 cases o3
 ·have e:R=false:=by rw [Hv.out];rfl
  subst e
  go_wp2
  go_ret
  exact ⟨rfl,Z3.out.2⟩
 go_wp2_with (refine wpList_load_rowG (by simp [Region.wanted,yielded,Act.put]<;>omega) 50 (.tmp 1) rfl A rfl _ _ _ _ Z3.out.1 Tryz.underlying50 rfl (by rw [Hcs.out.1];kernel_rfl) ?_)
 refine (A4.out _ (K.out _ Z3.out.2)).mono ?_
 rintro e w4 ⟨rfl,q⟩
 have Z4:Hid (Boxed w4 A cs 50∧Below w.heap.size w w4):=⟨Z3.out.1.below Z3.out.1.under q,Z3.out.2.trans (q.mono Z3.out.2.size)⟩
 clear q Z3
 cases o4
 ·have e:R=false:=by rw [Hv.out];rfl
  subst e
  go_wp2
  go_ret
  exact ⟨rfl,Z4.out.2⟩
 have e:R=o5:=by rw [Hv.out];rfl
 subst e
 obtain ⟨d5,d6,d13⟩:=Gc.out _ _ Z4.out.1
 have N1:Hid (Below w4.heap.size w4 (w4.alloc (.cells #[.int .i64 dr] 2))):=(Below.refl _ _).alloc nlr _
 go_wp2_with fail
 refine (A5.out w4 _ rfl).mono ?_
 rintro e w5 ⟨rfl,hw5⟩
 have B5:Hid (Below w.heap.size w w5):=by rw [hw5];exact Z4.out.2.trans (N1.out.mono Z4.out.2.size)
 clear hw5 A5 N1 d5 d6 d13
 go_wp2
 go_ret
 exact ⟨rfl,B5.out⟩
end Go.Proofs.YtgebghkcikmfaaaGreatDoor
