import Derived.Test.YtmfabeghfdoibaaGreatQT18GtZero
import Derived.Test.YtmfabeghfdoibaaGreatQT23RwOkI
import Derived.Test.YtmfabeghfdoibaaGreatQT28RuEach
import Derived.Test.YtmfabeghfdoibaaGreatQT24QuietSeq
set_option maxHeartbeats 6400000
set_option maxRecDepth 100000
namespace Go.Proofs.YtmfabeghfdoibaaGreat
open Go.RowKit
def lvB (ls:List Int) (n i:Nat):Bool:=decide (0≤ls[i]?.getD 0)&&(decide (ls[i]?.getD 0<(n:Int))&&(decide (i=0)||decide (ls[i-1]?.getD 0<ls[i]?.getD 0)))
def lvOk (ls:List Int) (n:Nat):Bool:=decide (1≤ls.length)&&(decide (ls.length≤8)&&(List.range ls.length).all (lvB ls n))
def Gt.parts (g:Gt):Bool:=g.ln.ok&&(rtsOk g.routes&&(rusOk g.rules&&(tok g.tree&&(g.rows.ok&&(g.fair.ok&&g.steers.all Sr.ok)))))
def keptB (ln:Ln) (l:List It) (s:List Int):Bool:=decide (l.length=s.length)&&(List.range l.length).all fun k=>decide (ln.on (itAt l k).size=s[k]?.getD 0)
def Gt.kept (g:Gt):Bool:=decide (g.rows.lists.length=g.leaves.length)&&(decide (g.steers.length=g.leaves.length)&&(decide (g.fair.flows.length=g.leaves.length)&&(List.range g.rows.lists.length).all fun i=>keptB g.ln (izAt g.rows.lists i) (fwAt g.fair.flows i).sizes))
def Gt.nextB (g:Gt):Bool:=inB 1 1000000 g.next && !(g.rows.lists.any fun l=>l.any fun i=>decide (g.next≤i.id))
theorem Rw.it_ok {r:Rw} (h:r.ok=true) {i k:Nat} (hi:i<r.lists.length) (hk:k<(izAt r.lists i).length):(itAt (izAt r.lists i) k).ok=true:=by
 have h1:=(Bool.and_eq_true _ _▸(Bool.and_eq_true _ _▸h).2:_∧_).1
 rw [List.all_eq_true] at h1
 refine h1 _ ?_
 unfold Rw.all
 rw [List.mem_flatten]
 refine ⟨izAt r.lists i,?_,?_⟩
 ·rw [izAt,List.getElem?_eq_getElem hi,Option.getD_some]
  exact List.getElem_mem _
 ·rw [itAt_lt hk]
  exact List.getElem_mem _
theorem Gt.ok_parts (g:Gt):g.ok=(g.parts&&(lvOk g.leaves g.tree.length&&(g.kept&&(g.nextB&&inB 0 1048575 g.draw)))):=by
 rw [Bool.eq_iff_iff]
 constructor
 ·intro h
  obtain ⟨h1,h2⟩:=Gt.ok_iff.1 h
  obtain ⟨a1,a2,a3,a4,a5,a6,a7,a8,a9,a10,a11,a12,a13⟩:=Gt.head_iff.1 h1
  have lf:=fun i hi=>Gt.leaf_iff.1 (h2 i hi)
  unfold Gt.parts lvOk Gt.kept Gt.nextB lvB keptB
  simp only [Bool.and_eq_true,Bool.or_eq_true,Bool.not_eq_true',decide_eq_true_eq,List.all_eq_true,List.mem_range,inB_true,List.any_eq_false,List.any_eq_true,not_exists,not_and,Int.not_le]
  refine ⟨⟨a1,a2,a3,a4,a6,a9,?_⟩,⟨a5.1,a5.2,fun i hi=>⟨(lf i hi).1.1,(lf i hi).1.2,(lf i hi).2.1⟩⟩,⟨a7,a8,a10,fun i hi=>⟨(lf i (by omega)).2.2.2.1.symm,fun k hk=>?_⟩⟩,⟨a11,?_⟩,a12,a13⟩
  ·intro s hs
   obtain ⟨i,hi,rfl⟩:=List.getElem_of_mem hs
   have:=(lf i (by omega)).2.2.1
   rwa [srAt_lt hi] at this
  ·have ok:=Rw.it_ok a6 hi hk
   unfold It.ok at ok
   simp only [Bool.and_eq_true,inB_true] at ok
   rw [on_ok a1 (by rw [inB_true];omega)]
   exact ((lf i (by omega)).2.2.2.2 k hk).2
  ·intro l hl it hit
   obtain ⟨i,hi,rfl⟩:=List.getElem_of_mem hl
   obtain ⟨k,hk,rfl⟩:=List.getElem_of_mem hit
   have e1:izAt g.rows.lists i=g.rows.lists[i]:=by rw [izAt,List.getElem?_eq_getElem hi,Option.getD_some]
   have:=((lf i (by omega)).2.2.2.2 k (by rw [e1];exact hk)).1
   rw [e1,itAt_lt hk] at this
   exact this
 ·intro h
  unfold Gt.parts lvOk Gt.kept Gt.nextB lvB keptB at h
  simp only [Bool.and_eq_true,Bool.or_eq_true,Bool.not_eq_true',decide_eq_true_eq,List.all_eq_true,List.mem_range,inB_true,List.any_eq_false,List.any_eq_true,not_exists,not_and,Int.not_le] at h
  obtain ⟨⟨a1,a2,a3,a4,a6,a9,b1⟩,⟨b2,b3,b4⟩,⟨a7,a8,a10,b5⟩,⟨a11,b6⟩,a12,a13⟩:=h
  refine Gt.ok_iff.2 ⟨Gt.head_iff.2 ⟨a1,a2,a3,a4,⟨b2,b3⟩,a6,a7,a8,a9,a10,a11,a12,a13⟩,fun i hi=>Gt.leaf_iff.2 ⟨⟨(b4 i hi).1,(b4 i hi).2.1⟩,(b4 i hi).2.2,?_,(b5 i (by omega)).1.symm,fun k hk=>⟨?_,?_⟩⟩⟩
  ·rw [srAt_lt (by omega)]
   exact b1 _ (List.getElem_mem _)
  ·have hi2:i<g.rows.lists.length:=by omega
   have e1:izAt g.rows.lists i=g.rows.lists[i]:=by rw [izAt,List.getElem?_eq_getElem hi2,Option.getD_some]
   rw [itAt_lt hk]
   refine b6 (izAt g.rows.lists i) (by rw [e1];exact List.getElem_mem _) _ (List.getElem_mem _)
  ·have ok:=Rw.it_ok a6 (i:=i) (by omega) hk
   unfold It.ok at ok
   simp only [Bool.and_eq_true,inB_true] at ok
   have:=(b5 i (by omega)).2 k hk
   rwa [on_ok a1 (by rw [inB_true];omega)] at this
theorem lnKind (k:Int):inB 1 3 k=(decide (1≤k)&&inB 0 3 k):=by
 rw [Bool.eq_iff_iff]
 simp [inB]
 omega
theorem implLineOk (l:Ln) (w:World) :
 Calls Tryz.prog 162 #[l.val] w fun e w'=>e = .returned (.bool l.ok)∧Bel w w':=by
 have Hok:Hid (l.ok=((decide (1≤l.kind)&&inB 0 3 l.kind)&&(inB 0 100 l.extra&&inB 0 2000 l.least))):=by
  show l.ok=_
  rw [← lnKind];rfl
 obtain ⟨k,x,m⟩:=l
 generalize Ln.ok _=ok at Hok ⊢
 simp only [Ln.val] at Hok ⊢
 have A1:=fun w B h=>implUpTo1 3 k w B h
 have A2:=fun w B h=>implUpTo1 100 x w B h
 have A3:=fun w B h=>implUpTo1 2000 m w B h
 generalize inB 0 3 k=b1 at A1 Hok
 generalize inB 0 100 x=b2 at A2 Hok
 generalize inB 0 2000 m=b3 at A3 Hok
 have A1':Hid _:=A1
 have A2':Hid _:=A2
 have A3':Hid _:=A3
 clear A1 A2 A3
 by_cases h1:1≤k
 ·have hd:decide (1≤k)=true:=by simp [h1]
  rw [hd] at Hok
  clear hd
  go_enter Tryz.func162,Tryz.ntmps162
  go_wp2_with fail
  refine (A1'.out _ _ (by simp)).mono ?_
  rintro e w' ⟨rfl,rfl⟩
  cases b1
  ·go_wp2
   go_ret
   exact ⟨ret_bool (by rw [Hok.out];rfl),by repeat (first|exact Below.refl _ _|refine Below.alloc ?_ (by simp<;>omega) _)⟩
  go_wp2_with fail
  refine (A2'.out _ _ (by simp)).mono ?_
  rintro e w' ⟨rfl,rfl⟩
  cases b2
  ·go_wp2
   go_ret
   exact ⟨ret_bool (by rw [Hok.out];rfl),by repeat (first|exact Below.refl _ _|refine Below.alloc ?_ (by simp<;>omega) _)⟩
  go_wp2_with fail
  refine (A3'.out _ _ (by simp)).mono ?_
  rintro e w' ⟨rfl,rfl⟩
  go_wp2
  go_ret
  exact ⟨ret_bool (by rw [Hok.out];rfl),by repeat (first|exact Below.refl _ _|refine Below.alloc ?_ (by simp<;>omega) _)⟩
 ·have hd:decide (1≤k)=false:=by simp;omega
  rw [hd] at Hok
  clear hd
  go_enter Tryz.func162,Tryz.ntmps162
  go_wp2
  go_ret
  exact ⟨ret_bool (by rw [Hok.out];rfl),by repeat (first|exact Below.refl _ _|refine Below.alloc ?_ (by simp<;>omega) _)⟩
theorem implPlace (n:Nat) (p:Int) (w:World) (hn:n≤1048576) :
 Calls Tryz.prog 172 #[.int .i64 (n:Int),.int .i64 p] w fun e w'=>e = .returned (.bool (inB 0 ((n:Int)-1) p))∧w'=w.alloc (.cells #[.int .i64 p] 2):=by
 have A:=fun B w h=>implUpTo1 ((n:Int)-1) p w B h
 generalize inB 0 ((n:Int)-1) p=y at A ⊢
 have A':Hid _:=A
 clear A
 have q1 : -9223372036854775808≤(n:Int)-1:=by omega
 have q2:(n:Int)-1≤9223372036854775807:=by omega
 go_enter Tryz.func172,Tryz.ntmps172
 go_wp2_with fail
 refine (A'.out _ _ (by simp)).mono ?_
 rintro e w' ⟨rfl,rfl⟩
 go_wp2
 go_ret
 exact ⟨rfl,rfl⟩
theorem implTime (t:Int) (w:World) :
 Calls Tryz.prog 41 #[.int .i64 t] w fun e w'=>e = .returned (.bool (inB 0 1099511627776 t))∧w'=w.alloc (.cells #[.int .i64 t] 2):=by
 have A1:=fun B w h=>implUpTo1 1099511627776 t w B h
 generalize inB 0 1099511627776 t=b1 at A1 ⊢
 have A1':Hid _:=A1
 clear A1
 go_enter Tryz.func41,Tryz.ntmps41
 go_wp2_with fail
 refine (A1'.out _ _ (by simp)).mono ?_
 rintro e w' ⟨rfl,rfl⟩
 go_wp2
 go_ret
 exact ⟨rfl,rfl⟩
theorem implTimeB (t:Int) (w:World) :
 Calls Tryz.prog 41 #[.int .i64 t] w fun e w'=>e = .returned (.bool (inB 0 1099511627776 t))∧Bel w w' :=
 (implTime t w).mono fun _ _ h=>⟨h.1,by rw [h.2];exact (Below.refl _ _).alloc nlr _⟩
theorem implPurseOk (p:Pz) (w:World) :
 Calls Tryz.prog 201 #[p.val] w fun e w'=>e = .returned (.bool p.ok)∧Bel w w':=by
 have Hok:Hid (p.ok=(inB 0 1000 p.rate&&(inB 1 100000 p.burst&&(inB 0 p.burst p.level&&inB 0 1099511627776 p.tm)))):=rfl
 obtain ⟨v0,v1,v2,v3⟩:=p
 generalize Pz.ok _=ok at Hok ⊢
 simp only [Pz.val] at Hok ⊢
 have A1:=fun B w h=>implUpTo1 1000 v0 w B h
 have A2:=fun B w h=>implFromOne 100000 v1 B w h
 have A3:=fun B w h=>implUpTo1 v1 v2 w B h
 have A4:=fun w=>implTime v3 w
 generalize inB 0 1000 v0=b1 at A1 Hok
 generalize inB 1 100000 v1=b2 at A2 Hok
 generalize inB 0 v1 v2=b3 at A3 Hok
 generalize inB 0 1099511627776 v3=b4 at A4 Hok
 have A1':Hid _:=A1
 have A2':Hid _:=A2
 have A3':Hid _:=A3
 have A4':Hid _:=A4
 clear A1 A2 A3 A4
 go_enter Tryz.func201,Tryz.ntmps201
 go_wp2_with fail
 refine (A1'.out _ _ (by simp)).mono ?_
 rintro e w' ⟨rfl,rfl⟩
 cases b1
 ·go_wp2
  go_ret
  exact ⟨ret_bool (by rw [Hok.out];rfl),by repeat (first|exact Below.refl _ _|refine Below.alloc ?_ (by simp<;>omega) _)⟩
 go_wp2_with fail
 refine (A2'.out _ _ (by simp)).mono ?_
 rintro e w' ⟨rfl,rfl⟩
 cases b2
 ·go_wp2
  go_ret
  exact ⟨ret_bool (by rw [Hok.out];rfl),by repeat (first|exact Below.refl _ _|refine Below.alloc ?_ (by simp<;>omega) _)⟩
 go_wp2_with fail
 refine (A3'.out _ _ (by simp)).mono ?_
 rintro e w' ⟨rfl,rfl⟩
 cases b3
 ·go_wp2
  go_ret
  exact ⟨ret_bool (by rw [Hok.out];rfl),by repeat (first|exact Below.refl _ _|refine Below.alloc ?_ (by simp<;>omega) _)⟩
 go_wp2_with fail
 refine (A4'.out _).mono ?_
 rintro e w' ⟨rfl,rfl⟩
 go_wp2
 go_ret
 exact ⟨ret_bool (by rw [Hok.out];rfl),by repeat (first|exact Below.refl _ _|refine Below.alloc ?_ (by simp<;>omega) _)⟩
def upB (k:Nat) (up:Int):Bool:=if k=0 then decide (up = -1) else (decide (0≤up)&&decide (up<(k:Int)))
theorem upB_in {k:Nat} {up:Int} (h:k≠0):inB 0 ((k:Int)-1) up=upB k up:=by
 unfold upB
 rw [if_neg h,Bool.eq_iff_iff,inB_true]
 simp only [Bool.and_eq_true,decide_eq_true_eq]
 omega
theorem implUpOk (k:Nat) (up:Int) (w:World) (hk:k≤1048576) :
 Calls Tryz.prog 200 #[.int .i64 (k:Int),.int .i64 up] w fun e w'=>e = .returned (.bool (upB k up))∧Below w.heap.size w w':=by
 by_cases h0:k=0
 ·subst h0
  have e0:upB 0 up=decide (up = -1):=rfl
  rw [e0]
  by_cases h1:up = -1
  ·subst h1
   go_enter Tryz.func200,Tryz.ntmps200
   go_wp2
   go_ret
   exact ⟨rfl,Below.refl _ _⟩
  ·have h1':(up == -1)=false:=by simpa using h1
   rw [decide_eq_false h1]
   go_enter Tryz.func200,Tryz.ntmps200
   go_wp2
   go_ret
   exact ⟨by first|rfl|simp [h1],Below.refl _ _⟩
 ·have A:=fun w=>implPlace k up w hk
  rw [upB_in h0] at A
  generalize upB k up=y at A ⊢
  have A':Hid _:=A
  clear A
  have h0':¬ (k:Int)=0:=by omega
  go_enter Tryz.func200,Tryz.ntmps200
  go_wp2_with fail
  refine (A'.out _).mono ?_
  rintro e w' ⟨rfl,rfl⟩
  go_wp2
  go_ret
  exact ⟨rfl,(Below.refl _ _).alloc nlr _⟩
theorem implTreeOk (l:List Nd) (a:Option Addr) (cap:Nat) (w:World) (hT:l.length≤1048576) (_hc:l.length≤cap) (_hcn:a=none→cap=0) (h:Hid (NdsAt w a l)) :
 Calls Tryz.prog 165 #[.slice a l.length cap] w fun e w'=>e = .returned (.bool (tok l))∧Below w.heap.size w w':=by
 obtain ⟨R,hR⟩:∃ R,tok l=R:=⟨_,rfl⟩
 have Yes:Hid (inB 1 12 (l.length:Int)=true→(∀ k,k<l.length→treeB l k=true)→R=true):=fun h1 h3=>by rw [← hR];rw [inB_true] at h1;exact tok_iff.2 ⟨by omega,by omega,h3⟩
 have No:Hid (∀ k,k<l.length→treeB l k=false→R=false):=fun k hk hn=>by
  rw [← hR]
  cases hq:tok l with
  |false=>rfl
  |true=>rw [(tok_iff.1 hq).2.2 k hk] at hn;cases hn
 have No6:Hid (inB 1 12 (l.length:Int)=false→R=false):=fun hn=>by
  rw [← hR]
  rw [inB_false] at hn
  cases hq:tok l with
  |false=>rfl
  |true=>have:=(tok_iff.1 hq);omega
 have A0:=fun B w hh=>implFromOne 12 (l.length:Int) B w hh
 rw [hR]
 clear hR _hc _hcn
 have Hpos:Hid (inB 1 12 (l.length:Int)=true→l.length≤12):=fun h=>by rw [inB_true] at h;omega
 generalize inB 1 12 (l.length:Int)=b0 at A0 Yes No6 Hpos
 obtain ⟨len,hlen⟩:∃ n,l.length=n:=⟨_,rfl⟩
 rw [hlen] at hT Yes No A0 Hpos ⊢
 have Hlen:Hid (l.length=len):=hlen
 have A0':Hid _:=A0
 clear hlen A0
 go_enter Tryz.func165,Tryz.ntmps165
 go_wp2_with fail
 refine (A0'.out _ _ (by simp)).mono ?_
 rintro e w1 ⟨rfl,hw1⟩
 have B1:Hid (Below w.heap.size w w1):=by show Below _ _ _;rw [hw1];exact (Below.refl _ _).alloc nlr _
 clear hw1 A0'
 cases b0
 ·have e:R=false:=No6.out rfl
  subst e
  go_wp2
  go_ret
  exact ⟨rfl,B1.out⟩
 have h12:=Hpos.out rfl
 go_wp2
 go_loopw [12] (fun s wr=>∃ k:Nat,k≤len∧s = .int .i64 k∧Hid ((∀ j,j<k→treeB l j=true)∧Below w.heap.size w wr)) (fun s _=>len-(intOf s).toNat)
 case atStart=>exact ⟨0,Nat.zero_le _,rfl,fun j hj=>by omega,B1.out⟩
 case round =>
  obtain ⟨k,hk,rfl,HK⟩:=hrel
  clear B1
  by_cases hlt:k<len
  case neg =>
   obtain rfl:k=len:=by omega
   have e:R=true:=Yes.out (by first|exact trivial|exact rfl) HK.out.1
   subst e
   go_wp2
   go_ret
   exact ⟨rfl,HK.out.2⟩
  have hlt':(k:Int)<(len:Int):=by omega
  have Lie:Hid (NdsAt wr a l):=h.out.below HK.out.2
  obtain ⟨b1,o1,ha1,hb1,-⟩:=Lie.out k (by rw [Hlen.out];exact hlt)
  subst ha1
  obtain ⟨c0,c1,c2,c3,c4⟩:=Lie.out.cells (k:=k) (by rw [Hlen.out];exact hlt)
  have e4:=(Lie.out.cells (k:=0) (by rw [Hlen.out];omega)).2.2.2.2
  have A1:=fun w=>implPurseOk (ndAt l k).pz w
  have A2:=fun w=>implUpOk k (ndAt l k).up w (by omega)
  have Gd:Hid (treeB l k=((ndAt l k).pz.ok&&(decide ((ndAt l k).pz.tm=(ndAt l 0).pz.tm)&&upB k (ndAt l k).up))):=rfl
  have Nk:=No.out k hlt
  have Yk:Hid (treeB l k=true→∀ j,j<k+1→treeB l j=true):=fun hg j hj=>by
   by_cases e:j=k
   ·rw [e];exact hg
   ·exact HK.out.1 j (by omega)
  generalize treeB l k=good at Gd Nk Yk
  generalize (ndAt l 0).pz.tm=t0 at e4 Gd
  generalize (ndAt l k).pz.ok=ok at A1 Gd
  generalize upB k (ndAt l k).up=ub at A2 Gd
  generalize ndAt l k=x at c0 c1 c2 c3 c4 A1 A2 Gd
  obtain ⟨x0,x1,x2,x3,x4⟩:=x
  simp only [Pz.val] at c0 c1 c2 c3 c4 A1 A2 Gd
  have A1':Hid _:=A1
  have A2':Hid _:=A2
  have HN:Hid (good=false→R=false):=Nk
  have Bw:Hid (Below w.heap.size w wr):=HK.out.2
  clear A1 A2 Nk
  obtain ⟨g,hg⟩:∃ g,g=wr.heap.size:=⟨_,rfl⟩
  have N:Hid (Boxed (wr.alloc (.cells #[.int .i64 0,.int .i64 0,.int .i64 0,.int .i64 0,.int .i64 0] 77)) wr.heap.size #[.int .i64 0,.int .i64 0,.int .i64 0,.int .i64 0,.int .i64 0] 77):=Boxed.new _ _ _
  have X:Hid (Boxed ((wr.alloc (.cells #[.int .i64 0,.int .i64 0,.int .i64 0,.int .i64 0,.int .i64 0] 77)).setRow wr.heap.size #[.int .i64 x0,.int .i64 x1,.int .i64 x2,.int .i64 x3,.int .i64 x4]) wr.heap.size #[.int .i64 x0,.int .i64 x1,.int .i64 x2,.int .i64 x3,.int .i64 x4] 77∧Below wr.heap.size wr ((wr.alloc (.cells #[.int .i64 0,.int .i64 0,.int .i64 0,.int .i64 0,.int .i64 0] 77)).setRow wr.heap.size #[.int .i64 x0,.int .i64 x1,.int .i64 x2,.int .i64 x3,.int .i64 x4])):=⟨setRow_heap _ _ _ _ _ _ (Boxed.new _ _ _),below_setRow ((Below.refl _ _).alloc nlr _) nlr _⟩
  go_upto_region 6 with (refine wpList_store_row rfl 77 (.tmp _) (.tmp _) rfl wr.heap.size #[.int .i64 x0,.int .i64 x1,.int .i64 x2,.int .i64 x3,.int .i64 x4] rfl rfl _ _ N.out (by kernel_rfl) rfl (ndOnes _ _ _ _ _) ?_)
  clear c0 c1 c2 c3 c4 N
  simp only [Act.put]
  generalize (wr.alloc (.cells #[.int .i64 0,.int .i64 0,.int .i64 0,.int .i64 0,.int .i64 0] 77)).setRow wr.heap.size #[.int .i64 x0,.int .i64 x1,.int .i64 x2,.int .i64 x3,.int .i64 x4]=wx at X ⊢
  rw [← hg] at X ⊢
  have d0:∀ p:BelW wx.heap.size wx,p.w'.cell? ⟨g,0,none⟩=some (.int .i64 x0):=fun p=>(X.out.1.below X.out.1.under p.h).cell 0 rfl
  have d1:∀ p:BelW wx.heap.size wx,p.w'.cell? ⟨g,1,none⟩=some (.int .i64 x1):=fun p=>(X.out.1.below X.out.1.under p.h).cell 1 rfl
  have d2:∀ p:BelW wx.heap.size wx,p.w'.cell? ⟨g,2,none⟩=some (.int .i64 x2):=fun p=>(X.out.1.below X.out.1.under p.h).cell 2 rfl
  have d3:∀ p:BelW wx.heap.size wx,p.w'.cell? ⟨g,3,none⟩=some (.int .i64 x3):=fun p=>(X.out.1.below X.out.1.under p.h).cell 3 rfl
  have d4:∀ p:BelW wx.heap.size wx,p.w'.cell? ⟨g,4,none⟩=some (.int .i64 x4):=fun p=>(X.out.1.below X.out.1.under p.h).cell 4 rfl
  have hbl:Hid (b1<wr.heap.size):=hb1
  have f4:∀ p:BelW wx.heap.size wx,p.w'.cell? ⟨b1,o1+4,none⟩=some (.int .i64 t0):=fun p=>by
   have hX:Below wr.heap.size wr wx:=by rw [← hg];exact X.out.2
   rw [(hX.trans (p.h.mono hX.size)).cell (p:=⟨b1,o1+4,none⟩) hbl.out]
   simpa using e4
  have step:Hid (∀ w2,Below wx.heap.size wx w2→Below w.heap.size w w2):=fun w2 q=>by
   have hX:Below wr.heap.size wr wx:=by rw [← hg];exact X.out.2
   exact Bw.out.trans ((hX.trans (q.mono hX.size)).mono Bw.out.size)
  clear hg HK Lie e4 hb1 X Bw
  haveI:Nonempty (BelW wx.heap.size wx):=⟨⟨wx,Below.refl _ _⟩⟩
  cases ub
  ·have e:R=false:=HN.out (by rw [Gd.out];simp)
   subst e
   clear Gd Yk HN
   refine rgb wx.heap.size (by kernel_rfl) (by kernel_rfl) ?_
   repeat (go_big_quiet_step ((first|(go_at_call 201;with_reducible refine qb (A1'.out _))|(go_at_call 200;with_reducible refine qb (A2'.out _)))))
   refine wpQuiet_nil ?_
   intro w2 hx
   have B2:Hid (Below w.heap.size w w2):=step.out w2 (BelW.out hx)
   clear hx d0 d1 d2 d3 d4 f4
   go_wp2
   go_ret
   exact ⟨rfl,B2.out⟩
  cases ok
  ·have e:R=false:=HN.out (by rw [Gd.out];rfl)
   subst e
   clear Gd Yk HN
   refine rgb wx.heap.size (by kernel_rfl) (by kernel_rfl) ?_
   repeat (go_big_quiet_step ((first|(go_at_call 201;with_reducible refine qb (A1'.out _))|(go_at_call 200;with_reducible refine qb (A2'.out _)))))
   refine wpQuiet_nil ?_
   intro w2 hx
   have B2:Hid (Below w.heap.size w w2):=step.out w2 (BelW.out hx)
   clear hx d0 d1 d2 d3 d4 f4
   go_wp2
   go_ret
   exact ⟨rfl,B2.out⟩
  by_cases ht:x4=t0
  case neg =>
   have ht':(x4 != t0)=true:=by simpa using ht
   have e:R=false:=HN.out (by rw [Gd.out];simp [ht])
   subst e
   clear Gd Yk HN
   refine rgb wx.heap.size (by kernel_rfl) (by kernel_rfl) ?_
   repeat (go_big_quiet_step ((first|(go_at_call 201;with_reducible refine qb (A1'.out _))|(go_at_call 200;with_reducible refine qb (A2'.out _)))))
   refine wpQuiet_nil ?_
   intro w2 hx
   have B2:Hid (Below w.heap.size w w2):=step.out w2 (BelW.out hx)
   clear hx d0 d1 d2 d3 d4 f4
   go_wp2
   go_ret
   exact ⟨rfl,B2.out⟩
  subst ht
  have G:Hid (∀ j,j<k+1→treeB l j=true):=Yk.out (by rw [Gd.out];simp)
  clear Gd Yk HN
  refine rgb wx.heap.size (by kernel_rfl) (by kernel_rfl) ?_
  repeat (go_big_quiet_step ((first|(go_at_call 201;with_reducible refine qb (A1'.out _))|(go_at_call 200;with_reducible refine qb (A2'.out _)))))
  refine wpQuiet_nil ?_
  intro w2 hx
  have B2:Hid (Below w.heap.size w w2):=step.out w2 (BelW.out hx)
  clear hx d0 d1 d2 d3 d4 f4
  go_wp2
  go_roundw
  case rel=>exact ⟨k+1,by omega,by go_num,G.out,B2.out⟩
  case measure=>simp [intOf];omega
open Go.RowKit Go.Shelf
theorem ones_of (most:Int) (l:List Int):(l.all (inB 0 most) && !decide ((0:Int)∈l))=l.all (inB 1 most):=by
 induction l with
 |nil=>rfl
 |cons x r ih =>
  rw [List.all_cons,List.all_cons,← ih,Bool.eq_iff_iff]
  simp only [Bool.and_eq_true,inB_true,Bool.not_eq_true',decide_eq_false_iff_not,List.mem_cons,not_or]
  constructor
  ·rintro ⟨⟨h1,h2⟩,h3,h4⟩
   exact ⟨by omega,h2,h4⟩
  ·rintro ⟨h1,h2,h3⟩
   exact ⟨⟨by omega,h2⟩,by omega,h3⟩
theorem implFromOneL (most:Int) (a:Option Addr) (cap:Nat) (l:List Int) (w:World) (hT:l.length≤1048576) (h:Hid (IntsAt w a l)) :
 Calls Tryz.prog 171 #[.int .i64 most,.slice a l.length cap] w fun e w'=>e = .returned (.bool (l.all (inB 1 most)))∧w'=w:=by
 have A1:=fun (_:Nat)=>implUpTo most a cap l w hT h
 have A2:=fun (_:Nat)=>implHasN a cap l 0 w hT h
 have H:=ones_of most l
 generalize decide ((0:Int)∈l)=z at A2 H
 generalize l.all (inB 0 most)=y at A1 H
 generalize l.all (inB 1 most)=x at H ⊢
 generalize l.length=n at A1 A2 ⊢
 have A1':Hid _:=A1
 have A2':Hid _:=A2
 have HH:Hid _:=H
 clear A1 A2 H h hT
 go_enter Tryz.func171,Tryz.ntmps171
 go_wp2_with fail
 refine (A1'.out 0).mono ?_
 rintro e w1 ⟨rfl,rfl⟩
 cases y
 ·go_wp2
  go_ret
  exact ⟨ret_bool (by rw [← HH.out];rfl),rfl⟩
 go_wp2_with fail
 refine (A2'.out 0).mono ?_
 rintro e w2 ⟨rfl,rfl⟩
 go_wp2
 go_ret
 exact ⟨ret_bool (by rw [← HH.out];cases z<;>rfl),rfl⟩
def Fw.pay (x:Fw) (a:Option Addr) (c:Nat):Value:=.agg #[.slice a x.sizes.length c,.int .i64 x.weight,.int .i64 x.finish]
theorem implSizesOk (a:Option Addr) (cap:Nat) (l:List Int) (w:World) (hT:l.length≤1048576) (h:Hid (IntsAt w a l)) :
 Calls Tryz.prog 240 #[.slice a l.length cap] w fun e w'=>e = .returned (.bool (inB 0 40 (l.length:Int)&&l.all (inB 1 2000)))∧w'=w:=by
 have A:=fun (_:Nat)=>implFromOneL 2000 a cap l w hT h
 generalize l.all (inB 1 2000)=y at A ⊢
 generalize l.length=n at A ⊢
 have A':Hid _:=A
 clear A h hT
 by_cases hn:(n:Int)≤40
 ·have e1:inB 0 40 (n:Int)=true:=by rw [inB_true];omega
  rw [e1]
  clear e1
  go_enter Tryz.func240,Tryz.ntmps240
  go_wp2_with fail
  refine (A'.out 0).mono ?_
  rintro e w' ⟨rfl,rfl⟩
  go_wp2
  go_ret
  exact ⟨by simp,rfl⟩
 ·have e1:inB 0 40 (n:Int)=false:=by rw [inB_false];omega
  rw [e1]
  clear e1
  go_enter Tryz.func240,Tryz.ntmps240
  go_wp2
  go_ret
  exact ⟨by simp,rfl⟩
theorem implPayerOf (x:Fw) (a:Option Addr) (c:Nat) (w:World) :
 Calls Tryz.prog 207 #[x.val a c] w fun e w'=>e = .returned (x.pay a c)∧Bel w w':=by
 obtain ⟨t,u,fl⟩:=x
 simp only [Fw.val,Fw.pay]
 generalize fl.length=n
 obtain ⟨W0,hW0⟩:∃ W0,W0=(w.alloc (.cells #[.int .i64 t,.int .i64 u,.slice a n c] 109)).alloc (.cells #[.slice none 0 0,.int .i64 0,.int .i64 0] 255):=⟨_,rfl⟩
 have X:Hid (Boxed W0 w.heap.size #[.int .i64 t,.int .i64 u,.slice a n c] 109∧Boxed W0 (w.heap.size+1) #[.slice none 0 0,.int .i64 0,.int .i64 0] 255∧Bel w W0):=by
  rw [hW0]
  refine ⟨(Boxed.new w _ _).more _,?_,((Below.refl _ _).alloc nlr _).alloc (by simp) _⟩
  have:=Boxed.new (w.alloc (.cells #[.int .i64 t,.int .i64 u,.slice a n c] 109)) #[.slice none 0 0,.int .i64 0,.int .i64 0] 255
  simpa using this
 have HW:Hid (W0=_):=hW0
 clear hW0
 have c0:W0.cell? ⟨w.heap.size,0,none⟩=some (.int .i64 t):=X.out.1.cell 0 rfl
 have c1:W0.cell? ⟨w.heap.size,1,none⟩=some (.int .i64 u):=X.out.1.cell 1 rfl
 have c2:W0.cell? ⟨w.heap.size,2,none⟩=some (.slice a n c):=X.out.1.cell 2 rfl
 go_enter Tryz.func207,Tryz.ntmps207
 go_upto_region 1 with fail
 rw [← HW.out]
 go_wp2_with (refine wpList_store_row rfl 255 (.tmp 2) (.tmp 9) rfl (w.heap.size+1) _ rfl rfl _ _ X.out.2.1 (by kernel_rfl) rfl (by simp [Value.oneCell']) ?_)
 exact bodyPost_ret (results_cell_row Tryz.results207 _ _ (w.heap.size+1) _ _ _ _ rfl (setRow_heap _ (w.heap.size+1) _ _ _ _ X.out.2.1) Tryz.underlying255 rfl (by kernel_rfl)) rfl ⟨rfl,below_setRow X.out.2.2 (by omega) _⟩
theorem implPayerOk (x:Fw) (a:Option Addr) (c:Nat) (w:World) (hT:x.sizes.length≤1048576) (H:IntsAt w a x.sizes) :
 Calls Tryz.prog 208 #[x.pay a c] w fun e w'=>e = .returned (.bool x.ok)∧Bel w w':=by
 have Hok:Hid (x.ok=(inB 1 10 x.weight&&(inB 0 1125899906842624 x.finish&&(inB 0 40 (x.sizes.length:Int)&&x.sizes.all (inB 1 2000))))):=rfl
 have A1:=fun B w hh=>implFromOne 10 x.weight B w hh
 have A2:=fun B w hh=>implUpTo1 1125899906842624 x.finish w B hh
 have A3:=fun w hh=>implSizesOk a c x.sizes w hT hh
 generalize x.ok=ok at Hok ⊢
 have HI:Hid (∀ w',Bel w w'→IntsAt w' a x.sizes):=fun w' g=>H.below g
 generalize (inB 0 40 (x.sizes.length:Int)&&x.sizes.all (inB 1 2000))=b3 at A3 Hok
 obtain ⟨t,u,fl⟩:=x
 simp only [Fw.pay] at Hok A1 A2 A3 HI ⊢
 generalize fl.length=n at A3 ⊢
 generalize inB 1 10 t=b1 at A1 Hok
 generalize inB 0 1125899906842624 u=b2 at A2 Hok
 have A1':Hid _:=A1
 have A2':Hid _:=A2
 have A3':Hid _:=A3
 clear A1 A2 A3 H hT
 go_enter Tryz.func208,Tryz.ntmps208
 cases b1
 ·go_wp2_with fail
  refine (A1'.out _ _ (by simp)).mono ?_
  rintro e w' ⟨rfl,rfl⟩
  go_wp2
  go_ret
  exact ⟨ret_bool (by rw [Hok.out];rfl),((Below.refl _ _).alloc nlr _).alloc (by simp) _⟩
 cases b2
 ·go_wp2_with fail
  refine (A1'.out _ _ (by simp)).mono ?_
  rintro e w' ⟨rfl,rfl⟩
  go_wp2_with fail
  refine (A2'.out _ _ (by simp)).mono ?_
  rintro e w' ⟨rfl,rfl⟩
  go_wp2
  go_ret
  exact ⟨ret_bool (by rw [Hok.out];rfl),(((Below.refl _ _).alloc nlr _).alloc (by simp) _).alloc (by simp;omega) _⟩
 go_wp2_with fail
 refine (A1'.out _ _ (by simp)).mono ?_
 rintro e w' ⟨rfl,rfl⟩
 go_wp2_with fail
 refine (A2'.out _ _ (by simp)).mono ?_
 rintro e w' ⟨rfl,rfl⟩
 go_wp2_with fail
 refine (A3'.out _ (HI.out _ ((((Below.refl _ _).alloc nlr _).alloc (by simp) _).alloc (by simp;omega) _))).mono ?_
 rintro e w' ⟨rfl,rfl⟩
 go_wp2
 go_ret
 exact ⟨ret_bool (by rw [Hok.out];rfl),(((Below.refl _ _).alloc nlr _).alloc (by simp) _).alloc (by simp;omega) _⟩
structure FwTells (W0:World) (g:FuncId) (fs cb:Array Value) (p:Fw→Bool):Prop where
 enters:Enters Tryz.prog g
 tells:∀ (W:World) (ak:Option Addr) (ck:Nat) (h:Fw),Bel W0 W→h.sizes.length≤1048576→IntsAt W ak h.sizes→Calls Tryz.prog g (fs++#[h.val ak ck]++cb) W fun e w'=>e = .returned (.bool (p h))∧Bel W w'
theorem implIndexF (a:Option Addr) (cap:Nat) (l:List Fw) (g:FuncId) (fs cb:Array Value) (p:Fw→Bool) (w:World) (hT:l.length≤1048576) (hin:∀ k,k<l.length→(fwAt l k).sizes.length≤1048576) (h:Hid (FwsAt w a l)) (ht:Hid (FwTells w g fs cb p)) :
 Calls Tryz.prog 239 #[.slice a l.length cap,.func (.func g) fs cb] w fun e w'=>e = .returned (.int .i64 (if l.findIdx p<l.length then (l.findIdx p:Int) else -1))∧Bel w w':=by
 have eg:∀ args w,(callFunc g args).run Tryz.prog w = .ok (.enter g args) w:=ht.out.enters
 have Hin:Hid (∀ k,k<l.length→(fwAt l k).sizes.length≤1048576):=hin
 obtain ⟨len,hlen⟩:∃ n,l.length=n:=⟨_,rfl⟩
 have Hlen:Hid (l.length=len):=hlen
 obtain ⟨N,hN⟩:∃ N,l.findIdx p=N:=⟨_,rfl⟩
 have HN:Hid (l.findIdx p=N):=hN
 have hNl:N≤len:=by rw [← hN,← hlen];exact List.findIdx_le_length
 rw [hlen] at hT ⊢
 rw [hN]
 clear hlen hN hin
 go_enter Tryz.func239,Tryz.ntmps239
 go_wp2
 go_loopw [8] (fun i wr=>∃ k:Nat,k≤N∧i = .int .i64 k∧Hid (Bel w wr)) (fun i _=>len-(intOf i).toNat)
 case atStart=>exact ⟨0,Nat.zero_le _,rfl,Below.refl _ _⟩
 case round =>
  obtain ⟨k,hk,rfl,H1⟩:=hrel
  by_cases hlt:k<len
  ·have hkl:k<l.length:=by rw [Hlen.out];exact hlt
   obtain ⟨b1,o1,ak,ck,ha1,hb1,⟨c0,c1,c2⟩,hr,-⟩:=(h.out.below H1.out) k hkl
   subst ha1
   have HC:=ht.out.tells wr ak ck (fwAt l k) H1.out (Hin.out k hkl) hr
   unfold Fw.val at HC
   have hlt':(k:Int)<(len:Int):=by omega
   by_cases hkN:k=N
   ·have hp:p (fwAt l k)=true:=by
     rw [fwAt_lt hkl]
     have:=List.findIdx_getElem (p:=p) (xs:=l) (w:=by rw [HN.out,Hlen.out,← hkN];exact hlt)
     simpa only [HN.out,← hkN] using this
    rw [hp] at HC
    clear hp hr hkl
    generalize (fwAt l k).sizes.length=n at c2 HC
    generalize (fwAt l k).weight=t at c0 HC
    generalize (fwAt l k).finish=u at c1 HC
    subst hkN
    go_wp2_with fail
    refine HC.mono ?_
    rintro e w' ⟨rfl,hb'⟩
    have B2:Hid (Bel w w'):=H1.out.trans (hb'.mono H1.out.size)
    clear hb' H1 HC c0 c1 c2
    go_wp2
    go_ret
    exact ⟨by first|rfl|(rw [if_pos hlt];rfl),B2.out⟩
   ·have hp:p (fwAt l k)=false:=by
     rw [fwAt_lt hkl]
     have:=List.not_of_lt_findIdx (p:=p) (xs:=l) (i:=k) (by rw [HN.out];omega)
     simpa using this
    rw [hp] at HC
    clear hp hr hkl
    generalize (fwAt l k).sizes.length=n at c2 HC
    generalize (fwAt l k).weight=t at c0 HC
    generalize (fwAt l k).finish=u at c1 HC
    go_wp2_with fail
    refine HC.mono ?_
    rintro e w' ⟨rfl,hb'⟩
    have B2:Hid (Bel w w'):=H1.out.trans (hb'.mono H1.out.size)
    clear hb' H1 HC c0 c1 c2
    go_wp2
    go_roundw
    case rel=>exact ⟨k+1,by omega,by go_num,B2⟩
    case measure=>simp [intOf];omega
  ·obtain rfl:k=len:=by omega
   obtain rfl:k=N:=by omega
   go_wp2
   go_ret
   exact ⟨by first|rfl|(rw [if_neg (Nat.lt_irrefl _)];rfl),H1.out⟩
theorem any_idxF {α:Type} (l:List α) (p:α→Bool):decide (l.findIdx p<l.length)=l.any p:=by
 rw [Bool.eq_iff_iff,decide_eq_true_iff,List.findIdx_lt_length,List.any_eq_true]
theorem implContainsF (a:Option Addr) (cap:Nat) (l:List Fw) (g:FuncId) (fs cb:Array Value) (p:Fw→Bool) (w:World) (hT:l.length≤1048576) (hin:∀ k,k<l.length→(fwAt l k).sizes.length≤1048576) (h:Hid (FwsAt w a l)) (ht:Hid (FwTells w g fs cb p)) :
 Calls Tryz.prog 205 #[.slice a l.length cap,.func (.func g) fs cb] w fun e w'=>e = .returned (.bool (l.any p))∧Bel w w':=by
 have I:=fun (_:Nat)=>implIndexF a cap l g fs cb p w hT hin h ht
 have Ha:Hid (decide (l.findIdx p<l.length)=l.any p):=any_idxF l p
 generalize l.any p=b at Ha ⊢
 generalize l.findIdx p=N at I Ha
 generalize l.length=len at I Ha ⊢
 have I':Hid _:=I
 clear I hT hin h ht
 go_enter Tryz.func205,Tryz.ntmps205
 go_wp2_with fail
 refine (I'.out 0).mono ?_
 rintro e w' ⟨rfl,hb⟩
 have B2:Hid (Bel w w'):=hb
 clear hb I'
 by_cases hk:N<len
 ·rw [if_pos hk]
  have hp:(0:Int)≤(N:Int):=by omega
  go_wp2
  go_ret
  exact ⟨ret_bool (by rw [← Ha.out,decide_eq_true hk]),B2.out⟩
 ·rw [if_neg hk]
  go_wp2
  go_ret
  exact ⟨ret_bool (by rw [← Ha.out,decide_eq_false hk]),B2.out⟩
theorem implNotFlow (x:Fw) (a:Option Addr) (c:Nat) (w:World) (hT:x.sizes.length≤1048576) (H:IntsAt w a x.sizes) :
 Calls Tryz.prog 206 #[x.val a c] w fun e w'=>e = .returned (.bool (!x.ok))∧Bel w w':=by
 have C:=fun (w:World) hh=>implPayerOk x a c w hT hh
 have D:=fun (w:World)=>implPayerOf x a c w
 generalize x.ok=ok at C ⊢
 have HI:Hid (∀ w',Bel w w'→IntsAt w' a x.sizes):=fun w' g=>H.below g
 obtain ⟨t,u,fl⟩:=x
 simp only [Fw.val,Fw.pay] at C D HI ⊢
 generalize fl.length=n at C D ⊢
 have C':Hid _:=C
 have D':Hid _:=D
 clear C D H hT
 have hB:Hid (Bel w (w.alloc (.cells #[.int .i64 t,.int .i64 u,.slice a n c] 109))):=(Below.refl _ _).alloc nlr _
 go_enter Tryz.func206,Tryz.ntmps206
 go_wp2_with fail
 refine (D'.out _).mono ?_
 rintro e w1 ⟨rfl,b1⟩
 have B1:Hid (Bel w w1):=hB.out.trans (b1.mono hB.out.size)
 clear b1 hB
 go_wp2_with fail
 refine (C'.out _ (HI.out _ B1.out)).mono ?_
 rintro e w2 ⟨rfl,b2⟩
 have B2:Hid (Bel w w2):=B1.out.trans (b2.mono B1.out.size)
 clear b2
 go_wp2
 go_ret
 exact ⟨rfl,B2.out⟩
theorem flows_any (l:List Fw):(!l.any fun x => !x.ok)=l.all Fw.ok:=by
 induction l with
 |nil=>rfl
 |cons x r ih=>simp only [List.any_cons,List.all_cons,Bool.not_or,Bool.not_not,ih]
theorem implFairOk (d:Fs) (v:Value) (w:World) (hB:d.big≤1048576) (h:Hid (FsAt w v d)) :
 Calls Tryz.prog 167 #[v] w fun e w'=>e = .returned (.bool d.ok)∧Bel w w':=by
 obtain ⟨a,c,rfl,k1⟩:=h.out
 clear h
 obtain ⟨hT,-,hin⟩:=Fs.small hB
 have Hok:Hid (d.ok=(inB 0 1125899906842624 d.now&&(inB 1 8 (d.flows.length:Int) && !d.flows.any fun x => !x.ok))):=by
  show d.ok=_
  rw [flows_any]
  rfl
 have A1:=fun B w hh=>implUpTo1 1125899906842624 d.now w B hh
 have A2:=fun B w hh=>implFromOne 8 (d.flows.length:Int) B w hh
 have A3:=fun (w:World) (hh:FwsAt w a d.flows)=>implContainsF a c d.flows 206 #[] #[] (fun x => !x.ok) w hT hin hh ⟨enters_of Tryz.func206 (by kernel_rfl) rfl,fun W ak ck l _ hl hr=>implNotFlow l ak ck W hl hr⟩
 generalize d.ok=ok at Hok ⊢
 have HI:Hid (∀ w',Bel w w'→FwsAt w' a d.flows):=fun w' g=>k1.below g
 generalize (d.flows.any fun x => !x.ok)=b3 at A3 Hok
 obtain ⟨t,fl⟩:=d
 simp only [Fs.val] at Hok A1 A2 A3 HI ⊢
 generalize fl.length=n at Hok A2 A3 ⊢
 generalize inB 0 1125899906842624 t=b1 at A1 Hok
 generalize inB 1 8 (n:Int)=b2 at A2 Hok
 have A1':Hid _:=A1
 have A2':Hid _:=A2
 have A3':Hid _:=A3
 clear A1 A2 A3 k1 hT hin hB
 go_enter Tryz.func167,Tryz.ntmps167
 cases b1
 ·go_wp2_with fail
  refine (A1'.out _ _ (by simp)).mono ?_
  rintro e w' ⟨rfl,rfl⟩
  go_wp2
  go_ret
  exact ⟨ret_bool (by rw [Hok.out];rfl),((Below.refl _ _).alloc nlr _).alloc (by simp) _⟩
 cases b2
 ·go_wp2_with fail
  refine (A1'.out _ _ (by simp)).mono ?_
  rintro e w' ⟨rfl,rfl⟩
  go_wp2_with fail
  refine (A2'.out _ _ (by simp)).mono ?_
  rintro e w' ⟨rfl,rfl⟩
  go_wp2
  go_ret
  exact ⟨ret_bool (by rw [Hok.out];rfl),(((Below.refl _ _).alloc nlr _).alloc (by simp) _).alloc (by simp;omega) _⟩
 go_wp2_with fail
 refine (A1'.out _ _ (by simp)).mono ?_
 rintro e w' ⟨rfl,rfl⟩
 go_wp2_with fail
 refine (A2'.out _ _ (by simp)).mono ?_
 rintro e w' ⟨rfl,rfl⟩
 have b0:Hid (Bel w (((w.alloc (.cells #[.int .i64 t,.slice a n c] 48)).alloc (.cells #[.int .i64 t] 2)).alloc (.cells #[.int .i64 (n:Int)] 2))):=(((Below.refl _ _).alloc nlr _).alloc (by simp) _).alloc (by simp;omega) _
 go_wp2_with fail
 refine (A3'.out _ (HI.out _ b0.out)).mono ?_
 rintro e w' ⟨rfl,q⟩
 have B2:Hid (Bel w w'):=b0.out.trans (q.mono b0.out.size)
 clear q b0
 go_wp2
 go_ret
 exact ⟨ret_bool (by rw [Hok.out];rfl),B2.out⟩
theorem implSteerOk (p:Sr) (w:World) :
 Calls Tryz.prog 170 #[p.val] w fun e w'=>e = .returned (.bool p.ok)∧Bel w w':=by
 have Hok:Hid (p.ok=(inB 1 1000 p.target&&(inB 0 100000 p.old&&inB 0 1048576 p.prob))):=rfl
 obtain ⟨v0,v1,v2⟩:=p
 generalize Sr.ok _=ok at Hok ⊢
 simp only [Sr.val] at Hok ⊢
 have A1:=fun B w h=>implFromOne 1000 v0 B w h
 have A2:=fun B w h=>implUpTo1 100000 v1 w B h
 have A3:=fun B w h=>implUpTo1 1048576 v2 w B h
 generalize inB 1 1000 v0=b1 at A1 Hok
 generalize inB 0 100000 v1=b2 at A2 Hok
 generalize inB 0 1048576 v2=b3 at A3 Hok
 have A1':Hid _:=A1
 have A2':Hid _:=A2
 have A3':Hid _:=A3
 clear A1 A2 A3
 go_enter Tryz.func170,Tryz.ntmps170
 go_wp2_with fail
 refine (A1'.out _ _ (by simp)).mono ?_
 rintro e w' ⟨rfl,rfl⟩
 cases b1
 ·go_wp2
  go_ret
  exact ⟨ret_bool (by rw [Hok.out];rfl),by repeat (first|exact Below.refl _ _|refine Below.alloc ?_ (by simp<;>omega) _)⟩
 go_wp2_with fail
 refine (A2'.out _ _ (by simp)).mono ?_
 rintro e w' ⟨rfl,rfl⟩
 cases b2
 ·go_wp2
  go_ret
  exact ⟨ret_bool (by rw [Hok.out];rfl),by repeat (first|exact Below.refl _ _|refine Below.alloc ?_ (by simp<;>omega) _)⟩
 go_wp2_with fail
 refine (A3'.out _ _ (by simp)).mono ?_
 rintro e w' ⟨rfl,rfl⟩
 go_wp2
 go_ret
 exact ⟨ret_bool (by rw [Hok.out];rfl),by repeat (first|exact Below.refl _ _|refine Below.alloc ?_ (by simp<;>omega) _)⟩
open Go.RowKit Go.Shelf
structure SrTells (W0:World) (D:Nat→Prop) (g:FuncId) (fs cb:Array Value) (Q:Sr→Prop) (p:Sr→Bool):Prop where
 enters:Enters Tryz.prog g
 under:∀ k,D k→k<W0.heap.size
 tells:∀ (W:World) (r:Sr),Q r→(∀ k,D k→W.heap[k]? = W0.heap[k]?)→Calls Tryz.prog g (fs++#[r.val]++cb) W fun e w'=>e = .returned (.bool (p r))∧Bel W w'
theorem implIndexS (a:Option Addr) (cap:Nat) (l:List Sr) (g:FuncId) (fs cb:Array Value) (D:Nat→Prop) (Q:Sr→Prop) (p:Sr→Bool) (w:World) (hT:l.length≤1048576) (h:Hid (SrsAt w a l)) (hq:Hid (∀ r∈l,Q r)) (ht:Hid (SrTells w D g fs cb Q p)) :
 Calls Tryz.prog 209 #[.slice a l.length cap,.func (.func g) fs cb] w fun e w'=>e = .returned (.int .i64 (if l.findIdx p<l.length then (l.findIdx p:Int) else -1))∧Bel w w':=by
 have eg:∀ args w,(callFunc g args).run Tryz.prog w = .ok (.enter g args) w:=ht.out.enters
 obtain ⟨len,hlen⟩:∃ n,l.length=n:=⟨_,rfl⟩
 have Hlen:Hid (l.length=len):=hlen
 obtain ⟨N,hN⟩:∃ N,l.findIdx p=N:=⟨_,rfl⟩
 have HN:Hid (l.findIdx p=N):=hN
 have hNl:N≤len:=by rw [← hN,← hlen];exact List.findIdx_le_length
 rw [hlen] at hT ⊢
 rw [hN]
 clear hlen hN
 go_enter Tryz.func209,Tryz.ntmps209
 go_wp2
 go_loopw [8] (fun i wr=>∃ k:Nat,k≤N∧i = .int .i64 k∧Hid (Bel w wr)) (fun i _=>len-(intOf i).toNat)
 case atStart=>exact ⟨0,Nat.zero_le _,rfl,Below.refl _ _⟩
 case round =>
  obtain ⟨k,hk,rfl,H1⟩:=hrel
  by_cases hlt:k<len
  ·have R:Hid (SrsAt wr a l):=h.out.below H1.out
   obtain ⟨b1,o1,ha1,hb1,-⟩:=R.out k (by rw [Hlen.out];exact hlt)
   subst ha1
   obtain ⟨c0,c1,c2⟩:=R.out.cells (k:=k) (by rw [Hlen.out];exact hlt)
   have hmem:srAt l k∈l:=by rw [srAt_lt (by rw [Hlen.out];exact hlt)];exact List.getElem_mem _
   have HC:=ht.out.tells wr (srAt l k) (hq.out _ hmem) fun j hj=>H1.out.block j (ht.out.under j hj)
   unfold Sr.val at HC
   have hlt':(k:Int)<(len:Int):=by omega
   by_cases hkN:k=N
   ·have hp:p (srAt l k)=true:=by
     rw [srAt_lt (by rw [Hlen.out];exact hlt)]
     have:=List.findIdx_getElem (p:=p) (xs:=l) (w:=by rw [HN.out,Hlen.out,← hkN];exact hlt)
     simpa only [HN.out,← hkN] using this
    rw [hp] at HC
    clear hmem hp R
    generalize srAt l k=r at c0 c1 c2 HC
    subst hkN
    go_wp2_with fail
    refine HC.mono ?_
    rintro e w' ⟨rfl,hb'⟩
    have B2:Hid (Bel w w'):=H1.out.trans (hb'.mono H1.out.size)
    clear hb' H1 HC c0 c1 c2
    go_wp2
    go_ret
    exact ⟨by first|rfl|(rw [if_pos hlt];rfl),B2.out⟩
   ·have hp:p (srAt l k)=false:=by
     rw [srAt_lt (by rw [Hlen.out];exact hlt)]
     have:=List.not_of_lt_findIdx (p:=p) (xs:=l) (i:=k) (by rw [HN.out];omega)
     simpa using this
    rw [hp] at HC
    clear hmem hp R
    generalize srAt l k=r at c0 c1 c2 HC
    go_wp2_with fail
    refine HC.mono ?_
    rintro e w' ⟨rfl,hb'⟩
    have B2:Hid (Bel w w'):=H1.out.trans (hb'.mono H1.out.size)
    clear hb' H1 HC c0 c1 c2
    go_wp2
    go_roundw
    case rel=>exact ⟨k+1,by omega,by go_num,B2⟩
    case measure=>simp [intOf];omega
  ·obtain rfl:k=len:=by omega
   obtain rfl:k=N:=by omega
   go_wp2
   go_ret
   exact ⟨by first|rfl|(rw [if_neg (Nat.lt_irrefl _)];rfl),H1.out⟩
theorem implContainsS (a:Option Addr) (cap:Nat) (l:List Sr) (g:FuncId) (fs cb:Array Value) (D:Nat→Prop) (Q:Sr→Prop) (p:Sr→Bool) (w:World) (hT:l.length≤1048576) (h:Hid (SrsAt w a l)) (hq:Hid (∀ r∈l,Q r)) (ht:Hid (SrTells w D g fs cb Q p)) :
 Calls Tryz.prog 168 #[.slice a l.length cap,.func (.func g) fs cb] w fun e w'=>e = .returned (.bool (l.any p))∧Bel w w':=by
 have I:=fun (w:World) h ht=>implIndexS a cap l g fs cb D Q p w hT h hq ht
 have Ha:Hid (decide (l.findIdx p<l.length)=l.any p):=any_idxT l p
 generalize l.any p=b at Ha ⊢
 by_cases hlt:l.findIdx p<l.length
 ·rw [if_pos hlt] at I
  rw [decide_eq_true hlt] at Ha
  generalize l.findIdx p=N at I hlt
  generalize l.length=len at I hlt hT ⊢
  have I':Hid _:=I
  clear I hlt
  have hp:(0:Int)≤(N:Int):=by omega
  go_enter Tryz.func168,Tryz.ntmps168
  go_wp2_with fail
  refine (I'.out _ h ht).mono ?_
  rintro e w' ⟨rfl,hb⟩
  have B2:Hid (Bel w w'):=hb
  clear hb
  go_wp2
  go_ret
  exact ⟨ret_bool (by rw [← Ha.out]),B2.out⟩
 ·rw [if_neg hlt] at I
  rw [decide_eq_false hlt] at Ha
  generalize l.length=len at I hT ⊢
  have I':Hid _:=I
  clear I hlt
  go_enter Tryz.func168,Tryz.ntmps168
  go_wp2_with fail
  refine (I'.out _ h ht).mono ?_
  rintro e w' ⟨rfl,hb⟩
  have B2:Hid (Bel w w'):=hb
  clear hb
  go_wp2
  go_ret
  exact ⟨ret_bool (by rw [← Ha.out]),B2.out⟩
open Go.RowKit Go.Shelf
theorem implBadSr (r:Sr) (w:World) :
 Calls Tryz.prog 169 #[r.val] w fun e w'=>e = .returned (.bool (!r.ok))∧Below w.heap.size w w':=by
 have O:=fun w=>implSteerOk r w
 generalize r.ok=ok at O ⊢
 obtain ⟨r1,r2,r3⟩:=r
 simp only [Sr.val] at O ⊢
 have H:Hid (Below w.heap.size w (w.alloc (.cells #[.int .i64 r1,.int .i64 r2,.int .i64 r3] 143))):=(Below.refl _ _).alloc nlr _
 have O':Hid _:=O
 clear O
 go_enter Tryz.func169,Tryz.ntmps169
 go_wp2_with fail
 refine (O'.out _).mono ?_
 rintro e w2 ⟨rfl,q⟩
 have H2:Hid (Below w.heap.size w w2):=H.out.trans (q.mono H.out.size)
 clear q O' H
 go_wp2
 go_ret
 exact ⟨rfl,H2.out⟩
theorem any_bad (l:List Sr):(l.any fun r => !r.ok) = !l.all Sr.ok:=by
 induction l with
 |nil=>rfl
 |cons a l ih=>rw [List.any_cons,List.all_cons,ih,Bool.not_and]
theorem implTreeOkV (g:Gt) (x:Ga) (w:World) (hT:g.tree.length≤1048576) (h:GtV w x g) :
 Calls Tryz.prog 165 #[.slice x.a3 g.tree.length x.c3] w fun e w'=>e = .returned (.bool (tok g.tree))∧Below w.heap.size w w':=by
 obtain ⟨a,c,e,h1,h2,h3⟩:=h.tree
 cases e
 exact implTreeOk g.tree _ _ w hT h2 h3 h1
theorem implParts (g:Gt) (x:Ga) (w:World) (hB:g.big≤1048576) (h:Hid (GtV w x g)) :
 Calls Tryz.prog 115 #[g.val x] w fun e w'=>e = .returned (.bool g.parts)∧Below w.heap.size w w':=by
 obtain ⟨s1,s2,s3,s4,s5,s6,s7⟩:=Gt.small hB
 have A1:=fun w=>implLineOk g.ln w
 have A2:=fun w (h:GtV w x g)=>implOk x.a1 x.c1 g.routes w s1 h.routes.spot'
 have A3:=fun w (h:GtV w x g)=>implRules x.a2 x.c2 g.rules w s2 h.rules.spot'
 have A4:=fun w (h:GtV w x g)=>implTreeOkV g x w s3 h
 have A5:=fun w (h:GtV w x g)=>implRowsOk g.rows x.a5 x.c5 w s5 h.rows.spot
 have A6:=fun w (h:GtV w x g)=>implFairOk g.fair (g.fair.val x.a7 x.c7) w s7 h.fair
 have A7:=fun w (h:GtV w x g)=>implContainsS x.a6 x.c6 g.steers 169 #[] #[] (fun _=>False) (fun _=>True) (fun r => !r.ok) w s6 h.steers.spot' (fun _ _=>trivial) ⟨enters_of Tryz.func169 (by kernel_rfl) rfl,fun _ hk=>hk.elim,fun W r _ _=>implBadSr r W⟩
 have Hv:Hid (g.parts=(g.ln.ok&&(rtsOk g.routes&&(rusOk g.rules&&(tok g.tree&&(g.rows.ok&&(g.fair.ok && !(g.steers.any fun r => !r.ok)))))))):=by show _=_;unfold Gt.parts;rw [any_bad,Bool.not_not]
 unfold Ln.val at A1
 unfold Rw.val at A5
 unfold Fs.val at A6
 generalize g.parts=R at Hv ⊢
 generalize g.ln.ok=o1 at A1 Hv
 generalize rtsOk g.routes=o2 at A2 Hv
 generalize rusOk g.rules=o3 at A3 Hv
 generalize tok g.tree=o4 at A4 Hv
 generalize g.rows.ok=o5 at A5 Hv
 generalize g.fair.ok=o6 at A6 Hv
 generalize (g.steers.any fun r => !r.ok)=o7 at A7 Hv
 have K:Hid (∀ w',Below w.heap.size w w'→GtV w' x g):=fun w' q=>h.out.below q
 unfold Gt.val Gt.cells
 generalize g.ln.kind=kd at A1 ⊢
 generalize g.ln.extra=ex at A1 ⊢
 generalize g.ln.least=le at A1 ⊢
 generalize g.routes.length=n1 at A2 ⊢
 generalize g.rules.length=n2 at A3 ⊢
 generalize g.tree.length=n3 at A4 ⊢
 generalize g.leaves.length=n4
 generalize g.rows.most=mo at A5 ⊢
 generalize g.rows.lists.length=n5 at A5 ⊢
 generalize g.steers.length=n6 at A7 ⊢
 generalize g.fair.now=nw at A6 ⊢
 generalize g.fair.flows.length=n7 at A6 ⊢
 generalize g.next=nx
 generalize g.draw=dr
 have B1:Hid _:=A1
 clear A1
 have A1:=B1
 clear B1
 have B2:Hid _:=A2
 clear A2
 have A2:=B2
 clear B2
 have B3:Hid _:=A3
 clear A3
 have A3:=B3
 clear B3
 have B4:Hid _:=A4
 clear A4
 have A4:=B4
 clear B4
 have B5:Hid _:=A5
 clear A5
 have A5:=B5
 clear B5
 have B6:Hid _:=A6
 clear A6
 have A6:=B6
 clear B6
 have B7:Hid _:=A7
 clear A7
 have A7:=B7
 clear B7
 obtain ⟨A,hAq⟩:∃ A,A=w.heap.size:=⟨_,rfl⟩
 obtain ⟨W0,hW⟩:∃ W,W=w.alloc (.cells #[.int .i64 kd,.int .i64 ex,.int .i64 le,.slice x.a1 n1 x.c1,.slice x.a2 n2 x.c2,.slice x.a3 n3 x.c3,.slice x.a4 n4 x.c4,.int .i64 mo,.slice x.a5 n5 x.c5,.slice x.a6 n6 x.c6,.int .i64 nw,.slice x.a7 n7 x.c7,.int .i64 nx,.int .i64 dr] 50):=⟨_,rfl⟩
 have Z0:Hid (Boxed W0 A #[.int .i64 kd,.int .i64 ex,.int .i64 le,.slice x.a1 n1 x.c1,.slice x.a2 n2 x.c2,.slice x.a3 n3 x.c3,.slice x.a4 n4 x.c4,.int .i64 mo,.slice x.a5 n5 x.c5,.slice x.a6 n6 x.c6,.int .i64 nw,.slice x.a7 n7 x.c7,.int .i64 nx,.int .i64 dr] 50∧Below w.heap.size w W0):=by
  have bw:Below w.heap.size w W0:=by rw [hW];exact (Below.refl _ _).alloc nlr _
  exact ⟨by rw [hW,hAq];exact Boxed.new _ _ _,bw⟩
 have HW:Hid (W0=_):=hW
 have HA:Hid (A=_):=hAq
 clear hW hAq h hB s1 s2 s3 s4 s5 s6 s7
 go_enter Tryz.func115,Tryz.ntmps115
 go_upto_region 1 with fail
 rw [← HW.out,← HA.out]
 clear HW HA
 have c0:∀ p:BelW W0.heap.size W0,p.w'.cell? ⟨A,0,none⟩=some (.int .i64 kd):=fun p=>(Z0.out.1.below Z0.out.1.under p.h).cell 0 rfl
 have c1:∀ p:BelW W0.heap.size W0,p.w'.cell? ⟨A,1,none⟩=some (.int .i64 ex):=fun p=>(Z0.out.1.below Z0.out.1.under p.h).cell 1 rfl
 have c2:∀ p:BelW W0.heap.size W0,p.w'.cell? ⟨A,2,none⟩=some (.int .i64 le):=fun p=>(Z0.out.1.below Z0.out.1.under p.h).cell 2 rfl
 have c3:∀ p:BelW W0.heap.size W0,p.w'.cell? ⟨A,3,none⟩=some (.slice x.a1 n1 x.c1):=fun p=>(Z0.out.1.below Z0.out.1.under p.h).cell 3 rfl
 have c4:∀ p:BelW W0.heap.size W0,p.w'.cell? ⟨A,4,none⟩=some (.slice x.a2 n2 x.c2):=fun p=>(Z0.out.1.below Z0.out.1.under p.h).cell 4 rfl
 have c5:∀ p:BelW W0.heap.size W0,p.w'.cell? ⟨A,5,none⟩=some (.slice x.a3 n3 x.c3):=fun p=>(Z0.out.1.below Z0.out.1.under p.h).cell 5 rfl
 have c7:∀ p:BelW W0.heap.size W0,p.w'.cell? ⟨A,7,none⟩=some (.int .i64 mo):=fun p=>(Z0.out.1.below Z0.out.1.under p.h).cell 7 rfl
 have c8:∀ p:BelW W0.heap.size W0,p.w'.cell? ⟨A,8,none⟩=some (.slice x.a5 n5 x.c5):=fun p=>(Z0.out.1.below Z0.out.1.under p.h).cell 8 rfl
 have c9:∀ p:BelW W0.heap.size W0,p.w'.cell? ⟨A,9,none⟩=some (.slice x.a6 n6 x.c6):=fun p=>(Z0.out.1.below Z0.out.1.under p.h).cell 9 rfl
 have c10:∀ p:BelW W0.heap.size W0,p.w'.cell? ⟨A,10,none⟩=some (.int .i64 nw):=fun p=>(Z0.out.1.below Z0.out.1.under p.h).cell 10 rfl
 have c11:∀ p:BelW W0.heap.size W0,p.w'.cell? ⟨A,11,none⟩=some (.slice x.a7 n7 x.c7):=fun p=>(Z0.out.1.below Z0.out.1.under p.h).cell 11 rfl
 have Kp:Hid (∀ p:BelW W0.heap.size W0,GtV p.w' x g):=fun p=>K.out _ (Z0.out.2.trans (p.h.mono Z0.out.2.size))
 have Sp:Hid (∀ w2,Below W0.heap.size W0 w2→Below w.heap.size w w2):=fun w2 q=>Z0.out.2.trans (q.mono Z0.out.2.size)
 clear Z0 K
 haveI:Nonempty (BelW W0.heap.size W0):=⟨⟨W0,Below.refl _ _⟩⟩
 cases o1
 ·have e:R=false:=by rw [Hv.out];rfl
  subst e
  refine region_belowS W0.heap.size ?_
  try simp only [List.append]
  repeat (go_big_quiet_step (first|(go_at_call 162;with_reducible refine qb (A1.out _))|(go_at_call 163;with_reducible refine qb (A2.out _ (Kp.out _)))|(go_at_call 164;with_reducible refine qb (A3.out _ (Kp.out _)))|(go_at_call 165;with_reducible refine qb (A4.out _ (Kp.out _)))|(go_at_call 166;with_reducible refine qb (A5.out _ (Kp.out _)))|(go_at_call 167;with_reducible refine qb (A6.out _ (Kp.out _)))|(go_at_call 168;with_reducible refine qb (A7.out _ (Kp.out _)))))
  refine wpQuiet_nil ?_
  intro w2 hx
  have Z2:Hid (Below w.heap.size w w2):=Sp.out _ (BelW.out hx)
  clear hx Kp Sp c0 c1 c2 c3 c4 c5 c7 c8 c9 c10 c11
  go_wp2
  go_ret
  exact ⟨rfl,Z2.out⟩
 cases o2
 ·have e:R=false:=by rw [Hv.out];rfl
  subst e
  refine region_belowS W0.heap.size ?_
  try simp only [List.append]
  repeat (go_big_quiet_step (first|(go_at_call 162;with_reducible refine qb (A1.out _))|(go_at_call 163;with_reducible refine qb (A2.out _ (Kp.out _)))|(go_at_call 164;with_reducible refine qb (A3.out _ (Kp.out _)))|(go_at_call 165;with_reducible refine qb (A4.out _ (Kp.out _)))|(go_at_call 166;with_reducible refine qb (A5.out _ (Kp.out _)))|(go_at_call 167;with_reducible refine qb (A6.out _ (Kp.out _)))|(go_at_call 168;with_reducible refine qb (A7.out _ (Kp.out _)))))
  refine wpQuiet_nil ?_
  intro w2 hx
  have Z2:Hid (Below w.heap.size w w2):=Sp.out _ (BelW.out hx)
  clear hx Kp Sp c0 c1 c2 c3 c4 c5 c7 c8 c9 c10 c11
  go_wp2
  go_ret
  exact ⟨rfl,Z2.out⟩
 cases o3
 ·have e:R=false:=by rw [Hv.out];rfl
  subst e
  refine region_belowS W0.heap.size ?_
  try simp only [List.append]
  repeat (go_big_quiet_step (first|(go_at_call 162;with_reducible refine qb (A1.out _))|(go_at_call 163;with_reducible refine qb (A2.out _ (Kp.out _)))|(go_at_call 164;with_reducible refine qb (A3.out _ (Kp.out _)))|(go_at_call 165;with_reducible refine qb (A4.out _ (Kp.out _)))|(go_at_call 166;with_reducible refine qb (A5.out _ (Kp.out _)))|(go_at_call 167;with_reducible refine qb (A6.out _ (Kp.out _)))|(go_at_call 168;with_reducible refine qb (A7.out _ (Kp.out _)))))
  refine wpQuiet_nil ?_
  intro w2 hx
  have Z2:Hid (Below w.heap.size w w2):=Sp.out _ (BelW.out hx)
  clear hx Kp Sp c0 c1 c2 c3 c4 c5 c7 c8 c9 c10 c11
  go_wp2
  go_ret
  exact ⟨rfl,Z2.out⟩
 cases o4
 ·have e:R=false:=by rw [Hv.out];rfl
  subst e
  refine region_belowS W0.heap.size ?_
  try simp only [List.append]
  repeat (go_big_quiet_step (first|(go_at_call 162;with_reducible refine qb (A1.out _))|(go_at_call 163;with_reducible refine qb (A2.out _ (Kp.out _)))|(go_at_call 164;with_reducible refine qb (A3.out _ (Kp.out _)))|(go_at_call 165;with_reducible refine qb (A4.out _ (Kp.out _)))|(go_at_call 166;with_reducible refine qb (A5.out _ (Kp.out _)))|(go_at_call 167;with_reducible refine qb (A6.out _ (Kp.out _)))|(go_at_call 168;with_reducible refine qb (A7.out _ (Kp.out _)))))
  refine wpQuiet_nil ?_
  intro w2 hx
  have Z2:Hid (Below w.heap.size w w2):=Sp.out _ (BelW.out hx)
  clear hx Kp Sp c0 c1 c2 c3 c4 c5 c7 c8 c9 c10 c11
  go_wp2
  go_ret
  exact ⟨rfl,Z2.out⟩
 cases o5
 ·have e:R=false:=by rw [Hv.out];rfl
  subst e
  refine region_belowS W0.heap.size ?_
  try simp only [List.append]
  repeat (go_big_quiet_step (first|(go_at_call 162;with_reducible refine qb (A1.out _))|(go_at_call 163;with_reducible refine qb (A2.out _ (Kp.out _)))|(go_at_call 164;with_reducible refine qb (A3.out _ (Kp.out _)))|(go_at_call 165;with_reducible refine qb (A4.out _ (Kp.out _)))|(go_at_call 166;with_reducible refine qb (A5.out _ (Kp.out _)))|(go_at_call 167;with_reducible refine qb (A6.out _ (Kp.out _)))|(go_at_call 168;with_reducible refine qb (A7.out _ (Kp.out _)))))
  refine wpQuiet_nil ?_
  intro w2 hx
  have Z2:Hid (Below w.heap.size w w2):=Sp.out _ (BelW.out hx)
  clear hx Kp Sp c0 c1 c2 c3 c4 c5 c7 c8 c9 c10 c11
  go_wp2
  go_ret
  exact ⟨rfl,Z2.out⟩
 cases o6
 ·have e:R=false:=by rw [Hv.out];rfl
  subst e
  refine region_belowS W0.heap.size ?_
  try simp only [List.append]
  repeat (go_big_quiet_step (first|(go_at_call 162;with_reducible refine qb (A1.out _))|(go_at_call 163;with_reducible refine qb (A2.out _ (Kp.out _)))|(go_at_call 164;with_reducible refine qb (A3.out _ (Kp.out _)))|(go_at_call 165;with_reducible refine qb (A4.out _ (Kp.out _)))|(go_at_call 166;with_reducible refine qb (A5.out _ (Kp.out _)))|(go_at_call 167;with_reducible refine qb (A6.out _ (Kp.out _)))|(go_at_call 168;with_reducible refine qb (A7.out _ (Kp.out _)))))
  refine wpQuiet_nil ?_
  intro w2 hx
  have Z2:Hid (Below w.heap.size w w2):=Sp.out _ (BelW.out hx)
  clear hx Kp Sp c0 c1 c2 c3 c4 c5 c7 c8 c9 c10 c11
  go_wp2
  go_ret
  exact ⟨rfl,Z2.out⟩
 ·have e:R = !o7:=by rw [Hv.out];rfl
  subst e
  refine region_belowS W0.heap.size ?_
  try simp only [List.append]
  repeat (go_big_quiet_step (first|(go_at_call 162;with_reducible refine qb (A1.out _))|(go_at_call 163;with_reducible refine qb (A2.out _ (Kp.out _)))|(go_at_call 164;with_reducible refine qb (A3.out _ (Kp.out _)))|(go_at_call 165;with_reducible refine qb (A4.out _ (Kp.out _)))|(go_at_call 166;with_reducible refine qb (A5.out _ (Kp.out _)))|(go_at_call 167;with_reducible refine qb (A6.out _ (Kp.out _)))|(go_at_call 168;with_reducible refine qb (A7.out _ (Kp.out _)))))
  refine wpQuiet_nil ?_
  intro w2 hx
  have Z2:Hid (Below w.heap.size w w2):=Sp.out _ (BelW.out hx)
  clear hx Kp Sp c0 c1 c2 c3 c4 c5 c7 c8 c9 c10 c11
  go_wp2
  go_ret
  exact ⟨rfl,Z2.out⟩
theorem lv_hit {ls:List Int} {n k:Nat} (h:k<ls.length) (g:lvB ls n k=false):(List.range ls.length).all (lvB ls n)=false:=by
 rw [List.all_eq_false]
 exact ⟨k,List.mem_range.2 h,by rw [g];decide⟩
theorem lv_succ (ls:List Int) (n k:Nat):(List.range (k+1)).all (lvB ls n)=((List.range k).all (lvB ls n)&&lvB ls n k):=by
 simp [List.range_succ]
theorem implLeavesOk (ls:List Int) (a:Option Addr) (c n:Nat) (w:World) (hn:n≤1048576) (hT:ls.length≤1048576) (h:Hid (IntsAt w a ls)) :
 Calls Tryz.prog 116 #[.slice a ls.length c,.int .i64 (n:Int)] w fun e w'=>e = .returned (.bool (lvOk ls n))∧Bel w w':=by
 have Hv:Hid (lvOk ls n=(inB 1 8 (ls.length:Int)&&(List.range ls.length).all (lvB ls n))):=by
  show lvOk ls n=_
  unfold lvOk
  rw [← Bool.and_assoc]
  congr 1
  rw [Bool.eq_iff_iff]
  simp only [Bool.and_eq_true,decide_eq_true_eq,inB_true]
  omega
 have Hh:Hid (∀ k,k<ls.length→lvB ls n k=false→(List.range ls.length).all (lvB ls n)=false):=fun k hk g=>lv_hit hk g
 have Hs:Hid (∀ k,(List.range (k+1)).all (lvB ls n)=((List.range k).all (lvB ls n)&&lvB ls n k)):=fun k=>lv_succ ls n k
 have Hb:Hid (∀ k,lvB ls n k=(inB 0 ((n:Int)-1) (ls[k]?.getD 0)&&(decide (k=0)||decide (ls[k-1]?.getD 0<ls[k]?.getD 0)))):=fun k=>by
  unfold lvB
  rw [← Bool.and_assoc]
  congr 1
  rw [Bool.eq_iff_iff]
  simp only [Bool.and_eq_true,decide_eq_true_eq,inB_true]
  omega
 obtain ⟨len,hlen⟩:∃ m,ls.length=m:=⟨_,rfl⟩
 have Hlen:Hid (ls.length=len):=hlen
 rw [hlen] at hT Hv Hh ⊢
 clear hlen
 have F:=fun B w hB=>implFromOne 8 (len:Int) B w hB
 have AP:=fun p w=>implPlace n p w hn
 generalize lvOk ls n=R at Hv ⊢
 generalize inB 1 8 (len:Int)=ok at F Hv
 have F':Hid _:=F
 have AP':Hid _:=AP
 clear F AP
 have N1:Hid (Bel w (w.alloc (.cells #[.int .i64 (len:Int)] 2))):=(Below.refl _ _).alloc nlr _
 go_enter Tryz.func116,Tryz.ntmps116
 go_wp2_with fail
 refine (F'.out _ w rfl).mono ?_
 rintro e w1 ⟨rfl,hw1⟩
 have B1:Hid (Bel w w1):=by rw [hw1];exact N1.out
 clear hw1 F' N1
 cases ok
 ·have e1:R=false:=by rw [Hv.out];rfl
  subst e1
  go_wp2
  go_ret
  exact ⟨rfl,B1.out⟩
 have e1:R=(List.range len).all (lvB ls n):=by rw [Hv.out,Bool.true_and]
 have HR:Hid _:=e1
 clear e1 Hv
 go_wp2
 go_loopw [5,6,14] (fun _ _ i wr=>∃ k:Nat,k≤len∧i = .int .i64 k∧Hid ((List.range k).all (lvB ls n)=true)∧Hid (Bel w wr)) (fun _ _ i _=>len-(intOf i).toNat)
 case atStart=>exact ⟨0,Nat.zero_le _,rfl,rfl,B1.out⟩
 case round =>
  obtain ⟨k,hk,rfl,hg,HB⟩:=hrel
  by_cases hlt:k<len
  ·have hlt':(k:Int)<(len:Int):=by omega
   have Rr:Hid (IntsAt wr a ls):=h.out.below HB.out
   obtain ⟨b1,o1,ha1,hb1,c0⟩:=Rr.out k (by rw [Hlen.out];exact hlt)
   subst ha1
   have AP:=fun w=>AP'.out (ls[k]?.getD 0) w
   have hb:=Hb.out k
   have hh:=Hh.out k hlt
   have hs:=Hs.out k
   rw [hg.out,Bool.true_and] at hs
   have P1:Hid (∀ j,j<k→∀ w2,Bel wr w2→w2.cell? ⟨b1,o1+j,none⟩=some (.int .i64 (ls[j]?.getD 0))):=fun j hj w2 q=>by
    obtain ⟨b2,o2,ha2,hb2,d0⟩:=(Rr.out.below q) j (by rw [Hlen.out];omega)
    cases ha2
    exact d0
   generalize lvB ls n k=lb at hb hh hs
   have HS:Hid _:=hs
   have HH:Hid _:=hh
   have HP:Hid (∀ j,k=j+1→ls[k-1]?.getD 0=ls[j]?.getD 0):=fun j e=>by rw [e];rfl
   generalize ls[k-1]?.getD 0=y at hb HP
   generalize ls[k]?.getD 0=x at c0 AP hb
   generalize inB 0 ((n:Int)-1) x=pl at AP hb
   have AP2:Hid _:=AP
   have HB2:Hid _:=hb
   clear hb hh hs AP
   have Bx:Hid (Bel wr (wr.alloc (.cells #[.int .i64 x] 2))):=(Below.refl _ _).alloc nlr _
   go_wp2_with fail
   refine (AP2.out _).mono ?_
   rintro e w2 ⟨rfl,hw2⟩
   have B2:Hid (Bel wr w2):=by rw [hw2];exact Bx.out
   clear hw2 AP2 Bx
   cases pl
   ·have e1:R=false:=by rw [HR.out];exact HH.out (by rw [HB2.out];rfl)
    subst e1
    have B3:Hid (Bel w w2):=HB.out.trans (B2.out.mono HB.out.size)
    go_wp2
    go_ret
    exact ⟨rfl,B3.out⟩
   by_cases hk0:k=0
   ·subst hk0
    have hg2:Hid ((List.range (0+1)).all (lvB ls n)=true):=by show _=true;rw [HS.out,HB2.out];rfl
    have B3:Hid (Bel w w2):=HB.out.trans (B2.out.mono HB.out.size)
    clear HS HB2 HH HP P1 B2
    go_wp2
    go_roundw
    case rel=>exact ⟨1,by omega,by go_num,hg2,B3⟩
    case measure=>simp [intOf];omega
   obtain ⟨j,rfl⟩:∃ j,k=j+1:=⟨k-1,by omega⟩
   have d0:=P1.out j (by omega) w2 B2.out
   rw [← HP.out j rfl] at d0
   have hb12:b1<w2.heap.size:=Nat.lt_of_lt_of_le hb1 B2.out.size
   have B3:Hid (Bel w w2):=HB.out.trans (B2.out.mono HB.out.size)
   have hj0:(0:Int)≤(j:Int):=by omega
   have hjl:(j:Int)<(len:Int):=by omega
   have hj1:(0:Int)<(j:Int)+1:=by omega
   by_cases hL:x≤y
   ·have e1:R=false:=by rw [HR.out];exact HH.out (by rw [HB2.out,decide_eq_false (by omega),decide_eq_false (by omega)];rfl)
    subst e1
    clear HS HB2 HH HP P1 B2
    go_wp2
    go_ret
    exact ⟨rfl,B3.out⟩
   ·have hg2:Hid ((List.range (j+1+1)).all (lvB ls n)=true):=by show _=true;rw [HS.out,HB2.out,decide_eq_true (show y<x by omega)];simp
    clear HS HB2 HH HP P1 B2
    go_wp2
    go_roundw
    case rel=>exact ⟨j+1+1,by omega,by go_num,hg2,B3⟩
    case measure=>simp [intOf];omega
  ·obtain rfl:k=len:=by omega
   have e1:R=true:=by rw [HR.out];exact hg.out
   subst e1
   go_wp2
   go_ret
   exact ⟨rfl,HB.out⟩
theorem implBegun (c p:Int) (hp:p=48∨p=64) (c0:0≤c) (c1:c≤100100) (w:World) :
 Calls Tryz.prog 218 #[.int .i64 c,.int .i64 p] w fun e w'=>e = .returned (.int .i64 ((c+(p-1))/p))∧w'=w:=by
 rcases hp with rfl|rfl
 ·go_enter Tryz.func218,Tryz.ntmps218
  go_wp2
  go_ret
  exact ⟨ret_num (by omega),rfl⟩
 ·go_enter Tryz.func218,Tryz.ntmps218
  go_wp2
  go_ret
  exact ⟨ret_num (by omega),rfl⟩
theorem implTakes (l:Ln) (n:Int) (hok:l.ok=true) (n0:0≤n) (n1:n≤100000) (w:World) :
 Calls Tryz.prog 211 #[l.val,.int .i64 n] w fun e w'=>e = .returned (.int .i64 (l.takes n))∧w'=w.alloc (.cells l.cells.toArray 38):=by
 have hc0:=(carry_le hok n).1
 have hc1:=carry_most hok n1
 have D1:=fun w=>implBegun (l.carry n) 48 (.inl rfl) hc0 hc1 w
 have D2:=fun w=>implBegun (l.carry n) 64 (.inr rfl) hc0 hc1 w
 have Ht:Hid (l.takes n=takeK l.kind (l.carry n)):=rfl
 have Hk:Hid (∀ c,takeK l.kind c=if l.kind=2 then (c+47)/48*53 else if l.kind=3 then c+(c+63)/64 else c):=fun _=>rfl
 have ho:=Ln.ok_iff.1 hok
 obtain ⟨⟨k0,k1⟩,⟨x0,x1⟩,m0,m1⟩:=ho
 have Hc:Hid (l.carry n=if n+l.extra<l.least then l.least else n+l.extra):=rfl
 generalize l.takes n=t at Ht ⊢
 generalize l.carry n=c at D1 D2 hc0 hc1 Ht Hc
 clear hok
 obtain ⟨k,x,m⟩:=l
 simp only [Ln.val,Ln.cells] at *
 have D1':Hid _:=D1
 have D2':Hid _:=D2
 clear D1 D2
 by_cases hlt:n+x<m
 ·obtain rfl:m=c:=by rw [Hc.out,if_pos hlt]
  by_cases h2:k=2
  ·subst h2
   go_enter Tryz.func211,Tryz.ntmps211
   go_wp2_with fail
   refine (D1'.out _).mono ?_
   rintro e w' ⟨rfl,rfl⟩
   go_wp2
   go_ret
   exact ⟨ret_num (by rw [Ht.out,Hk.out];simp;omega),rfl⟩
  by_cases h3:k=3
  ·subst h3
   go_enter Tryz.func211,Tryz.ntmps211
   go_wp2_with fail
   refine (D2'.out _).mono ?_
   rintro e w' ⟨rfl,rfl⟩
   go_wp2
   go_ret
   exact ⟨ret_num (by rw [Ht.out,Hk.out];simp;omega),rfl⟩
  obtain rfl:1=k:=by omega
  go_enter Tryz.func211,Tryz.ntmps211
  go_wp2
  go_ret
  exact ⟨ret_num (by rw [Ht.out,Hk.out];simp),rfl⟩
 ·obtain ⟨s,hs⟩:∃ s,s=n+x:=⟨_,rfl⟩
  obtain rfl:n+x=c:=by rw [Hc.out,if_neg hlt]
  by_cases h2:k=2
  ·subst h2
   go_enter Tryz.func211,Tryz.ntmps211
   go_wp2_with fail
   refine (D1'.out _).mono ?_
   rintro e w' ⟨rfl,rfl⟩
   go_wp2
   go_ret
   exact ⟨ret_num (by rw [Ht.out,Hk.out];simp;omega),rfl⟩
  by_cases h3:k=3
  ·subst h3
   go_enter Tryz.func211,Tryz.ntmps211
   go_wp2_with fail
   refine (D2'.out _).mono ?_
   rintro e w' ⟨rfl,rfl⟩
   go_wp2
   go_ret
   exact ⟨ret_num (by rw [Ht.out,Hk.out];simp;omega),rfl⟩
  obtain rfl:1=k:=by omega
  go_enter Tryz.func211,Tryz.ntmps211
  go_wp2
  go_ret
  exact ⟨ret_num (by rw [Ht.out,Hk.out];simp),rfl⟩
theorem implOn (l:Ln) (n:Int) (w:World) :
 Calls Tryz.prog 175 #[l.val,.int .i64 n] w fun e w'=>e = .returned (.int .i64 (l.on n))∧Bel w w':=by
 have Hon:Hid (l.on n=if (l.ok&&inB 0 100000 n)=true then l.takes n else -1):=rfl
 have A1:=fun w=>implLineOk l w
 have A2:=fun w B h=>implUpTo1 100000 n w B h
 have A3:=fun (h:(l.ok&&inB 0 100000 n)=true) (w:World)=>implTakes l n (Bool.and_eq_true_iff.1 h).1 (inB_true.1 (Bool.and_eq_true_iff.1 h).2).1 (inB_true.1 (Bool.and_eq_true_iff.1 h).2).2 w
 generalize l.on n=v at Hon ⊢
 generalize l.takes n=t at A3 Hon
 generalize l.ok=b1 at A1 A3 Hon
 generalize inB 0 100000 n=b2 at A2 A3 Hon
 obtain ⟨k,x,m⟩:=l
 simp only [Ln.val,Ln.cells] at *
 have A1':Hid _:=A1
 have A2':Hid _:=A2
 have A3':Hid _:=A3
 clear A1 A2 A3
 have X:Hid (Boxed (w.alloc (.cells #[.int .i64 k,.int .i64 x,.int .i64 m] 38)) w.heap.size #[.int .i64 k,.int .i64 x,.int .i64 m] 38∧Bel w (w.alloc (.cells #[.int .i64 k,.int .i64 x,.int .i64 m] 38))) :=
  ⟨Boxed.new _ _ _,(Below.refl _ _).alloc nlr _⟩
 go_enter Tryz.func175,Tryz.ntmps175
 go_wp2_with fail
 refine (A1'.out _).mono ?_
 rintro e w1 ⟨rfl,q⟩
 have X1:Hid (Boxed w1 w.heap.size #[.int .i64 k,.int .i64 x,.int .i64 m] 38∧Bel w w1):=⟨X.out.1.below X.out.1.under q,X.out.2.trans (q.mono X.out.2.size)⟩
 clear q X
 have c0:w1.cell? ⟨w.heap.size,0,none⟩=some (.int .i64 k):=X1.out.1.cell 0 rfl
 have c1:w1.cell? ⟨w.heap.size,1,none⟩=some (.int .i64 x):=X1.out.1.cell 1 rfl
 have c2:w1.cell? ⟨w.heap.size,2,none⟩=some (.int .i64 m):=X1.out.1.cell 2 rfl
 have hlt:w.heap.size<w1.heap.size:=X1.out.1.under
 cases b1
 ·go_wp2
  go_ret
  exact ⟨ret_num (by rw [Hon.out];rfl),X1.out.2⟩
 go_wp2_with fail
 refine (A2'.out _ _ (by simp)).mono ?_
 rintro e w2 ⟨rfl,rfl⟩
 cases b2
 ·go_wp2
  go_ret
  exact ⟨ret_num (by rw [Hon.out];rfl),X1.out.2.alloc (by omega) _⟩
 go_wp2_with fail
 refine (A3'.out rfl _).mono ?_
 rintro e w' ⟨rfl,rfl⟩
 go_wp2
 go_ret
 exact ⟨ret_num (by rw [Hon.out];rfl),(X1.out.2.alloc (by omega) _).alloc (by simp;omega) _⟩
open Go.RowKit Go.Shelf
structure IzTells (W0:World) (g:FuncId) (fs cb:Array Value) (p:List It→Bool):Prop where
 enters:Enters Tryz.prog g
 tells:∀ (W:World) (ak:Option Addr) (ck:Nat) (l:List It),Bel W0 W→l.length≤1048576→ItsAt W ak l→Calls Tryz.prog g (fs++#[.slice ak l.length ck]++cb) W fun e w'=>e = .returned (.bool (p l))∧Bel W w'
theorem implIndexZ (a:Option Addr) (cap:Nat) (l:List (List It)) (g:FuncId) (fs cb:Array Value) (p:List It→Bool) (w:World) (hT:l.length≤1048576) (hin:∀ k,k<l.length→(izAt l k).length≤1048576) (h:Hid (IzAt w a l)) (ht:Hid (IzTells w g fs cb p)) :
 Calls Tryz.prog 212 #[.slice a l.length cap,.func (.func g) fs cb] w fun e w'=>e = .returned (.int .i64 (if l.findIdx p<l.length then (l.findIdx p:Int) else -1))∧Bel w w':=by
 have eg:∀ args w,(callFunc g args).run Tryz.prog w = .ok (.enter g args) w:=ht.out.enters
 have Hin:Hid (∀ k,k<l.length→(izAt l k).length≤1048576):=hin
 obtain ⟨len,hlen⟩:∃ n,l.length=n:=⟨_,rfl⟩
 have Hlen:Hid (l.length=len):=hlen
 obtain ⟨N,hN⟩:∃ N,l.findIdx p=N:=⟨_,rfl⟩
 have HN:Hid (l.findIdx p=N):=hN
 have hNl:N≤len:=by rw [← hN,← hlen];exact List.findIdx_le_length
 rw [hlen] at hT ⊢
 rw [hN]
 clear hlen hN hin
 go_enter Tryz.func212,Tryz.ntmps212
 go_wp2
 go_loopw [8] (fun i wr=>∃ k:Nat,k≤N∧i = .int .i64 k∧Hid (Bel w wr)) (fun i _=>len-(intOf i).toNat)
 case atStart=>exact ⟨0,Nat.zero_le _,rfl,Below.refl _ _⟩
 case round =>
  obtain ⟨k,hk,rfl,H1⟩:=hrel
  by_cases hlt:k<len
  ·have hkl:k<l.length:=by rw [Hlen.out];exact hlt
   obtain ⟨b1,o1,ak,ck,ha1,hb1,hc,hr,-⟩:=(h.out.below H1.out) k hkl
   subst ha1
   have HC:=ht.out.tells wr ak ck (izAt l k) H1.out (Hin.out k hkl) hr
   have hlt':(k:Int)<(len:Int):=by omega
   by_cases hkN:k=N
   ·have hp:p (izAt l k)=true:=by
     rw [izAt_lt hkl]
     have:=List.findIdx_getElem (p:=p) (xs:=l) (w:=by rw [HN.out,Hlen.out,← hkN];exact hlt)
     simpa only [HN.out,← hkN] using this
    rw [hp] at HC
    clear hp hr hkl
    generalize (izAt l k).length=n at hc HC
    subst hkN
    go_wp2_with fail
    refine HC.mono ?_
    rintro e w' ⟨rfl,hb'⟩
    have B2:Hid (Bel w w'):=H1.out.trans (hb'.mono H1.out.size)
    clear hb' H1 HC hc
    go_wp2
    go_ret
    exact ⟨by first|rfl|(rw [if_pos hlt];rfl),B2.out⟩
   ·have hp:p (izAt l k)=false:=by
     rw [izAt_lt hkl]
     have:=List.not_of_lt_findIdx (p:=p) (xs:=l) (i:=k) (by rw [HN.out];omega)
     simpa using this
    rw [hp] at HC
    clear hp hr hkl
    generalize (izAt l k).length=n at hc HC
    go_wp2_with fail
    refine HC.mono ?_
    rintro e w' ⟨rfl,hb'⟩
    have B2:Hid (Bel w w'):=H1.out.trans (hb'.mono H1.out.size)
    clear hb' H1 HC hc
    go_wp2
    go_roundw
    case rel=>exact ⟨k+1,by omega,by go_num,B2⟩
    case measure=>simp [intOf];omega
  ·obtain rfl:k=len:=by omega
   obtain rfl:k=N:=by omega
   go_wp2
   go_ret
   exact ⟨by first|rfl|(rw [if_neg (Nat.lt_irrefl _)];rfl),H1.out⟩
theorem implContainsZ (a:Option Addr) (cap:Nat) (l:List (List It)) (g:FuncId) (fs cb:Array Value) (p:List It→Bool) (w:World) (hT:l.length≤1048576) (hin:∀ k,k<l.length→(izAt l k).length≤1048576) (h:Hid (IzAt w a l)) (ht:Hid (IzTells w g fs cb p)) :
 Calls Tryz.prog 176 #[.slice a l.length cap,.func (.func g) fs cb] w fun e w'=>e = .returned (.bool (l.any p))∧Bel w w':=by
 have I:=fun (_:Nat)=>implIndexZ a cap l g fs cb p w hT hin h ht
 have Ha:Hid (decide (l.findIdx p<l.length)=l.any p):=any_idxT l p
 generalize l.any p=b at Ha ⊢
 generalize l.findIdx p=N at I Ha
 generalize l.length=len at I Ha ⊢
 have I':Hid _:=I
 clear I hT hin h ht
 go_enter Tryz.func176,Tryz.ntmps176
 go_wp2_with fail
 refine (I'.out 0).mono ?_
 rintro e w' ⟨rfl,hb⟩
 have B2:Hid (Bel w w'):=hb
 clear hb I'
 by_cases hk:N<len
 ·rw [if_pos hk]
  have hp:(0:Int)≤(N:Int):=by omega
  go_wp2
  go_ret
  exact ⟨ret_bool (by rw [← Ha.out,decide_eq_true hk]),B2.out⟩
 ·rw [if_neg hk]
  go_wp2
  go_ret
  exact ⟨ret_bool (by rw [← Ha.out,decide_eq_false hk]),B2.out⟩
open Go.RowKit Go.Shelf
theorem implNextA (g:Gt) (x:Ga) (r:It) (B:Nat) (w:World) (hB:Hid (Boxed w B (g.cells x) 50)) :
 Calls Tryz.prog 179 #[r.val,.pointer (some ⟨B,0,none⟩)] w fun e w'=>e = .returned (.bool (decide (g.next≤r.id)))∧Bel w w':=by
 obtain ⟨r1,r2,r3⟩:=r
 simp only [It.val]
 have c0:w.cell? ⟨B,12,none⟩=some (.int .i64 g.next):=hB.out.cell 12 rfl
 have hl:B<w.heap.size:=hB.out.under
 have hne:¬ w.heap.size=B:=by omega
 have hne2:¬ B=w.heap.size:=by omega
 have H:Hid (Bel w (w.alloc (.cells #[.int .i64 r1,.int .i64 r2,.int .i64 r3] 80))):=(Below.refl _ _).alloc nlr _
 generalize g.next=y at c0 ⊢
 clear hB
 go_enter Tryz.func179,Tryz.ntmps179
 go_wp2
 go_ret
 exact ⟨rfl,H.out⟩
theorem implNextL (g:Gt) (x:Ga) (ak:Option Addr) (ck:Nat) (l:List It) (B:Nat) (w:World) (hT:l.length≤1048576) (h:ItsAt w ak l) (hB:Boxed w B (g.cells x) 50) :
 Calls Tryz.prog 177 #[.slice ak l.length ck,.pointer (some ⟨B,0,none⟩)] w fun e w'=>e = .returned (.bool (l.any fun r=>decide (g.next≤r.id)))∧Bel w w':=by
 have C:=fun (_:Nat)=>implContainsT ak ck l 179 #[] #[.pointer (some ⟨B,0,none⟩)] (fun k=>k=B) (fun _=>True) (fun r=>decide (g.next≤r.id)) w hT h (fun _ _=>trivial) ⟨enters_of Tryz.func179 (by kernel_rfl) rfl,fun k hk=>by rw [hk];exact hB.under,fun W r _ hW=>implNextA g x r B W ((hW B rfl).trans hB)⟩
 generalize (l.any fun r=>decide (g.next≤r.id))=z at C ⊢
 generalize l.length=n at C ⊢
 have hmf:∀ (fn:Fn) (first cap:Array Value) (w:World),(Instr.makeFunc fn first cap).run Tryz.prog w = .ok (.func fn first cap) w:=fun _ _ _ _=>rfl
 have C':Hid _:=C
 clear C h hB hT
 go_enter Tryz.func177,Tryz.ntmps177
 go_wp2_with fail
 refine (C'.out 0).mono ?_
 rintro e w' ⟨rfl,hb⟩
 have B2:Hid (Bel w w'):=hb
 clear hb C'
 go_wp2
 go_ret
 exact ⟨rfl,B2.out⟩
theorem implNext (g:Gt) (x:Ga) (w:World) (hB:g.big≤1048576) (h:Hid (GtV w x g)) :
 Calls Tryz.prog 118 #[g.val x] w fun e w'=>e = .returned (.bool g.nextB)∧Bel w w':=by
 obtain ⟨-,-,-,-,s5,-,-⟩:=Gt.small hB
 obtain ⟨sT,-,sin⟩:=Rw.small s5
 have C:Hid (∀ (B:Nat) (W:World),IzAt W x.a5 g.rows.lists→Boxed W B (g.cells x) 50→Calls Tryz.prog 176 #[.slice x.a5 g.rows.lists.length x.c5,.func (.func 177) #[] #[.pointer (some ⟨B,0,none⟩)]] W fun e w'=>e = .returned (.bool (g.rows.lists.any fun l=>l.any fun i=>decide (g.next≤i.id)))∧Bel W w'):=fun B W h1 h2=>implContainsZ x.a5 x.c5 g.rows.lists 177 #[] #[.pointer (some ⟨B,0,none⟩)] (fun l=>l.any fun i=>decide (g.next≤i.id)) W sT sin h1 ⟨enters_of Tryz.func177 (by kernel_rfl) rfl,fun W2 ak ck l hW hl hr=>implNextL g x ak ck l B W2 hl hr (h2.below h2.under hW)⟩
 have F:=fun B w hB=>implFromOne 1000000 g.next B w hB
 have Iz:Hid (IzAt w x.a5 g.rows.lists):=h.out.rows.spot
 have Hv:Hid (g.nextB=(inB 1 1000000 g.next && !(g.rows.lists.any fun l=>l.any fun i=>decide (g.next≤i.id)))):=rfl
 generalize g.nextB=R at Hv ⊢
 generalize (g.rows.lists.any fun l=>l.any fun i=>decide (g.next≤i.id))=an at C Hv
 generalize inB 1 1000000 g.next=ib at F Hv
 obtain ⟨W0,hW⟩:∃ W,W=w.alloc (.cells (g.cells x) 50):=⟨_,rfl⟩
 have X0:Hid (Boxed W0 w.heap.size (g.cells x) 50∧Bel w W0∧IzAt W0 x.a5 g.rows.lists):=by
  rw [hW]
  exact ⟨Boxed.new _ _ _,(Below.refl _ _).alloc nlr _,Iz.out.alloc _⟩
 have HW:Hid (W0=_):=hW
 have Cx:Hid (∀ W B,Boxed W B (g.cells x) 50→W.cell? ⟨B,12,none⟩=some (.int .i64 g.next)∧W.cell? ⟨B,8,none⟩=some (.slice x.a5 g.rows.lists.length x.c5)):=fun W B hh=>⟨hh.cell 12 rfl,hh.cell 8 rfl⟩
 have F':Hid _:=F
 clear F hW h hB Iz sin
 unfold Gt.val
 generalize g.cells x=cs at C X0 HW Cx ⊢
 generalize g.next=nx at F' Cx
 generalize g.rows.lists.length=n5 at C Cx sT
 have hmf:∀ (fn:Fn) (first cap:Array Value) (w:World),(Instr.makeFunc fn first cap).run Tryz.prog w = .ok (.func fn first cap) w:=fun _ _ _ _=>rfl
 go_enter Tryz.func118,Tryz.ntmps118
 go_upto_region 1 with fail
 rw [← HW.out]
 clear HW
 obtain ⟨c12,c8⟩:=Cx.out _ _ X0.out.1
 have hu:=X0.out.1.under
 have N1:Hid (Bel W0 (W0.alloc (.cells #[.int .i64 nx] 2))):=(Below.refl _ _).alloc nlr _
 cases ib
 ·have e1:R=false:=by rw [Hv.out];rfl
  subst e1
  go_wp2_with fail
  refine (F'.out _ W0 rfl).mono ?_
  rintro e w1 ⟨rfl,hw1⟩
  have B1:Hid (Bel w w1):=by rw [hw1];exact X0.out.2.1.trans (N1.out.mono X0.out.2.1.size)
  clear hw1 F' N1
  go_wp2
  go_ret
  exact ⟨rfl,B1.out⟩
 have e1:R = !an:=by rw [Hv.out,Bool.true_and]
 subst e1
 go_wp2_with fail
 refine (F'.out _ W0 rfl).mono ?_
 rintro e w1 ⟨rfl,hw1⟩
 have b1:Bel W0 w1:=by rw [hw1];exact N1.out
 have X1:Hid (Boxed w1 w.heap.size cs 50∧Bel w w1∧IzAt w1 x.a5 g.rows.lists):=⟨X0.out.1.below X0.out.1.under b1,X0.out.2.1.trans (b1.mono X0.out.2.1.size),X0.out.2.2.below b1⟩
 obtain ⟨d12,d8⟩:=Cx.out _ _ X1.out.1
 clear hw1 F' N1 b1 X0 c12 c8 hu
 go_wp2_with fail
 refine (C.out _ _ X1.out.2.2 X1.out.1).mono ?_
 rintro e w2 ⟨rfl,q⟩
 have B2:Hid (Bel w w2):=X1.out.2.1.trans (q.mono X1.out.2.1.size)
 clear q C X1 d12 d8
 go_wp2
 go_ret
 exact ⟨rfl,B2.out⟩
end Go.Proofs.YtmfabeghfdoibaaGreat
