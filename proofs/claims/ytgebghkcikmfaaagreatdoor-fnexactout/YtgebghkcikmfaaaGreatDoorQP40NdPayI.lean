import Derived.Test.YtgebghkcikmfaaaGreatDoorQP39RwOkI
import Derived.Test.YtgebghkcikmfaaaGreatDoorQP34OpVal
import Derived.Test.YtgebghkcikmfaaaGreatDoorQP4GtOwn
import Derived.Test.YtgebghkcikmfaaaGreatDoorQP31NdCells
import Derived.Test.YtgebghkcikmfaaaGreatDoorQP21NdApp
import Derived.Test.YtgebghkcikmfaaaGreatDoorQP32NdPayF
set_option maxHeartbeats 3200000
set_option maxRecDepth 100000
namespace Go.Proofs.YtgebghkcikmfaaaGreatDoor
open Go.RowKit
theorem implPlace (n:Nat) (p:Int) (w:World) (hn:n≤1048576) :
 Calls Tryz.prog 158 #[.int .i64 (n:Int),.int .i64 p] w fun e w'=>e = .returned (.bool (inB 0 ((n:Int)-1) p))∧w'=w.alloc (.cells #[.int .i64 p] 2):=by
 have A:=fun B w h=>implUpTo1 ((n:Int)-1) p w B h
 generalize inB 0 ((n:Int)-1) p=y at A ⊢
 have A':Hid _:=A
 clear A
 have q1 : -9223372036854775808≤(n:Int)-1:=by omega
 have q2:(n:Int)-1≤9223372036854775807:=by omega
 go_enter Tryz.func158,Tryz.ntmps158
 go_wp2_with fail
 refine (A'.out _ _ (by simp)).mono ?_
 rintro e w' ⟨rfl,rfl⟩
 go_wp2
 go_ret
 exact ⟨rfl,rfl⟩
theorem implTime (t:Int) (w:World) :
 Calls Tryz.prog 266 #[.int .i64 t] w fun e w'=>e = .returned (.bool (inB 0 1099511627776 t))∧w'=w.alloc (.cells #[.int .i64 t] 2):=by
 have A1:=fun B w h=>implUpTo1 1099511627776 t w B h
 generalize inB 0 1099511627776 t=b1 at A1 ⊢
 have A1':Hid _:=A1
 clear A1
 go_enter Tryz.func266,Tryz.ntmps266
 go_wp2_with fail
 refine (A1'.out _ _ (by simp)).mono ?_
 rintro e w' ⟨rfl,rfl⟩
 go_wp2
 go_ret
 exact ⟨rfl,rfl⟩
theorem implPurseOk (p:Pz) (w:World) :
 Calls Tryz.prog 217 #[p.val] w fun e w'=>e = .returned (.bool p.ok)∧Bel w w':=by
 have Hok:Hid (p.ok=(inB 0 1000 p.rate&&(inB 1 100000 p.burst&&(inB 0 p.burst p.level&&inB 0 1099511627776 p.tm)))):=rfl
 obtain ⟨v0,v1,v2,v3⟩:=p
 generalize Pz.ok _=ok at Hok ⊢
 simp only [Pz.val] at Hok ⊢
 have A1:=fun B w h=>implUpTo1 1000 v0 w B h
 have A2:=fun B w h=>implFromOne 100000 v1 B w h
 have A3:=fun B w h=>implUpTo1 v1 v2 w B h
 have A4:=fun w=>implTime v3 w
 generalize inB 0 1000 v0=b1 at A1 Hok
 generalize inB 1 100000 v1=b2 at A2 Hok
 generalize inB 0 v1 v2=b3 at A3 Hok
 generalize inB 0 1099511627776 v3=b4 at A4 Hok
 have A1':Hid _:=A1
 have A2':Hid _:=A2
 have A3':Hid _:=A3
 have A4':Hid _:=A4
 clear A1 A2 A3 A4
 go_enter Tryz.func217,Tryz.ntmps217
 go_wp2_with fail
 refine (A1'.out _ _ (by simp)).mono ?_
 rintro e w' ⟨rfl,rfl⟩
 cases b1
 ·go_wp2
  go_ret
  exact ⟨ret_bool (by rw [Hok.out];rfl),by repeat (first|exact Below.refl _ _|refine Below.alloc ?_ (by simp<;>omega) _)⟩
 go_wp2_with fail
 refine (A2'.out _ _ (by simp)).mono ?_
 rintro e w' ⟨rfl,rfl⟩
 cases b2
 ·go_wp2
  go_ret
  exact ⟨ret_bool (by rw [Hok.out];rfl),by repeat (first|exact Below.refl _ _|refine Below.alloc ?_ (by simp<;>omega) _)⟩
 go_wp2_with fail
 refine (A3'.out _ _ (by simp)).mono ?_
 rintro e w' ⟨rfl,rfl⟩
 cases b3
 ·go_wp2
  go_ret
  exact ⟨ret_bool (by rw [Hok.out];rfl),by repeat (first|exact Below.refl _ _|refine Below.alloc ?_ (by simp<;>omega) _)⟩
 go_wp2_with fail
 refine (A4'.out _).mono ?_
 rintro e w' ⟨rfl,rfl⟩
 go_wp2
 go_ret
 exact ⟨ret_bool (by rw [Hok.out];rfl),by repeat (first|exact Below.refl _ _|refine Below.alloc ?_ (by simp<;>omega) _)⟩
def upB (k:Nat) (up:Int):Bool:=if k=0 then decide (up = -1) else (decide (0≤up)&&decide (up<(k:Int)))
theorem upB_in {k:Nat} {up:Int} (h:k≠0):inB 0 ((k:Int)-1) up=upB k up:=by
 unfold upB
 rw [if_neg h,Bool.eq_iff_iff,inB_true]
 simp only [Bool.and_eq_true,decide_eq_true_eq]
 omega
theorem implUpOk (k:Nat) (up:Int) (w:World) (hk:k≤1048576) :
 Calls Tryz.prog 216 #[.int .i64 (k:Int),.int .i64 up] w fun e w'=>e = .returned (.bool (upB k up))∧Below w.heap.size w w':=by
 by_cases h0:k=0
 ·subst h0
  have e0:upB 0 up=decide (up = -1):=rfl
  rw [e0]
  by_cases h1:up = -1
  ·subst h1
   go_enter Tryz.func216,Tryz.ntmps216
   go_wp2
   go_ret
   exact ⟨rfl,Below.refl _ _⟩
  ·have h1':(up == -1)=false:=by simpa using h1
   rw [decide_eq_false h1]
   go_enter Tryz.func216,Tryz.ntmps216
   go_wp2
   go_ret
   exact ⟨by first|rfl|simp [h1],Below.refl _ _⟩
 ·have A:=fun w=>implPlace k up w hk
  rw [upB_in h0] at A
  generalize upB k up=y at A ⊢
  have A':Hid _:=A
  clear A
  have h0':¬ (k:Int)=0:=by omega
  go_enter Tryz.func216,Tryz.ntmps216
  go_wp2_with fail
  refine (A'.out _).mono ?_
  rintro e w' ⟨rfl,rfl⟩
  go_wp2
  go_ret
  exact ⟨rfl,(Below.refl _ _).alloc nlr _⟩
theorem implTreeOk (l:List Nd) (a:Option Addr) (cap:Nat) (w:World) (hT:l.length≤1048576) (_hc:l.length≤cap) (_hcn:a=none→cap=0) (h:Hid (NdsAt w a l)) :
 Calls Tryz.prog 152 #[.slice a l.length cap] w fun e w'=>e = .returned (.bool (tok l))∧Below w.heap.size w w':=by
 obtain ⟨R,hR⟩:∃ R,tok l=R:=⟨_,rfl⟩
 have Yes:Hid (inB 1 12 (l.length:Int)=true→(∀ k,k<l.length→treeB l k=true)→R=true):=fun h1 h3=>by rw [← hR];rw [inB_true] at h1;exact tok_iff.2 ⟨by omega,by omega,h3⟩
 have No:Hid (∀ k,k<l.length→treeB l k=false→R=false):=fun k hk hn=>by
  rw [← hR]
  cases hq:tok l with
  |false=>rfl
  |true=>rw [(tok_iff.1 hq).2.2 k hk] at hn;cases hn
 have No6:Hid (inB 1 12 (l.length:Int)=false→R=false):=fun hn=>by
  rw [← hR]
  rw [inB_false] at hn
  cases hq:tok l with
  |false=>rfl
  |true=>have:=(tok_iff.1 hq);omega
 have A0:=fun B w hh=>implFromOne 12 (l.length:Int) B w hh
 rw [hR]
 clear hR _hc _hcn
 have Hpos:Hid (inB 1 12 (l.length:Int)=true→l.length≤12):=fun h=>by rw [inB_true] at h;omega
 generalize inB 1 12 (l.length:Int)=b0 at A0 Yes No6 Hpos
 obtain ⟨len,hlen⟩:∃ n,l.length=n:=⟨_,rfl⟩
 rw [hlen] at hT Yes No A0 Hpos ⊢
 have Hlen:Hid (l.length=len):=hlen
 have A0':Hid _:=A0
 clear hlen A0
 go_enter Tryz.func152,Tryz.ntmps152
 go_wp2_with fail
 refine (A0'.out _ _ (by simp)).mono ?_
 rintro e w1 ⟨rfl,hw1⟩
 have B1:Hid (Below w.heap.size w w1):=by show Below _ _ _;rw [hw1];exact (Below.refl _ _).alloc nlr _
 clear hw1 A0'
 cases b0
 ·have e:R=false:=No6.out rfl
  subst e
  go_wp2
  go_ret
  exact ⟨rfl,B1.out⟩
 have h12:=Hpos.out rfl
 go_wp2
 go_loopw [12] (fun s wr=>∃ k:Nat,k≤len∧s = .int .i64 k∧Hid ((∀ j,j<k→treeB l j=true)∧Below w.heap.size w wr)) (fun s _=>len-(intOf s).toNat)
 case atStart=>exact ⟨0,Nat.zero_le _,rfl,fun j hj=>by omega,B1.out⟩
 case round =>
  obtain ⟨k,hk,rfl,HK⟩:=hrel
  clear B1
  by_cases hlt:k<len
  case neg =>
   obtain rfl:k=len:=by omega
   have e:R=true:=Yes.out (by first|exact trivial|exact rfl) HK.out.1
   subst e
   go_wp2
   go_ret
   exact ⟨rfl,HK.out.2⟩
  have hlt':(k:Int)<(len:Int):=by omega
  have Lie:Hid (NdsAt wr a l):=h.out.below HK.out.2
  obtain ⟨b1,o1,ha1,hb1,-⟩:=Lie.out k (by rw [Hlen.out];exact hlt)
  subst ha1
  obtain ⟨c0,c1,c2,c3,c4⟩:=Lie.out.cells (k:=k) (by rw [Hlen.out];exact hlt)
  have e4:=(Lie.out.cells (k:=0) (by rw [Hlen.out];omega)).2.2.2.2
  have A1:=fun w=>implPurseOk (ndAt l k).pz w
  have A2:=fun w=>implUpOk k (ndAt l k).up w (by omega)
  have Gd:Hid (treeB l k=((ndAt l k).pz.ok&&(decide ((ndAt l k).pz.tm=(ndAt l 0).pz.tm)&&upB k (ndAt l k).up))):=rfl
  have Nk:=No.out k hlt
  have Yk:Hid (treeB l k=true→∀ j,j<k+1→treeB l j=true):=fun hg j hj=>by
   by_cases e:j=k
   ·rw [e];exact hg
   ·exact HK.out.1 j (by omega)
  generalize treeB l k=good at Gd Nk Yk
  generalize (ndAt l 0).pz.tm=t0 at e4 Gd
  generalize (ndAt l k).pz.ok=ok at A1 Gd
  generalize upB k (ndAt l k).up=ub at A2 Gd
  generalize ndAt l k=x at c0 c1 c2 c3 c4 A1 A2 Gd
  obtain ⟨x0,x1,x2,x3,x4⟩:=x
  simp only [Pz.val] at c0 c1 c2 c3 c4 A1 A2 Gd
  have A1':Hid _:=A1
  have A2':Hid _:=A2
  have HN:Hid (good=false→R=false):=Nk
  have Bw:Hid (Below w.heap.size w wr):=HK.out.2
  clear A1 A2 Nk
  obtain ⟨g,hg⟩:∃ g,g=wr.heap.size:=⟨_,rfl⟩
  have N:Hid (Boxed (wr.alloc (.cells #[.int .i64 0,.int .i64 0,.int .i64 0,.int .i64 0,.int .i64 0] 130)) wr.heap.size #[.int .i64 0,.int .i64 0,.int .i64 0,.int .i64 0,.int .i64 0] 130):=Boxed.new _ _ _
  have X:Hid (Boxed ((wr.alloc (.cells #[.int .i64 0,.int .i64 0,.int .i64 0,.int .i64 0,.int .i64 0] 130)).setRow wr.heap.size #[.int .i64 x0,.int .i64 x1,.int .i64 x2,.int .i64 x3,.int .i64 x4]) wr.heap.size #[.int .i64 x0,.int .i64 x1,.int .i64 x2,.int .i64 x3,.int .i64 x4] 130∧Below wr.heap.size wr ((wr.alloc (.cells #[.int .i64 0,.int .i64 0,.int .i64 0,.int .i64 0,.int .i64 0] 130)).setRow wr.heap.size #[.int .i64 x0,.int .i64 x1,.int .i64 x2,.int .i64 x3,.int .i64 x4])):=⟨setRow_heap _ _ _ _ _ _ (Boxed.new _ _ _),below_setRow ((Below.refl _ _).alloc nlr _) nlr _⟩
  go_upto_region 6 with (refine wpList_store_row rfl 130 (.tmp _) (.tmp _) rfl wr.heap.size #[.int .i64 x0,.int .i64 x1,.int .i64 x2,.int .i64 x3,.int .i64 x4] rfl rfl _ _ N.out (by kernel_rfl) rfl (ndOnes _ _ _ _ _) ?_)
  clear c0 c1 c2 c3 c4 N
  simp only [Act.put]
  generalize (wr.alloc (.cells #[.int .i64 0,.int .i64 0,.int .i64 0,.int .i64 0,.int .i64 0] 130)).setRow wr.heap.size #[.int .i64 x0,.int .i64 x1,.int .i64 x2,.int .i64 x3,.int .i64 x4]=wx at X ⊢
  rw [← hg] at X ⊢
  have d0:∀ p:BelW wx.heap.size wx,p.w'.cell? ⟨g,0,none⟩=some (.int .i64 x0):=fun p=>(X.out.1.below X.out.1.under p.h).cell 0 rfl
  have d1:∀ p:BelW wx.heap.size wx,p.w'.cell? ⟨g,1,none⟩=some (.int .i64 x1):=fun p=>(X.out.1.below X.out.1.under p.h).cell 1 rfl
  have d2:∀ p:BelW wx.heap.size wx,p.w'.cell? ⟨g,2,none⟩=some (.int .i64 x2):=fun p=>(X.out.1.below X.out.1.under p.h).cell 2 rfl
  have d3:∀ p:BelW wx.heap.size wx,p.w'.cell? ⟨g,3,none⟩=some (.int .i64 x3):=fun p=>(X.out.1.below X.out.1.under p.h).cell 3 rfl
  have d4:∀ p:BelW wx.heap.size wx,p.w'.cell? ⟨g,4,none⟩=some (.int .i64 x4):=fun p=>(X.out.1.below X.out.1.under p.h).cell 4 rfl
  have hbl:Hid (b1<wr.heap.size):=hb1
  have f4:∀ p:BelW wx.heap.size wx,p.w'.cell? ⟨b1,o1+4,none⟩=some (.int .i64 t0):=fun p=>by
   have hX:Below wr.heap.size wr wx:=by rw [← hg];exact X.out.2
   rw [(hX.trans (p.h.mono hX.size)).cell (p:=⟨b1,o1+4,none⟩) hbl.out]
   simpa using e4
  have step:Hid (∀ w2,Below wx.heap.size wx w2→Below w.heap.size w w2):=fun w2 q=>by
   have hX:Below wr.heap.size wr wx:=by rw [← hg];exact X.out.2
   exact Bw.out.trans ((hX.trans (q.mono hX.size)).mono Bw.out.size)
  clear hg HK Lie e4 hb1 X Bw
  haveI:Nonempty (BelW wx.heap.size wx):=⟨⟨wx,Below.refl _ _⟩⟩
  cases ub
  ·have e:R=false:=HN.out (by rw [Gd.out];simp)
   subst e
   clear Gd Yk HN
   refine rgb wx.heap.size (by kernel_rfl) (by kernel_rfl) ?_
   repeat (go_big_quiet_step ((first|(go_at_call 217;with_reducible refine qb (A1'.out _))|(go_at_call 216;with_reducible refine qb (A2'.out _)))))
   refine wpQuiet_nil ?_
   intro w2 hx
   have B2:Hid (Below w.heap.size w w2):=step.out w2 (BelW.out hx)
   clear hx d0 d1 d2 d3 d4 f4
   go_wp2
   go_ret
   exact ⟨rfl,B2.out⟩
  cases ok
  ·have e:R=false:=HN.out (by rw [Gd.out];rfl)
   subst e
   clear Gd Yk HN
   refine rgb wx.heap.size (by kernel_rfl) (by kernel_rfl) ?_
   repeat (go_big_quiet_step ((first|(go_at_call 217;with_reducible refine qb (A1'.out _))|(go_at_call 216;with_reducible refine qb (A2'.out _)))))
   refine wpQuiet_nil ?_
   intro w2 hx
   have B2:Hid (Below w.heap.size w w2):=step.out w2 (BelW.out hx)
   clear hx d0 d1 d2 d3 d4 f4
   go_wp2
   go_ret
   exact ⟨rfl,B2.out⟩
  by_cases ht:x4=t0
  case neg =>
   have ht':(x4 != t0)=true:=by simpa using ht
   have e:R=false:=HN.out (by rw [Gd.out];simp [ht])
   subst e
   clear Gd Yk HN
   refine rgb wx.heap.size (by kernel_rfl) (by kernel_rfl) ?_
   repeat (go_big_quiet_step ((first|(go_at_call 217;with_reducible refine qb (A1'.out _))|(go_at_call 216;with_reducible refine qb (A2'.out _)))))
   refine wpQuiet_nil ?_
   intro w2 hx
   have B2:Hid (Below w.heap.size w w2):=step.out w2 (BelW.out hx)
   clear hx d0 d1 d2 d3 d4 f4
   go_wp2
   go_ret
   exact ⟨rfl,B2.out⟩
  subst ht
  have G:Hid (∀ j,j<k+1→treeB l j=true):=Yk.out (by rw [Gd.out];simp)
  clear Gd Yk HN
  refine rgb wx.heap.size (by kernel_rfl) (by kernel_rfl) ?_
  repeat (go_big_quiet_step ((first|(go_at_call 217;with_reducible refine qb (A1'.out _))|(go_at_call 216;with_reducible refine qb (A2'.out _)))))
  refine wpQuiet_nil ?_
  intro w2 hx
  have B2:Hid (Below w.heap.size w w2):=step.out w2 (BelW.out hx)
  clear hx d0 d1 d2 d3 d4 f4
  go_wp2
  go_roundw
  case rel=>exact ⟨k+1,by omega,by go_num,G.out,B2.out⟩
  case measure=>simp [intOf];omega
def pv:List Int→Value
 |[]=>.iface 255 (.agg #[])
 |[_]=>.iface 294 (.agg #[])
 |x :: y :: r=>.iface 293 (.agg #[.int .i64 x,pv (y :: r)])
theorem pv_cons {x:Int} {p:List Int} (h:p≠[]):pv (x :: p) = .iface 293 (.agg #[.int .i64 x,pv p]):=by
 cases p with
 |nil=>exact absurd rfl h
 |cons y r=>rfl
theorem pv_shape (p:List Int):∃ t v,pv p = .iface t v:=by
 cases p with
 |nil=>exact ⟨_,_,rfl⟩
 |cons x r =>
  cases r with
  |nil=>exact ⟨_,_,rfl⟩
  |cons y r=>exact ⟨_,_,rfl⟩
def ends0:List Int→Prop
 |[]=>True
 |[x]=>x=0
 |_ :: y :: r=>ends0 (y :: r)
theorem ends0_cons {x:Int} {p:List Int} (h:p≠[]):ends0 (x :: p)=ends0 p:=by
 cases p with
 |nil=>exact absurd rfl h
 |cons y r=>rfl
theorem path_up {l:List Nd} {n:Int} (h:tok l=true) (h0:0<n) (h1:n<l.length):path l n=n :: path l (ndAt l n.toNat).up∧path l (ndAt l n.toNat).up≠[]∧0≤(ndAt l n.toNat).up∧(ndAt l n.toNat).up<n:=by
 have hk:=tok_at h (k:=n.toNat) (by omega)
 have hu:=hk.2.2.2.2 (by omega)
 refine ⟨path_next h (by omega) h1,?_,hu,by omega⟩
 have:=path_pos h hu (by omega)
 intro e
 rw [e] at this
 simp at this
theorem path_top {l:List Nd} (h:tok l=true):path l 0=[0]:=by
 have h1:=(tok_iff.1 h).1
 rw [path_next h (by omega) (by omega)]
 have:=(treeB_iff.1 ((tok_iff.1 h).2.2 0 (by omega))).2.2.1 rfl
 rw [show (0:Int).toNat=0 from rfl,this]
 rfl
theorem path_ends {l:List Nd} (h:tok l=true):∀ (f:Nat) (n:Int),0≤n→n<l.length→n.toNat≤f→ends0 (path l n):=by
 intro f
 induction f with
 |zero =>
  intro n h0 h1 hf
  obtain rfl:n=0:=by omega
  rw [path_top h]
  rfl
 |succ f ih =>
  intro n h0 h1 hf
  by_cases hn:n=0
  ·subst hn
   rw [path_top h]
   rfl
  ·obtain ⟨e,q1,q2,q3⟩:=path_up h (by omega) h1
   rw [e,ends0_cons q1]
   exact ih _ q2 (by omega) (by omega)
theorem implPathTop (a:Option Addr) (cap len:Nat) (w:World) :
 Calls Tryz.prog 228 #[.slice a len cap,.int .i64 0] w fun e w'=>e = .returned (.iface 294 (.agg #[]))∧w'=w:=by
 go_enter Tryz.func228,Tryz.ntmps228
 go_wp2
 go_ret
 exact ⟨rfl,rfl⟩
theorem implPathFrom (a:Option Addr) (cap:Nat) (l:List Nd) (h:tok l=true):∀ (f:Nat) (n:Int) (w:World),0≤n→n<l.length→n.toNat≤f→Hid (NdsAt w a l) →
 Calls Tryz.prog 228 #[.slice a l.length cap,.int .i64 n] w fun e w'=>e = .returned (pv (path l n))∧w'=w:=by
 intro f
 induction f with
 |zero =>
  intro n w h0 h1 hf _
  obtain rfl:n=0:=by omega
  rw [path_top h]
  exact implPathTop a cap l.length w
 |succ f ih =>
  intro n w h0 h1 hf H
  by_cases hn:n=0
  ·subst hn
   rw [path_top h]
   exact implPathTop a cap l.length w
  ·obtain ⟨e,q1,q2,q3⟩:=path_up h (by omega) h1
   obtain ⟨k,rfl⟩:∃ k:Nat,n=(k:Int):=⟨n.toNat,by omega⟩
   rw [Int.toNat_natCast] at e q1 q2 q3
   have I:=fun (_:Nat)=>ih (ndAt l k).up w q2 (by omega) (by omega) H
   rw [e,pv_cons q1]
   obtain ⟨b1,o1,ha1,-,-⟩:=H.out k (by omega)
   subst ha1
   have c0:=(H.out.cells (k:=k) (by omega)).1
   obtain ⟨ty,tv,hq⟩:=pv_shape (path l (ndAt l k).up)
   rw [hq] at I ⊢
   generalize (ndAt l k).up=u at I c0
   have hl:(k:Int)<(l.length:Int):=h1
   have h12:=(tok_iff.1 h).2.1
   generalize l.length=len at I hl h12 ⊢
   have I':Hid _:=I
   clear I e q1 q2 q3 ih H h h1 hf hq
   go_enter Tryz.func228,Tryz.ntmps228
   go_wp2_with fail
   refine (I'.out 0).mono ?_
   rintro e w' ⟨rfl,hw⟩
   obtain rfl:=hw.symm
   go_wp2
   go_ret
   exact ⟨rfl,rfl⟩
theorem asStep (v:Value) (w:World):(Instr.typeAssert (.iface 293 v) 257 293 true).run Tryz.prog w = .ok (.tuple #[v,.bool true]) w:=by kernel_rfl
theorem topNoStep (v:Value) (w:World):(Instr.typeAssert (.iface 294 v) 257 293 true).run Tryz.prog w = .ok (.tuple #[.agg #[.int .i64 0,.nilIface],.bool false]) w:=by kernel_rfl
theorem asTop (v:Value) (w:World):(Instr.typeAssert (.iface 294 v) 257 294 true).run Tryz.prog w = .ok (.tuple #[v,.bool true]) w:=by kernel_rfl
theorem noStep (v:Value) (w:World):(Instr.typeAssert (.iface 255 v) 257 293 true).run Tryz.prog w = .ok (.tuple #[.agg #[.int .i64 0,.nilIface],.bool false]) w:=by kernel_rfl
theorem noTop (v:Value) (w:World):(Instr.typeAssert (.iface 255 v) 257 294 true).run Tryz.prog w = .ok (.tuple #[.agg #[],.bool false]) w:=by kernel_rfl
theorem field0_run {o:Oper} {a:Act} {w:World} {D:Nat} (t:Tmp) (ho:o.op = .fieldAddr 293 (.tmp t) 0) (hx:a.tmps.getD t undef = .pointer (some ⟨D,0,none⟩)):(execOp a.eval o).run Tryz.prog w = .ok (.value (.pointer (some ⟨D,0,none⟩))) w:=by
 simp only [execOp,ho]
 rw [Sem.run_bind,show a.eval (.tmp t)=_ from hx]
 have:(Instr.fieldAt 293 (.pointer (some ⟨D,0,none⟩)) 0).run Tryz.prog w = .ok (.pointer (some ⟨D,0,none⟩)) w:=by kernel_rfl
 rw [this]
 rfl
theorem field1_run {o:Oper} {a:Act} {w:World} {D:Nat} (t:Tmp) (ho:o.op = .fieldAddr 293 (.tmp t) 1) (hx:a.tmps.getD t undef = .pointer (some ⟨D,0,none⟩)):(execOp a.eval o).run Tryz.prog w = .ok (.value (.pointer (some ⟨D,1,none⟩))) w:=by
 simp only [execOp,ho]
 rw [Sem.run_bind,show a.eval (.tmp t)=_ from hx]
 have:(Instr.fieldAt 293 (.pointer (some ⟨D,0,none⟩)) 1).run Tryz.prog w = .ok (.pointer (some ⟨D,1,none⟩)) w:=by simp [go_sem,Instr.fieldAt,Instr.sureAddr]
 rw [this]
 rfl
theorem loadInt_run {o:Oper} {a:Act} {w:World} {p:Addr} {z:Int} (t:Tmp) (ho:o.op = .load 2 (.tmp t)) (hx:a.tmps.getD t undef = .pointer (some p)) (c0:w.cell? p=some (.int .i64 z)):(execOp a.eval o).run Tryz.prog w = .ok (.value (.int .i64 z)) w:=by
 have e:(Instr.loadAt 2 (.pointer (some p))).run Tryz.prog w = .ok (.int .i64 z) w:=by simp [go_sem,Instr.loadAt,Instr.sureAddr,c0]
 simp only [execOp,ho]
 rw [Sem.run_bind,show a.eval (.tmp t)=_ from hx,e]
 rfl
theorem loadPath_run {o:Oper} {a:Act} {w:World} {p:Addr} {ty:TypeId} {tv:Value} (t:Tmp) (ho:o.op = .load 257 (.tmp t)) (hx:a.tmps.getD t undef = .pointer (some p)) (c0:w.cell? p=some (.iface ty tv)):(execOp a.eval o).run Tryz.prog w = .ok (.value (.iface ty tv)) w:=by
 have e:(Instr.loadAt 257 (.pointer (some p))).run Tryz.prog w = .ok (.iface ty tv) w:=by simp [go_sem,Instr.loadAt,Instr.sureAddr,c0]
 simp only [execOp,ho]
 rw [Sem.run_bind,show a.eval (.tmp t)=_ from hx,e]
 rfl
theorem buildInt_run {o:Oper} {a:Act} {w:World} {z:Int} (t:Tmp) (ho:o.op = .buildSlice 27 1 #[(0,.tmp t)]) (hx:a.tmps.getD t undef = .int .i64 z):(execOp a.eval o).run Tryz.prog w = .ok (.value (.slice (some ⟨w.heap.size,0,none⟩) 1 1)) (w.alloc (.cells #[.int .i64 z] 2)):=by
 have e:(Instr.buildSlice 27 1 #[(0,.int .i64 z)]).run Tryz.prog w = .ok (.slice (some ⟨w.heap.size,0,none⟩) 1 1) (w.alloc (.cells #[.int .i64 z] 2)):=by simp [go_sem,Instr.buildSlice]
 simp only [execOp,ho,List.map_toArray,List.map_cons,List.map_nil]
 rw [Sem.run_bind,show a.eval (.tmp t)=_ from hx,e]
 rfl
theorem callNum_run {o:Oper} {a:Act} {w:World} {v:Value} (t:Tmp) (ho:o.op = .call { callee:=.value (.func 227),args:=#[.tmp t],argTypes:=#[257] }) (hx:a.tmps.getD t undef=v):(execOp a.eval o).run Tryz.prog w = .ok (.enter 227 #[v]) w:=by
 have e:a.tmps[t]?.getD undef=v:=by simpa using hx
 simp [execOp,ho,resolve,Deferred.ofValue,invoke,Act.eval,e]
theorem irow_one {b:Nat} (w:World) (z:Int) (hb:b≤w.heap.size):IRow b (w.alloc (.cells #[.int .i64 z] 2)) (.slice (some ⟨w.heap.size,0,none⟩) 1 1) [z]:=by
 refine ⟨rfl,.inr ⟨w.heap.size,1,#[.int .i64 z],rfl,hb,?_,nlr,by decide,rfl,rfl⟩⟩
 show (w.heap.push _)[w.heap.size]? = _
 simp
theorem implNumNo (w:World) :
 Calls Tryz.prog 227 #[.iface 255 (.agg #[])] w fun e w'=>(∃ v,e = .returned v∧IRow w.heap.size w' v [])∧Below w.heap.size w w':=by
 have h1:=noStep (.agg #[])
 have h2:=noTop (.agg #[])
 have R:Hid (IRow w.heap.size (w.alloc (.cells #[] 2)) (.slice (some ⟨w.heap.size,0,none⟩) 0 0) []∧Below w.heap.size w (w.alloc (.cells #[] 2))):=⟨irow_built w _ nlr,(Below.refl _ _).alloc nlr _⟩
 go_enter Tryz.func227,Tryz.ntmps227
 go_wp2
 go_ret
 exact ⟨⟨_,rfl,R.out.1⟩,R.out.2⟩
theorem implNumTop (w:World) :
 Calls Tryz.prog 227 #[.iface 294 (.agg #[])] w fun e w'=>(∃ v,e = .returned v∧IRow w.heap.size w' v [0])∧Below w.heap.size w w':=by
 have h1:=topNoStep (.agg #[])
 have h2:=asTop (.agg #[])
 have N:Hid (Boxed (w.alloc (.cells #[] 294)) w.heap.size #[] 294):=Boxed.new _ _ _
 have B:Hid (Below w.heap.size w ((w.alloc (.cells #[] 294)).setRow w.heap.size #[])):=below_setRow ((Below.refl _ _).alloc nlr _) nlr _
 go_enter Tryz.func227,Tryz.ntmps227
 go_upto_region 9 with (refine wpList_store_row rfl 294 (.tmp _) (.tmp _) rfl w.heap.size #[] rfl rfl _ _ N.out (by kernel_rfl) rfl (by simp) ?_)
 simp only [Act.put]
 generalize (w.alloc (.cells #[] 294)).setRow w.heap.size #[]=W at B ⊢
 have R:Hid (IRow w.heap.size (W.alloc (.cells #[.int .i64 0] 2)) (.slice (some ⟨W.heap.size,0,none⟩) 1 1) [0]∧Below w.heap.size w (W.alloc (.cells #[.int .i64 0] 2))):=⟨irow_one W 0 B.out.size,B.out.trans ((Below.refl _ _).alloc B.out.size _)⟩
 clear B N
 go_wp2
 go_ret
 exact ⟨⟨_,rfl,R.out.1⟩,R.out.2⟩
theorem implNumStep (n0:Int) (ty:TypeId) (tv:Value) (P:List Int) (hP:P.length≤1048576) (w:World) (I:∀ w:World,Calls Tryz.prog 227 #[.iface ty tv] w fun e w'=>(∃ v,e = .returned v∧IRow w.heap.size w' v P)∧Below w.heap.size w w') :
 Calls Tryz.prog 227 #[.iface 293 (.agg #[.int .i64 n0,.iface ty tv])] w fun e w'=>(∃ v,e = .returned v∧IRow w.heap.size w' v (n0 :: P))∧Below w.heap.size w w':=by
 have h1:=asStep (.agg #[.int .i64 n0,.iface ty tv])
 have I':Hid (∀ w:World,Calls Tryz.prog 227 #[.iface ty tv] w fun e w'=>(∃ v,e = .returned v∧IRow w.heap.size w' v P)∧Below w.heap.size w w'):=I
 clear I
 obtain ⟨m,hm⟩:∃ m,P.length=m:=⟨_,rfl⟩
 have Hm:Hid (P.length=m):=hm
 rw [hm] at hP
 clear hm
 have N:Hid (Boxed (w.alloc (.cells #[.int .i64 0,.nilIface] 293)) w.heap.size #[.int .i64 0,.nilIface] 293):=Boxed.new _ _ _
 have X:Hid (Boxed ((w.alloc (.cells #[.int .i64 0,.nilIface] 293)).setRow w.heap.size #[.int .i64 n0,.iface ty tv]) w.heap.size #[.int .i64 n0,.iface ty tv] 293∧Below w.heap.size w ((w.alloc (.cells #[.int .i64 0,.nilIface] 293)).setRow w.heap.size #[.int .i64 n0,.iface ty tv])):=⟨setRow_heap _ _ _ _ _ _ (Boxed.new _ _ _),below_setRow ((Below.refl _ _).alloc nlr _) nlr _⟩
 go_enter Tryz.func227,Tryz.ntmps227
 go_upto_region 6 with (refine wpList_store_row rfl 293 (.tmp _) (.tmp _) rfl w.heap.size #[.int .i64 n0,.iface ty tv] rfl rfl _ _ N.out (by kernel_rfl) rfl (by simp [Value.oneCell']) ?_)
 simp only [Act.put]
 generalize (w.alloc (.cells #[.int .i64 0,.nilIface] 293)).setRow w.heap.size #[.int .i64 n0,.iface ty tv]=W at X ⊢
 have Hx:Hid (Below w.heap.size w W):=X.out.2
 generalize w.heap.size=D at X ⊢
 clear N h1
 refine region_lists (G:=Unit) (by kernel_rfl) (by kernel_rfl) (by kernel_rfl) (fun i=>if i=2 then 6 else if i=5 then 6 else if i=6 then 7 else 99) (fun (_:Nat→Bool) (_:Unit) (x:World)=>Below W.heap.size W x) (fun i _ x _ x'=>(i≠6→Below x.heap.size x x')∧(i≠2→i≠5→i≠6→x'=x)) (fun kk y x u=>([fun _ _ u=>u = .pointer (some ⟨D,0,none⟩),fun _ _ u=>u = .int .i64 n0,fun _ x u=>∃ a' c',u = .slice a' 1 c'∧IRow W.heap.size x u [n0],fun _ _ u=>u = .pointer (some ⟨D,1,none⟩),fun _ _ u=>u = .iface ty tv,fun _ x u=>∃ a' c',u = .slice a' m c'∧IRow W.heap.size x u P,fun _ x u=>∃ a' c',u = .slice a' (m+1) c'∧IRow W.heap.size x u (n0 :: P),fun _ x u=>∃ a' c',u = .slice a' (m+1) c'∧IRow W.heap.size x u (n0 :: P)]:List (Unit→World→Value→Prop)).getD kk (fun _ _ _=>True) y x u) ?hR () ?h0 ?step ?last
 case hR =>
  intro i' j' y y' x x' u hi1 hj1 hne hu h1 h2 hp hr
  have hj':j'<8:=hj1
  have hcases:j'=0∨j'=1∨j'=2∨j'=3∨j'=4∨j'=5∨j'=6∨j'=7:=by omega
  rcases hcases with rfl|rfl|rfl|rfl|rfl|rfl|rfl|rfl
  case inr.inr.inl =>
   obtain ⟨a',c',e,r⟩:=hp
   exact ⟨a',c',e,r.below (fun k hk=>(r.lt k hk).2) (hr.1 fun e=>hu e.symm)⟩
  case inr.inr.inr.inr.inr.inl =>
   obtain ⟨a',c',e,r⟩:=hp
   exact ⟨a',c',e,r.below (fun k hk=>(r.lt k hk).2) (hr.1 fun e=>hu e.symm)⟩
  case inr.inr.inr.inr.inr.inr.inl =>
   obtain ⟨a',c',e,r⟩:=hp
   exact ⟨a',c',e,r.below (fun k hk=>(r.lt k hk).2) (hr.1 hne)⟩
  case inr.inr.inr.inr.inr.inr.inr =>
   obtain ⟨a',c',e,r⟩:=hp
   exact ⟨a',c',e,r.below (fun k hk=>(r.lt k hk).2) (hr.1 (by rintro rfl;exact absurd h1 (by decide +kernel)))⟩
  all_goals exact hp
 case h0=>exact (Below.refl _ _).drew
 case step =>
  intro q o hq ho L a y x hLi hwt hre hkp hI hp
  have s3:a.tmps.getD 3 undef = .pointer (some ⟨D,0,none⟩):=hkp.slot 3 (by kernel_rfl)
  have hbx:=X.out.1.below X.out.1.under hI
  have hq':q<8:=hq
  have hcases:q=0∨q=1∨q=2∨q=3∨q=4∨q=5∨q=6∨q=7:=by omega
  rcases hcases with rfl|rfl|rfl|rfl|rfl|rfl|rfl|rfl
  ·cases ho
   exact ⟨wno rfl,op_valY (v:=.pointer (some ⟨D,0,none⟩)) (w':=x) (field0_run 3 rfl s3) ⟨_,(),rfl,⟨fun _=>Below.refl _ _,fun _ _ _=>rfl⟩,hI,fun u hu=>hu (fun h=>by cases h)⟩⟩
  ·cases ho
   have e1:a.tmps.getD 11 undef = .pointer (some ⟨D,0,none⟩):=hp 0 (od (by kernel_rfl)) (.inr (by decide))
   exact ⟨wno rfl,op_valY (v:=.int .i64 n0) (w':=x) (loadInt_run 11 rfl e1 (hbx.cell 0 rfl)) ⟨_,(),rfl,⟨fun _=>Below.refl _ _,fun _ _ _=>rfl⟩,hI,fun u hu=>hu (fun h=>by cases h)⟩⟩
  ·cases ho
   have e1:a.tmps.getD 12 undef = .int .i64 n0:=hp 1 (od (by kernel_rfl)) (.inr (by decide))
   refine ⟨wno rfl,op_valY (v:=.slice (some ⟨x.heap.size,0,none⟩) 1 1) (w':=x.alloc (.cells #[.int .i64 n0] 2)) (buildInt_run 12 rfl e1) ⟨_,(),rfl,⟨fun _=>(Below.refl _ _).alloc nlr _,fun h=>absurd rfl h⟩,hI.trans ((Below.refl _ _).alloc hI.size _),fun u hu=>?_⟩⟩
   have eu:=hu (fun h=>by cases h)
   subst eu
   exact ⟨_,_,rfl,irow_one x n0 hI.size⟩
  ·cases ho
   exact ⟨wno rfl,op_valY (v:=.pointer (some ⟨D,1,none⟩)) (w':=x) (field1_run 3 rfl s3) ⟨_,(),rfl,⟨fun _=>Below.refl _ _,fun _ _ _=>rfl⟩,hI,fun u hu=>hu (fun h=>by cases h)⟩⟩
  ·cases ho
   have e1:a.tmps.getD 14 undef = .pointer (some ⟨D,1,none⟩):=hp 3 (od (by kernel_rfl)) (.inr (by decide))
   exact ⟨wno rfl,op_valY (v:=.iface ty tv) (w':=x) (loadPath_run 14 rfl e1 (hbx.cell 1 rfl)) ⟨_,(),rfl,⟨fun _=>Below.refl _ _,fun _ _ _=>rfl⟩,hI,fun u hu=>hu (fun h=>by cases h)⟩⟩
  ·cases ho
   have e1:a.tmps.getD 15 undef = .iface ty tv:=hp 4 (od (by kernel_rfl)) (.inr (by decide))
   refine ⟨wno rfl,op_callR (callNum_run 15 rfl e1) (I'.out x) ?_⟩
   rintro e x2 ⟨⟨v,rfl,r⟩,q2⟩
   obtain ⟨a',c',ev⟩:=r.shape
   rw [Hm.out] at ev
   refine ⟨v,rfl,v,(),rfl,⟨fun _=>q2,fun _ h=>absurd rfl h⟩,hI.trans (q2.mono hI.size),fun u hu=>?_⟩
   have eu:=hu (fun h=>by cases h)
   subst eu
   exact ⟨a',c',ev,r.mono hI.size⟩
  ·cases ho
   obtain ⟨a1,c1,e1,r1⟩:∃ a' c',a.tmps.getD 13 undef = .slice a' 1 c'∧IRow W.heap.size x (a.tmps.getD 13 undef) [n0]:=hp 2 (od (by kernel_rfl)) (.inl rfl)
   obtain ⟨a2,c2,e2,r2⟩:∃ a' c',a.tmps.getD 16 undef = .slice a' m c'∧IRow W.heap.size x (a.tmps.getD 16 undef) P:=hp 5 (od (by kernel_rfl)) (.inl rfl)
   rw [e2] at r2
   have r2':IRow W.heap.size x (.slice a2 P.length c2) P:=by rw [Hm.out];exact r2
   refine ⟨wno rfl,int_op_app (.tmp 13) (.tmp 16) rfl W.heap.size (a.tmps.getD 13 undef) [n0] a2 m c2 P Hm.out rfl e2 r1 r2'.ints (fun h=>IRow.none r2 h) (by rw [Hm.out];simp;omega) hI.size ?_⟩
   intro v' x2 q1 q2 q3 q4
   obtain ⟨a',c',ev⟩:=q1.shape
   refine ⟨v',(),rfl,⟨fun h=>absurd rfl h,fun _ _ h=>absurd rfl h⟩,hI.trans q2,fun u hu=>?_⟩
   have eu:=hu (fun h=>by cases h)
   subst eu
   refine ⟨a',c',?_,q1⟩
   rw [ev]
   simp [Hm.out]<;>omega
  ·cases ho
   obtain ⟨a1,c1,e1,r1⟩:∃ a' c',a.tmps.getD 17 undef = .slice a' (m+1) c'∧IRow W.heap.size x (a.tmps.getD 17 undef) (n0 :: P):=hp 6 (od (by kernel_rfl)) (.inl rfl)
   refine ⟨wno rfl,op_assignZ 17 rfl ⟨_,(),rfl,⟨fun _=>Below.refl _ _,fun _ _ _=>rfl⟩,hI,fun u hu=>?_⟩⟩
   have eu:=hu (fun h=>by cases h)
   subst eu
   exact ⟨a1,c1,e1,r1⟩
 case last =>
 intro L a y x hall hkp hI hp
 obtain ⟨a1,c1,e1,r1⟩:∃ a' c',a.tmps.getD 2 undef = .slice a' (m+1) c'∧IRow W.heap.size x (a.tmps.getD 2 undef) (n0 :: P):=hp 7 (by decide) (by decide)
 rw [e1] at r1
 have F:Hid (IRow W.heap.size x (.slice a1 (m+1) c1) (n0 :: P)∧Below W.heap.size W x):=⟨r1,hI⟩
 have ha:=hkp.pick [true,true,false,true,true,true,true,true,true,true,true,false,false,false,false,false,false,false,true,true,true,true] (by kernel_rfl)
 simp only [pickS] at ha
 rw [e1] at ha
 clear hp hkp hI hall r1 e1
 generalize a.tmps.getD 11 undef=y11 at ha
 generalize a.tmps.getD 12 undef=y12 at ha
 generalize a.tmps.getD 13 undef=y13 at ha
 generalize a.tmps.getD 14 undef=y14 at ha
 generalize a.tmps.getD 15 undef=y15 at ha
 generalize a.tmps.getD 16 undef=y16 at ha
 generalize a.tmps.getD 17 undef=y17 at ha
 rw [ha]
 clear ha
 go_wp2
 go_ret
 exact ⟨⟨_,rfl,F.out.1.mono Hx.out.size⟩,Hx.out.trans (F.out.2.mono Hx.out.size)⟩
theorem implNumbersOn:∀ (p:List Int) (w:World),p.length≤1048576→ends0 p →
 Calls Tryz.prog 227 #[pv p] w fun e w'=>(∃ v,e = .returned v∧IRow w.heap.size w' v p)∧Below w.heap.size w w'
 |[],w,_,_=>implNumNo w
 |[x],w,_,h=>by
  obtain rfl:x=0:=h
  exact implNumTop w
 |x :: y :: r,w,hl,h=>by
  obtain ⟨ty,tv,e⟩:=pv_shape (y :: r)
  rw [pv_cons (by simp),e]
  refine implNumStep x ty tv (y :: r) (by simp at hl ⊢;omega) w fun w=>?_
  rw [← e]
  exact implNumbersOn (y :: r) w (by simp at hl ⊢;omega) h
theorem implPathOf (a:Option Addr) (c:Nat) (r:List Nd) (n:Int) (w:World) (hT:r.length≤1048576) (hc:r.length≤c) (hcn:a=none→c=0) (h:Hid (NdsAt w a r)) :
 Calls Tryz.prog 167 #[.slice a r.length c,.int .i64 n] w fun e w'=>(∃ v',e = .returned (v')∧IRow w.heap.size w' v' (pathOf r n))∧Below w.heap.size w w':=by
 have A1:=fun (_:Nat)=>implTreeOk r a c w hT hc hcn h
 have A2:=fun w=>implPlace r.length n w hT
 have HI:Hid (∀ w',Below w.heap.size w w'→NdsAt w' a r):=fun w' g=>h.out.below g
 have Ht:Hid (tin r n=(tok r&&inB 0 ((r.length:Int)-1) n)):=by
  show tin r n=_
  rw [Bool.eq_iff_iff,tin_iff,Bool.and_eq_true,inB_true]
  constructor<;>rintro ⟨g,g1,g2⟩<;>exact ⟨g,by omega,by omega⟩
 have A3:Hid (tin r n=true→∀ w',NdsAt w' a r→Calls Tryz.prog 228 #[.slice a r.length c,.int .i64 n] w' fun e w2=>e = .returned (pv (pathOf r n))∧w2=w'):=fun e w' hh=>by
  obtain ⟨g1,g2,g3⟩:=tin_iff.1 e
  unfold pathOf
  rw [if_pos e]
  exact implPathFrom a c r g1 _ n w' g2 g3 nlr hh
 have A4:Hid (tin r n=true→∀ w':World,Calls Tryz.prog 227 #[pv (pathOf r n)] w' fun e w2=>(∃ v,e = .returned v∧IRow w'.heap.size w2 v (pathOf r n))∧Below w'.heap.size w' w2):=fun e w'=>by
  obtain ⟨g1,g2,g3⟩:=tin_iff.1 e
  refine implNumbersOn _ w' (Nat.le_trans (pathOf_len r n) (by decide)) ?_
  unfold pathOf
  rw [if_pos e]
  exact path_ends g1 _ n g2 g3 nlr
 have A5:Hid (tin r n=false→∀ w':World,Calls Tryz.prog 227 #[.iface 255 (.agg #[])] w' fun e w2=>(∃ v,e = .returned v∧IRow w'.heap.size w2 v (pathOf r n))∧Below w'.heap.size w' w2):=fun e w'=>by
  unfold pathOf
  rw [if_neg (by rw [e];simp)]
  exact implNumNo w'
 obtain ⟨ty,tv,hpv⟩:=pv_shape (pathOf r n)
 rw [hpv] at A3 A4
 clear hpv
 generalize pathOf r n=P at A4 A5 ⊢
 generalize tin r n=ti at Ht A3 A4 A5
 generalize tok r=ok at A1 Ht
 generalize inB 0 ((r.length:Int)-1) n=pl at A2 Ht
 generalize r.length=len at hT A1 A2 A3 ⊢
 have A1':Hid _:=A1
 have A2':Hid _:=A2
 clear A1 A2 h hc hcn
 go_enter Tryz.func167,Tryz.ntmps167
 go_wp2_with fail
 refine (A1'.out 0).mono ?_
 rintro e w1 ⟨rfl,q⟩
 have B1:Hid (Below w.heap.size w w1):=q
 clear q A1'
 cases ok
 ·have A6:Hid _:=A5.out (by rw [Ht.out];rfl)
  clear A3 A4 A5 Ht
  go_wp2_with fail
  refine (A6.out _).mono ?_
  rintro e w2 ⟨⟨v,rfl,r1⟩,q⟩
  have F:Hid (IRow w.heap.size w2 v P∧Below w.heap.size w w2):=⟨r1.mono B1.out.size,B1.out.trans (q.mono B1.out.size)⟩
  clear q r1
  go_wp2
  go_ret
  exact ⟨⟨_,rfl,F.out.1⟩,F.out.2⟩
 go_wp2_with fail
 refine (A2'.out _).mono ?_
 rintro e w2 ⟨rfl,hw2⟩
 have B2:Hid (Below w.heap.size w w2):=by show Below _ _ _;rw [hw2];exact B1.out.trans ((Below.refl _ _).alloc B1.out.size _)
 clear hw2 B1 A2'
 cases pl
 ·have A6:Hid _:=A5.out (by rw [Ht.out];rfl)
  clear A3 A4 A5 Ht
  go_wp2_with fail
  refine (A6.out _).mono ?_
  rintro e w3 ⟨⟨v,rfl,r1⟩,q⟩
  have F:Hid (IRow w.heap.size w3 v P∧Below w.heap.size w w3):=⟨r1.mono B2.out.size,B2.out.trans (q.mono B2.out.size)⟩
  clear q r1
  go_wp2
  go_ret
  exact ⟨⟨_,rfl,F.out.1⟩,F.out.2⟩
 have A6:Hid _:=A3.out (by rw [Ht.out];rfl)
 have A7:Hid _:=A4.out (by rw [Ht.out];rfl)
 clear A3 A4 A5 Ht
 go_wp2_with fail
 refine (A6.out w2 (HI.out _ B2.out)).mono ?_
 rintro e w3 ⟨rfl,hw3⟩
 obtain rfl:=hw3.symm
 clear hw3
 go_wp2_with fail
 refine (A7.out _).mono ?_
 rintro e w3 ⟨⟨v,rfl,r1⟩,q⟩
 have F:Hid (IRow w.heap.size w3 v P∧Below w.heap.size w w3):=⟨r1.mono B2.out.size,B2.out.trans (q.mono B2.out.size)⟩
 clear q r1
 go_wp2
 go_ret
 exact ⟨⟨_,rfl,F.out.1⟩,F.out.2⟩
open Go.RowKit Go.Shelf
structure TellsI (W0:World) (g:FuncId) (fs cb:Array Value) (Q:Int→Prop) (p:Int→Bool):Prop where
 enters:Enters Tryz.prog g
 tells:∀ (W:World) (x:Int),Q x→Bel W0 W→Calls Tryz.prog g (fs++#[.int .i64 x]++cb) W fun e w'=>e = .returned (.bool (p x))∧Bel W w'
theorem implIndexI (a:Option Addr) (cap:Nat) (l:List Int) (g:FuncId) (fs cb:Array Value) (Q:Int→Prop) (p:Int→Bool) (w:World) (hT:l.length≤1024) (h:Hid (IntsAt w a l)) (hq:Hid (∀ x∈l,Q x)) (ht:Hid (TellsI w g fs cb Q p)) :
 Calls Tryz.prog 229 #[.slice a l.length cap,.func (.func g) fs cb] w fun e w'=>e = .returned (.int .i64 (if l.findIdx p<l.length then (l.findIdx p:Int) else -1))∧Bel w w':=by
 have eg:∀ args w,(callFunc g args).run Tryz.prog w = .ok (.enter g args) w:=ht.out.enters
 obtain ⟨len,hlen⟩:∃ n,l.length=n:=⟨_,rfl⟩
 have Hlen:Hid (l.length=len):=hlen
 obtain ⟨N,hN⟩:∃ N,l.findIdx p=N:=⟨_,rfl⟩
 have HN:Hid (l.findIdx p=N):=hN
 have hNl:N≤len:=by rw [← hN,← hlen];exact List.findIdx_le_length
 rw [hlen] at hT ⊢
 rw [hN]
 clear hlen hN
 go_enter Tryz.func229,Tryz.ntmps229
 go_wp2
 go_loopw [8] (fun i wr=>∃ k:Nat,k≤N∧i = .int .i64 k∧Hid (Bel w wr)) (fun i _=>len-(intOf i).toNat)
 case atStart=>exact ⟨0,Nat.zero_le _,rfl,Below.refl _ _⟩
 case round =>
  obtain ⟨k,hk,rfl,H1⟩:=hrel
  by_cases hlt:k<len
  ·obtain ⟨b1,o1,ha1,hb1,c0⟩:=(h.out.below H1.out) k (by rw [Hlen.out];exact hlt)
   subst ha1
   have hkL:k<l.length:=by rw [Hlen.out];exact hlt
   rw [List.getElem?_eq_getElem hkL,Option.getD_some] at c0
   have HC:=ht.out.tells wr l[k] (hq.out _ (List.getElem_mem hkL)) H1.out
   have hlt':(k:Int)<(len:Int):=by omega
   by_cases hkN:k=N
   ·have hp:p l[k]=true:=by
     have:=List.findIdx_getElem (p:=p) (xs:=l) (w:=by rw [HN.out,Hlen.out,← hkN];exact hlt)
     simpa only [HN.out,← hkN] using this
    rw [hp] at HC
    clear hp
    generalize l[k]=x at c0 HC
    subst hkN
    clear hkL
    go_wp2_with fail
    refine HC.mono ?_
    rintro e w' ⟨rfl,hb'⟩
    have B2:Hid (Bel w w'):=H1.out.trans (hb'.mono H1.out.size)
    clear hb' H1 HC
    go_wp2
    go_ret
    exact ⟨by first|rfl|(rw [if_pos hlt];rfl),B2.out⟩
   ·have hp:p l[k]=false:=by
     have:=List.not_of_lt_findIdx (p:=p) (xs:=l) (i:=k) (by rw [HN.out];omega)
     simpa using this
    rw [hp] at HC
    clear hp
    generalize l[k]=x at c0 HC
    clear hkL
    go_wp2_with fail
    refine HC.mono ?_
    rintro e w' ⟨rfl,hb'⟩
    have B2:Hid (Bel w w'):=H1.out.trans (hb'.mono H1.out.size)
    clear hb' H1 HC
    go_wp2
    go_roundw
    case rel=>exact ⟨k+1,by omega,by go_num,B2⟩
    case measure=>simp [intOf];omega
  ·obtain rfl:k=len:=by omega
   obtain rfl:k=N:=by omega
   go_wp2
   go_ret
   exact ⟨by first|rfl|(rw [if_neg (Nat.lt_irrefl _)];rfl),H1.out⟩
theorem implHasI (a:Option Addr) (cap:Nat) (l:List Int) (g:FuncId) (fs cb:Array Value) (Q:Int→Prop) (p:Int→Bool) (w:World) (hT:l.length≤1024) (h:Hid (IntsAt w a l)) (hq:Hid (∀ x∈l,Q x)) (ht:Hid (TellsI w g fs cb Q p)) :
 Calls Tryz.prog 168 #[.slice a l.length cap,.func (.func g) fs cb] w fun e w'=>e = .returned (.bool (l.any p))∧Bel w w':=by
 have I:=implIndexI a cap l g fs cb Q p w hT h hq ht
 have hd:l.any p=decide (l.findIdx p<l.length):=by
  by_cases hh:l.findIdx p<l.length
  ·rw [decide_eq_true hh,List.any_eq_true]
   rw [List.findIdx_lt_length] at hh
   exact hh
  ·rw [decide_eq_false hh]
   rw [List.findIdx_lt_length] at hh
   cases e:l.any p
   ·rfl
   ·exact absurd (List.any_eq_true.1 e) hh
 rw [hd]
 generalize l.findIdx p=N at I ⊢
 generalize l.length=len at I ⊢
 clear hd hT h
 go_enter Tryz.func168,Tryz.ntmps168
 go_wp2_with fail
 refine I.mono ?_
 rintro e w1 ⟨rfl,b1⟩
 have B1:Hid (Bel w w1):=b1
 clear b1 I
 by_cases hk:N<len
 ·rw [if_pos hk]
  have h0:(0:Int)≤(N:Int):=by omega
  go_wp2
  go_ret
  exact ⟨by simp [hk],B1.out⟩
 ·rw [if_neg hk]
  go_wp2
  go_ret
  exact ⟨by simp [hk],B1.out⟩
open Go.RowKit Go.Shelf
theorem implCanAt (l:List Nd) (a:Option Addr) (cap:Nat) (size:Int) (B3 B5 k:Nat) (w:World) (hk:k<l.length) (h3:Boxed w B3 #[.slice a l.length cap] 41) (h5:Boxed w B5 #[.int .i64 size] 2) (h:NdsAt w a l) :
 Calls Tryz.prog 169 #[.int .i64 (k:Int),.pointer (some ⟨B3,0,none⟩),.pointer (some ⟨B5,0,none⟩)] w fun e w'=>e = .returned (.bool (!inB 0 (ndAt l k).pz.level size))∧Bel w w':=by
 obtain ⟨b1,o1,ha1,hb1,-⟩:=h k hk
 subst ha1
 have c3:=(h.cells (k:=k) hk).2.2.2.1
 have d3:w.cell? ⟨B3,0,none⟩=some (.slice (some ⟨b1,o1,none⟩) l.length cap):=h3.cell 0 rfl
 have d5:w.cell? ⟨B5,0,none⟩=some (.int .i64 size):=h5.cell 0 rfl
 have u3:=h3.under
 have u5:=h5.under
 have A:Nat→Calls Tryz.prog 94 #[.int .i64 (ndAt l k).pz.level,.slice (some ⟨w.heap.size,0,none⟩) 1 1] (w.alloc (.cells #[.int .i64 size] 2)).drew fun e w'=>e = .returned (.bool (inB 0 (ndAt l k).pz.level size))∧Bel w w':=fun _=>by
  have hI:IntsAt (w.alloc (.cells #[.int .i64 size] 2)).drew (some ⟨w.heap.size,0,none⟩) [size]:=(ints_new w 2 [size] #[.int .i64 size] w.heap.size rfl rfl).below (Below.refl _ _).drew
  have q:=implUpTo (ndAt l k).pz.level (some ⟨w.heap.size,0,none⟩) 1 [size] (w.alloc (.cells #[.int .i64 size] 2)).drew (by simp) hI
  refine Calls.mono (by simpa using q) ?_
  rintro e w' ⟨rfl,rfl⟩
  exact ⟨rfl,((Below.refl _ _).alloc nlr _).drew⟩
 generalize inB 0 (ndAt l k).pz.level size=y at A ⊢
 generalize (ndAt l k).pz.level=lev at A c3
 have hlt:(k:Int)<(l.length:Int):=by omega
 generalize l.length=len at d3 hlt
 have A':Hid _:=A
 clear A h3 h5 h hk
 go_enter Tryz.func169,Tryz.ntmps169
 go_upto_region 1 with fail
 go_region_with (go_at_call 94;refine (A'.out 0).mono ?_;rintro e w' ⟨rfl,q⟩;have B2:Hid (Bel w w'):=q;clear q)
 all_goals (
  go_wp2
  go_ret
  exact ⟨rfl,B2.out⟩)
theorem can_any (l:List Nd) (n size:Int):(decide (0<(pathOf l n).length) && !(pathOf l n).any fun x => !inB 0 (ndAt l x.toNat).pz.level size)=can l n size:=by
 unfold can pathOf canP
 by_cases hin:tin l n=true
 ·rw [if_pos hin,hin,Bool.true_and]
  obtain ⟨hok,h0,h1⟩:=tin_iff.1 hin
  have hp:=path_pos hok h0 h1
  rw [decide_eq_true hp,Bool.true_and,Bool.eq_iff_iff]
  simp only [Bool.not_eq_true',List.any_eq_false,Bool.not_eq_false,Bool.and_eq_true,decide_eq_true_eq,List.all_eq_true]
  constructor
  ·intro h
   have hx:=path_next hok h0 h1
   have g:=h n (by rw [hx];exact List.mem_cons_self ..)
   simp only [inB_true] at g
   refine ⟨by omega,fun x hx=>?_⟩
   have g:=h x hx
   simp only [inB_true] at g
   exact g.2
  ·rintro ⟨g0,g⟩ x hx
   simp only [inB_true]
   exact ⟨g0,g x hx⟩
 ·have e:tin l n=false:=by simpa using hin
  rw [if_neg hin,e]
  rfl
theorem implCan (l:List Nd) (a:Option Addr) (cap:Nat) (n:Int) (size:Int) (w:World) (hT:l.length≤1048576) (hc:l.length≤cap) (hcn:a=none→cap=0) (h:Hid (NdsAt w a l)) :
 Calls Tryz.prog 105 #[.slice a l.length cap,.int .i64 n,.int .i64 size] w fun e w'=>e = .returned (.bool (can l n size))∧Bel w w':=by
 have Hc:Hid (can l n size=(decide (0<(pathOf l n).length) && !(pathOf l n).any fun x => !inB 0 (ndAt l x.toNat).pz.level size)):=(can_any l n size).symm
 obtain ⟨W0,hW0⟩:∃ W0,W0=(w.alloc (.cells #[.slice a l.length cap] 41)).alloc (.cells #[.int .i64 size] 2):=⟨_,rfl⟩
 have X:Hid (Boxed W0 w.heap.size #[.slice a l.length cap] 41∧Boxed W0 (w.heap.size+1) #[.int .i64 size] 2∧NdsAt W0 a l∧Bel w W0):=by
  rw [hW0]
  refine ⟨(Boxed.new w _ _).more _,?_,(h.out.alloc _).alloc _,((Below.refl _ _).alloc nlr _).alloc (by simp) _⟩
  have:=Boxed.new (w.alloc (.cells #[.slice a l.length cap] 41)) #[.int .i64 size] 2
  simpa using this
 have HW:Hid (W0=_):=hW0
 clear hW0
 have A1:=fun (_:Nat)=>implPathOf a cap l n W0 hT hc hcn X.out.2.2.1
 have Hs:Hid (∀ x∈pathOf l n,0≤x∧x<l.length):=fun x hx=>by
  unfold pathOf at hx
  by_cases hin:tin l n=true
  ·rw [if_pos hin] at hx
   obtain ⟨hok,h0,h1⟩:=tin_iff.1 hin
   have:=path_mem hok (by omega) h1 x hx
   omega
  ·rw [if_neg hin] at hx
   simp at hx
 have Hl:=pathOf_len l n
 have A2:Hid (∀ (P:List Int) (w1:World) (a2:Option Addr) (c2:Nat),P.length≤12→(∀ x∈P,0≤x∧x<l.length)→Bel W0 w1→IntsAt w1 a2 P→Calls Tryz.prog 168 #[.slice a2 P.length c2,.func (.func 169) #[] #[.pointer (some ⟨w.heap.size,0,none⟩),.pointer (some ⟨w.heap.size+1,0,none⟩)]] w1 fun e w'=>e = .returned (.bool (P.any fun x => !inB 0 (ndAt l x.toNat).pz.level size))∧Bel w1 w'):=fun P w1 a2 c2 p1 p2 p3 p4=>by
  refine implHasI a2 c2 P 169 #[] #[.pointer (some ⟨w.heap.size,0,none⟩),.pointer (some ⟨w.heap.size+1,0,none⟩)] (fun x=>0≤x∧x<l.length) (fun x => !inB 0 (ndAt l x.toNat).pz.level size) w1 (by omega) p4 p2 ⟨enters_of Tryz.func169 (by kernel_rfl) rfl,?_⟩
  intro W x hx hW
  obtain ⟨k,rfl⟩:∃ k:Nat,x=(k:Int):=⟨x.toNat,by omega⟩
  have hb:Bel W0 W:=p3.trans (hW.mono p3.size)
  rw [Int.toNat_natCast]
  exact implCanAt l a cap size _ _ k W (by omega) (X.out.1.below X.out.1.under hb) (X.out.2.1.below X.out.2.1.under hb) (X.out.2.2.1.below hb)
 generalize can l n size=R at Hc ⊢
 generalize pathOf l n=P at A1 Hs Hl Hc
 have c0:W0.cell? ⟨w.heap.size,0,none⟩=some (.slice a l.length cap):=X.out.1.cell 0 rfl
 have HB:Hid (Bel w W0):=X.out.2.2.2
 obtain ⟨pn,hpn⟩:∃ m,P.length=m:=⟨_,rfl⟩
 have A3:Hid (∀ (w1:World) (a2:Option Addr) (c2:Nat),Bel W0 w1→IntsAt w1 a2 P→Calls Tryz.prog 168 #[.slice a2 pn c2,.func (.func 169) #[] #[.pointer (some ⟨w.heap.size,0,none⟩),.pointer (some ⟨w.heap.size+1,0,none⟩)]] w1 fun e w'=>e = .returned (.bool (P.any fun x => !inB 0 (ndAt l x.toNat).pz.level size))∧Bel w1 w'):=fun w1 a2 c2 p3 p4=>by
  have:=A2.out P w1 a2 c2 Hl Hs.out p3 p4
  rw [hpn] at this
  exact this
 have Hp:Hid (P.length=pn):=hpn
 rw [hpn] at Hc Hl
 generalize (P.any fun x => !inB 0 (ndAt l x.toNat).pz.level size)=b at A3 Hc
 generalize l.length=len at c0 A1 HW ⊢
 have A1':Hid _:=A1
 clear A1 A2 hpn Hs hT hc hcn h X
 go_enter Tryz.func105,Tryz.ntmps105
 go_upto_region 1 with fail
 rw [← HW.out]
 clear HW
 go_wp2_with fail
 refine (A1'.out 0).mono ?_
 rintro e w1 ⟨⟨v,rfl,r⟩,q⟩
 obtain ⟨a2,c2,rfl⟩:=r.shape
 have I:Hid (IntsAt w1 a2 P∧Bel W0 w1∧Bel w w1):=⟨r.ints,q,HB.out.trans (q.mono HB.out.size)⟩
 rw [Hp.out]
 clear r q A1' c0
 by_cases h0:(0:Int)<(pn:Int)
 ·go_wp2_with fail
  refine (A3.out _ _ _ I.out.2.1 I.out.1).mono ?_
  rintro e w2 ⟨rfl,q⟩
  have B2:Hid (Bel w w2):=I.out.2.2.trans (q.mono I.out.2.2.size)
  clear q
  go_wp2
  go_ret
  exact ⟨ret_bool (by rw [Hc.out,decide_eq_true (by omega),Bool.true_and]),B2.out⟩
 ·obtain rfl:pn=0:=by omega
  go_wp2
  go_ret
  exact ⟨ret_bool (by rw [Hc.out];rfl),I.out.2.2⟩
theorem ndcopy_none (w:World) (ty:TypeId) (d s:Option Addr) (dc sc:Nat) :
 (Builtin.copy_ #[41,41] ty #[.slice d 0 dc,.slice s 0 sc]).run Tryz.prog w = .ok (goInt 0) w:=by
 obtain ⟨i0,hi0,hz0,hz1,hz2⟩:=info_parts ndInfo
 have hl:∀ (x:Addr),(loadCells x 0).run Tryz.prog w = .ok #[] w:=fun x=>by simpa using run_loadCells_list (P:=Tryz.prog) w x [] (by simp)
 cases d<;>cases s<;>simp [Builtin.copy_,run_underlying Tryz.underlying41,Builtin.lenOf,Builtin.firstCells,sizeOf,typeInfo,hi0,storeCells,hl]
theorem ndcopy_run (w:World) (ty:TypeId) (g:Nat) (a:Option Addr) (sCap:Nat) (l:List Nd) (cur:Array Value)
 (hg:w.heap[g]? = some (.cells cur 130 (0,0))) (hc:cur.size=l.length*5) (h:NdsAt w a l) :
 (Builtin.copy_ #[41,41] ty #[.slice (some ⟨g,0,none⟩) l.length l.length,.slice a l.length sCap]).run Tryz.prog w =
  .ok (.int .i64 (l.length:Int)) (w.setRow g (ndcells l).toArray):=by
 obtain ⟨i0,hi0,hz0,hz1,hz2⟩:=info_parts ndInfo
 cases l with
 |nil =>
  have e:w.setRow g (ndcells []).toArray=w:=by
   obtain rfl:cur=#[]:=by simpa using hc
   exact setRow_self w g _ _ _ hg
  rw [e]
  exact ndcopy_none w ty _ _ _ _
 |cons x xs =>
  obtain ⟨b,off,ha,_⟩:=h 0 (by simp)
  subst ha
  have hsrc:∀ j v,(ndcells (x :: xs))[j]? = some v→w.cell? ((⟨b,off,none⟩:Addr).add j)=some v:=by
   intro j u hj
   have hj':j<(x :: xs).length*5:=by
    have:=(List.getElem?_eq_some_iff.1 hj).1
    rwa [ndcells_length] at this
   obtain ⟨k,i,rfl,hi⟩:∃ k i,j=k*5+i∧i<5:=⟨j/5,j%5,by omega,Nat.mod_lt _ (by omega)⟩
   have hk:k<(x :: xs).length:=by omega
   obtain ⟨b',off',e,_,c0,c1,c2,c3,c4⟩:=h k hk
   cases e
   obtain ⟨e0,e1,e2,e3,e4⟩:=ndcells_get (x :: xs) k hk
   rw [show (⟨b,off,none⟩:Addr).add (k*5+i)=⟨b,off+k*5+i,none⟩ by by_cases h0:k*5+i=0<;>simp [Addr.add,h0,Nat.add_assoc];omega]
   match i,hi with
   |0,_=>rw [Nat.add_zero] at hj;rw [e0] at hj;rw [Nat.add_zero,c0];exact hj
   |1,_=>rw [e1] at hj;rw [c1];exact hj
   |2,_=>rw [e2] at hj;rw [c2];exact hj
   |3,_=>rw [e3] at hj;rw [c3];exact hj
   |4,_=>rw [e4] at hj;rw [c4];exact hj
  generalize hL:x :: xs=L at *
  have hl:=run_loadCells_list (P:=Tryz.prog) w ⟨b,off,none⟩ (ndcells L) hsrc
  have hst:=run_storeCells_at Tryz.prog g 0 130 (ndcells L) 0 cur w hg (by simp [ndcells_length,hc]) (ndcells_one L)
  have e1:(cur.toList.take 0++ndcells L++cur.toList.drop (0+(ndcells L).length))=ndcells L:=by
   rw [List.take_zero,List.nil_append,Nat.zero_add,ndcells_length,← hc,← Array.length_toList,List.drop_length,List.append_nil]
  rw [Nat.add_zero,e1] at hst
  have hm:Nat.min L.length L.length=L.length:=Nat.min_self _
  rw [ndcells_length] at hl
  simp [Builtin.copy_,run_underlying Tryz.underlying41,Builtin.lenOf,Builtin.firstCells,sizeOf,typeInfo,hi0,hz1,hm,hl,hst]
  rfl
theorem implCopyNd (a:Option Addr) (cap:Nat) (l:List Nd) (w:World) (hT:l.length≤1048576) (h:Hid (NdsAt w a l)) :
 Calls Tryz.prog 97 #[.slice a l.length cap] w fun e w'=>∃ g,e = .returned (.slice (some ⟨g,0,none⟩) l.length l.length)∧NdRow w.heap.size w' (.slice (some ⟨g,0,none⟩) l.length l.length) l∧Below w.heap.size w w':=by
 obtain ⟨i0,hi,hz0,hz1,hz2⟩:=info_parts ndInfo
 have hgm:(w.alloc (.cells (madeCells #[.int .i64 0,.int .i64 0,.int .i64 0,.int .i64 0,.int .i64 0] (l.length*5)) 130)).heap[w.heap.size]? = some (.cells (madeCells #[.int .i64 0,.int .i64 0,.int .i64 0,.int .i64 0,.int .i64 0] (l.length*5)) 130 (0,0)):=by
  show (w.heap.push _)[w.heap.size]? = _
  simp
 have hcp:=fun ty=>ndcopy_run (w.alloc (.cells (madeCells #[.int .i64 0,.int .i64 0,.int .i64 0,.int .i64 0,.int .i64 0] (l.length*5)) 130)) ty w.heap.size a cap l _ hgm (by rw [size_madeCells]) (h.out.alloc _)
 have Fin:Hid (NdRow w.heap.size ((w.alloc (.cells (madeCells #[.int .i64 0,.int .i64 0,.int .i64 0,.int .i64 0,.int .i64 0] (l.length*5)) 130)).setRow w.heap.size (ndcells l).toArray) (.slice (some ⟨w.heap.size,0,none⟩) l.length l.length) l∧Below w.heap.size w ((w.alloc (.cells (madeCells #[.int .i64 0,.int .i64 0,.int .i64 0,.int .i64 0,.int .i64 0] (l.length*5)) 130)).setRow w.heap.size (ndcells l).toArray)):=by
  refine ⟨⟨ndcells_length l,.inr ⟨w.heap.size,l.length,(ndcells l).toArray,rfl,nlr,setRow_heap _ _ _ _ _ _ hgm,nlr,by unfold maxLen;omega,by simp [ndcells_length],?_⟩⟩,?_⟩
  ·simp [← ndcells_length]
  ·have b:Below w.heap.size w (w.alloc (.cells (madeCells #[.int .i64 0,.int .i64 0,.int .i64 0,.int .i64 0,.int .i64 0] (l.length*5)) 130)):=(Below.refl _ _).alloc nlr _
   exact b.trans ⟨rfl,rfl,rfl,by simp [World.setRow],fun k hk=>setRow_other _ _ k _ (by omega)⟩
 clear hgm
 obtain ⟨len,hlen⟩:∃ n,l.length=n:=⟨_,rfl⟩
 rw [hlen] at hT hcp Fin ⊢
 clear hlen
 have hmk:∀ wx,(Instr.makeSlice 41 (.int .i64 (len:Int)) (.int .i64 (len:Int))).run Tryz.prog wx = .ok (.slice (some ⟨wx.heap.size,0,none⟩) len len) (wx.alloc (.cells (madeCells #[.int .i64 0,.int .i64 0,.int .i64 0,.int .i64 0,.int .i64 0] (len*5)) 130)):=by
  intro wx
  have:=run_make (P:=Tryz.prog) wx 41 130 i0 (.agg #[.int .i64 0,.int .i64 0,.int .i64 0,.int .i64 0,.int .i64 0]) Tryz.underlying41 hi hz0 .i64 .i64 len len (by omega) (by omega) (by rw [hz2];omega) (by omega)
  rw [this,hz1];simp [Value.cells]
 clear hi hz0 hz1 hz2
 generalize (w.alloc (.cells (madeCells #[.int .i64 0,.int .i64 0,.int .i64 0,.int .i64 0,.int .i64 0] (len*5)) 130)).setRow w.heap.size (ndcells l).toArray=W2 at hcp Fin
 go_enter Tryz.func97,Tryz.ntmps97
 go_wp2
 go_ret
 exact ⟨_,rfl,Fin.out⟩
theorem pathOf_can {l:List Nd} {n size:Int} (h:can l n size=true):pathOf l n=path l n:=by
 unfold pathOf
 rw [if_pos (can_iff.1 h).1]
theorem implPaid (a:Option Addr) (c:Nat) (r:List Nd) (n:Int) (size:Int) (w:World) (hT:r.length≤1048576) (hc:r.length≤c) (hcn:a=none→c=0) (h:Hid (NdsAt w a r)) :
 Calls Tryz.prog 108 #[.slice a r.length c,.int .i64 n,.int .i64 size] w fun e w'=>(∃ v',e = .returned (.tuple #[v',.bool (can r n size)])∧NdRow w.heap.size w' v' (paid r n size))∧Bel w w':=by
 have Hw:Hid (∀ w2,Bel w w2→Hid (NdsAt w2 a r)):=fun w2 q=>h.out.below q
 have A1:=fun (_:Nat)=>implTreeOk r a c w hT hc hcn h
 have A2:=fun w1 hh=>implCopyNd a c r w1 hT hh
 have A3:=fun w1 hh=>implCan r a c n size w1 hT hc hcn hh
 have A4:Hid (can r n size=true→∀ w1,NdsAt w1 a r→Calls Tryz.prog 167 #[.slice a r.length c,.int .i64 n] w1 fun e w'=>(∃ v',e = .returned v'∧IRow w1.heap.size w' v' (path r n))∧Bel w1 w'):=fun e w1 hh=>by
  have q:=implPathOf a c r n w1 hT hc hcn hh
  rw [pathOf_can e] at q
  exact q
 have N1:Hid (tok r=false→can r n size=false∧paid r n size=[]):=fun e=>by
  unfold can tin paid
  rw [e]
  exact ⟨rfl,rfl⟩
 have N2:Hid (tok r=true→can r n size=false→paid r n size=r):=fun e e2=>by
  unfold paid
  rw [e,e2]
  rfl
 have N3:Hid (tok r=true→can r n size=true→paid r n size=payP r size (path r n)):=fun e e2=>by
  unfold paid
  rw [e,e2]
  rfl
 have Hs:Hid (can r n size=true→(path r n).length≤12∧∀ i,i<(path r n).length→∃ k:Nat,(path r n)[i]?.getD 0=(k:Int)∧k<r.length∧(payP r size ((path r n).take (i+1)))=(payP r size ((path r n).take i)).set k ((ndAt (payP r size ((path r n).take i)) k).less size)∧ndAt (payP r size ((path r n).take i)) k=ndAt r k∧0≤size∧size≤(ndAt r k).pz.level∧(ndAt r k).pz.level≤100000):=fun hcan=>by
  obtain ⟨hin,hs0,hlev⟩:=can_iff.1 hcan
  obtain ⟨hok,n0,n1⟩:=tin_iff.1 hin
  have hlen2:=path_len hok (by omega) n1
  have hl12:=(tok_iff.1 hok).2.1
  have hnd:=path_nodup hok (by omega) n1
  have hbd:∀ x∈path r n,0≤x∧x<r.length:=fun x hx=>by have:=path_mem hok (by omega) n1 x hx;omega
  refine ⟨by omega,fun i hi=>?_⟩
  have hb:=hbd _ (List.getElem_mem hi)
  obtain ⟨k,e1,e2⟩:∃ k:Nat,(path r n)[i]?.getD 0=(k:Int)∧k<r.length:=⟨((path r n)[i]).toNat,by rw [List.getElem?_eq_getElem hi,Option.getD_some];omega,by omega⟩
  have hm:=hlev ((path r n)[i]?.getD 0) (by rw [List.getElem?_eq_getElem hi];exact List.getElem_mem hi)
  rw [e1,Int.toNat_natCast] at hm
  have ok:=Pz.ok_iff.1 (tok_at hok e2).1
  obtain ⟨s1,s2⟩:=pay_step (size:=size) hnd hbd hi e1 e2
  exact ⟨k,e1,e2,s1,s2,hs0,hm,by omega⟩
 have H12:Hid (tok r=true→r.length≤12):=fun e=>(tok_iff.1 e).2.1
 generalize tok r=b1 at A1 N1 N2 N3 H12
 generalize can r n size=b2 at A3 A4 N1 N2 N3 Hs ⊢
 generalize paid r n size=R at N1 N2 N3 ⊢
 generalize path r n=P at A4 N3 Hs
 obtain ⟨len,hlen⟩:∃ m,r.length=m:=⟨_,rfl⟩
 have Hpl:Hid (∀ i,(payP r size (P.take i)).length=len):=fun i=>by rw [payP_len size _ _,hlen]
 rw [hlen] at hT A1 A2 A3 A4 Hs H12 ⊢
 have Hlen:Hid (r.length=len):=hlen
 have A1':Hid _:=A1
 have A2':Hid _:=A2
 have A3':Hid _:=A3
 clear A1 A2 A3 hlen hc hcn
 go_enter Tryz.func108,Tryz.ntmps108
 go_wp2_with fail
 refine (A1'.out 0).mono ?_
 rintro e w1 ⟨rfl,q⟩
 have B:Hid (Bel w w1):=q
 clear q A1' h
 cases b1
 ·obtain ⟨e1,e2⟩:=N1.out rfl
  subst e1;subst e2
  clear A2' A3' A4
  have E:Hid (NdRow w.heap.size (w1.alloc (.cells #[] 130)) (.slice (some ⟨w1.heap.size,0,none⟩) 0 0) []∧Bel w (w1.alloc (.cells #[] 130))):=⟨nd_built w1 _ B.out.size,B.out.trans ((Below.refl _ _).alloc B.out.size _)⟩
  go_wp2
  go_ret2
  exact ⟨⟨_,rfl,E.out.1⟩,E.out.2⟩
 have h12:=H12.out (by first|exact trivial|exact rfl)
 go_wp2_with fail
 refine (A2'.out _ (Hw.out _ B.out)).mono ?_
 rintro e w3 ⟨g,rfl,r1,q⟩
 have U:Hid (NdRow w.heap.size w3 (.slice (some ⟨g,0,none⟩) len len) r∧Bel w w3):=⟨r1.mono B.out.size,B.out.trans (q.mono B.out.size)⟩
 have Hg:Hid (w.heap.size≤g):=(World.ownsRow.lt U.out.1 g rfl).1
 clear r1 q B A2'
 go_wp2_with fail
 refine (A3'.out _ (Hw.out _ U.out.2)).mono ?_
 rintro e w4 ⟨rfl,q⟩
 have U4:Hid (NdRow w.heap.size w4 (.slice (some ⟨g,0,none⟩) len len) r∧Bel w w4):=⟨U.out.1.below (fun k hk=>(U.out.1.lt k hk).2) q,U.out.2.trans (q.mono U.out.2.size)⟩
 clear q U A3'
 cases b2
 ·have e1:=N2.out (by first|exact trivial|exact rfl) (by first|exact trivial|exact rfl)
  subst e1
  clear A4
  go_wp2
  go_ret2
  exact ⟨⟨_,rfl,U4.out.1⟩,U4.out.2⟩
 have e1:=N3.out (by first|exact trivial|exact rfl) (by first|exact trivial|exact rfl)
 subst e1
 obtain ⟨hp12,hst⟩:=Hs.out (by first|exact trivial|exact rfl)
 have Ht:Hid _:=hst
 have A5:Hid _:=A4.out (by first|exact trivial|exact rfl)
 clear hst Hs A4 N1 N2 N3
 obtain ⟨pn,hpn⟩:∃ m,P.length=m:=⟨_,rfl⟩
 rw [hpn] at Ht hp12
 have Hf:Hid (P.take pn=P):=by show P.take pn=P;rw [← hpn];exact List.take_length
 have Hp:Hid (P.length=pn):=hpn
 clear hpn
 go_wp2_with fail
 refine (A5.out _ (Hw.out _ U4.out.2)).mono ?_
 rintro e w5 ⟨⟨v,rfl,ri⟩,q⟩
 obtain ⟨a2,c2,rfl⟩:=ri.shape
 have hg4:=(World.ownsRow.lt U4.out.1 g rfl).2
 have U5:Hid (NdRow w.heap.size w5 (.slice (some ⟨g,0,none⟩) len len) (payP r size (P.take 0))∧Bel w w5):=by
  show NdRow _ _ _ (payP r size (P.take 0))∧_
  rw [List.take_zero,payP]
  exact ⟨U4.out.1.below (fun k hk=>(U4.out.1.lt k hk).2) q,U4.out.2.trans (q.mono U4.out.2.size)⟩
 have I:Hid (IRow w4.heap.size w5 (.slice a2 P.length c2) P∧g<w4.heap.size):=⟨ri,hg4⟩
 rw [Hp.out] at I ⊢
 clear ri q hg4 U4 A5 Hw
 go_wp2
 go_loopw [27] (fun s wr=>∃ i:Nat,i≤pn∧s = .int .i64 i∧Hid (NdRow w.heap.size wr (.slice (some ⟨g,0,none⟩) len len) (payP r size (P.take i))∧IRow w4.heap.size wr (.slice a2 pn c2) P∧Bel w wr)) (fun s _=>pn-(intOf s).toNat)
 case atStart=>exact ⟨0,Nat.zero_le _,rfl,U5.out.1,I.out.1,U5.out.2⟩
 case round =>
  obtain ⟨i,hi,rfl,HK⟩:=hrel
  clear U5
  by_cases hlt:i<pn
  case neg =>
   obtain rfl:i=pn:=by omega
   rw [Hf.out] at HK
   go_wp2
   go_ret2
   exact ⟨⟨_,rfl,HK.out.1⟩,HK.out.2.2⟩
  have hlt':(i:Int)<(pn:Int):=by omega
  obtain ⟨k,hk1,hk2,hs1,hs2,hz0,hz1,hz2⟩:=Ht.out i hlt
  have hI:IntsAt wr a2 P:=by have:=HK.out.2.1;rw [← Hp.out] at this;exact this.ints
  obtain ⟨b2,o2,ha2,hb2,q0⟩:=hI i (by rw [Hp.out];exact hlt)
  subst ha2
  rw [hk1] at q0
  have hrow:=HK.out.1
  have hrow':wr.ownsRow w.heap.size 130 5 (.slice (some ⟨g,0,none⟩) len len) len (ndcells (payP r size (P.take i))):=by have:=hrow;unfold NdRow at this;rw [Hpl.out] at this;exact this
  have hcs:(ndcells (payP r size (P.take i))).length=len*5:=by rw [ndcells_length,Hpl.out]
  have c3:wr.cell? ⟨g,k*5+3,none⟩=some (.int .i64 (ndAt r k).pz.level):=by
   rw [World.ownsRow.cellAt hrow' _ (by omega)]
   rw [(ndcells_get (payP r size (P.take i)) k (by rw [Hpl.out];exact hk2)).2.2.2.1,hs2]
  have f3:wr.frozen? ⟨g,k*5+3,none⟩=false:=World.ownsRow.frozenAt hrow' _
  have hgl:g<wr.heap.size:=(World.ownsRow.lt hrow g rfl).2
  have Nx:Hid (NdRow w.heap.size (wr.setCell ⟨g,k*5+3,none⟩ (.int .i64 ((ndAt r k).pz.level-size))) (.slice (some ⟨g,0,none⟩) len len) (payP r size (P.take (i+1)))∧IRow w4.heap.size (wr.setCell ⟨g,k*5+3,none⟩ (.int .i64 ((ndAt r k).pz.level-size))) (.slice (some ⟨b2,o2,none⟩) pn c2) P∧Bel w (wr.setCell ⟨g,k*5+3,none⟩ (.int .i64 ((ndAt r k).pz.level-size)))):=by
   refine ⟨?_,?_,HK.out.2.2.setCell Hg.out _⟩
   ·have h1:=(World.ownsRow.stored hrow' (k*5+3) (.int .i64 ((ndAt r k).pz.level-size))).1
    rw [← hs2,ndcells_level _ _ _ (by rw [Hpl.out];exact hk2),← hs1] at h1
    unfold NdRow
    rw [Hpl.out,← hs2]
    exact h1
   ·exact HK.out.2.1.carry fun j j1 _=>by
     have hI2:=I.out.2
     exact Below.heap_setCell _ _ _ _ (by show j≠g;omega)
  generalize (ndAt r k).pz.level=z at c3 Nx hz1 hz2
  have wz:IntKind.i64.wrap (z-size)=z-size:=by rw [IntKind.wrap_i64];omega
  have hkc:(k:Int)<(len:Int):=by omega
  clear HK hs1 hs2 hk1 hI hrow hcs hrow'
  go_wp2
  go_roundw
  case rel=>exact ⟨i+1,by omega,by go_num,Nx.out⟩
  case measure=>simp [intOf];omega
end Go.Proofs.YtgebghkcikmfaaaGreatDoor
