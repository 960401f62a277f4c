import Derived.Test.YtgebghkcikmfaaaGreatDoorQP23GtFn
import Derived.Deep.CutRange
set_option maxHeartbeats 3200000
set_option maxRecDepth 100000
namespace Go.Proofs.YtgebghkcikmfaaaGreatDoor
open Go.RowKit
theorem specTm (t:Int) (w:World) :
 Calls Tryz.prog 210 #[.int .i64 t] w fun e w'=>e = .returned (.bool (inB 0 1099511627776 t))∧w'=w:=by
 go_enter Tryz.func210,Tryz.ntmps210
 go_wp2_with (go_at_call 72;refine (specIn _ _ _ _).mono ?_;rintro e w' ⟨rfl,rfl⟩)
 go_ret
 exact ⟨rfl,rfl⟩
theorem specPurseOk (p:Pz) (w:World) :
 Calls Tryz.prog 142 #[p.val] w fun e w'=>e = .returned (.bool p.ok)∧w'=w.alloc (.cells p.cells.toArray 128):=by
 have Hok:Hid (p.ok=(inB 0 1000 p.rate&&(inB 1 100000 p.burst&&(inB 0 p.burst p.level&&inB 0 1099511627776 p.tm)))):=rfl
 obtain ⟨v0,v1,v2,v3⟩:=p
 generalize Pz.ok _=ok at Hok ⊢
 simp only [Pz.val,Pz.cells] at Hok ⊢
 have A1:=fun w=>specIn v0 0 1000 w
 have A2:=fun w=>specIn v1 1 100000 w
 have A3:=fun w=>specIn v2 0 v1 w
 have A4:=fun w=>specTm v3 w
 generalize inB 0 1000 v0=b1 at A1 Hok
 generalize inB 1 100000 v1=b2 at A2 Hok
 generalize inB 0 v1 v2=b3 at A3 Hok
 generalize inB 0 1099511627776 v3=b4 at A4 Hok
 have A1':Hid _:=A1
 have A2':Hid _:=A2
 have A3':Hid _:=A3
 have A4':Hid _:=A4
 clear A1 A2 A3 A4
 go_enter Tryz.func142,Tryz.ntmps142
 go_wp2_with fail
 refine (A1'.out _).mono ?_
 rintro e w' ⟨rfl,rfl⟩
 cases b1
 ·go_wp2
  go_ret
  exact ⟨ret_bool (by rw [Hok.out];rfl),rfl⟩
 go_wp2_with fail
 refine (A2'.out _).mono ?_
 rintro e w' ⟨rfl,rfl⟩
 cases b2
 ·go_wp2
  go_ret
  exact ⟨ret_bool (by rw [Hok.out];rfl),rfl⟩
 go_wp2_with fail
 refine (A3'.out _).mono ?_
 rintro e w' ⟨rfl,rfl⟩
 cases b3
 ·go_wp2
  go_ret
  exact ⟨ret_bool (by rw [Hok.out];rfl),rfl⟩
 go_wp2_with fail
 refine (A4'.out _).mono ?_
 rintro e w' ⟨rfl,rfl⟩
 go_wp2
 go_ret
 exact ⟨ret_bool (by rw [Hok.out];rfl),rfl⟩
theorem specPurseOkB (p:Pz) (w:World) :
 Calls Tryz.prog 142 #[p.val] w fun e w'=>e = .returned (.bool p.ok)∧Bel w w' :=
 (specPurseOk p w).mono fun _ _ h=>⟨h.1,by rw [h.2];exact (Below.refl _ _).alloc nlr _⟩
theorem specTreeOk (a:Option Addr) (cap:Nat) (l:List Nd) (w:World) (hT:l.length≤1048576) (h:Hid (NdsAt w a l)) :
 Calls Tryz.prog 69 #[.slice a l.length cap] w fun e w'=>e = .returned (.bool (tok l))∧Below w.heap.size w w':=by
 obtain ⟨R,hR⟩:∃ R,tok l=R:=⟨_,rfl⟩
 have Yes:Hid (1≤l.length→l.length≤12→(∀ k,k<l.length→treeB l k=true)→R=true):=fun h1 h2 h3=>by rw [← hR];exact tok_iff.2 ⟨h1,h2,h3⟩
 have No:Hid (∀ k,k<l.length→treeB l k=false→R=false):=fun k hk hn=>by
  rw [← hR]
  cases hq:tok l with
  |false=>rfl
  |true=>rw [(tok_iff.1 hq).2.2 k hk] at hn;cases hn
 have No6:Hid ((l.length<1∨12<l.length)→R=false):=fun hn=>by
  rw [← hR]
  cases hq:tok l with
  |false=>rfl
  |true=>have:=(tok_iff.1 hq);omega
 rw [hR]
 clear hR
 obtain ⟨len,hlen⟩:∃ n,l.length=n:=⟨_,rfl⟩
 rw [hlen] at hT Yes No No6 ⊢
 have Hlen:Hid (l.length=len):=hlen
 clear hlen
 by_cases h60:len<1∨12<len
 ·have e:R=false:=No6.out h60
  subst e
  rcases h60 with h6|h6
  ·obtain rfl:len=0:=by omega
   go_enter Tryz.func69,Tryz.ntmps69
   go_wp2
   go_ret
   exact ⟨rfl,Below.refl _ _⟩
  ·have h61:¬ (len:Int)<1:=by omega
   have h62:(12:Int)<(len:Int):=by omega
   go_enter Tryz.func69,Tryz.ntmps69
   go_wp2
   go_ret
   exact ⟨rfl,Below.refl _ _⟩
 have h61:¬ (len:Int)<1:=by omega
 have h62:¬ (12:Int)<(len:Int):=by omega
 go_enter Tryz.func69,Tryz.ntmps69
 go_wp2
 clear h61 h62
 go_loopw [3,4] (fun s _ wr=>∃ k:Nat,k≤len∧s = .int .i64 k∧Hid ((∀ j,j<k→treeB l j=true)∧Below w.heap.size w wr)) (fun s _ _=>len-(intOf s).toNat)
 case atStart=>exact ⟨0,Nat.zero_le _,rfl,fun j hj=>by omega,Below.refl _ _⟩
 case round =>
  obtain ⟨k,hk,rfl,HK⟩:=hrel
  by_cases hlt:k<len
  case neg =>
   obtain rfl:k=len:=by omega
   have e:R=true:=Yes.out (by omega) (by omega) HK.out.1
   subst e
   go_wp2
   go_ret
   exact ⟨rfl,HK.out.2⟩
  have hlt':(k:Int)<(len:Int):=by omega
  have Lie:Hid (NdsAt wr a l):=h.out.below HK.out.2
  obtain ⟨b1,o1,ha1,hb1,-⟩:=Lie.out k (by rw [Hlen.out];exact hlt)
  subst ha1
  obtain ⟨c0,c1,c2,c3,c4⟩:=Lie.out.cells (k:=k) (by rw [Hlen.out];exact hlt)
  have e4:=(Lie.out.cells (k:=0) (by rw [Hlen.out];omega)).2.2.2.2
  have A1:=fun w=>specPurseOkB (ndAt l k).pz w
  have Gd:Hid (treeB l k=((ndAt l k).pz.ok&&(decide ((ndAt l k).pz.tm=(ndAt l 0).pz.tm)&&(if k=0 then decide ((ndAt l k).up = -1) else (decide (0≤(ndAt l k).up)&&decide ((ndAt l k).up<(k:Int))))))):=rfl
  have Nk:=No.out k hlt
  have Yk:Hid (treeB l k=true→∀ j,j<k+1→treeB l j=true):=fun hg j hj=>by
   by_cases e:j=k
   ·rw [e];exact hg
   ·exact HK.out.1 j (by omega)
  generalize treeB l k=good at Gd Nk Yk
  generalize (ndAt l 0).pz.tm=t0 at e4 Gd
  generalize (ndAt l k).pz.ok=ok at A1 Gd
  generalize ndAt l k=x at c0 c1 c2 c3 c4 A1 Gd
  obtain ⟨x0,x1,x2,x3,x4⟩:=x
  simp only [Pz.val] at c0 c1 c2 c3 c4 A1 Gd
  have A1':Hid _:=A1
  have HN:Hid (good=false→R=false):=Nk
  have Bw:Hid (Below w.heap.size w wr):=HK.out.2
  clear A1 Nk
  obtain ⟨g,hg⟩:∃ g,g=wr.heap.size:=⟨_,rfl⟩
  have N:Hid (Boxed (wr.alloc (.cells #[.int .i64 0,.int .i64 0,.int .i64 0,.int .i64 0,.int .i64 0] 130)) wr.heap.size #[.int .i64 0,.int .i64 0,.int .i64 0,.int .i64 0,.int .i64 0] 130):=Boxed.new _ _ _
  have X:Hid (Boxed ((wr.alloc (.cells #[.int .i64 0,.int .i64 0,.int .i64 0,.int .i64 0,.int .i64 0] 130)).setRow wr.heap.size #[.int .i64 x0,.int .i64 x1,.int .i64 x2,.int .i64 x3,.int .i64 x4]) wr.heap.size #[.int .i64 x0,.int .i64 x1,.int .i64 x2,.int .i64 x3,.int .i64 x4] 130∧Below wr.heap.size wr ((wr.alloc (.cells #[.int .i64 0,.int .i64 0,.int .i64 0,.int .i64 0,.int .i64 0] 130)).setRow wr.heap.size #[.int .i64 x0,.int .i64 x1,.int .i64 x2,.int .i64 x3,.int .i64 x4])):=⟨setRow_heap _ _ _ _ _ _ (Boxed.new _ _ _),below_setRow ((Below.refl _ _).alloc nlr _) nlr _⟩
  go_upto_region 7 with (refine wpList_store_row rfl 130 (.tmp _) (.tmp _) rfl wr.heap.size #[.int .i64 x0,.int .i64 x1,.int .i64 x2,.int .i64 x3,.int .i64 x4] rfl rfl _ _ N.out (by kernel_rfl) rfl (ndOnes _ _ _ _ _) ?_)
  clear c0 c1 c2 c3 c4 N
  simp only [Act.put]
  generalize (wr.alloc (.cells #[.int .i64 0,.int .i64 0,.int .i64 0,.int .i64 0,.int .i64 0] 130)).setRow wr.heap.size #[.int .i64 x0,.int .i64 x1,.int .i64 x2,.int .i64 x3,.int .i64 x4]=wx at X ⊢
  rw [← hg] at X ⊢
  have d0:∀ p:BelW wx.heap.size wx,p.w'.cell? ⟨g,0,none⟩=some (.int .i64 x0):=fun p=>(X.out.1.below X.out.1.under p.h).cell 0 rfl
  have d1:∀ p:BelW wx.heap.size wx,p.w'.cell? ⟨g,1,none⟩=some (.int .i64 x1):=fun p=>(X.out.1.below X.out.1.under p.h).cell 1 rfl
  have d2:∀ p:BelW wx.heap.size wx,p.w'.cell? ⟨g,2,none⟩=some (.int .i64 x2):=fun p=>(X.out.1.below X.out.1.under p.h).cell 2 rfl
  have d3:∀ p:BelW wx.heap.size wx,p.w'.cell? ⟨g,3,none⟩=some (.int .i64 x3):=fun p=>(X.out.1.below X.out.1.under p.h).cell 3 rfl
  have d4:∀ p:BelW wx.heap.size wx,p.w'.cell? ⟨g,4,none⟩=some (.int .i64 x4):=fun p=>(X.out.1.below X.out.1.under p.h).cell 4 rfl
  have hbl:Hid (b1<wr.heap.size):=hb1
  have f4:∀ p:BelW wx.heap.size wx,p.w'.cell? ⟨b1,o1+4,none⟩=some (.int .i64 t0):=fun p=>by
   have hX:Below wr.heap.size wr wx:=by rw [← hg];exact X.out.2
   rw [(hX.trans (p.h.mono hX.size)).cell (p:=⟨b1,o1+4,none⟩) hbl.out]
   simpa using e4
  have step:Hid (∀ w2,Below wx.heap.size wx w2→Below w.heap.size w w2):=fun w2 q=>by
   have hX:Below wr.heap.size wr wx:=by rw [← hg];exact X.out.2
   exact Bw.out.trans ((hX.trans (q.mono hX.size)).mono Bw.out.size)
  clear hg HK Lie e4 hb1 X Bw
  haveI:Nonempty (BelW wx.heap.size wx):=⟨⟨wx,Below.refl _ _⟩⟩
  cases ok
  ·skip
   have e:R=false:=HN.out (by rw [Gd.out];rfl)
   subst e
   clear Gd Yk HN
   refine rgb wx.heap.size (by kernel_rfl) (by kernel_rfl) ?_
   repeat (go_big_quiet_step ((go_at_call 142;with_reducible refine qb (A1'.out _))))
   refine wpQuiet_nil ?_
   intro w2 hx
   have B2:Hid (Below w.heap.size w w2):=step.out w2 (BelW.out hx)
   clear hx d0 d1 d2 d3 d4 f4
   go_wp2
   go_ret
   exact ⟨rfl,B2.out⟩
  by_cases ht:x4=t0
  case neg =>
   have ht':(x4 != t0)=true:=by simpa using ht
   have e:R=false:=HN.out (by rw [Gd.out];simp [ht])
   subst e
   clear Gd Yk HN
   refine rgb wx.heap.size (by kernel_rfl) (by kernel_rfl) ?_
   repeat (go_big_quiet_step ((go_at_call 142;with_reducible refine qb (A1'.out _))))
   refine wpQuiet_nil ?_
   intro w2 hx
   have B2:Hid (Below w.heap.size w w2):=step.out w2 (BelW.out hx)
   clear hx d0 d1 d2 d3 d4 f4
   go_wp2
   go_ret
   exact ⟨rfl,B2.out⟩
  subst ht
  by_cases hk0:k=0
  ·subst hk0
   by_cases hu:x0 = -1
   ·subst hu
    have G:Hid (∀ j,j<0+1→treeB l j=true):=Yk.out (by rw [Gd.out];simp)
    clear Gd Yk HN
    refine rgb wx.heap.size (by kernel_rfl) (by kernel_rfl) ?_
    repeat (go_big_quiet_step ((go_at_call 142;with_reducible refine qb (A1'.out _))))
    refine wpQuiet_nil ?_
    intro w2 hx
    have B2:Hid (Below w.heap.size w w2):=step.out w2 (BelW.out hx)
    clear hx d0 d1 d2 d3 d4 f4
    go_wp2
    go_roundw
    case rel=>exact ⟨0+1,by omega,by go_num,G.out,B2.out⟩
    case measure=>simp [intOf];omega
   ·have hu':(x0 != -1)=true:=by simpa using hu
    have e:R=false:=HN.out (by rw [Gd.out];simp [hu])
    subst e
    clear Gd Yk HN
    refine rgb wx.heap.size (by kernel_rfl) (by kernel_rfl) ?_
    repeat (go_big_quiet_step ((go_at_call 142;with_reducible refine qb (A1'.out _))))
    refine wpQuiet_nil ?_
    intro w2 hx
    have B2:Hid (Below w.heap.size w w2):=step.out w2 (BelW.out hx)
    clear hx d0 d1 d2 d3 d4 f4
    go_wp2
    go_ret
    exact ⟨rfl,B2.out⟩
  have hk1:(0:Int)<(k:Int):=by omega
  have hk5:0<k:=by omega
  have hk2:((k:Int)==0)=false:=by simpa using hk0
  by_cases hu:x0<0
  ·have hu':decide (x0<0)=true:=decide_eq_true hu
   have e:R=false:=HN.out (by rw [Gd.out];simp [hk0];omega)
   subst e
   clear Gd Yk HN
   refine rgb wx.heap.size (by kernel_rfl) (by kernel_rfl) ?_
   repeat (go_big_quiet_step ((go_at_call 142;with_reducible refine qb (A1'.out _))))
   refine wpQuiet_nil ?_
   intro w2 hx
   have B2:Hid (Below w.heap.size w w2):=step.out w2 (BelW.out hx)
   clear hx d0 d1 d2 d3 d4 f4
   go_wp2
   go_ret
   exact ⟨rfl,B2.out⟩
  have hu':decide (x0<0)=false:=decide_eq_false hu
  by_cases hv:(k:Int)≤x0
  ·have hv':decide ((k:Int)≤x0)=true:=decide_eq_true hv
   have e:R=false:=HN.out (by rw [Gd.out];simp [hk0];omega)
   subst e
   clear Gd Yk HN
   refine rgb wx.heap.size (by kernel_rfl) (by kernel_rfl) ?_
   repeat (go_big_quiet_step ((go_at_call 142;with_reducible refine qb (A1'.out _))))
   refine wpQuiet_nil ?_
   intro w2 hx
   have B2:Hid (Below w.heap.size w w2):=step.out w2 (BelW.out hx)
   clear hx d0 d1 d2 d3 d4 f4
   go_wp2
   go_ret
   exact ⟨rfl,B2.out⟩
  have hv':decide ((k:Int)≤x0)=false:=decide_eq_false hv
  have G:Hid (∀ j,j<k+1→treeB l j=true):=Yk.out (by rw [Gd.out];simp [hk0];omega)
  clear Gd Yk HN
  refine rgb wx.heap.size (by kernel_rfl) (by kernel_rfl) ?_
  repeat (go_big_quiet_step ((go_at_call 142;with_reducible refine qb (A1'.out _))))
  refine wpQuiet_nil ?_
  intro w2 hx
  have B2:Hid (Below w.heap.size w w2):=step.out w2 (BelW.out hx)
  clear hx d0 d1 d2 d3 d4 f4
  go_wp2
  go_roundw
  case rel=>exact ⟨k+1,by omega,by go_num,G.out,B2.out⟩
  case measure=>simp [intOf];omega
end Go.Proofs.YtgebghkcikmfaaaGreatDoor
