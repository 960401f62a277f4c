import Derived.Test.YtmfabeghfdoibaaGreatQT12GtFn
import Derived.Test.YtmfabeghfdoibaaGreatQT15Quiet
import Derived.BigQuiet
set_option maxHeartbeats 6400000
set_option maxRecDepth 100000
namespace Go.Proofs.YtmfabeghfdoibaaGreat
open Go.RowKit
theorem specRules (a0:Option Addr) (cap:Nat) (l:List Ru) (w:World) (hT:l.length≤1048576) (h:Hid (RusAt w a0 l)) :
 Calls Tryz.prog 82 #[.slice a0 l.length cap] w fun e w'=>e = .returned (.bool (rusOk l))∧Bel w w':=by
 have Hok:Hid (rusOk l=(decide (l.length≤40)&&goodRs l l.length)):=rfl
 obtain ⟨len,hlen⟩:∃ n,l.length=n:=⟨_,rfl⟩
 rw [hlen] at hT ⊢
 have Hlen:Hid (l.length=len):=hlen
 clear hlen
 by_cases h40:40<len
 ·have e:rusOk l=false:=by rw [Hok.out,Hlen.out];simp;omega
  rw [e]
  clear e Hok
  go_enter Tryz.func82,Tryz.ntmps82
  go_wp2
  go_ret
  exact ⟨rfl,Below.refl _ _⟩
 have e:Hid (rusOk l=goodRs l len):=by
  show rusOk l=goodRs l len
  rw [Hok.out,Hlen.out]
  simp;omega
 clear Hok
 go_enter Tryz.func82,Tryz.ntmps82
 go_wp2
 go_loopw [3] (fun i wr=>∃ k:Nat,k≤len∧i = .int .i64 k∧Hid (goodRs l k=true)∧Hid (Bel w wr)) (fun i _=>len-(intOf i).toNat)
 case atStart=>exact ⟨0,Nat.zero_le _,rfl,rfl,Below.refl _ _⟩
 case round =>
  obtain ⟨k,hk,rfl,hg,hb⟩:=hrel
  by_cases hlt:k<len
  ·have R:Hid (RusAt wr a0 l):=h.out.below hb.out
   obtain ⟨b1,o1,ha1,hb1,-⟩:=R.out k (by rw [Hlen.out];exact hlt)
   subst ha1
   have Hn:Hid _:=goodRs_succ l k
   have Hh:Hid _:=fun g=>goodRs_hit (l:=l) (k:=k) (n:=len) hlt g
   have Hgd:Hid (goodR l k=((ruAt l k).ok&&(decide (k=0)||decide ((ruAt l (k-1)).id<(ruAt l k).id)))):=rfl
   have hlt':(k:Int)<(len:Int):=by omega
   have C:=fun w=>(specRule (ruAt l k) w).mono fun e w' (q:e = .returned (.bool (ruAt l k).ok)∧w'=_)=>(⟨q.1,by rw [q.2];exact (Below.refl _ _).alloc nlr _⟩:e = .returned (.bool (ruAt l k).ok)∧Bel w w')
   haveI:Nonempty (BelW wr.heap.size wr):=⟨⟨wr,Below.refl _ _⟩⟩
   have f0:=fun p:BelW wr.heap.size wr=>((R.out.below p.h).cells (k:=k) (by rw [Hlen.out];omega)).1
   have f1:=fun p:BelW wr.heap.size wr=>((R.out.below p.h).cells (k:=k) (by rw [Hlen.out];omega)).2.1
   have f2:=fun p:BelW wr.heap.size wr=>((R.out.below p.h).cells (k:=k) (by rw [Hlen.out];omega)).2.2.1
   have f3:=fun p:BelW wr.heap.size wr=>((R.out.below p.h).cells (k:=k) (by rw [Hlen.out];omega)).2.2.2.1
   have f4:=fun p:BelW wr.heap.size wr=>((R.out.below p.h).cells (k:=k) (by rw [Hlen.out];omega)).2.2.2.2.1
   have f5:=fun p:BelW wr.heap.size wr=>((R.out.below p.h).cells (k:=k) (by rw [Hlen.out];omega)).2.2.2.2.2.1
   have f6:=fun p:BelW wr.heap.size wr=>((R.out.below p.h).cells (k:=k) (by rw [Hlen.out];omega)).2.2.2.2.2.2.1
   have f7:=fun p:BelW wr.heap.size wr=>((R.out.below p.h).cells (k:=k) (by rw [Hlen.out];omega)).2.2.2.2.2.2.2.1
   have f8:=fun p:BelW wr.heap.size wr=>((R.out.below p.h).cells (k:=k) (by rw [Hlen.out];omega)).2.2.2.2.2.2.2.2.1
   have f9:=fun p:BelW wr.heap.size wr=>((R.out.below p.h).cells (k:=k) (by rw [Hlen.out];omega)).2.2.2.2.2.2.2.2.2
   by_cases hk0:k=0
   ·cases hok:(ruAt l k).ok
    ·rw [hok] at C
     have hbad:Hid (goodRs l len=false):=Hh.out (by rw [Hgd.out,hok];rfl)
     clear hok Hn Hh Hgd
     unfold Ru.val at C
     generalize ruAt l k=r at C f0 f1 f2 f3 f4 f5 f6 f7 f8 f9
     have C':Hid _:=C
     clear C
     subst hk0
     simp only [Nat.zero_mul,Nat.add_zero] at f0 f1 f2 f3 f4 f5 f6 f7 f8 f9
     go_wp2
     refine rgb wr.heap.size (by kernel_rfl) (by kernel_rfl) ?_
     repeat (go_big_quiet_step ((go_at_call 149;refine qb (C'.out _))))
     refine wpQuiet_nil ?_
     intro wq hx
     have hq:=BelW.out hx
     have B:Hid (Bel w wq):=hb.out.trans (hq.mono hb.out.size)
     clear hx hq f0 f1 f2 f3 f4 f5 f6 f7 f8 f9
     go_wp2
     go_ret
     exact ⟨ret_bool (by rw [e.out,hbad.out]),B.out⟩
    ·rw [hok] at C
     have hgood:Hid (goodRs l (k+1)=true):=by
      show goodRs l (k+1)=true
      rw [Hn.out,hg.out,Hgd.out,hok];simp [hk0]
     clear hok Hn Hh Hgd
     unfold Ru.val at C
     generalize ruAt l k=r at C f0 f1 f2 f3 f4 f5 f6 f7 f8 f9
     have C':Hid _:=C
     clear C
     subst hk0
     simp only [Nat.zero_mul,Nat.add_zero] at f0 f1 f2 f3 f4 f5 f6 f7 f8 f9
     go_wp2
     refine rgb wr.heap.size (by kernel_rfl) (by kernel_rfl) ?_
     repeat (go_big_quiet_step ((go_at_call 149;refine qb (C'.out _))))
     refine wpQuiet_nil ?_
     intro wq hx
     have hq:=BelW.out hx
     have B:Hid (Bel w wq):=hb.out.trans (hq.mono hb.out.size)
     clear hx hq f0 f1 f2 f3 f4 f5 f6 f7 f8 f9
     go_wp2
     go_roundw
     case rel=>exact ⟨0+1,by omega,by go_num,hgood,B⟩
     case measure=>simp [intOf];omega
   ·obtain ⟨j,rfl⟩:∃ j,k=j+1:=⟨k-1,by omega⟩
    have g0:=fun p:BelW wr.heap.size wr=>((R.out.below p.h).cells (k:=j) (by rw [Hlen.out];omega)).1
    have hj0:(0:Int)<(j:Int)+1:=by omega
    have hjl:(j:Int)<(len:Int):=by omega
    simp only [Nat.add_sub_cancel] at Hgd
    cases hok:(ruAt l (j+1)).ok
    ·rw [hok] at C
     have hbad:Hid (goodRs l len=false):=Hh.out (by rw [Hgd.out,hok];rfl)
     clear hok Hn Hh Hgd
     unfold Ru.val at C
     generalize ruAt l (j+1)=r at C f0 f1 f2 f3 f4 f5 f6 f7 f8 f9
     generalize ruAt l j=r2 at g0
     have C':Hid _:=C
     clear C
     go_wp2
     refine rgb wr.heap.size (by kernel_rfl) (by kernel_rfl) ?_
     repeat (go_big_quiet_step ((go_at_call 149;refine qb (C'.out _))))
     refine wpQuiet_nil ?_
     intro wq hx
     have hq:=BelW.out hx
     have B:Hid (Bel w wq):=hb.out.trans (hq.mono hb.out.size)
     clear hx hq f0 f1 f2 f3 f4 f5 f6 f7 f8 f9 g0
     go_wp2
     go_ret
     exact ⟨ret_bool (by rw [e.out,hbad.out]),B.out⟩
    ·rw [hok] at C
     unfold Ru.val at C
     by_cases hL:(ruAt l j).id<(ruAt l (j+1)).id
     ·have hgood:Hid (goodRs l (j+1+1)=true):=by
       show goodRs l (j+1+1)=true
       rw [Hn.out,hg.out,Hgd.out,hok,decide_eq_true hL];simp
      clear hok Hn Hh Hgd
      generalize ruAt l (j+1)=r at C hL f0 f1 f2 f3 f4 f5 f6 f7 f8 f9
      generalize ruAt l j=r2 at g0 hL
      have hL2:¬ r.id≤r2.id:=by omega
      have C':Hid _:=C
      clear C
      go_wp2
      refine rgb wr.heap.size (by kernel_rfl) (by kernel_rfl) ?_
      repeat (go_big_quiet_step ((go_at_call 149;refine qb (C'.out _))))
      refine wpQuiet_nil ?_
      intro wq hx
      have hq:=BelW.out hx
      have B:Hid (Bel w wq):=hb.out.trans (hq.mono hb.out.size)
      clear hx hq f0 f1 f2 f3 f4 f5 f6 f7 f8 f9 g0
      go_wp2
      go_roundw
      case rel=>exact ⟨j+1+1,by omega,by go_num,hgood,B⟩
      case measure=>simp [intOf];omega
     ·have hbad:Hid (goodRs l len=false):=Hh.out (by rw [Hgd.out,hok,decide_eq_false hL];simp)
      clear hok Hn Hh Hgd
      generalize ruAt l (j+1)=r at C hL f0 f1 f2 f3 f4 f5 f6 f7 f8 f9
      generalize ruAt l j=r2 at g0 hL
      have hL2:r.id≤r2.id:=by omega
      have C':Hid _:=C
      clear C
      go_wp2
      refine rgb wr.heap.size (by kernel_rfl) (by kernel_rfl) ?_
      repeat (go_big_quiet_step ((go_at_call 149;refine qb (C'.out _))))
      refine wpQuiet_nil ?_
      intro wq hx
      have hq:=BelW.out hx
      have B:Hid (Bel w wq):=hb.out.trans (hq.mono hb.out.size)
      clear hx hq f0 f1 f2 f3 f4 f5 f6 f7 f8 f9 g0
      go_wp2
      go_ret
      exact ⟨ret_bool (by rw [e.out,hbad.out]),B.out⟩
  ·obtain rfl:k=len:=by omega
   go_wp2
   go_ret
   exact ⟨ret_bool (by rw [e.out,hg.out]),hb.out⟩
end Go.Proofs.YtmfabeghfdoibaaGreat
