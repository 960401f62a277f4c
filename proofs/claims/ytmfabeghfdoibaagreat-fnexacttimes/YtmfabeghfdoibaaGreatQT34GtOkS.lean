import Derived.Handy
import Derived.Test.YtmfabeghfdoibaaGreatQT26RtRouteS
import Derived.Test.YtmfabeghfdoibaaGreatQT25RtLow
import Derived.Deep.CutRange
import Derived.Test.YtmfabeghfdoibaaGreatQT31GtZc
import Derived.Test.YtmfabeghfdoibaaGreatQT27RuOkS
import Derived.Test.YtmfabeghfdoibaaGreatQT33RwOkS
import Derived.Test.YtmfabeghfdoibaaGreatQT32FsSpec
import Derived.Test.YtmfabeghfdoibaaGreatQT24QuietSeq
set_option maxHeartbeats 12800000
set_option maxRecDepth 100000
namespace Go.Proofs.YtmfabeghfdoibaaGreat
open Go.RowKit
theorem specMax (a b:Int) (w:World) :
 Calls Tryz.prog 123 #[.int .i64 a,.int .i64 b] w fun e w'=>e = .returned (.int .i64 (if b<a then a else b))∧w'=w:=by
 by_cases h:b<a
 ·rw [if_pos h]
  go_enter Tryz.func123,Tryz.ntmps123
  go_wp2
  go_ret
  exact ⟨rfl,rfl⟩
 ·rw [if_neg h]
  go_enter Tryz.func123,Tryz.ntmps123
  go_wp2
  go_ret
  exact ⟨rfl,rfl⟩
theorem specLineOk (l:Ln) (w:World) :
 Calls Tryz.prog 80 #[l.val] w fun e w'=>e = .returned (.bool l.ok)∧w'=w.alloc (.cells l.cells.toArray 38):=by
 have Hok:Hid (l.ok=(inB 1 3 l.kind&&(inB 0 100 l.extra&&inB 0 2000 l.least))):=rfl
 obtain ⟨k,x,m⟩:=l
 generalize Ln.ok _=ok at Hok ⊢
 simp only [Ln.val,Ln.cells] at Hok ⊢
 have A1:=fun w=>specIn k 1 3 w
 have A2:=fun w=>specIn x 0 100 w
 have A3:=fun w=>specIn m 0 2000 w
 generalize inB 1 3 k=b1 at A1 Hok
 generalize inB 0 100 x=b2 at A2 Hok
 generalize inB 0 2000 m=b3 at A3 Hok
 have A1':Hid _:=A1
 have A2':Hid _:=A2
 have A3':Hid _:=A3
 clear A1 A2 A3
 go_enter Tryz.func80,Tryz.ntmps80
 go_wp2_with fail
 refine (A1'.out _).mono ?_
 rintro e w' ⟨rfl,rfl⟩
 cases b1
 ·go_wp2
  go_ret
  exact ⟨ret_bool (by rw [Hok.out];rfl),rfl⟩
 go_wp2_with fail
 refine (A2'.out _).mono ?_
 rintro e w' ⟨rfl,rfl⟩
 cases b2
 ·go_wp2
  go_ret
  exact ⟨ret_bool (by rw [Hok.out];rfl),rfl⟩
 go_wp2_with fail
 refine (A3'.out _).mono ?_
 rintro e w' ⟨rfl,rfl⟩
 go_wp2
 go_ret
 exact ⟨ret_bool (by rw [Hok.out];rfl),rfl⟩
theorem specTakes (l:Ln) (n:Int) (hok:l.ok=true) (n0:0≤n) (n1:n≤100000) (w:World) :
 Calls Tryz.prog 88 #[l.val,.int .i64 n] w fun e w'=>e = .returned (.int .i64 (l.takes n))∧w'=w.alloc (.cells l.cells.toArray 38):=by
 have C:=fun w=>specMax l.least (n+l.extra) w
 have hc0:=(carry_le hok n).1
 have hc1:=carry_most hok n1
 have Ht:Hid (l.takes n=takeK l.kind (l.carry n)):=rfl
 have Hk:Hid (∀ c,takeK l.kind c=if l.kind=2 then (c+47)/48*53 else if l.kind=3 then c+(c+63)/64 else c):=fun _=>rfl
 have ho:=Ln.ok_iff.1 hok
 obtain ⟨⟨k0,k1⟩,⟨x0,x1⟩,m0,m1⟩:=ho
 rw [show (if n+l.extra<l.least then l.least else n+l.extra)=l.carry n from rfl] at C
 generalize l.takes n=t at Ht ⊢
 generalize l.carry n=c at C hc0 hc1 Ht
 clear hok
 obtain ⟨k,x,m⟩:=l
 simp only [Ln.val,Ln.cells] at *
 have C':Hid _:=C
 clear C
 go_enter Tryz.func88,Tryz.ntmps88
 go_wp2_with fail
 refine (C'.out _).mono ?_
 rintro e w' ⟨rfl,rfl⟩
 by_cases h2:k=2
 ·subst h2
  go_wp2
  go_ret
  exact ⟨ret_num (by rw [Ht.out,Hk.out];rfl),rfl⟩
 by_cases h3:k=3
 ·subst h3
  go_wp2
  go_ret
  exact ⟨ret_num (by rw [Ht.out,Hk.out];rfl),rfl⟩
 go_wp2
 go_ret
 exact ⟨ret_num (by rw [Ht.out,Hk.out,if_neg h2,if_neg h3]),rfl⟩
theorem lt_false {a b:Rt} (h:a.lt b=false):b.net<a.net∨b.net=a.net∧b.bits≤a.bits:=by
 unfold Rt.lt at h
 rw [decide_eq_false_iff_not] at h
 omega
theorem lt_true {a b:Rt} (h:a.lt b=true):a.net<b.net∨a.net=b.net∧a.bits<b.bits:=by
 unfold Rt.lt at h
 rw [decide_eq_true_iff] at h
 exact h
theorem specOk (a0:Option Addr) (cap:Nat) (l:List Rt) (w:World) (hT:l.length≤1048576) (h:Hid (RtsAt w a0 l)) :
 Calls Tryz.prog 81 #[.slice a0 l.length cap] w fun e w'=>e = .returned (.bool (rtsOk l))∧Bel w w':=by
 have Hok:Hid (rtsOk l=(decide (l.length≤64)&&goodTo l l.length)):=rfl
 obtain ⟨len,hlen⟩:∃ n,l.length=n:=⟨_,rfl⟩
 rw [hlen] at hT ⊢
 have Hlen:Hid (l.length=len):=hlen
 clear hlen
 by_cases h64:64<len
 ·have e:rtsOk l=false:=by rw [Hok.out,Hlen.out];simp;omega
  rw [e]
  clear e Hok
  go_enter Tryz.func81,Tryz.ntmps81
  go_wp2
  go_ret
  exact ⟨rfl,Below.refl _ _⟩
 have e:Hid (rtsOk l=goodTo l len):=by
  show rtsOk l=goodTo l len
  rw [Hok.out,Hlen.out]
  simp;omega
 clear Hok
 go_enter Tryz.func81,Tryz.ntmps81
 go_wp2
 go_loopw [3] (fun i wr=>∃ k:Nat,k≤len∧i = .int .i64 k∧Hid (goodTo l k=true)∧Hid (Bel w wr)) (fun i _=>len-(intOf i).toNat)
 case atStart=>exact ⟨0,Nat.zero_le _,rfl,rfl,Below.refl _ _⟩
 case round =>
  obtain ⟨k,hk,rfl,hg,hb⟩:=hrel
  by_cases hlt:k<len
  ·have R:Hid (RtsAt wr a0 l):=h.out.below hb.out
   obtain ⟨b1,o1,ha1,hb1,-⟩:=R.out k (by rw [Hlen.out];exact hlt)
   subst ha1
   have hc:=cells_at R.out (k:=k) (by rw [Hlen.out];exact hlt)
   have hn:=goodTo_succ l k
   have hh:=fun g=>goodTo_hit (l:=l) (k:=k) (n:=len) hlt g
   have hgd:good l k=((rtAt l k).ok&&(decide (k=0)||(rtAt l (k-1)).lt (rtAt l k))):=rfl
   have hlt':(k:Int)<(len:Int):=by omega
   have C:=fun w=>specRoute (rtAt l k) w
   have Hn:Hid _:=hn
   have Hh:Hid _:=hh
   have Hgd:Hid _:=hgd
   clear hn hh hgd
   obtain ⟨hc0,hc1,hc2⟩:=hc
   have hcell:Hid (∀ W2:World,W2=(wr.alloc (.cells #[.int .i64 (rtAt l k).net,.int .i64 (rtAt l k).bits,.int .i64 (rtAt l k).hop] 148)).alloc (.cells #[.int .i64 (rtAt l k).net,.int .i64 (rtAt l k).bits,.int .i64 (rtAt l k).hop] 148)→Bel w W2∧RtsAt W2 (some ⟨b1,o1,none⟩) l∧wr.heap.size<W2.heap.size∧W2.cell? ⟨wr.heap.size,0,none⟩=some (.int .i64 (rtAt l k).net)∧W2.cell? ⟨wr.heap.size,1,none⟩=some (.int .i64 (rtAt l k).bits)):=by
    show ∀ W2:World,_→_
    rintro W2 rfl
    exact ⟨bel_alloc (hb.out.alloc hb.out.size _) nlr _,(R.out.alloc _).alloc _,by simp;omega,by simp,by simp⟩
   cases hok:(rtAt l k).ok
   ·rw [hok] at C
    have hbad:Hid (goodTo l len=false):=Hh.out (by rw [Hgd.out,hok];rfl)
    clear hok Hn Hh Hgd
    unfold Rt.val at C
    generalize rtAt l k=r at hc0 hc1 hc2 C hcell
    go_wp2_with (go_at_call 148;refine (C _).mono ?_;rintro e w' ⟨rfl,rfl⟩)
    go_ret
    exact ⟨ret_bool (by rw [e.out,hbad.out]),(hcell.out _ rfl).1⟩
   rw [hok] at C
   unfold Rt.val at C
   obtain ⟨W2,hW2⟩:∃ W2:World,W2=(wr.alloc (.cells #[.int .i64 (rtAt l k).net,.int .i64 (rtAt l k).bits,.int .i64 (rtAt l k).hop] 148)).alloc (.cells #[.int .i64 (rtAt l k).net,.int .i64 (rtAt l k).bits,.int .i64 (rtAt l k).hop] 148):=⟨_,rfl⟩
   obtain ⟨B2,R2,s2,x0,x1⟩:=hcell.out W2 hW2
   have HB2:Hid (Bel w W2):=B2
   have f0:=fun p:BelW W2.heap.size W2=>cell_of_below p.h (show (⟨wr.heap.size,0,none⟩:Addr).block<_ from s2) x0
   have f1:=fun p:BelW W2.heap.size W2=>cell_of_below p.h (show (⟨wr.heap.size,1,none⟩:Addr).block<_ from s2) x1
   have HR2:Hid (RtsAt W2 (some ⟨b1,o1,none⟩) l):=R2
   have HW2:Hid _:=hW2
   haveI:Nonempty (BelW W2.heap.size W2):=⟨⟨W2,Below.refl _ _⟩⟩
   clear hcell B2 R2 s2 x0 x1 hW2
   by_cases hk0:k=0
   ·have hgood:Hid (goodTo l (k+1)=true):=by
     show goodTo l (k+1)=true
     rw [Hn.out,hg.out,Hgd.out,hok];simp [hk0]
    clear hok Hn Hh Hgd
    generalize rtAt l k=r at hc0 hc1 hc2 C f0 f1 HW2
    subst hk0
    simp only [Nat.zero_mul,Nat.add_zero] at hc0 hc1 hc2
    go_wp2_with (go_at_call 148;refine (C _).mono ?_;rintro e w' ⟨rfl,rfl⟩)
    rw [← HW2.out]
    refine rgb W2.heap.size (by kernel_rfl) (by kernel_rfl) ?_
    repeat (go_big_quiet_step (fail))
    refine wpQuiet_nil ?_
    intro wq hx
    have hq:=BelW.out hx
    have B:Hid (Bel w wq):=HB2.out.trans (hq.mono HB2.out.size)
    clear hx hq f0 f1
    go_wp2
    go_roundw
    case rel=>exact ⟨0+1,by omega,by go_num,hgood,B⟩
    case measure=>simp [intOf];omega
   ·obtain ⟨j,rfl⟩:∃ j,k=j+1:=⟨k-1,by omega⟩
    have g0:=fun p:BelW W2.heap.size W2=>(cells_at (HR2.out.below p.h) (k:=j) (by rw [Hlen.out];omega)).1
    have g1:=fun p:BelW W2.heap.size W2=>(cells_at (HR2.out.below p.h) (k:=j) (by rw [Hlen.out];omega)).2.1
    have hj0:(0:Int)<(j:Int)+1:=by omega
    have hjl:(j:Int)<(len:Int):=by omega
    simp only [Nat.add_sub_cancel] at Hgd
    cases hL:(rtAt l j).lt (rtAt l (j+1))
    ·have hbad:Hid (goodTo l len=false):=Hh.out (by rw [Hgd.out,hok,hL];simp)
     have hz:=lt_false hL
     clear hok Hn Hh Hgd hL
     generalize rtAt l (j+1)=r at hc0 hc1 hc2 C f0 f1 HW2 hz
     generalize rtAt l j=r2 at g0 g1 hz
     by_cases hz1:r.net<r2.net
     ·go_wp2_with (go_at_call 148;refine (C _).mono ?_;rintro e w' ⟨rfl,rfl⟩)
      rw [← HW2.out]
      refine rgb W2.heap.size (by kernel_rfl) (by kernel_rfl) ?_
      repeat (go_big_quiet_step (fail))
      refine wpQuiet_nil ?_
      intro wq hx
      have hq:=BelW.out hx
      have B:Hid (Bel w wq):=HB2.out.trans (hq.mono HB2.out.size)
      clear hx hq f0 f1 g0 g1
      go_wp2
      go_ret
      exact ⟨ret_bool (by rw [e.out,hbad.out]),B.out⟩
     ·have hz2:r.net=r2.net:=by omega
      have hz3:r.bits≤r2.bits:=by omega
      clear hz
      obtain ⟨rn,rb,rh⟩:=r
      obtain ⟨qn,qb,qh⟩:=r2
      simp only [] at hz1 hz2 hz3 hc0 hc1 hc2 C f0 f1 g0 g1 HW2
      subst hz2
      have hz4:¬ rn<rn:=by omega
      go_wp2_with (go_at_call 148;refine (C _).mono ?_;rintro e w' ⟨rfl,rfl⟩)
      rw [← HW2.out]
      refine rgb W2.heap.size (by kernel_rfl) (by kernel_rfl) ?_
      repeat (go_big_quiet_step (fail))
      refine wpQuiet_nil ?_
      intro wq hx
      have hq:=BelW.out hx
      have B:Hid (Bel w wq):=HB2.out.trans (hq.mono HB2.out.size)
      clear hx hq f0 f1 g0 g1
      go_wp2
      go_ret
      exact ⟨ret_bool (by rw [e.out,hbad.out]),B.out⟩
    ·have hgood:Hid (goodTo l (j+1+1)=true):=by
      show goodTo l (j+1+1)=true
      rw [Hn.out,hg.out,Hgd.out,hok,hL];simp
     have hz:=lt_true hL
     clear hok Hn Hh Hgd hL
     generalize rtAt l (j+1)=r at hc0 hc1 hc2 C f0 f1 HW2 hz
     generalize rtAt l j=r2 at g0 g1 hz
     have hz0:¬ r.net<r2.net:=by omega
     by_cases hz2:r.net=r2.net
     ·have hz3:¬ r.bits≤r2.bits:=by omega
      clear hz
      obtain ⟨rn,rb,rh⟩:=r
      obtain ⟨qn,qb,qh⟩:=r2
      simp only [] at hz0 hz2 hz3 hc0 hc1 hc2 C f0 f1 g0 g1 HW2
      subst hz2
      go_wp2_with (go_at_call 148;refine (C _).mono ?_;rintro e w' ⟨rfl,rfl⟩)
      rw [← HW2.out]
      refine rgb W2.heap.size (by kernel_rfl) (by kernel_rfl) ?_
      repeat (go_big_quiet_step (fail))
      refine wpQuiet_nil ?_
      intro wq hx
      have hq:=BelW.out hx
      have B:Hid (Bel w wq):=HB2.out.trans (hq.mono HB2.out.size)
      clear hx hq f0 f1 g0 g1
      go_wp2
      go_roundw
      case rel=>exact ⟨j+1+1,by omega,by go_num,hgood,B⟩
      case measure=>simp [intOf];omega
     ·clear hz
      have hz3:(r.net==r2.net)=false:=by simp [hz2]
      have hz4:decide (r.net<r2.net)=false:=by simp;omega
      go_wp2_with (go_at_call 148;refine (C _).mono ?_;rintro e w' ⟨rfl,rfl⟩)
      rw [← HW2.out]
      refine rgb W2.heap.size (by kernel_rfl) (by kernel_rfl) ?_
      repeat (go_big_quiet_step (fail))
      refine wpQuiet_nil ?_
      intro wq hx
      have hq:=BelW.out hx
      have B:Hid (Bel w wq):=HB2.out.trans (hq.mono HB2.out.size)
      clear hx hq f0 f1 g0 g1
      go_wp2
      go_roundw
      case rel=>exact ⟨j+1+1,by omega,by go_num,hgood,B⟩
      case measure=>simp [intOf];omega
  ·obtain rfl:k=len:=by omega
   go_wp2
   go_ret
   exact ⟨ret_bool (by rw [e.out,hg.out]),hb.out⟩
theorem specTm (t:Int) (w:World) :
 Calls Tryz.prog 31 #[.int .i64 t] w fun e w'=>e = .returned (.bool (inB 0 1099511627776 t))∧w'=w:=by
 go_enter Tryz.func31,Tryz.ntmps31
 go_wp2_with (go_at_call 86;refine (specIn _ _ _ _).mono ?_;rintro e w' ⟨rfl,rfl⟩)
 go_ret
 exact ⟨rfl,rfl⟩
theorem specPurseOk (p:Pz) (w:World) :
 Calls Tryz.prog 150 #[p.val] w fun e w'=>e = .returned (.bool p.ok)∧w'=w.alloc (.cells p.cells.toArray 75):=by
 have Hok:Hid (p.ok=(inB 0 1000 p.rate&&(inB 1 100000 p.burst&&(inB 0 p.burst p.level&&inB 0 1099511627776 p.tm)))):=rfl
 obtain ⟨v0,v1,v2,v3⟩:=p
 generalize Pz.ok _=ok at Hok ⊢
 simp only [Pz.val,Pz.cells] at Hok ⊢
 have A1:=fun w=>specIn v0 0 1000 w
 have A2:=fun w=>specIn v1 1 100000 w
 have A3:=fun w=>specIn v2 0 v1 w
 have A4:=fun w=>specTm v3 w
 generalize inB 0 1000 v0=b1 at A1 Hok
 generalize inB 1 100000 v1=b2 at A2 Hok
 generalize inB 0 v1 v2=b3 at A3 Hok
 generalize inB 0 1099511627776 v3=b4 at A4 Hok
 have A1':Hid _:=A1
 have A2':Hid _:=A2
 have A3':Hid _:=A3
 have A4':Hid _:=A4
 clear A1 A2 A3 A4
 go_enter Tryz.func150,Tryz.ntmps150
 go_wp2_with fail
 refine (A1'.out _).mono ?_
 rintro e w' ⟨rfl,rfl⟩
 cases b1
 ·go_wp2
  go_ret
  exact ⟨ret_bool (by rw [Hok.out];rfl),rfl⟩
 go_wp2_with fail
 refine (A2'.out _).mono ?_
 rintro e w' ⟨rfl,rfl⟩
 cases b2
 ·go_wp2
  go_ret
  exact ⟨ret_bool (by rw [Hok.out];rfl),rfl⟩
 go_wp2_with fail
 refine (A3'.out _).mono ?_
 rintro e w' ⟨rfl,rfl⟩
 cases b3
 ·go_wp2
  go_ret
  exact ⟨ret_bool (by rw [Hok.out];rfl),rfl⟩
 go_wp2_with fail
 refine (A4'.out _).mono ?_
 rintro e w' ⟨rfl,rfl⟩
 go_wp2
 go_ret
 exact ⟨ret_bool (by rw [Hok.out];rfl),rfl⟩
theorem specPurseOkB (p:Pz) (w:World) :
 Calls Tryz.prog 150 #[p.val] w fun e w'=>e = .returned (.bool p.ok)∧Bel w w' :=
 (specPurseOk p w).mono fun _ _ h=>⟨h.1,by rw [h.2];exact (Below.refl _ _).alloc nlr _⟩
theorem specTreeOk (a:Option Addr) (cap:Nat) (l:List Nd) (w:World) (hT:l.length≤1048576) (h:Hid (NdsAt w a l)) :
 Calls Tryz.prog 83 #[.slice a l.length cap] w fun e w'=>e = .returned (.bool (tok l))∧Below w.heap.size w w':=by
 obtain ⟨R,hR⟩:∃ R,tok l=R:=⟨_,rfl⟩
 have Yes:Hid (1≤l.length→l.length≤12→(∀ k,k<l.length→treeB l k=true)→R=true):=fun h1 h2 h3=>by rw [← hR];exact tok_iff.2 ⟨h1,h2,h3⟩
 have No:Hid (∀ k,k<l.length→treeB l k=false→R=false):=fun k hk hn=>by
  rw [← hR]
  cases hq:tok l with
  |false=>rfl
  |true=>rw [(tok_iff.1 hq).2.2 k hk] at hn;cases hn
 have No6:Hid ((l.length<1∨12<l.length)→R=false):=fun hn=>by
  rw [← hR]
  cases hq:tok l with
  |false=>rfl
  |true=>have:=(tok_iff.1 hq);omega
 rw [hR]
 clear hR
 obtain ⟨len,hlen⟩:∃ n,l.length=n:=⟨_,rfl⟩
 rw [hlen] at hT Yes No No6 ⊢
 have Hlen:Hid (l.length=len):=hlen
 clear hlen
 by_cases h60:len<1∨12<len
 ·have e:R=false:=No6.out h60
  subst e
  rcases h60 with h6|h6
  ·obtain rfl:len=0:=by omega
   go_enter Tryz.func83,Tryz.ntmps83
   go_wp2
   go_ret
   exact ⟨rfl,Below.refl _ _⟩
  ·have h61:¬ (len:Int)<1:=by omega
   have h62:(12:Int)<(len:Int):=by omega
   go_enter Tryz.func83,Tryz.ntmps83
   go_wp2
   go_ret
   exact ⟨rfl,Below.refl _ _⟩
 have h61:¬ (len:Int)<1:=by omega
 have h62:¬ (12:Int)<(len:Int):=by omega
 go_enter Tryz.func83,Tryz.ntmps83
 go_wp2
 clear h61 h62
 go_loopw [3,4] (fun s _ wr=>∃ k:Nat,k≤len∧s = .int .i64 k∧Hid ((∀ j,j<k→treeB l j=true)∧Below w.heap.size w wr)) (fun s _ _=>len-(intOf s).toNat)
 case atStart=>exact ⟨0,Nat.zero_le _,rfl,fun j hj=>by omega,Below.refl _ _⟩
 case round =>
  obtain ⟨k,hk,rfl,HK⟩:=hrel
  by_cases hlt:k<len
  case neg =>
   obtain rfl:k=len:=by omega
   have e:R=true:=Yes.out (by omega) (by omega) HK.out.1
   subst e
   go_wp2
   go_ret
   exact ⟨rfl,HK.out.2⟩
  have hlt':(k:Int)<(len:Int):=by omega
  have Lie:Hid (NdsAt wr a l):=h.out.below HK.out.2
  obtain ⟨b1,o1,ha1,hb1,-⟩:=Lie.out k (by rw [Hlen.out];exact hlt)
  subst ha1
  obtain ⟨c0,c1,c2,c3,c4⟩:=Lie.out.cells (k:=k) (by rw [Hlen.out];exact hlt)
  have e4:=(Lie.out.cells (k:=0) (by rw [Hlen.out];omega)).2.2.2.2
  have A1:=fun w=>specPurseOkB (ndAt l k).pz w
  have Gd:Hid (treeB l k=((ndAt l k).pz.ok&&(decide ((ndAt l k).pz.tm=(ndAt l 0).pz.tm)&&(if k=0 then decide ((ndAt l k).up = -1) else (decide (0≤(ndAt l k).up)&&decide ((ndAt l k).up<(k:Int))))))):=rfl
  have Nk:=No.out k hlt
  have Yk:Hid (treeB l k=true→∀ j,j<k+1→treeB l j=true):=fun hg j hj=>by
   by_cases e:j=k
   ·rw [e];exact hg
   ·exact HK.out.1 j (by omega)
  generalize treeB l k=good at Gd Nk Yk
  generalize (ndAt l 0).pz.tm=t0 at e4 Gd
  generalize (ndAt l k).pz.ok=ok at A1 Gd
  generalize ndAt l k=x at c0 c1 c2 c3 c4 A1 Gd
  obtain ⟨x0,x1,x2,x3,x4⟩:=x
  simp only [Pz.val] at c0 c1 c2 c3 c4 A1 Gd
  have A1':Hid _:=A1
  have HN:Hid (good=false→R=false):=Nk
  have Bw:Hid (Below w.heap.size w wr):=HK.out.2
  clear A1 Nk
  obtain ⟨g,hg⟩:∃ g,g=wr.heap.size:=⟨_,rfl⟩
  have N:Hid (Boxed (wr.alloc (.cells #[.int .i64 0,.int .i64 0,.int .i64 0,.int .i64 0,.int .i64 0] 77)) wr.heap.size #[.int .i64 0,.int .i64 0,.int .i64 0,.int .i64 0,.int .i64 0] 77):=Boxed.new _ _ _
  have X:Hid (Boxed ((wr.alloc (.cells #[.int .i64 0,.int .i64 0,.int .i64 0,.int .i64 0,.int .i64 0] 77)).setRow wr.heap.size #[.int .i64 x0,.int .i64 x1,.int .i64 x2,.int .i64 x3,.int .i64 x4]) wr.heap.size #[.int .i64 x0,.int .i64 x1,.int .i64 x2,.int .i64 x3,.int .i64 x4] 77∧Below wr.heap.size wr ((wr.alloc (.cells #[.int .i64 0,.int .i64 0,.int .i64 0,.int .i64 0,.int .i64 0] 77)).setRow wr.heap.size #[.int .i64 x0,.int .i64 x1,.int .i64 x2,.int .i64 x3,.int .i64 x4])):=⟨setRow_heap _ _ _ _ _ _ (Boxed.new _ _ _),below_setRow ((Below.refl _ _).alloc nlr _) nlr _⟩
  go_upto_region 7 with (refine wpList_store_row rfl 77 (.tmp _) (.tmp _) rfl wr.heap.size #[.int .i64 x0,.int .i64 x1,.int .i64 x2,.int .i64 x3,.int .i64 x4] rfl rfl _ _ N.out (by kernel_rfl) rfl (ndOnes _ _ _ _ _) ?_)
  clear c0 c1 c2 c3 c4 N
  simp only [Act.put]
  generalize (wr.alloc (.cells #[.int .i64 0,.int .i64 0,.int .i64 0,.int .i64 0,.int .i64 0] 77)).setRow wr.heap.size #[.int .i64 x0,.int .i64 x1,.int .i64 x2,.int .i64 x3,.int .i64 x4]=wx at X ⊢
  rw [← hg] at X ⊢
  have d0:∀ p:BelW wx.heap.size wx,p.w'.cell? ⟨g,0,none⟩=some (.int .i64 x0):=fun p=>(X.out.1.below X.out.1.under p.h).cell 0 rfl
  have d1:∀ p:BelW wx.heap.size wx,p.w'.cell? ⟨g,1,none⟩=some (.int .i64 x1):=fun p=>(X.out.1.below X.out.1.under p.h).cell 1 rfl
  have d2:∀ p:BelW wx.heap.size wx,p.w'.cell? ⟨g,2,none⟩=some (.int .i64 x2):=fun p=>(X.out.1.below X.out.1.under p.h).cell 2 rfl
  have d3:∀ p:BelW wx.heap.size wx,p.w'.cell? ⟨g,3,none⟩=some (.int .i64 x3):=fun p=>(X.out.1.below X.out.1.under p.h).cell 3 rfl
  have d4:∀ p:BelW wx.heap.size wx,p.w'.cell? ⟨g,4,none⟩=some (.int .i64 x4):=fun p=>(X.out.1.below X.out.1.under p.h).cell 4 rfl
  have hbl:Hid (b1<wr.heap.size):=hb1
  have f4:∀ p:BelW wx.heap.size wx,p.w'.cell? ⟨b1,o1+4,none⟩=some (.int .i64 t0):=fun p=>by
   have hX:Below wr.heap.size wr wx:=by rw [← hg];exact X.out.2
   rw [(hX.trans (p.h.mono hX.size)).cell (p:=⟨b1,o1+4,none⟩) hbl.out]
   simpa using e4
  have step:Hid (∀ w2,Below wx.heap.size wx w2→Below w.heap.size w w2):=fun w2 q=>by
   have hX:Below wr.heap.size wr wx:=by rw [← hg];exact X.out.2
   exact Bw.out.trans ((hX.trans (q.mono hX.size)).mono Bw.out.size)
  clear hg HK Lie e4 hb1 X Bw
  haveI:Nonempty (BelW wx.heap.size wx):=⟨⟨wx,Below.refl _ _⟩⟩
  cases ok
  ·skip
   have e:R=false:=HN.out (by rw [Gd.out];rfl)
   subst e
   clear Gd Yk HN
   refine rgb wx.heap.size (by kernel_rfl) (by kernel_rfl) ?_
   repeat (go_big_quiet_step ((go_at_call 150;with_reducible refine qb (A1'.out _))))
   refine wpQuiet_nil ?_
   intro w2 hx
   have B2:Hid (Below w.heap.size w w2):=step.out w2 (BelW.out hx)
   clear hx d0 d1 d2 d3 d4 f4
   go_wp2
   go_ret
   exact ⟨rfl,B2.out⟩
  by_cases ht:x4=t0
  case neg =>
   have ht':(x4 != t0)=true:=by simpa using ht
   have e:R=false:=HN.out (by rw [Gd.out];simp [ht])
   subst e
   clear Gd Yk HN
   refine rgb wx.heap.size (by kernel_rfl) (by kernel_rfl) ?_
   repeat (go_big_quiet_step ((go_at_call 150;with_reducible refine qb (A1'.out _))))
   refine wpQuiet_nil ?_
   intro w2 hx
   have B2:Hid (Below w.heap.size w w2):=step.out w2 (BelW.out hx)
   clear hx d0 d1 d2 d3 d4 f4
   go_wp2
   go_ret
   exact ⟨rfl,B2.out⟩
  subst ht
  by_cases hk0:k=0
  ·subst hk0
   by_cases hu:x0 = -1
   ·subst hu
    have G:Hid (∀ j,j<0+1→treeB l j=true):=Yk.out (by rw [Gd.out];simp)
    clear Gd Yk HN
    refine rgb wx.heap.size (by kernel_rfl) (by kernel_rfl) ?_
    repeat (go_big_quiet_step ((go_at_call 150;with_reducible refine qb (A1'.out _))))
    refine wpQuiet_nil ?_
    intro w2 hx
    have B2:Hid (Below w.heap.size w w2):=step.out w2 (BelW.out hx)
    clear hx d0 d1 d2 d3 d4 f4
    go_wp2
    go_roundw
    case rel=>exact ⟨0+1,by omega,by go_num,G.out,B2.out⟩
    case measure=>simp [intOf];omega
   ·have hu':(x0 != -1)=true:=by simpa using hu
    have e:R=false:=HN.out (by rw [Gd.out];simp [hu])
    subst e
    clear Gd Yk HN
    refine rgb wx.heap.size (by kernel_rfl) (by kernel_rfl) ?_
    repeat (go_big_quiet_step ((go_at_call 150;with_reducible refine qb (A1'.out _))))
    refine wpQuiet_nil ?_
    intro w2 hx
    have B2:Hid (Below w.heap.size w w2):=step.out w2 (BelW.out hx)
    clear hx d0 d1 d2 d3 d4 f4
    go_wp2
    go_ret
    exact ⟨rfl,B2.out⟩
  have hk1:(0:Int)<(k:Int):=by omega
  have hk5:0<k:=by omega
  have hk2:((k:Int)==0)=false:=by simpa using hk0
  by_cases hu:x0<0
  ·have hu':decide (x0<0)=true:=decide_eq_true hu
   have e:R=false:=HN.out (by rw [Gd.out];simp [hk0];omega)
   subst e
   clear Gd Yk HN
   refine rgb wx.heap.size (by kernel_rfl) (by kernel_rfl) ?_
   repeat (go_big_quiet_step ((go_at_call 150;with_reducible refine qb (A1'.out _))))
   refine wpQuiet_nil ?_
   intro w2 hx
   have B2:Hid (Below w.heap.size w w2):=step.out w2 (BelW.out hx)
   clear hx d0 d1 d2 d3 d4 f4
   go_wp2
   go_ret
   exact ⟨rfl,B2.out⟩
  have hu':decide (x0<0)=false:=decide_eq_false hu
  by_cases hv:(k:Int)≤x0
  ·have hv':decide ((k:Int)≤x0)=true:=decide_eq_true hv
   have e:R=false:=HN.out (by rw [Gd.out];simp [hk0];omega)
   subst e
   clear Gd Yk HN
   refine rgb wx.heap.size (by kernel_rfl) (by kernel_rfl) ?_
   repeat (go_big_quiet_step ((go_at_call 150;with_reducible refine qb (A1'.out _))))
   refine wpQuiet_nil ?_
   intro w2 hx
   have B2:Hid (Below w.heap.size w w2):=step.out w2 (BelW.out hx)
   clear hx d0 d1 d2 d3 d4 f4
   go_wp2
   go_ret
   exact ⟨rfl,B2.out⟩
  have hv':decide ((k:Int)≤x0)=false:=decide_eq_false hv
  have G:Hid (∀ j,j<k+1→treeB l j=true):=Yk.out (by rw [Gd.out];simp [hk0];omega)
  clear Gd Yk HN
  refine rgb wx.heap.size (by kernel_rfl) (by kernel_rfl) ?_
  repeat (go_big_quiet_step ((go_at_call 150;with_reducible refine qb (A1'.out _))))
  refine wpQuiet_nil ?_
  intro w2 hx
  have B2:Hid (Below w.heap.size w w2):=step.out w2 (BelW.out hx)
  clear hx d0 d1 d2 d3 d4 f4
  go_wp2
  go_roundw
  case rel=>exact ⟨k+1,by omega,by go_num,G.out,B2.out⟩
  case measure=>simp [intOf];omega
theorem specSteerOk (p:Sr) (w:World) :
 Calls Tryz.prog 87 #[p.val] w fun e w'=>e = .returned (.bool p.ok)∧Bel w w':=by
 have Hok:Hid (p.ok=(inB 1 1000 p.target&&(inB 0 100000 p.old&&inB 0 1048576 p.prob))):=rfl
 obtain ⟨v0,v1,v2⟩:=p
 generalize Sr.ok _=ok at Hok ⊢
 simp only [Sr.val] at Hok ⊢
 have A1:=fun w=>specIn v0 1 1000 w
 have A2:=fun w=>specIn v1 0 100000 w
 have A3:=fun w=>specIn v2 0 1048576 w
 generalize inB 1 1000 v0=b1 at A1 Hok
 generalize inB 0 100000 v1=b2 at A2 Hok
 generalize inB 0 1048576 v2=b3 at A3 Hok
 have A1':Hid _:=A1
 have A2':Hid _:=A2
 have A3':Hid _:=A3
 clear A1 A2 A3
 go_enter Tryz.func87,Tryz.ntmps87
 go_wp2_with fail
 refine (A1'.out _).mono ?_
 rintro e w' ⟨rfl,rfl⟩
 cases b1
 ·go_wp2
  go_ret
  exact ⟨ret_bool (by rw [Hok.out];rfl),(Below.refl _ _).alloc nlr _⟩
 go_wp2_with fail
 refine (A2'.out _).mono ?_
 rintro e w' ⟨rfl,rfl⟩
 cases b2
 ·go_wp2
  go_ret
  exact ⟨ret_bool (by rw [Hok.out];rfl),(Below.refl _ _).alloc nlr _⟩
 go_wp2_with fail
 refine (A3'.out _).mono ?_
 rintro e w' ⟨rfl,rfl⟩
 go_wp2
 go_ret
 exact ⟨ret_bool (by rw [Hok.out];rfl),(Below.refl _ _).alloc nlr _⟩
theorem specGateOkZ (g:Gt) (x:Ga) (w:World) (hZ:g.routes.length≤1048576∧g.rules.length≤1048576∧g.tree.length≤1048576∧g.leaves.length≤1048576∧g.rows.big≤1048576∧g.steers.length≤1048576∧g.fair.big≤1048576) (hG:Hid (GtV w x g)) :
 Calls Tryz.prog 30 #[g.val x] w fun e w'=>e = .returned (.bool g.ok)∧Below w.heap.size w w':=by
 obtain ⟨z1,z2,z3,z4,z5,z6,z7⟩:=hZ
 obtain ⟨R,hR⟩:∃ R,g.ok=R:=⟨_,rfl⟩
 have No:Hid (g.head=false→R=false):=fun h=>by rw [← hR];unfold Gt.ok;rw [h];rfl
 have NoL:Hid (∀ i,i<g.leaves.length→g.leafB i=false→R=false):=fun i hi h=>by
  rw [← hR]
  cases hq:g.ok with
  |false=>rfl
  |true=>rw [(Gt.ok_iff.1 hq).2 i hi] at h;cases h
 have Yes:Hid (g.head=true→(∀ i,i<g.leaves.length→g.leafB i=true)→R=true):=fun h1 h2=>by rw [← hR];exact Gt.ok_iff.2 ⟨h1,h2⟩
 rw [hR]
 clear hR
 have Hd:Hid (g.head=(g.ln.ok&&(rtsOk g.routes&&(rusOk g.rules&&(tok g.tree&&(decide (1≤g.leaves.length)&&(decide (g.leaves.length≤8)&&(g.rows.ok&&(decide (g.rows.lists.length=g.leaves.length)&&(decide (g.steers.length=g.leaves.length)&&(g.fair.ok&&(decide (g.fair.flows.length=g.leaves.length)&&(inB 1 1000000 g.next&&inB 0 1048575 g.draw))))))))))))):=rfl
 have A1:Hid (∀ w,Calls Tryz.prog 80 #[g.ln.val] w fun e w'=>e = .returned (.bool g.ln.ok)∧Below w.heap.size w w'):=fun w=>(specLineOk g.ln w).mono fun e w' hh=>⟨hh.1,by rw [hh.2];exact (Below.refl _ _).alloc nlr _⟩
 have A2:Hid (∀ w,GtV w x g→Calls Tryz.prog 81 #[.slice x.a1 g.routes.length x.c1] w fun e w'=>e = .returned (.bool (rtsOk g.routes))∧Below w.heap.size w w'):=fun w h=>specOk x.a1 x.c1 g.routes w z1 (RtsV.spot' h.routes)
 have A3:Hid (∀ w,GtV w x g→Calls Tryz.prog 82 #[.slice x.a2 g.rules.length x.c2] w fun e w'=>e = .returned (.bool (rusOk g.rules))∧Below w.heap.size w w'):=fun w h=>specRules x.a2 x.c2 g.rules w z2 (RusV.spot' h.rules)
 have A4:Hid (∀ w,GtV w x g→Calls Tryz.prog 83 #[.slice x.a3 g.tree.length x.c3] w fun e w'=>e = .returned (.bool (tok g.tree))∧Below w.heap.size w w'):=fun w h=>specTreeOk x.a3 x.c3 g.tree w z3 (NdsV.spot' h.tree)
 have A5:Hid (∀ w,GtV w x g→Calls Tryz.prog 84 #[.agg #[.int .i64 g.rows.most,.slice x.a5 g.rows.lists.length x.c5]] w fun e w'=>e = .returned (.bool g.rows.ok)∧Below w.heap.size w w'):=fun w h=>specRowsOk g.rows x.a5 x.c5 w z5 h.rows.spot
 have A6:Hid (∀ w,GtV w x g→Calls Tryz.prog 85 #[.agg #[.int .i64 g.fair.now,.slice x.a7 g.fair.flows.length x.c7]] w fun e w'=>e = .returned (.bool g.fair.ok)∧Below w.heap.size w w'):=fun w h=>specFairOk g.fair _ w z7 h.fair
 have TK0:Hid (g.ln.ok=true→g.rows.ok=true→∀ i k,i<g.rows.lists.length→k<(izAt g.rows.lists i).length→∀ w,Calls Tryz.prog 88 #[g.ln.val,.int .i64 (itAt (izAt g.rows.lists i) k).size] w fun e w'=>e = .returned (.int .i64 (g.ln.takes (itAt (izAt g.rows.lists i) k).size))∧Below w.heap.size w w'):=fun h1 h2 i k hi hk w=>by
  have hit:=((Rw.ok_iff.1 h2).2.2).1 (itAt (izAt g.rows.lists i) k) (by
   unfold Rw.all
   rw [itAt_lt hk]
   exact List.mem_flatten.2 ⟨izAt g.rows.lists i,by unfold izAt;rw [List.getElem?_eq_getElem hi];exact List.getElem_mem hi,List.getElem_mem hk⟩)
  unfold It.ok at hit
  simp only [Bool.and_eq_true,inB_true] at hit
  exact (specTakes g.ln _ h1 (by omega) (by omega) w).mono fun e w' hh=>⟨hh.1,by rw [hh.2];exact (Below.refl _ _).alloc nlr _⟩
 have A7:Hid (∀ w,Calls Tryz.prog 86 #[.int .i64 g.next,.int .i64 1,.int .i64 1000000] w fun e w'=>e = .returned (.bool (inB 1 1000000 g.next))∧w'=w):=fun w=>specIn g.next 1 1000000 w
 have A8:Hid (∀ w,Calls Tryz.prog 86 #[.int .i64 g.draw,.int .i64 0,.int .i64 1048575] w fun e w'=>e = .returned (.bool (inB 0 1048575 g.draw))∧w'=w):=fun w=>specIn g.draw 0 1048575 w
 obtain ⟨n1,hn1⟩:∃ n,g.routes.length=n:=⟨_,rfl⟩
 obtain ⟨n2,hn2⟩:∃ n,g.rules.length=n:=⟨_,rfl⟩
 obtain ⟨n3,hn3⟩:∃ n,g.tree.length=n:=⟨_,rfl⟩
 obtain ⟨n,hn⟩:∃ n,g.leaves.length=n:=⟨_,rfl⟩
 obtain ⟨n5,hn5⟩:∃ n,g.rows.lists.length=n:=⟨_,rfl⟩
 obtain ⟨n6,hn6⟩:∃ n,g.steers.length=n:=⟨_,rfl⟩
 obtain ⟨n7,hn7⟩:∃ n,g.fair.flows.length=n:=⟨_,rfl⟩
 have hn8:n≤1048576:=by omega
 have hn58:n5≤1048576:=by have:=(Rw.small z5).1;omega
 have hn68:n6≤1048576:=by omega
 have hn78:n7≤1048576:=by have:=z7;unfold Fs.big at this;omega
 unfold Ln.val at A1 TK0
 have HV:Hid (g.val x = .agg (gc g.ln.kind g.ln.extra g.ln.least (.slice x.a1 n1 x.c1) (.slice x.a2 n2 x.c2) (.slice x.a3 n3 x.c3) (.slice x.a4 n x.c4) g.rows.most (.slice x.a5 n5 x.c5) (.slice x.a6 n6 x.c6) g.fair.now (.slice x.a7 n7 x.c7) g.next g.draw)):=by
  show Gt.val g x=_
  rw [← hn1,← hn2,← hn3,← hn,← hn5,← hn6,← hn7]
  rfl
 rw [HV.out]
 rw [hn1] at A2
 rw [hn2] at A3
 rw [hn3] at A4
 rw [hn5] at A5 TK0
 rw [hn7] at A6
 rw [hn,hn5,hn6,hn7] at Hd
 rw [hn] at NoL Yes
 have HN:Hid (g.routes.length=n1∧g.rules.length=n2∧g.tree.length=n3∧g.leaves.length=n∧g.rows.lists.length=n5∧g.steers.length=n6∧g.fair.flows.length=n7):=⟨hn1,hn2,hn3,hn,hn5,hn6,hn7⟩
 have HZ:Hid (g.rows.big≤1048576∧g.fair.big≤1048576):=⟨z5,z7⟩
 clear HV hn1 hn2 hn3 hn hn5 hn6 hn7 z1 z2 z3 z4 z5 z6 z7
 generalize g.ln.kind=kd at A1 TK0 ⊢
 generalize g.ln.extra=ex at A1 TK0 ⊢
 generalize g.ln.least=le at A1 TK0 ⊢
 generalize g.rows.most=mo at A5 ⊢
 generalize g.fair.now=nw at A6 ⊢
 obtain ⟨p4,hp4⟩:∃ p,x.a4=p:=⟨_,rfl⟩
 obtain ⟨p5,hp5⟩:∃ p,x.a5=p:=⟨_,rfl⟩
 obtain ⟨p6,hp6⟩:∃ p,x.a6=p:=⟨_,rfl⟩
 obtain ⟨p7,hp7⟩:∃ p,x.a7=p:=⟨_,rfl⟩
 rw [hp5] at A5
 rw [hp7] at A6
 rw [hp4,hp5,hp6,hp7]
 have Hp4:Hid (x.a4=p4):=hp4
 have Hp5:Hid (x.a5=p5):=hp5
 have Hp6:Hid (x.a6=p6):=hp6
 have Hp7:Hid (x.a7=p7):=hp7
 clear hp4 hp5 hp6 hp7
 obtain ⟨nx,hnx⟩:∃ n,g.next=n:=⟨_,rfl⟩
 obtain ⟨dr,hdr⟩:∃ n,g.draw=n:=⟨_,rfl⟩
 rw [hnx] at A7 Hd ⊢
 rw [hdr] at A8 Hd ⊢
 have Hnx:Hid (g.next=nx):=hnx
 clear hnx hdr
 obtain ⟨o1,ho1⟩:∃ b,g.ln.ok=b:=⟨_,rfl⟩
 rw [ho1] at A1 Hd
 obtain ⟨o2,ho2⟩:∃ b,rtsOk g.routes=b:=⟨_,rfl⟩
 rw [ho2] at A2 Hd
 obtain ⟨o3,ho3⟩:∃ b,rusOk g.rules=b:=⟨_,rfl⟩
 rw [ho3] at A3 Hd
 obtain ⟨o4,ho4⟩:∃ b,tok g.tree=b:=⟨_,rfl⟩
 rw [ho4] at A4 Hd
 obtain ⟨o5,ho5⟩:∃ b,g.rows.ok=b:=⟨_,rfl⟩
 rw [ho5] at A5 Hd
 obtain ⟨o6,ho6⟩:∃ b,g.fair.ok=b:=⟨_,rfl⟩
 rw [ho6] at A6 Hd
 obtain ⟨o7,ho7⟩:∃ b,inB 1 1000000 nx=b:=⟨_,rfl⟩
 rw [ho7] at A7 Hd
 obtain ⟨o8,ho8⟩:∃ b,inB 0 1048575 dr=b:=⟨_,rfl⟩
 rw [ho8] at A8 Hd
 have HO:Hid (g.ln.ok=o1∧tok g.tree=o4∧g.rows.ok=o5∧g.fair.ok=o6):=⟨ho1,ho4,ho5,ho6⟩
 clear ho1 ho2 ho3 ho4 ho5 ho6 ho7 ho8
 obtain ⟨hd,hhd⟩:∃ b,g.head=b:=⟨_,rfl⟩
 rw [hhd] at Hd No Yes
 clear hhd
 obtain ⟨A,hAq⟩:∃ A,A=w.heap.size:=⟨_,rfl⟩
 obtain ⟨W0,hW⟩:∃ W,W=w.alloc (.cells (gc kd ex le (.slice x.a1 n1 x.c1) (.slice x.a2 n2 x.c2) (.slice x.a3 n3 x.c3) (.slice p4 n x.c4) mo (.slice p5 n5 x.c5) (.slice p6 n6 x.c6) nw (.slice p7 n7 x.c7) nx dr) 50):=⟨_,rfl⟩
 have Z0:Hid (Boxed W0 A (gc kd ex le (.slice x.a1 n1 x.c1) (.slice x.a2 n2 x.c2) (.slice x.a3 n3 x.c3) (.slice p4 n x.c4) mo (.slice p5 n5 x.c5) (.slice p6 n6 x.c6) nw (.slice p7 n7 x.c7) nx dr) 50∧GtV W0 x g∧Below w.heap.size w W0):=by
  have bw:Below w.heap.size w W0:=by rw [hW];exact (Below.refl _ _).alloc nlr _
  exact ⟨by rw [hW,hAq];exact Boxed.new _ _ _,hG.out.below bw,bw⟩
 have HW:Hid (W0=_):=hW
 have HA:Hid (A=_):=hAq
 clear hW hAq hG
 have A7b:Hid (∀ w,Calls Tryz.prog 86 #[.int .i64 nx,.int .i64 1,.int .i64 1000000] w fun e w'=>e = .returned (.bool o7)∧Below w.heap.size w w'):=fun w=>(A7.out w).mono fun e w' hh=>⟨hh.1,by rw [hh.2];exact Below.refl _ _⟩
 have A8b:Hid (∀ w,Calls Tryz.prog 86 #[.int .i64 dr,.int .i64 0,.int .i64 1048575] w fun e w'=>e = .returned (.bool o8)∧Below w.heap.size w w'):=fun w=>(A8.out w).mono fun e w' hh=>⟨hh.1,by rw [hh.2];exact Below.refl _ _⟩
 clear A7 A8
 go_enter Tryz.func30,Tryz.ntmps30
 go_upto_region 1 with fail
 rw [← HW.out,← HA.out]
 clear HW HA
 have l6:W0.cell? ⟨A,6,none⟩=some (.slice p4 n x.c4):=Z0.out.1.cell 6 rfl
 go_upto_region 2 with fail
 clear l6
 have c0:∀ p:BelW W0.heap.size W0,p.w'.cell? ⟨A,0,none⟩=some (.int .i64 kd):=fun p=>(Z0.out.1.below Z0.out.1.under p.h).cell 0 rfl
 have c1:∀ p:BelW W0.heap.size W0,p.w'.cell? ⟨A,1,none⟩=some (.int .i64 ex):=fun p=>(Z0.out.1.below Z0.out.1.under p.h).cell 1 rfl
 have c2:∀ p:BelW W0.heap.size W0,p.w'.cell? ⟨A,2,none⟩=some (.int .i64 le):=fun p=>(Z0.out.1.below Z0.out.1.under p.h).cell 2 rfl
 have c3:∀ p:BelW W0.heap.size W0,p.w'.cell? ⟨A,3,none⟩=some (.slice x.a1 n1 x.c1):=fun p=>(Z0.out.1.below Z0.out.1.under p.h).cell 3 rfl
 have c4:∀ p:BelW W0.heap.size W0,p.w'.cell? ⟨A,4,none⟩=some (.slice x.a2 n2 x.c2):=fun p=>(Z0.out.1.below Z0.out.1.under p.h).cell 4 rfl
 have c5:∀ p:BelW W0.heap.size W0,p.w'.cell? ⟨A,5,none⟩=some (.slice x.a3 n3 x.c3):=fun p=>(Z0.out.1.below Z0.out.1.under p.h).cell 5 rfl
 have c6:∀ p:BelW W0.heap.size W0,p.w'.cell? ⟨A,6,none⟩=some (.slice p4 n x.c4):=fun p=>(Z0.out.1.below Z0.out.1.under p.h).cell 6 rfl
 have c7:∀ p:BelW W0.heap.size W0,p.w'.cell? ⟨A,7,none⟩=some (.int .i64 mo):=fun p=>(Z0.out.1.below Z0.out.1.under p.h).cell 7 rfl
 have c8:∀ p:BelW W0.heap.size W0,p.w'.cell? ⟨A,8,none⟩=some (.slice p5 n5 x.c5):=fun p=>(Z0.out.1.below Z0.out.1.under p.h).cell 8 rfl
 have c9:∀ p:BelW W0.heap.size W0,p.w'.cell? ⟨A,9,none⟩=some (.slice p6 n6 x.c6):=fun p=>(Z0.out.1.below Z0.out.1.under p.h).cell 9 rfl
 have c10:∀ p:BelW W0.heap.size W0,p.w'.cell? ⟨A,10,none⟩=some (.int .i64 nw):=fun p=>(Z0.out.1.below Z0.out.1.under p.h).cell 10 rfl
 have c11:∀ p:BelW W0.heap.size W0,p.w'.cell? ⟨A,11,none⟩=some (.slice p7 n7 x.c7):=fun p=>(Z0.out.1.below Z0.out.1.under p.h).cell 11 rfl
 have c12:∀ p:BelW W0.heap.size W0,p.w'.cell? ⟨A,12,none⟩=some (.int .i64 nx):=fun p=>(Z0.out.1.below Z0.out.1.under p.h).cell 12 rfl
 have c13:∀ p:BelW W0.heap.size W0,p.w'.cell? ⟨A,13,none⟩=some (.int .i64 dr):=fun p=>(Z0.out.1.below Z0.out.1.under p.h).cell 13 rfl
 have Kp:Hid (∀ p:BelW W0.heap.size W0,GtV p.w' x g):=fun p=>Z0.out.2.1.below p.h
 have Sp:Hid (∀ w2,Below W0.heap.size W0 w2→Boxed w2 A (gc kd ex le (.slice x.a1 n1 x.c1) (.slice x.a2 n2 x.c2) (.slice x.a3 n3 x.c3) (.slice p4 n x.c4) mo (.slice p5 n5 x.c5) (.slice p6 n6 x.c6) nw (.slice p7 n7 x.c7) nx dr) 50∧GtV w2 x g∧Below w.heap.size w w2):=fun w2 q=>⟨Z0.out.1.below Z0.out.1.under q,Z0.out.2.1.below q,Z0.out.2.2.trans (q.mono Z0.out.2.2.size)⟩
 clear Z0
 haveI:Nonempty (BelW W0.heap.size W0):=⟨⟨W0,Below.refl _ _⟩⟩
 cases o1
 ·skip
  have e:R=false:=No.out (by rw [Hd.out];rfl)
  subst e
  refine region_belowS W0.heap.size ?_
  simp only [List.append]
  repeat (go_big_quiet_step (first|(go_at_call 80;with_reducible refine qb (A1.out _))|(go_at_call 81;with_reducible refine qb (A2.out _ (Kp.out _)))|(go_at_call 82;with_reducible refine qb (A3.out _ (Kp.out _)))|(go_at_call 83;with_reducible refine qb (A4.out _ (Kp.out _)))|(go_at_call 84;with_reducible refine qb (A5.out _ (Kp.out _)))|(go_at_call 85;with_reducible refine qb (A6.out _ (Kp.out _)))|(go_at_call 86;with_reducible refine qb (A7b.out _))|(go_at_call 86;with_reducible refine qb (A8b.out _))))
  refine wpQuiet_nil ?_
  intro w2 hx
  have Z2:Hid (Boxed w2 A (gc kd ex le (.slice x.a1 n1 x.c1) (.slice x.a2 n2 x.c2) (.slice x.a3 n3 x.c3) (.slice p4 n x.c4) mo (.slice p5 n5 x.c5) (.slice p6 n6 x.c6) nw (.slice p7 n7 x.c7) nx dr) 50∧GtV w2 x g∧Below w.heap.size w w2):=Sp.out _ (BelW.out hx)
  clear hx Kp Sp c0 c1 c2 c3 c4 c5 c6 c7 c8 c9 c10 c11 c12 c13
  go_wp2
  go_ret
  exact ⟨rfl,Z2.out.2.2⟩
 cases o2
 ·skip
  have e:R=false:=No.out (by rw [Hd.out];rfl)
  subst e
  refine region_belowS W0.heap.size ?_
  simp only [List.append]
  repeat (go_big_quiet_step (first|(go_at_call 80;with_reducible refine qb (A1.out _))|(go_at_call 81;with_reducible refine qb (A2.out _ (Kp.out _)))|(go_at_call 82;with_reducible refine qb (A3.out _ (Kp.out _)))|(go_at_call 83;with_reducible refine qb (A4.out _ (Kp.out _)))|(go_at_call 84;with_reducible refine qb (A5.out _ (Kp.out _)))|(go_at_call 85;with_reducible refine qb (A6.out _ (Kp.out _)))|(go_at_call 86;with_reducible refine qb (A7b.out _))|(go_at_call 86;with_reducible refine qb (A8b.out _))))
  refine wpQuiet_nil ?_
  intro w2 hx
  have Z2:Hid (Boxed w2 A (gc kd ex le (.slice x.a1 n1 x.c1) (.slice x.a2 n2 x.c2) (.slice x.a3 n3 x.c3) (.slice p4 n x.c4) mo (.slice p5 n5 x.c5) (.slice p6 n6 x.c6) nw (.slice p7 n7 x.c7) nx dr) 50∧GtV w2 x g∧Below w.heap.size w w2):=Sp.out _ (BelW.out hx)
  clear hx Kp Sp c0 c1 c2 c3 c4 c5 c6 c7 c8 c9 c10 c11 c12 c13
  go_wp2
  go_ret
  exact ⟨rfl,Z2.out.2.2⟩
 cases o3
 ·skip
  have e:R=false:=No.out (by rw [Hd.out];rfl)
  subst e
  refine region_belowS W0.heap.size ?_
  simp only [List.append]
  repeat (go_big_quiet_step (first|(go_at_call 80;with_reducible refine qb (A1.out _))|(go_at_call 81;with_reducible refine qb (A2.out _ (Kp.out _)))|(go_at_call 82;with_reducible refine qb (A3.out _ (Kp.out _)))|(go_at_call 83;with_reducible refine qb (A4.out _ (Kp.out _)))|(go_at_call 84;with_reducible refine qb (A5.out _ (Kp.out _)))|(go_at_call 85;with_reducible refine qb (A6.out _ (Kp.out _)))|(go_at_call 86;with_reducible refine qb (A7b.out _))|(go_at_call 86;with_reducible refine qb (A8b.out _))))
  refine wpQuiet_nil ?_
  intro w2 hx
  have Z2:Hid (Boxed w2 A (gc kd ex le (.slice x.a1 n1 x.c1) (.slice x.a2 n2 x.c2) (.slice x.a3 n3 x.c3) (.slice p4 n x.c4) mo (.slice p5 n5 x.c5) (.slice p6 n6 x.c6) nw (.slice p7 n7 x.c7) nx dr) 50∧GtV w2 x g∧Below w.heap.size w w2):=Sp.out _ (BelW.out hx)
  clear hx Kp Sp c0 c1 c2 c3 c4 c5 c6 c7 c8 c9 c10 c11 c12 c13
  go_wp2
  go_ret
  exact ⟨rfl,Z2.out.2.2⟩
 cases o4
 ·skip
  have e:R=false:=No.out (by rw [Hd.out];rfl)
  subst e
  refine region_belowS W0.heap.size ?_
  simp only [List.append]
  repeat (go_big_quiet_step (first|(go_at_call 80;with_reducible refine qb (A1.out _))|(go_at_call 81;with_reducible refine qb (A2.out _ (Kp.out _)))|(go_at_call 82;with_reducible refine qb (A3.out _ (Kp.out _)))|(go_at_call 83;with_reducible refine qb (A4.out _ (Kp.out _)))|(go_at_call 84;with_reducible refine qb (A5.out _ (Kp.out _)))|(go_at_call 85;with_reducible refine qb (A6.out _ (Kp.out _)))|(go_at_call 86;with_reducible refine qb (A7b.out _))|(go_at_call 86;with_reducible refine qb (A8b.out _))))
  refine wpQuiet_nil ?_
  intro w2 hx
  have Z2:Hid (Boxed w2 A (gc kd ex le (.slice x.a1 n1 x.c1) (.slice x.a2 n2 x.c2) (.slice x.a3 n3 x.c3) (.slice p4 n x.c4) mo (.slice p5 n5 x.c5) (.slice p6 n6 x.c6) nw (.slice p7 n7 x.c7) nx dr) 50∧GtV w2 x g∧Below w.heap.size w w2):=Sp.out _ (BelW.out hx)
  clear hx Kp Sp c0 c1 c2 c3 c4 c5 c6 c7 c8 c9 c10 c11 c12 c13
  go_wp2
  go_ret
  exact ⟨rfl,Z2.out.2.2⟩
 by_cases u1:n<1
 ·have u1':decide ((n:Int)<1)=true:=decide_eq_true (by omega)
  have e:R=false:=No.out (by rw [Hd.out];simp;omega)
  subst e
  refine region_belowS W0.heap.size ?_
  simp only [List.append]
  repeat (go_big_quiet_step (first|(go_at_call 80;with_reducible refine qb (A1.out _))|(go_at_call 81;with_reducible refine qb (A2.out _ (Kp.out _)))|(go_at_call 82;with_reducible refine qb (A3.out _ (Kp.out _)))|(go_at_call 83;with_reducible refine qb (A4.out _ (Kp.out _)))|(go_at_call 84;with_reducible refine qb (A5.out _ (Kp.out _)))|(go_at_call 85;with_reducible refine qb (A6.out _ (Kp.out _)))|(go_at_call 86;with_reducible refine qb (A7b.out _))|(go_at_call 86;with_reducible refine qb (A8b.out _))))
  refine wpQuiet_nil ?_
  intro w2 hx
  have Z2:Hid (Boxed w2 A (gc kd ex le (.slice x.a1 n1 x.c1) (.slice x.a2 n2 x.c2) (.slice x.a3 n3 x.c3) (.slice p4 n x.c4) mo (.slice p5 n5 x.c5) (.slice p6 n6 x.c6) nw (.slice p7 n7 x.c7) nx dr) 50∧GtV w2 x g∧Below w.heap.size w w2):=Sp.out _ (BelW.out hx)
  clear hx Kp Sp c0 c1 c2 c3 c4 c5 c6 c7 c8 c9 c10 c11 c12 c13
  go_wp2
  go_ret
  exact ⟨rfl,Z2.out.2.2⟩
 have u1':decide ((n:Int)<1)=false:=decide_eq_false (by omega)
 by_cases u2:8<n
 ·have u2':decide ((8:Int)<(n:Int))=true:=decide_eq_true (by omega)
  have e:R=false:=No.out (by rw [Hd.out];simp;omega)
  subst e
  refine region_belowS W0.heap.size ?_
  simp only [List.append]
  repeat (go_big_quiet_step (first|(go_at_call 80;with_reducible refine qb (A1.out _))|(go_at_call 81;with_reducible refine qb (A2.out _ (Kp.out _)))|(go_at_call 82;with_reducible refine qb (A3.out _ (Kp.out _)))|(go_at_call 83;with_reducible refine qb (A4.out _ (Kp.out _)))|(go_at_call 84;with_reducible refine qb (A5.out _ (Kp.out _)))|(go_at_call 85;with_reducible refine qb (A6.out _ (Kp.out _)))|(go_at_call 86;with_reducible refine qb (A7b.out _))|(go_at_call 86;with_reducible refine qb (A8b.out _))))
  refine wpQuiet_nil ?_
  intro w2 hx
  have Z2:Hid (Boxed w2 A (gc kd ex le (.slice x.a1 n1 x.c1) (.slice x.a2 n2 x.c2) (.slice x.a3 n3 x.c3) (.slice p4 n x.c4) mo (.slice p5 n5 x.c5) (.slice p6 n6 x.c6) nw (.slice p7 n7 x.c7) nx dr) 50∧GtV w2 x g∧Below w.heap.size w w2):=Sp.out _ (BelW.out hx)
  clear hx Kp Sp c0 c1 c2 c3 c4 c5 c6 c7 c8 c9 c10 c11 c12 c13
  go_wp2
  go_ret
  exact ⟨rfl,Z2.out.2.2⟩
 have u2':decide ((8:Int)<(n:Int))=false:=decide_eq_false (by omega)
 cases o5
 ·skip
  have e:R=false:=No.out (by rw [Hd.out];simp)
  subst e
  refine region_belowS W0.heap.size ?_
  simp only [List.append]
  repeat (go_big_quiet_step (first|(go_at_call 80;with_reducible refine qb (A1.out _))|(go_at_call 81;with_reducible refine qb (A2.out _ (Kp.out _)))|(go_at_call 82;with_reducible refine qb (A3.out _ (Kp.out _)))|(go_at_call 83;with_reducible refine qb (A4.out _ (Kp.out _)))|(go_at_call 84;with_reducible refine qb (A5.out _ (Kp.out _)))|(go_at_call 85;with_reducible refine qb (A6.out _ (Kp.out _)))|(go_at_call 86;with_reducible refine qb (A7b.out _))|(go_at_call 86;with_reducible refine qb (A8b.out _))))
  refine wpQuiet_nil ?_
  intro w2 hx
  have Z2:Hid (Boxed w2 A (gc kd ex le (.slice x.a1 n1 x.c1) (.slice x.a2 n2 x.c2) (.slice x.a3 n3 x.c3) (.slice p4 n x.c4) mo (.slice p5 n5 x.c5) (.slice p6 n6 x.c6) nw (.slice p7 n7 x.c7) nx dr) 50∧GtV w2 x g∧Below w.heap.size w w2):=Sp.out _ (BelW.out hx)
  clear hx Kp Sp c0 c1 c2 c3 c4 c5 c6 c7 c8 c9 c10 c11 c12 c13
  go_wp2
  go_ret
  exact ⟨rfl,Z2.out.2.2⟩
 by_cases u3:n=n5
 case neg =>
  have u3':((n5:Int) != (n:Int))=true:=by simpa using (by omega:¬ (n5:Int)=(n:Int))
  have e:R=false:=No.out (by rw [Hd.out];simp;omega)
  subst e
  refine region_belowS W0.heap.size ?_
  simp only [List.append]
  repeat (go_big_quiet_step (first|(go_at_call 80;with_reducible refine qb (A1.out _))|(go_at_call 81;with_reducible refine qb (A2.out _ (Kp.out _)))|(go_at_call 82;with_reducible refine qb (A3.out _ (Kp.out _)))|(go_at_call 83;with_reducible refine qb (A4.out _ (Kp.out _)))|(go_at_call 84;with_reducible refine qb (A5.out _ (Kp.out _)))|(go_at_call 85;with_reducible refine qb (A6.out _ (Kp.out _)))|(go_at_call 86;with_reducible refine qb (A7b.out _))|(go_at_call 86;with_reducible refine qb (A8b.out _))))
  refine wpQuiet_nil ?_
  intro w2 hx
  have Z2:Hid (Boxed w2 A (gc kd ex le (.slice x.a1 n1 x.c1) (.slice x.a2 n2 x.c2) (.slice x.a3 n3 x.c3) (.slice p4 n x.c4) mo (.slice p5 n5 x.c5) (.slice p6 n6 x.c6) nw (.slice p7 n7 x.c7) nx dr) 50∧GtV w2 x g∧Below w.heap.size w w2):=Sp.out _ (BelW.out hx)
  clear hx Kp Sp c0 c1 c2 c3 c4 c5 c6 c7 c8 c9 c10 c11 c12 c13
  go_wp2
  go_ret
  exact ⟨rfl,Z2.out.2.2⟩
 subst u3
 by_cases u4:n=n6
 case neg =>
  have u4':((n6:Int) != (n:Int))=true:=by simpa using (by omega:¬ (n6:Int)=(n:Int))
  have e:R=false:=No.out (by rw [Hd.out];simp;omega)
  subst e
  refine region_belowS W0.heap.size ?_
  simp only [List.append]
  repeat (go_big_quiet_step (first|(go_at_call 80;with_reducible refine qb (A1.out _))|(go_at_call 81;with_reducible refine qb (A2.out _ (Kp.out _)))|(go_at_call 82;with_reducible refine qb (A3.out _ (Kp.out _)))|(go_at_call 83;with_reducible refine qb (A4.out _ (Kp.out _)))|(go_at_call 84;with_reducible refine qb (A5.out _ (Kp.out _)))|(go_at_call 85;with_reducible refine qb (A6.out _ (Kp.out _)))|(go_at_call 86;with_reducible refine qb (A7b.out _))|(go_at_call 86;with_reducible refine qb (A8b.out _))))
  refine wpQuiet_nil ?_
  intro w2 hx
  have Z2:Hid (Boxed w2 A (gc kd ex le (.slice x.a1 n1 x.c1) (.slice x.a2 n2 x.c2) (.slice x.a3 n3 x.c3) (.slice p4 n x.c4) mo (.slice p5 n x.c5) (.slice p6 n6 x.c6) nw (.slice p7 n7 x.c7) nx dr) 50∧GtV w2 x g∧Below w.heap.size w w2):=Sp.out _ (BelW.out hx)
  clear hx Kp Sp c0 c1 c2 c3 c4 c5 c6 c7 c8 c9 c10 c11 c12 c13
  go_wp2
  go_ret
  exact ⟨rfl,Z2.out.2.2⟩
 subst u4
 cases o6
 ·skip
  have e:R=false:=No.out (by rw [Hd.out];simp)
  subst e
  refine region_belowS W0.heap.size ?_
  simp only [List.append]
  repeat (go_big_quiet_step (first|(go_at_call 80;with_reducible refine qb (A1.out _))|(go_at_call 81;with_reducible refine qb (A2.out _ (Kp.out _)))|(go_at_call 82;with_reducible refine qb (A3.out _ (Kp.out _)))|(go_at_call 83;with_reducible refine qb (A4.out _ (Kp.out _)))|(go_at_call 84;with_reducible refine qb (A5.out _ (Kp.out _)))|(go_at_call 85;with_reducible refine qb (A6.out _ (Kp.out _)))|(go_at_call 86;with_reducible refine qb (A7b.out _))|(go_at_call 86;with_reducible refine qb (A8b.out _))))
  refine wpQuiet_nil ?_
  intro w2 hx
  have Z2:Hid (Boxed w2 A (gc kd ex le (.slice x.a1 n1 x.c1) (.slice x.a2 n2 x.c2) (.slice x.a3 n3 x.c3) (.slice p4 n x.c4) mo (.slice p5 n x.c5) (.slice p6 n x.c6) nw (.slice p7 n7 x.c7) nx dr) 50∧GtV w2 x g∧Below w.heap.size w w2):=Sp.out _ (BelW.out hx)
  clear hx Kp Sp c0 c1 c2 c3 c4 c5 c6 c7 c8 c9 c10 c11 c12 c13
  go_wp2
  go_ret
  exact ⟨rfl,Z2.out.2.2⟩
 by_cases u5:n=n7
 case neg =>
  have u5':((n7:Int) != (n:Int))=true:=by simpa using (by omega:¬ (n7:Int)=(n:Int))
  have e:R=false:=No.out (by rw [Hd.out];simp;omega)
  subst e
  refine region_belowS W0.heap.size ?_
  simp only [List.append]
  repeat (go_big_quiet_step (first|(go_at_call 80;with_reducible refine qb (A1.out _))|(go_at_call 81;with_reducible refine qb (A2.out _ (Kp.out _)))|(go_at_call 82;with_reducible refine qb (A3.out _ (Kp.out _)))|(go_at_call 83;with_reducible refine qb (A4.out _ (Kp.out _)))|(go_at_call 84;with_reducible refine qb (A5.out _ (Kp.out _)))|(go_at_call 85;with_reducible refine qb (A6.out _ (Kp.out _)))|(go_at_call 86;with_reducible refine qb (A7b.out _))|(go_at_call 86;with_reducible refine qb (A8b.out _))))
  refine wpQuiet_nil ?_
  intro w2 hx
  have Z2:Hid (Boxed w2 A (gc kd ex le (.slice x.a1 n1 x.c1) (.slice x.a2 n2 x.c2) (.slice x.a3 n3 x.c3) (.slice p4 n x.c4) mo (.slice p5 n x.c5) (.slice p6 n x.c6) nw (.slice p7 n7 x.c7) nx dr) 50∧GtV w2 x g∧Below w.heap.size w w2):=Sp.out _ (BelW.out hx)
  clear hx Kp Sp c0 c1 c2 c3 c4 c5 c6 c7 c8 c9 c10 c11 c12 c13
  go_wp2
  go_ret
  exact ⟨rfl,Z2.out.2.2⟩
 subst u5
 cases o7
 ·skip
  have e:R=false:=No.out (by rw [Hd.out];simp)
  subst e
  refine region_belowS W0.heap.size ?_
  simp only [List.append]
  repeat (go_big_quiet_step (first|(go_at_call 80;with_reducible refine qb (A1.out _))|(go_at_call 81;with_reducible refine qb (A2.out _ (Kp.out _)))|(go_at_call 82;with_reducible refine qb (A3.out _ (Kp.out _)))|(go_at_call 83;with_reducible refine qb (A4.out _ (Kp.out _)))|(go_at_call 84;with_reducible refine qb (A5.out _ (Kp.out _)))|(go_at_call 85;with_reducible refine qb (A6.out _ (Kp.out _)))|(go_at_call 86;with_reducible refine qb (A7b.out _))|(go_at_call 86;with_reducible refine qb (A8b.out _))))
  refine wpQuiet_nil ?_
  intro w2 hx
  have Z2:Hid (Boxed w2 A (gc kd ex le (.slice x.a1 n1 x.c1) (.slice x.a2 n2 x.c2) (.slice x.a3 n3 x.c3) (.slice p4 n x.c4) mo (.slice p5 n x.c5) (.slice p6 n x.c6) nw (.slice p7 n x.c7) nx dr) 50∧GtV w2 x g∧Below w.heap.size w w2):=Sp.out _ (BelW.out hx)
  clear hx Kp Sp c0 c1 c2 c3 c4 c5 c6 c7 c8 c9 c10 c11 c12 c13
  go_wp2
  go_ret
  exact ⟨rfl,Z2.out.2.2⟩
 cases o8
 ·skip
  have e:R=false:=No.out (by rw [Hd.out];simp)
  subst e
  refine region_belowS W0.heap.size ?_
  simp only [List.append]
  repeat (go_big_quiet_step (first|(go_at_call 80;with_reducible refine qb (A1.out _))|(go_at_call 81;with_reducible refine qb (A2.out _ (Kp.out _)))|(go_at_call 82;with_reducible refine qb (A3.out _ (Kp.out _)))|(go_at_call 83;with_reducible refine qb (A4.out _ (Kp.out _)))|(go_at_call 84;with_reducible refine qb (A5.out _ (Kp.out _)))|(go_at_call 85;with_reducible refine qb (A6.out _ (Kp.out _)))|(go_at_call 86;with_reducible refine qb (A7b.out _))|(go_at_call 86;with_reducible refine qb (A8b.out _))))
  refine wpQuiet_nil ?_
  intro w2 hx
  have Z2:Hid (Boxed w2 A (gc kd ex le (.slice x.a1 n1 x.c1) (.slice x.a2 n2 x.c2) (.slice x.a3 n3 x.c3) (.slice p4 n x.c4) mo (.slice p5 n x.c5) (.slice p6 n x.c6) nw (.slice p7 n x.c7) nx dr) 50∧GtV w2 x g∧Below w.heap.size w w2):=Sp.out _ (BelW.out hx)
  clear hx Kp Sp c0 c1 c2 c3 c4 c5 c6 c7 c8 c9 c10 c11 c12 c13
  go_wp2
  go_ret
  exact ⟨rfl,Z2.out.2.2⟩
 have hd1:hd=true:=by rw [Hd.out];simp;omega
 refine region_belowS W0.heap.size ?_
 simp only [List.append]
 repeat (go_big_quiet_step (first|(go_at_call 80;with_reducible refine qb (A1.out _))|(go_at_call 81;with_reducible refine qb (A2.out _ (Kp.out _)))|(go_at_call 82;with_reducible refine qb (A3.out _ (Kp.out _)))|(go_at_call 83;with_reducible refine qb (A4.out _ (Kp.out _)))|(go_at_call 84;with_reducible refine qb (A5.out _ (Kp.out _)))|(go_at_call 85;with_reducible refine qb (A6.out _ (Kp.out _)))|(go_at_call 86;with_reducible refine qb (A7b.out _))|(go_at_call 86;with_reducible refine qb (A8b.out _))))
 refine wpQuiet_nil ?_
 intro w2 hx
 have Z2:Hid (Boxed w2 A (gc kd ex le (.slice x.a1 n1 x.c1) (.slice x.a2 n2 x.c2) (.slice x.a3 n3 x.c3) (.slice p4 n x.c4) mo (.slice p5 n x.c5) (.slice p6 n x.c6) nw (.slice p7 n x.c7) nx dr) 50∧GtV w2 x g∧Below w.heap.size w w2):=Sp.out _ (BelW.out hx)
 clear hx Kp Sp c0 c1 c2 c3 c4 c5 c6 c7 c8 c9 c10 c11 c12 c13
 have YesL:Hid ((∀ i,i<n→g.leafB i=true)→R=true):=fun h=>Yes.out hd1 h
 obtain ⟨hb1,hb4,hb5,hb6⟩:=HO.out
 have TK:Hid (∀ i k,i<n→k<(izAt g.rows.lists i).length→∀ w,Calls Tryz.prog 88 #[.agg #[.int .i64 kd,.int .i64 ex,.int .i64 le],.int .i64 (itAt (izAt g.rows.lists i) k).size] w fun e w'=>e = .returned (.int .i64 (g.ln.takes (itAt (izAt g.rows.lists i) k).size))∧Below w.heap.size w w'):=TK0.out hb1 hb5
 have hT3:n3≤12:=by have h:=(tok_iff.1 hb4).2.1;have h2:=HN.out.2.2.1;omega
 have HM:Hid (∀ i,i<n→(izAt g.rows.lists i).length≤1048576∧(fwAt g.fair.flows i).sizes.length≤1048576):=fun i hi=>⟨(Rw.small HZ.out.1).2.2 i (by have:=HN.out.2.2.2.2.1;omega),(Fs.small HZ.out.2).2.2 i (by have:=HN.out.2.2.2.2.2.2;omega)⟩
 clear TK0 No Yes Hd hd1 hb1 hb4 hb5 hb6 HO HZ A1 A2 A3 A4 A5 A6 A7b A8b
 go_wp2
 go_loopw [4,5,6] (fun s _ _ wr=>∃ i:Nat,i≤n∧s = .int .i64 i∧Hid ((∀ j,j<i→g.leafB j=true)∧Boxed wr A (gc kd ex le (.slice x.a1 n1 x.c1) (.slice x.a2 n2 x.c2) (.slice x.a3 n3 x.c3) (.slice p4 n x.c4) mo (.slice p5 n x.c5) (.slice p6 n x.c6) nw (.slice p7 n x.c7) nx dr) 50∧GtV wr x g∧Below w.heap.size w wr)) (fun s _ _ _=>n-(intOf s).toNat)
 case atStart=>exact ⟨0,Nat.zero_le _,rfl,fun j hj=>by omega,Z2.out⟩
 case round =>
  obtain ⟨i,hi,rfl,HK⟩:=hrel
  clear Z2
  obtain ⟨wo,rfl⟩:∃ wo,wo=wr:=⟨_,rfl⟩
  by_cases hlt:i<n
  case neg =>
   obtain rfl:n=i:=by omega
   have e:R=true:=YesL.out HK.out.1
   subst e
   go_wp2
   go_ret
   exact ⟨rfl,HK.out.2.2.2⟩
  have hlt':(i:Int)<(n:Int):=by omega
  have V:=HK.out.2.2.1
  obtain ⟨b4,o4,e4,-,-⟩:=(IntsV.spot' V.leaves) i (by have:=HN.out.2.2.2.1;omega)
  obtain ⟨b5,o5,ik,iq,e5,hl5,c5,it5,-,-⟩:=V.rows.spot i (by have:=HN.out.2.2.2.2.1;omega)
  obtain ⟨b6,o6,e6,-,-⟩:=(SrsV.spot' V.steers) i (by have:=HN.out.2.2.2.2.2.1;omega)
  obtain ⟨b7,o7,ak,ck,e7,hl7,⟨-,-,c7⟩,in7,-,-⟩:=V.fair.spot i (by have:=HN.out.2.2.2.2.2.2;omega)
  obtain rfl:some ⟨b4,o4,none⟩=p4:=e4.symm.trans Hp4.out
  obtain rfl:some ⟨b5,o5,none⟩=p5:=e5.symm.trans Hp5.out
  obtain rfl:some ⟨b6,o6,none⟩=p6:=e6.symm.trans Hp6.out
  obtain rfl:some ⟨b7,o7,none⟩=p7:=e7.symm.trans Hp7.out
  have hAu:A<wo.heap.size:=HK.out.2.1.under
  have L4:Hid (∀ q:BelW wo.heap.size wo,IntsAt q.w' (some ⟨b4,o4,none⟩) g.leaves):=fun q=>by rw [← e4];exact IntsV.spot' (V.below q.h).leaves
  have L6:Hid (∀ q:BelW wo.heap.size wo,SrsAt q.w' (some ⟨b6,o6,none⟩) g.steers):=fun q=>by rw [← e6];exact SrsV.spot' (V.below q.h).steers
  have Ic:Hid (∀ (w:World) (b o:Nat) (l:List Int) (k:Nat),IntsAt w (some ⟨b,o,none⟩) l→k<l.length→w.cell? ⟨b,o+k,none⟩=some (.int .i64 (l[k]?.getD 0))):=fun w b o l k h hk=>by
   obtain ⟨b',o',e,_,c⟩:=h k hk
   cases e
   exact c
  have f4:∀ q:BelW wo.heap.size wo,q.w'.cell? ⟨b4,o4+i,none⟩=some (.int .i64 (g.leaves[i]?.getD 0)):=fun q=>Ic.out _ _ _ _ _ (L4.out q) (by have:=HN.out.2.2.2.1;omega)
  obtain ⟨j,hj⟩:∃ j,i-1=j:=⟨_,rfl⟩
  have f4':∀ q:BelW wo.heap.size wo,q.w'.cell? ⟨b4,o4+j,none⟩=some (.int .i64 (g.leaves[j]?.getD 0)):=fun q=>Ic.out _ _ _ _ _ (L4.out q) (by have:=HN.out.2.2.2.1;omega)
  have s0:∀ q:BelW wo.heap.size wo,q.w'.cell? ⟨b6,o6+i*3,none⟩=some (.int .i64 (srAt g.steers i).target):=fun q=>((L6.out q).cells (k:=i) (by have:=HN.out.2.2.2.2.2.1;omega)).1
  have s1:∀ q:BelW wo.heap.size wo,q.w'.cell? ⟨b6,o6+i*3+1,none⟩=some (.int .i64 (srAt g.steers i).old):=fun q=>((L6.out q).cells (k:=i) (by have:=HN.out.2.2.2.2.2.1;omega)).2.1
  have s2:∀ q:BelW wo.heap.size wo,q.w'.cell? ⟨b6,o6+i*3+2,none⟩=some (.int .i64 (srAt g.steers i).prob):=fun q=>((L6.out q).cells (k:=i) (by have:=HN.out.2.2.2.2.2.1;omega)).2.2
  have Cf:Hid (∀ w2,Below wo.heap.size wo w2→w2.cell? ⟨b7,o7+i*3+2,none⟩=some (.slice ak (fwAt g.fair.flows i).sizes.length ck)∧IntsAt w2 ak (fwAt g.fair.flows i).sizes∧ItsAt w2 ik (izAt g.rows.lists i)):=fun w2 q=>⟨by rw [q.cell (p:=⟨b7,o7+i*3+2,none⟩) hl7];exact c7,in7.below q,it5.below q⟩
  have f7:∀ q:BelW wo.heap.size wo,q.w'.cell? ⟨b7,o7+i*3+2,none⟩=some (.slice ak (fwAt g.fair.flows i).sizes.length ck):=fun q=>(Cf.out _ q.h).1
  have A9:=fun w=>specSteerOk (srAt g.steers i) w
  have Lf:Hid (g.leafB i=(decide (0≤g.leaves[i]?.getD 0)&&(decide (g.leaves[i]?.getD 0<(g.tree.length:Int))&&((decide (i=0)||decide (g.leaves[j]?.getD 0<g.leaves[i]?.getD 0))&&((srAt g.steers i).ok&&(decide ((fwAt g.fair.flows i).sizes.length=(izAt g.rows.lists i).length)&&(List.range (izAt g.rows.lists i).length).all (g.itemB i))))))):=by show g.leafB i=_;rw [← hj];rfl
  have Nk:=NoL.out i hlt
  have Yk:Hid (g.leafB i=true→∀ j,j<i+1→g.leafB j=true):=fun hg j hj=>by
   by_cases e:j=i
   ·rw [e];exact hg
   ·exact HK.out.1 j (by omega)
  have TKi:Hid _:=TK.out i
  have hm:=HM.out i hlt
  obtain ⟨m,hmm⟩:∃ m,(izAt g.rows.lists i).length=m:=⟨_,rfl⟩
  obtain ⟨mf,hmf⟩:∃ m,(fwAt g.fair.flows i).sizes.length=m:=⟨_,rfl⟩
  rw [hmm] at c5 Lf hm TKi
  rw [hmf] at f7 Lf hm Cf
  rw [HN.out.2.2.1] at Lf
  have Hmm:Hid ((izAt g.rows.lists i).length=m∧(fwAt g.fair.flows i).sizes.length=mf):=⟨hmm,hmf⟩
  generalize g.leaves[i]?.getD 0=lf at f4 Lf
  generalize g.leaves[j]?.getD 0=lp at f4' Lf
  generalize g.leafB i=good at Lf Nk Yk
  generalize (srAt g.steers i).ok=ok at A9 Lf
  generalize srAt g.steers i=sr at s0 s1 s2 A9
  obtain ⟨r0,r1,r2⟩:=sr
  simp only [Sr.val] at s0 s1 s2 A9
  have A9':Hid _:=A9
  have HNk:Hid (good=false→R=false):=Nk
  have St:Hid (∀ w2,Below wo.heap.size wo w2→Boxed w2 A (gc kd ex le (.slice x.a1 n1 x.c1) (.slice x.a2 n2 x.c2) (.slice x.a3 n3 x.c3) (.slice (some ⟨b4,o4,none⟩) n x.c4) mo (.slice (some ⟨b5,o5,none⟩) n x.c5) (.slice (some ⟨b6,o6,none⟩) n x.c6) nw (.slice (some ⟨b7,o7,none⟩) n x.c7) nx dr) 50∧GtV w2 x g∧Below w.heap.size w w2):=fun w2 q=>⟨HK.out.2.1.below HK.out.2.1.under q,V.below q,HK.out.2.2.2.trans (q.mono HK.out.2.2.2.size)⟩
  have c8:wo.cell? ⟨A,8,none⟩=some (.slice (some ⟨b5,o5,none⟩) n x.c5):=HK.out.2.1.cell 8 rfl
  have kw:i=0∨IntKind.i64.wrap ((i:Int)-1)=(j:Int):=by
   by_cases h:i=0
   ·exact .inl h
   ·right;rw [IntKind.wrap_i64];omega
  have Cb:=fun (q:BelW wo.heap.size wo)=>HK.out.2.1.below HK.out.2.1.under q.h
  have d3:∀ q:BelW wo.heap.size wo,q.w'.cell? ⟨A,5,none⟩=some (.slice x.a3 n3 x.c3):=fun q=>(Cb q).cell 5 rfl
  have d4:∀ q:BelW wo.heap.size wo,q.w'.cell? ⟨A,6,none⟩=some (.slice (some ⟨b4,o4,none⟩) n x.c4):=fun q=>(Cb q).cell 6 rfl
  have d6:∀ q:BelW wo.heap.size wo,q.w'.cell? ⟨A,9,none⟩=some (.slice (some ⟨b6,o6,none⟩) n x.c6):=fun q=>(Cb q).cell 9 rfl
  have d7:∀ q:BelW wo.heap.size wo,q.w'.cell? ⟨A,11,none⟩=some (.slice (some ⟨b7,o7,none⟩) n x.c7):=fun q=>(Cb q).cell 11 rfl
  have hjn:j<n:=by omega
  clear V hl5 hl7 c7 in7 it5 e4 e5 e6 e7 L4 L6 Ic A9 Nk hmm hmf hj hAu Cb HK TK NoL HM
  haveI:Nonempty (BelW wo.heap.size wo):=⟨⟨wo,Below.refl _ _⟩⟩
  go_upto_region 8 with fail
  clear c5 c8
  by_cases v1:lf<0
  ·have v1':decide (lf<0)=true:=decide_eq_true v1
   have e:R=false:=HNk.out (by rw [Lf.out];simp;omega)
   subst e
   refine rgb wo.heap.size (by kernel_rfl) (by kernel_rfl) ?_
   try simp only [List.append]
   repeat (go_big_quiet_step ((go_at_call 87;with_reducible refine qb (A9'.out _))))
   refine wpQuiet_nil ?_
   intro w2 hx
   have Z2:Hid (Boxed w2 A (gc kd ex le (.slice x.a1 n1 x.c1) (.slice x.a2 n2 x.c2) (.slice x.a3 n3 x.c3) (.slice (some ⟨b4,o4,none⟩) n x.c4) mo (.slice (some ⟨b5,o5,none⟩) n x.c5) (.slice (some ⟨b6,o6,none⟩) n x.c6) nw (.slice (some ⟨b7,o7,none⟩) n x.c7) nx dr) 50∧GtV w2 x g∧Below w.heap.size w w2):=St.out _ (BelW.out hx)
   have Z3:Hid _:=Cf.out _ (BelW.out hx)
   clear hx St Cf f4 f4' f7 s0 s1 s2 d3 d4 d6 d7
   go_wp2
   go_ret
   exact ⟨rfl,Z2.out.2.2⟩
  have v1':decide (lf<0)=false:=decide_eq_false v1
  by_cases v2:(n3:Int)≤lf
  ·have v2':decide ((n3:Int)≤lf)=true:=decide_eq_true v2
   have e:R=false:=HNk.out (by rw [Lf.out];simp;omega)
   subst e
   refine rgb wo.heap.size (by kernel_rfl) (by kernel_rfl) ?_
   try simp only [List.append]
   repeat (go_big_quiet_step ((go_at_call 87;with_reducible refine qb (A9'.out _))))
   refine wpQuiet_nil ?_
   intro w2 hx
   have Z2:Hid (Boxed w2 A (gc kd ex le (.slice x.a1 n1 x.c1) (.slice x.a2 n2 x.c2) (.slice x.a3 n3 x.c3) (.slice (some ⟨b4,o4,none⟩) n x.c4) mo (.slice (some ⟨b5,o5,none⟩) n x.c5) (.slice (some ⟨b6,o6,none⟩) n x.c6) nw (.slice (some ⟨b7,o7,none⟩) n x.c7) nx dr) 50∧GtV w2 x g∧Below w.heap.size w w2):=St.out _ (BelW.out hx)
   have Z3:Hid _:=Cf.out _ (BelW.out hx)
   clear hx St Cf f4 f4' f7 s0 s1 s2 d3 d4 d6 d7
   go_wp2
   go_ret
   exact ⟨rfl,Z2.out.2.2⟩
  have v2':decide ((n3:Int)≤lf)=false:=decide_eq_false v2
  by_cases hi0:i=0
  ·have hi1:decide ((0:Int)<(i:Int))=false:=decide_eq_false (by omega)
   have hi2:¬ 0<i:=by omega
   have Hi0:Hid (i=0):=hi0
   clear kw hi0
   cases ok
   ·skip
    have e:R=false:=HNk.out (by rw [Lf.out];simp)
    subst e
    refine rgb wo.heap.size (by kernel_rfl) (by kernel_rfl) ?_
    try simp only [List.append]
    repeat (go_big_quiet_step ((go_at_call 87;with_reducible refine qb (A9'.out _))))
    refine wpQuiet_nil ?_
    intro w2 hx
    have Z2:Hid (Boxed w2 A (gc kd ex le (.slice x.a1 n1 x.c1) (.slice x.a2 n2 x.c2) (.slice x.a3 n3 x.c3) (.slice (some ⟨b4,o4,none⟩) n x.c4) mo (.slice (some ⟨b5,o5,none⟩) n x.c5) (.slice (some ⟨b6,o6,none⟩) n x.c6) nw (.slice (some ⟨b7,o7,none⟩) n x.c7) nx dr) 50∧GtV w2 x g∧Below w.heap.size w w2):=St.out _ (BelW.out hx)
    have Z3:Hid _:=Cf.out _ (BelW.out hx)
    clear hx St Cf f4 f4' f7 s0 s1 s2 d3 d4 d6 d7
    go_wp2
    go_ret
    exact ⟨rfl,Z2.out.2.2⟩
   by_cases v4:m=mf
   case neg =>
    have v4':((mf:Int) != (m:Int))=true:=by simpa using (by omega:¬ (mf:Int)=(m:Int))
    have e:R=false:=HNk.out (by rw [Lf.out];simp;omega)
    subst e
    refine rgb wo.heap.size (by kernel_rfl) (by kernel_rfl) ?_
    try simp only [List.append]
    repeat (go_big_quiet_step ((go_at_call 87;with_reducible refine qb (A9'.out _))))
    refine wpQuiet_nil ?_
    intro w2 hx
    have Z2:Hid (Boxed w2 A (gc kd ex le (.slice x.a1 n1 x.c1) (.slice x.a2 n2 x.c2) (.slice x.a3 n3 x.c3) (.slice (some ⟨b4,o4,none⟩) n x.c4) mo (.slice (some ⟨b5,o5,none⟩) n x.c5) (.slice (some ⟨b6,o6,none⟩) n x.c6) nw (.slice (some ⟨b7,o7,none⟩) n x.c7) nx dr) 50∧GtV w2 x g∧Below w.heap.size w w2):=St.out _ (BelW.out hx)
    have Z3:Hid _:=Cf.out _ (BelW.out hx)
    clear hx St Cf f4 f4' f7 s0 s1 s2 d3 d4 d6 d7
    go_wp2
    go_ret
    exact ⟨rfl,Z2.out.2.2⟩
   subst v4
   refine rgb wo.heap.size (by kernel_rfl) (by kernel_rfl) ?_
   try simp only [List.append]
   repeat (go_big_quiet_step ((go_at_call 87;with_reducible refine qb (A9'.out _))))
   refine wpQuiet_nil ?_
   intro w2 hx
   have Z2:Hid (Boxed w2 A (gc kd ex le (.slice x.a1 n1 x.c1) (.slice x.a2 n2 x.c2) (.slice x.a3 n3 x.c3) (.slice (some ⟨b4,o4,none⟩) n x.c4) mo (.slice (some ⟨b5,o5,none⟩) n x.c5) (.slice (some ⟨b6,o6,none⟩) n x.c6) nw (.slice (some ⟨b7,o7,none⟩) n x.c7) nx dr) 50∧GtV w2 x g∧Below w.heap.size w w2):=St.out _ (BelW.out hx)
   have Z3:Hid _:=Cf.out _ (BelW.out hx)
   clear hx St Cf f4 f4' f7 s0 s1 s2 d3 d4 d6 d7
   have b1:decide (0≤lf)=true:=decide_eq_true (by omega)
   have b2:decide (lf<(n3:Int))=true:=decide_eq_true (by omega)
   have b3:(decide (i=0)||decide (lp<lf))=true:=by rw [decide_eq_true Hi0.out];rfl
   have LfA:Hid (good=(List.range m).all (g.itemB i)):=by show good=_;rw [Lf.out,b1,b2,b3];simp
   clear b1 b2 b3
   have Yi:Hid ((∀ k,k<m→g.itemB i k=true)→∀ j,j<i+1→g.leafB j=true):=fun h=>Yk.out (by rw [LfA.out,List.all_eq_true];intro k hk;exact h k (List.mem_range.1 hk))
   have Ni:Hid (∀ k,k<m→g.itemB i k=false→R=false):=fun k hk h=>HNk.out (by rw [LfA.out,List.all_eq_false];exact ⟨k,List.mem_range.2 hk,by rw [h];decide⟩)
   clear Lf LfA Yk HNk
   go_wp2
   go_loopw [6] (fun s wr=>∃ k:Nat,k≤m∧s = .int .i64 k∧Hid ((∀ j,j<k→g.itemB i j=true)∧(Boxed wr A (gc kd ex le (.slice x.a1 n1 x.c1) (.slice x.a2 n2 x.c2) (.slice x.a3 n3 x.c3) (.slice (some ⟨b4,o4,none⟩) n x.c4) mo (.slice (some ⟨b5,o5,none⟩) n x.c5) (.slice (some ⟨b6,o6,none⟩) n x.c6) nw (.slice (some ⟨b7,o7,none⟩) n x.c7) nx dr) 50∧GtV wr x g∧Below w.heap.size w wr)∧wr.cell? ⟨b7,o7+i*3+2,none⟩=some (.slice ak m ck)∧IntsAt wr ak (fwAt g.fair.flows i).sizes∧ItsAt wr ik (izAt g.rows.lists i)∧b7<wr.heap.size)) (fun s _=>m-(intOf s).toNat)
   case atStart=>exact ⟨0,Nat.zero_le _,rfl,fun j hj=>by omega,Z2.out,Z3.out.1,Z3.out.2.1,Z3.out.2.2,World.block_lt_of_cell? _ _ Z3.out.1⟩
   case round =>
    obtain ⟨k,hk,rfl,HK⟩:=hrel
    clear Z2 Z3
    obtain ⟨wi,rfl⟩:∃ wi,wi=wr:=⟨_,rfl⟩
    by_cases hkm:k<m
    case neg =>
     obtain rfl:m=k:=by omega
     have G:Hid _:=Yi.out HK.out.1
     have Zf:Hid (Boxed wi A (gc kd ex le (.slice x.a1 n1 x.c1) (.slice x.a2 n2 x.c2) (.slice x.a3 n3 x.c3) (.slice (some ⟨b4,o4,none⟩) n x.c4) mo (.slice (some ⟨b5,o5,none⟩) n x.c5) (.slice (some ⟨b6,o6,none⟩) n x.c6) nw (.slice (some ⟨b7,o7,none⟩) n x.c7) nx dr) 50∧GtV wi x g∧Below w.heap.size w wi):=HK.out.2.1
     clear HK
     go_wp2
     go_roundw
     case rel=>exact ⟨i+1,by omega,by go_num,G.out,Zf.out⟩
     case measure=>simp [intOf]<;>omega
    have hkm':(k:Int)<(m:Int):=by omega
    obtain ⟨bi,oi,ei,-,-⟩:=HK.out.2.2.2.2.1 k (by rw [Hmm.out.1];exact hkm)
    obtain ⟨bz,oz,ez,-,-⟩:=HK.out.2.2.2.1 k (by rw [Hmm.out.2];exact hkm)
    subst ei
    subst ez
    have it0:∀ q:BelW wi.heap.size wi,q.w'.cell? ⟨bi,oi+k*3,none⟩=some (.int .i64 (itAt (izAt g.rows.lists i) k).id):=fun q=>((HK.out.2.2.2.2.1.below q.h).cells (k:=k) (by rw [Hmm.out.1];exact hkm)).1
    have it1:∀ q:BelW wi.heap.size wi,q.w'.cell? ⟨bi,oi+k*3+1,none⟩=some (.int .i64 (itAt (izAt g.rows.lists i) k).size):=fun q=>((HK.out.2.2.2.2.1.below q.h).cells (k:=k) (by rw [Hmm.out.1];exact hkm)).2.1
    have fz:∀ q:BelW wi.heap.size wi,q.w'.cell? ⟨bz,oz+k,none⟩=some (.int .i64 ((fwAt g.fair.flows i).sizes[k]?.getD 0)):=fun q=>by
     obtain ⟨b',o',e,_,c⟩:=(HK.out.2.2.2.1.below q.h) k (by rw [Hmm.out.2];exact hkm)
     cases e
     exact c
    have f7:∀ q:BelW wi.heap.size wi,q.w'.cell? ⟨b7,o7+i*3+2,none⟩=some (.slice (some ⟨bz,oz,none⟩) m ck):=fun q=>by rw [q.h.cell (p:=⟨b7,o7+i*3+2,none⟩) HK.out.2.2.2.2.2];exact HK.out.2.2.1
    have Cb:=fun (q:BelW wi.heap.size wi)=>HK.out.2.1.1.below HK.out.2.1.1.under q.h
    have d0:∀ q:BelW wi.heap.size wi,q.w'.cell? ⟨A,0,none⟩=some (.int .i64 kd):=fun q=>(Cb q).cell 0 rfl
    have d1:∀ q:BelW wi.heap.size wi,q.w'.cell? ⟨A,1,none⟩=some (.int .i64 ex):=fun q=>(Cb q).cell 1 rfl
    have d2:∀ q:BelW wi.heap.size wi,q.w'.cell? ⟨A,2,none⟩=some (.int .i64 le):=fun q=>(Cb q).cell 2 rfl
    have d7:∀ q:BelW wi.heap.size wi,q.w'.cell? ⟨A,11,none⟩=some (.slice (some ⟨b7,o7,none⟩) n x.c7):=fun q=>(Cb q).cell 11 rfl
    have d12:∀ q:BelW wi.heap.size wi,q.w'.cell? ⟨A,12,none⟩=some (.int .i64 nx):=fun q=>(Cb q).cell 12 rfl
    have TA:=TKi.out k hlt hkm
    have Ib:Hid (g.itemB i k=(decide ((itAt (izAt g.rows.lists i) k).id<nx)&&decide (g.ln.takes (itAt (izAt g.rows.lists i) k).size=(fwAt g.fair.flows i).sizes[k]?.getD 0))):=by show g.itemB i k=_;rw [← Hnx.out];rfl
    have Nk2:=Ni.out k hkm
    have Yk2:Hid (g.itemB i k=true→∀ j,j<k+1→g.itemB i j=true):=fun hg j hj=>by
     by_cases e:j=k
     ·rw [e];exact hg
     ·exact HK.out.1 j (by omega)
    have St:Hid (∀ w2,Below wi.heap.size wi w2→(Boxed w2 A (gc kd ex le (.slice x.a1 n1 x.c1) (.slice x.a2 n2 x.c2) (.slice x.a3 n3 x.c3) (.slice (some ⟨b4,o4,none⟩) n x.c4) mo (.slice (some ⟨b5,o5,none⟩) n x.c5) (.slice (some ⟨b6,o6,none⟩) n x.c6) nw (.slice (some ⟨b7,o7,none⟩) n x.c7) nx dr) 50∧GtV w2 x g∧Below w.heap.size w w2)∧w2.cell? ⟨b7,o7+i*3+2,none⟩=some (.slice (some ⟨bz,oz,none⟩) m ck)∧IntsAt w2 (some ⟨bz,oz,none⟩) (fwAt g.fair.flows i).sizes∧ItsAt w2 (some ⟨bi,oi,none⟩) (izAt g.rows.lists i)∧b7<w2.heap.size):=fun w2 q=>⟨⟨HK.out.2.1.1.below HK.out.2.1.1.under q,HK.out.2.1.2.1.below q,HK.out.2.1.2.2.trans (q.mono HK.out.2.1.2.2.size)⟩,by rw [q.cell (p:=⟨b7,o7+i*3+2,none⟩) HK.out.2.2.2.2.2];exact HK.out.2.2.1,HK.out.2.2.2.1.below q,HK.out.2.2.2.2.1.below q,Nat.lt_of_lt_of_le HK.out.2.2.2.2.2 q.size⟩
    generalize g.ln.takes (itAt (izAt g.rows.lists i) k).size=tk at TA Ib
    generalize itAt (izAt g.rows.lists i) k=item at it0 it1 TA Ib
    generalize (fwAt g.fair.flows i).sizes[k]?.getD 0=sz at fz Ib
    generalize g.itemB i k=gd at Ib Nk2 Yk2
    obtain ⟨ii,is,itm⟩:=item
    simp only [] at it0 it1 TA Ib
    have TA':Hid _:=TA
    have HN2:Hid (gd=false→R=false):=Nk2
    clear TA Nk2 Cb HK
    haveI:Nonempty (BelW wi.heap.size wi):=⟨⟨wi,Below.refl _ _⟩⟩
    go_upto_region 13 with fail
    by_cases q1:nx≤ii
    ·have q1':decide (nx≤ii)=true:=decide_eq_true q1
     have e:R=false:=HN2.out (by rw [Ib.out];simp;omega)
     subst e
     refine rgb wi.heap.size (by kernel_rfl) (by kernel_rfl) ?_;try simp only [List.append]
     repeat (go_big_quiet_step ((go_at_call 88;with_reducible refine qb (TA'.out _))))
     skip;refine wpQuiet_nil ?_;intro w2 hx;have Y2:Hid _:=St.out _ (BelW.out hx);clear hx St it0 it1 fz f7 d0 d1 d2 d7 d12
     go_wp2
     go_ret
     exact ⟨rfl,Y2.out.1.2.2⟩
    have q1':decide (nx≤ii)=false:=decide_eq_false q1
    by_cases q2:tk=sz
    case neg =>
     have q2':(tk != sz)=true:=by simpa using q2
     have e:R=false:=HN2.out (by rw [Ib.out];simp;omega)
     subst e
     refine rgb wi.heap.size (by kernel_rfl) (by kernel_rfl) ?_;try simp only [List.append]
     repeat (go_big_quiet_step ((go_at_call 88;with_reducible refine qb (TA'.out _))))
     skip;refine wpQuiet_nil ?_;intro w2 hx;have Y2:Hid _:=St.out _ (BelW.out hx);clear hx St it0 it1 fz f7 d0 d1 d2 d7 d12
     go_wp2
     go_ret
     exact ⟨rfl,Y2.out.1.2.2⟩
    have G:Hid _:=Yk2.out (by rw [Ib.out];simp;omega)
    subst q2
    refine rgb wi.heap.size (by kernel_rfl) (by kernel_rfl) ?_;try simp only [List.append]
    repeat (go_big_quiet_step ((go_at_call 88;with_reducible refine qb (TA'.out _))))
    skip;refine wpQuiet_nil ?_;intro w2 hx;have Y2:Hid _:=St.out _ (BelW.out hx);clear hx St it0 it1 fz f7 d0 d1 d2 d7 d12
    go_wp2
    go_roundw
    case rel=>exact ⟨k+1,by omega,by go_num,G.out,Y2.out⟩
    case measure=>simp [intOf]<;>omega
  have kw1:IntKind.i64.wrap ((i:Int)-1)=(j:Int):=by rcases kw with q|q;exact absurd q hi0;exact q
  have hi1:(0:Int)<(i:Int):=by omega
  have hi2:0<i:=by omega
  clear kw
  by_cases v3:lf≤lp
  ·have v3':decide (lf≤lp)=true:=decide_eq_true v3
   have e:R=false:=HNk.out (by rw [Lf.out];simp;omega)
   subst e
   refine rgb wo.heap.size (by kernel_rfl) (by kernel_rfl) ?_
   try simp only [List.append]
   repeat (go_big_quiet_step ((go_at_call 87;with_reducible refine qb (A9'.out _))))
   refine wpQuiet_nil ?_
   intro w2 hx
   have Z2:Hid (Boxed w2 A (gc kd ex le (.slice x.a1 n1 x.c1) (.slice x.a2 n2 x.c2) (.slice x.a3 n3 x.c3) (.slice (some ⟨b4,o4,none⟩) n x.c4) mo (.slice (some ⟨b5,o5,none⟩) n x.c5) (.slice (some ⟨b6,o6,none⟩) n x.c6) nw (.slice (some ⟨b7,o7,none⟩) n x.c7) nx dr) 50∧GtV w2 x g∧Below w.heap.size w w2):=St.out _ (BelW.out hx)
   have Z3:Hid _:=Cf.out _ (BelW.out hx)
   clear hx St Cf f4 f4' f7 s0 s1 s2 d3 d4 d6 d7
   go_wp2
   go_ret
   exact ⟨rfl,Z2.out.2.2⟩
  have v3':decide (lf≤lp)=false:=decide_eq_false v3
  cases ok
  ·skip
   have e:R=false:=HNk.out (by rw [Lf.out];simp)
   subst e
   refine rgb wo.heap.size (by kernel_rfl) (by kernel_rfl) ?_
   try simp only [List.append]
   repeat (go_big_quiet_step ((go_at_call 87;with_reducible refine qb (A9'.out _))))
   refine wpQuiet_nil ?_
   intro w2 hx
   have Z2:Hid (Boxed w2 A (gc kd ex le (.slice x.a1 n1 x.c1) (.slice x.a2 n2 x.c2) (.slice x.a3 n3 x.c3) (.slice (some ⟨b4,o4,none⟩) n x.c4) mo (.slice (some ⟨b5,o5,none⟩) n x.c5) (.slice (some ⟨b6,o6,none⟩) n x.c6) nw (.slice (some ⟨b7,o7,none⟩) n x.c7) nx dr) 50∧GtV w2 x g∧Below w.heap.size w w2):=St.out _ (BelW.out hx)
   have Z3:Hid _:=Cf.out _ (BelW.out hx)
   clear hx St Cf f4 f4' f7 s0 s1 s2 d3 d4 d6 d7
   go_wp2
   go_ret
   exact ⟨rfl,Z2.out.2.2⟩
  by_cases v4:m=mf
  case neg =>
   have v4':((mf:Int) != (m:Int))=true:=by simpa using (by omega:¬ (mf:Int)=(m:Int))
   have e:R=false:=HNk.out (by rw [Lf.out];simp;omega)
   subst e
   refine rgb wo.heap.size (by kernel_rfl) (by kernel_rfl) ?_
   try simp only [List.append]
   repeat (go_big_quiet_step ((go_at_call 87;with_reducible refine qb (A9'.out _))))
   refine wpQuiet_nil ?_
   intro w2 hx
   have Z2:Hid (Boxed w2 A (gc kd ex le (.slice x.a1 n1 x.c1) (.slice x.a2 n2 x.c2) (.slice x.a3 n3 x.c3) (.slice (some ⟨b4,o4,none⟩) n x.c4) mo (.slice (some ⟨b5,o5,none⟩) n x.c5) (.slice (some ⟨b6,o6,none⟩) n x.c6) nw (.slice (some ⟨b7,o7,none⟩) n x.c7) nx dr) 50∧GtV w2 x g∧Below w.heap.size w w2):=St.out _ (BelW.out hx)
   have Z3:Hid _:=Cf.out _ (BelW.out hx)
   clear hx St Cf f4 f4' f7 s0 s1 s2 d3 d4 d6 d7
   go_wp2
   go_ret
   exact ⟨rfl,Z2.out.2.2⟩
  subst v4
  refine rgb wo.heap.size (by kernel_rfl) (by kernel_rfl) ?_
  try simp only [List.append]
  repeat (go_big_quiet_step ((go_at_call 87;with_reducible refine qb (A9'.out _))))
  refine wpQuiet_nil ?_
  intro w2 hx
  have Z2:Hid (Boxed w2 A (gc kd ex le (.slice x.a1 n1 x.c1) (.slice x.a2 n2 x.c2) (.slice x.a3 n3 x.c3) (.slice (some ⟨b4,o4,none⟩) n x.c4) mo (.slice (some ⟨b5,o5,none⟩) n x.c5) (.slice (some ⟨b6,o6,none⟩) n x.c6) nw (.slice (some ⟨b7,o7,none⟩) n x.c7) nx dr) 50∧GtV w2 x g∧Below w.heap.size w w2):=St.out _ (BelW.out hx)
  have Z3:Hid _:=Cf.out _ (BelW.out hx)
  clear hx St Cf f4 f4' f7 s0 s1 s2 d3 d4 d6 d7
  have b1:decide (0≤lf)=true:=decide_eq_true (by omega)
  have b2:decide (lf<(n3:Int))=true:=decide_eq_true (by omega)
  have b3:(decide (i=0)||decide (lp<lf))=true:=by rw [decide_eq_true (show lp<lf by omega),Bool.or_true]
  have LfA:Hid (good=(List.range m).all (g.itemB i)):=by show good=_;rw [Lf.out,b1,b2,b3];simp
  clear b1 b2 b3
  have Yi:Hid ((∀ k,k<m→g.itemB i k=true)→∀ j,j<i+1→g.leafB j=true):=fun h=>Yk.out (by rw [LfA.out,List.all_eq_true];intro k hk;exact h k (List.mem_range.1 hk))
  have Ni:Hid (∀ k,k<m→g.itemB i k=false→R=false):=fun k hk h=>HNk.out (by rw [LfA.out,List.all_eq_false];exact ⟨k,List.mem_range.2 hk,by rw [h];decide⟩)
  clear Lf LfA Yk HNk
  go_wp2
  go_loopw [6] (fun s wr=>∃ k:Nat,k≤m∧s = .int .i64 k∧Hid ((∀ j,j<k→g.itemB i j=true)∧(Boxed wr A (gc kd ex le (.slice x.a1 n1 x.c1) (.slice x.a2 n2 x.c2) (.slice x.a3 n3 x.c3) (.slice (some ⟨b4,o4,none⟩) n x.c4) mo (.slice (some ⟨b5,o5,none⟩) n x.c5) (.slice (some ⟨b6,o6,none⟩) n x.c6) nw (.slice (some ⟨b7,o7,none⟩) n x.c7) nx dr) 50∧GtV wr x g∧Below w.heap.size w wr)∧wr.cell? ⟨b7,o7+i*3+2,none⟩=some (.slice ak m ck)∧IntsAt wr ak (fwAt g.fair.flows i).sizes∧ItsAt wr ik (izAt g.rows.lists i)∧b7<wr.heap.size)) (fun s _=>m-(intOf s).toNat)
  case atStart=>exact ⟨0,Nat.zero_le _,rfl,fun j hj=>by omega,Z2.out,Z3.out.1,Z3.out.2.1,Z3.out.2.2,World.block_lt_of_cell? _ _ Z3.out.1⟩
  case round =>
   obtain ⟨k,hk,rfl,HK⟩:=hrel
   clear Z2 Z3
   obtain ⟨wi,rfl⟩:∃ wi,wi=wr:=⟨_,rfl⟩
   by_cases hkm:k<m
   case neg =>
    obtain rfl:m=k:=by omega
    have G:Hid _:=Yi.out HK.out.1
    have Zf:Hid (Boxed wi A (gc kd ex le (.slice x.a1 n1 x.c1) (.slice x.a2 n2 x.c2) (.slice x.a3 n3 x.c3) (.slice (some ⟨b4,o4,none⟩) n x.c4) mo (.slice (some ⟨b5,o5,none⟩) n x.c5) (.slice (some ⟨b6,o6,none⟩) n x.c6) nw (.slice (some ⟨b7,o7,none⟩) n x.c7) nx dr) 50∧GtV wi x g∧Below w.heap.size w wi):=HK.out.2.1
    clear HK
    go_wp2
    go_roundw
    case rel=>exact ⟨i+1,by omega,by go_num,G.out,Zf.out⟩
    case measure=>simp [intOf]<;>omega
   have hkm':(k:Int)<(m:Int):=by omega
   obtain ⟨bi,oi,ei,-,-⟩:=HK.out.2.2.2.2.1 k (by rw [Hmm.out.1];exact hkm)
   obtain ⟨bz,oz,ez,-,-⟩:=HK.out.2.2.2.1 k (by rw [Hmm.out.2];exact hkm)
   subst ei
   subst ez
   have it0:∀ q:BelW wi.heap.size wi,q.w'.cell? ⟨bi,oi+k*3,none⟩=some (.int .i64 (itAt (izAt g.rows.lists i) k).id):=fun q=>((HK.out.2.2.2.2.1.below q.h).cells (k:=k) (by rw [Hmm.out.1];exact hkm)).1
   have it1:∀ q:BelW wi.heap.size wi,q.w'.cell? ⟨bi,oi+k*3+1,none⟩=some (.int .i64 (itAt (izAt g.rows.lists i) k).size):=fun q=>((HK.out.2.2.2.2.1.below q.h).cells (k:=k) (by rw [Hmm.out.1];exact hkm)).2.1
   have fz:∀ q:BelW wi.heap.size wi,q.w'.cell? ⟨bz,oz+k,none⟩=some (.int .i64 ((fwAt g.fair.flows i).sizes[k]?.getD 0)):=fun q=>by
    obtain ⟨b',o',e,_,c⟩:=(HK.out.2.2.2.1.below q.h) k (by rw [Hmm.out.2];exact hkm)
    cases e
    exact c
   have f7:∀ q:BelW wi.heap.size wi,q.w'.cell? ⟨b7,o7+i*3+2,none⟩=some (.slice (some ⟨bz,oz,none⟩) m ck):=fun q=>by rw [q.h.cell (p:=⟨b7,o7+i*3+2,none⟩) HK.out.2.2.2.2.2];exact HK.out.2.2.1
   have Cb:=fun (q:BelW wi.heap.size wi)=>HK.out.2.1.1.below HK.out.2.1.1.under q.h
   have d0:∀ q:BelW wi.heap.size wi,q.w'.cell? ⟨A,0,none⟩=some (.int .i64 kd):=fun q=>(Cb q).cell 0 rfl
   have d1:∀ q:BelW wi.heap.size wi,q.w'.cell? ⟨A,1,none⟩=some (.int .i64 ex):=fun q=>(Cb q).cell 1 rfl
   have d2:∀ q:BelW wi.heap.size wi,q.w'.cell? ⟨A,2,none⟩=some (.int .i64 le):=fun q=>(Cb q).cell 2 rfl
   have d7:∀ q:BelW wi.heap.size wi,q.w'.cell? ⟨A,11,none⟩=some (.slice (some ⟨b7,o7,none⟩) n x.c7):=fun q=>(Cb q).cell 11 rfl
   have d12:∀ q:BelW wi.heap.size wi,q.w'.cell? ⟨A,12,none⟩=some (.int .i64 nx):=fun q=>(Cb q).cell 12 rfl
   have TA:=TKi.out k hlt hkm
   have Ib:Hid (g.itemB i k=(decide ((itAt (izAt g.rows.lists i) k).id<nx)&&decide (g.ln.takes (itAt (izAt g.rows.lists i) k).size=(fwAt g.fair.flows i).sizes[k]?.getD 0))):=by show g.itemB i k=_;rw [← Hnx.out];rfl
   have Nk2:=Ni.out k hkm
   have Yk2:Hid (g.itemB i k=true→∀ j,j<k+1→g.itemB i j=true):=fun hg j hj=>by
    by_cases e:j=k
    ·rw [e];exact hg
    ·exact HK.out.1 j (by omega)
   have St:Hid (∀ w2,Below wi.heap.size wi w2→(Boxed w2 A (gc kd ex le (.slice x.a1 n1 x.c1) (.slice x.a2 n2 x.c2) (.slice x.a3 n3 x.c3) (.slice (some ⟨b4,o4,none⟩) n x.c4) mo (.slice (some ⟨b5,o5,none⟩) n x.c5) (.slice (some ⟨b6,o6,none⟩) n x.c6) nw (.slice (some ⟨b7,o7,none⟩) n x.c7) nx dr) 50∧GtV w2 x g∧Below w.heap.size w w2)∧w2.cell? ⟨b7,o7+i*3+2,none⟩=some (.slice (some ⟨bz,oz,none⟩) m ck)∧IntsAt w2 (some ⟨bz,oz,none⟩) (fwAt g.fair.flows i).sizes∧ItsAt w2 (some ⟨bi,oi,none⟩) (izAt g.rows.lists i)∧b7<w2.heap.size):=fun w2 q=>⟨⟨HK.out.2.1.1.below HK.out.2.1.1.under q,HK.out.2.1.2.1.below q,HK.out.2.1.2.2.trans (q.mono HK.out.2.1.2.2.size)⟩,by rw [q.cell (p:=⟨b7,o7+i*3+2,none⟩) HK.out.2.2.2.2.2];exact HK.out.2.2.1,HK.out.2.2.2.1.below q,HK.out.2.2.2.2.1.below q,Nat.lt_of_lt_of_le HK.out.2.2.2.2.2 q.size⟩
   generalize g.ln.takes (itAt (izAt g.rows.lists i) k).size=tk at TA Ib
   generalize itAt (izAt g.rows.lists i) k=item at it0 it1 TA Ib
   generalize (fwAt g.fair.flows i).sizes[k]?.getD 0=sz at fz Ib
   generalize g.itemB i k=gd at Ib Nk2 Yk2
   obtain ⟨ii,is,itm⟩:=item
   simp only [] at it0 it1 TA Ib
   have TA':Hid _:=TA
   have HN2:Hid (gd=false→R=false):=Nk2
   clear TA Nk2 Cb HK
   haveI:Nonempty (BelW wi.heap.size wi):=⟨⟨wi,Below.refl _ _⟩⟩
   go_upto_region 13 with fail
   by_cases q1:nx≤ii
   ·have q1':decide (nx≤ii)=true:=decide_eq_true q1
    have e:R=false:=HN2.out (by rw [Ib.out];simp;omega)
    subst e
    refine rgb wi.heap.size (by kernel_rfl) (by kernel_rfl) ?_;try simp only [List.append]
    repeat (go_big_quiet_step ((go_at_call 88;with_reducible refine qb (TA'.out _))))
    skip;refine wpQuiet_nil ?_;intro w2 hx;have Y2:Hid _:=St.out _ (BelW.out hx);clear hx St it0 it1 fz f7 d0 d1 d2 d7 d12
    go_wp2
    go_ret
    exact ⟨rfl,Y2.out.1.2.2⟩
   have q1':decide (nx≤ii)=false:=decide_eq_false q1
   by_cases q2:tk=sz
   case neg =>
    have q2':(tk != sz)=true:=by simpa using q2
    have e:R=false:=HN2.out (by rw [Ib.out];simp;omega)
    subst e
    refine rgb wi.heap.size (by kernel_rfl) (by kernel_rfl) ?_;try simp only [List.append]
    repeat (go_big_quiet_step ((go_at_call 88;with_reducible refine qb (TA'.out _))))
    skip;refine wpQuiet_nil ?_;intro w2 hx;have Y2:Hid _:=St.out _ (BelW.out hx);clear hx St it0 it1 fz f7 d0 d1 d2 d7 d12
    go_wp2
    go_ret
    exact ⟨rfl,Y2.out.1.2.2⟩
   have G:Hid _:=Yk2.out (by rw [Ib.out];simp;omega)
   subst q2
   refine rgb wi.heap.size (by kernel_rfl) (by kernel_rfl) ?_;try simp only [List.append]
   repeat (go_big_quiet_step ((go_at_call 88;with_reducible refine qb (TA'.out _))))
   skip;refine wpQuiet_nil ?_;intro w2 hx;have Y2:Hid _:=St.out _ (BelW.out hx);clear hx St it0 it1 fz f7 d0 d1 d2 d7 d12
   go_wp2
   go_roundw
   case rel=>exact ⟨k+1,by omega,by go_num,G.out,Y2.out⟩
   case measure=>simp [intOf]<;>omega
theorem specGateOk (g:Gt) (x:Ga) (w:World) (hB:g.big≤1048576) (hG:Hid (GtV w x g)) :
 Calls Tryz.prog 30 #[g.val x] w fun e w'=>e = .returned (.bool g.ok)∧Below w.heap.size w w':=specGateOkZ g x w (Gt.small hB) hG
end Go.Proofs.YtmfabeghfdoibaaGreat
