import Derived.Test.YtmfabeghfdoibaaGreatQT9Nums
import Derived.Test.YtmfabeghfdoibaaGreatQT6GtSpot
import Derived.Test.YtmfabeghfdoibaaGreatQT11RwFn
import Derived.Test.YtmfabeghfdoibaaGreatQT10FsFn
set_option maxHeartbeats 3200000
set_option maxRecDepth 100000
namespace Go.Proofs.YtmfabeghfdoibaaGreat
open Go.RowKit
theorem specNet (net bits:Int) (w:World) :
 Calls Tryz.prog 192 #[.int .i64 net,.int .i64 bits] w fun e w'=>e = .returned (.bool (netB net bits))∧w'=w:=by
 have Hn:Hid (netB net bits=_):=rfl
 cases hb:inB 0 32 bits
 ·have hb':netB net bits=false:=by rw [netB,hb];rfl
  rw [hb']
  clear Hn hb'
  have C:=specIn bits 0 32 w
  rw [hb] at C
  clear hb
  go_enter Tryz.func192,Tryz.ntmps192
  go_wp2_with (go_at_call 86;refine C.mono ?_;rintro e w' ⟨rfl,rfl⟩)
  go_ret
  exact ⟨rfl,rfl⟩
 cases hn:inB 0 4294967295 net
 ·have hb':netB net bits=false:=by rw [netB,hb,hn];rfl
  rw [hb']
  clear Hn hb'
  have C:=specIn bits 0 32 w
  have D:=specAddr net w
  rw [hb] at C
  rw [hn] at D
  clear hb hn
  go_enter Tryz.func192,Tryz.ntmps192
  go_wp2_with (first|(go_at_call 86;refine C.mono ?_;rintro e w' ⟨rfl,rfl⟩)|(go_at_call 229;refine D.mono ?_;rintro e w' ⟨rfl,rfl⟩))
  go_ret
  exact ⟨rfl,rfl⟩
 have hnb:netB net bits=decide (net%2 ^ (32-bits).toNat=0):=by rw [netB,hb,hn];rfl
 have C:=specIn bits 0 32 w
 have D:=specAddr net w
 rw [hb] at C
 rw [hn] at D
 clear Hn
 obtain ⟨s,hs,rfl⟩:=bits_of hb
 rw [pow_of hs] at hnb
 rw [hnb]
 have hn':=inB_true.1 hn
 clear hb hn hnb
 have hw:wrap64 (2 ^ (32-(32-s)))=2 ^ s:=by
  rw [show 32-(32-s)=s by omega]
  have:=pow_le32 hs
  have:=pow_pos' s
  unfold wrap64;omega
 have hm:=pow_pos' s
 have hm1:=pow_le32 hs
 generalize (2:Int) ^ s=m at hw hm hm1 ⊢
 have hm0:¬ m=0:=by omega
 have ht:net.tmod m=net%m:=Int.tmod_eq_emod_of_nonneg hn'.1
 go_enter Tryz.func192,Tryz.ntmps192
 go_wp2_with (first|(go_at_call 86;refine C.mono ?_;rintro e w' ⟨rfl,rfl⟩)|(go_at_call 229;refine D.mono ?_;rintro e w' ⟨rfl,rfl⟩))
 go_ret
 exact ⟨rfl,rfl⟩
def Ru.ok (r:Ru):Bool:=inB 1 999 r.id&&(inB 0 99 r.prio&&(netB r.snet r.sbits&&(netB r.dnet r.dbits&&(inB (-1) 255 r.proto&&(inB 0 65535 r.high&&(inB 0 r.high r.low&&inB 0 15 r.cls))))))
theorem specRule (r:Ru) (w:World) :
 Calls Tryz.prog 149 #[r.val] w fun e w'=>e = .returned (.bool r.ok)∧w'=w.alloc (.cells r.cells.toArray 152):=by
 have Hok:Hid (r.ok=(inB 1 999 r.id&&(inB 0 99 r.prio&&(netB r.snet r.sbits&&(netB r.dnet r.dbits&&(inB (-1) 255 r.proto&&(inB 0 65535 r.high&&(inB 0 r.high r.low&&inB 0 15 r.cls)))))))):=rfl
 obtain ⟨i,p,sn,sb,dn,db,pr,lo,hi,cl⟩:=r
 generalize Ru.ok _=ok at Hok ⊢
 simp only [Ru.val,Ru.cells] at Hok ⊢
 have A1:=fun w=>specIn i 1 999 w
 have A2:=fun w=>specIn p 0 99 w
 have A3:=fun w=>specNet sn sb w
 have A4:=fun w=>specNet dn db w
 have A5:=fun w=>specIn pr (-1) 255 w
 have A6:=fun w=>specIn hi 0 65535 w
 have A7:=fun w=>specIn lo 0 hi w
 have A8:=fun w=>specIn cl 0 15 w
 generalize inB 1 999 i=b1 at A1 Hok
 generalize inB 0 99 p=b2 at A2 Hok
 generalize netB sn sb=b3 at A3 Hok
 generalize netB dn db=b4 at A4 Hok
 generalize inB (-1) 255 pr=b5 at A5 Hok
 generalize inB 0 65535 hi=b6 at A6 Hok
 generalize inB 0 hi lo=b7 at A7 Hok
 generalize inB 0 15 cl=b8 at A8 Hok
 have A1':Hid _:=A1
 have A2':Hid _:=A2
 have A3':Hid _:=A3
 have A4':Hid _:=A4
 have A5':Hid _:=A5
 have A6':Hid _:=A6
 have A7':Hid _:=A7
 have A8':Hid _:=A8
 clear A1 A2 A3 A4 A5 A6 A7 A8
 go_enter Tryz.func149,Tryz.ntmps149
 go_wp2_with fail
 refine (A1'.out _).mono ?_
 rintro e w' ⟨rfl,rfl⟩
 cases b1
 ·go_wp2
  go_ret
  exact ⟨ret_bool (by rw [Hok.out];rfl),rfl⟩
 go_wp2_with fail
 refine (A2'.out _).mono ?_
 rintro e w' ⟨rfl,rfl⟩
 cases b2
 ·go_wp2
  go_ret
  exact ⟨ret_bool (by rw [Hok.out];rfl),rfl⟩
 go_wp2_with fail
 refine (A3'.out _).mono ?_
 rintro e w' ⟨rfl,rfl⟩
 cases b3
 ·go_wp2
  go_ret
  exact ⟨ret_bool (by rw [Hok.out];rfl),rfl⟩
 go_wp2_with fail
 refine (A4'.out _).mono ?_
 rintro e w' ⟨rfl,rfl⟩
 cases b4
 ·go_wp2
  go_ret
  exact ⟨ret_bool (by rw [Hok.out];rfl),rfl⟩
 go_wp2_with fail
 refine (A5'.out _).mono ?_
 rintro e w' ⟨rfl,rfl⟩
 cases b5
 ·go_wp2
  go_ret
  exact ⟨ret_bool (by rw [Hok.out];rfl),rfl⟩
 go_wp2_with fail
 refine (A6'.out _).mono ?_
 rintro e w' ⟨rfl,rfl⟩
 cases b6
 ·go_wp2
  go_ret
  exact ⟨ret_bool (by rw [Hok.out];rfl),rfl⟩
 go_wp2_with fail
 refine (A7'.out _).mono ?_
 rintro e w' ⟨rfl,rfl⟩
 cases b7
 ·go_wp2
  go_ret
  exact ⟨ret_bool (by rw [Hok.out];rfl),rfl⟩
 go_wp2_with fail
 refine (A8'.out _).mono ?_
 rintro e w' ⟨rfl,rfl⟩
 go_wp2
 go_ret
 exact ⟨ret_bool (by rw [Hok.out];rfl),rfl⟩
def goodR (l:List Ru) (i:Nat):Bool:=(ruAt l i).ok&&(decide (i=0)||decide ((ruAt l (i-1)).id<(ruAt l i).id))
def goodRs (l:List Ru) (k:Nat):Bool:=(List.range k).all (goodR l)
theorem goodRs_succ (l:List Ru) (k:Nat):goodRs l (k+1)=(goodRs l k&&goodR l k):=by simp [goodRs,List.range_succ]
theorem goodRs_hit {l:List Ru} {k n:Nat} (h:k<n) (g:goodR l k=false):goodRs l n=false:=by
 unfold goodRs
 rw [List.all_eq_false]
 exact ⟨k,List.mem_range.2 h,by simp [g]⟩
def rusOk (l:List Ru):Bool:=decide (l.length≤40)&&goodRs l l.length
def Pz.ok (p:Pz):Bool:=inB 0 1000 p.rate&&(inB 1 100000 p.burst&&(inB 0 p.burst p.level&&inB 0 1099511627776 p.tm))
theorem Pz.ok_iff {p:Pz}:p.ok=true↔(0≤p.rate∧p.rate≤1000)∧(1≤p.burst∧p.burst≤100000)∧(0≤p.level∧p.level≤p.burst)∧(0≤p.tm∧p.tm≤1099511627776):=by
 unfold Pz.ok
 simp only [Bool.and_eq_true,inB_true]
def Nd.fits (x:Nd) (k:Nat) (t0:Int):Bool:=x.pz.ok&&(decide (x.pz.tm=t0)&&(if k=0 then decide (x.up = -1) else (decide (0≤x.up)&&decide (x.up<(k:Int)))))
def treeB (l:List Nd) (k:Nat):Bool:=(ndAt l k).fits k (ndAt l 0).pz.tm
def tok (l:List Nd):Bool:=decide (1≤l.length)&&(decide (l.length≤12)&&(List.range l.length).all (treeB l))
theorem tok_iff {l:List Nd}:tok l=true↔1≤l.length∧l.length≤12∧∀ k,k<l.length→treeB l k=true:=by
 unfold tok
 simp only [Bool.and_eq_true,decide_eq_true_eq,List.all_eq_true,List.mem_range]
theorem treeB_iff {l:List Nd} {k:Nat}:treeB l k=true↔(ndAt l k).pz.ok=true∧(ndAt l k).pz.tm=(ndAt l 0).pz.tm∧(k=0→(ndAt l k).up = -1)∧(k≠0→0≤(ndAt l k).up∧(ndAt l k).up<k):=by
 unfold treeB Nd.fits
 by_cases h:k=0
 ·simp only [Bool.and_eq_true,decide_eq_true_eq,if_pos h]
  constructor
  ·rintro ⟨a,b,c⟩;exact ⟨a,b,fun _=>c,fun g=>absurd h g⟩
  ·rintro ⟨a,b,c,_⟩;exact ⟨a,b,c h⟩
 ·simp only [Bool.and_eq_true,decide_eq_true_eq,if_neg h]
  constructor
  ·rintro ⟨a,b,c⟩;exact ⟨a,b,fun g=>absurd g h,fun _=>c⟩
  ·rintro ⟨a,b,_,c⟩;exact ⟨a,b,c h⟩
theorem tok_at {l:List Nd} (h:tok l=true) {k:Nat} (hk:k<l.length):(ndAt l k).pz.ok=true∧(ndAt l k).pz.tm=(ndAt l 0).pz.tm ∧ -1≤(ndAt l k).up∧(ndAt l k).up<k∧(k≠0→0≤(ndAt l k).up):=by
 obtain ⟨a,b,c,d⟩:=treeB_iff.1 ((tok_iff.1 h).2.2 k hk)
 refine ⟨a,b,?_⟩
 by_cases g:k=0
 ·have:=c g;omega
 ·have:=d g;omega
def Sr.ok (p:Sr):Bool:=inB 1 1000 p.target&&(inB 0 100000 p.old&&inB 0 1048576 p.prob)
def Gt.head (g:Gt):Bool:=g.ln.ok&&(rtsOk g.routes&&(rusOk g.rules&&(tok g.tree&&(decide (1≤g.leaves.length)&&(decide (g.leaves.length≤8)&&(g.rows.ok&&(decide (g.rows.lists.length=g.leaves.length)&&(decide (g.steers.length=g.leaves.length)&&(g.fair.ok&&(decide (g.fair.flows.length=g.leaves.length)&&(inB 1 1000000 g.next&&inB 0 1048575 g.draw)))))))))))
def Gt.itemB (g:Gt) (i k:Nat):Bool:=decide ((itAt (izAt g.rows.lists i) k).id<g.next)&&decide (g.ln.takes (itAt (izAt g.rows.lists i) k).size=(fwAt g.fair.flows i).sizes[k]?.getD 0)
def Gt.leafB (g:Gt) (i:Nat):Bool:=decide (0≤g.leaves[i]?.getD 0)&&(decide (g.leaves[i]?.getD 0<(g.tree.length:Int))&&((decide (i=0)||decide (g.leaves[i-1]?.getD 0<g.leaves[i]?.getD 0))&&((srAt g.steers i).ok&&(decide ((fwAt g.fair.flows i).sizes.length=(izAt g.rows.lists i).length)&&(List.range (izAt g.rows.lists i).length).all (g.itemB i)))))
def Gt.ok (g:Gt):Bool:=g.head&&(List.range g.leaves.length).all g.leafB
theorem Gt.ok_iff {g:Gt}:g.ok=true↔g.head=true∧∀ i,i<g.leaves.length→g.leafB i=true:=by
 unfold Gt.ok
 simp only [Bool.and_eq_true,List.all_eq_true,List.mem_range]
end Go.Proofs.YtmfabeghfdoibaaGreat
