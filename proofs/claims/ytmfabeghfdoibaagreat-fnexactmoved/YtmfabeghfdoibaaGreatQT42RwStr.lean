import Derived.Test.YtmfabeghfdoibaaGreatQT15Quiet
import Derived.Test.YtmfabeghfdoibaaGreatQT20IzBlk
import Derived.Test.YtmfabeghfdoibaaGreatQT6GtSpot
import Derived.Test.YtmfabeghfdoibaaGreatQT21StepRow
import Derived.Laws.ResultCell
import Derived.Laws.CopyOwn
set_option maxHeartbeats 6400000
set_option maxRecDepth 100000
namespace Go.Proofs.YtmfabeghfdoibaaGreat
open Go.RowKit
theorem eqIt (r:It) (w:World) :
 Calls Tryz.prog 195 #[r.val,r.val] w fun e w'=>e = .returned (.bool true)∧Bel w w':=by
 unfold It.val
 obtain ⟨v0,v1,v2⟩:=r
 simp only []
 go_enter Tryz.func195,Tryz.ntmps195
 go_wp2
 go_ret
 exact ⟨rfl,((Below.refl _ w).alloc nlr _).alloc (by simp) _⟩
theorem eqIts (a1 a2:Option Addr) (cap1 cap2:Nat) (l:List It) (w:World) (hT:l.length≤1048576) (h1:Hid (ItsAt w a1 l)) (h2:Hid (ItsAt w a2 l)) :
 Calls Tryz.prog 158 #[.slice a1 l.length cap1,.slice a2 l.length cap2] w fun e w'=>e = .returned (.bool true)∧Bel w w':=by
 obtain ⟨len,hlen⟩:∃ n,l.length=n:=⟨_,rfl⟩
 rw [hlen] at hT ⊢
 have Hlen:Hid (l.length=len):=hlen
 clear hlen
 go_enter Tryz.func158,Tryz.ntmps158
 go_wp2
 go_loopw [5] (fun i wr=>∃ k:Nat,k≤len∧i = .int .i64 k∧Hid (Bel w wr)) (fun i _=>len-(intOf i).toNat)
 case atStart=>exact ⟨0,Nat.zero_le _,rfl,Below.refl _ _⟩
 case round =>
  obtain ⟨k,hk,rfl,hb⟩:=hrel
  by_cases hlt:k<len
  ·have R1:Hid (ItsAt wr a1 l):=h1.out.below hb.out
   have R2:Hid (ItsAt wr a2 l):=h2.out.below hb.out
   obtain ⟨b1,o1,ha1,-⟩:=R1.out k (by rw [Hlen.out];exact hlt)
   obtain ⟨b2,o2,ha2,-⟩:=R2.out k (by rw [Hlen.out];exact hlt)
   subst ha1;subst ha2
   have F1:=fun p:BelW wr.heap.size wr=>(R1.out.below p.h).cells (k:=k) (by rw [Hlen.out];exact hlt)
   have F2:=fun p:BelW wr.heap.size wr=>(R2.out.below p.h).cells (k:=k) (by rw [Hlen.out];exact hlt)
   have E:=fun w=>eqIt (itAt l k) w
   unfold It.val at E
   generalize itAt l k=r at F1 F2 E
   have f1_0:=fun p=>(F1 p).1
   have f1_1:=fun p=>(F1 p).2.1
   have f1_2:=fun p=>(F1 p).2.2
   have f2_0:=fun p=>(F2 p).1
   have f2_1:=fun p=>(F2 p).2.1
   have f2_2:=fun p=>(F2 p).2.2
   clear F1 F2
   have hlt':(k:Int)<(len:Int):=by omega
   go_wp2
   haveI:Nonempty (BelW wr.heap.size wr):=⟨⟨wr,Below.refl _ _⟩⟩
   refine rgb wr.heap.size (by kernel_rfl) (by kernel_rfl) ?_
   repeat (quiet_step ((go_at_call 195;refine qb (E _))))
   refine wpQuiet_nil ?_
   intro wq hx
   have hq:=BelW.out hx
   have B:Hid (Bel w wq):=hb.out.trans (hq.mono hb.out.size)
   clear hx hq f1_0 f1_1 f1_2 f2_0 f2_1 f2_2
   go_wp2
   go_roundw
   case rel=>exact ⟨k+1,by omega,by go_num,B⟩
   case measure=>simp [intOf];omega
  ·go_wp2
   go_ret
   exact ⟨rfl,hb.out⟩
theorem eqIzs (a1 a2:Option Addr) (cap1 cap2:Nat) (ls:List (List It)) (w:World) (hT:ls.length≤1048576) (hin:Hid (∀ k,k<ls.length→(izAt ls k).length≤1048576)) (h1:Hid (IzAt w a1 ls)) (h2:Hid (IzAt w a2 ls)) :
 Calls Tryz.prog 108 #[.slice a1 ls.length cap1,.slice a2 ls.length cap2] w fun e w'=>e = .returned (.bool true)∧Bel w w':=by
 obtain ⟨len,hlen⟩:∃ n,ls.length=n:=⟨_,rfl⟩
 rw [hlen] at hT ⊢
 have Hlen:Hid (ls.length=len):=hlen
 clear hlen
 go_enter Tryz.func108,Tryz.ntmps108
 go_wp2
 go_loopw [5] (fun i wr=>∃ k:Nat,k≤len∧i = .int .i64 k∧Hid (Bel w wr)) (fun i _=>len-(intOf i).toNat)
 case atStart=>exact ⟨0,Nat.zero_le _,rfl,Below.refl _ _⟩
 case round =>
  obtain ⟨k,hk,rfl,hb⟩:=hrel
  by_cases hlt:k<len
  ·have R1:Hid (IzAt wr a1 ls):=h1.out.below hb.out
   have R2:Hid (IzAt wr a2 ls):=h2.out.below hb.out
   obtain ⟨b1,o1,i1,c1,ha1,hb1,hc1,hr1,-⟩:=R1.out k (by rw [Hlen.out];exact hlt)
   obtain ⟨b2,o2,i2,c2,ha2,hb2,hc2,hr2,-⟩:=R2.out k (by rw [Hlen.out];exact hlt)
   subst ha1;subst ha2
   have hi:=hin.out k (by rw [Hlen.out];exact hlt)
   have E:=fun w h1 h2=>eqIts i1 i2 c1 c2 (izAt ls k) w hi h1 h2
   generalize izAt ls k=l at hc1 hc2 hr1 hr2 E
   generalize l.length=n at hc1 hc2 E
   have f1:∀ p:BelW wr.heap.size wr,p.w'.cell? ⟨b1,o1+k,none⟩=some (.slice i1 n c1):=fun p=>by rw [p.h.cell (p:=⟨b1,o1+k,none⟩) hb1];exact hc1
   have f2:∀ p:BelW wr.heap.size wr,p.w'.cell? ⟨b2,o2+k,none⟩=some (.slice i2 n c2):=fun p=>by rw [p.h.cell (p:=⟨b2,o2+k,none⟩) hb2];exact hc2
   have g1:Hid (∀ p:BelW wr.heap.size wr,ItsAt p.w' i1 l):=fun p=>hr1.below p.h
   have g2:Hid (∀ p:BelW wr.heap.size wr,ItsAt p.w' i2 l):=fun p=>hr2.below p.h
   have E':Hid _:=E
   clear hc1 hc2 hr1 hr2 E R1 R2
   have hlt':(k:Int)<(len:Int):=by omega
   go_wp2
   haveI:Nonempty (BelW wr.heap.size wr):=⟨⟨wr,Below.refl _ _⟩⟩
   refine rgb wr.heap.size (by kernel_rfl) (by kernel_rfl) ?_
   repeat (quiet_step ((go_at_call 158;refine qb (E'.out _ (g1.out _) (g2.out _)))))
   refine wpQuiet_nil ?_
   intro wq hx
   have hq:=BelW.out hx
   have B:Hid (Bel w wq):=hb.out.trans (hq.mono hb.out.size)
   clear hx hq f1 f2 g1 g2
   go_wp2
   go_roundw
   case rel=>exact ⟨k+1,by omega,by go_num,B⟩
   case measure=>simp [intOf];omega
  ·go_wp2
   go_ret
   exact ⟨rfl,hb.out⟩
def itMkF (s:Int) (i:Nat):It:=⟨s+3*(i:Int),s+3*(i:Int)+1,s+3*(i:Int)+2⟩
def itMksF (s:Int) (L:List It) (j:Nat):List It:=(List.range j).map (itMkF s)++L.drop j
theorem itMksF_length (s:Int) (L:List It) (j:Nat) (h:j≤L.length):(itMksF s L j).length=L.length:=by simp [itMksF];omega
theorem itMksF_zero (s:Int) (L:List It):itMksF s L 0=L:=by simp [itMksF]
theorem itMksF_step (s:Int) (L:List It) (j:Nat) (h:j<L.length):(itMksF s L j).set j (itMkF s j)=itMksF s L (j+1):=by
 unfold itMksF
 rw [List.set_append_right _ _ (by simp),List.range_succ,List.map_append]
 simp
 rw [List.drop_eq_getElem_cons h]
 rfl
theorem itMksF_end (s:Int) (L:List It) (j:Nat) (hj:j<L.length):itAt (itMksF s L L.length) j=itMkF s j:=by
 have:j<L.length:=hj
 simp [itMksF,itAt,this]
theorem heldItsF (s:Int) (s0:0≤s) (s1:s≤1099511627776) (a:Option Addr) (cap:Nat) (T:List It) (hT:T.length≤1048576) (w:World) (H:Hid (ItsAt w a (itMksF s T T.length))) :
 Calls Tryz.prog 161 #[.slice a T.length cap,.int .i64 s] w fun e w'=>e = .returned (.int .i64 (s+3*(T.length:Int)))∧w'=w:=by
 have Hc:Hid (∀ j,j<T.length→∃ b off,a=some ⟨b,off,none⟩∧∀ kv:Int,kv=s+3*(j:Int)→w.cell? ⟨b,off+j*3,none⟩=some (.int .i64 (kv))∧w.cell? ⟨b,off+j*3+1,none⟩=some (.int .i64 (kv+1))∧w.cell? ⟨b,off+j*3+2,none⟩=some (.int .i64 (kv+2))):=by
  show ∀ j,j<T.length→_
  intro j hj
  obtain ⟨b,off,e,_,c0,c1,c2⟩:=H.out j (by rw [itMksF_length s T _ nlr];exact hj)
  rw [itMksF_end s T j hj] at c0 c1 c2
  refine ⟨b,off,e,fun kv hkv=>?_⟩
  subst hkv
  exact ⟨c0,c1,c2⟩
 generalize T.length=len at hT Hc ⊢
 clear H
 go_enter Tryz.func161,Tryz.ntmps161
 go_wp2
 go_loop [1,5] (fun kk i=>∃ (j:Nat) (kv:Int),j≤len∧i = .int .i64 j∧kk = .int .i64 kv∧kv=s+3*(j:Int)) (fun _ i=>len-(intOf i).toNat)
 case atStart=>exact ⟨0,s,Nat.zero_le _,rfl,rfl,by simp⟩
 case round =>
  obtain ⟨j,kv,hj,rfl,rfl,hkv⟩:=hrel
  have Hkv:Hid (kv=s+3*(j:Int)):=hkv
  have k0:0≤kv:=by omega
  have k1:kv≤1099514773504:=by omega
  by_cases hlt:j<len
  ·obtain ⟨b,off,ha,hc⟩:=Hc.out j hlt
   obtain ⟨c0,c1,c2⟩:=hc kv hkv
   subst ha
   clear hkv hc
   go_wp2
   go_round
   case rel=>exact ⟨j+1,kv+3,by omega,by go_num,by go_num,by rw [Hkv.out];push_cast;omega⟩
   case measure=>simp [intOf];omega
  ·obtain rfl:j=len:=by omega
   clear hkv
   go_wp2
   go_ret
   exact ⟨by rw [← Hkv.out];rfl,rfl⟩
theorem markItsG (s:Int) (s0:0≤s) (s1:s≤1099511627776) (b t:Nat) (v:Value) (T:List It) (hT:T.length≤1048576) (w:World) (H:Hid (ItIn b t w v T)) :
 Calls Tryz.prog 160 #[v,.int .i64 s] w fun e w'=>e = .returned (.int .i64 (s+3*(T.length:Int)))∧ItIn b t w' v (itMksF s T T.length)∧Turn (Hits v (T.length*3)) w w':=by
 obtain ⟨a,cap,rfl⟩:=SlIn.shape H.out
 obtain ⟨len,hlen⟩:∃ n,T.length=n:=⟨_,rfl⟩
 have hcl:=itcells_length T
 have H:Hid (SlIn b t w (.slice a len cap) len (itcells T)):=by
  have h:=H.out
  unfold ItIn at h
  rw [hlen] at h
  exact h
 rw [hlen] at hT ⊢
 have Hlen:Hid (T.length=len):=hlen
 have Hcl:Hid (∀ j,j≤len→(itcells (itMksF s T j)).length=len*3):=fun j hj=>by rw [itcells_length,itMksF_length s T j (by rw [Hlen.out];exact hj),Hlen.out]
 clear hlen hcl
 go_enter Tryz.func160,Tryz.ntmps160
 go_wp2
 go_loopw [1,5] (fun kk i wr=>∃ (j:Nat) (kv:Int),j≤len∧i = .int .i64 j∧kk = .int .i64 kv∧kv=s+3*(j:Int)∧Hid (SlIn b t wr (.slice a len cap) len (itcells (itMksF s T j))∧Turn (Hits (.slice a len cap) (len*3)) w wr)) (fun _ i _=>len-(intOf i).toNat)
 case atStart=>exact ⟨0,s,Nat.zero_le _,rfl,rfl,by simp,by rw [itMksF_zero];exact H.out,Turn.refl _ _⟩
 case round =>
  obtain ⟨j,kv,hj,rfl,rfl,hkv,H2⟩:=hrel
  have Hkv:Hid (kv=s+3*(j:Int)):=hkv
  have k0:0≤kv:=by omega
  have k1:kv≤1099514773504:=by omega
  by_cases hlt:j<len
  ·have hcl:=Hcl.out j hj
   obtain ⟨g,off,ha,h1,h2,h3⟩:=SlIn.some H2.out.1 (by intro e;rw [e] at hcl;simp at hcl;omega)
   subst ha
   have em:itMkF s j=⟨kv,kv+1,kv+1+1⟩:=by
    rw [hkv]
    unfold itMkF
    simp only [It.mk.injEq]
    refine ⟨by first|trivial|omega,by first|trivial|omega,by first|trivial|omega⟩
   have hput:=H2.out.1
   have hput:=SlIn.put hput (j*3) (by omega) (.int .i64 (kv))
   have hput:=SlIn.put hput (j*3+1) (by simp only [List.length_set];omega) (.int .i64 (kv+1))
   have hput:=SlIn.put hput (j*3+2) (by simp only [List.length_set];omega) (.int .i64 (kv+1+1))
   have hset:=itcells_set (itMksF s T j) j (itMkF s j)
   rw [itMksF_step s T j (by rw [Hlen.out];exact hlt)] at hset
   simp only [em] at hset
   rw [hset] at hput
   have z0:=(SlIn.cells H2.out.1 (j*3) (by omega)).2
   have y0:=(SlIn.cells H2.out.1 (j*3) (by omega)).1
   have z1:=(SlIn.cells H2.out.1 (j*3+1) (by omega)).2
   have y1:=(SlIn.cells H2.out.1 (j*3+1) (by omega)).1
   have z2:=(SlIn.cells H2.out.1 (j*3+2) (by omega)).2
   have y2:=(SlIn.cells H2.out.1 (j*3+2) (by omega)).1
   simp only [← Nat.add_assoc] at hput z0 y0 z1 y1 z2 y2
   have H3:Hid (SlIn b t (((wr.setCell ⟨g,off+j*3,none⟩ (.int .i64 (kv))).setCell ⟨g,off+j*3+1,none⟩ (.int .i64 (kv+1))).setCell ⟨g,off+j*3+2,none⟩ (.int .i64 (kv+1+1))) (.slice (some ⟨g,off,none⟩) len cap) len (itcells (itMksF s T (j+1)))∧Turn (Hits (.slice (some ⟨g,off,none⟩) len cap) (len*3)) w (((wr.setCell ⟨g,off+j*3,none⟩ (.int .i64 (kv))).setCell ⟨g,off+j*3+1,none⟩ (.int .i64 (kv+1))).setCell ⟨g,off+j*3+2,none⟩ (.int .i64 (kv+1+1)))):=by
    refine ⟨hput,H2.out.2.trans ?_⟩
    refine (Turn.trans (Turn.trans ((turn_set _ _ _ _).wide ?_) ((turn_set _ _ _ _).wide ?_)) ((turn_set _ _ _ _).wide ?_))
    all_goals (rintro k o ⟨rfl,rfl⟩;exact ⟨off,len,cap,rfl,by omega,by omega⟩)
   generalize (itcells (itMksF s T j))[j*3]?.getD undef=u0 at y0;generalize (itcells (itMksF s T j))[j*3+1]?.getD undef=u1 at y1;generalize (itcells (itMksF s T j))[j*3+2]?.getD undef=u2 at y2
   clear hput hset hkv em hcl h1 h2 h3
   go_wp2
   go_roundw
   case rel=>exact ⟨j+1,kv+3,by omega,by go_num,by go_num,by rw [Hkv.out];push_cast;omega,H3⟩
   case measure=>simp [intOf];omega
  ·obtain rfl:j=len:=by omega
   go_wp2
   go_ret
   refine ⟨by rw [← Hkv.out];rfl,?_,H2.out.2⟩
   have h:=H2.out.1
   unfold ItIn
   rw [itMksF_length s T _ (by rw [Hlen.out];omega),Hlen.out]
   exact h
def izMk (s:Int) (ls:List (List It)) (i:Nat):List It:=itMksF (s+3*(izSum ls i:Int)) (izAt ls i) (izAt ls i).length
def izMks (s:Int) (ls:List (List It)) (j:Nat):List (List It):=(List.range ls.length).map fun i=>if i<j then izMk s ls i else izAt ls i
theorem izMks_length (s:Int) (ls:List (List It)) (j:Nat):(izMks s ls j).length=ls.length:=by simp [izMks]
theorem izMks_at (s:Int) (ls:List (List It)) (j:Nat) {i:Nat} (hi:i<ls.length):izAt (izMks s ls j) i=if i<j then izMk s ls i else izAt ls i:=by
 simp [izAt,izMks,hi]
theorem izMk_length (s:Int) (ls:List (List It)) (i:Nat):(izMk s ls i).length=(izAt ls i).length:=itMksF_length _ _ _ nlr
theorem izMks_len (s:Int) (ls:List (List It)) (j:Nat) {i:Nat} (hi:i<ls.length):(izAt (izMks s ls j) i).length=(izAt ls i).length:=by
 rw [izMks_at s ls j hi]
 split
 ·exact izMk_length s ls i
 ·rfl
theorem izMks_zero (s:Int) (ls:List (List It)):izMks s ls 0=ls:=by
 apply List.ext_getElem
 ·simp [izMks]
 ·intro i h1 h2
  simp [izMks,izAt,List.getElem?_eq_getElem h2]
def izHits (vs:List Value) (ls:List (List It)) (k o:Nat):Prop:=∃ i,i<ls.length∧Hits (izV vs i) ((izAt ls i).length*3) k o
theorem IzV.step {s:Int} {b t:Nat} {w w':World} {v:Value} {vs:List Value} {ls:List (List It)} {j:Nat} (h:IzV b t w v vs (izMks s ls j)) (hj:j<ls.length) (hr:ItIn b t w' (izV vs j) (izMk s ls j)) (ht:Turn (Hits (izV vs j) ((izAt ls j).length*3)) w w') :
 IzV b t w' v vs (izMks s ls (j+1)):=by
 have hl:=izMks_length s ls j
 have e:∀ i,i<ls.length→(izAt (izMks s ls (j+1)) i).length=(izAt (izMks s ls j) i).length:=fun i hi=>by rw [izMks_len s ls _ hi,izMks_len s ls _ hi]
 refine ⟨?_,by rw [h.len,hl,izMks_length],fun i hi=>?_,fun i hi=>?_,fun i k x o hi hk hne=>?_,fun i x o hi=>?_⟩
 ·have h1:=h.outer
  rw [hl] at h1
  rw [izMks_length]
  refine h1.turn ht fun k o hh hx=>?_
  rw [← izMks_len s ls j hj] at hx
  refine h.free j k o (by rw [hl];exact hj) hx ?_
  rw [hl,← hl,← h.len]
  exact hh
 ·rw [izMks_length] at hi
  by_cases hij:i=j
  ·subst hij
   rw [izMks_at s ls _ hi,if_pos (by omega)]
   exact hr
  ·have h1:=h.row i (by rw [hl];exact hi)
   have e2:izAt (izMks s ls (j+1)) i=izAt (izMks s ls j) i:=by
    rw [izMks_at s ls _ hi,izMks_at s ls _ hi]
    by_cases hlt:i<j
    ·rw [if_pos (by omega),if_pos hlt]
    ·rw [if_neg (by omega),if_neg hlt]
   rw [e2]
   refine SlIn.turn h1 ht fun k o hh hx=>?_
   rw [itcells_length] at hh
   rw [← izMks_len s ls j hj] at hx
   exact h.apart i j k o (by rw [hl];exact hi) (by rw [hl];exact hj) hij hh hx
 ·rw [izMks_length] at hi
  rw [e i hi]
  exact h.cap i (by rw [hl];exact hi)
 ·rw [izMks_length] at hi hk
  rw [e i hi,e k hk]
  exact h.apart i k x o (by rw [hl];exact hi) (by rw [hl];exact hk) hne
 ·rw [izMks_length] at hi ⊢
  rw [e i hi]
  have:=h.free i x o (by rw [hl];exact hi)
  rw [hl] at this
  exact this
theorem markIzs (s:Int) (s0:0≤s) (s1:s≤549755813888) (b t:Nat) (v:Value) (vs:List Value) (ls:List (List It)) (hT:ls.length≤1048576) (hS:izSum ls ls.length≤1048576) (w:World) (H:Hid (IzV b t w v vs ls)) :
 Calls Tryz.prog 111 #[v,.int .i64 s] w fun e w'=>e = .returned (.int .i64 (s+3*(izSum ls ls.length:Int)))∧IzV b t w' v vs (izMks s ls ls.length)∧Turn (izHits vs ls) w w':=by
 obtain ⟨a,cap,rfl⟩:=H.out.outer.shape
 obtain ⟨len,hlen⟩:∃ n,ls.length=n:=⟨_,rfl⟩
 rw [hlen] at hT hS ⊢
 have Hlen:Hid (ls.length=len):=hlen
 have H:Hid (IzV b t w (.slice a len cap) vs ls):=by rw [← hlen];exact H
 clear hlen
 go_enter Tryz.func111,Tryz.ntmps111
 go_wp2
 go_loopw [1,5] (fun kk i wr=>∃ (j:Nat) (kv:Int),j≤len∧i = .int .i64 j∧kk = .int .i64 kv∧Hid (kv=s+3*(izSum ls j:Int))∧Hid (IzV b t wr (.slice a len cap) vs (izMks s ls j)∧Turn (izHits vs ls) w wr)) (fun _ i _=>len-(intOf i).toNat)
 case atStart=>exact ⟨0,s,Nat.zero_le _,rfl,rfl,by show s=s+3*((izSum ls 0:Nat):Int);rw [izSum_zero];simp,by rw [izMks_zero];exact H.out,Turn.refl _ _⟩
 case round =>
  obtain ⟨j,kv,hj,rfl,rfl,Hkv,H2⟩:=hrel
  by_cases hlt:j<len
  ·have hjl:j<ls.length:=by rw [Hlen.out];exact hlt
   have hml:=izMks_length s ls j
   have hout:SlIn b t wr (.slice a len cap) len vs:=by
    have:=H2.out.1.outer
    rw [hml,Hlen.out] at this
    exact this
   have hne:vs≠[]:=by
    intro e
    have:=H2.out.1.len
    rw [e,hml] at this
    simp at this
    omega
   obtain ⟨g,off,ha,h1,h2,h3⟩:=SlIn.some hout hne
   subst ha
   have hc:=(SlIn.cells hout j (by rw [H2.out.1.len];omega)).1
   have e0:vs[j]?.getD undef=izV vs j:=by
    unfold izV
    rw [List.getElem?_eq_getElem (by rw [H2.out.1.len];omega)]
    rfl
   rw [e0] at hc
   have hs:=izSum_succ hjl
   have hm:=izSum_mono (ls:=ls) (i:=j+1) (j:=len) (by omega) (by rw [Hlen.out];exact Nat.le_refl _)
   have k0:0≤kv:=by have:=Hkv.out;omega
   have k1:kv≤1099511627776:=by have:=Hkv.out;omega
   have hrow:ItIn b t wr (izV vs j) (izAt ls j):=by
    have:=H2.out.1.row j (by rw [hml];exact hjl)
    rw [izMks_at s ls j hjl,if_neg (by omega)] at this
    exact this
   have C:=markItsG kv k0 k1 b t (izV vs j) (izAt ls j) (by omega) wr hrow
   have St:Hid (∀ w',ItIn b t w' (izV vs j) (itMksF kv (izAt ls j) (izAt ls j).length)→Turn (Hits (izV vs j) ((izAt ls j).length*3)) wr w'→IzV b t w' (.slice (some ⟨g,off,none⟩) len cap) vs (izMks s ls (j+1))∧Turn (izHits vs ls) w w'):=fun w' q1 q2=>by
    rw [Hkv.out] at q1
    exact ⟨H2.out.1.step hjl q1 q2,H2.out.2.trans (q2.wide fun k o hh=>⟨j,hjl,hh⟩)⟩
   have Hs:Hid (izSum ls (j+1)=izSum ls j+(izAt ls j).length):=hs
   generalize itMksF kv (izAt ls j) (izAt ls j).length=ml at C St
   obtain ⟨i1,c1,ev,-⟩:=H2.out.1.cap j (by rw [hml];exact hjl)
   rw [izMks_len s ls j hjl] at ev
   rw [ev] at hc
   rw [ev] at C St
   generalize (izAt ls j).length=n at C St Hs hc ev
   clear hrow e0 h1 h2 h3 hs hm ev hne hout
   have hlt':(j:Int)<(len:Int):=by omega
   go_wp2_with fail
   refine C.mono ?_
   rintro e w2 ⟨rfl,q1,q2⟩
   have H3:Hid (IzV b t w2 (.slice (some ⟨g,off,none⟩) len cap) vs (izMks s ls (j+1))∧Turn (izHits vs ls) w w2):=St.out w2 q1 q2
   clear q1 q2 hc St C
   go_wp2
   go_roundw
   case rel =>
    refine ⟨j+1,_,by omega,by go_num,rfl,?_,H3⟩
    show _=s+3*((izSum ls (j+1):Nat):Int)
    rw [Hs.out,Hkv.out]
    push_cast
    omega
   case measure=>simp [intOf];omega
  ·obtain rfl:j=len:=by omega
   go_wp2
   go_ret
   exact ⟨by rw [← Hkv.out];rfl,H2.out⟩
theorem heldIzs (s:Int) (s0:0≤s) (s1:s≤549755813888) (a:Option Addr) (cap:Nat) (ls:List (List It)) (hT:ls.length≤1048576) (hS:izSum ls ls.length≤1048576) (w:World) (H:Hid (IzAt w a (izMks s ls ls.length))) :
 Calls Tryz.prog 113 #[.slice a ls.length cap,.int .i64 s] w fun e w'=>e = .returned (.int .i64 (s+3*(izSum ls ls.length:Int)))∧w'=w:=by
 obtain ⟨len,hlen⟩:∃ n,ls.length=n:=⟨_,rfl⟩
 rw [hlen] at hT hS H ⊢
 have Hlen:Hid (ls.length=len):=hlen
 clear hlen
 go_enter Tryz.func113,Tryz.ntmps113
 go_wp2
 go_loop [1,5] (fun kk i=>∃ (j:Nat) (kv:Int),j≤len∧i = .int .i64 j∧kk = .int .i64 kv∧Hid (kv=s+3*(izSum ls j:Int))) (fun _ i=>len-(intOf i).toNat)
 case atStart=>exact ⟨0,s,Nat.zero_le _,rfl,rfl,by show s=s+3*((izSum ls 0:Nat):Int);rw [izSum_zero];simp⟩
 case round =>
  obtain ⟨j,kv,hj,rfl,rfl,Hkv⟩:=hrel
  by_cases hlt:j<len
  ·have hjl:j<ls.length:=by rw [Hlen.out];exact hlt
   obtain ⟨g,off,i1,c1,ha,hb,hc,hr,-⟩:=H.out j (by rw [izMks_length];exact hjl)
   subst ha
   rw [izMks_at s ls _ hjl,if_pos hlt] at hc hr
   rw [izMk_length] at hc
   have hs:=izSum_succ hjl
   have hm:=izSum_mono (ls:=ls) (i:=j+1) (j:=len) (by omega) (by rw [Hlen.out];exact Nat.le_refl _)
   have k0:0≤kv:=by have:=Hkv.out;omega
   have k1:kv≤1099511627776:=by have:=Hkv.out;omega
   unfold izMk at hr
   rw [← Hkv.out] at hr
   have C:=heldItsF kv k0 k1 i1 c1 (izAt ls j) (by omega) w hr
   have Hs:Hid (izSum ls (j+1)=izSum ls j+(izAt ls j).length):=hs
   generalize (izAt ls j).length=n at C Hs hc hs
   have k2:¬ kv+3*(n:Int)<0:=by omega
   clear hr hm hs
   have hlt':(j:Int)<(len:Int):=by omega
   go_wp2_with fail
   refine C.mono ?_
   rintro e w2 ⟨rfl,hw⟩
   have hw:=hw.symm
   subst hw
   generalize hkn:kv+3*(n:Int)=kn at k2 ⊢
   have Hkn:Hid (kn=kv+3*(n:Int)):=hkn.symm
   clear hkn
   go_wp2
   go_round
   case rel =>
    refine ⟨j+1,_,by omega,by go_num,rfl,?_⟩
    show _=s+3*((izSum ls (j+1):Nat):Int)
    rw [Hs.out,Hkn.out,Hkv.out]
    push_cast
    omega
   case measure=>simp [intOf];omega
  ·obtain rfl:j=len:=by omega
   go_wp2
   go_ret
   exact ⟨by rw [← Hkv.out];rfl,rfl⟩
def Rw.mk' (s:Int) (r:Rw):Rw:=⟨r.most,izMks s r.lists r.lists.length⟩
theorem eqRws (v1 v2:Value) (r:Rw) (w:World) (hB:r.big≤1048576) (h1:Hid (RwAt w v1 r)) (h2:Hid (RwAt w v2 r)) :
 Calls Tryz.prog 47 #[v1,v2] w fun e w'=>e = .returned (.bool true)∧Bel w w':=by
 obtain ⟨a1,c1,rfl,k1⟩:=h1.out
 obtain ⟨a2,c2,rfl,k2⟩:=h2.out
 obtain ⟨hT,-,hin⟩:=Rw.small hB
 have E:=fun w h1 h2=>eqIzs a1 a2 c1 c2 r.lists w hT hin h1 h2
 clear h1 h2 hin hT hB
 obtain ⟨f,l⟩:=r
 simp only [Rw.val] at E k1 k2 ⊢
 generalize l.length=n at E ⊢
 have E':Hid _:=E
 clear E
 have X:Hid (IzAt ((w.alloc (.cells #[.int .i64 f,.slice a1 n c1] 44)).alloc (.cells #[.int .i64 f,.slice a2 n c2] 44)) a1 l∧IzAt ((w.alloc (.cells #[.int .i64 f,.slice a1 n c1] 44)).alloc (.cells #[.int .i64 f,.slice a2 n c2] 44)) a2 l∧Bel w ((w.alloc (.cells #[.int .i64 f,.slice a1 n c1] 44)).alloc (.cells #[.int .i64 f,.slice a2 n c2] 44))) :=
  ⟨(k1.alloc _).alloc _,(k2.alloc _).alloc _,((Below.refl _ _).alloc nlr _).alloc (by simp) _⟩
 clear k1 k2
 go_enter Tryz.func47,Tryz.ntmps47
 go_wp2_with fail
 refine (E'.out _ X.out.1 X.out.2.1).mono ?_
 rintro e w1 ⟨rfl,q⟩
 have X1:Hid (Bel w w1):=X.out.2.2.trans (q.mono X.out.2.2.size)
 clear q
 go_wp2
 go_ret
 exact ⟨rfl,X1.out⟩
theorem markRws (s:Int) (s0:0≤s) (s1:s≤549755813888) (b t:Nat) (v:Value) (r:Rw) (w:World) (hB:r.big≤1048576) (H:Hid (RwIn b t w v r)) :
 Calls Tryz.prog 53 #[v,.int .i64 s] w fun e w'=>e = .returned (.int .i64 (s+3*(izSum r.lists r.lists.length:Int)))∧RwIn b t w' v (r.mk' s)∧Span b t w w':=by
 obtain ⟨a,c,rfl,vs,H⟩:=H.out
 obtain ⟨hT,hS,-⟩:=Rw.small hB
 have C:=fun w h=>markIzs s s0 s1 b t (.slice a r.lists.length c) vs r.lists hT hS w h
 have Fin:Hid (∀ w',IzV b t w' (.slice a r.lists.length c) vs (izMks s r.lists r.lists.length)→RwIn b t w' (r.val a c) (r.mk' s)):=fun w' h=>⟨a,c,by simp [Rw.val,Rw.mk',izMks_length],vs,by simp only [Rw.mk',izMks_length];exact h⟩
 have Sp:Hid (∀ w1 w',IzV b t w1 (.slice a r.lists.length c) vs r.lists→Turn (izHits vs r.lists) w1 w'→Span b t w1 w'):=fun w1 w' h g=>Span.of_turn g fun k o hh=>by
  obtain ⟨i,hi,hh⟩:=hh
  have:=SlIn.in (h.row i hi) (k:=k) (o:=o)
  rw [itcells_length] at this
  exact this hh
 generalize r.mk' s=r' at Fin ⊢
 generalize (izSum r.lists r.lists.length:Int)=N at C ⊢
 obtain ⟨f,l⟩:=r
 simp only [Rw.val] at C Fin Sp H ⊢
 generalize izMks s l l.length=l' at C Fin
 generalize l.length=n at C Fin Sp H ⊢
 have C':Hid _:=C
 have X:Hid (IzV b t (w.alloc (.cells #[.int .i64 f,.slice a n c] 44)) (.slice a n c) vs l∧Bel w (w.alloc (.cells #[.int .i64 f,.slice a n c] 44))):=⟨H.below ((Below.refl _ _).alloc nlr _),(Below.refl _ _).alloc nlr _⟩
 clear C H hT hS hB
 go_enter Tryz.func53,Tryz.ntmps53
 go_wp2_with fail
 refine (C'.out _ X.out.1).mono ?_
 rintro e w1 ⟨rfl,q1,q2⟩
 have X1:Hid (RwIn b t w1 (.agg #[.int .i64 f,.slice a n c]) r'∧Span b t w w1):=⟨Fin.out _ q1,(Span.of_below X.out.2).trans (Sp.out _ _ X.out.1 q2)⟩
 clear q1 q2 X Fin Sp C'
 go_wp2
 go_ret
 exact ⟨rfl,X1.out⟩
theorem heldRws (s:Int) (s0:0≤s) (s1:s≤549755813888) (v:Value) (r:Rw) (w:World) (hB:r.big≤1048576) (H:Hid (RwAt w v (r.mk' s))) :
 Calls Tryz.prog 59 #[v,.int .i64 s] w fun e w'=>e = .returned (.int .i64 (s+3*(izSum r.lists r.lists.length:Int)))∧Bel w w':=by
 obtain ⟨a,c,rfl,K⟩:=H.out
 obtain ⟨hT,hS,-⟩:=Rw.small hB
 have C:=fun w h=>heldIzs s s0 s1 a c r.lists hT hS w h
 have h0:¬ s+3*(izSum r.lists r.lists.length:Int)<0:=by omega
 have hlen:(r.mk' s).lists.length=r.lists.length:=by simp [Rw.mk',izMks_length]
 unfold Rw.val
 rw [hlen]
 have Hx:IzAt w a (izMks s r.lists r.lists.length):=K
 have hf:(r.mk' s).most=r.most:=rfl
 rw [hf]
 clear H K hlen hf
 generalize izMks s r.lists r.lists.length=l' at C Hx
 generalize hN:s+3*(izSum r.lists r.lists.length:Int)=N at C h0 ⊢
 generalize r.lists.length=n at C ⊢
 generalize r.most=f
 have C':Hid _:=C
 have X:Hid (IzAt (w.alloc (.cells #[.int .i64 f,.slice a n c] 44)) a l'∧Bel w (w.alloc (.cells #[.int .i64 f,.slice a n c] 44))):=⟨Hx.alloc _,(Below.refl _ _).alloc nlr _⟩
 clear C Hx hT hS hB hN
 go_enter Tryz.func59,Tryz.ntmps59
 go_wp2_with fail
 refine (C'.out _ X.out.1).mono ?_
 rintro e w1 ⟨rfl,rfl⟩
 go_wp2
 go_ret
 exact ⟨rfl,X.out.2⟩
end Go.Proofs.YtmfabeghfdoibaaGreat
