import Derived.Test.YtmfabeghfdoibaaGreatQT9Nums
import Derived.Test.YtmfabeghfdoibaaGreatQT41FsStrT
import Derived.Test.YtmfabeghfdoibaaGreatQT42RwStr
set_option maxHeartbeats 6400000
set_option maxRecDepth 100000
namespace Go.Proofs.YtmfabeghfdoibaaGreat
open Go.RowKit
theorem eqRu (r:Ru) (w:World) :
 Calls Tryz.prog 106 #[r.val,r.val] w fun e w'=>e = .returned (.bool true)∧Bel w w':=by
 unfold Ru.val
 obtain ⟨v0,v1,v2,v3,v4,v5,v6,v7,v8,v9⟩:=r
 simp only []
 go_enter Tryz.func106,Tryz.ntmps106
 go_wp2
 go_ret
 exact ⟨rfl,((Below.refl _ w).alloc nlr _).alloc (by simp) _⟩
theorem eqRus (a1 a2:Option Addr) (cap1 cap2:Nat) (l:List Ru) (w:World) (hT:l.length≤1048576) (h1:Hid (RusAt w a1 l)) (h2:Hid (RusAt w a2 l)) :
 Calls Tryz.prog 45 #[.slice a1 l.length cap1,.slice a2 l.length cap2] w fun e w'=>e = .returned (.bool true)∧Bel w w':=by
 obtain ⟨len,hlen⟩:∃ n,l.length=n:=⟨_,rfl⟩
 rw [hlen] at hT ⊢
 have Hlen:Hid (l.length=len):=hlen
 clear hlen
 go_enter Tryz.func45,Tryz.ntmps45
 go_wp2
 go_loopw [5] (fun i wr=>∃ k:Nat,k≤len∧i = .int .i64 k∧Hid (Bel w wr)) (fun i _=>len-(intOf i).toNat)
 case atStart=>exact ⟨0,Nat.zero_le _,rfl,Below.refl _ _⟩
 case round =>
  obtain ⟨k,hk,rfl,hb⟩:=hrel
  by_cases hlt:k<len
  ·have R1:Hid (RusAt wr a1 l):=h1.out.below hb.out
   have R2:Hid (RusAt wr a2 l):=h2.out.below hb.out
   obtain ⟨b1,o1,ha1,-⟩:=R1.out k (by rw [Hlen.out];exact hlt)
   obtain ⟨b2,o2,ha2,-⟩:=R2.out k (by rw [Hlen.out];exact hlt)
   subst ha1;subst ha2
   have F1:=fun p:BelW wr.heap.size wr=>(R1.out.below p.h).cells (k:=k) (by rw [Hlen.out];exact hlt)
   have F2:=fun p:BelW wr.heap.size wr=>(R2.out.below p.h).cells (k:=k) (by rw [Hlen.out];exact hlt)
   have E:=fun w=>eqRu (ruAt l k) w
   unfold Ru.val at E
   generalize ruAt l k=r at F1 F2 E
   have f1_0:=fun p=>(F1 p).1
   have f1_1:=fun p=>(F1 p).2.1
   have f1_2:=fun p=>(F1 p).2.2.1
   have f1_3:=fun p=>(F1 p).2.2.2.1
   have f1_4:=fun p=>(F1 p).2.2.2.2.1
   have f1_5:=fun p=>(F1 p).2.2.2.2.2.1
   have f1_6:=fun p=>(F1 p).2.2.2.2.2.2.1
   have f1_7:=fun p=>(F1 p).2.2.2.2.2.2.2.1
   have f1_8:=fun p=>(F1 p).2.2.2.2.2.2.2.2.1
   have f1_9:=fun p=>(F1 p).2.2.2.2.2.2.2.2.2
   have f2_0:=fun p=>(F2 p).1
   have f2_1:=fun p=>(F2 p).2.1
   have f2_2:=fun p=>(F2 p).2.2.1
   have f2_3:=fun p=>(F2 p).2.2.2.1
   have f2_4:=fun p=>(F2 p).2.2.2.2.1
   have f2_5:=fun p=>(F2 p).2.2.2.2.2.1
   have f2_6:=fun p=>(F2 p).2.2.2.2.2.2.1
   have f2_7:=fun p=>(F2 p).2.2.2.2.2.2.2.1
   have f2_8:=fun p=>(F2 p).2.2.2.2.2.2.2.2.1
   have f2_9:=fun p=>(F2 p).2.2.2.2.2.2.2.2.2
   clear F1 F2
   have hlt':(k:Int)<(len:Int):=by omega
   go_wp2
   haveI:Nonempty (BelW wr.heap.size wr):=⟨⟨wr,Below.refl _ _⟩⟩
   refine rgb wr.heap.size (by kernel_rfl) (by kernel_rfl) ?_
   repeat (quiet_step ((go_at_call 106;refine qb (E _))))
   refine wpQuiet_nil ?_
   intro wq hx
   have hq:=BelW.out hx
   have B:Hid (Bel w wq):=hb.out.trans (hq.mono hb.out.size)
   clear hx hq f1_0 f1_1 f1_2 f1_3 f1_4 f1_5 f1_6 f1_7 f1_8 f1_9 f2_0 f2_1 f2_2 f2_3 f2_4 f2_5 f2_6 f2_7 f2_8 f2_9
   go_wp2
   go_roundw
   case rel=>exact ⟨k+1,by omega,by go_num,B⟩
   case measure=>simp [intOf];omega
  ·go_wp2
   go_ret
   exact ⟨rfl,hb.out⟩
def ruMkF (s:Int) (i:Nat):Ru:=⟨s+10*(i:Int),s+10*(i:Int)+1,s+10*(i:Int)+2,s+10*(i:Int)+3,s+10*(i:Int)+4,s+10*(i:Int)+5,s+10*(i:Int)+6,s+10*(i:Int)+7,s+10*(i:Int)+8,s+10*(i:Int)+9⟩
def ruMksF (s:Int) (L:List Ru) (j:Nat):List Ru:=(List.range j).map (ruMkF s)++L.drop j
theorem ruMksF_length (s:Int) (L:List Ru) (j:Nat) (h:j≤L.length):(ruMksF s L j).length=L.length:=by simp [ruMksF];omega
theorem ruMksF_zero (s:Int) (L:List Ru):ruMksF s L 0=L:=by simp [ruMksF]
theorem ruMksF_step (s:Int) (L:List Ru) (j:Nat) (h:j<L.length):(ruMksF s L j).set j (ruMkF s j)=ruMksF s L (j+1):=by
 unfold ruMksF
 rw [List.set_append_right _ _ (by simp),List.range_succ,List.map_append]
 simp
 rw [List.drop_eq_getElem_cons h]
 rfl
theorem ruMksF_end (s:Int) (L:List Ru) (j:Nat) (hj:j<L.length):ruAt (ruMksF s L L.length) j=ruMkF s j:=by
 have:j<L.length:=hj
 simp [ruMksF,ruAt,this]
theorem heldRusF (s:Int) (s0:0≤s) (s1:s≤1099511627776) (a:Option Addr) (cap:Nat) (T:List Ru) (hT:T.length≤1048576) (w:World) (H:Hid (RusAt w a (ruMksF s T T.length))) :
 Calls Tryz.prog 57 #[.slice a T.length cap,.int .i64 s] w fun e w'=>e = .returned (.int .i64 (s+10*(T.length:Int)))∧w'=w:=by
 have Hc:Hid (∀ j,j<T.length→∃ b off,a=some ⟨b,off,none⟩∧∀ kv:Int,kv=s+10*(j:Int)→w.cell? ⟨b,off+j*10,none⟩=some (.int .i64 (kv))∧w.cell? ⟨b,off+j*10+1,none⟩=some (.int .i64 (kv+1))∧w.cell? ⟨b,off+j*10+2,none⟩=some (.int .i64 (kv+2))∧w.cell? ⟨b,off+j*10+3,none⟩=some (.int .i64 (kv+3))∧w.cell? ⟨b,off+j*10+4,none⟩=some (.int .i64 (kv+4))∧w.cell? ⟨b,off+j*10+5,none⟩=some (.int .i64 (kv+5))∧w.cell? ⟨b,off+j*10+6,none⟩=some (.int .i64 (kv+6))∧w.cell? ⟨b,off+j*10+7,none⟩=some (.int .i64 (kv+7))∧w.cell? ⟨b,off+j*10+8,none⟩=some (.int .i64 (kv+8))∧w.cell? ⟨b,off+j*10+9,none⟩=some (.int .i64 (kv+9))):=by
  show ∀ j,j<T.length→_
  intro j hj
  obtain ⟨b,off,e,_,c0,c1,c2,c3,c4,c5,c6,c7,c8,c9⟩:=H.out j (by rw [ruMksF_length s T _ nlr];exact hj)
  rw [ruMksF_end s T j hj] at c0 c1 c2 c3 c4 c5 c6 c7 c8 c9
  refine ⟨b,off,e,fun kv hkv=>?_⟩
  subst hkv
  exact ⟨c0,c1,c2,c3,c4,c5,c6,c7,c8,c9⟩
 generalize T.length=len at hT Hc ⊢
 clear H
 go_enter Tryz.func57,Tryz.ntmps57
 go_wp2
 go_loop [1,5] (fun kk i=>∃ (j:Nat) (kv:Int),j≤len∧i = .int .i64 j∧kk = .int .i64 kv∧kv=s+10*(j:Int)) (fun _ i=>len-(intOf i).toNat)
 case atStart=>exact ⟨0,s,Nat.zero_le _,rfl,rfl,by simp⟩
 case round =>
  obtain ⟨j,kv,hj,rfl,rfl,hkv⟩:=hrel
  have Hkv:Hid (kv=s+10*(j:Int)):=hkv
  have k0:0≤kv:=by omega
  have k1:kv≤1099522113536:=by omega
  by_cases hlt:j<len
  ·obtain ⟨b,off,ha,hc⟩:=Hc.out j hlt
   obtain ⟨c0,c1,c2,c3,c4,c5,c6,c7,c8,c9⟩:=hc kv hkv
   subst ha
   clear hkv hc
   go_wp2
   go_round
   case rel=>exact ⟨j+1,kv+10,by omega,by go_num,by go_num,by rw [Hkv.out];push_cast;omega⟩
   case measure=>simp [intOf];omega
  ·obtain rfl:j=len:=by omega
   clear hkv
   go_wp2
   go_ret
   exact ⟨by rw [← Hkv.out];rfl,rfl⟩
theorem markRusG (s:Int) (s0:0≤s) (s1:s≤1099511627776) (b t:Nat) (v:Value) (T:List Ru) (hT:T.length≤1048576) (w:World) (H:Hid (RuIn b t w v T)) :
 Calls Tryz.prog 51 #[v,.int .i64 s] w fun e w'=>e = .returned (.int .i64 (s+10*(T.length:Int)))∧RuIn b t w' v (ruMksF s T T.length)∧Turn (Hits v (T.length*10)) w w':=by
 obtain ⟨a,cap,rfl⟩:=SlIn.shape H.out
 obtain ⟨len,hlen⟩:∃ n,T.length=n:=⟨_,rfl⟩
 have hcl:=rucells_length T
 have H:Hid (SlIn b t w (.slice a len cap) len (rucells T)):=by
  have h:=H.out
  unfold RuIn at h
  rw [hlen] at h
  exact h
 rw [hlen] at hT ⊢
 have Hlen:Hid (T.length=len):=hlen
 have Hcl:Hid (∀ j,j≤len→(rucells (ruMksF s T j)).length=len*10):=fun j hj=>by rw [rucells_length,ruMksF_length s T j (by rw [Hlen.out];exact hj),Hlen.out]
 clear hlen hcl
 go_enter Tryz.func51,Tryz.ntmps51
 go_wp2
 go_loopw [1,5] (fun kk i wr=>∃ (j:Nat) (kv:Int),j≤len∧i = .int .i64 j∧kk = .int .i64 kv∧kv=s+10*(j:Int)∧Hid (SlIn b t wr (.slice a len cap) len (rucells (ruMksF s T j))∧Turn (Hits (.slice a len cap) (len*10)) w wr)) (fun _ i _=>len-(intOf i).toNat)
 case atStart=>exact ⟨0,s,Nat.zero_le _,rfl,rfl,by simp,by rw [ruMksF_zero];exact H.out,Turn.refl _ _⟩
 case round =>
  obtain ⟨j,kv,hj,rfl,rfl,hkv,H2⟩:=hrel
  have Hkv:Hid (kv=s+10*(j:Int)):=hkv
  have k0:0≤kv:=by omega
  have k1:kv≤1099522113536:=by omega
  by_cases hlt:j<len
  ·have hcl:=Hcl.out j hj
   obtain ⟨g,off,ha,h1,h2,h3⟩:=SlIn.some H2.out.1 (by intro e;rw [e] at hcl;simp at hcl;omega)
   subst ha
   have em:ruMkF s j=⟨kv,kv+1,kv+1+1,kv+1+1+1,kv+1+1+1+1,kv+1+1+1+1+1,kv+1+1+1+1+1+1,kv+1+1+1+1+1+1+1,kv+1+1+1+1+1+1+1+1,kv+1+1+1+1+1+1+1+1+1⟩:=by
    rw [hkv]
    unfold ruMkF
    simp only [Ru.mk.injEq]
    refine ⟨by first|trivial|omega,by first|trivial|omega,by first|trivial|omega,by first|trivial|omega,by first|trivial|omega,by first|trivial|omega,by first|trivial|omega,by first|trivial|omega,by first|trivial|omega,by first|trivial|omega⟩
   have hput:=H2.out.1
   have hput:=SlIn.put hput (j*10) (by omega) (.int .i64 (kv))
   have hput:=SlIn.put hput (j*10+1) (by simp only [List.length_set];omega) (.int .i64 (kv+1))
   have hput:=SlIn.put hput (j*10+2) (by simp only [List.length_set];omega) (.int .i64 (kv+1+1))
   have hput:=SlIn.put hput (j*10+3) (by simp only [List.length_set];omega) (.int .i64 (kv+1+1+1))
   have hput:=SlIn.put hput (j*10+4) (by simp only [List.length_set];omega) (.int .i64 (kv+1+1+1+1))
   have hput:=SlIn.put hput (j*10+5) (by simp only [List.length_set];omega) (.int .i64 (kv+1+1+1+1+1))
   have hput:=SlIn.put hput (j*10+6) (by simp only [List.length_set];omega) (.int .i64 (kv+1+1+1+1+1+1))
   have hput:=SlIn.put hput (j*10+7) (by simp only [List.length_set];omega) (.int .i64 (kv+1+1+1+1+1+1+1))
   have hput:=SlIn.put hput (j*10+8) (by simp only [List.length_set];omega) (.int .i64 (kv+1+1+1+1+1+1+1+1))
   have hput:=SlIn.put hput (j*10+9) (by simp only [List.length_set];omega) (.int .i64 (kv+1+1+1+1+1+1+1+1+1))
   have hset:=rucells_set (ruMksF s T j) j (ruMkF s j)
   rw [ruMksF_step s T j (by rw [Hlen.out];exact hlt)] at hset
   simp only [em] at hset
   rw [hset] at hput
   have z0:=(SlIn.cells H2.out.1 (j*10) (by omega)).2
   have y0:=(SlIn.cells H2.out.1 (j*10) (by omega)).1
   have z1:=(SlIn.cells H2.out.1 (j*10+1) (by omega)).2
   have y1:=(SlIn.cells H2.out.1 (j*10+1) (by omega)).1
   have z2:=(SlIn.cells H2.out.1 (j*10+2) (by omega)).2
   have y2:=(SlIn.cells H2.out.1 (j*10+2) (by omega)).1
   have z3:=(SlIn.cells H2.out.1 (j*10+3) (by omega)).2
   have y3:=(SlIn.cells H2.out.1 (j*10+3) (by omega)).1
   have z4:=(SlIn.cells H2.out.1 (j*10+4) (by omega)).2
   have y4:=(SlIn.cells H2.out.1 (j*10+4) (by omega)).1
   have z5:=(SlIn.cells H2.out.1 (j*10+5) (by omega)).2
   have y5:=(SlIn.cells H2.out.1 (j*10+5) (by omega)).1
   have z6:=(SlIn.cells H2.out.1 (j*10+6) (by omega)).2
   have y6:=(SlIn.cells H2.out.1 (j*10+6) (by omega)).1
   have z7:=(SlIn.cells H2.out.1 (j*10+7) (by omega)).2
   have y7:=(SlIn.cells H2.out.1 (j*10+7) (by omega)).1
   have z8:=(SlIn.cells H2.out.1 (j*10+8) (by omega)).2
   have y8:=(SlIn.cells H2.out.1 (j*10+8) (by omega)).1
   have z9:=(SlIn.cells H2.out.1 (j*10+9) (by omega)).2
   have y9:=(SlIn.cells H2.out.1 (j*10+9) (by omega)).1
   simp only [← Nat.add_assoc] at hput z0 y0 z1 y1 z2 y2 z3 y3 z4 y4 z5 y5 z6 y6 z7 y7 z8 y8 z9 y9
   have H3:Hid (SlIn b t ((((((((((wr.setCell ⟨g,off+j*10,none⟩ (.int .i64 (kv))).setCell ⟨g,off+j*10+1,none⟩ (.int .i64 (kv+1))).setCell ⟨g,off+j*10+2,none⟩ (.int .i64 (kv+1+1))).setCell ⟨g,off+j*10+3,none⟩ (.int .i64 (kv+1+1+1))).setCell ⟨g,off+j*10+4,none⟩ (.int .i64 (kv+1+1+1+1))).setCell ⟨g,off+j*10+5,none⟩ (.int .i64 (kv+1+1+1+1+1))).setCell ⟨g,off+j*10+6,none⟩ (.int .i64 (kv+1+1+1+1+1+1))).setCell ⟨g,off+j*10+7,none⟩ (.int .i64 (kv+1+1+1+1+1+1+1))).setCell ⟨g,off+j*10+8,none⟩ (.int .i64 (kv+1+1+1+1+1+1+1+1))).setCell ⟨g,off+j*10+9,none⟩ (.int .i64 (kv+1+1+1+1+1+1+1+1+1))) (.slice (some ⟨g,off,none⟩) len cap) len (rucells (ruMksF s T (j+1)))∧Turn (Hits (.slice (some ⟨g,off,none⟩) len cap) (len*10)) w ((((((((((wr.setCell ⟨g,off+j*10,none⟩ (.int .i64 (kv))).setCell ⟨g,off+j*10+1,none⟩ (.int .i64 (kv+1))).setCell ⟨g,off+j*10+2,none⟩ (.int .i64 (kv+1+1))).setCell ⟨g,off+j*10+3,none⟩ (.int .i64 (kv+1+1+1))).setCell ⟨g,off+j*10+4,none⟩ (.int .i64 (kv+1+1+1+1))).setCell ⟨g,off+j*10+5,none⟩ (.int .i64 (kv+1+1+1+1+1))).setCell ⟨g,off+j*10+6,none⟩ (.int .i64 (kv+1+1+1+1+1+1))).setCell ⟨g,off+j*10+7,none⟩ (.int .i64 (kv+1+1+1+1+1+1+1))).setCell ⟨g,off+j*10+8,none⟩ (.int .i64 (kv+1+1+1+1+1+1+1+1))).setCell ⟨g,off+j*10+9,none⟩ (.int .i64 (kv+1+1+1+1+1+1+1+1+1)))):=by
    refine ⟨hput,H2.out.2.trans ?_⟩
    refine (Turn.trans (Turn.trans (Turn.trans (Turn.trans (Turn.trans (Turn.trans (Turn.trans (Turn.trans (Turn.trans ((turn_set _ _ _ _).wide ?_) ((turn_set _ _ _ _).wide ?_)) ((turn_set _ _ _ _).wide ?_)) ((turn_set _ _ _ _).wide ?_)) ((turn_set _ _ _ _).wide ?_)) ((turn_set _ _ _ _).wide ?_)) ((turn_set _ _ _ _).wide ?_)) ((turn_set _ _ _ _).wide ?_)) ((turn_set _ _ _ _).wide ?_)) ((turn_set _ _ _ _).wide ?_))
    all_goals (rintro k o ⟨rfl,rfl⟩;exact ⟨off,len,cap,rfl,by omega,by omega⟩)
   generalize (rucells (ruMksF s T j))[j*10]?.getD undef=u0 at y0;generalize (rucells (ruMksF s T j))[j*10+1]?.getD undef=u1 at y1;generalize (rucells (ruMksF s T j))[j*10+2]?.getD undef=u2 at y2;generalize (rucells (ruMksF s T j))[j*10+3]?.getD undef=u3 at y3;generalize (rucells (ruMksF s T j))[j*10+4]?.getD undef=u4 at y4;generalize (rucells (ruMksF s T j))[j*10+5]?.getD undef=u5 at y5;generalize (rucells (ruMksF s T j))[j*10+6]?.getD undef=u6 at y6;generalize (rucells (ruMksF s T j))[j*10+7]?.getD undef=u7 at y7;generalize (rucells (ruMksF s T j))[j*10+8]?.getD undef=u8 at y8;generalize (rucells (ruMksF s T j))[j*10+9]?.getD undef=u9 at y9
   clear hput hset hkv em hcl h1 h2 h3
   go_wp2
   go_roundw
   case rel=>exact ⟨j+1,kv+10,by omega,by go_num,by go_num,by rw [Hkv.out];push_cast;omega,H3⟩
   case measure=>simp [intOf];omega
  ·obtain rfl:j=len:=by omega
   go_wp2
   go_ret
   refine ⟨by rw [← Hkv.out];rfl,?_,H2.out.2⟩
   have h:=H2.out.1
   unfold RuIn
   rw [ruMksF_length s T _ (by rw [Hlen.out];omega),Hlen.out]
   exact h
def ruMkS (s:Int) (l:List Ru):List Ru:=ruMksF s l l.length
theorem ruMkS_length (s:Int) (l:List Ru):(ruMkS s l).length=l.length:=ruMksF_length s l l.length nlr
theorem eqRuW (v1 v2:Value) (l:List Ru) (w:World) (hT:l.length≤1048576) (h1:Hid (RusV w v1 l)) (h2:Hid (RusV w v2 l)) :
 Calls Tryz.prog 45 #[v1,v2] w fun e w'=>e = .returned (.bool true)∧Bel w w':=by
 obtain ⟨a1,c1,rfl,k1,_⟩:=h1.out
 obtain ⟨a2,c2,rfl,k2,_⟩:=h2.out
 exact eqRus a1 a2 c1 c2 l w hT k1 k2
theorem markRuS (s:Int) (s0:0≤s) (s1:s≤549755813888) (b t:Nat) (v:Value) (l:List Ru) (w:World) (hT:l.length≤1048576) (H:Hid (RusW b t w v l)) :
 Calls Tryz.prog 51 #[v,.int .i64 s] w fun e w'=>e = .returned (.int .i64 (s+10*(l.length:Int)))∧RusW b t w' v (ruMkS s l)∧Span b t w w' :=
 (markRusG s (by omega) (by omega) b t v l hT w H.out.1).mono fun e w' hh=>by
  obtain ⟨rfl,h1,h2⟩:=hh
  obtain ⟨a,c,rfl,hc⟩:=H.out.2
  refine ⟨rfl,⟨h1,a,c,by rw [ruMkS_length],by rw [ruMkS_length];exact hc⟩,Span.of_turn h2 fun k o hh=>?_⟩
  have:=SlIn.in H.out.1 (k:=k) (o:=o)
  rw [rucells_length] at this
  exact this hh
theorem heldRuS (s:Int) (s0:0≤s) (s1:s≤549755813888) (v:Value) (l:List Ru) (w:World) (hT:l.length≤1048576) (H:Hid (RusV w v (ruMkS s l))) :
 Calls Tryz.prog 57 #[v,.int .i64 s] w fun e w'=>e = .returned (.int .i64 (s+10*(l.length:Int)))∧Bel w w':=by
 obtain ⟨a,c,rfl,k,_⟩:=H.out
 rw [ruMkS_length]
 exact (heldRusF s (by omega) (by omega) a c l hT w k).mono fun e w' hh=>⟨hh.1,by rw [hh.2];exact Below.refl _ _⟩
theorem toRu (r:Ru) (w:World) :
 Calls Tryz.prog 92 #[r.val] w fun e w'=>e = .returned r.val∧w'=((w.alloc (.cells r.cells.toArray 154)).alloc (.cells r.cells.toArray 152)).alloc (.cells r.cells.toArray 152):=by
 unfold Ru.val Ru.cells
 obtain ⟨v0,v1,v2,v3,v4,v5,v6,v7,v8,v9⟩:=r
 simp only []
 go_enter Tryz.func92,Tryz.ntmps92
 go_wp2
 refine bodyPost_ret (v:=.agg #[.int .i64 v0,.int .i64 v1,.int .i64 v2,.int .i64 v3,.int .i64 v4,.int .i64 v5,.int .i64 v6,.int .i64 v7,.int .i64 v8,.int .i64 v9]) (by simp [results,Tryz.results92,go_sem]) rfl ⟨rfl,rfl⟩
theorem toRuB (r:Ru) (w:World) :
 Calls Tryz.prog 92 #[r.val] w fun e w'=>e = .returned r.val∧Bel w w' :=
 (toRu r w).mono fun _ _ h=>⟨h.1,by
  rw [h.2]
  exact (((Below.refl _ w).alloc nlr _).alloc (by simp) _).alloc (by simp;omega) _⟩
theorem toRus (a:Option Addr) (cap:Nat) (l:List Ru) (w:World) (hT:l.length≤1048576) (h:Hid (RusAt w a l)) :
 Calls Tryz.prog 35 #[.slice a l.length cap] w fun e w'=>∃ g,e = .returned (.slice (some ⟨g,0,none⟩) l.length l.length)∧RuRow w.heap.size w' (.slice (some ⟨g,0,none⟩) l.length l.length) l∧Bel w w':=by
 obtain ⟨i0,hi,hz0,hz1,hz2⟩:=info_parts ruInfo
 obtain ⟨len,hlen⟩:∃ n,l.length=n:=⟨_,rfl⟩
 unfold RuRow
 rw [hlen] at hT ⊢
 have Hlen:Hid (l.length=len):=hlen
 clear hlen
 have hmk:∀ wx,(Instr.makeSlice 40 (.int .i64 (len:Int)) (.int .i64 (len:Int))).run Tryz.prog wx = .ok (.slice (some ⟨wx.heap.size,0,none⟩) len len) (wx.alloc (.cells (madeCells #[.int .i64 0,.int .i64 0,.int .i64 0,.int .i64 0,.int .i64 0,.int .i64 0,.int .i64 0,.int .i64 0,.int .i64 0,.int .i64 0] (len*10)) 152)):=by
  intro wx
  have:=run_make (P:=Tryz.prog) wx 40 152 i0 (.agg #[.int .i64 0,.int .i64 0,.int .i64 0,.int .i64 0,.int .i64 0,.int .i64 0,.int .i64 0,.int .i64 0,.int .i64 0,.int .i64 0]) Tryz.underlying40 hi hz0 .i64 .i64 len len (by omega) (by omega) (by rw [hz2];omega) (by omega)
  rw [this,hz1];simp [Value.cells]
 have H0:Hid ((w.alloc (.cells (madeCells #[.int .i64 0,.int .i64 0,.int .i64 0,.int .i64 0,.int .i64 0,.int .i64 0,.int .i64 0,.int .i64 0,.int .i64 0,.int .i64 0] (len*10)) 152)).ownsRow w.heap.size 152 10 (.slice (some ⟨w.heap.size,0,none⟩) len len) len (rucells (l.take 0++List.replicate (len-0) ⟨0,0,0,0,0,0,0,0,0,0⟩))):=by
  have:=World.ownsRow_lit (size:=10) (e:=152) (base:=w.heap.size) w (madeCells #[.int .i64 0,.int .i64 0,.int .i64 0,.int .i64 0,.int .i64 0,.int .i64 0,.int .i64 0,.int .i64 0,.int .i64 0,.int .i64 0] (len*10)) len nlr (by unfold maxLen;omega) (by rw [size_madeCells])
  rw [ruMade] at this
  show World.ownsRow _ _ _ _ _ _ _
  simpa using this
 clear hi hz0 hz1 hz2
 go_enter Tryz.func35,Tryz.ntmps35
 go_wp2
 go_loopw [4] (fun i wr=>∃ k:Nat,k≤len∧i = .int .i64 k∧Hid (wr.ownsRow w.heap.size 152 10 (.slice (some ⟨w.heap.size,0,none⟩) len len) len (rucells (l.take k++List.replicate (len-k) ⟨0,0,0,0,0,0,0,0,0,0⟩))∧Bel w wr)) (fun i _=>len-(intOf i).toNat)
 case atStart=>exact ⟨0,Nat.zero_le _,rfl,H0.out,(Below.refl _ _).alloc nlr _⟩
 case round =>
  clear H0 hmk
  obtain ⟨k,hk,rfl,H1⟩:=hrel
  by_cases hlt:k<len
  ·have R:Hid (RusAt wr a l):=h.out.below H1.out.2
   obtain ⟨b1,o1,ha1,hb1,-⟩:=R.out k (by rw [Hlen.out];exact hlt)
   subst ha1
   obtain ⟨c0,c1,c2,c3,c4,c5,c6,c7,c8,c9⟩:=R.out.cells (k:=k) (by rw [Hlen.out];exact hlt)
   have hts:=ruTakeSet l len k Hlen.out hlt
   have T:=fun w=>toRuB (ruAt l k) w
   unfold Ru.val at T
   generalize ruAt l k=r at c0 c1 c2 c3 c4 c5 c6 c7 c8 c9 hts T
   have Hts:Hid _:=hts
   clear hts
   go_wp2_with fail
   refine (T _).mono ?_
   rintro e w2 ⟨rfl,b2⟩
   have hsz:w.heap.size<wr.heap.size:=(World.ownsRow.lt H1.out.1 _ rfl).2
   have H2:Hid (w2.ownsRow w.heap.size 152 10 (.slice (some ⟨w.heap.size,0,none⟩) len len) len (rucells (l.take k++List.replicate (len-k) ⟨0,0,0,0,0,0,0,0,0,0⟩))∧Bel w w2):=by
    refine ⟨?_,H1.out.2.trans (b2.mono H1.out.2.size)⟩
    have hh:=H1.out.1
    refine ⟨hh.1,hh.2.imp id ?_⟩
    rintro ⟨g0,cp,cur,h1,h2,h3,h4⟩
    cases h1
    exact ⟨_,_,cur,rfl,h2,by rw [b2.block _ hsz];exact h3,h4⟩
   have hL:(rucells (l.take k++List.replicate (len-k) ⟨0,0,0,0,0,0,0,0,0,0⟩)).length=len*10:=by
    rw [rucells_length];have:=Hlen.out;simp;omega
   have ex:∀ j,j<len*10→∃ v,w2.cell? ⟨w.heap.size,j,none⟩=some v:=by
    intro j hj
    rw [H2.out.1.cellAt j hj]
    exact ⟨_,List.getElem?_eq_getElem (by omega)⟩
   obtain ⟨y0,hy0⟩:=ex (k*10) (by omega)
   obtain ⟨y1,hy1⟩:=ex (k*10+1) (by omega)
   obtain ⟨y2,hy2⟩:=ex (k*10+2) (by omega)
   obtain ⟨y3,hy3⟩:=ex (k*10+3) (by omega)
   obtain ⟨y4,hy4⟩:=ex (k*10+4) (by omega)
   obtain ⟨y5,hy5⟩:=ex (k*10+5) (by omega)
   obtain ⟨y6,hy6⟩:=ex (k*10+6) (by omega)
   obtain ⟨y7,hy7⟩:=ex (k*10+7) (by omega)
   obtain ⟨y8,hy8⟩:=ex (k*10+8) (by omega)
   obtain ⟨y9,hy9⟩:=ex (k*10+9) (by omega)
   have z0:=H2.out.1.frozenAt (k*10)
   have z1:=H2.out.1.frozenAt (k*10+1)
   have z2:=H2.out.1.frozenAt (k*10+2)
   have z3:=H2.out.1.frozenAt (k*10+3)
   have z4:=H2.out.1.frozenAt (k*10+4)
   have z5:=H2.out.1.frozenAt (k*10+5)
   have z6:=H2.out.1.frozenAt (k*10+6)
   have z7:=H2.out.1.frozenAt (k*10+7)
   have z8:=H2.out.1.frozenAt (k*10+8)
   have z9:=H2.out.1.frozenAt (k*10+9)
   have H3:Hid (_∧Bel w ((((((((((w2.setCell ⟨w.heap.size,k*10,none⟩ (.int .i64 r.id)).setCell ⟨w.heap.size,k*10+1,none⟩ (.int .i64 r.prio)).setCell ⟨w.heap.size,k*10+2,none⟩ (.int .i64 r.snet)).setCell ⟨w.heap.size,k*10+3,none⟩ (.int .i64 r.sbits)).setCell ⟨w.heap.size,k*10+4,none⟩ (.int .i64 r.dnet)).setCell ⟨w.heap.size,k*10+5,none⟩ (.int .i64 r.dbits)).setCell ⟨w.heap.size,k*10+6,none⟩ (.int .i64 r.proto)).setCell ⟨w.heap.size,k*10+7,none⟩ (.int .i64 r.low)).setCell ⟨w.heap.size,k*10+8,none⟩ (.int .i64 r.high)).setCell ⟨w.heap.size,k*10+9,none⟩ (.int .i64 r.cls))):=⟨RuRow.put H2.out.1 k r,(((((((((H2.out.2.setCell nlr _).setCell nlr _).setCell nlr _).setCell nlr _).setCell nlr _).setCell nlr _).setCell nlr _).setCell nlr _).setCell nlr _).setCell nlr _⟩
   clear b2 hL ex H1 R H2
   go_wp2
   go_roundw
   case rel=>exact ⟨k+1,by omega,by go_num,by rw [← Hts.out];exact H3.out⟩
   case measure=>simp [intOf];omega
  ·obtain rfl:k=len:=by omega
   go_wp2
   go_ret
   refine ⟨_,rfl,?_,H1.out.2⟩
   have hh:=H1.out.1
   rw [Nat.sub_self,List.take_of_length_le (by rw [Hlen.out];omega)] at hh
   simpa using hh
theorem szRus (L:Int) (h0:0≤L) (h1:L≤1048576) (a:Option Addr) (cap len:Nat) (w:World) (hl:(len:Int)≤9223372036854775807) :
 Calls Tryz.prog 24 #[.slice a len cap,.int .i64 L] w fun e w'=>e = .returned (.int .i64 (if L-len<0 then -1 else L-len))∧w'=w:=by
 by_cases h:L-len<0
 ·rw [if_pos h]
  go_enter Tryz.func24,Tryz.ntmps24
  go_wp2
  go_ret
  exact ⟨rfl,rfl⟩
 ·rw [if_neg h]
  go_enter Tryz.func24,Tryz.ntmps24
  go_wp2
  go_ret
  exact ⟨rfl,rfl⟩
theorem toRuW (a:Option Addr) (c:Nat) (l:List Ru) (w:World) (hT:l.length≤1048576) (h:Hid (RusAt w a l)) :
 Calls Tryz.prog 35 #[.slice a l.length c] w fun e w'=>(∃ v,e = .returned v∧RusW w.heap.size w'.heap.size w' v l)∧Bel w w' :=
 (toRus a c l w hT h).mono fun e w' hh=>by
  obtain ⟨g,rfl,hr,hb⟩:=hh
  exact ⟨⟨_,rfl,RusW.of_row hr⟩,hb⟩
theorem eqRt (r:Rt) (w:World) :
 Calls Tryz.prog 105 #[r.val,r.val] w fun e w'=>e = .returned (.bool true)∧Bel w w':=by
 unfold Rt.val
 obtain ⟨v0,v1,v2⟩:=r
 simp only []
 go_enter Tryz.func105,Tryz.ntmps105
 go_wp2
 go_ret
 exact ⟨rfl,((Below.refl _ w).alloc nlr _).alloc (by simp) _⟩
theorem eqRts (a1 a2:Option Addr) (cap1 cap2:Nat) (l:List Rt) (w:World) (hT:l.length≤1048576) (h1:Hid (RtsAt w a1 l)) (h2:Hid (RtsAt w a2 l)) :
 Calls Tryz.prog 44 #[.slice a1 l.length cap1,.slice a2 l.length cap2] w fun e w'=>e = .returned (.bool true)∧Bel w w':=by
 obtain ⟨len,hlen⟩:∃ n,l.length=n:=⟨_,rfl⟩
 rw [hlen] at hT ⊢
 have Hlen:Hid (l.length=len):=hlen
 clear hlen
 go_enter Tryz.func44,Tryz.ntmps44
 go_wp2
 go_loopw [5] (fun i wr=>∃ k:Nat,k≤len∧i = .int .i64 k∧Hid (Bel w wr)) (fun i _=>len-(intOf i).toNat)
 case atStart=>exact ⟨0,Nat.zero_le _,rfl,Below.refl _ _⟩
 case round =>
  obtain ⟨k,hk,rfl,hb⟩:=hrel
  by_cases hlt:k<len
  ·have R1:Hid (RtsAt wr a1 l):=h1.out.below hb.out
   have R2:Hid (RtsAt wr a2 l):=h2.out.below hb.out
   obtain ⟨b1,o1,ha1,-⟩:=R1.out k (by rw [Hlen.out];exact hlt)
   obtain ⟨b2,o2,ha2,-⟩:=R2.out k (by rw [Hlen.out];exact hlt)
   subst ha1;subst ha2
   have F1:=fun p:BelW wr.heap.size wr=>(R1.out.below p.h).cells (k:=k) (by rw [Hlen.out];exact hlt)
   have F2:=fun p:BelW wr.heap.size wr=>(R2.out.below p.h).cells (k:=k) (by rw [Hlen.out];exact hlt)
   have E:=fun w=>eqRt (rtAt l k) w
   unfold Rt.val at E
   generalize rtAt l k=r at F1 F2 E
   have f1_0:=fun p=>(F1 p).1
   have f1_1:=fun p=>(F1 p).2.1
   have f1_2:=fun p=>(F1 p).2.2
   have f2_0:=fun p=>(F2 p).1
   have f2_1:=fun p=>(F2 p).2.1
   have f2_2:=fun p=>(F2 p).2.2
   clear F1 F2
   have hlt':(k:Int)<(len:Int):=by omega
   go_wp2
   haveI:Nonempty (BelW wr.heap.size wr):=⟨⟨wr,Below.refl _ _⟩⟩
   refine rgb wr.heap.size (by kernel_rfl) (by kernel_rfl) ?_
   repeat (quiet_step ((go_at_call 105;refine qb (E _))))
   refine wpQuiet_nil ?_
   intro wq hx
   have hq:=BelW.out hx
   have B:Hid (Bel w wq):=hb.out.trans (hq.mono hb.out.size)
   clear hx hq f1_0 f1_1 f1_2 f2_0 f2_1 f2_2
   go_wp2
   go_roundw
   case rel=>exact ⟨k+1,by omega,by go_num,B⟩
   case measure=>simp [intOf];omega
  ·go_wp2
   go_ret
   exact ⟨rfl,hb.out⟩
def rtMkF (s:Int) (i:Nat):Rt:=⟨s+3*(i:Int),s+3*(i:Int)+1,s+3*(i:Int)+2⟩
def rtMksF (s:Int) (L:List Rt) (j:Nat):List Rt:=(List.range j).map (rtMkF s)++L.drop j
theorem rtMksF_length (s:Int) (L:List Rt) (j:Nat) (h:j≤L.length):(rtMksF s L j).length=L.length:=by simp [rtMksF];omega
theorem rtMksF_zero (s:Int) (L:List Rt):rtMksF s L 0=L:=by simp [rtMksF]
theorem rtMksF_step (s:Int) (L:List Rt) (j:Nat) (h:j<L.length):(rtMksF s L j).set j (rtMkF s j)=rtMksF s L (j+1):=by
 unfold rtMksF
 rw [List.set_append_right _ _ (by simp),List.range_succ,List.map_append]
 simp
 rw [List.drop_eq_getElem_cons h]
 rfl
theorem rtMksF_end (s:Int) (L:List Rt) (j:Nat) (hj:j<L.length):rtAt (rtMksF s L L.length) j=rtMkF s j:=by
 have:j<L.length:=hj
 simp [rtMksF,rtAt,this]
theorem heldRtsF (s:Int) (s0:0≤s) (s1:s≤1099511627776) (a:Option Addr) (cap:Nat) (T:List Rt) (hT:T.length≤1048576) (w:World) (H:Hid (RtsAt w a (rtMksF s T T.length))) :
 Calls Tryz.prog 56 #[.slice a T.length cap,.int .i64 s] w fun e w'=>e = .returned (.int .i64 (s+3*(T.length:Int)))∧w'=w:=by
 have Hc:Hid (∀ j,j<T.length→∃ b off,a=some ⟨b,off,none⟩∧∀ kv:Int,kv=s+3*(j:Int)→w.cell? ⟨b,off+j*3,none⟩=some (.int .i64 (kv))∧w.cell? ⟨b,off+j*3+1,none⟩=some (.int .i64 (kv+1))∧w.cell? ⟨b,off+j*3+2,none⟩=some (.int .i64 (kv+2))):=by
  show ∀ j,j<T.length→_
  intro j hj
  obtain ⟨b,off,e,_,c0,c1,c2⟩:=H.out j (by rw [rtMksF_length s T _ nlr];exact hj)
  rw [rtMksF_end s T j hj] at c0 c1 c2
  refine ⟨b,off,e,fun kv hkv=>?_⟩
  subst hkv
  exact ⟨c0,c1,c2⟩
 generalize T.length=len at hT Hc ⊢
 clear H
 go_enter Tryz.func56,Tryz.ntmps56
 go_wp2
 go_loop [1,5] (fun kk i=>∃ (j:Nat) (kv:Int),j≤len∧i = .int .i64 j∧kk = .int .i64 kv∧kv=s+3*(j:Int)) (fun _ i=>len-(intOf i).toNat)
 case atStart=>exact ⟨0,s,Nat.zero_le _,rfl,rfl,by simp⟩
 case round =>
  obtain ⟨j,kv,hj,rfl,rfl,hkv⟩:=hrel
  have Hkv:Hid (kv=s+3*(j:Int)):=hkv
  have k0:0≤kv:=by omega
  have k1:kv≤1099514773504:=by omega
  by_cases hlt:j<len
  ·obtain ⟨b,off,ha,hc⟩:=Hc.out j hlt
   obtain ⟨c0,c1,c2⟩:=hc kv hkv
   subst ha
   clear hkv hc
   go_wp2
   go_round
   case rel=>exact ⟨j+1,kv+3,by omega,by go_num,by go_num,by rw [Hkv.out];push_cast;omega⟩
   case measure=>simp [intOf];omega
  ·obtain rfl:j=len:=by omega
   clear hkv
   go_wp2
   go_ret
   exact ⟨by rw [← Hkv.out];rfl,rfl⟩
theorem markRtsG (s:Int) (s0:0≤s) (s1:s≤1099511627776) (b t:Nat) (v:Value) (T:List Rt) (hT:T.length≤1048576) (w:World) (H:Hid (RtIn b t w v T)) :
 Calls Tryz.prog 50 #[v,.int .i64 s] w fun e w'=>e = .returned (.int .i64 (s+3*(T.length:Int)))∧RtIn b t w' v (rtMksF s T T.length)∧Turn (Hits v (T.length*3)) w w':=by
 obtain ⟨a,cap,rfl⟩:=SlIn.shape H.out
 obtain ⟨len,hlen⟩:∃ n,T.length=n:=⟨_,rfl⟩
 have hcl:=rtcells_length T
 have H:Hid (SlIn b t w (.slice a len cap) len (rtcells T)):=by
  have h:=H.out
  unfold RtIn at h
  rw [hlen] at h
  exact h
 rw [hlen] at hT ⊢
 have Hlen:Hid (T.length=len):=hlen
 have Hcl:Hid (∀ j,j≤len→(rtcells (rtMksF s T j)).length=len*3):=fun j hj=>by rw [rtcells_length,rtMksF_length s T j (by rw [Hlen.out];exact hj),Hlen.out]
 clear hlen hcl
 go_enter Tryz.func50,Tryz.ntmps50
 go_wp2
 go_loopw [1,5] (fun kk i wr=>∃ (j:Nat) (kv:Int),j≤len∧i = .int .i64 j∧kk = .int .i64 kv∧kv=s+3*(j:Int)∧Hid (SlIn b t wr (.slice a len cap) len (rtcells (rtMksF s T j))∧Turn (Hits (.slice a len cap) (len*3)) w wr)) (fun _ i _=>len-(intOf i).toNat)
 case atStart=>exact ⟨0,s,Nat.zero_le _,rfl,rfl,by simp,by rw [rtMksF_zero];exact H.out,Turn.refl _ _⟩
 case round =>
  obtain ⟨j,kv,hj,rfl,rfl,hkv,H2⟩:=hrel
  have Hkv:Hid (kv=s+3*(j:Int)):=hkv
  have k0:0≤kv:=by omega
  have k1:kv≤1099514773504:=by omega
  by_cases hlt:j<len
  ·have hcl:=Hcl.out j hj
   obtain ⟨g,off,ha,h1,h2,h3⟩:=SlIn.some H2.out.1 (by intro e;rw [e] at hcl;simp at hcl;omega)
   subst ha
   have em:rtMkF s j=⟨kv,kv+1,kv+1+1⟩:=by
    rw [hkv]
    unfold rtMkF
    simp only [Rt.mk.injEq]
    refine ⟨by first|trivial|omega,by first|trivial|omega,by first|trivial|omega⟩
   have hput:=H2.out.1
   have hput:=SlIn.put hput (j*3) (by omega) (.int .i64 (kv))
   have hput:=SlIn.put hput (j*3+1) (by simp only [List.length_set];omega) (.int .i64 (kv+1))
   have hput:=SlIn.put hput (j*3+2) (by simp only [List.length_set];omega) (.int .i64 (kv+1+1))
   have hset:=rtcells_set (rtMksF s T j) j (rtMkF s j)
   rw [rtMksF_step s T j (by rw [Hlen.out];exact hlt)] at hset
   simp only [em] at hset
   rw [hset] at hput
   have z0:=(SlIn.cells H2.out.1 (j*3) (by omega)).2
   have y0:=(SlIn.cells H2.out.1 (j*3) (by omega)).1
   have z1:=(SlIn.cells H2.out.1 (j*3+1) (by omega)).2
   have y1:=(SlIn.cells H2.out.1 (j*3+1) (by omega)).1
   have z2:=(SlIn.cells H2.out.1 (j*3+2) (by omega)).2
   have y2:=(SlIn.cells H2.out.1 (j*3+2) (by omega)).1
   simp only [← Nat.add_assoc] at hput z0 y0 z1 y1 z2 y2
   have H3:Hid (SlIn b t (((wr.setCell ⟨g,off+j*3,none⟩ (.int .i64 (kv))).setCell ⟨g,off+j*3+1,none⟩ (.int .i64 (kv+1))).setCell ⟨g,off+j*3+2,none⟩ (.int .i64 (kv+1+1))) (.slice (some ⟨g,off,none⟩) len cap) len (rtcells (rtMksF s T (j+1)))∧Turn (Hits (.slice (some ⟨g,off,none⟩) len cap) (len*3)) w (((wr.setCell ⟨g,off+j*3,none⟩ (.int .i64 (kv))).setCell ⟨g,off+j*3+1,none⟩ (.int .i64 (kv+1))).setCell ⟨g,off+j*3+2,none⟩ (.int .i64 (kv+1+1)))):=by
    refine ⟨hput,H2.out.2.trans ?_⟩
    refine (Turn.trans (Turn.trans ((turn_set _ _ _ _).wide ?_) ((turn_set _ _ _ _).wide ?_)) ((turn_set _ _ _ _).wide ?_))
    all_goals (rintro k o ⟨rfl,rfl⟩;exact ⟨off,len,cap,rfl,by omega,by omega⟩)
   generalize (rtcells (rtMksF s T j))[j*3]?.getD undef=u0 at y0;generalize (rtcells (rtMksF s T j))[j*3+1]?.getD undef=u1 at y1;generalize (rtcells (rtMksF s T j))[j*3+2]?.getD undef=u2 at y2
   clear hput hset hkv em hcl h1 h2 h3
   go_wp2
   go_roundw
   case rel=>exact ⟨j+1,kv+3,by omega,by go_num,by go_num,by rw [Hkv.out];push_cast;omega,H3⟩
   case measure=>simp [intOf];omega
  ·obtain rfl:j=len:=by omega
   go_wp2
   go_ret
   refine ⟨by rw [← Hkv.out];rfl,?_,H2.out.2⟩
   have h:=H2.out.1
   unfold RtIn
   rw [rtMksF_length s T _ (by rw [Hlen.out];omega),Hlen.out]
   exact h
def rtMkS (s:Int) (l:List Rt):List Rt:=rtMksF s l l.length
theorem rtMkS_length (s:Int) (l:List Rt):(rtMkS s l).length=l.length:=rtMksF_length s l l.length nlr
theorem eqRtW (v1 v2:Value) (l:List Rt) (w:World) (hT:l.length≤1048576) (h1:Hid (RtsV w v1 l)) (h2:Hid (RtsV w v2 l)) :
 Calls Tryz.prog 44 #[v1,v2] w fun e w'=>e = .returned (.bool true)∧Bel w w':=by
 obtain ⟨a1,c1,rfl,k1,_⟩:=h1.out
 obtain ⟨a2,c2,rfl,k2,_⟩:=h2.out
 exact eqRts a1 a2 c1 c2 l w hT k1 k2
theorem markRtS (s:Int) (s0:0≤s) (s1:s≤549755813888) (b t:Nat) (v:Value) (l:List Rt) (w:World) (hT:l.length≤1048576) (H:Hid (RtsW b t w v l)) :
 Calls Tryz.prog 50 #[v,.int .i64 s] w fun e w'=>e = .returned (.int .i64 (s+3*(l.length:Int)))∧RtsW b t w' v (rtMkS s l)∧Span b t w w' :=
 (markRtsG s (by omega) (by omega) b t v l hT w H.out.1).mono fun e w' hh=>by
  obtain ⟨rfl,h1,h2⟩:=hh
  obtain ⟨a,c,rfl,hc⟩:=H.out.2
  refine ⟨rfl,⟨h1,a,c,by rw [rtMkS_length],by rw [rtMkS_length];exact hc⟩,Span.of_turn h2 fun k o hh=>?_⟩
  have:=SlIn.in H.out.1 (k:=k) (o:=o)
  rw [rtcells_length] at this
  exact this hh
theorem heldRtS (s:Int) (s0:0≤s) (s1:s≤549755813888) (v:Value) (l:List Rt) (w:World) (hT:l.length≤1048576) (H:Hid (RtsV w v (rtMkS s l))) :
 Calls Tryz.prog 56 #[v,.int .i64 s] w fun e w'=>e = .returned (.int .i64 (s+3*(l.length:Int)))∧Bel w w':=by
 obtain ⟨a,c,rfl,k,_⟩:=H.out
 rw [rtMkS_length]
 exact (heldRtsF s (by omega) (by omega) a c l hT w k).mono fun e w' hh=>⟨hh.1,by rw [hh.2];exact Below.refl _ _⟩
theorem toRt (r:Rt) (w:World) :
 Calls Tryz.prog 91 #[r.val] w fun e w'=>e = .returned r.val∧w'=((w.alloc (.cells r.cells.toArray 150)).alloc (.cells r.cells.toArray 148)).alloc (.cells r.cells.toArray 148):=by
 unfold Rt.val Rt.cells
 obtain ⟨v0,v1,v2⟩:=r
 simp only []
 go_enter Tryz.func91,Tryz.ntmps91
 go_wp2
 refine bodyPost_ret (v:=.agg #[.int .i64 v0,.int .i64 v1,.int .i64 v2]) (by simp [results,Tryz.results91,go_sem]) rfl ⟨rfl,rfl⟩
theorem toRtB (r:Rt) (w:World) :
 Calls Tryz.prog 91 #[r.val] w fun e w'=>e = .returned r.val∧Bel w w' :=
 (toRt r w).mono fun _ _ h=>⟨h.1,by
  rw [h.2]
  exact (((Below.refl _ w).alloc nlr _).alloc (by simp) _).alloc (by simp;omega) _⟩
theorem toRts (a:Option Addr) (cap:Nat) (l:List Rt) (w:World) (hT:l.length≤1048576) (h:Hid (RtsAt w a l)) :
 Calls Tryz.prog 34 #[.slice a l.length cap] w fun e w'=>∃ g,e = .returned (.slice (some ⟨g,0,none⟩) l.length l.length)∧RtRow w.heap.size w' (.slice (some ⟨g,0,none⟩) l.length l.length) l∧Bel w w':=by
 obtain ⟨i0,hi,hz0,hz1,hz2⟩:=info_parts rtInfo
 obtain ⟨len,hlen⟩:∃ n,l.length=n:=⟨_,rfl⟩
 unfold RtRow
 rw [hlen] at hT ⊢
 have Hlen:Hid (l.length=len):=hlen
 clear hlen
 have hmk:∀ wx,(Instr.makeSlice 39 (.int .i64 (len:Int)) (.int .i64 (len:Int))).run Tryz.prog wx = .ok (.slice (some ⟨wx.heap.size,0,none⟩) len len) (wx.alloc (.cells (madeCells #[.int .i64 0,.int .i64 0,.int .i64 0] (len*3)) 148)):=by
  intro wx
  have:=run_make (P:=Tryz.prog) wx 39 148 i0 (.agg #[.int .i64 0,.int .i64 0,.int .i64 0]) Tryz.underlying39 hi hz0 .i64 .i64 len len (by omega) (by omega) (by rw [hz2];omega) (by omega)
  rw [this,hz1];simp [Value.cells]
 have H0:Hid ((w.alloc (.cells (madeCells #[.int .i64 0,.int .i64 0,.int .i64 0] (len*3)) 148)).ownsRow w.heap.size 148 3 (.slice (some ⟨w.heap.size,0,none⟩) len len) len (rtcells (l.take 0++List.replicate (len-0) ⟨0,0,0⟩))):=by
  have:=World.ownsRow_lit (size:=3) (e:=148) (base:=w.heap.size) w (madeCells #[.int .i64 0,.int .i64 0,.int .i64 0] (len*3)) len nlr (by unfold maxLen;omega) (by rw [size_madeCells])
  rw [rtMade] at this
  show World.ownsRow _ _ _ _ _ _ _
  simpa using this
 clear hi hz0 hz1 hz2
 go_enter Tryz.func34,Tryz.ntmps34
 go_wp2
 go_loopw [4] (fun i wr=>∃ k:Nat,k≤len∧i = .int .i64 k∧Hid (wr.ownsRow w.heap.size 148 3 (.slice (some ⟨w.heap.size,0,none⟩) len len) len (rtcells (l.take k++List.replicate (len-k) ⟨0,0,0⟩))∧Bel w wr)) (fun i _=>len-(intOf i).toNat)
 case atStart=>exact ⟨0,Nat.zero_le _,rfl,H0.out,(Below.refl _ _).alloc nlr _⟩
 case round =>
  clear H0 hmk
  obtain ⟨k,hk,rfl,H1⟩:=hrel
  by_cases hlt:k<len
  ·have R:Hid (RtsAt wr a l):=h.out.below H1.out.2
   obtain ⟨b1,o1,ha1,hb1,-⟩:=R.out k (by rw [Hlen.out];exact hlt)
   subst ha1
   obtain ⟨c0,c1,c2⟩:=R.out.cells (k:=k) (by rw [Hlen.out];exact hlt)
   have hts:=rtTakeSet l len k Hlen.out hlt
   have T:=fun w=>toRtB (rtAt l k) w
   unfold Rt.val at T
   generalize rtAt l k=r at c0 c1 c2 hts T
   have Hts:Hid _:=hts
   clear hts
   go_wp2_with fail
   refine (T _).mono ?_
   rintro e w2 ⟨rfl,b2⟩
   have hsz:w.heap.size<wr.heap.size:=(World.ownsRow.lt H1.out.1 _ rfl).2
   have H2:Hid (w2.ownsRow w.heap.size 148 3 (.slice (some ⟨w.heap.size,0,none⟩) len len) len (rtcells (l.take k++List.replicate (len-k) ⟨0,0,0⟩))∧Bel w w2):=by
    refine ⟨?_,H1.out.2.trans (b2.mono H1.out.2.size)⟩
    have hh:=H1.out.1
    refine ⟨hh.1,hh.2.imp id ?_⟩
    rintro ⟨g0,cp,cur,h1,h2,h3,h4⟩
    cases h1
    exact ⟨_,_,cur,rfl,h2,by rw [b2.block _ hsz];exact h3,h4⟩
   have hL:(rtcells (l.take k++List.replicate (len-k) ⟨0,0,0⟩)).length=len*3:=by
    rw [rtcells_length];have:=Hlen.out;simp;omega
   have ex:∀ j,j<len*3→∃ v,w2.cell? ⟨w.heap.size,j,none⟩=some v:=by
    intro j hj
    rw [H2.out.1.cellAt j hj]
    exact ⟨_,List.getElem?_eq_getElem (by omega)⟩
   obtain ⟨y0,hy0⟩:=ex (k*3) (by omega)
   obtain ⟨y1,hy1⟩:=ex (k*3+1) (by omega)
   obtain ⟨y2,hy2⟩:=ex (k*3+2) (by omega)
   have z0:=H2.out.1.frozenAt (k*3)
   have z1:=H2.out.1.frozenAt (k*3+1)
   have z2:=H2.out.1.frozenAt (k*3+2)
   have H3:Hid (_∧Bel w (((w2.setCell ⟨w.heap.size,k*3,none⟩ (.int .i64 r.net)).setCell ⟨w.heap.size,k*3+1,none⟩ (.int .i64 r.bits)).setCell ⟨w.heap.size,k*3+2,none⟩ (.int .i64 r.hop))):=⟨RtRow.put H2.out.1 k r,((H2.out.2.setCell nlr _).setCell nlr _).setCell nlr _⟩
   clear b2 hL ex H1 R H2
   go_wp2
   go_roundw
   case rel=>exact ⟨k+1,by omega,by go_num,by rw [← Hts.out];exact H3.out⟩
   case measure=>simp [intOf];omega
  ·obtain rfl:k=len:=by omega
   go_wp2
   go_ret
   refine ⟨_,rfl,?_,H1.out.2⟩
   have hh:=H1.out.1
   rw [Nat.sub_self,List.take_of_length_le (by rw [Hlen.out];omega)] at hh
   simpa using hh
theorem szRts (L:Int) (h0:0≤L) (h1:L≤1048576) (a:Option Addr) (cap len:Nat) (w:World) (hl:(len:Int)≤9223372036854775807) :
 Calls Tryz.prog 23 #[.slice a len cap,.int .i64 L] w fun e w'=>e = .returned (.int .i64 (if L-len<0 then -1 else L-len))∧w'=w:=by
 by_cases h:L-len<0
 ·rw [if_pos h]
  go_enter Tryz.func23,Tryz.ntmps23
  go_wp2
  go_ret
  exact ⟨rfl,rfl⟩
 ·rw [if_neg h]
  go_enter Tryz.func23,Tryz.ntmps23
  go_wp2
  go_ret
  exact ⟨rfl,rfl⟩
theorem toRtW (a:Option Addr) (c:Nat) (l:List Rt) (w:World) (hT:l.length≤1048576) (h:Hid (RtsAt w a l)) :
 Calls Tryz.prog 34 #[.slice a l.length c] w fun e w'=>(∃ v,e = .returned v∧RtsW w.heap.size w'.heap.size w' v l)∧Bel w w' :=
 (toRts a c l w hT h).mono fun e w' hh=>by
  obtain ⟨g,rfl,hr,hb⟩:=hh
  exact ⟨⟨_,rfl,RtsW.of_row hr⟩,hb⟩
theorem eqSr (r:Sr) (w:World) :
 Calls Tryz.prog 109 #[r.val,r.val] w fun e w'=>e = .returned (.bool true)∧Bel w w':=by
 unfold Sr.val
 obtain ⟨v0,v1,v2⟩:=r
 simp only []
 go_enter Tryz.func109,Tryz.ntmps109
 go_wp2
 go_ret
 exact ⟨rfl,((Below.refl _ w).alloc nlr _).alloc (by simp) _⟩
theorem eqSrs (a1 a2:Option Addr) (cap1 cap2:Nat) (l:List Sr) (w:World) (hT:l.length≤1048576) (h1:Hid (SrsAt w a1 l)) (h2:Hid (SrsAt w a2 l)) :
 Calls Tryz.prog 48 #[.slice a1 l.length cap1,.slice a2 l.length cap2] w fun e w'=>e = .returned (.bool true)∧Bel w w':=by
 obtain ⟨len,hlen⟩:∃ n,l.length=n:=⟨_,rfl⟩
 rw [hlen] at hT ⊢
 have Hlen:Hid (l.length=len):=hlen
 clear hlen
 go_enter Tryz.func48,Tryz.ntmps48
 go_wp2
 go_loopw [5] (fun i wr=>∃ k:Nat,k≤len∧i = .int .i64 k∧Hid (Bel w wr)) (fun i _=>len-(intOf i).toNat)
 case atStart=>exact ⟨0,Nat.zero_le _,rfl,Below.refl _ _⟩
 case round =>
  obtain ⟨k,hk,rfl,hb⟩:=hrel
  by_cases hlt:k<len
  ·have R1:Hid (SrsAt wr a1 l):=h1.out.below hb.out
   have R2:Hid (SrsAt wr a2 l):=h2.out.below hb.out
   obtain ⟨b1,o1,ha1,-⟩:=R1.out k (by rw [Hlen.out];exact hlt)
   obtain ⟨b2,o2,ha2,-⟩:=R2.out k (by rw [Hlen.out];exact hlt)
   subst ha1;subst ha2
   have F1:=fun p:BelW wr.heap.size wr=>(R1.out.below p.h).cells (k:=k) (by rw [Hlen.out];exact hlt)
   have F2:=fun p:BelW wr.heap.size wr=>(R2.out.below p.h).cells (k:=k) (by rw [Hlen.out];exact hlt)
   have E:=fun w=>eqSr (srAt l k) w
   unfold Sr.val at E
   generalize srAt l k=r at F1 F2 E
   have f1_0:=fun p=>(F1 p).1
   have f1_1:=fun p=>(F1 p).2.1
   have f1_2:=fun p=>(F1 p).2.2
   have f2_0:=fun p=>(F2 p).1
   have f2_1:=fun p=>(F2 p).2.1
   have f2_2:=fun p=>(F2 p).2.2
   clear F1 F2
   have hlt':(k:Int)<(len:Int):=by omega
   go_wp2
   haveI:Nonempty (BelW wr.heap.size wr):=⟨⟨wr,Below.refl _ _⟩⟩
   refine rgb wr.heap.size (by kernel_rfl) (by kernel_rfl) ?_
   repeat (quiet_step ((go_at_call 109;refine qb (E _))))
   refine wpQuiet_nil ?_
   intro wq hx
   have hq:=BelW.out hx
   have B:Hid (Bel w wq):=hb.out.trans (hq.mono hb.out.size)
   clear hx hq f1_0 f1_1 f1_2 f2_0 f2_1 f2_2
   go_wp2
   go_roundw
   case rel=>exact ⟨k+1,by omega,by go_num,B⟩
   case measure=>simp [intOf];omega
  ·go_wp2
   go_ret
   exact ⟨rfl,hb.out⟩
def srMkF (s:Int) (i:Nat):Sr:=⟨s+3*(i:Int),s+3*(i:Int)+1,s+3*(i:Int)+2⟩
def srMksF (s:Int) (L:List Sr) (j:Nat):List Sr:=(List.range j).map (srMkF s)++L.drop j
theorem srMksF_length (s:Int) (L:List Sr) (j:Nat) (h:j≤L.length):(srMksF s L j).length=L.length:=by simp [srMksF];omega
theorem srMksF_zero (s:Int) (L:List Sr):srMksF s L 0=L:=by simp [srMksF]
theorem srMksF_step (s:Int) (L:List Sr) (j:Nat) (h:j<L.length):(srMksF s L j).set j (srMkF s j)=srMksF s L (j+1):=by
 unfold srMksF
 rw [List.set_append_right _ _ (by simp),List.range_succ,List.map_append]
 simp
 rw [List.drop_eq_getElem_cons h]
 rfl
theorem srMksF_end (s:Int) (L:List Sr) (j:Nat) (hj:j<L.length):srAt (srMksF s L L.length) j=srMkF s j:=by
 have:j<L.length:=hj
 simp [srMksF,srAt,this]
theorem heldSrsF (s:Int) (s0:0≤s) (s1:s≤1099511627776) (a:Option Addr) (cap:Nat) (T:List Sr) (hT:T.length≤1048576) (w:World) (H:Hid (SrsAt w a (srMksF s T T.length))) :
 Calls Tryz.prog 60 #[.slice a T.length cap,.int .i64 s] w fun e w'=>e = .returned (.int .i64 (s+3*(T.length:Int)))∧w'=w:=by
 have Hc:Hid (∀ j,j<T.length→∃ b off,a=some ⟨b,off,none⟩∧∀ kv:Int,kv=s+3*(j:Int)→w.cell? ⟨b,off+j*3,none⟩=some (.int .i64 (kv))∧w.cell? ⟨b,off+j*3+1,none⟩=some (.int .i64 (kv+1))∧w.cell? ⟨b,off+j*3+2,none⟩=some (.int .i64 (kv+2))):=by
  show ∀ j,j<T.length→_
  intro j hj
  obtain ⟨b,off,e,_,c0,c1,c2⟩:=H.out j (by rw [srMksF_length s T _ nlr];exact hj)
  rw [srMksF_end s T j hj] at c0 c1 c2
  refine ⟨b,off,e,fun kv hkv=>?_⟩
  subst hkv
  exact ⟨c0,c1,c2⟩
 generalize T.length=len at hT Hc ⊢
 clear H
 go_enter Tryz.func60,Tryz.ntmps60
 go_wp2
 go_loop [1,5] (fun kk i=>∃ (j:Nat) (kv:Int),j≤len∧i = .int .i64 j∧kk = .int .i64 kv∧kv=s+3*(j:Int)) (fun _ i=>len-(intOf i).toNat)
 case atStart=>exact ⟨0,s,Nat.zero_le _,rfl,rfl,by simp⟩
 case round =>
  obtain ⟨j,kv,hj,rfl,rfl,hkv⟩:=hrel
  have Hkv:Hid (kv=s+3*(j:Int)):=hkv
  have k0:0≤kv:=by omega
  have k1:kv≤1099514773504:=by omega
  by_cases hlt:j<len
  ·obtain ⟨b,off,ha,hc⟩:=Hc.out j hlt
   obtain ⟨c0,c1,c2⟩:=hc kv hkv
   subst ha
   clear hkv hc
   go_wp2
   go_round
   case rel=>exact ⟨j+1,kv+3,by omega,by go_num,by go_num,by rw [Hkv.out];push_cast;omega⟩
   case measure=>simp [intOf];omega
  ·obtain rfl:j=len:=by omega
   clear hkv
   go_wp2
   go_ret
   exact ⟨by rw [← Hkv.out];rfl,rfl⟩
theorem markSrsG (s:Int) (s0:0≤s) (s1:s≤1099511627776) (b t:Nat) (v:Value) (T:List Sr) (hT:T.length≤1048576) (w:World) (H:Hid (SrIn b t w v T)) :
 Calls Tryz.prog 54 #[v,.int .i64 s] w fun e w'=>e = .returned (.int .i64 (s+3*(T.length:Int)))∧SrIn b t w' v (srMksF s T T.length)∧Turn (Hits v (T.length*3)) w w':=by
 obtain ⟨a,cap,rfl⟩:=SlIn.shape H.out
 obtain ⟨len,hlen⟩:∃ n,T.length=n:=⟨_,rfl⟩
 have hcl:=srcells_length T
 have H:Hid (SlIn b t w (.slice a len cap) len (srcells T)):=by
  have h:=H.out
  unfold SrIn at h
  rw [hlen] at h
  exact h
 rw [hlen] at hT ⊢
 have Hlen:Hid (T.length=len):=hlen
 have Hcl:Hid (∀ j,j≤len→(srcells (srMksF s T j)).length=len*3):=fun j hj=>by rw [srcells_length,srMksF_length s T j (by rw [Hlen.out];exact hj),Hlen.out]
 clear hlen hcl
 go_enter Tryz.func54,Tryz.ntmps54
 go_wp2
 go_loopw [1,5] (fun kk i wr=>∃ (j:Nat) (kv:Int),j≤len∧i = .int .i64 j∧kk = .int .i64 kv∧kv=s+3*(j:Int)∧Hid (SlIn b t wr (.slice a len cap) len (srcells (srMksF s T j))∧Turn (Hits (.slice a len cap) (len*3)) w wr)) (fun _ i _=>len-(intOf i).toNat)
 case atStart=>exact ⟨0,s,Nat.zero_le _,rfl,rfl,by simp,by rw [srMksF_zero];exact H.out,Turn.refl _ _⟩
 case round =>
  obtain ⟨j,kv,hj,rfl,rfl,hkv,H2⟩:=hrel
  have Hkv:Hid (kv=s+3*(j:Int)):=hkv
  have k0:0≤kv:=by omega
  have k1:kv≤1099514773504:=by omega
  by_cases hlt:j<len
  ·have hcl:=Hcl.out j hj
   obtain ⟨g,off,ha,h1,h2,h3⟩:=SlIn.some H2.out.1 (by intro e;rw [e] at hcl;simp at hcl;omega)
   subst ha
   have em:srMkF s j=⟨kv,kv+1,kv+1+1⟩:=by
    rw [hkv]
    unfold srMkF
    simp only [Sr.mk.injEq]
    refine ⟨by first|trivial|omega,by first|trivial|omega,by first|trivial|omega⟩
   have hput:=H2.out.1
   have hput:=SlIn.put hput (j*3) (by omega) (.int .i64 (kv))
   have hput:=SlIn.put hput (j*3+1) (by simp only [List.length_set];omega) (.int .i64 (kv+1))
   have hput:=SlIn.put hput (j*3+2) (by simp only [List.length_set];omega) (.int .i64 (kv+1+1))
   have hset:=srcells_set (srMksF s T j) j (srMkF s j)
   rw [srMksF_step s T j (by rw [Hlen.out];exact hlt)] at hset
   simp only [em] at hset
   rw [hset] at hput
   have z0:=(SlIn.cells H2.out.1 (j*3) (by omega)).2
   have y0:=(SlIn.cells H2.out.1 (j*3) (by omega)).1
   have z1:=(SlIn.cells H2.out.1 (j*3+1) (by omega)).2
   have y1:=(SlIn.cells H2.out.1 (j*3+1) (by omega)).1
   have z2:=(SlIn.cells H2.out.1 (j*3+2) (by omega)).2
   have y2:=(SlIn.cells H2.out.1 (j*3+2) (by omega)).1
   simp only [← Nat.add_assoc] at hput z0 y0 z1 y1 z2 y2
   have H3:Hid (SlIn b t (((wr.setCell ⟨g,off+j*3,none⟩ (.int .i64 (kv))).setCell ⟨g,off+j*3+1,none⟩ (.int .i64 (kv+1))).setCell ⟨g,off+j*3+2,none⟩ (.int .i64 (kv+1+1))) (.slice (some ⟨g,off,none⟩) len cap) len (srcells (srMksF s T (j+1)))∧Turn (Hits (.slice (some ⟨g,off,none⟩) len cap) (len*3)) w (((wr.setCell ⟨g,off+j*3,none⟩ (.int .i64 (kv))).setCell ⟨g,off+j*3+1,none⟩ (.int .i64 (kv+1))).setCell ⟨g,off+j*3+2,none⟩ (.int .i64 (kv+1+1)))):=by
    refine ⟨hput,H2.out.2.trans ?_⟩
    refine (Turn.trans (Turn.trans ((turn_set _ _ _ _).wide ?_) ((turn_set _ _ _ _).wide ?_)) ((turn_set _ _ _ _).wide ?_))
    all_goals (rintro k o ⟨rfl,rfl⟩;exact ⟨off,len,cap,rfl,by omega,by omega⟩)
   generalize (srcells (srMksF s T j))[j*3]?.getD undef=u0 at y0;generalize (srcells (srMksF s T j))[j*3+1]?.getD undef=u1 at y1;generalize (srcells (srMksF s T j))[j*3+2]?.getD undef=u2 at y2
   clear hput hset hkv em hcl h1 h2 h3
   go_wp2
   go_roundw
   case rel=>exact ⟨j+1,kv+3,by omega,by go_num,by go_num,by rw [Hkv.out];push_cast;omega,H3⟩
   case measure=>simp [intOf];omega
  ·obtain rfl:j=len:=by omega
   go_wp2
   go_ret
   refine ⟨by rw [← Hkv.out];rfl,?_,H2.out.2⟩
   have h:=H2.out.1
   unfold SrIn
   rw [srMksF_length s T _ (by rw [Hlen.out];omega),Hlen.out]
   exact h
def srMkS (s:Int) (l:List Sr):List Sr:=srMksF s l l.length
theorem srMkS_length (s:Int) (l:List Sr):(srMkS s l).length=l.length:=srMksF_length s l l.length nlr
theorem eqSrW (v1 v2:Value) (l:List Sr) (w:World) (hT:l.length≤1048576) (h1:Hid (SrsV w v1 l)) (h2:Hid (SrsV w v2 l)) :
 Calls Tryz.prog 48 #[v1,v2] w fun e w'=>e = .returned (.bool true)∧Bel w w':=by
 obtain ⟨a1,c1,rfl,k1,_⟩:=h1.out
 obtain ⟨a2,c2,rfl,k2,_⟩:=h2.out
 exact eqSrs a1 a2 c1 c2 l w hT k1 k2
theorem markSrS (s:Int) (s0:0≤s) (s1:s≤549755813888) (b t:Nat) (v:Value) (l:List Sr) (w:World) (hT:l.length≤1048576) (H:Hid (SrsW b t w v l)) :
 Calls Tryz.prog 54 #[v,.int .i64 s] w fun e w'=>e = .returned (.int .i64 (s+3*(l.length:Int)))∧SrsW b t w' v (srMkS s l)∧Span b t w w' :=
 (markSrsG s (by omega) (by omega) b t v l hT w H.out.1).mono fun e w' hh=>by
  obtain ⟨rfl,h1,h2⟩:=hh
  obtain ⟨a,c,rfl,hc⟩:=H.out.2
  refine ⟨rfl,⟨h1,a,c,by rw [srMkS_length],by rw [srMkS_length];exact hc⟩,Span.of_turn h2 fun k o hh=>?_⟩
  have:=SlIn.in H.out.1 (k:=k) (o:=o)
  rw [srcells_length] at this
  exact this hh
theorem heldSrS (s:Int) (s0:0≤s) (s1:s≤549755813888) (v:Value) (l:List Sr) (w:World) (hT:l.length≤1048576) (H:Hid (SrsV w v (srMkS s l))) :
 Calls Tryz.prog 60 #[v,.int .i64 s] w fun e w'=>e = .returned (.int .i64 (s+3*(l.length:Int)))∧Bel w w':=by
 obtain ⟨a,c,rfl,k,_⟩:=H.out
 rw [srMkS_length]
 exact (heldSrsF s (by omega) (by omega) a c l hT w k).mono fun e w' hh=>⟨hh.1,by rw [hh.2];exact Below.refl _ _⟩
theorem toSr (r:Sr) (w:World) :
 Calls Tryz.prog 95 #[r.val] w fun e w'=>e = .returned r.val∧w'=((w.alloc (.cells r.cells.toArray 161)).alloc (.cells r.cells.toArray 143)).alloc (.cells r.cells.toArray 143):=by
 unfold Sr.val Sr.cells
 obtain ⟨v0,v1,v2⟩:=r
 simp only []
 go_enter Tryz.func95,Tryz.ntmps95
 go_wp2
 refine bodyPost_ret (v:=.agg #[.int .i64 v0,.int .i64 v1,.int .i64 v2]) (by simp [results,Tryz.results95,go_sem]) rfl ⟨rfl,rfl⟩
theorem toSrB (r:Sr) (w:World) :
 Calls Tryz.prog 95 #[r.val] w fun e w'=>e = .returned r.val∧Bel w w' :=
 (toSr r w).mono fun _ _ h=>⟨h.1,by
  rw [h.2]
  exact (((Below.refl _ w).alloc nlr _).alloc (by simp) _).alloc (by simp;omega) _⟩
theorem toSrs (a:Option Addr) (cap:Nat) (l:List Sr) (w:World) (hT:l.length≤1048576) (h:Hid (SrsAt w a l)) :
 Calls Tryz.prog 39 #[.slice a l.length cap] w fun e w'=>∃ g,e = .returned (.slice (some ⟨g,0,none⟩) l.length l.length)∧SrRow w.heap.size w' (.slice (some ⟨g,0,none⟩) l.length l.length) l∧Bel w w':=by
 obtain ⟨i0,hi,hz0,hz1,hz2⟩:=info_parts srInfo
 obtain ⟨len,hlen⟩:∃ n,l.length=n:=⟨_,rfl⟩
 unfold SrRow
 rw [hlen] at hT ⊢
 have Hlen:Hid (l.length=len):=hlen
 clear hlen
 have hmk:∀ wx,(Instr.makeSlice 45 (.int .i64 (len:Int)) (.int .i64 (len:Int))).run Tryz.prog wx = .ok (.slice (some ⟨wx.heap.size,0,none⟩) len len) (wx.alloc (.cells (madeCells #[.int .i64 0,.int .i64 0,.int .i64 0] (len*3)) 143)):=by
  intro wx
  have:=run_make (P:=Tryz.prog) wx 45 143 i0 (.agg #[.int .i64 0,.int .i64 0,.int .i64 0]) Tryz.underlying45 hi hz0 .i64 .i64 len len (by omega) (by omega) (by rw [hz2];omega) (by omega)
  rw [this,hz1];simp [Value.cells]
 have H0:Hid ((w.alloc (.cells (madeCells #[.int .i64 0,.int .i64 0,.int .i64 0] (len*3)) 143)).ownsRow w.heap.size 143 3 (.slice (some ⟨w.heap.size,0,none⟩) len len) len (srcells (l.take 0++List.replicate (len-0) ⟨0,0,0⟩))):=by
  have:=World.ownsRow_lit (size:=3) (e:=143) (base:=w.heap.size) w (madeCells #[.int .i64 0,.int .i64 0,.int .i64 0] (len*3)) len nlr (by unfold maxLen;omega) (by rw [size_madeCells])
  rw [srMade] at this
  show World.ownsRow _ _ _ _ _ _ _
  simpa using this
 clear hi hz0 hz1 hz2
 go_enter Tryz.func39,Tryz.ntmps39
 go_wp2
 go_loopw [4] (fun i wr=>∃ k:Nat,k≤len∧i = .int .i64 k∧Hid (wr.ownsRow w.heap.size 143 3 (.slice (some ⟨w.heap.size,0,none⟩) len len) len (srcells (l.take k++List.replicate (len-k) ⟨0,0,0⟩))∧Bel w wr)) (fun i _=>len-(intOf i).toNat)
 case atStart=>exact ⟨0,Nat.zero_le _,rfl,H0.out,(Below.refl _ _).alloc nlr _⟩
 case round =>
  clear H0 hmk
  obtain ⟨k,hk,rfl,H1⟩:=hrel
  by_cases hlt:k<len
  ·have R:Hid (SrsAt wr a l):=h.out.below H1.out.2
   obtain ⟨b1,o1,ha1,hb1,-⟩:=R.out k (by rw [Hlen.out];exact hlt)
   subst ha1
   obtain ⟨c0,c1,c2⟩:=R.out.cells (k:=k) (by rw [Hlen.out];exact hlt)
   have hts:=srTakeSet l len k Hlen.out hlt
   have T:=fun w=>toSrB (srAt l k) w
   unfold Sr.val at T
   generalize srAt l k=r at c0 c1 c2 hts T
   have Hts:Hid _:=hts
   clear hts
   go_wp2_with fail
   refine (T _).mono ?_
   rintro e w2 ⟨rfl,b2⟩
   have hsz:w.heap.size<wr.heap.size:=(World.ownsRow.lt H1.out.1 _ rfl).2
   have H2:Hid (w2.ownsRow w.heap.size 143 3 (.slice (some ⟨w.heap.size,0,none⟩) len len) len (srcells (l.take k++List.replicate (len-k) ⟨0,0,0⟩))∧Bel w w2):=by
    refine ⟨?_,H1.out.2.trans (b2.mono H1.out.2.size)⟩
    have hh:=H1.out.1
    refine ⟨hh.1,hh.2.imp id ?_⟩
    rintro ⟨g0,cp,cur,h1,h2,h3,h4⟩
    cases h1
    exact ⟨_,_,cur,rfl,h2,by rw [b2.block _ hsz];exact h3,h4⟩
   have hL:(srcells (l.take k++List.replicate (len-k) ⟨0,0,0⟩)).length=len*3:=by
    rw [srcells_length];have:=Hlen.out;simp;omega
   have ex:∀ j,j<len*3→∃ v,w2.cell? ⟨w.heap.size,j,none⟩=some v:=by
    intro j hj
    rw [H2.out.1.cellAt j hj]
    exact ⟨_,List.getElem?_eq_getElem (by omega)⟩
   obtain ⟨y0,hy0⟩:=ex (k*3) (by omega)
   obtain ⟨y1,hy1⟩:=ex (k*3+1) (by omega)
   obtain ⟨y2,hy2⟩:=ex (k*3+2) (by omega)
   have z0:=H2.out.1.frozenAt (k*3)
   have z1:=H2.out.1.frozenAt (k*3+1)
   have z2:=H2.out.1.frozenAt (k*3+2)
   have H3:Hid (_∧Bel w (((w2.setCell ⟨w.heap.size,k*3,none⟩ (.int .i64 r.target)).setCell ⟨w.heap.size,k*3+1,none⟩ (.int .i64 r.old)).setCell ⟨w.heap.size,k*3+2,none⟩ (.int .i64 r.prob))):=⟨SrRow.put H2.out.1 k r,((H2.out.2.setCell nlr _).setCell nlr _).setCell nlr _⟩
   clear b2 hL ex H1 R H2
   go_wp2
   go_roundw
   case rel=>exact ⟨k+1,by omega,by go_num,by rw [← Hts.out];exact H3.out⟩
   case measure=>simp [intOf];omega
  ·obtain rfl:k=len:=by omega
   go_wp2
   go_ret
   refine ⟨_,rfl,?_,H1.out.2⟩
   have hh:=H1.out.1
   rw [Nat.sub_self,List.take_of_length_le (by rw [Hlen.out];omega)] at hh
   simpa using hh
theorem szSrs (L:Int) (h0:0≤L) (h1:L≤1048576) (a:Option Addr) (cap len:Nat) (w:World) (hl:(len:Int)≤9223372036854775807) :
 Calls Tryz.prog 28 #[.slice a len cap,.int .i64 L] w fun e w'=>e = .returned (.int .i64 (if L-len<0 then -1 else L-len))∧w'=w:=by
 by_cases h:L-len<0
 ·rw [if_pos h]
  go_enter Tryz.func28,Tryz.ntmps28
  go_wp2
  go_ret
  exact ⟨rfl,rfl⟩
 ·rw [if_neg h]
  go_enter Tryz.func28,Tryz.ntmps28
  go_wp2
  go_ret
  exact ⟨rfl,rfl⟩
theorem toSrW (a:Option Addr) (c:Nat) (l:List Sr) (w:World) (hT:l.length≤1048576) (h:Hid (SrsAt w a l)) :
 Calls Tryz.prog 39 #[.slice a l.length c] w fun e w'=>(∃ v,e = .returned v∧SrsW w.heap.size w'.heap.size w' v l)∧Bel w w' :=
 (toSrs a c l w hT h).mono fun e w' hh=>by
  obtain ⟨g,rfl,hr,hb⟩:=hh
  exact ⟨⟨_,rfl,SrsW.of_row hr⟩,hb⟩
theorem toPz (r:Pz) (w:World) :
 Calls Tryz.prog 153 #[r.val] w fun e w'=>e = .returned r.val∧w'=((w.alloc (.cells r.cells.toArray 156)).alloc (.cells r.cells.toArray 75)).alloc (.cells r.cells.toArray 75):=by
 unfold Pz.val Pz.cells
 obtain ⟨v0,v1,v2,v3⟩:=r
 simp only []
 go_enter Tryz.func153,Tryz.ntmps153
 go_wp2
 refine bodyPost_ret (v:=.agg #[.int .i64 v0,.int .i64 v1,.int .i64 v2,.int .i64 v3]) (by simp [results,Tryz.results153,go_sem]) rfl ⟨rfl,rfl⟩
theorem toNdB (r:Nd) (w:World) :
 Calls Tryz.prog 93 #[r.val] w fun e w'=>e = .returned r.val∧Bel w w':=by
 unfold Nd.val
 obtain ⟨v0,r⟩:=r
 have T:=fun w=>toPz r w
 unfold Pz.val Pz.cells at T
 obtain ⟨v1,v2,v3,v4⟩:=r
 simp only [] at T ⊢
 go_enter Tryz.func93,Tryz.ntmps93
 go_wp2_with fail
 refine (T _).mono ?_
 rintro e w1 ⟨rfl,hw⟩
 rw [hw]
 go_wp2
 refine bodyPost_ret (v:=.agg #[.int .i64 v0,.int .i64 v1,.int .i64 v2,.int .i64 v3,.int .i64 v4]) (by simp [results,Tryz.results93,go_sem]) rfl ⟨rfl,?_⟩
 exact ((((((Below.refl _ w).alloc nlr _).alloc (by simp) _).alloc (by simp;omega) _).alloc (by simp;omega) _).alloc (by simp;omega) _).alloc (by simp;omega) _
theorem eqPz (r:Pz) (w:World) :
 Calls Tryz.prog 157 #[r.val,r.val] w fun e w'=>e = .returned (.bool true)∧Bel w w':=by
 unfold Pz.val
 obtain ⟨v0,v1,v2,v3⟩:=r
 simp only []
 have H:Hid (Bel w ((w.alloc (.cells #[.int .i64 v0,.int .i64 v1,.int .i64 v2,.int .i64 v3] 75)).alloc (.cells #[.int .i64 v0,.int .i64 v1,.int .i64 v2,.int .i64 v3] 75))):=((Below.refl _ w).alloc nlr _).alloc (by simp) _
 go_enter Tryz.func157,Tryz.ntmps157
 go_wp2
 go_ret
 exact ⟨rfl,H.out⟩
theorem eqNd (r:Nd) (w:World) :
 Calls Tryz.prog 107 #[r.val,r.val] w fun e w'=>e = .returned (.bool true)∧Bel w w':=by
 unfold Nd.val
 obtain ⟨v0,r⟩:=r
 have T:=fun w=>eqPz r w
 unfold Pz.val at T
 obtain ⟨v1,v2,v3,v4⟩:=r
 simp only [] at T ⊢
 have H:Hid (Bel w ((w.alloc (.cells #[.int .i64 v0,.int .i64 v1,.int .i64 v2,.int .i64 v3,.int .i64 v4] 77)).alloc (.cells #[.int .i64 v0,.int .i64 v1,.int .i64 v2,.int .i64 v3,.int .i64 v4] 77))):=((Below.refl _ w).alloc nlr _).alloc (by simp) _
 go_enter Tryz.func107,Tryz.ntmps107
 go_wp2_with fail
 refine (T _).mono ?_
 rintro e w1 ⟨rfl,q⟩
 have H1:Hid (Bel w w1):=H.out.trans (q.mono H.out.size)
 clear H q
 go_wp2
 go_ret
 exact ⟨rfl,H1.out⟩
theorem eqNds (a1 a2:Option Addr) (cap1 cap2:Nat) (l:List Nd) (w:World) (hT:l.length≤1048576) (h1:Hid (NdsAt w a1 l)) (h2:Hid (NdsAt w a2 l)) :
 Calls Tryz.prog 46 #[.slice a1 l.length cap1,.slice a2 l.length cap2] w fun e w'=>e = .returned (.bool true)∧Bel w w':=by
 obtain ⟨len,hlen⟩:∃ n,l.length=n:=⟨_,rfl⟩
 rw [hlen] at hT ⊢
 have Hlen:Hid (l.length=len):=hlen
 clear hlen
 go_enter Tryz.func46,Tryz.ntmps46
 go_wp2
 go_loopw [5] (fun i wr=>∃ k:Nat,k≤len∧i = .int .i64 k∧Hid (Bel w wr)) (fun i _=>len-(intOf i).toNat)
 case atStart=>exact ⟨0,Nat.zero_le _,rfl,Below.refl _ _⟩
 case round =>
  obtain ⟨k,hk,rfl,hb⟩:=hrel
  by_cases hlt:k<len
  ·have R1:Hid (NdsAt wr a1 l):=h1.out.below hb.out
   have R2:Hid (NdsAt wr a2 l):=h2.out.below hb.out
   obtain ⟨b1,o1,ha1,-⟩:=R1.out k (by rw [Hlen.out];exact hlt)
   obtain ⟨b2,o2,ha2,-⟩:=R2.out k (by rw [Hlen.out];exact hlt)
   subst ha1;subst ha2
   have F1:=fun p:BelW wr.heap.size wr=>(R1.out.below p.h).cells (k:=k) (by rw [Hlen.out];exact hlt)
   have F2:=fun p:BelW wr.heap.size wr=>(R2.out.below p.h).cells (k:=k) (by rw [Hlen.out];exact hlt)
   have E:=fun w=>eqNd (ndAt l k) w
   unfold Nd.val at E
   generalize ndAt l k=r at F1 F2 E
   have f1_0:=fun p=>(F1 p).1
   have f1_1:=fun p=>(F1 p).2.1
   have f1_2:=fun p=>(F1 p).2.2.1
   have f1_3:=fun p=>(F1 p).2.2.2.1
   have f1_4:=fun p=>(F1 p).2.2.2.2
   have f2_0:=fun p=>(F2 p).1
   have f2_1:=fun p=>(F2 p).2.1
   have f2_2:=fun p=>(F2 p).2.2.1
   have f2_3:=fun p=>(F2 p).2.2.2.1
   have f2_4:=fun p=>(F2 p).2.2.2.2
   clear F1 F2
   have hlt':(k:Int)<(len:Int):=by omega
   go_wp2
   haveI:Nonempty (BelW wr.heap.size wr):=⟨⟨wr,Below.refl _ _⟩⟩
   refine rgb wr.heap.size (by kernel_rfl) (by kernel_rfl) ?_
   repeat (quiet_step ((go_at_call 107;refine qb (E _))))
   refine wpQuiet_nil ?_
   intro wq hx
   have hq:=BelW.out hx
   have B:Hid (Bel w wq):=hb.out.trans (hq.mono hb.out.size)
   clear hx hq f1_0 f1_1 f1_2 f1_3 f1_4 f2_0 f2_1 f2_2 f2_3 f2_4
   go_wp2
   go_roundw
   case rel=>exact ⟨k+1,by omega,by go_num,B⟩
   case measure=>simp [intOf];omega
  ·go_wp2
   go_ret
   exact ⟨rfl,hb.out⟩
theorem toNds (a:Option Addr) (cap:Nat) (l:List Nd) (w:World) (hT:l.length≤1048576) (h:Hid (NdsAt w a l)) :
 Calls Tryz.prog 36 #[.slice a l.length cap] w fun e w'=>∃ g,e = .returned (.slice (some ⟨g,0,none⟩) l.length l.length)∧NdRow w.heap.size w' (.slice (some ⟨g,0,none⟩) l.length l.length) l∧Bel w w':=by
 obtain ⟨i0,hi,hz0,hz1,hz2⟩:=info_parts ndInfo
 obtain ⟨len,hlen⟩:∃ n,l.length=n:=⟨_,rfl⟩
 unfold NdRow
 rw [hlen] at hT ⊢
 have Hlen:Hid (l.length=len):=hlen
 clear hlen
 have hmk:∀ wx,(Instr.makeSlice 41 (.int .i64 (len:Int)) (.int .i64 (len:Int))).run Tryz.prog wx = .ok (.slice (some ⟨wx.heap.size,0,none⟩) len len) (wx.alloc (.cells (madeCells #[.int .i64 0,.int .i64 0,.int .i64 0,.int .i64 0,.int .i64 0] (len*5)) 77)):=by
  intro wx
  have:=run_make (P:=Tryz.prog) wx 41 77 i0 (.agg #[.int .i64 0,.int .i64 0,.int .i64 0,.int .i64 0,.int .i64 0]) Tryz.underlying41 hi hz0 .i64 .i64 len len (by omega) (by omega) (by rw [hz2];omega) (by omega)
  rw [this,hz1];simp [Value.cells]
 have H0:Hid ((w.alloc (.cells (madeCells #[.int .i64 0,.int .i64 0,.int .i64 0,.int .i64 0,.int .i64 0] (len*5)) 77)).ownsRow w.heap.size 77 5 (.slice (some ⟨w.heap.size,0,none⟩) len len) len (ndcells (l.take 0++List.replicate (len-0) ⟨0,0,0,0,0⟩))):=by
  have:=World.ownsRow_lit (size:=5) (e:=77) (base:=w.heap.size) w (madeCells #[.int .i64 0,.int .i64 0,.int .i64 0,.int .i64 0,.int .i64 0] (len*5)) len nlr (by unfold maxLen;omega) (by rw [size_madeCells])
  rw [ndMade] at this
  show World.ownsRow _ _ _ _ _ _ _
  simpa using this
 clear hi hz0 hz1 hz2
 go_enter Tryz.func36,Tryz.ntmps36
 go_wp2
 go_loopw [4] (fun i wr=>∃ k:Nat,k≤len∧i = .int .i64 k∧Hid (wr.ownsRow w.heap.size 77 5 (.slice (some ⟨w.heap.size,0,none⟩) len len) len (ndcells (l.take k++List.replicate (len-k) ⟨0,0,0,0,0⟩))∧Bel w wr)) (fun i _=>len-(intOf i).toNat)
 case atStart=>exact ⟨0,Nat.zero_le _,rfl,H0.out,(Below.refl _ _).alloc nlr _⟩
 case round =>
  clear H0 hmk
  obtain ⟨k,hk,rfl,H1⟩:=hrel
  by_cases hlt:k<len
  ·have R:Hid (NdsAt wr a l):=h.out.below H1.out.2
   obtain ⟨b1,o1,ha1,hb1,-⟩:=R.out k (by rw [Hlen.out];exact hlt)
   subst ha1
   obtain ⟨c0,c1,c2,c3,c4⟩:=R.out.cells (k:=k) (by rw [Hlen.out];exact hlt)
   have hts:=ndTakeSet l len k Hlen.out hlt
   have T:=fun w=>toNdB (ndAt l k) w
   unfold Nd.val at T
   generalize ndAt l k=r at c0 c1 c2 c3 c4 hts T
   have Hts:Hid _:=hts
   clear hts
   go_wp2_with fail
   refine (T _).mono ?_
   rintro e w2 ⟨rfl,b2⟩
   have hsz:w.heap.size<wr.heap.size:=(World.ownsRow.lt H1.out.1 _ rfl).2
   have H2:Hid (w2.ownsRow w.heap.size 77 5 (.slice (some ⟨w.heap.size,0,none⟩) len len) len (ndcells (l.take k++List.replicate (len-k) ⟨0,0,0,0,0⟩))∧Bel w w2):=by
    refine ⟨?_,H1.out.2.trans (b2.mono H1.out.2.size)⟩
    have hh:=H1.out.1
    refine ⟨hh.1,hh.2.imp id ?_⟩
    rintro ⟨g0,cp,cur,h1,h2,h3,h4⟩
    cases h1
    exact ⟨_,_,cur,rfl,h2,by rw [b2.block _ hsz];exact h3,h4⟩
   have hL:(ndcells (l.take k++List.replicate (len-k) ⟨0,0,0,0,0⟩)).length=len*5:=by
    rw [ndcells_length];have:=Hlen.out;simp;omega
   have ex:∀ j,j<len*5→∃ v,w2.cell? ⟨w.heap.size,j,none⟩=some v:=by
    intro j hj
    rw [H2.out.1.cellAt j hj]
    exact ⟨_,List.getElem?_eq_getElem (by omega)⟩
   obtain ⟨y0,hy0⟩:=ex (k*5) (by omega)
   obtain ⟨y1,hy1⟩:=ex (k*5+1) (by omega)
   obtain ⟨y2,hy2⟩:=ex (k*5+2) (by omega)
   obtain ⟨y3,hy3⟩:=ex (k*5+3) (by omega)
   obtain ⟨y4,hy4⟩:=ex (k*5+4) (by omega)
   have z0:=H2.out.1.frozenAt (k*5)
   have z1:=H2.out.1.frozenAt (k*5+1)
   have z2:=H2.out.1.frozenAt (k*5+2)
   have z3:=H2.out.1.frozenAt (k*5+3)
   have z4:=H2.out.1.frozenAt (k*5+4)
   have H3:Hid (_∧Bel w (((((w2.setCell ⟨w.heap.size,k*5,none⟩ (.int .i64 r.up)).setCell ⟨w.heap.size,k*5+1,none⟩ (.int .i64 r.pz.rate)).setCell ⟨w.heap.size,k*5+2,none⟩ (.int .i64 r.pz.burst)).setCell ⟨w.heap.size,k*5+3,none⟩ (.int .i64 r.pz.level)).setCell ⟨w.heap.size,k*5+4,none⟩ (.int .i64 r.pz.tm))):=⟨NdRow.put H2.out.1 k r,((((H2.out.2.setCell nlr _).setCell nlr _).setCell nlr _).setCell nlr _).setCell nlr _⟩
   clear b2 hL ex H1 R H2
   go_wp2
   go_roundw
   case rel=>exact ⟨k+1,by omega,by go_num,by rw [← Hts.out];exact H3.out⟩
   case measure=>simp [intOf];omega
  ·obtain rfl:k=len:=by omega
   go_wp2
   go_ret
   refine ⟨_,rfl,?_,H1.out.2⟩
   have hh:=H1.out.1
   rw [Nat.sub_self,List.take_of_length_le (by rw [Hlen.out];omega)] at hh
   simpa using hh
theorem szNds (L:Int) (h0:0≤L) (h1:L≤1048576) (a:Option Addr) (cap len:Nat) (w:World) (hl:(len:Int)≤9223372036854775807) :
 Calls Tryz.prog 25 #[.slice a len cap,.int .i64 L] w fun e w'=>e = .returned (.int .i64 (if L-len<0 then -1 else L-len))∧w'=w:=by
 by_cases h:L-len<0
 ·rw [if_pos h]
  go_enter Tryz.func25,Tryz.ntmps25
  go_wp2
  go_ret
  exact ⟨rfl,rfl⟩
 ·rw [if_neg h]
  go_enter Tryz.func25,Tryz.ntmps25
  go_wp2
  go_ret
  exact ⟨rfl,rfl⟩
def ndMkF (s:Int) (i:Nat):Nd:=⟨s+5*(i:Int),s+5*(i:Int)+1,s+5*(i:Int)+2,s+5*(i:Int)+3,s+5*(i:Int)+4⟩
def ndMksF (s:Int) (L:List Nd) (j:Nat):List Nd:=(List.range j).map (ndMkF s)++L.drop j
theorem ndMksF_length (s:Int) (L:List Nd) (j:Nat) (h:j≤L.length):(ndMksF s L j).length=L.length:=by simp [ndMksF];omega
theorem ndMksF_zero (s:Int) (L:List Nd):ndMksF s L 0=L:=by simp [ndMksF]
theorem ndMksF_step (s:Int) (L:List Nd) (j:Nat) (h:j<L.length):(ndMksF s L j).set j (ndMkF s j)=ndMksF s L (j+1):=by
 unfold ndMksF
 rw [List.set_append_right _ _ (by simp),List.range_succ,List.map_append]
 simp
 rw [List.drop_eq_getElem_cons h]
 rfl
theorem ndMksF_end (s:Int) (L:List Nd) (j:Nat) (hj:j<L.length):ndAt (ndMksF s L L.length) j=ndMkF s j:=by
 have:j<L.length:=hj
 simp [ndMksF,ndAt,this]
theorem heldNdsF (s:Int) (s0:0≤s) (s1:s≤1099511627776) (a:Option Addr) (cap:Nat) (T:List Nd) (hT:T.length≤1048576) (w:World) (H:Hid (NdsAt w a (ndMksF s T T.length))) :
 Calls Tryz.prog 58 #[.slice a T.length cap,.int .i64 s] w fun e w'=>e = .returned (.int .i64 (s+5*(T.length:Int)))∧w'=w:=by
 have Hc:Hid (∀ j,j<T.length→∃ b off,a=some ⟨b,off,none⟩∧∀ kv:Int,kv=s+5*(j:Int)→w.cell? ⟨b,off+j*5,none⟩=some (.int .i64 (kv))∧w.cell? ⟨b,off+j*5+1,none⟩=some (.int .i64 (kv+1))∧w.cell? ⟨b,off+j*5+2,none⟩=some (.int .i64 (kv+2))∧w.cell? ⟨b,off+j*5+3,none⟩=some (.int .i64 (kv+3))∧w.cell? ⟨b,off+j*5+4,none⟩=some (.int .i64 (kv+4))):=by
  show ∀ j,j<T.length→_
  intro j hj
  obtain ⟨b,off,e,_,c0,c1,c2,c3,c4⟩:=H.out j (by rw [ndMksF_length s T _ nlr];exact hj)
  rw [ndMksF_end s T j hj] at c0 c1 c2 c3 c4
  refine ⟨b,off,e,fun kv hkv=>?_⟩
  subst hkv
  exact ⟨c0,c1,c2,c3,c4⟩
 generalize T.length=len at hT Hc ⊢
 clear H
 go_enter Tryz.func58,Tryz.ntmps58
 go_wp2
 go_loop [1,5] (fun kk i=>∃ (j:Nat) (kv:Int),j≤len∧i = .int .i64 j∧kk = .int .i64 kv∧kv=s+5*(j:Int)) (fun _ i=>len-(intOf i).toNat)
 case atStart=>exact ⟨0,s,Nat.zero_le _,rfl,rfl,by simp⟩
 case round =>
  obtain ⟨j,kv,hj,rfl,rfl,hkv⟩:=hrel
  have Hkv:Hid (kv=s+5*(j:Int)):=hkv
  have k0:0≤kv:=by omega
  have k1:kv≤1099516870656:=by omega
  by_cases hlt:j<len
  ·obtain ⟨b,off,ha,hc⟩:=Hc.out j hlt
   obtain ⟨c0,c1,c2,c3,c4⟩:=hc kv hkv
   subst ha
   clear hkv hc
   go_wp2
   go_round
   case rel=>exact ⟨j+1,kv+5,by omega,by go_num,by go_num,by rw [Hkv.out];push_cast;omega⟩
   case measure=>simp [intOf];omega
  ·obtain rfl:j=len:=by omega
   clear hkv
   go_wp2
   go_ret
   exact ⟨by rw [← Hkv.out];rfl,rfl⟩
theorem markNdsG (s:Int) (s0:0≤s) (s1:s≤1099511627776) (b t:Nat) (v:Value) (T:List Nd) (hT:T.length≤1048576) (w:World) (H:Hid (NdIn b t w v T)) :
 Calls Tryz.prog 52 #[v,.int .i64 s] w fun e w'=>e = .returned (.int .i64 (s+5*(T.length:Int)))∧NdIn b t w' v (ndMksF s T T.length)∧Turn (Hits v (T.length*5)) w w':=by
 obtain ⟨a,cap,rfl⟩:=SlIn.shape H.out
 obtain ⟨len,hlen⟩:∃ n,T.length=n:=⟨_,rfl⟩
 have hcl:=ndcells_length T
 have H:Hid (SlIn b t w (.slice a len cap) len (ndcells T)):=by
  have h:=H.out
  unfold NdIn at h
  rw [hlen] at h
  exact h
 rw [hlen] at hT ⊢
 have Hlen:Hid (T.length=len):=hlen
 have Hcl:Hid (∀ j,j≤len→(ndcells (ndMksF s T j)).length=len*5):=fun j hj=>by rw [ndcells_length,ndMksF_length s T j (by rw [Hlen.out];exact hj),Hlen.out]
 clear hlen hcl
 go_enter Tryz.func52,Tryz.ntmps52
 go_wp2
 go_loopw [1,5] (fun kk i wr=>∃ (j:Nat) (kv:Int),j≤len∧i = .int .i64 j∧kk = .int .i64 kv∧kv=s+5*(j:Int)∧Hid (SlIn b t wr (.slice a len cap) len (ndcells (ndMksF s T j))∧Turn (Hits (.slice a len cap) (len*5)) w wr)) (fun _ i _=>len-(intOf i).toNat)
 case atStart=>exact ⟨0,s,Nat.zero_le _,rfl,rfl,by simp,by rw [ndMksF_zero];exact H.out,Turn.refl _ _⟩
 case round =>
  obtain ⟨j,kv,hj,rfl,rfl,hkv,H2⟩:=hrel
  have Hkv:Hid (kv=s+5*(j:Int)):=hkv
  have k0:0≤kv:=by omega
  have k1:kv≤1099516870656:=by omega
  by_cases hlt:j<len
  ·have hcl:=Hcl.out j hj
   obtain ⟨g,off,ha,h1,h2,h3⟩:=SlIn.some H2.out.1 (by intro e;rw [e] at hcl;simp at hcl;omega)
   subst ha
   have em:ndMkF s j=⟨kv,kv+1,kv+1+1,kv+1+1+1,kv+1+1+1+1⟩:=by
    rw [hkv]
    unfold ndMkF
    simp only [Nd.mk.injEq,Pz.mk.injEq]
    refine ⟨by first|trivial|omega,by first|trivial|omega,by first|trivial|omega,by first|trivial|omega,by first|trivial|omega⟩
   have hput:=H2.out.1
   have hput:=SlIn.put hput (j*5) (by omega) (.int .i64 (kv))
   have hput:=SlIn.put hput (j*5+1) (by simp only [List.length_set];omega) (.int .i64 (kv+1))
   have hput:=SlIn.put hput (j*5+2) (by simp only [List.length_set];omega) (.int .i64 (kv+1+1))
   have hput:=SlIn.put hput (j*5+3) (by simp only [List.length_set];omega) (.int .i64 (kv+1+1+1))
   have hput:=SlIn.put hput (j*5+4) (by simp only [List.length_set];omega) (.int .i64 (kv+1+1+1+1))
   have hset:=ndcells_set (ndMksF s T j) j (ndMkF s j)
   rw [ndMksF_step s T j (by rw [Hlen.out];exact hlt)] at hset
   simp only [em] at hset
   rw [hset] at hput
   have z0:=(SlIn.cells H2.out.1 (j*5) (by omega)).2
   have y0:=(SlIn.cells H2.out.1 (j*5) (by omega)).1
   have z1:=(SlIn.cells H2.out.1 (j*5+1) (by omega)).2
   have y1:=(SlIn.cells H2.out.1 (j*5+1) (by omega)).1
   have z2:=(SlIn.cells H2.out.1 (j*5+2) (by omega)).2
   have y2:=(SlIn.cells H2.out.1 (j*5+2) (by omega)).1
   have z3:=(SlIn.cells H2.out.1 (j*5+3) (by omega)).2
   have y3:=(SlIn.cells H2.out.1 (j*5+3) (by omega)).1
   have z4:=(SlIn.cells H2.out.1 (j*5+4) (by omega)).2
   have y4:=(SlIn.cells H2.out.1 (j*5+4) (by omega)).1
   simp only [← Nat.add_assoc] at hput z0 y0 z1 y1 z2 y2 z3 y3 z4 y4
   have H3:Hid (SlIn b t (((((wr.setCell ⟨g,off+j*5,none⟩ (.int .i64 (kv))).setCell ⟨g,off+j*5+1,none⟩ (.int .i64 (kv+1))).setCell ⟨g,off+j*5+2,none⟩ (.int .i64 (kv+1+1))).setCell ⟨g,off+j*5+3,none⟩ (.int .i64 (kv+1+1+1))).setCell ⟨g,off+j*5+4,none⟩ (.int .i64 (kv+1+1+1+1))) (.slice (some ⟨g,off,none⟩) len cap) len (ndcells (ndMksF s T (j+1)))∧Turn (Hits (.slice (some ⟨g,off,none⟩) len cap) (len*5)) w (((((wr.setCell ⟨g,off+j*5,none⟩ (.int .i64 (kv))).setCell ⟨g,off+j*5+1,none⟩ (.int .i64 (kv+1))).setCell ⟨g,off+j*5+2,none⟩ (.int .i64 (kv+1+1))).setCell ⟨g,off+j*5+3,none⟩ (.int .i64 (kv+1+1+1))).setCell ⟨g,off+j*5+4,none⟩ (.int .i64 (kv+1+1+1+1)))):=by
    refine ⟨hput,H2.out.2.trans ?_⟩
    refine (Turn.trans (Turn.trans (Turn.trans (Turn.trans ((turn_set _ _ _ _).wide ?_) ((turn_set _ _ _ _).wide ?_)) ((turn_set _ _ _ _).wide ?_)) ((turn_set _ _ _ _).wide ?_)) ((turn_set _ _ _ _).wide ?_))
    all_goals (rintro k o ⟨rfl,rfl⟩;exact ⟨off,len,cap,rfl,by omega,by omega⟩)
   generalize (ndcells (ndMksF s T j))[j*5]?.getD undef=u0 at y0;generalize (ndcells (ndMksF s T j))[j*5+1]?.getD undef=u1 at y1;generalize (ndcells (ndMksF s T j))[j*5+2]?.getD undef=u2 at y2;generalize (ndcells (ndMksF s T j))[j*5+3]?.getD undef=u3 at y3;generalize (ndcells (ndMksF s T j))[j*5+4]?.getD undef=u4 at y4
   clear hput hset hkv em hcl h1 h2 h3
   go_wp2
   go_roundw
   case rel=>exact ⟨j+1,kv+5,by omega,by go_num,by go_num,by rw [Hkv.out];push_cast;omega,H3⟩
   case measure=>simp [intOf];omega
  ·obtain rfl:j=len:=by omega
   go_wp2
   go_ret
   refine ⟨by rw [← Hkv.out];rfl,?_,H2.out.2⟩
   have h:=H2.out.1
   unfold NdIn
   rw [ndMksF_length s T _ (by rw [Hlen.out];omega),Hlen.out]
   exact h
theorem toNdW (a:Option Addr) (c:Nat) (l:List Nd) (w:World) (hT:l.length≤1048576) (h:Hid (NdsAt w a l)) :
 Calls Tryz.prog 36 #[.slice a l.length c] w fun e w'=>(∃ v,e = .returned v∧NdsW w.heap.size w'.heap.size w' v l)∧Bel w w' :=
 (toNds a c l w hT h).mono fun e w' hh=>by
  obtain ⟨g,rfl,hr,hb⟩:=hh
  exact ⟨⟨_,rfl,NdsW.of_row hr⟩,hb⟩
theorem eqNdW (v1 v2:Value) (l:List Nd) (w:World) (hT:l.length≤1048576) (h1:Hid (NdsV w v1 l)) (h2:Hid (NdsV w v2 l)) :
 Calls Tryz.prog 46 #[v1,v2] w fun e w'=>e = .returned (.bool true)∧Bel w w':=by
 obtain ⟨a1,c1,rfl,k1,_⟩:=h1.out
 obtain ⟨a2,c2,rfl,k2,_⟩:=h2.out
 exact eqNds a1 a2 c1 c2 l w hT k1 k2
def ndMkS (s:Int) (l:List Nd):List Nd:=ndMksF s l l.length
theorem ndMkS_length (s:Int) (l:List Nd):(ndMkS s l).length=l.length:=ndMksF_length s l l.length nlr
theorem markNdS (s:Int) (s0:0≤s) (s1:s≤549755813888) (b t:Nat) (v:Value) (l:List Nd) (w:World) (hT:l.length≤1048576) (H:Hid (NdsW b t w v l)) :
 Calls Tryz.prog 52 #[v,.int .i64 s] w fun e w'=>e = .returned (.int .i64 (s+5*(l.length:Int)))∧NdsW b t w' v (ndMkS s l)∧Span b t w w' :=
 (markNdsG s (by omega) (by omega) b t v l hT w H.out.1).mono fun e w' hh=>by
  obtain ⟨rfl,h1,h2⟩:=hh
  obtain ⟨a,c,rfl,hc⟩:=H.out.2
  refine ⟨rfl,⟨h1,a,c,by rw [ndMkS_length],by rw [ndMkS_length];exact hc⟩,Span.of_turn h2 fun k o hh=>?_⟩
  have:=SlIn.in H.out.1 (k:=k) (o:=o)
  rw [ndcells_length] at this
  exact this hh
theorem heldNdS (s:Int) (s0:0≤s) (s1:s≤549755813888) (v:Value) (l:List Nd) (w:World) (hT:l.length≤1048576) (H:Hid (NdsV w v (ndMkS s l))) :
 Calls Tryz.prog 58 #[v,.int .i64 s] w fun e w'=>e = .returned (.int .i64 (s+5*(l.length:Int)))∧Bel w w':=by
 obtain ⟨a,c,rfl,k,_⟩:=H.out
 rw [ndMkS_length]
 exact (heldNdsF s (by omega) (by omega) a c l hT w k).mono fun e w' hh=>⟨hh.1,by rw [hh.2];exact Below.refl _ _⟩
def intMkS (s:Int) (l:List Int):List Int:=mks s l l.length
theorem intMkS_length (s:Int) (l:List Int):(intMkS s l).length=l.length:=mks_length s l l.length nlr
theorem toIntW (a:Option Addr) (c:Nat) (l:List Int) (w:World) (hT:l.length≤1048576) (h:Hid (IntsAt w a l)) :
 Calls Tryz.prog 37 #[.slice a l.length c] w fun e w'=>(∃ v,e = .returned v∧IntsW w.heap.size w'.heap.size w' v l)∧Bel w w' :=
 (toIntsR a c l w hT h).mono fun e w' hh=>by
  obtain ⟨g,rfl,hr,hb⟩:=hh
  exact ⟨⟨_,rfl,IntsW.of_row hr⟩,hb⟩
theorem markIntS (s:Int) (s0:0≤s) (s1:s≤549755813888) (b t:Nat) (v:Value) (l:List Int) (w:World) (hT:l.length≤1048576) (H:Hid (IntsW b t w v l)) :
 Calls Tryz.prog 16 #[v,.int .i64 s] w fun e w'=>e = .returned (.int .i64 (s+(l.length:Int)))∧IntsW b t w' v (intMkS s l)∧Span b t w w' :=
 (markIntsG s (by omega) (by omega) b t v l hT w H.out.1).mono fun e w' hh=>by
  obtain ⟨rfl,h1,h2⟩:=hh
  obtain ⟨a,c,rfl,hc⟩:=H.out.2
  refine ⟨rfl,⟨h1,a,c,by rw [intMkS_length],by rw [intMkS_length];exact hc⟩,Span.of_turn h2 fun k o hh=>?_⟩
  have:=SlIn.in H.out.1 (k:=k) (o:=o)
  rw [List.length_map] at this
  exact this hh
theorem heldIntS (s:Int) (s0:0≤s) (s1:s≤549755813888) (v:Value) (l:List Int) (w:World) (hT:l.length≤1048576) (H:Hid (IntsV w v (intMkS s l))) :
 Calls Tryz.prog 17 #[v,.int .i64 s] w fun e w'=>e = .returned (.int .i64 (s+(l.length:Int)))∧Bel w w':=by
 obtain ⟨a,c,rfl,k,_⟩:=H.out
 rw [intMkS_length]
 exact (heldIntsF s (by omega) (by omega) a c l hT w k).mono fun e w' hh=>⟨hh.1,by rw [hh.2];exact Below.refl _ _⟩
def Gt.k1 (s:Int) (g:Gt):Int:=s+3*(g.routes.length:Int)
def Gt.k2 (s:Int) (g:Gt):Int:=g.k1 s+10*(g.rules.length:Int)
def Gt.k3 (s:Int) (g:Gt):Int:=g.k2 s+5*(g.tree.length:Int)
def Gt.k4 (s:Int) (g:Gt):Int:=g.k3 s+(g.leaves.length:Int)
def Gt.k5 (s:Int) (g:Gt):Int:=g.k4 s+3*(izSum g.rows.lists g.rows.lists.length:Int)
def Gt.k6 (s:Int) (g:Gt):Int:=g.k5 s+3*(g.steers.length:Int)
def Gt.k7 (s:Int) (g:Gt):Int:=g.k6 s+2*(g.fair.flows.length:Int)+(fwSum g.fair.flows g.fair.flows.length:Int)
def Gt.mk' (s:Int) (g:Gt):Gt:=⟨g.ln,rtMkS s g.routes,ruMkS (g.k1 s) g.rules,ndMkS (g.k2 s) g.tree,intMkS (g.k3 s) g.leaves,Rw.mk' (g.k4 s) g.rows,srMkS (g.k5 s) g.steers,Fs.mk' (g.k6 s) g.fair,g.next,g.draw⟩
theorem Span.wide {b t b1 t1:Nat} {w w':World} (h:Span b1 t1 w w') (hb:b≤b1) (ht:t1≤t):Span b t w w':=⟨h.os,h.tape,h.output,h.size,fun k hk h2=>h.block k hk (by omega)⟩
theorem rw_mk_len (s:Int) (r:Rw):(Rw.mk' s r).lists.length=r.lists.length:=by simp [Rw.mk',izMks_length]
theorem fs_mk_len (s:Int) (r:Fs):(Fs.mk' s r).flows.length=r.flows.length:=by simp [Fs.mk',fwMks_length]
theorem Gt.mk_val (s:Int) (g:Gt) (x:Ga):(g.mk' s).val x=g.val x:=by
 simp only [Gt.val,Gt.cells,Gt.mk',rtMkS_length,ruMkS_length,ndMkS_length,intMkS_length,srMkS_length,rw_mk_len,fs_mk_len]
 rfl
theorem Gt.ks {g:Gt} (h:g.big≤1048576) {s:Int} (s0:0≤s) (s1:s≤274877906944):(0≤g.k1 s∧g.k1 s≤549755813888)∧(0≤g.k2 s∧g.k2 s≤549755813888)∧(0≤g.k3 s∧g.k3 s≤549755813888)∧(0≤g.k4 s∧g.k4 s≤549755813888)∧(0≤g.k5 s∧g.k5 s≤549755813888)∧(0≤g.k6 s∧g.k6 s≤549755813888)∧0≤g.k7 s:=by
 obtain ⟨h1,h2,h3,h4,h5,h6,h7⟩:=Gt.small h
 have h8:=(Rw.small h5).2.1
 unfold Gt.k7 Gt.k6 Gt.k5 Gt.k4 Gt.k3 Gt.k2 Gt.k1
 omega
end Go.Proofs.YtmfabeghfdoibaaGreat
