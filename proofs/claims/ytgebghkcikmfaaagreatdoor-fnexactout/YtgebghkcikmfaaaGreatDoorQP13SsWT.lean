import Derived.Test.YtgebghkcikmfaaaGreatDoorQP2GtSpot
import Derived.RegionTactic
set_option maxHeartbeats 6400000
set_option maxRecDepth 100000
namespace Go.Proofs.YtgebghkcikmfaaaGreatDoor
open Go.RowKit
theorem eqSr (r:Sr) (w:World) :
 Calls Tryz.prog 118 #[r.val,r.val] w fun e w'=>e = .returned (.bool true)∧Bel w w':=by
 unfold Sr.val
 obtain ⟨v0,v1,v2⟩:=r
 simp only []
 go_enter Tryz.func118,Tryz.ntmps118
 go_wp2
 go_ret
 exact ⟨rfl,((Below.refl _ w).alloc nlr _).alloc (by simp) _⟩
theorem eqSrs (a1 a2:Option Addr) (cap1 cap2:Nat) (l:List Sr) (w:World) (hT:l.length≤1048576) (h1:Hid (SrsAt w a1 l)) (h2:Hid (SrsAt w a2 l)) :
 Calls Tryz.prog 45 #[.slice a1 l.length cap1,.slice a2 l.length cap2] w fun e w'=>e = .returned (.bool true)∧Bel w w':=by
 obtain ⟨len,hlen⟩:∃ n,l.length=n:=⟨_,rfl⟩
 rw [hlen] at hT ⊢
 have Hlen:Hid (l.length=len):=hlen
 clear hlen
 go_enter Tryz.func45,Tryz.ntmps45
 go_wp2
 go_loopw [5] (fun i wr=>∃ k:Nat,k≤len∧i = .int .i64 k∧Hid (Bel w wr)) (fun i _=>len-(intOf i).toNat)
 case atStart=>exact ⟨0,Nat.zero_le _,rfl,Below.refl _ _⟩
 case round =>
  obtain ⟨k,hk,rfl,hb⟩:=hrel
  by_cases hlt:k<len
  ·have R1:Hid (SrsAt wr a1 l):=h1.out.below hb.out
   have R2:Hid (SrsAt wr a2 l):=h2.out.below hb.out
   obtain ⟨b1,o1,ha1,-⟩:=R1.out k (by rw [Hlen.out];exact hlt)
   obtain ⟨b2,o2,ha2,-⟩:=R2.out k (by rw [Hlen.out];exact hlt)
   subst ha1;subst ha2
   have F1:=fun p:BelW wr.heap.size wr=>(R1.out.below p.h).cells (k:=k) (by rw [Hlen.out];exact hlt)
   have F2:=fun p:BelW wr.heap.size wr=>(R2.out.below p.h).cells (k:=k) (by rw [Hlen.out];exact hlt)
   have E:=fun w=>eqSr (srAt l k) w
   unfold Sr.val at E
   generalize srAt l k=r at F1 F2 E
   have f1_0:=fun p=>(F1 p).1
   have f1_1:=fun p=>(F1 p).2.1
   have f1_2:=fun p=>(F1 p).2.2
   have f2_0:=fun p=>(F2 p).1
   have f2_1:=fun p=>(F2 p).2.1
   have f2_2:=fun p=>(F2 p).2.2
   clear F1 F2
   have hlt':(k:Int)<(len:Int):=by omega
   go_wp2
   haveI:Nonempty (BelW wr.heap.size wr):=⟨⟨wr,Below.refl _ _⟩⟩
   refine rgb wr.heap.size (by kernel_rfl) (by kernel_rfl) ?_
   repeat (quiet_step ((go_at_call 118;refine qb (E _))))
   refine wpQuiet_nil ?_
   intro wq hx
   have hq:=BelW.out hx
   have B:Hid (Bel w wq):=hb.out.trans (hq.mono hb.out.size)
   clear hx hq f1_0 f1_1 f1_2 f2_0 f2_1 f2_2
   go_wp2
   go_roundw
   case rel=>exact ⟨k+1,by omega,by go_num,B⟩
   case measure=>simp [intOf];omega
  ·go_wp2
   go_ret
   exact ⟨rfl,hb.out⟩
def srMkF (s:Int) (i:Nat):Sr:=⟨s+3*(i:Int),s+3*(i:Int)+1,s+3*(i:Int)+2⟩
def srMksF (s:Int) (L:List Sr) (j:Nat):List Sr:=(List.range j).map (srMkF s)++L.drop j
theorem srMksF_length (s:Int) (L:List Sr) (j:Nat) (h:j≤L.length):(srMksF s L j).length=L.length:=by simp [srMksF];omega
theorem srMksF_zero (s:Int) (L:List Sr):srMksF s L 0=L:=by simp [srMksF]
theorem srMksF_step (s:Int) (L:List Sr) (j:Nat) (h:j<L.length):(srMksF s L j).set j (srMkF s j)=srMksF s L (j+1):=by
 unfold srMksF
 rw [List.set_append_right _ _ (by simp),List.range_succ,List.map_append]
 simp
 rw [List.drop_eq_getElem_cons h]
 rfl
theorem srMksF_end (s:Int) (L:List Sr) (j:Nat) (hj:j<L.length):srAt (srMksF s L L.length) j=srMkF s j:=by
 have:j<L.length:=hj
 simp [srMksF,srAt,this]
theorem heldSrsF (s:Int) (s0:0≤s) (s1:s≤1099511627776) (a:Option Addr) (cap:Nat) (T:List Sr) (hT:T.length≤1048576) (w:World) (H:Hid (SrsAt w a (srMksF s T T.length))) :
 Calls Tryz.prog 59 #[.slice a T.length cap,.int .i64 s] w fun e w'=>e = .returned (.int .i64 (s+3*(T.length:Int)))∧w'=w:=by
 have Hc:Hid (∀ j,j<T.length→∃ b off,a=some ⟨b,off,none⟩∧∀ kv:Int,kv=s+3*(j:Int)→w.cell? ⟨b,off+j*3,none⟩=some (.int .i64 (kv))∧w.cell? ⟨b,off+j*3+1,none⟩=some (.int .i64 (kv+1))∧w.cell? ⟨b,off+j*3+2,none⟩=some (.int .i64 (kv+2))):=by
  show ∀ j,j<T.length→_
  intro j hj
  obtain ⟨b,off,e,_,c0,c1,c2⟩:=H.out j (by rw [srMksF_length s T _ nlr];exact hj)
  rw [srMksF_end s T j hj] at c0 c1 c2
  refine ⟨b,off,e,fun kv hkv=>?_⟩
  subst hkv
  exact ⟨c0,c1,c2⟩
 generalize T.length=len at hT Hc ⊢
 clear H
 go_enter Tryz.func59,Tryz.ntmps59
 go_wp2
 go_loop [1,5] (fun kk i=>∃ (j:Nat) (kv:Int),j≤len∧i = .int .i64 j∧kk = .int .i64 kv∧kv=s+3*(j:Int)) (fun _ i=>len-(intOf i).toNat)
 case atStart=>exact ⟨0,s,Nat.zero_le _,rfl,rfl,by simp⟩
 case round =>
  obtain ⟨j,kv,hj,rfl,rfl,hkv⟩:=hrel
  have Hkv:Hid (kv=s+3*(j:Int)):=hkv
  have k0:0≤kv:=by omega
  have k1:kv≤1099514773504:=by omega
  by_cases hlt:j<len
  ·obtain ⟨b,off,ha,hc⟩:=Hc.out j hlt
   obtain ⟨c0,c1,c2⟩:=hc kv hkv
   subst ha
   clear hkv hc
   go_wp2
   go_round
   case rel=>exact ⟨j+1,kv+3,by omega,by go_num,by go_num,by rw [Hkv.out];push_cast;omega⟩
   case measure=>simp [intOf];omega
  ·obtain rfl:j=len:=by omega
   clear hkv
   go_wp2
   go_ret
   exact ⟨by rw [← Hkv.out];rfl,rfl⟩
theorem markSrsG (s:Int) (s0:0≤s) (s1:s≤1099511627776) (b t:Nat) (v:Value) (T:List Sr) (hT:T.length≤1048576) (w:World) (H:Hid (SrIn b t w v T)) :
 Calls Tryz.prog 52 #[v,.int .i64 s] w fun e w'=>e = .returned (.int .i64 (s+3*(T.length:Int)))∧SrIn b t w' v (srMksF s T T.length)∧Turn (Hits v (T.length*3)) w w':=by
 obtain ⟨a,cap,rfl⟩:=SlIn.shape H.out
 obtain ⟨len,hlen⟩:∃ n,T.length=n:=⟨_,rfl⟩
 have hcl:=srcells_length T
 have H:Hid (SlIn b t w (.slice a len cap) len (srcells T)):=by
  have h:=H.out
  unfold SrIn at h
  rw [hlen] at h
  exact h
 rw [hlen] at hT ⊢
 have Hlen:Hid (T.length=len):=hlen
 have Hcl:Hid (∀ j,j≤len→(srcells (srMksF s T j)).length=len*3):=fun j hj=>by rw [srcells_length,srMksF_length s T j (by rw [Hlen.out];exact hj),Hlen.out]
 clear hlen hcl
 go_enter Tryz.func52,Tryz.ntmps52
 go_wp2
 go_loopw [1,5] (fun kk i wr=>∃ (j:Nat) (kv:Int),j≤len∧i = .int .i64 j∧kk = .int .i64 kv∧kv=s+3*(j:Int)∧Hid (SlIn b t wr (.slice a len cap) len (srcells (srMksF s T j))∧Turn (Hits (.slice a len cap) (len*3)) w wr)) (fun _ i _=>len-(intOf i).toNat)
 case atStart=>exact ⟨0,s,Nat.zero_le _,rfl,rfl,by simp,by rw [srMksF_zero];exact H.out,Turn.refl _ _⟩
 case round =>
  obtain ⟨j,kv,hj,rfl,rfl,hkv,H2⟩:=hrel
  have Hkv:Hid (kv=s+3*(j:Int)):=hkv
  have k0:0≤kv:=by omega
  have k1:kv≤1099514773504:=by omega
  by_cases hlt:j<len
  ·have hcl:=Hcl.out j hj
   obtain ⟨g,off,ha,h1,h2,h3⟩:=SlIn.some H2.out.1 (by intro e;rw [e] at hcl;simp at hcl;omega)
   subst ha
   have em:srMkF s j=⟨kv,kv+1,kv+1+1⟩:=by
    rw [hkv]
    unfold srMkF
    simp only [Sr.mk.injEq]
    refine ⟨by first|trivial|omega,by first|trivial|omega,by first|trivial|omega⟩
   have hput:=H2.out.1
   have hput:=SlIn.put hput (j*3) (by omega) (.int .i64 (kv))
   have hput:=SlIn.put hput (j*3+1) (by simp only [List.length_set];omega) (.int .i64 (kv+1))
   have hput:=SlIn.put hput (j*3+2) (by simp only [List.length_set];omega) (.int .i64 (kv+1+1))
   have hset:=srcells_set (srMksF s T j) j (srMkF s j)
   rw [srMksF_step s T j (by rw [Hlen.out];exact hlt)] at hset
   simp only [em] at hset
   rw [hset] at hput
   have z0:=(SlIn.cells H2.out.1 (j*3) (by omega)).2
   have y0:=(SlIn.cells H2.out.1 (j*3) (by omega)).1
   have z1:=(SlIn.cells H2.out.1 (j*3+1) (by omega)).2
   have y1:=(SlIn.cells H2.out.1 (j*3+1) (by omega)).1
   have z2:=(SlIn.cells H2.out.1 (j*3+2) (by omega)).2
   have y2:=(SlIn.cells H2.out.1 (j*3+2) (by omega)).1
   simp only [← Nat.add_assoc] at hput z0 y0 z1 y1 z2 y2
   have H3:Hid (SlIn b t (((wr.setCell ⟨g,off+j*3,none⟩ (.int .i64 (kv))).setCell ⟨g,off+j*3+1,none⟩ (.int .i64 (kv+1))).setCell ⟨g,off+j*3+2,none⟩ (.int .i64 (kv+1+1))) (.slice (some ⟨g,off,none⟩) len cap) len (srcells (srMksF s T (j+1)))∧Turn (Hits (.slice (some ⟨g,off,none⟩) len cap) (len*3)) w (((wr.setCell ⟨g,off+j*3,none⟩ (.int .i64 (kv))).setCell ⟨g,off+j*3+1,none⟩ (.int .i64 (kv+1))).setCell ⟨g,off+j*3+2,none⟩ (.int .i64 (kv+1+1)))):=by
    refine ⟨hput,H2.out.2.trans ?_⟩
    refine (Turn.trans (Turn.trans ((turn_set _ _ _ _).wide ?_) ((turn_set _ _ _ _).wide ?_)) ((turn_set _ _ _ _).wide ?_))
    all_goals (rintro k o ⟨rfl,rfl⟩;exact ⟨off,len,cap,rfl,by omega,by omega⟩)
   generalize (srcells (srMksF s T j))[j*3]?.getD undef=u0 at y0;generalize (srcells (srMksF s T j))[j*3+1]?.getD undef=u1 at y1;generalize (srcells (srMksF s T j))[j*3+2]?.getD undef=u2 at y2
   clear hput hset hkv em hcl h1 h2 h3
   go_wp2
   go_roundw
   case rel=>exact ⟨j+1,kv+3,by omega,by go_num,by go_num,by rw [Hkv.out];push_cast;omega,H3⟩
   case measure=>simp [intOf];omega
  ·obtain rfl:j=len:=by omega
   go_wp2
   go_ret
   refine ⟨by rw [← Hkv.out];rfl,?_,H2.out.2⟩
   have h:=H2.out.1
   unfold SrIn
   rw [srMksF_length s T _ (by rw [Hlen.out];omega),Hlen.out]
   exact h
def srMkS (s:Int) (l:List Sr):List Sr:=srMksF s l l.length
theorem srMkS_length (s:Int) (l:List Sr):(srMkS s l).length=l.length:=srMksF_length s l l.length nlr
theorem eqSrW (v1 v2:Value) (l:List Sr) (w:World) (hT:l.length≤1048576) (h1:Hid (SrsV w v1 l)) (h2:Hid (SrsV w v2 l)) :
 Calls Tryz.prog 45 #[v1,v2] w fun e w'=>e = .returned (.bool true)∧Bel w w':=by
 obtain ⟨a1,c1,rfl,k1,_⟩:=h1.out
 obtain ⟨a2,c2,rfl,k2,_⟩:=h2.out
 exact eqSrs a1 a2 c1 c2 l w hT k1 k2
theorem markSrS (s:Int) (s0:0≤s) (s1:s≤549755813888) (b t:Nat) (v:Value) (l:List Sr) (w:World) (hT:l.length≤1048576) (H:Hid (SrsW b t w v l)) :
 Calls Tryz.prog 52 #[v,.int .i64 s] w fun e w'=>e = .returned (.int .i64 (s+3*(l.length:Int)))∧SrsW b t w' v (srMkS s l)∧Span b t w w' :=
 (markSrsG s (by omega) (by omega) b t v l hT w H.out.1).mono fun e w' hh=>by
  obtain ⟨rfl,h1,h2⟩:=hh
  obtain ⟨a,c,rfl,hc⟩:=H.out.2
  refine ⟨rfl,⟨h1,a,c,by rw [srMkS_length],by rw [srMkS_length];exact hc⟩,Span.of_turn h2 fun k o hh=>?_⟩
  have:=SlIn.in H.out.1 (k:=k) (o:=o)
  rw [srcells_length] at this
  exact this hh
theorem heldSrS (s:Int) (s0:0≤s) (s1:s≤549755813888) (v:Value) (l:List Sr) (w:World) (hT:l.length≤1048576) (H:Hid (SrsV w v (srMkS s l))) :
 Calls Tryz.prog 59 #[v,.int .i64 s] w fun e w'=>e = .returned (.int .i64 (s+3*(l.length:Int)))∧Bel w w':=by
 obtain ⟨a,c,rfl,k,_⟩:=H.out
 rw [srMkS_length]
 exact (heldSrsF s (by omega) (by omega) a c l hT w k).mono fun e w' hh=>⟨hh.1,by rw [hh.2];exact Below.refl _ _⟩
theorem toSr (r:Sr) (w:World) :
 Calls Tryz.prog 88 #[r.val] w fun e w'=>e = .returned r.val∧w'=((w.alloc (.cells r.cells.toArray 145)).alloc (.cells r.cells.toArray 114)).alloc (.cells r.cells.toArray 114):=by
 unfold Sr.val Sr.cells
 obtain ⟨v0,v1,v2⟩:=r
 simp only []
 go_enter Tryz.func88,Tryz.ntmps88
 go_wp2
 refine bodyPost_ret (v:=.agg #[.int .i64 v0,.int .i64 v1,.int .i64 v2]) (by simp [results,Tryz.results88,go_sem]) rfl ⟨rfl,rfl⟩
theorem toSrB (r:Sr) (w:World) :
 Calls Tryz.prog 88 #[r.val] w fun e w'=>e = .returned r.val∧Bel w w' :=
 (toSr r w).mono fun _ _ h=>⟨h.1,by
  rw [h.2]
  exact (((Below.refl _ w).alloc nlr _).alloc (by simp) _).alloc (by simp;omega) _⟩
theorem toSrs (a:Option Addr) (cap:Nat) (l:List Sr) (w:World) (hT:l.length≤1048576) (h:Hid (SrsAt w a l)) :
 Calls Tryz.prog 31 #[.slice a l.length cap] w fun e w'=>∃ g,e = .returned (.slice (some ⟨g,0,none⟩) l.length l.length)∧SrRow w.heap.size w' (.slice (some ⟨g,0,none⟩) l.length l.length) l∧Bel w w':=by
 obtain ⟨i0,hi,hz0,hz1,hz2⟩:=info_parts srInfo
 obtain ⟨len,hlen⟩:∃ n,l.length=n:=⟨_,rfl⟩
 unfold SrRow
 rw [hlen] at hT ⊢
 have Hlen:Hid (l.length=len):=hlen
 clear hlen
 have hmk:∀ wx,(Instr.makeSlice 45 (.int .i64 (len:Int)) (.int .i64 (len:Int))).run Tryz.prog wx = .ok (.slice (some ⟨wx.heap.size,0,none⟩) len len) (wx.alloc (.cells (madeCells #[.int .i64 0,.int .i64 0,.int .i64 0] (len*3)) 114)):=by
  intro wx
  have:=run_make (P:=Tryz.prog) wx 45 114 i0 (.agg #[.int .i64 0,.int .i64 0,.int .i64 0]) Tryz.underlying45 hi hz0 .i64 .i64 len len (by omega) (by omega) (by rw [hz2];omega) (by omega)
  rw [this,hz1];simp [Value.cells]
 have H0:Hid ((w.alloc (.cells (madeCells #[.int .i64 0,.int .i64 0,.int .i64 0] (len*3)) 114)).ownsRow w.heap.size 114 3 (.slice (some ⟨w.heap.size,0,none⟩) len len) len (srcells (l.take 0++List.replicate (len-0) ⟨0,0,0⟩))):=by
  have:=World.ownsRow_lit (size:=3) (e:=114) (base:=w.heap.size) w (madeCells #[.int .i64 0,.int .i64 0,.int .i64 0] (len*3)) len nlr (by unfold maxLen;omega) (by rw [size_madeCells])
  rw [srMade] at this
  show World.ownsRow _ _ _ _ _ _ _
  simpa using this
 clear hi hz0 hz1 hz2
 go_enter Tryz.func31,Tryz.ntmps31
 go_wp2
 go_loopw [4] (fun i wr=>∃ k:Nat,k≤len∧i = .int .i64 k∧Hid (wr.ownsRow w.heap.size 114 3 (.slice (some ⟨w.heap.size,0,none⟩) len len) len (srcells (l.take k++List.replicate (len-k) ⟨0,0,0⟩))∧Bel w wr)) (fun i _=>len-(intOf i).toNat)
 case atStart=>exact ⟨0,Nat.zero_le _,rfl,H0.out,(Below.refl _ _).alloc nlr _⟩
 case round =>
  clear H0 hmk
  obtain ⟨k,hk,rfl,H1⟩:=hrel
  by_cases hlt:k<len
  ·have R:Hid (SrsAt wr a l):=h.out.below H1.out.2
   obtain ⟨b1,o1,ha1,hb1,-⟩:=R.out k (by rw [Hlen.out];exact hlt)
   subst ha1
   obtain ⟨c0,c1,c2⟩:=R.out.cells (k:=k) (by rw [Hlen.out];exact hlt)
   have hts:=srTakeSet l len k Hlen.out hlt
   have T:=fun w=>toSrB (srAt l k) w
   unfold Sr.val at T
   generalize srAt l k=r at c0 c1 c2 hts T
   have Hts:Hid _:=hts
   clear hts
   go_wp2_with fail
   refine (T _).mono ?_
   rintro e w2 ⟨rfl,b2⟩
   have hsz:w.heap.size<wr.heap.size:=(World.ownsRow.lt H1.out.1 _ rfl).2
   have H2:Hid (w2.ownsRow w.heap.size 114 3 (.slice (some ⟨w.heap.size,0,none⟩) len len) len (srcells (l.take k++List.replicate (len-k) ⟨0,0,0⟩))∧Bel w w2):=by
    refine ⟨?_,H1.out.2.trans (b2.mono H1.out.2.size)⟩
    have hh:=H1.out.1
    refine ⟨hh.1,hh.2.imp id ?_⟩
    rintro ⟨g0,cp,cur,h1,h2,h3,h4⟩
    cases h1
    exact ⟨_,_,cur,rfl,h2,by rw [b2.block _ hsz];exact h3,h4⟩
   have hL:(srcells (l.take k++List.replicate (len-k) ⟨0,0,0⟩)).length=len*3:=by
    rw [srcells_length];have:=Hlen.out;simp;omega
   have ex:∀ j,j<len*3→∃ v,w2.cell? ⟨w.heap.size,j,none⟩=some v:=by
    intro j hj
    rw [H2.out.1.cellAt j hj]
    exact ⟨_,List.getElem?_eq_getElem (by omega)⟩
   obtain ⟨y0,hy0⟩:=ex (k*3) (by omega)
   obtain ⟨y1,hy1⟩:=ex (k*3+1) (by omega)
   obtain ⟨y2,hy2⟩:=ex (k*3+2) (by omega)
   have z0:=H2.out.1.frozenAt (k*3)
   have z1:=H2.out.1.frozenAt (k*3+1)
   have z2:=H2.out.1.frozenAt (k*3+2)
   have H3:Hid (_∧Bel w (((w2.setCell ⟨w.heap.size,k*3,none⟩ (.int .i64 r.target)).setCell ⟨w.heap.size,k*3+1,none⟩ (.int .i64 r.old)).setCell ⟨w.heap.size,k*3+2,none⟩ (.int .i64 r.prob))):=⟨SrRow.put H2.out.1 k r,((H2.out.2.setCell nlr _).setCell nlr _).setCell nlr _⟩
   clear b2 hL ex H1 R H2
   go_wp2
   go_roundw
   case rel=>exact ⟨k+1,by omega,by go_num,by rw [← Hts.out];exact H3.out⟩
   case measure=>simp [intOf];omega
  ·obtain rfl:k=len:=by omega
   go_wp2
   go_ret
   refine ⟨_,rfl,?_,H1.out.2⟩
   have hh:=H1.out.1
   rw [Nat.sub_self,List.take_of_length_le (by rw [Hlen.out];omega)] at hh
   simpa using hh
theorem szSrs (L:Int) (h0:0≤L) (h1:L≤1048576) (a:Option Addr) (cap len:Nat) (w:World) (hl:(len:Int)≤9223372036854775807) :
 Calls Tryz.prog 20 #[.slice a len cap,.int .i64 L] w fun e w'=>e = .returned (.int .i64 (if L-len<0 then -1 else L-len))∧w'=w:=by
 by_cases h:L-len<0
 ·rw [if_pos h]
  go_enter Tryz.func20,Tryz.ntmps20
  go_wp2
  go_ret
  exact ⟨rfl,rfl⟩
 ·rw [if_neg h]
  go_enter Tryz.func20,Tryz.ntmps20
  go_wp2
  go_ret
  exact ⟨rfl,rfl⟩
theorem toSrW (a:Option Addr) (c:Nat) (l:List Sr) (w:World) (hT:l.length≤1048576) (h:Hid (SrsAt w a l)) :
 Calls Tryz.prog 31 #[.slice a l.length c] w fun e w'=>(∃ v,e = .returned v∧SrsW w.heap.size w'.heap.size w' v l)∧Bel w w' :=
 (toSrs a c l w hT h).mono fun e w' hh=>by
  obtain ⟨g,rfl,hr,hb⟩:=hh
  exact ⟨⟨_,rfl,SrsW.of_row hr⟩,hb⟩
end Go.Proofs.YtgebghkcikmfaaaGreatDoor
