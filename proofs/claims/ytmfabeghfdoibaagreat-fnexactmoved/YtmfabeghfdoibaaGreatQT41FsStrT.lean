import Derived.Test.YtmfabeghfdoibaaGreatQT15Quiet
import Derived.Test.YtmfabeghfdoibaaGreatQT6GtSpot
import Derived.BigQuiet
import Derived.Test.YtmfabeghfdoibaaGreatQT37FwBlk
import Derived.Test.YtmfabeghfdoibaaGreatQT21StepRow
import Derived.Laws.ResultCell
import Derived.Laws.CopyOwn
set_option maxHeartbeats 3200000
set_option maxRecDepth 100000
namespace Go.Proofs.YtmfabeghfdoibaaGreat
open Go.RowKit
theorem eqIntsN (a1 a2:Option Addr) (cap1 cap2:Nat) (zs:List Int) (w:World) (hT:zs.length≤1048576) (h1:Hid (IntsAt w a1 zs)) (h2:Hid (IntsAt w a2 zs)) :
 Calls Tryz.prog 15 #[.slice a1 zs.length cap1,.slice a2 zs.length cap2] w fun e w'=>e = .returned (.bool true)∧Bel w w':=by
 obtain ⟨len,hlen⟩:∃ n,zs.length=n:=⟨_,rfl⟩
 rw [hlen] at hT ⊢
 have Hlen:Hid (zs.length=len):=hlen
 clear hlen
 go_enter Tryz.func15,Tryz.ntmps15
 go_wp2
 go_loopw [5] (fun i wr=>∃ k:Nat,k≤len∧i = .int .i64 k∧Hid (Bel w wr)) (fun i _=>len-(intOf i).toNat)
 case atStart=>exact ⟨0,Nat.zero_le _,rfl,Below.refl _ _⟩
 case round =>
  obtain ⟨k,hk,rfl,hb⟩:=hrel
  by_cases hlt:k<len
  ·obtain ⟨b1,o1,ha1,hb1,c1⟩:=(h1.out.below hb.out) k (by rw [Hlen.out];exact hlt)
   obtain ⟨b2,o2,ha2,hb2,c2⟩:=(h2.out.below hb.out) k (by rw [Hlen.out];exact hlt)
   subst ha1;subst ha2
   generalize zs[k]?.getD 0=z at c1 c2
   have hlt':(k:Int)<(len:Int):=by omega
   go_wp2
   go_region
   go_wp2
   go_roundw
   case rel=>exact ⟨k+1,by omega,by go_num,hb.out.drew⟩
   case measure=>simp [intOf];omega
  ·go_wp2
   go_ret
   exact ⟨rfl,hb.out⟩
def mks (k:Int) (T:List Int) (j:Nat):List Int:=(List.range j).map (fun (i:Nat)=>k+(i:Int))++T.drop j
theorem mks_length (k:Int) (T:List Int) (j:Nat) (h:j≤T.length):(mks k T j).length=T.length:=by simp [mks];omega
theorem mks_zero (k:Int) (T:List Int):mks k T 0=T:=by simp [mks]
theorem mks_step (k:Int) (T:List Int) (j:Nat) (h:j<T.length):(mks k T j).set j (k+(j:Int))=mks k T (j+1):=by
 unfold mks
 rw [List.set_append_right _ _ (by simp),List.range_succ,List.map_append]
 simp
 rw [List.drop_eq_getElem_cons h]
 rfl
theorem mks_end (k:Int) (T:List Int) (j:Nat) (hj:j<T.length):(mks k T T.length)[j]?.getD 0=k+(j:Int):=by
 have:j<T.length:=hj
 simp [mks,this]
theorem markIntsG (s:Int) (s0:0≤s) (s1:s≤1099511627776) (b t:Nat) (v:Value) (T:List Int) (hT:T.length≤1048576) (w:World) (H:Hid (IntIn b t w v T)) :
 Calls Tryz.prog 16 #[v,.int .i64 s] w fun e w'=>e = .returned (.int .i64 (s+(T.length:Int)))∧IntIn b t w' v (mks s T T.length)∧Turn (Hits v T.length) w w':=by
 obtain ⟨a,cap,rfl⟩:=SlIn.shape H.out
 obtain ⟨len,hlen⟩:∃ n,T.length=n:=⟨_,rfl⟩
 have H:Hid (SlIn b t w (.slice a len cap) len (T.map (Value.int .i64))):=by
  have h:=H.out
  unfold IntIn at h
  rw [hlen] at h
  exact h
 rw [hlen] at hT ⊢
 have Hlen:Hid (T.length=len):=hlen
 have Hcl:Hid (∀ j,j≤len→((mks s T j).map (Value.int .i64)).length=len):=fun j hj=>by rw [List.length_map,mks_length s T j (by rw [Hlen.out];exact hj),Hlen.out]
 clear hlen
 go_enter Tryz.func16,Tryz.ntmps16
 go_wp2
 go_loopw [1,5] (fun kk i wr=>∃ (j:Nat) (kv:Int),j≤len∧i = .int .i64 j∧kk = .int .i64 kv∧kv=s+(j:Int)∧Hid (SlIn b t wr (.slice a len cap) len ((mks s T j).map (Value.int .i64))∧Turn (Hits (.slice a len cap) len) w wr)) (fun _ i _=>len-(intOf i).toNat)
 case atStart=>exact ⟨0,s,Nat.zero_le _,rfl,rfl,by simp,by rw [mks_zero];exact H.out,Turn.refl _ _⟩
 case round =>
  obtain ⟨j,kv,hj,rfl,rfl,hkv,H2⟩:=hrel
  have Hkv:Hid (kv=s+(j:Int)):=hkv
  have k0:0≤kv:=by omega
  have k1:kv≤1099514773504:=by omega
  by_cases hlt:j<len
  ·have hcl:=Hcl.out j hj
   obtain ⟨g,off,ha,h1,h2,h3⟩:=SlIn.some H2.out.1 (by intro e;rw [e] at hcl;simp at hcl;omega)
   subst ha
   have hput:=SlIn.put H2.out.1 j (by omega) (.int .i64 kv)
   have hm:(((mks s T j).map (Value.int .i64)).set j (.int .i64 kv))=(mks s T (j+1)).map (Value.int .i64):=by
    rw [← mks_step s T j (by rw [Hlen.out];exact hlt),List.map_set,hkv]
   rw [hm] at hput
   have z0:=(SlIn.cells H2.out.1 j (by omega)).2
   have y0:=(SlIn.cells H2.out.1 j (by omega)).1
   have H3:Hid (SlIn b t (wr.setCell ⟨g,off+j,none⟩ (.int .i64 kv)) (.slice (some ⟨g,off,none⟩) len cap) len ((mks s T (j+1)).map (Value.int .i64))∧Turn (Hits (.slice (some ⟨g,off,none⟩) len cap) len) w (wr.setCell ⟨g,off+j,none⟩ (.int .i64 kv))):=by
    refine ⟨hput,H2.out.2.trans ((turn_set _ _ _ _).wide ?_)⟩
    rintro k o ⟨rfl,rfl⟩
    exact ⟨off,len,cap,rfl,by omega,by omega⟩
   generalize ((mks s T j).map (Value.int .i64))[j]?.getD undef=u0 at y0
   clear hput hm hkv hcl h1 h2 h3
   go_wp2
   go_roundw
   case rel=>exact ⟨j+1,kv+1,by omega,by go_num,by go_num,by rw [Hkv.out];push_cast;omega,H3⟩
   case measure=>simp [intOf];omega
  ·obtain rfl:j=len:=by omega
   go_wp2
   go_ret
   refine ⟨by rw [← Hkv.out];rfl,?_,H2.out.2⟩
   have h:=H2.out.1
   unfold IntIn
   rw [mks_length s T _ (by rw [Hlen.out];omega),Hlen.out]
   exact h
theorem heldIntsF (s:Int) (s0:0≤s) (s1:s≤1099511627776) (a:Option Addr) (cap:Nat) (T:List Int) (hT:T.length≤1048576) (w:World) (H:Hid (IntsAt w a (mks s T T.length))) :
 Calls Tryz.prog 17 #[.slice a T.length cap,.int .i64 s] w fun e w'=>e = .returned (.int .i64 (s+(T.length:Int)))∧w'=w:=by
 have Hc:Hid (∀ j,j<T.length→∃ b off,a=some ⟨b,off,none⟩∧w.cell? ⟨b,off+j,none⟩=some (.int .i64 (s+(j:Int)))):=by
  show ∀ j,j<T.length→∃ b off,a=some ⟨b,off,none⟩∧w.cell? ⟨b,off+j,none⟩=some (.int .i64 (s+(j:Int)))
  intro j hj
  obtain ⟨b,off,e,_,hc⟩:=H.out j (by rw [mks_length s T _ nlr];exact hj)
  rw [mks_end s T j hj] at hc
  exact ⟨b,off,e,hc⟩
 generalize T.length=len at hT Hc ⊢
 clear H
 go_enter Tryz.func17,Tryz.ntmps17
 go_wp2
 go_loop [1,5] (fun kk i=>∃ (j:Nat) (kv:Int),j≤len∧i = .int .i64 j∧kk = .int .i64 kv∧Hid (kv=s+(j:Int))∧0≤kv∧kv≤1099514773504) (fun _ i=>len-(intOf i).toNat)
 case atStart=>exact ⟨0,s,Nat.zero_le _,rfl,rfl,by show s=s+((0:Nat):Int);simp,s0,by omega⟩
 case round =>
  obtain ⟨j,kv,hj,rfl,rfl,hkv,k0,k1⟩:=hrel
  by_cases hlt:j<len
  ·obtain ⟨b,off,ha,hc⟩:=Hc.out j hlt
   subst ha
   rw [← hkv.out] at hc
   have k2:kv+1≤1099514773504:=by have:=hkv.out;omega
   go_wp2
   go_round
   case rel=>exact ⟨j+1,kv+1,by omega,by go_num,by go_num,by show kv+1=s+((j+1:Nat):Int);have:=hkv.out;push_cast;omega,by omega,k2⟩
   case measure=>simp [intOf];omega
  ·obtain rfl:j=len:=by omega
   go_wp2
   go_ret
   exact ⟨by rw [← hkv.out];rfl,rfl⟩
def intMk1 (l:List Int):List Int:=mks 1 l l.length
theorem intMk1_length (l:List Int):(intMk1 l).length=l.length:=mks_length 1 l l.length nlr
theorem eqIntW (v1 v2:Value) (l:List Int) (w:World) (hT:l.length≤1048576) (h1:Hid (IntsV w v1 l)) (h2:Hid (IntsV w v2 l)) :
 Calls Tryz.prog 15 #[v1,v2] w fun e w'=>e = .returned (.bool true)∧Bel w w':=by
 obtain ⟨a1,c1,rfl,k1,_⟩:=h1.out
 obtain ⟨a2,c2,rfl,k2,_⟩:=h2.out
 exact eqIntsN a1 a2 c1 c2 l w hT k1 k2
theorem markIntW (b t:Nat) (v:Value) (l:List Int) (w:World) (hT:l.length≤1048576) (H:Hid (IntsW b t w v l)) :
 Calls Tryz.prog 16 #[v,.int .i64 1] w fun e w'=>e = .returned (.int .i64 (1+(l.length:Int)))∧IntsW b t w' v (intMk1 l)∧Span b t w w' :=
 (markIntsG 1 (by omega) (by omega) b t v l hT w H.out.1).mono fun e w' hh=>by
  obtain ⟨rfl,h1,h2⟩:=hh
  obtain ⟨a,c,rfl,hc⟩:=H.out.2
  refine ⟨rfl,⟨h1,a,c,by rw [intMk1_length],by rw [intMk1_length];exact hc⟩,Span.of_turn h2 fun k o hh=>?_⟩
  have:=SlIn.in H.out.1 (k:=k) (o:=o)
  rw [List.length_map] at this
  exact this hh
theorem heldIntW (v:Value) (l:List Int) (w:World) (hT:l.length≤1048576) (H:Hid (IntsV w v (intMk1 l))) :
 Calls Tryz.prog 17 #[v,.int .i64 1] w fun e w'=>e = .returned (.int .i64 (1+(l.length:Int)))∧Bel w w':=by
 obtain ⟨a,c,rfl,k,_⟩:=H.out
 rw [intMk1_length]
 exact (heldIntsF 1 (by omega) (by omega) a c l hT w k).mono fun e w' hh=>⟨hh.1,by rw [hh.2];exact Below.refl _ _⟩
theorem info2N:(Tryz.prog.info? 2).map (fun i=>(i.zero,i.size,i.bytes))=some (some (.int .i64 0),1,8):=by kernel_rfl
def filledN (zs:List Int) (n k:Nat):Array Value:=((zs.take k).map (Value.int .i64)++List.replicate (n-k) (Value.int .i64 0)).toArray
theorem filled_startN (zs:List Int) (n:Nat):madeCells #[Value.int .i64 0] n=filledN zs n 0:=by
 have:=toList_madeCells_one (.int .i64 0) n
 rw [← Array.toArray_toList (xs:=madeCells _ _),this];simp [filledN]
theorem filled_nextN (zs:List Int) (n k:Nat) (hn:zs.length=n) (hk:k<n):(filledN zs n k).setIfInBounds k (.int .i64 (zs[k]?.getD 0))=filledN zs n (k+1):=by
 subst hn
 unfold filledN
 rw [List.setIfInBounds_toArray,List.set_append_right _ _ (by simp;omega),List.take_succ_eq_append_getElem hk]
 simp only [List.length_map,List.length_take,Nat.min_eq_left (Nat.le_of_lt hk),Nat.sub_self]
 obtain ⟨m,hm⟩:∃ m,zs.length-k=m+1:=⟨zs.length-k-1,by omega⟩
 rw [hm,show zs.length-(k+1)=m by omega,List.replicate_succ,List.set_cons_zero,List.map_append]
 simp only [List.map_cons,List.map_nil,List.append_assoc,List.cons_append,List.nil_append,List.getElem?_eq_getElem hk,Option.getD_some]
theorem filled_endN (zs:List Int) (n:Nat) (hn:zs.length=n):filledN zs n n=(zs.map (Value.int .i64)).toArray:=by
 subst hn;simp [filledN]
theorem filled_sizeN (zs:List Int) (n k:Nat) (hn:zs.length=n) (hk:k≤n):(filledN zs n k).size=n:=by
 subst hn;simp [filledN];omega
theorem toIntsN (a:Option Addr) (cap:Nat) (zs:List Int) (w:World) (hT:zs.length≤1048576) (h:Hid (IntsAt w a zs)) :
 Calls Tryz.prog 37 #[.slice a zs.length cap] w fun e w'=>e = .returned (.slice (some ⟨w.heap.size,0,none⟩) zs.length zs.length)∧w'=w.alloc (.cells (zs.map (Value.int .i64)).toArray 2):=by
 obtain ⟨i0,hi,hz0,hz1,hz2⟩:=info_parts info2N
 obtain ⟨len,hlen⟩:∃ n,zs.length=n:=⟨_,rfl⟩
 rw [hlen] at hT ⊢
 have Hlen:Hid (zs.length=len):=hlen
 clear hlen
 have hmk:∀ wx,(Instr.makeSlice 27 (.int .i64 (len:Int)) (.int .i64 (len:Int))).run Tryz.prog wx = .ok (.slice (some ⟨wx.heap.size,0,none⟩) len len) (wx.alloc (.cells (filledN zs len 0) 2)):=by
  intro wx
  have:=run_make (P:=Tryz.prog) wx 27 2 i0 (.int .i64 0) Tryz.underlying27 hi hz0 .i64 .i64 len len (by omega) (by omega) (by rw [hz2];omega) (by omega)
  rw [this,hz1,← filled_startN];simp [Value.cells]
 clear hi hz0 hz1 hz2
 go_enter Tryz.func37,Tryz.ntmps37
 go_wp2
 go_loopw [4] (fun i wr=>∃ k:Nat,k≤len∧i = .int .i64 k∧wr=w.alloc (.cells (filledN zs len k) 2)) (fun i _=>len-(intOf i).toNat)
 case atStart=>exact ⟨0,Nat.zero_le _,rfl,rfl⟩
 case round =>
  obtain ⟨k,hk,rfl,rfl⟩:=hrel
  by_cases hlt:k<len
  ·obtain ⟨b,off,ha,hb,c1⟩:=h.out k (by rw [Hlen.out];exact hlt)
   subst ha
   have hn:=filled_nextN zs len k Hlen.out hlt
   have hs:=filled_sizeN zs len k Hlen.out hk
   have hget:∃ x,(filledN zs len k)[k]? = some x:=⟨_,Array.getElem?_eq_getElem (by omega)⟩
   obtain ⟨x,hx⟩:=hget
   generalize zs[k]?.getD 0=z at c1 hn
   have Hn:Hid (_=_):=hn
   clear hn
   generalize filledN zs len k=cs at hs hx Hn ⊢
   go_wp2
   go_roundw
   case rel=>exact ⟨k+1,by omega,by go_num,by rw [← Hn.out]⟩
   case measure=>simp [intOf];omega
  ·go_wp2
   go_ret
   obtain rfl:k=len:=by omega
   exact ⟨rfl,by rw [filled_endN _ _ Hlen.out]⟩
theorem toIntsR (a:Option Addr) (cap:Nat) (zs:List Int) (w:World) (hT:zs.length≤1048576) (h:Hid (IntsAt w a zs)) :
 Calls Tryz.prog 37 #[.slice a zs.length cap] w fun e w'=>∃ x,e = .returned (.slice (some ⟨x,0,none⟩) zs.length zs.length)∧IRow w.heap.size w' (.slice (some ⟨x,0,none⟩) zs.length zs.length) zs∧Bel w w' :=
 (toIntsN a cap zs w hT h).mono fun e w' hh=>by
  obtain ⟨rfl,rfl⟩:=hh
  refine ⟨_,rfl,?_,(Below.refl _ _).alloc nlr _⟩
  have:=World.ownsRow_lit (size:=1) (e:=2) (base:=w.heap.size) w (zs.map (Value.int .i64)).toArray zs.length nlr (by unfold maxLen;omega) (by simp)
  simpa [IRow] using this
theorem eqFw (r:Fw) (a1 a2:Option Addr) (c1 c2:Nat) (w:World) (hT:r.sizes.length≤1048576) (h1:Hid (IntsAt w a1 r.sizes)) (h2:Hid (IntsAt w a2 r.sizes)) :
 Calls Tryz.prog 159 #[r.val a1 c1,r.val a2 c2] w fun e w'=>e = .returned (.bool true)∧Bel w w':=by
 obtain ⟨r0,r1,rl⟩:=r
 simp only [Fw.val] at hT h1 h2 ⊢
 have E:=fun w h1 h2=>eqIntsN a1 a2 c1 c2 rl w hT h1 h2
 generalize rl.length=n at E ⊢
 have E':Hid _:=E
 clear E
 have X:Hid (IntsAt ((w.alloc (.cells #[.int .i64 r0,.int .i64 r1,.slice a1 n c1] 109)).alloc (.cells #[.int .i64 r0,.int .i64 r1,.slice a2 n c2] 109)) a1 rl∧IntsAt ((w.alloc (.cells #[.int .i64 r0,.int .i64 r1,.slice a1 n c1] 109)).alloc (.cells #[.int .i64 r0,.int .i64 r1,.slice a2 n c2] 109)) a2 rl∧Bel w ((w.alloc (.cells #[.int .i64 r0,.int .i64 r1,.slice a1 n c1] 109)).alloc (.cells #[.int .i64 r0,.int .i64 r1,.slice a2 n c2] 109))):=by
  have b0:Bel w ((w.alloc (.cells #[.int .i64 r0,.int .i64 r1,.slice a1 n c1] 109)).alloc (.cells #[.int .i64 r0,.int .i64 r1,.slice a2 n c2] 109)):=((Below.refl _ _).alloc nlr _).alloc (by simp) _
  exact ⟨h1.out.below b0,h2.out.below b0,b0⟩
 clear h1 h2
 go_enter Tryz.func159,Tryz.ntmps159
 go_wp2_with fail
 refine (E'.out _ X.out.1 X.out.2.1).mono ?_
 rintro e w1 ⟨rfl,qb⟩
 have X1:Hid (Bel w w1):=X.out.2.2.trans (qb.mono X.out.2.2.size)
 clear qb
 go_wp2
 go_ret
 exact ⟨rfl,X1.out⟩
theorem eqFws (a1 a2:Option Addr) (cap1 cap2:Nat) (ls:List Fw) (w:World) (hT:ls.length≤1048576) (hin:Hid (∀ k,k<ls.length→(fwAt ls k).sizes.length≤1048576)) (h1:Hid (FwsAt w a1 ls)) (h2:Hid (FwsAt w a2 ls)) :
 Calls Tryz.prog 110 #[.slice a1 ls.length cap1,.slice a2 ls.length cap2] w fun e w'=>e = .returned (.bool true)∧Bel w w':=by
 obtain ⟨len,hlen⟩:∃ n,ls.length=n:=⟨_,rfl⟩
 rw [hlen] at hT ⊢
 have Hlen:Hid (ls.length=len):=hlen
 clear hlen
 go_enter Tryz.func110,Tryz.ntmps110
 go_wp2
 go_loopw [5] (fun i wr=>∃ k:Nat,k≤len∧i = .int .i64 k∧Hid (Bel w wr)) (fun i _=>len-(intOf i).toNat)
 case atStart=>exact ⟨0,Nat.zero_le _,rfl,Below.refl _ _⟩
 case round =>
  obtain ⟨k,hk,rfl,hb⟩:=hrel
  by_cases hlt:k<len
  ·obtain ⟨b1,o1,i1,e1,ha1,hb1,⟨u0,u1,u2⟩,hr1,-⟩:=(h1.out.below hb.out) k (by rw [Hlen.out];exact hlt)
   obtain ⟨b2,o2,i2,e2,ha2,hb2,⟨v0,v1,v2⟩,hr2,-⟩:=(h2.out.below hb.out) k (by rw [Hlen.out];exact hlt)
   subst ha1;subst ha2
   have hi:=hin.out k (by rw [Hlen.out];exact hlt)
   generalize fwAt ls k=q at u0 v0 u1 v1 u2 v2 hr1 hr2 hi
   obtain ⟨q0,q1,ql⟩:=q
   simp only at u0 v0 u1 v1 u2 v2 hr1 hr2 hi
   have E:=fun w h1 h2=>eqFw ⟨q0,q1,ql⟩ i1 i2 e1 e2 w hi h1 h2
   simp only [Fw.val] at E
   generalize ql.length=n at u2 v2 E
   have f0:∀ p:BelW wr.heap.size wr,p.w'.cell? ⟨b1,o1+k*3,none⟩=some (.int .i64 q0):=fun p=>by rw [p.h.cell (p:=⟨b1,o1+k*3,none⟩) hb1];exact u0
   have f1:∀ p:BelW wr.heap.size wr,p.w'.cell? ⟨b1,o1+k*3+1,none⟩=some (.int .i64 q1):=fun p=>by rw [p.h.cell (p:=⟨b1,o1+k*3+1,none⟩) hb1];exact u1
   have f2:∀ p:BelW wr.heap.size wr,p.w'.cell? ⟨b1,o1+k*3+2,none⟩=some (.slice i1 n e1):=fun p=>by rw [p.h.cell (p:=⟨b1,o1+k*3+2,none⟩) hb1];exact u2
   have g0:∀ p:BelW wr.heap.size wr,p.w'.cell? ⟨b2,o2+k*3,none⟩=some (.int .i64 q0):=fun p=>by rw [p.h.cell (p:=⟨b2,o2+k*3,none⟩) hb2];exact v0
   have g1:∀ p:BelW wr.heap.size wr,p.w'.cell? ⟨b2,o2+k*3+1,none⟩=some (.int .i64 q1):=fun p=>by rw [p.h.cell (p:=⟨b2,o2+k*3+1,none⟩) hb2];exact v1
   have g2:∀ p:BelW wr.heap.size wr,p.w'.cell? ⟨b2,o2+k*3+2,none⟩=some (.slice i2 n e2):=fun p=>by rw [p.h.cell (p:=⟨b2,o2+k*3+2,none⟩) hb2];exact v2
   have t1:Hid (∀ p:BelW wr.heap.size wr,IntsAt p.w' i1 ql):=fun p=>hr1.below p.h
   have t2:Hid (∀ p:BelW wr.heap.size wr,IntsAt p.w' i2 ql):=fun p=>hr2.below p.h
   have E':Hid _:=E
   clear u0 v0 u1 v1 u2 v2 hr1 hr2 E
   have hlt':(k:Int)<(len:Int):=by omega
   go_wp2
   haveI:Nonempty (BelW wr.heap.size wr):=⟨⟨wr,Below.refl _ _⟩⟩
   refine rgb wr.heap.size (by kernel_rfl) (by kernel_rfl) ?_
   repeat (go_big_quiet_step ((go_at_call 159;refine qb (E'.out _ (t1.out _) (t2.out _)))))
   refine wpQuiet_nil ?_
   intro wq hx
   have hq:=BelW.out hx
   have B:Hid (Bel w wq):=hb.out.trans (hq.mono hb.out.size)
   clear hx hq f0 g0 f1 g1 f2 g2 t1 t2
   go_wp2
   go_roundw
   case rel=>exact ⟨k+1,by omega,by go_num,B⟩
   case measure=>simp [intOf];omega
  ·go_wp2
   go_ret
   exact ⟨rfl,hb.out⟩
def fwMk (s:Int) (l:List Fw) (i:Nat):Fw:=⟨s+2*(i:Int)+(fwSum l i:Int),s+2*(i:Int)+(fwSum l i:Int)+1,mks (s+2*(i:Int)+(fwSum l i:Int)+2) (fwAt l i).sizes (fwAt l i).sizes.length⟩
def fwMks (s:Int) (l:List Fw) (j:Nat):List Fw:=(List.range l.length).map fun i=>if i<j then fwMk s l i else fwAt l i
theorem fwMks_length (s:Int) (l:List Fw) (j:Nat):(fwMks s l j).length=l.length:=by simp [fwMks]
theorem fwMks_at (s:Int) (l:List Fw) (j:Nat) {i:Nat} (hi:i<l.length):fwAt (fwMks s l j) i=if i<j then fwMk s l i else fwAt l i:=by
 simp [fwAt,fwMks,hi]
theorem fwMk_length (s:Int) (l:List Fw) (i:Nat):(fwMk s l i).sizes.length=(fwAt l i).sizes.length:=mks_length _ _ _ nlr
theorem fwMks_zero (s:Int) (l:List Fw):fwMks s l 0=l:=by
 apply List.ext_getElem
 ·simp [fwMks]
 ·intro i h1 h2
  simp [fwMks,fwAt,List.getElem?_eq_getElem h2]
theorem fwMks_next (s:Int) (l:List Fw) {j:Nat} (hj:j<l.length):(fwMks s l j).set j (fwMk s l j)=fwMks s l (j+1):=by
 apply List.ext_getElem?
 intro i
 by_cases hi:i<l.length
 ·by_cases e:i=j
  ·subst e
   rw [List.getElem?_set_self (by rw [fwMks_length];exact hi)]
   simp [fwMks,hi]
  ·rw [List.getElem?_set_ne (fun h=>e h.symm)]
   simp only [fwMks,List.getElem?_map,List.getElem?_range hi,Option.map_some]
   by_cases hlt:i<j
   ·rw [if_pos hlt,if_pos (by omega)]
   ·rw [if_neg hlt,if_neg (by omega)]
 ·rw [List.getElem?_eq_none (by rw [List.length_set,fwMks_length];omega),List.getElem?_eq_none (by rw [fwMks_length];omega)]
theorem markFws (s:Int) (s0:0≤s) (s1:s≤549755813888) (b t:Nat) (v:Value) (l:List Fw) (hT:l.length≤1048576) (hS:fwSum l l.length≤1048576) (w:World) (H:Hid (FwsIn b t w v l)) :
 Calls Tryz.prog 112 #[v,.int .i64 s] w fun e w'=>e = .returned (.int .i64 (s+2*(l.length:Int)+(fwSum l l.length:Int)))∧FwsIn b t w' v (fwMks s l l.length)∧Turn (fun k _=>b≤k∧k<t) w w':=by
 obtain ⟨rs,H0⟩:=H.out
 clear H
 obtain ⟨a,cap,rfl⟩:=H0.outer.shape
 obtain ⟨len,hlen⟩:∃ n,l.length=n:=⟨_,rfl⟩
 rw [hlen] at hT hS ⊢
 have Hlen:Hid (l.length=len):=hlen
 have H:Hid (FwV b t w (.slice a len cap) rs l):=by rw [← hlen];exact H0
 clear hlen H0
 go_enter Tryz.func112,Tryz.ntmps112
 go_wp2
 go_loopw [1,5] (fun kk i wr=>∃ (j:Nat) (kv:Int),j≤len∧i = .int .i64 j∧kk = .int .i64 kv∧Hid (kv=s+2*(j:Int)+(fwSum l j:Int))∧Hid (∃ rs,FwV b t wr (.slice a len cap) rs (fwMks s l j)∧Turn (fun k _=>b≤k∧k<t) w wr)) (fun _ i _=>len-(intOf i).toNat)
 case atStart=>exact ⟨0,s,Nat.zero_le _,rfl,rfl,by show s=s+2*((0:Nat):Int)+((fwSum l 0:Nat):Int);rw [fwSum_zero];simp,rs,by rw [fwMks_zero];exact H.out,Turn.refl _ _⟩
 case round =>
  clear H
  obtain ⟨j,kv,hj,rfl,rfl,Hkv,H2⟩:=hrel
  obtain ⟨rs,H2⟩:∃ rs,Hid (FwV b t wr (.slice a len cap) rs (fwMks s l j)∧Turn (fun k _=>b≤k∧k<t) w wr):=H2.out
  by_cases hlt:j<len
  ·have hjl:j<l.length:=by rw [Hlen.out];exact hlt
   have hml:=fwMks_length s l j
   have hrl:rs.length=len:=by rw [H2.out.1.len,hml,Hlen.out]
   have hcl:=fwcells_length rs
   have hout:SlIn b t wr (.slice a len cap) len (fwcells rs):=by
    have:=H2.out.1.outer
    rw [hml,Hlen.out] at this
    exact this
   obtain ⟨x,off,ha,h1,h2,h3⟩:=SlIn.some hout (by intro e;rw [e] at hcl;simp at hcl;omega)
   subst ha
   have hs:=fwSum_succ hjl
   have hm:=fwSum_mono (l:=l) (i:=j+1) (j:=len) (by omega) (by rw [Hlen.out];exact Nat.le_refl _)
   have k0:0≤kv:=by have:=Hkv.out;omega
   have k1:kv≤1099511000000:=by have:=Hkv.out;omega
   have em:fwAt (fwMks s l j) j=fwAt l j:=by rw [fwMks_at s l j hjl,if_neg (by omega)]
   obtain ⟨i1,e1,ev,-⟩:=H2.out.1.cap j (by rw [hml];exact hjl)
   rw [em] at ev
   have hput:=hout
   have hput:=SlIn.put hput (j*3) (by omega) (.int .i64 (kv))
   have hput:=SlIn.put hput (j*3+1) (by simp only [List.length_set];omega) (.int .i64 (kv+1))
   have hset:=fwcells_set rs j ⟨kv,kv+1,(fwrAt rs j).hd⟩
   simp only at hset
   have hlast:∀ (L:List Value),L[j*3+2]? = some (fwrAt rs j).hd→L.set (j*3+2) (fwrAt rs j).hd=L:=fun L hL=>by
    obtain ⟨hb,e⟩:=List.getElem?_eq_some_iff.1 hL
    apply List.ext_getElem?
    intro i
    by_cases e1:i=j*3+2
    ·subst e1;rw [List.getElem?_set_self hb,hL]
    ·rw [List.getElem?_set_ne (fun h=>e1 h.symm)]
   have hgl:=(fwcells_get rs j (by omega)).2.2
   rw [hlast _ (by rw [List.getElem?_set_ne (by omega),List.getElem?_set_ne (by omega)];exact hgl)] at hset
   rw [hset] at hput
   have z0:=(SlIn.cells hout (j*3) (by omega)).2
   have y0:=(SlIn.cells hout (j*3) (by omega)).1
   have z1:=(SlIn.cells hout (j*3+1) (by omega)).2
   have y1:=(SlIn.cells hout (j*3+1) (by omega)).1
   have yh:=(SlIn.cells hout (j*3+2) (by omega)).1
   rw [hgl,Option.getD_some,ev] at yh
   simp only [← Nat.add_assoc] at hput yh z0 y0 z1 y1
   generalize hW1:((wr.setCell ⟨x,off+j*3,none⟩ (.int .i64 (kv))).setCell ⟨x,off+j*3+1,none⟩ (.int .i64 (kv+1)))=w1 at hput
   have tn:Turn (Hits (.slice (some ⟨x,off,none⟩) len cap) (len*3)) wr w1:=by
    rw [← hW1]
    refine (Turn.trans ((turn_set _ _ _ _).wide ?_) ((turn_set _ _ _ _).wide ?_))
    all_goals (rintro k o ⟨rfl,rfl⟩;exact ⟨off,len,cap,rfl,by omega,by omega⟩)
   have V1:FwV b t w1 (.slice (some ⟨x,off,none⟩) len cap) (rs.set j ⟨kv,kv+1,(fwrAt rs j).hd⟩) ((fwMks s l j).set j ⟨kv,kv+1,(fwAt l j).sizes⟩):=by
    refine H2.out.1.nums (r':=⟨kv,kv+1,(fwAt l j).sizes⟩) (by rw [hml];exact hjl) (by rw [em]) (by rw [hml,Hlen.out];exact hput) (by rw [hml,Hlen.out];exact tn)
   have hrow:=V1.row j (by rw [List.length_set,hml];exact hjl)
   rw [fwrAt_set (by omega),fwAt_set (by rw [hml];exact hjl)] at hrow
   simp only at hrow
   have C1:=markIntsG (kv+1+1) (by omega) (by omega) b t (fwrAt rs j).hd (fwAt l j).sizes (by omega) w1 hrow
   have St:Hid (∀ w',IntIn b t w' (fwrAt rs j).hd (mks (kv+1+1) (fwAt l j).sizes (fwAt l j).sizes.length)→Turn (Hits (fwrAt rs j).hd (fwAt l j).sizes.length) w1 w'→∃ rs,FwV b t w' (.slice (some ⟨x,off,none⟩) len cap) rs (fwMks s l (j+1))∧Turn (fun k _=>b≤k∧k<t) w w'):=fun w' q1 q2=>by
    have hin:=fun k o hh=>SlIn.in hrow (k:=k) (o:=o) (by simpa using hh)
    have hin1:=fun k o hh=>SlIn.in hout (k:=k) (o:=o) (by rw [hcl,hrl];exact hh)
    refine ⟨rs.set j ⟨kv,kv+1,(fwrAt rs j).hd⟩,?_,H2.out.2.trans ((tn.wide hin1).trans (q2.wide hin))⟩
    have V2:=V1.list (j:=j) (r':=⟨kv,kv+1,mks (kv+1+1) (fwAt l j).sizes (fwAt l j).sizes.length⟩) (by rw [List.length_set,hml];exact hjl) (by rw [fwAt_set (by rw [hml];exact hjl)]) (by rw [fwAt_set (by rw [hml];exact hjl)]) (by rw [fwAt_set (by rw [hml];exact hjl)];exact mks_length _ _ _ nlr) (by rw [fwrAt_set (by omega)];exact q1) (by rw [fwrAt_set (by omega),fwAt_set (by rw [hml];exact hjl)];exact q2)
    rw [List.set_set] at V2
    have e:(⟨kv,kv+1,mks (kv+1+1) (fwAt l j).sizes (fwAt l j).sizes.length⟩:Fw)=fwMk s l j:=by
     unfold fwMk
     have:=Hkv.out
     rw [show kv+1+1=s+2*(j:Int)+(fwSum l j:Int)+2 by omega,show kv+1=s+2*(j:Int)+(fwSum l j:Int)+1 by omega,show kv=s+2*(j:Int)+(fwSum l j:Int) by omega]
    rw [e,fwMks_next s l hjl] at V2
    exact V2
   have Hs:Hid (fwSum l (j+1)=fwSum l j+(fwAt l j).sizes.length):=hs
   rw [ev] at C1 St
   have yh1:(((wr.setCell ⟨x,off+j*3,none⟩ (.int .i64 (kv))).setCell ⟨x,off+j*3+1,none⟩ (.int .i64 (kv+1)))).cell? ⟨x,off+j*3+2,none⟩=some (.slice i1 (fwAt l j).sizes.length e1):=by
    rw [World.cell?_setCell_other _ _ _ _ (by simp<;>omega),World.cell?_setCell_other _ _ _ _ (by simp<;>omega)]
    exact yh
   generalize mks (kv+1+1) (fwAt l j).sizes (fwAt l j).sizes.length=ml at C1 St
   generalize (fwAt l j).sizes.length=n at C1 St Hs yh1 yh ev hs
   generalize (fwcells rs)[j*3]?.getD undef=u0 at y0
   generalize (fwcells rs)[j*3+1]?.getD undef=u1 at y1
   have HW1:Hid (_=w1):=hW1
   have hsz:w1.heap.size=wr.heap.size:=by rw [← hW1];simp [World.setCell]
   clear hrow hm hout hput hset hlast hgl hcl V1 tn em yh ev hs hsz hW1 h1 h2 h3
   have hlt':(j:Int)<(len:Int):=by omega
   go_wp2_with fail
   rw [HW1.out]
   refine C1.mono ?_
   rintro e w2 ⟨rfl,q1,q2⟩
   have H3:Hid (∃ rs,FwV b t w2 (.slice (some ⟨x,off,none⟩) len cap) rs (fwMks s l (j+1))∧Turn (fun k _=>b≤k∧k<t) w w2):=St.out w2 q1 q2
   clear q1 q2 yh1 St C1 HW1 z0 y0 z1 y1
   go_wp2
   go_roundw
   case rel =>
    refine ⟨j+1,_,by omega,by go_num,rfl,?_,H3⟩
    show _=s+2*((j+1:Nat):Int)+((fwSum l (j+1):Nat):Int)
    rw [Hs.out,Hkv.out]
    push_cast
    omega
   case measure=>simp [intOf];omega
  ·obtain rfl:j=len:=by omega
   go_wp2
   go_ret
   exact ⟨by rw [← Hkv.out];rfl,⟨rs,H2.out.1⟩,H2.out.2⟩
theorem heldFws (s:Int) (s0:0≤s) (s1:s≤549755813888) (a:Option Addr) (cap:Nat) (l:List Fw) (hT:l.length≤1048576) (hS:fwSum l l.length≤1048576) (w:World) (H:Hid (FwsAt w a (fwMks s l l.length))) :
 Calls Tryz.prog 114 #[.slice a l.length cap,.int .i64 s] w fun e w'=>e = .returned (.int .i64 (s+2*(l.length:Int)+(fwSum l l.length:Int)))∧w'=w:=by
 obtain ⟨len,hlen⟩:∃ n,l.length=n:=⟨_,rfl⟩
 rw [hlen] at hT hS H ⊢
 have Hlen:Hid (l.length=len):=hlen
 clear hlen
 go_enter Tryz.func114,Tryz.ntmps114
 go_wp2
 go_loop [1,5] (fun kk i=>∃ (j:Nat) (kv:Int),j≤len∧i = .int .i64 j∧kk = .int .i64 kv∧Hid (kv=s+2*(j:Int)+(fwSum l j:Int))) (fun _ i=>len-(intOf i).toNat)
 case atStart=>exact ⟨0,s,Nat.zero_le _,rfl,rfl,by show s=s+2*((0:Nat):Int)+((fwSum l 0:Nat):Int);rw [fwSum_zero];simp⟩
 case round =>
  obtain ⟨j,kv,hj,rfl,rfl,Hkv⟩:=hrel
  by_cases hlt:j<len
  ·have hjl:j<l.length:=by rw [Hlen.out];exact hlt
   obtain ⟨x,off,i1,e1,ha,hb,⟨c0,c1,c2⟩,hr,-⟩:=H.out j (by rw [fwMks_length];exact hjl)
   subst ha
   rw [fwMks_at s l _ hjl,if_pos hlt] at c0 c1 c2 hr
   have hs:=fwSum_succ hjl
   have hm:=fwSum_mono (l:=l) (i:=j+1) (j:=len) (by omega) (by rw [Hlen.out];exact Nat.le_refl _)
   have k0:0≤kv:=by have:=Hkv.out;omega
   have k1:kv≤1099511000000:=by have:=Hkv.out;omega
   have hkv:=Hkv.out
   rw [fwMk_length] at c2
   unfold fwMk at c0 c1 hr
   simp only at c0 c1 hr
   rw [show s+2*(j:Int)+(fwSum l j:Int)+2=kv+1+1 by omega] at hr
   rw [show s+2*(j:Int)+(fwSum l j:Int)=kv by omega] at c0
   rw [show s+2*(j:Int)+(fwSum l j:Int)+1=kv+1 by omega] at c1
   clear hkv
   have C1:=heldIntsF (kv+1+1) (by omega) (by omega) i1 e1 (fwAt l j).sizes (by omega) w hr
   have Hs:Hid (fwSum l (j+1)=fwSum l j+(fwAt l j).sizes.length):=hs
   generalize (fwAt l j).sizes.length=n at C1 Hs c2 hs
   have k2:¬ kv+1+1+(n:Int)<0:=by omega
   clear hr hm hs
   have hlt':(j:Int)<(len:Int):=by omega
   go_wp2_with fail
   refine C1.mono ?_
   rintro e w2 ⟨rfl,hw⟩
   have hw:=hw.symm
   subst hw
   generalize hkn:kv+1+1+(n:Int)=kn at k2 ⊢
   have Hkn:Hid (kn=kv+1+1+(n:Int)):=hkn.symm
   clear hkn
   go_wp2
   go_round
   case rel =>
    refine ⟨j+1,_,by omega,by go_num,rfl,?_⟩
    show _=s+2*((j+1:Nat):Int)+((fwSum l (j+1):Nat):Int)
    rw [Hs.out,Hkn.out,Hkv.out]
    push_cast
    omega
   case measure=>simp [intOf];omega
  ·obtain rfl:j=len:=by omega
   go_wp2
   go_ret
   exact ⟨by rw [← Hkv.out];rfl,rfl⟩
def Fs.mk' (s:Int) (r:Fs):Fs:=⟨r.now,fwMks s r.flows r.flows.length⟩
theorem eqFss (v1 v2:Value) (r:Fs) (w:World) (hB:r.big≤1048576) (h1:Hid (FsAt w v1 r)) (h2:Hid (FsAt w v2 r)) :
 Calls Tryz.prog 49 #[v1,v2] w fun e w'=>e = .returned (.bool true)∧Bel w w':=by
 obtain ⟨a1,c1,rfl,k1⟩:=h1.out
 obtain ⟨a2,c2,rfl,k2⟩:=h2.out
 obtain ⟨hT,-,hin⟩:=Fs.small hB
 have E:=fun w h1 h2=>eqFws a1 a2 c1 c2 r.flows w hT hin h1 h2
 clear h1 h2 hin hT hB
 obtain ⟨f,l⟩:=r
 simp only [Fs.val] at E k1 k2 ⊢
 generalize l.length=n at E ⊢
 have E':Hid _:=E
 clear E
 have X:Hid (FwsAt ((w.alloc (.cells #[.int .i64 f,.slice a1 n c1] 48)).alloc (.cells #[.int .i64 f,.slice a2 n c2] 48)) a1 l∧FwsAt ((w.alloc (.cells #[.int .i64 f,.slice a1 n c1] 48)).alloc (.cells #[.int .i64 f,.slice a2 n c2] 48)) a2 l∧Bel w ((w.alloc (.cells #[.int .i64 f,.slice a1 n c1] 48)).alloc (.cells #[.int .i64 f,.slice a2 n c2] 48))) :=
  ⟨(k1.alloc _).alloc _,(k2.alloc _).alloc _,((Below.refl _ _).alloc nlr _).alloc (by simp) _⟩
 clear k1 k2
 go_enter Tryz.func49,Tryz.ntmps49
 go_wp2_with fail
 refine (E'.out _ X.out.1 X.out.2.1).mono ?_
 rintro e w1 ⟨rfl,q⟩
 have X1:Hid (Bel w w1):=X.out.2.2.trans (q.mono X.out.2.2.size)
 clear q
 go_wp2
 go_ret
 exact ⟨rfl,X1.out⟩
theorem markFss (s:Int) (s0:0≤s) (s1:s≤549755813888) (b t:Nat) (v:Value) (r:Fs) (w:World) (hB:r.big≤1048576) (H:Hid (FsIn b t w v r)) :
 Calls Tryz.prog 55 #[v,.int .i64 s] w fun e w'=>e = .returned (.int .i64 (s+2*(r.flows.length:Int)+(fwSum r.flows r.flows.length:Int)))∧FsIn b t w' v (r.mk' s)∧Span b t w w':=by
 obtain ⟨a,c,rfl,K⟩:=H.out
 clear H
 obtain ⟨hT,hS,-⟩:=Fs.small hB
 have C:=fun w h=>markFws s s0 s1 b t (.slice a r.flows.length c) r.flows hT hS w h
 have Fin:Hid (∀ w',FwsIn b t w' (.slice a r.flows.length c) (fwMks s r.flows r.flows.length)→FsIn b t w' (r.val a c) (r.mk' s)):=fun w' h=>⟨a,c,by simp [Fs.val,Fs.mk',fwMks_length],by simp only [Fs.mk',fwMks_length];exact h⟩
 generalize r.mk' s=r' at Fin ⊢
 generalize s+2*(r.flows.length:Int)+(fwSum r.flows r.flows.length:Int)=N at C ⊢
 obtain ⟨f,l⟩:=r
 simp only [Fs.val] at C Fin K ⊢
 generalize fwMks s l l.length=l' at C Fin
 generalize l.length=n at C Fin K ⊢
 have C':Hid _:=C
 have X:Hid (FwsIn b t (w.alloc (.cells #[.int .i64 f,.slice a n c] 48)) (.slice a n c) l∧Bel w (w.alloc (.cells #[.int .i64 f,.slice a n c] 48))):=⟨K.below ((Below.refl _ _).alloc nlr _),(Below.refl _ _).alloc nlr _⟩
 clear C K hT hS hB
 go_enter Tryz.func55,Tryz.ntmps55
 go_wp2_with fail
 refine (C'.out _ X.out.1).mono ?_
 rintro e w1 ⟨rfl,q1,q2⟩
 have X1:Hid (FsIn b t w1 (.agg #[.int .i64 f,.slice a n c]) r'∧Span b t w w1):=⟨Fin.out _ q1,(Span.of_below X.out.2).trans (Span.of_turn q2 fun k o h=>h)⟩
 clear q1 q2 X Fin C'
 go_wp2
 go_ret
 exact ⟨rfl,X1.out⟩
theorem heldFss (s:Int) (s0:0≤s) (s1:s≤549755813888) (v:Value) (r:Fs) (w:World) (hB:r.big≤1048576) (H:Hid (FsAt w v (r.mk' s))) :
 Calls Tryz.prog 61 #[v,.int .i64 s] w fun e w'=>e = .returned (.int .i64 (s+2*(r.flows.length:Int)+(fwSum r.flows r.flows.length:Int)))∧Bel w w':=by
 obtain ⟨a,c,rfl,K⟩:=H.out
 obtain ⟨hT,hS,-⟩:=Fs.small hB
 have C:=fun w h=>heldFws s s0 s1 a c r.flows hT hS w h
 have h0:¬ s+2*(r.flows.length:Int)+(fwSum r.flows r.flows.length:Int)<0:=by omega
 have hlen:(r.mk' s).flows.length=r.flows.length:=by simp [Fs.mk',fwMks_length]
 unfold Fs.val
 rw [hlen]
 have Hx:FwsAt w a (fwMks s r.flows r.flows.length):=K
 have hf:(r.mk' s).now=r.now:=rfl
 rw [hf]
 clear H K hlen hf
 generalize fwMks s r.flows r.flows.length=l' at C Hx
 generalize hN:s+2*(r.flows.length:Int)+(fwSum r.flows r.flows.length:Int)=N at C h0 ⊢
 generalize r.flows.length=n at C ⊢
 generalize r.now=f
 have C':Hid _:=C
 have X:Hid (FwsAt (w.alloc (.cells #[.int .i64 f,.slice a n c] 48)) a l'∧Bel w (w.alloc (.cells #[.int .i64 f,.slice a n c] 48))):=⟨Hx.alloc _,(Below.refl _ _).alloc nlr _⟩
 clear C Hx hT hS hB hN
 go_enter Tryz.func61,Tryz.ntmps61
 go_wp2_with fail
 refine (C'.out _ X.out.1).mono ?_
 rintro e w1 ⟨rfl,rfl⟩
 go_wp2
 go_ret
 exact ⟨rfl,X.out.2⟩
theorem szIntsN (a:Option Addr) (cap len:Nat) (left:Int) (w:World) (hl:(len:Int)≤9223372036854775807) (l0:0≤left) (l1:left≤1048576) :
 Calls Tryz.prog 26 #[.slice a len cap,.int .i64 left] w fun e w'=>e = .returned (.int .i64 (if left-len<0 then -1 else left-len))∧w'=w:=by
 by_cases h:left-len<0
 ·go_enter Tryz.func26,Tryz.ntmps26
  go_wp2
  go_ret
  exact ⟨rfl,rfl⟩
 ·go_enter Tryz.func26,Tryz.ntmps26
  go_wp2
  go_ret
  exact ⟨rfl,rfl⟩
theorem szFw (L:Int) (h0:0≤L) (h1:L≤1048576) (r:Fw) (a:Option Addr) (c:Nat) (w:World) (hl:(r.sizes.length:Int)≤9223372036854775807) :
 Calls Tryz.prog 147 #[r.val a c,.int .i64 L] w fun e w'=>e = .returned (.int .i64 (if L-(r.sizes.length:Nat)<0 then -1 else L-(r.sizes.length:Nat)))∧Bel w w':=by
 obtain ⟨r0,r1,rl⟩:=r
 simp only [Fw.val] at hl ⊢
 generalize rl.length=n at hl ⊢
 have C1:=fun w=>szIntsN a c n L w hl h0 h1
 by_cases hn:L-(n:Int)<0
 ·rw [if_pos hn]
  simp only [if_pos hn] at C1
  go_enter Tryz.func147,Tryz.ntmps147
  go_wp2_with fail
  refine (C1 _).mono ?_
  rintro e w' ⟨rfl,rfl⟩
  go_wp2
  go_ret
  exact ⟨rfl,(Below.refl _ _).alloc nlr _⟩
 ·rw [if_neg hn]
  simp only [if_neg hn] at C1
  go_enter Tryz.func147,Tryz.ntmps147
  go_wp2_with fail
  refine (C1 _).mono ?_
  rintro e w' ⟨rfl,rfl⟩
  go_wp2
  go_ret
  exact ⟨rfl,(Below.refl _ _).alloc nlr _⟩
theorem szFws (L:Int) (h0:0≤L) (h1:L≤1048576) (a:Option Addr) (cap:Nat) (ls:List Fw) (w:World) (hl:(ls.length:Int)≤9223372036854775807) (hin:Hid (∀ k,k<ls.length→((fwAt ls k).sizes.length:Int)≤9223372036854775807)) (h:Hid (FwsAt w a ls)) :
 Calls Tryz.prog 79 #[.slice a ls.length cap,.int .i64 L] w fun e w'=>e = .returned (.int .i64 (if L-(ls.length+fwSum ls ls.length:Nat)<0 then -1 else L-(ls.length+fwSum ls ls.length:Nat)))∧Bel w w':=by
 obtain ⟨len,hlen⟩:∃ n,ls.length=n:=⟨_,rfl⟩
 obtain ⟨R,hR⟩:∃ R:Int,R=if L-(ls.length+fwSum ls ls.length:Nat)<0 then -1 else L-(ls.length+fwSum ls ls.length:Nat):=⟨_,rfl⟩
 rw [← hR]
 have HR:Hid (R=if L-(len+fwSum ls len:Nat)<0 then -1 else L-(len+fwSum ls len:Nat)):=by rw [hlen] at hR;exact hR
 clear hR
 rw [hlen] at hl ⊢
 have Hlen:Hid (ls.length=len):=hlen
 clear hlen
 by_cases hbig:L-len<0
 ·have hr:R = -1:=by rw [HR.out,if_pos (by push_cast;omega)]
  subst hr
  go_enter Tryz.func79,Tryz.ntmps79
  go_wp2
  go_ret
  exact ⟨rfl,Below.refl _ _⟩
 ·go_enter Tryz.func79,Tryz.ntmps79
  go_wp2
  go_loopw [1,5] (fun l i wr=>∃ (k:Nat) (lf:Int),k≤len∧i = .int .i64 k∧l = .int .i64 lf∧0≤lf∧lf≤1048576∧Hid (lf=L-len-fwSum ls k)∧Hid (Bel w wr)) (fun _ i _=>len-(intOf i).toNat)
  case atStart=>exact ⟨0,L-len,Nat.zero_le _,rfl,rfl,by omega,by omega,by show L-len=L-len-(fwSum ls 0:Nat);rw [fwSum_zero];simp,Below.refl _ _⟩
  case round =>
   obtain ⟨k,lf,hk,rfl,rfl,f0,f1,Hf,HW⟩:=hrel
   by_cases hlt:k<len
   ·obtain ⟨b,off,ak,ck,ha,hb,⟨c0,c1,c2⟩,-,-⟩:=(h.out.below HW.out) k (by rw [Hlen.out];exact hlt)
    subst ha
    have hi:=hin.out k (by rw [Hlen.out];exact hlt)
    have hs:=fwSum_succ (l:=ls) (i:=k) (by rw [Hlen.out];exact hlt)
    have hm:=fwSum_mono (l:=ls) (i:=k+1) (j:=len) (by omega) (by rw [Hlen.out];exact Nat.le_refl _)
    generalize fwAt ls k=q at c0 c1 c2 hi hs
    obtain ⟨q0,q1,ql⟩:=q
    simp only at c0 c1 c2 hi hs
    have C1:=fun w=>szFw lf f0 f1 ⟨q0,q1,ql⟩ ak ck w hi
    simp only [Fw.val] at C1
    generalize ql.length=n at c2 hi hs C1
    have Hs:Hid (fwSum ls (k+1)=fwSum ls k+n):=hs
    have Hm:Hid (fwSum ls (k+1)≤fwSum ls len):=hm
    clear hs hm
    by_cases hn:lf-(n:Nat)<0
    ·simp only [if_pos hn] at C1
     have hr:R = -1:=by
      rw [HR.out,if_pos]
      have:=Hf.out
      have:=Hs.out
      have:=Hm.out
      push_cast
      omega
     subst hr
     go_wp2_with fail
     refine (C1 _).mono ?_
     rintro e w' ⟨rfl,qb⟩
     have HW2:Hid (Bel w w'):=HW.out.trans (qb.mono HW.out.size)
     clear qb
     go_wp2
     go_ret
     exact ⟨rfl,HW2.out⟩
    ·simp only [if_neg hn] at C1
     go_wp2_with fail
     refine (C1 _).mono ?_
     rintro e w' ⟨rfl,qb⟩
     have HW2:Hid (Bel w w'):=HW.out.trans (qb.mono HW.out.size)
     have hn':¬ lf-(n:Int)<0:=by omega
     clear qb
     go_wp2
     go_roundw
     case rel =>
      refine ⟨k+1,lf-n,by omega,by go_num,rfl,by omega,by omega,?_,HW2⟩
      show lf-n=L-len-(fwSum ls (k+1):Nat)
      rw [Hs.out,Hf.out]
      push_cast
      omega
     case measure=>simp [intOf];omega
   ·obtain rfl:k=len:=by omega
    have hr:R=lf:=by
     rw [HR.out,if_neg (by have:=Hf.out;push_cast;omega),Hf.out]
     push_cast
     omega
    subst hr
    go_wp2
    go_ret
    exact ⟨rfl,HW.out⟩
theorem toFw (r:Fw) (a:Option Addr) (c:Nat) (w:World) (hT:r.sizes.length≤1048576) (h:Hid (IntsAt w a r.sizes)) :
 Calls Tryz.prog 155 #[r.val a c] w fun e w'=>∃ x,e = .returned (r.val (some ⟨x,0,none⟩) r.sizes.length)∧IRow w.heap.size w' (.slice (some ⟨x,0,none⟩) r.sizes.length r.sizes.length) r.sizes∧Bel w w':=by
 have T:=fun w h=>toIntsR a c r.sizes w hT h
 obtain ⟨f0,f1,fl⟩:=r
 simp only [Fw.val] at T h ⊢
 clear hT
 generalize fl.length=n at T ⊢
 have T':Hid _:=T
 clear T
 obtain ⟨W,hW⟩:∃ W,W=((w.alloc (.cells #[.int .i64 f0,.int .i64 f1,.slice a n c] 214)).alloc (.cells #[.int .i64 0,.int .i64 0,.slice none 0 0] 109)).alloc (.cells #[.int .i64 f0,.int .i64 f1,.slice none 0 0] 109):=⟨_,rfl⟩
 have X:Hid (IntsAt W a fl∧Bel w W∧Boxed W (w.heap.size+1) #[.int .i64 0,.int .i64 0,.slice none 0 0] 109∧Boxed W (w.heap.size+2) #[.int .i64 f0,.int .i64 f1,.slice none 0 0] 109∧w.heap.size+3=W.heap.size):=by
  rw [hW]
  have b0:Bel w (((w.alloc (.cells #[.int .i64 f0,.int .i64 f1,.slice a n c] 214)).alloc (.cells #[.int .i64 0,.int .i64 0,.slice none 0 0] 109)).alloc (.cells #[.int .i64 f0,.int .i64 f1,.slice none 0 0] 109)):=(((Below.refl _ _).alloc nlr _).alloc (by simp) _).alloc (by simp;omega) _
  refine ⟨h.out.below b0,b0,?_,?_,by simp⟩
  ·have:=(Boxed.new (w.alloc (.cells #[.int .i64 f0,.int .i64 f1,.slice a n c] 214)) #[.int .i64 0,.int .i64 0,.slice none 0 0] 109).more (.cells #[.int .i64 f0,.int .i64 f1,.slice none 0 0] 109)
   simpa using this
  ·have:=Boxed.new ((w.alloc (.cells #[.int .i64 f0,.int .i64 f1,.slice a n c] 214)).alloc (.cells #[.int .i64 0,.int .i64 0,.slice none 0 0] 109)) #[.int .i64 f0,.int .i64 f1,.slice none 0 0] 109
   simpa using this
 have HW:Hid (W=_):=hW
 clear hW h
 go_enter Tryz.func155,Tryz.ntmps155
 go_wp2_with fail
 rw [← HW.out]
 refine (T'.out _ X.out.1).mono ?_
 rintro e w1 ⟨x,rfl,q1,q2⟩
 have hz:=X.out.2.2.2.2
 have X1:Hid (Bel w w1∧Boxed w1 (w.heap.size+1) #[.int .i64 0,.int .i64 0,.slice none 0 0] 109∧Boxed w1 (w.heap.size+2) #[.int .i64 f0,.int .i64 f1,.slice none 0 0] 109∧IRow W.heap.size w1 (.slice (some ⟨x,0,none⟩) n n) fl∧w.heap.size+3=W.heap.size) :=
  ⟨X.out.2.1.trans (q2.mono X.out.2.1.size),X.out.2.2.1.below (by omega) q2,X.out.2.2.2.1.below (by omega) q2,q1,hz⟩
 have X2:Hid (Boxed (w1.setCell ⟨w.heap.size+2,2,none⟩ (.slice (some ⟨x,0,none⟩) n n)) (w.heap.size+1) #[.int .i64 0,.int .i64 0,.slice none 0 0] 109∧Boxed (w1.setCell ⟨w.heap.size+2,2,none⟩ (.slice (some ⟨x,0,none⟩) n n)) (w.heap.size+2) #[.int .i64 f0,.int .i64 f1,.slice (some ⟨x,0,none⟩) n n] 109) :=
  ⟨X1.out.2.1.far (by omega) _ _,X1.out.2.2.1.put 2 _⟩
 have d1:w1.cell? ⟨w.heap.size+2,2,none⟩=some (.slice none 0 0):=X1.out.2.2.1.cell 2 rfl
 have z1:=X1.out.2.2.1.ice 2
 clear q1 q2 X hz
 go_wp2_with (first|(refine wpList_load_row rfl 109 (.tmp 3) rfl (w.heap.size+2) rfl _ _ _ _ X2.out.2 Tryz.underlying109 rfl (by kernel_rfl) ?_)|(refine wpList_store_row rfl 109 (.tmp 2) (.tmp _) rfl (w.heap.size+1) _ rfl rfl _ _ X2.out.1 (by kernel_rfl) rfl (by simp [Value.oneCell']) ?_))
 have hB:∀ k,k≠w.heap.size+1→k≠w.heap.size+2→((w1.setCell ⟨w.heap.size+2,2,none⟩ (.slice (some ⟨x,0,none⟩) n n)).setRow (w.heap.size+1) #[.int .i64 f0,.int .i64 f1,.slice (some ⟨x,0,none⟩) n n]).heap[k]? = w1.heap[k]? := fun k h1 h2=>by
  rw [setRow_other _ _ _ _ h1]
  exact Below.heap_setCell _ _ _ _ h2
 have q:=X1.out.2.2.2.1
 have e:=X1.out.2.2.2.2
 exact bodyPost_ret (results_cell_row Tryz.results155 _ _ (w.heap.size+1) _ _ _ _ rfl (setRow_heap _ (w.heap.size+1) _ _ _ _ X2.out.1) Tryz.underlying109 rfl (by kernel_rfl)) rfl ⟨x,rfl,(q.carry fun k h1 _=>hB k (by omega) (by omega)).mono (by omega),below_setRow (X1.out.1.setCell (by show w.heap.size≤w.heap.size+2;omega) _) (by omega) _⟩
theorem toFws (a:Option Addr) (cap:Nat) (ls:List Fw) (w:World) (hT:ls.length≤1048576) (hin:Hid (∀ k,k<ls.length→(fwAt ls k).sizes.length≤1048576)) (h:Hid (FwsAt w a ls)) :
 Calls Tryz.prog 96 #[.slice a ls.length cap] w fun e w'=>∃ x,e = .returned (.slice (some ⟨x,0,none⟩) ls.length ls.length)∧FwsIn w.heap.size w'.heap.size w' (.slice (some ⟨x,0,none⟩) ls.length ls.length) ls∧Bel w w':=by
 obtain ⟨i0,hi,hz0,hz1,hz2⟩:=info_parts fwInfo
 obtain ⟨len,hlen⟩:∃ n,ls.length=n:=⟨_,rfl⟩
 rw [hlen] at hT ⊢
 have Hlen:Hid (ls.length=len):=hlen
 clear hlen
 have hmk:∀ wx,(Instr.makeSlice 46 (.int .i64 (len:Int)) (.int .i64 (len:Int))).run Tryz.prog wx = .ok (.slice (some ⟨wx.heap.size,0,none⟩) len len) (wx.alloc (.cells (madeCells #[.int .i64 0,.int .i64 0,.slice none 0 0] (len*3)) 109)):=by
  intro wx
  have:=run_make (P:=Tryz.prog) wx 46 109 i0 (.agg #[.int .i64 0,.int .i64 0,.slice none 0 0]) Tryz.underlying46 hi hz0 .i64 .i64 len len (by omega) (by omega) (by rw [hz2];omega) (by omega)
  rw [this,hz1];simp [Value.cells]
 have H0:Hid (FwB ls len w.heap.size 0 [] (w.alloc (.cells (madeCells #[.int .i64 0,.int .i64 0,.slice none 0 0] (len*3)) 109))):=by
  have:=World.ownsRow_lit (size:=3) (e:=109) (base:=w.heap.size) w (madeCells #[.int .i64 0,.int .i64 0,.slice none 0 0] (len*3)) len nlr (by unfold maxLen;omega) (by rw [size_madeCells])
  rw [fwMade] at this
  exact ⟨by simpa using this,rfl,fun i hi=>by omega,fun i hi=>by omega,fun i hi=>by omega,fun i j hi=>by omega⟩
 clear hi hz0 hz1 hz2
 go_enter Tryz.func96,Tryz.ntmps96
 go_wp2
 go_loopw [4] (fun i wr=>∃ k:Nat,k≤len∧i = .int .i64 k∧Hid (∃ rs,FwB ls len w.heap.size k rs wr∧Bel w wr)) (fun i _=>len-(intOf i).toNat)
 case atStart=>exact ⟨0,Nat.zero_le _,rfl,[],H0.out,(Below.refl _ _).alloc nlr _⟩
 case round =>
  clear H0 hmk
  obtain ⟨k,hk,rfl,H1⟩:=hrel
  obtain ⟨rs,H1⟩:∃ rs,Hid (FwB ls len w.heap.size k rs wr∧Bel w wr):=H1.out
  by_cases hlt:k<len
  ·obtain ⟨b1,o1,i1,e1,ha1,hb1,⟨c0,c1,c2⟩,hr1,-⟩:=(h.out.below H1.out.2) k (by rw [Hlen.out];exact hlt)
   subst ha1
   have hn:=hin.out k (by rw [Hlen.out];exact hlt)
   have T:=fun w h=>toFw (fwAt ls k) i1 e1 w hn h
   have hG:w.heap.size<wr.heap.size:=(World.ownsRow.lt H1.out.1.outer _ rfl).2
   have St:Hid (∀ w2 x,IRow wr.heap.size w2 (.slice (some ⟨x,0,none⟩) (fwAt ls k).sizes.length (fwAt ls k).sizes.length) (fwAt ls k).sizes→Bel wr w2 →
    (∃ rs',FwB ls len w.heap.size (k+1) rs' (((w2.setCell ⟨w.heap.size,k*3,none⟩ (.int .i64 (fwAt ls k).weight)).setCell ⟨w.heap.size,k*3+1,none⟩ (.int .i64 (fwAt ls k).finish)).setCell ⟨w.heap.size,k*3+2,none⟩ (.slice (some ⟨x,0,none⟩) (fwAt ls k).sizes.length (fwAt ls k).sizes.length))∧Bel w (((w2.setCell ⟨w.heap.size,k*3,none⟩ (.int .i64 (fwAt ls k).weight)).setCell ⟨w.heap.size,k*3+1,none⟩ (.int .i64 (fwAt ls k).finish)).setCell ⟨w.heap.size,k*3+2,none⟩ (.slice (some ⟨x,0,none⟩) (fwAt ls k).sizes.length (fwAt ls k).sizes.length)))∧(∃ y,w2.cell? ⟨w.heap.size,k*3,none⟩=some y)∧w2.frozen? ⟨w.heap.size,k*3,none⟩=false∧(∃ y,w2.cell? ⟨w.heap.size,k*3+1,none⟩=some y)∧w2.frozen? ⟨w.heap.size,k*3+1,none⟩=false∧(∃ y,w2.cell? ⟨w.heap.size,k*3+2,none⟩=some y)∧w2.frozen? ⟨w.heap.size,k*3+2,none⟩=false):=fun w2 x q1 q2=>by
    have hb:=H1.out.1.below q2
    have hcl:=fwcells_length (rs++List.replicate (len-k) (Fwr.mk 0 0 (.slice none 0 0)))
    have hlr:=hb.len
    simp only [List.length_append,List.length_replicate] at hcl
    refine ⟨⟨_,H1.out.1.add hlt q2 q1,(((H1.out.2.trans (q2.mono H1.out.2.size)).setCell nlr _).setCell nlr _).setCell nlr _⟩,?_,hb.outer.frozenAt (k*3),?_,hb.outer.frozenAt (k*3+1),?_,hb.outer.frozenAt (k*3+2)⟩
    ·rw [hb.outer.cellAt (k*3) (by omega)]
     exact ⟨_,List.getElem?_eq_getElem (by omega)⟩
    ·rw [hb.outer.cellAt (k*3+1) (by omega)]
     exact ⟨_,List.getElem?_eq_getElem (by omega)⟩
    ·rw [hb.outer.cellAt (k*3+2) (by omega)]
     exact ⟨_,List.getElem?_eq_getElem (by omega)⟩
   generalize (fwAt ls k)=q at c0 c1 c2 hr1 T St
   obtain ⟨q0,q1,ql⟩:=q
   simp only [Fw.val] at c0 c1 c2 hr1 T St
   generalize ql.length=n at c2 T St
   have T':Hid _:=T
   have Hr1:Hid (IntsAt wr i1 ql):=hr1
   clear T hr1 hn
   go_wp2_with fail
   refine (T'.out _ Hr1.out).mono ?_
   rintro e w2 ⟨x,rfl,q1,q2⟩
   obtain ⟨H3,⟨y0,hy0⟩,hz0,⟨y1,hy1⟩,hz1,⟨y2,hy2⟩,hz2⟩:=St.out w2 x q1 q2
   have H3:Hid _:=H3
   have hG2:w.heap.size<w2.heap.size:=Nat.lt_of_lt_of_le hG q2.size
   clear q1 q2 St
   go_wp2
   go_roundw
   case rel=>exact ⟨k+1,by omega,by go_num,H3⟩
   case measure=>simp [intOf];omega
  ·obtain rfl:k=len:=by omega
   go_wp2
   go_ret
   exact ⟨_,rfl,⟨rs,H1.out.1.done Hlen.out⟩,H1.out.2⟩
theorem szFss (L:Int) (h0:0≤L) (h1:L≤1048576) (r:Fs) (a:Option Addr) (c:Nat) (w:World) (hl:(r.flows.length:Int)≤9223372036854775807) (hin:Hid (∀ k,k<r.flows.length→((fwAt r.flows k).sizes.length:Int)≤9223372036854775807)) (h:Hid (FwsAt w a r.flows)) :
 Calls Tryz.prog 29 #[r.val a c,.int .i64 L] w fun e w'=>e = .returned (.int .i64 (if L-(r.big:Nat)<0 then -1 else L-(r.big:Nat)))∧Bel w w':=by
 have C:=fun w h=>szFws L h0 h1 a c r.flows w hl hin h
 rw [show r.flows.length+fwSum r.flows r.flows.length=r.big from rfl] at C
 generalize r.big=B at C ⊢
 unfold Fs.val
 have X:Hid (FwsAt (w.alloc (.cells #[.int .i64 r.now,.slice a r.flows.length c] 34)) a r.flows∧Bel w (w.alloc (.cells #[.int .i64 r.now,.slice a r.flows.length c] 34))):=⟨h.out.alloc _,(Below.refl _ _).alloc nlr _⟩
 generalize r.flows.length=n at C X ⊢
 generalize r.now=f at X ⊢
 have C':Hid _:=C
 clear C
 by_cases hn:L-(B:Nat)<0
 ·rw [if_pos hn] at C' ⊢
  go_enter Tryz.func29,Tryz.ntmps29
  go_wp2_with fail
  refine (C'.out _ X.out.1).mono ?_
  rintro e w' ⟨rfl,qb⟩
  have X1:Hid (Bel w w'):=X.out.2.trans (qb.mono X.out.2.size)
  clear qb
  go_wp2
  go_ret
  exact ⟨rfl,X1.out⟩
 ·rw [if_neg hn] at C' ⊢
  have hn':¬ L-(B:Int)<0:=hn
  go_enter Tryz.func29,Tryz.ntmps29
  go_wp2_with fail
  refine (C'.out _ X.out.1).mono ?_
  rintro e w' ⟨rfl,qb⟩
  have X1:Hid (Bel w w'):=X.out.2.trans (qb.mono X.out.2.size)
  clear qb
  go_wp2
  go_ret
  exact ⟨rfl,X1.out⟩
theorem toFss (r:Fs) (a:Option Addr) (c:Nat) (w:World) (hB:r.big≤1048576) (h:Hid (FwsAt w a r.flows)) :
 Calls Tryz.prog 40 #[r.val a c] w fun e w'=>(∃ v,e = .returned v∧FsIn w.heap.size w'.heap.size w' v r)∧Bel w w':=by
 obtain ⟨hT,-,hin⟩:=Fs.small hB
 have T:=fun w h=>toFws a c r.flows w hT hin h
 obtain ⟨f,l⟩:=r
 simp only [Fs.val] at T h ⊢
 clear hin hT hB
 obtain ⟨n,hn⟩:∃ n,l.length=n:=⟨_,rfl⟩
 have Hn:Hid (l.length=n):=hn
 rw [hn] at T ⊢
 clear hn
 have T':Hid _:=T
 clear T
 obtain ⟨W,hW⟩:∃ W,W=((w.alloc (.cells #[.int .i64 f,.slice a n c] 34)).alloc (.cells #[.int .i64 0,.slice none 0 0] 48)).alloc (.cells #[.int .i64 f,.slice none 0 0] 48):=⟨_,rfl⟩
 have X:Hid (FwsAt W a l∧Bel w W∧Boxed W (w.heap.size+1) #[.int .i64 0,.slice none 0 0] 48∧Boxed W (w.heap.size+2) #[.int .i64 f,.slice none 0 0] 48∧w.heap.size+3=W.heap.size):=by
  rw [hW]
  refine ⟨((h.out.alloc _).alloc _).alloc _,(((Below.refl _ _).alloc nlr _).alloc (by simp) _).alloc (by simp;omega) _,?_,?_,by simp⟩
  ·have:=(Boxed.new (w.alloc (.cells #[.int .i64 f,.slice a n c] 34)) #[.int .i64 0,.slice none 0 0] 48).more (.cells #[.int .i64 f,.slice none 0 0] 48)
   simpa using this
  ·have:=Boxed.new ((w.alloc (.cells #[.int .i64 f,.slice a n c] 34)).alloc (.cells #[.int .i64 0,.slice none 0 0] 48)) #[.int .i64 f,.slice none 0 0] 48
   simpa using this
 have HW:Hid (W=_):=hW
 clear hW h
 go_enter Tryz.func40,Tryz.ntmps40
 go_wp2_with fail
 rw [← HW.out]
 refine (T'.out _ X.out.1).mono ?_
 rintro e w1 ⟨g,rfl,q1,q2⟩
 have hz:=X.out.2.2.2.2
 have X1:Hid (Bel w w1∧Boxed w1 (w.heap.size+1) #[.int .i64 0,.slice none 0 0] 48∧Boxed w1 (w.heap.size+2) #[.int .i64 f,.slice none 0 0] 48∧FwsIn W.heap.size w1.heap.size w1 (.slice (some ⟨g,0,none⟩) n n) l∧w.heap.size+3≤w1.heap.size∧w.heap.size+3=W.heap.size) :=
  ⟨X.out.2.1.trans (q2.mono X.out.2.1.size),X.out.2.2.1.below (by omega) q2,X.out.2.2.2.1.below (by omega) q2,q1,by have:=q2.size;omega,hz⟩
 have X2:Hid (Boxed (w1.setCell ⟨w.heap.size+2,1,none⟩ (.slice (some ⟨g,0,none⟩) n n)) (w.heap.size+1) #[.int .i64 0,.slice none 0 0] 48∧Boxed (w1.setCell ⟨w.heap.size+2,1,none⟩ (.slice (some ⟨g,0,none⟩) n n)) (w.heap.size+2) #[.int .i64 f,.slice (some ⟨g,0,none⟩) n n] 48) :=
  ⟨X1.out.2.1.far (by omega) _ _,X1.out.2.2.1.put 1 _⟩
 have d1:w1.cell? ⟨w.heap.size+2,1,none⟩=some (.slice none 0 0):=X1.out.2.2.1.cell 1 rfl
 have z1:=X1.out.2.2.1.ice 1
 clear q1 q2 X hz
 go_wp2_with (first|(refine wpList_load_row rfl 48 (.tmp 3) rfl (w.heap.size+2) rfl _ _ _ _ X2.out.2 Tryz.underlying48 rfl (by kernel_rfl) ?_)|(refine wpList_store_row rfl 48 (.tmp 2) (.tmp 11) rfl (w.heap.size+1) _ rfl rfl _ _ X2.out.1 (by kernel_rfl) rfl (by simp [Value.oneCell']) ?_))
 have hB:∀ k,k≠w.heap.size+1→k≠w.heap.size+2→((w1.setCell ⟨w.heap.size+2,1,none⟩ (.slice (some ⟨g,0,none⟩) n n)).setRow (w.heap.size+1) #[.int .i64 f,.slice (some ⟨g,0,none⟩) n n]).heap[k]? = w1.heap[k]? := fun k h1 h2=>by
  rw [setRow_other _ _ _ _ h1]
  exact Below.heap_setCell _ _ _ _ h2
 have hS:((w1.setCell ⟨w.heap.size+2,1,none⟩ (.slice (some ⟨g,0,none⟩) n n)).setRow (w.heap.size+1) #[.int .i64 f,.slice (some ⟨g,0,none⟩) n n]).heap.size=w1.heap.size:=by
  rw [size_setRow]
  simp [World.setCell]
 refine bodyPost_ret (results_cell_row Tryz.results40 _ _ (w.heap.size+1) _ _ _ _ rfl (setRow_heap _ (w.heap.size+1) _ _ _ _ X2.out.1) Tryz.underlying48 rfl (by kernel_rfl)) rfl ⟨⟨_,rfl,some ⟨g,0,none⟩,n,by show _=Value.agg #[_,.slice _ l.length _];rw [Hn.out],?_⟩,below_setRow (X1.out.1.setCell (by show w.heap.size≤w.heap.size+2;omega) _) (by omega) _⟩
 rw [hS]
 show FwsIn _ _ _ (.slice _ l.length _) l
 rw [Hn.out]
 have q:=X1.out.2.2.2.1
 have e:=X1.out.2.2.2.2.2
 exact (q.keep (by rw [hS];exact Nat.le_refl _) fun k h1 h2=>hB k (by omega) (by omega)).wide (by omega) nlr (by rw [hS];exact Nat.le_refl _)
end Go.Proofs.YtmfabeghfdoibaaGreat
