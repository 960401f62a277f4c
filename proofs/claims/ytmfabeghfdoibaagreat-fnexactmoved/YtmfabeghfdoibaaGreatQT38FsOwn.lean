import Derived.Laws.CopyRow
import Derived.Laws.IdiomCopy
import Derived.Laws.CopyOwn
import Derived.Test.YtmfabeghfdoibaaGreatQT14FwGrow
import Derived.Test.YtmfabeghfdoibaaGreatQT37FwBlk
import Derived.Test.YtmfabeghfdoibaaGreatQT10FsFn
import Derived.Test.YtmfabeghfdoibaaGreatQT21StepRow
import Derived.Laws.ResultCell
import Derived.Deep.RegionWith
set_option maxHeartbeats 6400000
set_option maxRecDepth 100000
namespace Go.Proofs.YtmfabeghfdoibaaGreat
open Go.RowKit
theorem mkInts_run (n:Nat) (hn:n≤1048576) (wx:World):(Instr.makeSlice 27 (.int .i64 (n:Int)) (.int .i64 (n:Int))).run Tryz.prog wx = .ok (.slice (some ⟨wx.heap.size,0,none⟩) n n) (wx.alloc (.cells (madeCells #[.int .i64 0] (n*1)) 2)):=by
 obtain ⟨i0,hi,hz0,hz1,hz2⟩:=info_parts info2'
 have:=run_make (P:=Tryz.prog) wx 27 2 i0 (.int .i64 0) Tryz.underlying27 hi hz0 .i64 .i64 n n (by omega) (by omega) (by rw [hz2];omega) (by omega)
 rw [this,hz1];simp [Value.cells]
theorem IntsAt.src {w:World} {ad:Addr} {L:List Int} (h:IntsAt w (some ad) L):∀ j v,(L.map (Value.int .i64))[j]? = some v→w.cell? (ad.add j)=some v:=by
 intro j u hj
 have hj':j<L.length:=by have:=(List.getElem?_eq_some_iff.1 hj).1;simpa using this
 obtain ⟨b,off,e,_,c0⟩:=h j hj'
 cases e
 rw [show (⟨b,off,none⟩:Addr).add j=⟨b,off+j,none⟩ by by_cases h0:j=0<;>simp [Addr.add,h0],c0]
 rw [List.getElem?_map,List.getElem?_eq_getElem hj'] at hj
 rw [List.getElem?_eq_getElem hj']
 simpa using hj
theorem int_oneCell (L:List Int):∀ v∈L.map (Value.int .i64),v.oneCell'=true:=by
 intro v hv
 obtain ⟨y,_,rfl⟩:=List.mem_map.1 hv
 rfl
theorem int_copy (w:World) (ty:TypeId) (g:Nat) (a:Option Addr) (sCap:Nat) (l:List Int) (cur:Array Value)
 (hg:w.heap[g]? = some (.cells cur 2 (0,0))) (hc:cur.size=l.length) (h:IntsAt w a l) :
 (Builtin.copy_ #[27,27] ty #[.slice (some ⟨g,0,none⟩) l.length l.length,.slice a l.length sCap]).run Tryz.prog w =
  .ok (.int .i64 (l.length:Int)) (w.setRow g (l.map (Value.int .i64)).toArray):=by
 obtain ⟨i0,hi0,hz0,hz1,hz2⟩:=info_parts info2'
 have hs:(Tryz.prog.info? 2).map (·.size)=some 1:=by rw [hi0];simp [hz1]
 cases l with
 |nil =>
  have e:w.setRow g (([]:List Int).map (Value.int .i64)).toArray=w:=by
   obtain rfl:cur=#[]:=by simpa using hc
   exact setRow_self w g _ _ _ hg
  rw [e]
  exact run_copy_none w _ _ ty 2 _ _ _ _ _ _ Tryz.underlying27 hs rfl
 |cons x xs =>
  obtain ⟨b,off,ha,_⟩:=h 0 (by simp)
  subst ha
  have hr:=run_copy_row (P:=Tryz.prog) w 27 27 ty 2 g 0 (x :: xs).length (x :: xs).length ⟨b,off,none⟩ (x :: xs).length sCap cur _ ((x :: xs).map (Value.int .i64)) Tryz.underlying27 hs hg (by simp) h.src (by simp [hc]) (int_oneCell _)
  have e1:(cur.toList.take 0++(x :: xs).map (Value.int .i64)++cur.toList.drop (0+((x :: xs).map (Value.int .i64)).length))=(x :: xs).map (Value.int .i64):=by
   rw [List.take_zero,List.nil_append,Nat.zero_add,List.length_map,← hc,← Array.length_toList,List.drop_length,List.append_nil]
  rw [e1,List.length_map] at hr
  exact hr
theorem implCopyN (a:Option Addr) (cap:Nat) (l:List Int) (w:World) (h:Hid (IntsAt w a l)) (hT:l.length≤1048576) :
 Calls Tryz.prog 101 #[.slice a l.length cap] w fun e w'=>∃ v,e = .returned v∧IRow w.heap.size w' v l∧Below w.heap.size w w':=by
 have hgm:(w.alloc (.cells (madeCells #[.int .i64 0] (l.length*1)) 2)).heap[w.heap.size]? = some (.cells (madeCells #[.int .i64 0] (l.length*1)) 2 (0,0)):=by
  show (w.heap.push _)[w.heap.size]? = _
  simp
 have hcp:=fun ty=>int_copy (w.alloc (.cells (madeCells #[.int .i64 0] (l.length*1)) 2)) ty w.heap.size a cap l _ hgm (by rw [size_madeCells];omega) (h.out.below ((Below.refl _ _).alloc nlr _))
 have Fin:Hid (IRow w.heap.size ((w.alloc (.cells (madeCells #[.int .i64 0] (l.length*1)) 2)).setRow w.heap.size (l.map (Value.int .i64)).toArray) (.slice (some ⟨w.heap.size,0,none⟩) l.length l.length) l∧Below w.heap.size w ((w.alloc (.cells (madeCells #[.int .i64 0] (l.length*1)) 2)).setRow w.heap.size (l.map (Value.int .i64)).toArray)):=by
  refine ⟨⟨by simp,.inr ⟨w.heap.size,l.length,(l.map (Value.int .i64)).toArray,rfl,nlr,setRow_heap _ _ _ _ _ _ hgm,nlr,by unfold maxLen;omega,by simp,?_⟩⟩,?_⟩
  ·rw [Nat.mul_one]
   exact List.take_of_length_le (by simp)
  ·exact below_setRow ((Below.refl _ _).alloc nlr _) nlr _
 clear hgm
 have hmk:=mkInts_run l.length hT
 obtain ⟨len,hlen⟩:∃ n,l.length=n:=⟨_,rfl⟩
 rw [hlen] at hT hcp Fin hmk ⊢
 clear hlen
 rw [Nat.mul_one] at hcp Fin hmk
 generalize (w.alloc (.cells (madeCells #[.int .i64 0] len) 2)).setRow w.heap.size (l.map (Value.int .i64)).toArray=W2 at hcp Fin
 go_enter Tryz.func101,Tryz.ntmps101
 go_wp2
 go_ret
 exact ⟨_,rfl,Fin.out⟩
structure FwL (ls:List Fw) (len G k:Nat) (rs:List Fwr) (wr:World):Prop where
 outer:wr.ownsRow G 109 3 (.slice (some ⟨G,0,none⟩) len len) len (fwcells (rs++List.replicate (len-k) (Fwr.mk 0 0 (.slice none 0 0))))
 len:rs.length=k
 num:∀ i,i<k→(fwrAt rs i).weight=(fwAt ls i).weight∧(fwrAt rs i).finish=(fwAt ls i).finish
 row:∀ i,i<k→IRow (G+1) wr (fwrAt rs i).hd (fwAt ls i).sizes
 apart:∀ i j x,i<k→j<k→i≠j→(fwrAt rs i).hd.ownBlock=some x→(fwrAt rs j).hd.ownBlock≠some x
section
variable {ls:List Fw} {len G k:Nat} {rs:List Fwr} {wr wd:World} {u:Value}
theorem FwL.below (h:FwL ls len G k rs wr) (gr:Below wr.heap.size wr wd):FwL ls len G k rs wd :=
 ⟨fwrows_carry h.outer fun x _ hx=>gr.block x hx,h.len,h.num,fun i hi=>fwrows_carry (h.row i hi) fun x _ hx=>gr.block x hx,h.apart⟩
theorem FwL.add (h:FwL ls len G k rs wr) (hk:k<len) (gr:Below wr.heap.size wr wd) (hu:IRow wr.heap.size wd u (fwAt ls k).sizes) :
 FwL ls len G (k+1) (rs++[⟨(fwAt ls k).weight,(fwAt ls k).finish,u⟩]) (((wd.setCell ⟨G,k*3,none⟩ (.int .i64 (fwAt ls k).weight)).setCell ⟨G,k*3+1,none⟩ (.int .i64 (fwAt ls k).finish)).setCell ⟨G,k*3+2,none⟩ u):=by
 have hb:=h.below gr
 have hG:G<wr.heap.size:=(World.ownsRow.lt h.outer G rfl).2
 have hl:=h.len
 have oth:∀ y,y≠G→(((wd.setCell ⟨G,k*3,none⟩ (.int .i64 (fwAt ls k).weight)).setCell ⟨G,k*3+1,none⟩ (.int .i64 (fwAt ls k).finish)).setCell ⟨G,k*3+2,none⟩ u).heap[y]? = wd.heap[y]? := fun y hy=>by
  rw [Below.heap_setCell _ _ _ _ (by exact hy),Below.heap_setCell _ _ _ _ (by exact hy),Below.heap_setCell _ _ _ _ (by exact hy)]
 refine ⟨?_,by simp [hl],fun i hi=>?_,fun i hi=>?_,fun i j x hi hj hne h1 h2=>?_⟩
 ·have h0:=hb.outer
  have h0:=(h0.stored (k*3) (.int .i64 (fwAt ls k).weight)).1
  have h0:=(h0.stored (k*3+1) (.int .i64 (fwAt ls k).finish)).1
  have h0:=(h0.stored (k*3+2) u).1
  have hs:=fwcells_set (rs++List.replicate (len-k) (Fwr.mk 0 0 (.slice none 0 0))) k ⟨(fwAt ls k).weight,(fwAt ls k).finish,u⟩
  simp only at hs
  rw [hs] at h0
  have e:(rs++List.replicate (len-k) (Fwr.mk 0 0 (.slice none 0 0))).set k ⟨(fwAt ls k).weight,(fwAt ls k).finish,u⟩=(rs++[⟨(fwAt ls k).weight,(fwAt ls k).finish,u⟩])++List.replicate (len-(k+1)) (Fwr.mk 0 0 (.slice none 0 0)):=by
   obtain ⟨n,hn⟩:∃ n,len-k=n+1:=⟨len-k-1,by omega⟩
   rw [hn,show len-(k+1)=n by omega,List.replicate_succ,List.set_append_right _ _ (by omega),hl,Nat.sub_self,List.set_cons_zero]
   simp
  rw [e] at h0
  exact h0
 ·by_cases e:i=k
  ·subst e
   rw [← hl,fwrAt_new,hl]
   try exact ⟨rfl,rfl⟩
  ·rw [fwrAt_old (by omega)]
   exact h.num i (by omega)
 ·by_cases e:i=k
  ·subst e
   rw [← hl,fwrAt_new,hl]
   exact IRow.mono (fwrows_carry hu fun y hy hlt=>oth y (by have:=(hu.lt y hy).1;omega)) (by omega)
  ·rw [fwrAt_old (by omega)]
   refine fwrows_carry (hb.row i (by omega)) fun y hy _=>oth y ?_
   have:=((hb.row i (by omega)).lt y hy).1
   omega
 ·have old:∀ i,i<k→(fwrAt rs i).hd.ownBlock=some x→u.ownBlock≠some x:=fun i hi a1 a2=>by
   have b1:=((h.row i hi).lt x a1).2
   have b2:=(hu.lt x a2).1
   omega
  have new:fwrAt (rs++[⟨(fwAt ls k).weight,(fwAt ls k).finish,u⟩]) k=⟨(fwAt ls k).weight,(fwAt ls k).finish,u⟩:=by rw [← hl,fwrAt_new]
  by_cases ei:i=k
  ·subst ei
   rw [new] at h1
   rw [fwrAt_old (by omega)] at h2
   exact old j (by omega) h2 h1
  ·rw [fwrAt_old (by omega)] at h1
   by_cases ej:j=k
   ·subst ej
    rw [new] at h2
    exact old i (by omega) h1 h2
   ·rw [fwrAt_old (by omega)] at h2
    exact h.apart i j x (by omega) (by omega) hne h1 h2
theorem FwL.grow (h:FwL ls len G len rs wr) (hl:ls.length=len):FwG G (.slice (some ⟨G,0,none⟩) len len) rs ls wr:=by
 subst hl
 have ho:=h.outer
 rw [Nat.sub_self,List.replicate_zero,List.append_nil] at ho
 exact ⟨ho,h.len,h.num,fun i hi=>IRow.mono (h.row i hi) (by omega),h.apart⟩
theorem FwL.new (ls:List Fw) (len:Nat) (w:World) (hT:len≤1048576):FwL ls len w.heap.size 0 [] (w.alloc (.cells (madeCells #[.int .i64 0,.int .i64 0,.slice none 0 0] (len*3)) 109)):=by
 have:=World.ownsRow_lit (size:=3) (e:=109) (base:=w.heap.size) w (madeCells #[.int .i64 0,.int .i64 0,.slice none 0 0] (len*3)) len nlr (by unfold maxLen;omega) (by rw [size_madeCells])
 rw [fwMade] at this
 exact ⟨by simpa using this,rfl,fun i hi=>by omega,fun i hi=>by omega,fun i j x hi=>by omega⟩
theorem FwL.cell (h:FwL ls len G k rs wr) (hk:k<len) {j:Nat} (hj:j<3):(∃ y,wr.cell? ⟨G,k*3+j,none⟩=some y)∧wr.frozen? ⟨G,k*3+j,none⟩=false:=by
 have hcl:=fwcells_length (rs++List.replicate (len-k) (Fwr.mk 0 0 (.slice none 0 0)))
 have hlr:=h.len
 simp only [List.length_append,List.length_replicate] at hcl
 refine ⟨?_,h.outer.frozenAt (k*3+j)⟩
 rw [h.outer.cellAt (k*3+j) (by omega)]
 exact ⟨_,List.getElem?_eq_getElem (by omega)⟩
end
theorem implOwnFair (d:Fs) (a:Option Addr) (c:Nat) (w:World) (hB:d.big≤1048576) (h:Hid (FwsAt w a d.flows)) :
 Calls Tryz.prog 104 #[d.val a c] w fun e w'=>(∃ v rs,e = .returned (.agg #[.int .i64 d.now,v])∧FwG (w.heap.size+2) v rs d.flows w')∧Bel w w':=by
 obtain ⟨hT,-,hin⟩:=Fs.small hB
 obtain ⟨f,ls⟩:=d
 simp only [Fs.val] at h hT hin ⊢
 clear hB
 have Hin:Hid (∀ k,k<ls.length→(fwAt ls k).sizes.length≤1048576):=hin
 obtain ⟨i0,hi,hz0,hz1,hz2⟩:=info_parts fwInfo
 obtain ⟨n,hn⟩:∃ n,ls.length=n:=⟨_,rfl⟩
 rw [hn] at hT ⊢
 have Hn:Hid (ls.length=n):=hn
 clear hn hin
 have hmk:∀ wx,(Instr.makeSlice 46 (.int .i64 (n:Int)) (.int .i64 (n:Int))).run Tryz.prog wx = .ok (.slice (some ⟨wx.heap.size,0,none⟩) n n) (wx.alloc (.cells (madeCells #[.int .i64 0,.int .i64 0,.slice none 0 0] (n*3)) 109)):=by
  intro wx
  have:=run_make (P:=Tryz.prog) wx 46 109 i0 (.agg #[.int .i64 0,.int .i64 0,.slice none 0 0]) Tryz.underlying46 hi hz0 .i64 .i64 n n (by omega) (by omega) (by rw [hz2];omega) (by omega)
  rw [this,hz1];simp [Value.cells]
 clear hi hz0 hz1 hz2
 obtain ⟨W0,hW0⟩:∃ W0,W0=(w.alloc (.cells #[.int .i64 f,.slice a n c] 48)).alloc (.cells #[.int .i64 0,.slice none 0 0] 48):=⟨_,rfl⟩
 have hs0:W0.heap.size=w.heap.size+1+1:=by rw [hW0];simp
 have X0:Hid (Boxed W0 w.heap.size #[.int .i64 f,.slice a n c] 48∧Boxed W0 (w.heap.size+1) #[.int .i64 0,.slice none 0 0] 48∧Bel w W0):=by
  rw [hW0]
  refine ⟨(Boxed.new w _ _).more _,?_,((Below.refl _ _).alloc nlr _).alloc (by simp) _⟩
  have:=Boxed.new (w.alloc (.cells #[.int .i64 f,.slice a n c] 48)) #[.int .i64 0,.slice none 0 0] 48
  simpa using this
 have X:Hid (FwL ls n (w.heap.size+1+1) 0 [] (W0.alloc (.cells (madeCells #[.int .i64 0,.int .i64 0,.slice none 0 0] (n*3)) 109))∧Below (w.heap.size+1+1) W0 (W0.alloc (.cells (madeCells #[.int .i64 0,.int .i64 0,.slice none 0 0] (n*3)) 109))):=by
  rw [← hs0]
  exact ⟨FwL.new ls n W0 hT,(Below.refl _ _).alloc nlr _⟩
 have HS:Hid (W0.heap.size=w.heap.size+1+1):=hs0
 have HW:Hid (W0=_):=hW0
 clear hW0 hs0
 go_enter Tryz.func104,Tryz.ntmps104
 go_wp2
 rw [← HW.out]
 generalize W0.alloc (.cells (madeCells #[.int .i64 0,.int .i64 0,.slice none 0 0] (n*3)) 109)=W1 at X ⊢
 go_loopw [4,5,13] (fun _ _ i wr=>∃ k:Nat,k≤n∧i = .int .i64 k∧Hid (∃ rs,FwL ls n (w.heap.size+1+1) k rs wr∧Below (w.heap.size+1+1) W0 wr)) (fun _ _ i _=>n-(intOf i).toNat)
 case atStart=>exact ⟨0,Nat.zero_le _,rfl,[],X.out⟩
 case round =>
  clear X hmk
  obtain ⟨k,hk,rfl,H1⟩:=hrel
  obtain ⟨rs,H1⟩:∃ rs,Hid (FwL ls n (w.heap.size+1+1) k rs wr∧Below (w.heap.size+1+1) W0 wr):=H1.out
  have Bw:Hid (Bel w wr):=X0.out.2.2.trans (H1.out.2.mono (by omega))
  obtain ⟨wo,rfl⟩:∃ wo,wo=wr:=⟨_,rfl⟩
  by_cases hlt:k<n
  ·have hkl:k<ls.length:=by rw [Hn.out];exact hlt
   obtain ⟨b1,o1,ak,ck,ha1,hb1,⟨c0,c1,c2⟩,hr1,-⟩:=(h.out.below Bw.out) k hkl
   subst ha1
   have hn:=Hin.out k hkl
   have T:=fun w h=>implCopyN ak ck (fwAt ls k).sizes w h hn
   have hG:w.heap.size+1+1<wo.heap.size:=(World.ownsRow.lt H1.out.1.outer _ rfl).2
   have hlt':(k:Int)<(n:Int):=by omega
   have St:Hid (∀ w1 w2 u,Bel wo w1→IRow w1.heap.size w2 u (fwAt ls k).sizes→Bel w1 w2 →
    (∃ rs',FwL ls n (w.heap.size+1+1) (k+1) rs' (((w2.setCell ⟨w.heap.size+1+1,k*3,none⟩ (.int .i64 (fwAt ls k).weight)).setCell ⟨w.heap.size+1+1,k*3+1,none⟩ (.int .i64 (fwAt ls k).finish)).setCell ⟨w.heap.size+1+1,k*3+2,none⟩ u)∧Below (w.heap.size+1+1) W0 (((w2.setCell ⟨w.heap.size+1+1,k*3,none⟩ (.int .i64 (fwAt ls k).weight)).setCell ⟨w.heap.size+1+1,k*3+1,none⟩ (.int .i64 (fwAt ls k).finish)).setCell ⟨w.heap.size+1+1,k*3+2,none⟩ u))∧((∃ y,w2.cell? ⟨w.heap.size+1+1,k*3,none⟩=some y)∧w2.frozen? ⟨w.heap.size+1+1,k*3,none⟩=false)∧((∃ y,w2.cell? ⟨w.heap.size+1+1,k*3+1,none⟩=some y)∧w2.frozen? ⟨w.heap.size+1+1,k*3+1,none⟩=false)∧((∃ y,w2.cell? ⟨w.heap.size+1+1,k*3+2,none⟩=some y)∧w2.frozen? ⟨w.heap.size+1+1,k*3+2,none⟩=false)):=fun w1 w2 u q0 q1 q2=>by
    have hb0:=H1.out.1.below q0
    have hb:=hb0.below q2
    refine ⟨⟨_,hb0.add hlt q2 q1,(((((H1.out.2.trans (q0.mono (Nat.le_of_lt hG))).trans (q2.mono (Nat.le_trans (Nat.le_of_lt hG) q0.size)))).setCell nlr _).setCell nlr _).setCell nlr _⟩,?_,hb.cell hlt (j:=1) (by omega),hb.cell hlt (j:=2) (by omega)⟩
    have:=hb.cell hlt (j:=0) (by omega)
    simpa using this
   generalize fwAt ls k=q at c0 c1 c2 hr1 T St
   obtain ⟨t,tu,fl⟩:=q
   simp only at c0 c1 c2 hr1 T St
   have Hm:Hid (∀ {base:Nat} {w:World} {u:Value},IRow base w u fl→∃ x y,u = .slice x fl.length y):=fun h=>h.shape
   generalize fl.length=m at c2 T Hm
   have T':Hid _:=T
   have N:Hid (Boxed (wo.alloc (.cells #[.int .i64 0,.int .i64 0,.slice none 0 0] 109)) wo.heap.size #[.int .i64 0,.int .i64 0,.slice none 0 0] 109):=Boxed.new _ _ _
   obtain ⟨wh,hwh⟩:∃ wh,(wo.alloc (.cells #[.int .i64 0,.int .i64 0,.slice none 0 0] 109)).setRow wo.heap.size #[.int .i64 t,.int .i64 tu,.slice ak m ck]=wh:=⟨_,rfl⟩
   have b0:Bel wo wh:=by rw [← hwh];exact below_setRow ((Below.refl _ _).alloc nlr _) nlr _
   have V:Hid (Boxed wh wo.heap.size #[.int .i64 t,.int .i64 tu,.slice ak m ck] 109∧Bel wo wh∧IntsAt wh.drew ak fl):=⟨by rw [← hwh];exact setRow_heap _ _ _ _ _ _ N.out,b0,hr1.below b0.drew⟩
   have HW2:Hid _:=hwh
   clear T hr1 hn hwh b0 hkl
   go_upto_region 5 with (refine wpList_store_row rfl 109 (.tmp 5) (.tmp 17) rfl wo.heap.size #[.int .i64 t,.int .i64 tu,.slice ak m ck] rfl rfl _ _ N.out (by kernel_rfl) rfl (by simp [Value.oneCell']) ?_)
   rw [HW2.out]
   clear N HW2 c0 c1 c2
   have d0:wh.cell? ⟨wo.heap.size,0,none⟩=some (.int .i64 t):=V.out.1.cell 0 rfl
   have d1:wh.cell? ⟨wo.heap.size,1,none⟩=some (.int .i64 tu):=V.out.1.cell 1 rfl
   have d2:wh.cell? ⟨wo.heap.size,2,none⟩=some (.slice ak m ck):=V.out.1.cell 2 rfl
   have dl:wo.heap.size<wh.heap.size:=V.out.1.under
   go_region_with (go_at_call 101;refine (T'.out wh.drew V.out.2.2).mono ?_;rintro e w2 ⟨u,rfl,q1,q2⟩;obtain ⟨x,y,ev⟩:=Hm.out q1;subst ev;obtain ⟨H3,⟨⟨y0,hy0⟩,hz0⟩,⟨⟨y1,hy1⟩,hz1⟩,⟨yy2,hy2⟩,hz2⟩:=St.out wh.drew w2 _ V.out.2.1.drew q1 q2;have H3:Hid _:=H3;have hG2:w.heap.size+1+1<w2.heap.size:=Nat.lt_of_lt_of_le hG (Nat.le_trans V.out.2.1.size q2.size);have V2:Hid (Boxed w2 wo.heap.size #[.int .i64 t,.int .i64 tu,.slice ak m ck] 109):=Boxed.below (w:=wh.drew) V.out.1 dl q2;have d0:w2.cell? ⟨wo.heap.size,0,none⟩=some (.int .i64 t):=V2.out.cell 0 rfl;have d1:w2.cell? ⟨wo.heap.size,1,none⟩=some (.int .i64 tu):=V2.out.cell 1 rfl;clear q1 q2)
   all_goals (
    go_wp2
    go_roundw
    case rel=>exact ⟨k+1,by omega,by go_num,H3⟩
    case measure=>simp [intOf];omega)
  ·obtain rfl:k=n:=by omega
   have hlt2:w.heap.size+1<w.heap.size+1+1:=by omega
   have B0:Hid (Boxed wo w.heap.size #[.int .i64 f,.slice a k c] 48∧Boxed wo (w.heap.size+1) #[.int .i64 0,.slice none 0 0] 48∧FwG (w.heap.size+1+1) (.slice (some ⟨w.heap.size+1+1,0,none⟩) k k) rs ls wo):=⟨X0.out.1.below (by omega) H1.out.2,X0.out.2.1.below hlt2 H1.out.2,H1.out.1.grow Hn.out⟩
   have c0:wo.cell? ⟨w.heap.size,0,none⟩=some (.int .i64 f):=B0.out.1.cell 0 rfl
   clear H1 hlt2
   go_wp2_with (refine wpList_store_row rfl 48 (.tmp 2) (.tmp 33) rfl (w.heap.size+1) _ rfl rfl _ _ B0.out.2.1 (by kernel_rfl) rfl (by simp [Value.oneCell']) ?_)
   refine bodyPost_ret (results_cell_row Tryz.results104 _ _ (w.heap.size+1) _ _ _ _ rfl (setRow_heap _ (w.heap.size+1) _ _ _ _ B0.out.2.1) Tryz.underlying48 rfl (by kernel_rfl)) rfl ⟨⟨_,rs,rfl,B0.out.2.2.other fun y hy _=>setRow_other _ _ _ _ (by omega)⟩,below_setRow Bw.out (by omega) _⟩
end Go.Proofs.YtmfabeghfdoibaaGreat
