import Derived.Test.YtmfabeghfdoibaaGreatQT32FsSpec
import Derived.Test.YtmfabeghfdoibaaGreatQT31GtZc
import Derived.Test.YtmfabeghfdoibaaGreatQT17GtOwn
import Derived.Test.YtmfabeghfdoibaaGreatQT45RwCopyS
set_option maxHeartbeats 12800000
set_option maxRecDepth 100000
namespace Go.Proofs.YtmfabeghfdoibaaGreat
open Go.RowKit
theorem int_row_app {ops:Array Oper} {rest:List Oper} {o:Oper} {a:Act} {Q:Exit→Act→World→Prop} {w:World} (hgd:o.guard=none) (s x:Operand)
 (ho:o.op = .call { callee:=.builtin .append,args:=#[s,x],argTypes:=#[27,27] })
 (base:Nat) (v:Value) (L:List Int) (a0:Option Addr) (m c:Nat) (M:List Int) (hm:M.length=m) (hs:a.eval s=v) (hx:a.eval x = .slice a0 m c) (hr:IRow base w v L) (hM:IntsAt w a0 M) (hn:a0=none→c=0)
 (hl:L.length+M.length≤2097152) (hb:base≤w.heap.size)
 (h:∀ v' w',IRow base w' v' (L++M)→Below base w w'→w.grownBy w' v.ownBlock→(v'.ownBlock=v.ownBlock∨v'.ownBlock=some w.heap.size)→wpList Tryz.prog ops Q rest (a.put o.dst v') w'):wpList Tryz.prog ops Q (o :: rest) a w :=
 wpList_plain hgd fun _ hK=>int_op_app s x ho base v L a0 m c M hm hs hx hr hM hn hl hb (fun v' w' h1 h2 h3 h4=>hK _ _ (h v' w' h1 h2 h3 h4))
theorem fw_row_one {ops:Array Oper} {rest:List Oper} {o:Oper} {a:Act} {Q:Exit→Act→World→Prop} {w:World} (hgd:o.guard=none) (s x:Operand)
 (ho:o.op = .call { callee:=.builtin .append,args:=#[s,x],argTypes:=#[46,46] })
 (base:Nat) (v:Value) (k:Nat) (rs:List Fwr) (r:Fwr) (hu:r.hd.oneCell'=true) (hs:a.eval s=v) (hrow:w.ownsRow base 109 3 v k (fwcells rs)) {n:Nat} (hx:a.eval x = .slice (some ⟨n,0,none⟩) 1 1) (hn:Boxed w n r.cells.toArray 109)
 (hlen:k≤1048576) (hb:base≤w.heap.size)
 (h:∀ v' w',w'.ownsRow base 109 3 v' (k+1) (fwcells (rs++[r]))→Below base w w'→(∀ k,v.ownBlock≠some k→k<w.heap.size→w'.heap[k]? = w.heap[k]?)→wpList Tryz.prog ops Q rest (a.put o.dst v') w'):wpList Tryz.prog ops Q (o :: rest) a w :=
 wpList_plain hgd fun _ hK=>fw_op_at s x ho base v k rs r hu hs hrow hx hn hlen hb (fun v' w' h1 h2 h3=>hK _ _ (h v' w' h1 h2 h3))
structure CpF (w:World) (f:Int) (a:Option Addr) (n c:Nat) (ls:List Fw) (k:Nat) (v:Value) (rs:List Fwr) (wr:World):Prop where
 g:FwG (w.heap.size+3) v rs (ls.take k) wr
 out:Boxed wr (w.heap.size+1+1) #[.int .i64 f,v] 48
 res:Boxed wr (w.heap.size+1) #[.int .i64 0,.slice none 0 0] 48
 box:Boxed wr w.heap.size #[.int .i64 f,.slice a n c] 48
 bel:Below w.heap.size w wr
theorem CpF.add {w:World} {f:Int} {a:Option Addr} {n c:Nat} {ls:List Fw} {k:Nat} {v v' u:Value} {rs:List Fwr} {wr wd wx:World} (h:CpF w f a n c ls k v rs wr) (hk:k<ls.length) (g1:Below wr.heap.size wr wd) (hu:IRow wr.heap.size wd u (fwAt ls k).sizes)
 (ho:wx.ownsRow (w.heap.size+3) 109 3 v' (k+1) (fwcells (rs++[⟨(fwAt ls k).weight,(fwAt ls k).finish,u⟩]))) (g2:∀ y,v.ownBlock≠some y→y<wd.heap.size→wx.heap[y]? = wd.heap[y]?) (g3:Below (w.heap.size+3) wd wx) :
 CpF w f a n c ls (k+1) v' (rs++[⟨(fwAt ls k).weight,(fwAt ls k).finish,u⟩]) (wx.setCell ⟨w.heap.size+1+1,1,none⟩ v'):=by
 have hs:=h.out.under
 have hlk:(ls.take k).length=k:=by simp;omega
 have e:ls.take (k+1)=ls.take k++[fwAt ls k]:=by rw [List.take_succ_eq_append_getElem hk,fwAt_lt hk]
 have hg:FwG (w.heap.size+3) v' (rs++[⟨(fwAt ls k).weight,(fwAt ls k).finish,u⟩]) (ls.take (k+1)) wx:=by
  rw [e]
  exact h.g.add (by omega) g1 hu (by rw [hlk];exact ho) g2
 have b1:∀ y,y<w.heap.size+3→wx.heap[y]? = wr.heap[y]? := fun y hy=>(g3.block y hy).trans (g1.block y (by omega))
 have oth:∀ y,y≠w.heap.size+1+1→(wx.setCell ⟨w.heap.size+1+1,1,none⟩ v').heap[y]? = wx.heap[y]? := fun y hy=>Below.heap_setCell _ _ _ _ hy
 have o1:Boxed wx (w.heap.size+1+1) #[.int .i64 f,v] 48:=(b1 _ (by omega)).trans h.out
 refine ⟨hg.other fun y hy _=>oth y (by omega),o1.put 1 v',?_,?_,?_⟩
 ·exact (oth _ (by omega)).trans ((b1 _ (by omega)).trans h.res)
 ·exact (oth _ (by omega)).trans ((b1 _ (by omega)).trans h.box)
 ·exact (h.bel.trans ((g1.mono h.bel.size).trans (g3.mono (by omega)))).setCell (by show w.heap.size≤w.heap.size+1+1;omega) _
theorem specCopyF (d:Fs) (a:Option Addr) (c:Nat) (w:World) (hB:d.big≤1048576) (h:Hid (FwsAt w a d.flows)) :
 Calls Tryz.prog 90 #[d.val a c] w fun e w'=>(∃ v rs,e = .returned (.agg #[.int .i64 d.now,v])∧FwG (w.heap.size+3) v rs d.flows w')∧Below w.heap.size w w':=by
 obtain ⟨hT,-,hin⟩:=Fs.small hB
 obtain ⟨f,ls⟩:=d
 simp only [Fs.val] at h hT hin ⊢
 clear hB
 have Hin:Hid (∀ k,k<ls.length→(fwAt ls k).sizes.length≤1048576):=hin
 obtain ⟨n,hn⟩:∃ n,ls.length=n:=⟨_,rfl⟩
 rw [hn] at hT ⊢
 have Hn:Hid (ls.length=n):=hn
 clear hn hin
 obtain ⟨W,hW⟩:∃ W,W=((w.alloc (.cells #[.int .i64 f,.slice a n c] 48)).alloc (.cells #[.int .i64 0,.slice none 0 0] 48)).alloc (.cells #[.int .i64 f,.slice none 0 0] 48):=⟨_,rfl⟩
 have X:Hid (CpF w f a n c ls 0 (.slice none 0 0) [] W):=by
  rw [hW]
  refine ⟨by rw [List.take_zero];exact FwG.nil _ _,?_,?_,((Boxed.new w _ _).more _).more _,(((Below.refl _ _).alloc nlr _).alloc (by simp) _).alloc (by simp;omega) _⟩
  ·have:=Boxed.new ((w.alloc (.cells #[.int .i64 f,.slice a n c] 48)).alloc (.cells #[.int .i64 0,.slice none 0 0] 48)) #[.int .i64 f,.slice none 0 0] 48
   simpa using this
  ·have:=(Boxed.new (w.alloc (.cells #[.int .i64 f,.slice a n c] 48)) #[.int .i64 0,.slice none 0 0] 48).more (.cells #[.int .i64 f,.slice none 0 0] 48)
   simpa using this
 have HW:Hid (W=_):=hW
 clear hW
 go_enter Tryz.func90,Tryz.ntmps90
 go_wp2
 rw [← HW.out]
 go_loopw [4,5] (fun i _ wr=>∃ k:Nat,k≤n∧i = .int .i64 k∧Hid (∃ v rs,CpF w f a n c ls k v rs wr)) (fun i _ _=>n-(intOf i).toNat)
 case atStart=>exact ⟨0,Nat.zero_le _,rfl,_,_,X.out⟩
 case round =>
  obtain ⟨k,hk,rfl,HE⟩:=hrel
  obtain ⟨v,rs,H1⟩:∃ v rs,Hid (CpF w f a n c ls k v rs wr):=HE.out
  clear X HE
  have c1:wr.cell? ⟨w.heap.size,1,none⟩=some (.slice a n c):=H1.out.box.cell 1 rfl
  by_cases hlt:k<n
  ·have hkl:k<ls.length:=by rw [Hn.out];exact hlt
   obtain ⟨b,off,ak,ck,ha,hb,⟨e0,e1,e2⟩,hr,hcap,hnil⟩:=(h.out.below H1.out.bel) k hkl
   subst ha
   have hm:=Hin.out k hkl
   have Hr:Hid (IntsAt wr ak (fwAt ls k).sizes):=hr
   have Add:Hid (∀ u v' wd wx,Below wr.heap.size wr wd→IRow wr.heap.size wd u (fwAt ls k).sizes→wx.ownsRow (w.heap.size+3) 109 3 v' (k+1) (fwcells (rs++[⟨(fwAt ls k).weight,(fwAt ls k).finish,u⟩]))→(∀ y,v.ownBlock≠some y→y<wd.heap.size→wx.heap[y]? = wd.heap[y]?)→Below (w.heap.size+3) wd wx→CpF w f (some ⟨b,off,none⟩) n c ls (k+1) v' (rs++[⟨(fwAt ls k).weight,(fwAt ls k).finish,u⟩]) (wx.setCell ⟨w.heap.size+1+1,1,none⟩ v')):=fun u v' wd wx q1 q2 q3 q4 q5=>H1.out.add hkl q1 q2 q3 q4 q5
   have Out:Hid (wr.ownsRow (w.heap.size+3) 109 3 v k (fwcells rs)∧w.heap.size+3≤wr.heap.size):=⟨by have:=H1.out.g.outer;rw [List.length_take,Nat.min_eq_left (by omega)] at this;exact this,H1.out.out.under⟩
   generalize fwAt ls k=q at e0 e1 e2 Hr hm Add hr hcap
   obtain ⟨t,u,l⟩:=q
   simp only at e0 e1 e2 Hr hm Add hr hcap
   obtain ⟨m,hml⟩:∃ m,l.length=m:=⟨_,rfl⟩
   rw [hml] at e2 hm hcap
   have Hml:Hid (l.length=m):=hml
   have l2:w.heap.size+1+1<wr.heap.size:=H1.out.out.under
   have hlt':(k:Int)<(n:Int):=by omega
   have N:Hid (Boxed (wr.alloc (.cells #[.int .i64 0,.int .i64 0,.slice none 0 0] 109)) wr.heap.size #[.int .i64 0,.int .i64 0,.slice none 0 0] 109):=Boxed.new _ _ _
   have V:Hid (Boxed ((wr.alloc (.cells #[.int .i64 0,.int .i64 0,.slice none 0 0] 109)).setRow wr.heap.size #[.int .i64 t,.int .i64 u,.slice ak m ck]) wr.heap.size #[.int .i64 t,.int .i64 u,.slice ak m ck] 109∧Below wr.heap.size wr ((wr.alloc (.cells #[.int .i64 0,.int .i64 0,.slice none 0 0] 109)).setRow wr.heap.size #[.int .i64 t,.int .i64 u,.slice ak m ck])) :=
    ⟨setRow_heap _ _ _ _ _ _ N.out,below_setRow ((Below.refl _ _).alloc nlr _) nlr _⟩
   clear hr hml
   go_upto_region 6 with (refine wpList_store_row rfl 109 (.tmp 5) (.tmp 20) rfl wr.heap.size #[.int .i64 t,.int .i64 u,.slice ak m ck] rfl rfl _ _ N.out (by kernel_rfl) rfl (by simp [Value.oneCell']) ?_)
   generalize (wr.alloc (.cells #[.int .i64 0,.int .i64 0,.slice none 0 0] 109)).setRow wr.heap.size #[.int .i64 t,.int .i64 u,.slice ak m ck]=wh at V ⊢
   clear N e0 e1 e2 c1
   have f2:(wh.alloc (.cells #[] 2)).cell? ⟨wr.heap.size,2,none⟩=some (.slice ak m ck):=(V.out.1.more _).cell 2 rfl
   have hbe:Below wh.heap.size wh (wh.alloc (.cells #[] 2)):=(Below.refl _ _).alloc nlr _
   have Ha:Hid (IRow wh.heap.size (wh.alloc (.cells #[] 2)) (.slice (some ⟨wh.heap.size,0,none⟩) 0 0) []∧IntsAt (wh.alloc (.cells #[] 2)) ak l∧wh.heap.size≤(wh.alloc (.cells #[] 2)).heap.size∧Boxed (wh.alloc (.cells #[] 2)) wr.heap.size #[.int .i64 t,.int .i64 u,.slice ak m ck] 109∧Below wr.heap.size wr (wh.alloc (.cells #[] 2))∧wr.heap.size<wh.heap.size) :=
    ⟨irow_built wh wh.heap.size nlr,(Hr.out.below V.out.2).alloc _,by simp,V.out.1.more _,V.out.2.trans (hbe.mono V.out.2.size),V.out.1.under⟩
   clear hbe
   go_upto_region 7 with (refine int_row_app rfl (.tmp 21) (.tmp 23) rfl wh.heap.size (.slice (some ⟨wh.heap.size,0,none⟩) 0 0) [] ak m ck l Hml.out rfl rfl Ha.out.1 Ha.out.2.1 hnil (by rw [Hml.out];simp;omega) Ha.out.2.2.1 ?_;intro uv w2 q1 q2 q3 q4;have q5:IRow wh.heap.size w2 uv l:=(by simpa using q1);obtain ⟨ux,uc,eu⟩:=q5.shape;rw [Hml.out] at eu;subst eu;have bx:Boxed w2 wr.heap.size #[.int .i64 t,.int .i64 u,.slice ak m ck] 109:=Ha.out.2.2.2.1.below Ha.out.2.2.2.2.2 q2;have x2:=bx.cell 2 rfl;have x3:=bx.ice 2;have U:Hid (IRow wh.heap.size w2 (.slice ux m uc) l∧Below wr.heap.size wr w2∧Boxed w2 wr.heap.size #[.int .i64 t,.int .i64 u,.slice ak m ck] 109∧wr.heap.size<wh.heap.size):=⟨q5,Ha.out.2.2.2.2.1.trans (q2.mono (Nat.le_of_lt Ha.out.2.2.2.2.2)),bx,Ha.out.2.2.2.2.2⟩;clear q1 q2 q3 q4 q5 bx)
   have U3:Hid (IRow wr.heap.size (w2.setCell ⟨wr.heap.size,2,none⟩ (.slice ux m uc)) (.slice ux m uc) l∧Below wr.heap.size wr (w2.setCell ⟨wr.heap.size,2,none⟩ (.slice ux m uc))∧Boxed (w2.setCell ⟨wr.heap.size,2,none⟩ (.slice ux m uc)) wr.heap.size #[.int .i64 t,.int .i64 u,.slice ux m uc] 109):=by
    have hl:=U.out.2.2.2
    refine ⟨(U.out.1.carry fun y hy _=>Below.heap_setCell _ _ _ _ (by show y≠wr.heap.size;omega)).mono (Nat.le_of_lt hl),U.out.2.1.setCell nlr _,U.out.2.2.1.put 2 _⟩
   clear x2 x3 U Ha V f2
   generalize w2.setCell ⟨wr.heap.size,2,none⟩ (.slice ux m uc)=w3 at U3 ⊢
   have g1:w3.cell? ⟨w.heap.size+1+1,1,none⟩=some v:=(H1.out.out.below l2 U3.out.2.1).cell 1 rfl
   have hn3:Below w3.heap.size w3 (w3.alloc (.cells #[.int .i64 t,.int .i64 u,.slice ux m uc] 109)):=(Below.refl _ _).alloc nlr _
   have Y:Hid ((w3.alloc (.cells #[.int .i64 t,.int .i64 u,.slice ux m uc] 109)).ownsRow (w.heap.size+3) 109 3 v k (fwcells rs)∧Boxed (w3.alloc (.cells #[.int .i64 t,.int .i64 u,.slice ux m uc] 109)) w3.heap.size #[.int .i64 t,.int .i64 u,.slice ux m uc] 109∧w.heap.size+3≤(w3.alloc (.cells #[.int .i64 t,.int .i64 u,.slice ux m uc] 109)).heap.size∧Below wr.heap.size wr (w3.alloc (.cells #[.int .i64 t,.int .i64 u,.slice ux m uc] 109))∧IRow wr.heap.size (w3.alloc (.cells #[.int .i64 t,.int .i64 u,.slice ux m uc] 109)) (.slice ux m uc) l∧Boxed (w3.alloc (.cells #[.int .i64 t,.int .i64 u,.slice ux m uc] 109)) (w.heap.size+1+1) #[.int .i64 f,v] 48):=by
    have o:=U3.out.2.1.trans (hn3.mono U3.out.2.1.size)
    exact ⟨fwrows_carry Out.out.1 (fun y _ hy=>o.block y hy),Boxed.new _ _ _,Nat.le_trans Out.out.2 o.size,o,U3.out.1.alloc _,H1.out.out.below l2 o⟩
   clear hn3
   obtain ⟨vx,vc,evv⟩:=fwrows_shape Out.out.1
   subst evv
   go_wp2_with (first|(refine wpList_load_row rfl 109 (.tmp 5) rfl wr.heap.size rfl _ _ _ _ U3.out.2.2 Tryz.underlying109 rfl (by kernel_rfl) ?_)|(refine fw_row_one rfl (.tmp 27) (.tmp 29) rfl (w.heap.size+3) (.slice vx k vc) k rs ⟨t,u,.slice ux m uc⟩ rfl rfl Y.out.1 rfl Y.out.2.1 (by omega) Y.out.2.2.1 ?_;intro v' w4 q1 q2 q3;obtain ⟨wx',wc',ev'⟩:=fwrows_shape q1;subst ev';have R3:Hid _:=Add.out _ _ _ _ Y.out.2.2.2.1 Y.out.2.2.2.2.1 q1 q3 q2;have o4:Boxed w4 (w.heap.size+1+1) #[.int .i64 f,.slice vx k vc] 48:=Y.out.2.2.2.2.2.below (by omega) q2;have x4:=o4.cell 1 rfl;have x5:=o4.ice 1;clear q1 q2 q3 o4))
   go_roundw
   case rel=>exact ⟨k+1,by omega,by go_num,_,_,R3.out⟩
   case measure=>simp [intOf];omega
  ·obtain rfl:k=n:=by omega
   have e:ls.take k=ls:=List.take_of_length_le (by rw [Hn.out];exact Nat.le_refl _)
   have HG:Hid (FwG (w.heap.size+3) v rs ls wr):=by have:=H1.out.g;rw [e] at this;exact this
   obtain ⟨vx,vc,ev⟩:=fwrows_shape H1.out.g.outer
   clear e
   subst ev
   go_wp2_with (first|(refine wpList_load_row rfl 48 (.tmp 3) rfl (w.heap.size+1+1) rfl _ _ _ _ H1.out.out Tryz.underlying48 rfl (by kernel_rfl) ?_)|(refine wpList_store_row rfl 48 (.tmp 2) (.tmp 32) rfl (w.heap.size+1) _ rfl rfl _ _ H1.out.res (by kernel_rfl) rfl (by simp [Value.oneCell']) ?_))
   refine bodyPost_ret (results_cell_row Tryz.results90 _ _ (w.heap.size+1) _ _ _ _ rfl (setRow_heap _ (w.heap.size+1) _ _ _ _ H1.out.res) Tryz.underlying48 rfl (by kernel_rfl)) rfl ⟨⟨_,rs,rfl,HG.out.other fun y hy _=>setRow_other _ _ _ _ (by omega)⟩,below_setRow H1.out.bel (by omega) _⟩
theorem rt_app_run (w:World) (ty:TypeId) (base:Nat) (v:Value) (L:List Rt) (a0:Option Addr) (c:Nat) (M:List Rt) (h:RtRow base w v L) (hM:RtsAt w a0 M) (hn:a0=none→c=0) (hl:L.length+M.length≤2097152) (hb:base≤w.heap.size) :
 ∃ v' w',(Builtin.append_ #[39,39] ty #[v,.slice a0 M.length c]).run Tryz.prog w = .ok v' w'∧RtRow base w' v' (L++M)∧Below base w w'∧w.grownBy w' v.ownBlock∧(v' = .slice none 0 0→v = .slice none 0 0):=by
 obtain ⟨i0,hi0,hz0,hz1,hz2⟩:=info_parts rtInfo
 cases a0 with
 |none =>
  obtain rfl:=hM.empty
  obtain rfl:=hn rfl
  refine ⟨v,w,run_append_owned_none (P:=Tryz.prog) (w:=w) base 39 ty 148 i0 3 Tryz.underlying39 hi0 v _ _ h,by simpa using h,Below.refl _ _,⟨rfl,rfl,rfl,nlr,fun _ _ _=>rfl⟩,id⟩
 |some ad =>
  obtain ⟨v',w',h1,h2,h3,h4⟩:=run_append_own (P:=Tryz.prog) w base 39 ty 148 i0 (.agg #[.int .i64 0,.int .i64 0,.int .i64 0]) 3 24 Tryz.underlying39 hi0 hz0 hz1 hz2 rfl (by decide) v _ _ h ad M.length c (rtcells M) (rtcells_length M)
   (by
    intro j u hj
    have hj':j<M.length*3:=by
     have:=(List.getElem?_eq_some_iff.1 hj).1
     rwa [rtcells_length] at this
    obtain ⟨k,i,rfl,hi⟩:∃ k i,j=k*3+i∧i<3:=⟨j/3,j%3,by omega,Nat.mod_lt _ (by omega)⟩
    have hk:k<M.length:=by omega
    obtain ⟨b,off,e,_,c0,c1,c2⟩:=hM k hk
    cases e
    obtain ⟨e0,e1,e2⟩:=rtcells_get M k hk
    rw [show (⟨b,off,none⟩:Addr).add (k*3+i)=⟨b,off+k*3+i,none⟩ by by_cases h0:k*3+i=0<;>simp [Addr.add,h0,Nat.add_assoc];omega]
    match i,hi with
    |0,_=>rw [Nat.add_zero] at hj;rw [e0] at hj;rw [Nat.add_zero,c0];exact hj
    |1,_=>rw [e1] at hj;rw [c1];exact hj
    |2,_=>rw [e2] at hj;rw [c2];exact hj)
   (rtcells_one M) (by unfold maxLen;omega) (by omega) hb
  refine ⟨v',w',h1,?_,(Below.refl base w).grown h3 hb (fun k hk=>(h.lt k hk).1),h3,fun e=>(h4.1 e).1⟩
  unfold RtRow
  rw [List.length_append,rtcells_append]
  exact h2
theorem rt_app {ops:Array Oper} {rest:List Oper} {o:Oper} {a:Act} {Q:Exit→Act→World→Prop} {w:World} (hgd:o.guard=none) (s x:Operand)
 (ho:o.op = .call { callee:=.builtin .append,args:=#[s,x],argTypes:=#[39,39] })
 (base:Nat) (v:Value) (L:List Rt) (a0:Option Addr) (m c:Nat) (M:List Rt) (hm:M.length=m) (hs:a.eval s=v) (hx:a.eval x = .slice a0 m c) (hr:RtRow base w v L) (hM:RtsAt w a0 M) (hn:a0=none→c=0)
 (hl:L.length+M.length≤2097152) (hb:base≤w.heap.size)
 (h:∀ v' w',RtRow base w' v' (L++M)→Below base w w'→w.grownBy w' v.ownBlock→(v' = .slice none 0 0→v = .slice none 0 0)→wpList Tryz.prog ops Q rest (a.put o.dst v') w') :
 wpList Tryz.prog ops Q (o :: rest) a w:=by
 subst hm
 obtain ⟨v',w',hrun,h1,h2,h3,h4⟩:=rt_app_run w o.type base v L a0 c M hr hM hn hl hb
 refine wpList_plain hgd fun _ hK=>?_
 unfold Oper.wp
 simp [execOp,ho,resolve,invoke,builtin,hs,hx,hrun,Result.andThen]
 exact hK _ _ (h v' w' h1 h2 h3 h4)
theorem rt_built (w:World) (base:Nat) (hb:base≤w.heap.size):RtRow base (w.alloc (.cells #[] 148)) (.slice (some ⟨w.heap.size,0,none⟩) 0 0) [] :=
 World.ownsRow_lit (size:=3) w #[] 0 hb (by unfold maxLen;omega) rfl
theorem ru_app_run (w:World) (ty:TypeId) (base:Nat) (v:Value) (L:List Ru) (a0:Option Addr) (c:Nat) (M:List Ru) (h:RuRow base w v L) (hM:RusAt w a0 M) (hn:a0=none→c=0) (hl:L.length+M.length≤2097152) (hb:base≤w.heap.size) :
 ∃ v' w',(Builtin.append_ #[40,40] ty #[v,.slice a0 M.length c]).run Tryz.prog w = .ok v' w'∧RuRow base w' v' (L++M)∧Below base w w'∧w.grownBy w' v.ownBlock∧(v' = .slice none 0 0→v = .slice none 0 0):=by
 obtain ⟨i0,hi0,hz0,hz1,hz2⟩:=info_parts ruInfo
 cases a0 with
 |none =>
  obtain rfl:=hM.empty
  obtain rfl:=hn rfl
  refine ⟨v,w,run_append_owned_none (P:=Tryz.prog) (w:=w) base 40 ty 152 i0 10 Tryz.underlying40 hi0 v _ _ h,by simpa using h,Below.refl _ _,⟨rfl,rfl,rfl,nlr,fun _ _ _=>rfl⟩,id⟩
 |some ad =>
  obtain ⟨v',w',h1,h2,h3,h4⟩:=run_append_own (P:=Tryz.prog) w base 40 ty 152 i0 (.agg #[.int .i64 0,.int .i64 0,.int .i64 0,.int .i64 0,.int .i64 0,.int .i64 0,.int .i64 0,.int .i64 0,.int .i64 0,.int .i64 0]) 10 80 Tryz.underlying40 hi0 hz0 hz1 hz2 rfl (by decide) v _ _ h ad M.length c (rucells M) (rucells_length M)
   (by
    intro j u hj
    have hj':j<M.length*10:=by
     have:=(List.getElem?_eq_some_iff.1 hj).1
     rwa [rucells_length] at this
    obtain ⟨k,i,rfl,hi⟩:∃ k i,j=k*10+i∧i<10:=⟨j/10,j%10,by omega,Nat.mod_lt _ (by omega)⟩
    have hk:k<M.length:=by omega
    obtain ⟨b,off,e,_,c0,c1,c2,c3,c4,c5,c6,c7,c8,c9⟩:=hM k hk
    cases e
    obtain ⟨e0,e1,e2,e3,e4,e5,e6,e7,e8,e9⟩:=rucells_get M k hk
    rw [show (⟨b,off,none⟩:Addr).add (k*10+i)=⟨b,off+k*10+i,none⟩ by by_cases h0:k*10+i=0<;>simp [Addr.add,h0,Nat.add_assoc];omega]
    match i,hi with
    |0,_=>rw [Nat.add_zero] at hj;rw [e0] at hj;rw [Nat.add_zero,c0];exact hj
    |1,_=>rw [e1] at hj;rw [c1];exact hj
    |2,_=>rw [e2] at hj;rw [c2];exact hj
    |3,_=>rw [e3] at hj;rw [c3];exact hj
    |4,_=>rw [e4] at hj;rw [c4];exact hj
    |5,_=>rw [e5] at hj;rw [c5];exact hj
    |6,_=>rw [e6] at hj;rw [c6];exact hj
    |7,_=>rw [e7] at hj;rw [c7];exact hj
    |8,_=>rw [e8] at hj;rw [c8];exact hj
    |9,_=>rw [e9] at hj;rw [c9];exact hj)
   (rucells_one M) (by unfold maxLen;omega) (by omega) hb
  refine ⟨v',w',h1,?_,(Below.refl base w).grown h3 hb (fun k hk=>(h.lt k hk).1),h3,fun e=>(h4.1 e).1⟩
  unfold RuRow
  rw [List.length_append,rucells_append]
  exact h2
theorem ru_app {ops:Array Oper} {rest:List Oper} {o:Oper} {a:Act} {Q:Exit→Act→World→Prop} {w:World} (hgd:o.guard=none) (s x:Operand)
 (ho:o.op = .call { callee:=.builtin .append,args:=#[s,x],argTypes:=#[40,40] })
 (base:Nat) (v:Value) (L:List Ru) (a0:Option Addr) (m c:Nat) (M:List Ru) (hm:M.length=m) (hs:a.eval s=v) (hx:a.eval x = .slice a0 m c) (hr:RuRow base w v L) (hM:RusAt w a0 M) (hn:a0=none→c=0)
 (hl:L.length+M.length≤2097152) (hb:base≤w.heap.size)
 (h:∀ v' w',RuRow base w' v' (L++M)→Below base w w'→w.grownBy w' v.ownBlock→(v' = .slice none 0 0→v = .slice none 0 0)→wpList Tryz.prog ops Q rest (a.put o.dst v') w') :
 wpList Tryz.prog ops Q (o :: rest) a w:=by
 subst hm
 obtain ⟨v',w',hrun,h1,h2,h3,h4⟩:=ru_app_run w o.type base v L a0 c M hr hM hn hl hb
 refine wpList_plain hgd fun _ hK=>?_
 unfold Oper.wp
 simp [execOp,ho,resolve,invoke,builtin,hs,hx,hrun,Result.andThen]
 exact hK _ _ (h v' w' h1 h2 h3 h4)
theorem ru_built (w:World) (base:Nat) (hb:base≤w.heap.size):RuRow base (w.alloc (.cells #[] 152)) (.slice (some ⟨w.heap.size,0,none⟩) 0 0) [] :=
 World.ownsRow_lit (size:=10) w #[] 0 hb (by unfold maxLen;omega) rfl
theorem nd_app_run (w:World) (ty:TypeId) (base:Nat) (v:Value) (L:List Nd) (a0:Option Addr) (c:Nat) (M:List Nd) (h:NdRow base w v L) (hM:NdsAt w a0 M) (hn:a0=none→c=0) (hl:L.length+M.length≤2097152) (hb:base≤w.heap.size) :
 ∃ v' w',(Builtin.append_ #[41,41] ty #[v,.slice a0 M.length c]).run Tryz.prog w = .ok v' w'∧NdRow base w' v' (L++M)∧Below base w w'∧w.grownBy w' v.ownBlock∧(v' = .slice none 0 0→v = .slice none 0 0):=by
 obtain ⟨i0,hi0,hz0,hz1,hz2⟩:=info_parts ndInfo
 cases a0 with
 |none =>
  obtain rfl:=hM.empty
  obtain rfl:=hn rfl
  refine ⟨v,w,run_append_owned_none (P:=Tryz.prog) (w:=w) base 41 ty 77 i0 5 Tryz.underlying41 hi0 v _ _ h,by simpa using h,Below.refl _ _,⟨rfl,rfl,rfl,nlr,fun _ _ _=>rfl⟩,id⟩
 |some ad =>
  obtain ⟨v',w',h1,h2,h3,h4⟩:=run_append_own (P:=Tryz.prog) w base 41 ty 77 i0 (.agg #[.int .i64 0,.int .i64 0,.int .i64 0,.int .i64 0,.int .i64 0]) 5 40 Tryz.underlying41 hi0 hz0 hz1 hz2 rfl (by decide) v _ _ h ad M.length c (ndcells M) (ndcells_length M)
   (by
    intro j u hj
    have hj':j<M.length*5:=by
     have:=(List.getElem?_eq_some_iff.1 hj).1
     rwa [ndcells_length] at this
    obtain ⟨k,i,rfl,hi⟩:∃ k i,j=k*5+i∧i<5:=⟨j/5,j%5,by omega,Nat.mod_lt _ (by omega)⟩
    have hk:k<M.length:=by omega
    obtain ⟨b,off,e,_,c0,c1,c2,c3,c4⟩:=hM k hk
    cases e
    obtain ⟨e0,e1,e2,e3,e4⟩:=ndcells_get M k hk
    rw [show (⟨b,off,none⟩:Addr).add (k*5+i)=⟨b,off+k*5+i,none⟩ by by_cases h0:k*5+i=0<;>simp [Addr.add,h0,Nat.add_assoc];omega]
    match i,hi with
    |0,_=>rw [Nat.add_zero] at hj;rw [e0] at hj;rw [Nat.add_zero,c0];exact hj
    |1,_=>rw [e1] at hj;rw [c1];exact hj
    |2,_=>rw [e2] at hj;rw [c2];exact hj
    |3,_=>rw [e3] at hj;rw [c3];exact hj
    |4,_=>rw [e4] at hj;rw [c4];exact hj)
   (ndcells_one M) (by unfold maxLen;omega) (by omega) hb
  refine ⟨v',w',h1,?_,(Below.refl base w).grown h3 hb (fun k hk=>(h.lt k hk).1),h3,fun e=>(h4.1 e).1⟩
  unfold NdRow
  rw [List.length_append,ndcells_append]
  exact h2
theorem nd_app {ops:Array Oper} {rest:List Oper} {o:Oper} {a:Act} {Q:Exit→Act→World→Prop} {w:World} (hgd:o.guard=none) (s x:Operand)
 (ho:o.op = .call { callee:=.builtin .append,args:=#[s,x],argTypes:=#[41,41] })
 (base:Nat) (v:Value) (L:List Nd) (a0:Option Addr) (m c:Nat) (M:List Nd) (hm:M.length=m) (hs:a.eval s=v) (hx:a.eval x = .slice a0 m c) (hr:NdRow base w v L) (hM:NdsAt w a0 M) (hn:a0=none→c=0)
 (hl:L.length+M.length≤2097152) (hb:base≤w.heap.size)
 (h:∀ v' w',NdRow base w' v' (L++M)→Below base w w'→w.grownBy w' v.ownBlock→(v' = .slice none 0 0→v = .slice none 0 0)→wpList Tryz.prog ops Q rest (a.put o.dst v') w') :
 wpList Tryz.prog ops Q (o :: rest) a w:=by
 subst hm
 obtain ⟨v',w',hrun,h1,h2,h3,h4⟩:=nd_app_run w o.type base v L a0 c M hr hM hn hl hb
 refine wpList_plain hgd fun _ hK=>?_
 unfold Oper.wp
 simp [execOp,ho,resolve,invoke,builtin,hs,hx,hrun,Result.andThen]
 exact hK _ _ (h v' w' h1 h2 h3 h4)
theorem nd_built (w:World) (base:Nat) (hb:base≤w.heap.size):NdRow base (w.alloc (.cells #[] 77)) (.slice (some ⟨w.heap.size,0,none⟩) 0 0) [] :=
 World.ownsRow_lit (size:=5) w #[] 0 hb (by unfold maxLen;omega) rfl
theorem NdRow.some {base:Nat} {w:World} {v:Value} {l:List Nd} (h:NdRow base w v l) (hv:v ≠ .slice .none 0 0):∃ g cap,v = .slice (.some ⟨g,0,.none⟩) l.length cap:=by
 rcases h.2 with ⟨e,_⟩|⟨g,cap,cur,e,_⟩
 ·exact absurd e hv
 ·exact ⟨g,cap,e⟩
theorem sr_app_run (w:World) (ty:TypeId) (base:Nat) (v:Value) (L:List Sr) (a0:Option Addr) (c:Nat) (M:List Sr) (h:SrRow base w v L) (hM:SrsAt w a0 M) (hn:a0=none→c=0) (hl:L.length+M.length≤2097152) (hb:base≤w.heap.size) :
 ∃ v' w',(Builtin.append_ #[45,45] ty #[v,.slice a0 M.length c]).run Tryz.prog w = .ok v' w'∧SrRow base w' v' (L++M)∧Below base w w'∧w.grownBy w' v.ownBlock∧(v' = .slice none 0 0→v = .slice none 0 0):=by
 obtain ⟨i0,hi0,hz0,hz1,hz2⟩:=info_parts srInfo
 cases a0 with
 |none =>
  obtain rfl:=hM.empty
  obtain rfl:=hn rfl
  refine ⟨v,w,run_append_owned_none (P:=Tryz.prog) (w:=w) base 45 ty 143 i0 3 Tryz.underlying45 hi0 v _ _ h,by simpa using h,Below.refl _ _,⟨rfl,rfl,rfl,nlr,fun _ _ _=>rfl⟩,id⟩
 |some ad =>
  obtain ⟨v',w',h1,h2,h3,h4⟩:=run_append_own (P:=Tryz.prog) w base 45 ty 143 i0 (.agg #[.int .i64 0,.int .i64 0,.int .i64 0]) 3 24 Tryz.underlying45 hi0 hz0 hz1 hz2 rfl (by decide) v _ _ h ad M.length c (srcells M) (srcells_length M)
   (by
    intro j u hj
    have hj':j<M.length*3:=by
     have:=(List.getElem?_eq_some_iff.1 hj).1
     rwa [srcells_length] at this
    obtain ⟨k,i,rfl,hi⟩:∃ k i,j=k*3+i∧i<3:=⟨j/3,j%3,by omega,Nat.mod_lt _ (by omega)⟩
    have hk:k<M.length:=by omega
    obtain ⟨b,off,e,_,c0,c1,c2⟩:=hM k hk
    cases e
    obtain ⟨e0,e1,e2⟩:=srcells_get M k hk
    rw [show (⟨b,off,none⟩:Addr).add (k*3+i)=⟨b,off+k*3+i,none⟩ by by_cases h0:k*3+i=0<;>simp [Addr.add,h0,Nat.add_assoc];omega]
    match i,hi with
    |0,_=>rw [Nat.add_zero] at hj;rw [e0] at hj;rw [Nat.add_zero,c0];exact hj
    |1,_=>rw [e1] at hj;rw [c1];exact hj
    |2,_=>rw [e2] at hj;rw [c2];exact hj)
   (srcells_one M) (by unfold maxLen;omega) (by omega) hb
  refine ⟨v',w',h1,?_,(Below.refl base w).grown h3 hb (fun k hk=>(h.lt k hk).1),h3,fun e=>(h4.1 e).1⟩
  unfold SrRow
  rw [List.length_append,srcells_append]
  exact h2
theorem sr_app {ops:Array Oper} {rest:List Oper} {o:Oper} {a:Act} {Q:Exit→Act→World→Prop} {w:World} (hgd:o.guard=none) (s x:Operand)
 (ho:o.op = .call { callee:=.builtin .append,args:=#[s,x],argTypes:=#[45,45] })
 (base:Nat) (v:Value) (L:List Sr) (a0:Option Addr) (m c:Nat) (M:List Sr) (hm:M.length=m) (hs:a.eval s=v) (hx:a.eval x = .slice a0 m c) (hr:SrRow base w v L) (hM:SrsAt w a0 M) (hn:a0=none→c=0)
 (hl:L.length+M.length≤2097152) (hb:base≤w.heap.size)
 (h:∀ v' w',SrRow base w' v' (L++M)→Below base w w'→w.grownBy w' v.ownBlock→(v' = .slice none 0 0→v = .slice none 0 0)→wpList Tryz.prog ops Q rest (a.put o.dst v') w') :
 wpList Tryz.prog ops Q (o :: rest) a w:=by
 subst hm
 obtain ⟨v',w',hrun,h1,h2,h3,h4⟩:=sr_app_run w o.type base v L a0 c M hr hM hn hl hb
 refine wpList_plain hgd fun _ hK=>?_
 unfold Oper.wp
 simp [execOp,ho,resolve,invoke,builtin,hs,hx,hrun,Result.andThen]
 exact hK _ _ (h v' w' h1 h2 h3 h4)
theorem sr_built (w:World) (base:Nat) (hb:base≤w.heap.size):SrRow base (w.alloc (.cells #[] 143)) (.slice (some ⟨w.heap.size,0,none⟩) 0 0) [] :=
 World.ownsRow_lit (size:=3) w #[] 0 hb (by unfold maxLen;omega) rfl
theorem specCopyG (g:Gt) (x:Ga) (w:World) (hB:g.big≤1048576) (hG:Hid (GtV w x g)) :
 Calls Tryz.prog 32 #[g.val x] w fun e w'=>(∃ x' vs rs,e = .returned (g.val x')∧GtO w.heap.size w' x' vs rs g)∧Below w.heap.size w w':=by
 obtain ⟨z1,z2,z3,z4,z5,z6,z7⟩:=Gt.small hB
 obtain ⟨n1,hn1⟩:∃ n,g.routes.length=n:=⟨_,rfl⟩
 obtain ⟨n2,hn2⟩:∃ n,g.rules.length=n:=⟨_,rfl⟩
 obtain ⟨n3,hn3⟩:∃ n,g.tree.length=n:=⟨_,rfl⟩
 obtain ⟨n4,hn4⟩:∃ n,g.leaves.length=n:=⟨_,rfl⟩
 obtain ⟨n5,hn5⟩:∃ n,g.rows.lists.length=n:=⟨_,rfl⟩
 obtain ⟨n6,hn6⟩:∃ n,g.steers.length=n:=⟨_,rfl⟩
 obtain ⟨n7,hn7⟩:∃ n,g.fair.flows.length=n:=⟨_,rfl⟩
 obtain ⟨kd,hkd⟩:∃ n,g.ln.kind=n:=⟨_,rfl⟩
 obtain ⟨ex,hex⟩:∃ n,g.ln.extra=n:=⟨_,rfl⟩
 obtain ⟨le,hle⟩:∃ n,g.ln.least=n:=⟨_,rfl⟩
 obtain ⟨mo,hmo⟩:∃ n,g.rows.most=n:=⟨_,rfl⟩
 obtain ⟨nw,hnw⟩:∃ n,g.fair.now=n:=⟨_,rfl⟩
 obtain ⟨nx,hnx⟩:∃ n,g.next=n:=⟨_,rfl⟩
 obtain ⟨dr,hdr⟩:∃ n,g.draw=n:=⟨_,rfl⟩
 have M5:Hid (∀ (W:World),GtV W x g→Calls Tryz.prog 89 #[.agg #[.int .i64 mo,.slice x.a5 n5 x.c5]] W fun e w'=>(∃ y d vs5,e = .returned (.agg #[.int .i64 mo,.slice y n5 d])∧IzG W.heap.size (.slice y n5 d) vs5 g.rows.lists w')∧Below W.heap.size W w'):=fun W h=>by
  have e1:∀ a c,g.rows.val a c = .agg #[.int .i64 mo,.slice a n5 c]:=fun a c=>by { unfold Rw.val;rw [hn5,hmo] }
  rw [← e1]
  refine (specCopy g.rows x.a5 x.c5 W z5 h.rows.spot).mono fun e w' hh=>?_
  obtain ⟨⟨v,vs,rfl,r⟩,q⟩:=hh
  obtain ⟨y,d,e⟩:=r.shape
  subst e
  refine ⟨⟨y,d,vs,?_,?_⟩,q⟩
  ·rw [hn5,hmo]
  ·rw [← hn5];exact r.mono (by omega)
 have M7:Hid (∀ (W:World),GtV W x g→Calls Tryz.prog 90 #[.agg #[.int .i64 nw,.slice x.a7 n7 x.c7]] W fun e w'=>(∃ y d rs7,e = .returned (.agg #[.int .i64 nw,.slice y n7 d])∧FwG W.heap.size (.slice y n7 d) rs7 g.fair.flows w')∧Below W.heap.size W w'):=fun W h=>by
  have e1:∀ a c,g.fair.val a c = .agg #[.int .i64 nw,.slice a n7 c]:=fun a c=>by { unfold Fs.val;rw [hn7,hnw] }
  rw [← e1]
  refine (specCopyF g.fair x.a7 x.c7 W z7 h.fair.spot).mono fun e w' hh=>?_
  obtain ⟨⟨v,vs,rfl,r⟩,q⟩:=hh
  obtain ⟨y,d,e⟩:=r.shape
  subst e
  refine ⟨⟨y,d,vs,?_,?_⟩,q⟩
  ·rw [hn7,hnw]
  ·rw [← hn7];exact r.mono (by omega)
 have HV:Hid (∀ x:Ga,g.val x = .agg (gc kd ex le (.slice x.a1 n1 x.c1) (.slice x.a2 n2 x.c2) (.slice x.a3 n3 x.c3) (.slice x.a4 n4 x.c4) mo (.slice x.a5 n5 x.c5) (.slice x.a6 n6 x.c6) nw (.slice x.a7 n7 x.c7) nx dr)):=fun x=>by
  show Gt.val g x=_
  rw [← hn1,← hn2,← hn3,← hn4,← hn5,← hn6,← hn7,← hkd,← hex,← hle,← hmo,← hnw,← hnx,← hdr]
  rfl
 have V1:Hid (∀ (b:Nat) (w:World) (y:Option Addr) (d:Nat),RtRow b w (.slice y n1 d) g.routes→RtRow b w (.slice y g.routes.length d) g.routes):=fun b w y d h=>by
  have e1:(Value.slice y g.routes.length d) = .slice y n1 d:=by rw [hn1]
  rw [e1]
  exact h
 have V2:Hid (∀ (b:Nat) (w:World) (y:Option Addr) (d:Nat),RuRow b w (.slice y n2 d) g.rules→RuRow b w (.slice y g.rules.length d) g.rules):=fun b w y d h=>by
  have e1:(Value.slice y g.rules.length d) = .slice y n2 d:=by rw [hn2]
  rw [e1]
  exact h
 have V3:Hid (∀ (b:Nat) (w:World) (y:Option Addr) (d:Nat),NdRow b w (.slice y n3 d) g.tree→NdRow b w (.slice y g.tree.length d) g.tree):=fun b w y d h=>by
  have e1:(Value.slice y g.tree.length d) = .slice y n3 d:=by rw [hn3]
  rw [e1]
  exact h
 have V4:Hid (∀ (b:Nat) (w:World) (y:Option Addr) (d:Nat),IRow b w (.slice y n4 d) g.leaves→IRow b w (.slice y g.leaves.length d) g.leaves):=fun b w y d h=>by
  have e1:(Value.slice y g.leaves.length d) = .slice y n4 d:=by rw [hn4]
  rw [e1]
  exact h
 have V5:Hid (∀ (b:Nat) (w:World) (y:Option Addr) (d:Nat) (vs5:List Value),IzG b (.slice y n5 d) vs5 g.rows.lists w→IzG b (.slice y g.rows.lists.length d) vs5 g.rows.lists w):=fun b w y d _ h=>by
  have e1:(Value.slice y g.rows.lists.length d) = .slice y n5 d:=by rw [hn5]
  rw [e1]
  exact h
 have V6:Hid (∀ (b:Nat) (w:World) (y:Option Addr) (d:Nat),SrRow b w (.slice y n6 d) g.steers→SrRow b w (.slice y g.steers.length d) g.steers):=fun b w y d h=>by
  have e1:(Value.slice y g.steers.length d) = .slice y n6 d:=by rw [hn6]
  rw [e1]
  exact h
 have V7:Hid (∀ (b:Nat) (w:World) (y:Option Addr) (d:Nat) (rs7:List Fwr),FwG b (.slice y n7 d) rs7 g.fair.flows w→FwG b (.slice y g.fair.flows.length d) rs7 g.fair.flows w):=fun b w y d _ h=>by
  have e1:(Value.slice y g.fair.flows.length d) = .slice y n7 d:=by rw [hn7]
  rw [e1]
  exact h
 have L1:Hid (g.routes.length=n1∧n1≤1048576∧(x.a1=none→x.c1=0)):=⟨hn1,by omega,by obtain ⟨a',c',e,_,_,k⟩:=hG.out.routes;cases e;exact k⟩
 have L2:Hid (g.rules.length=n2∧n2≤1048576∧(x.a2=none→x.c2=0)):=⟨hn2,by omega,by obtain ⟨a',c',e,_,_,k⟩:=hG.out.rules;cases e;exact k⟩
 have L3:Hid (g.tree.length=n3∧n3≤1048576∧(x.a3=none→x.c3=0)):=⟨hn3,by omega,by obtain ⟨a',c',e,_,_,k⟩:=hG.out.tree;cases e;exact k⟩
 have L4:Hid (g.leaves.length=n4∧n4≤1048576∧(x.a4=none→x.c4=0)):=⟨hn4,by omega,by obtain ⟨a',c',e,_,_,k⟩:=hG.out.leaves;cases e;exact k⟩
 have L6:Hid (g.steers.length=n6∧n6≤1048576∧(x.a6=none→x.c6=0)):=⟨hn6,by omega,by obtain ⟨a',c',e,_,_,k⟩:=hG.out.steers;cases e;exact k⟩
 rw [HV.out]
 clear hB z1 z2 z3 z4 z5 z6 z7 hn1 hn2 hn3 hn4 hn5 hn6 hn7 hkd hex hle hmo hnw hnx hdr
 obtain ⟨P,hP⟩:∃ A,A=w.heap.size:=⟨_,rfl⟩
 obtain ⟨R,hR⟩:∃ A,A=w.heap.size+1:=⟨_,rfl⟩
 obtain ⟨O,hO⟩:∃ A,A=w.heap.size+1+1:=⟨_,rfl⟩
 obtain ⟨V0,hV⟩:∃ W,W=(w.alloc (.cells (gc kd ex le (.slice x.a1 n1 x.c1) (.slice x.a2 n2 x.c2) (.slice x.a3 n3 x.c3) (.slice x.a4 n4 x.c4) mo (.slice x.a5 n5 x.c5) (.slice x.a6 n6 x.c6) nw (.slice x.a7 n7 x.c7) nx dr) 50)).alloc (.cells gz 50):=⟨_,rfl⟩
 have HVS:Hid (V0.heap.size=O):=by show V0.heap.size=O;rw [hV,hO];simp
 have B0:Hid (Boxed V0 P (gc kd ex le (.slice x.a1 n1 x.c1) (.slice x.a2 n2 x.c2) (.slice x.a3 n3 x.c3) (.slice x.a4 n4 x.c4) mo (.slice x.a5 n5 x.c5) (.slice x.a6 n6 x.c6) nw (.slice x.a7 n7 x.c7) nx dr) 50∧Boxed (V0.alloc (.cells gz 50)) O gz 50):=by
  rw [hP]
  refine ⟨by rw [hV];exact (Boxed.new w _ _).more _,?_⟩
  have:=Boxed.new V0 gz 50
  rw [HVS.out] at this
  exact this
 have Z0:Hid (Lies w [Thing.box O (gc kd ex le (.slice x.a1 n1 x.c1) (.slice x.a2 n2 x.c2) (.slice x.a3 n3 x.c3) (.slice x.a4 n4 x.c4) mo (.slice x.a5 n5 x.c5) (.slice x.a6 n6 x.c6) nw (.slice x.a7 n7 x.c7) nx dr) 50,Thing.box P (gc kd ex le (.slice x.a1 n1 x.c1) (.slice x.a2 n2 x.c2) (.slice x.a3 n3 x.c3) (.slice x.a4 n4 x.c4) mo (.slice x.a5 n5 x.c5) (.slice x.a6 n6 x.c6) nw (.slice x.a7 n7 x.c7) nx dr) 50,Thing.box R gz 50] ((V0.alloc (.cells gz 50)).setRow O (gc kd ex le (.slice x.a1 n1 x.c1) (.slice x.a2 n2 x.c2) (.slice x.a3 n3 x.c3) (.slice x.a4 n4 x.c4) mo (.slice x.a5 n5 x.c5) (.slice x.a6 n6 x.c6) nw (.slice x.a7 n7 x.c7) nx dr))):=by
  have bV:Below w.heap.size w V0:=by rw [hV];exact ((Below.refl _ _).alloc nlr _).alloc (by simp) _
  have bX:Below V0.heap.size V0 ((V0.alloc (.cells gz 50)).setRow O (gc kd ex le (.slice x.a1 n1 x.c1) (.slice x.a2 n2 x.c2) (.slice x.a3 n3 x.c3) (.slice x.a4 n4 x.c4) mo (.slice x.a5 n5 x.c5) (.slice x.a6 n6 x.c6) nw (.slice x.a7 n7 x.c7) nx dr)):=below_setRow ((Below.refl _ _).alloc nlr _) (Nat.le_of_eq HVS.out) _
  refine ⟨⟨setRow_heap _ _ _ _ _ _ B0.out.2,?_,?_,trivial⟩,bV.trans (bX.mono bV.size)⟩
  ·exact B0.out.1.below B0.out.1.under bX
  ·have h2:Boxed V0 R gz 50:=by
    rw [hV,hR]
    have:=Boxed.new (w.alloc (.cells (gc kd ex le (.slice x.a1 n1 x.c1) (.slice x.a2 n2 x.c2) (.slice x.a3 n3 x.c3) (.slice x.a4 n4 x.c4) mo (.slice x.a5 n5 x.c5) (.slice x.a6 n6 x.c6) nw (.slice x.a7 n7 x.c7) nx dr) 50)) gz 50
    simpa using this
   exact h2.below h2.under bX
 have Or0:Hid (P=w.heap.size∧R=P+1∧O=P+2∧O+1≤((V0.alloc (.cells gz 50)).setRow O (gc kd ex le (.slice x.a1 n1 x.c1) (.slice x.a2 n2 x.c2) (.slice x.a3 n3 x.c3) (.slice x.a4 n4 x.c4) mo (.slice x.a5 n5 x.c5) (.slice x.a6 n6 x.c6) nw (.slice x.a7 n7 x.c7) nx dr)).heap.size):=⟨hP,by omega,by omega,by rw [size_setRow,← HVS.out];simp⟩
 have HW:Hid (V0=_):=hV
 have HP:Hid (P=_):=hP
 have HR:Hid (R=_):=hR
 have HO:Hid (O=_):=hO
 clear hV hP hR hO
 have K:Hid (∀ W,Below w.heap.size w W→GtV W x g):=fun W q=>hG.out.below q
 clear hG
 go_enter Tryz.func32,Tryz.ntmps32
 go_upto_region 1 with fail
 rw [← HW.out,← HR.out,← HP.out]
 clear HW HP HR HO
 go_upto_region 2 with (first|(refine wpList_load_row rfl 50 (.tmp 1) rfl P rfl _ _ _ _ B0.out.1 Tryz.underlying50 rfl (by kernel_rfl) ?_)|(refine wpList_store_row rfl 50 (.tmp 3) (.tmp 4) rfl O _ (by simp [Act.eval,HVS.out]) rfl _ _ B0.out.2 (by kernel_rfl) rfl (by simp [Value.oneCell']) ?_))
 simp only [Act.put]
 rw [HVS.out]
 generalize (V0.alloc (.cells gz 50)).setRow O (gc kd ex le (.slice x.a1 n1 x.c1) (.slice x.a2 n2 x.c2) (.slice x.a3 n3 x.c3) (.slice x.a4 n4 x.c4) mo (.slice x.a5 n5 x.c5) (.slice x.a6 n6 x.c6) nw (.slice x.a7 n7 x.c7) nx dr)=W0 at Z0 Or0 ⊢
 clear B0 HVS
 have c3:(W0.alloc (.cells #[] 148)).cell? ⟨P,3,none⟩=some (.slice x.a1 n1 x.c1):=Boxed.cell (show Boxed _ _ _ _ from (Z0.out.below ((Below.refl _ W0).alloc nlr _)).1.2.1) 3 rfl
 have E:Hid (RtRow W0.heap.size (W0.alloc (.cells #[] 148)) (.slice (some ⟨W0.heap.size,0,none⟩) 0 0) []∧RtsAt (W0.alloc (.cells #[] 148)) x.a1 g.routes):=⟨rt_built W0 _ nlr,(RtsV.spot' (K.out _ (Z0.out.2.trans ((Below.refl _ _).alloc Z0.out.2.size _))).routes)⟩
 go_upto_region 3 with (refine rt_app rfl (.tmp 5) (.tmp 7) rfl W0.heap.size (.slice (some ⟨W0.heap.size,0,none⟩) 0 0) [] x.a1 n1 x.c1 g.routes L1.out.1 rfl rfl E.out.1 E.out.2 L1.out.2.2 (by rw [L1.out.1];have:=L1.out.2.1;simp;omega) (by simp) ?_;intro v' U1 q1 q2 q3 q4;have q5:RtRow W0.heap.size U1 v' g.routes:=(by simpa using q1);obtain ⟨y1,d1,ev⟩:=q5.shape;rw [L1.out.1] at ev;subst ev;have q:Below W0.heap.size W0 U1:=((Below.refl _ W0).alloc nlr _).trans q2;have r:RtRow W0.heap.size U1 (.slice y1 n1 d1) g.routes:=q5;have e3:U1.cell? ⟨O,3,none⟩=some (.slice x.a1 n1 x.c1):=Boxed.cell (show Boxed _ _ _ _ from (Z0.out.below q).1.1) 3 rfl;have f3:U1.frozen? ⟨O,3,none⟩=false:=Boxed.ice (show Boxed _ _ _ _ from (Z0.out.below q).1.1) 3;have hOl:O<U1.heap.size:=Boxed.under (show Boxed _ _ _ _ from (Z0.out.below q).1.1);clear q1 q2 q3 q4 q5 E c3)
 obtain ⟨b1,hb1⟩:∃ b,b=W0.heap.size:=⟨_,rfl⟩
 obtain ⟨t1,ht1⟩:∃ b,b=U1.heap.size:=⟨_,rfl⟩
 have T1:Hid (Lies w [Thing.box O (gc kd ex le (.slice x.a1 n1 x.c1) (.slice x.a2 n2 x.c2) (.slice x.a3 n3 x.c3) (.slice x.a4 n4 x.c4) mo (.slice x.a5 n5 x.c5) (.slice x.a6 n6 x.c6) nw (.slice x.a7 n7 x.c7) nx dr) 50,Thing.box P (gc kd ex le (.slice x.a1 n1 x.c1) (.slice x.a2 n2 x.c2) (.slice x.a3 n3 x.c3) (.slice x.a4 n4 x.c4) mo (.slice x.a5 n5 x.c5) (.slice x.a6 n6 x.c6) nw (.slice x.a7 n7 x.c7) nx dr) 50,Thing.box R gz 50,Thing.was (fun W=>RtRow b1 W (.slice y1 n1 d1) g.routes) b1 t1] U1):=by rw [hb1,ht1];exact Z0.out.more q ⟨was_laid r,trivial⟩
 have Oa1:Hid (P=w.heap.size∧R=P+1∧O=P+2∧O+1≤b1∧b1≤t1∧t1≤U1.heap.size):=by
  have h:=Or0.out
  have h2:=q.size
  refine ⟨by omega,by omega,by omega,by omega,by omega,by omega⟩
 clear q r hb1 ht1 Z0 Or0
 have off:OffT O (O+1) [Thing.box P (gc kd ex le (.slice x.a1 n1 x.c1) (.slice x.a2 n2 x.c2) (.slice x.a3 n3 x.c3) (.slice x.a4 n4 x.c4) mo (.slice x.a5 n5 x.c5) (.slice x.a6 n6 x.c6) nw (.slice x.a7 n7 x.c7) nx dr) 50,Thing.box R gz 50,Thing.was (fun W=>RtRow b1 W (.slice y1 n1 d1) g.routes) b1 t1]:=⟨(by show _∨_;have:=Oa1.out;left;show P+1≤O;omega),(by show _∨_;have:=Oa1.out;left;show R+1≤O;omega),(by show _∨_;have:=Oa1.out;right;show O+1≤b1;omega),trivial⟩
 have S1_0:Lies w [Thing.box O (gc kd ex le (.slice y1 n1 d1) (.slice x.a2 n2 x.c2) (.slice x.a3 n3 x.c3) (.slice x.a4 n4 x.c4) mo (.slice x.a5 n5 x.c5) (.slice x.a6 n6 x.c6) nw (.slice x.a7 n7 x.c7) nx dr) 50,Thing.box P (gc kd ex le (.slice x.a1 n1 x.c1) (.slice x.a2 n2 x.c2) (.slice x.a3 n3 x.c3) (.slice x.a4 n4 x.c4) mo (.slice x.a5 n5 x.c5) (.slice x.a6 n6 x.c6) nw (.slice x.a7 n7 x.c7) nx dr) 50,Thing.box R gz 50,Thing.was (fun W=>RtRow b1 W (.slice y1 n1 d1) g.routes) b1 t1] (U1.setCell ⟨O,3,none⟩ (.slice y1 n1 d1)):=lies_cell T1.out 3 (.slice y1 n1 d1) rfl off (by have:=Oa1.out;omega)
 have Y1:Hid (Lies w [Thing.box O (gc kd ex le (.slice y1 n1 d1) (.slice x.a2 n2 x.c2) (.slice x.a3 n3 x.c3) (.slice x.a4 n4 x.c4) mo (.slice x.a5 n5 x.c5) (.slice x.a6 n6 x.c6) nw (.slice x.a7 n7 x.c7) nx dr) 50,Thing.box P (gc kd ex le (.slice x.a1 n1 x.c1) (.slice x.a2 n2 x.c2) (.slice x.a3 n3 x.c3) (.slice x.a4 n4 x.c4) mo (.slice x.a5 n5 x.c5) (.slice x.a6 n6 x.c6) nw (.slice x.a7 n7 x.c7) nx dr) 50,Thing.box R gz 50,Thing.was (fun W=>RtRow b1 W (.slice y1 n1 d1) g.routes) b1 t1] (U1.setCell ⟨O,3,none⟩ (.slice y1 n1 d1))):=S1_0
 clear off S1_0
 have sz:(U1.setCell ⟨O,3,none⟩ (.slice y1 n1 d1)).heap.size=U1.heap.size:=by simp [World.setCell]
 have Sz:Hid (_=_):=sz
 clear sz
 generalize (U1.setCell ⟨O,3,none⟩ (.slice y1 n1 d1))=X1 at Y1 Sz ⊢
 clear hOl e3 f3 T1
 have Ob1:Hid (P=w.heap.size∧R=P+1∧O=P+2∧O+1≤b1∧b1≤t1∧t1≤X1.heap.size):=by rw [Sz.out];exact Oa1.out
 clear Sz Oa1
 have c4:(X1.alloc (.cells #[] 152)).cell? ⟨P,4,none⟩=some (.slice x.a2 n2 x.c2):=Boxed.cell (show Boxed _ _ _ _ from (Y1.out.below ((Below.refl _ X1).alloc nlr _)).1.2.1) 4 rfl
 have E:Hid (RuRow X1.heap.size (X1.alloc (.cells #[] 152)) (.slice (some ⟨X1.heap.size,0,none⟩) 0 0) []∧RusAt (X1.alloc (.cells #[] 152)) x.a2 g.rules):=⟨ru_built X1 _ nlr,(RusV.spot' (K.out _ (Y1.out.2.trans ((Below.refl _ _).alloc Y1.out.2.size _))).rules)⟩
 go_upto_region 4 with (refine ru_app rfl (.tmp 10) (.tmp 12) rfl X1.heap.size (.slice (some ⟨X1.heap.size,0,none⟩) 0 0) [] x.a2 n2 x.c2 g.rules L2.out.1 rfl rfl E.out.1 E.out.2 L2.out.2.2 (by rw [L2.out.1];have:=L2.out.2.1;simp;omega) (by simp) ?_;intro v' U2 q1 q2 q3 q4;have q5:RuRow X1.heap.size U2 v' g.rules:=(by simpa using q1);obtain ⟨y2,d2,ev⟩:=q5.shape;rw [L2.out.1] at ev;subst ev;have q:Below X1.heap.size X1 U2:=((Below.refl _ X1).alloc nlr _).trans q2;have r:RuRow X1.heap.size U2 (.slice y2 n2 d2) g.rules:=q5;have e4:U2.cell? ⟨O,4,none⟩=some (.slice x.a2 n2 x.c2):=Boxed.cell (show Boxed _ _ _ _ from (Y1.out.below q).1.1) 4 rfl;have f4:U2.frozen? ⟨O,4,none⟩=false:=Boxed.ice (show Boxed _ _ _ _ from (Y1.out.below q).1.1) 4;have hOl:O<U2.heap.size:=Boxed.under (show Boxed _ _ _ _ from (Y1.out.below q).1.1);clear q1 q2 q3 q4 q5 E c4)
 obtain ⟨b2,hb2⟩:∃ b,b=X1.heap.size:=⟨_,rfl⟩
 obtain ⟨t2,ht2⟩:∃ b,b=U2.heap.size:=⟨_,rfl⟩
 have T2:Hid (Lies w [Thing.box O (gc kd ex le (.slice y1 n1 d1) (.slice x.a2 n2 x.c2) (.slice x.a3 n3 x.c3) (.slice x.a4 n4 x.c4) mo (.slice x.a5 n5 x.c5) (.slice x.a6 n6 x.c6) nw (.slice x.a7 n7 x.c7) nx dr) 50,Thing.box P (gc kd ex le (.slice x.a1 n1 x.c1) (.slice x.a2 n2 x.c2) (.slice x.a3 n3 x.c3) (.slice x.a4 n4 x.c4) mo (.slice x.a5 n5 x.c5) (.slice x.a6 n6 x.c6) nw (.slice x.a7 n7 x.c7) nx dr) 50,Thing.box R gz 50,Thing.was (fun W=>RtRow b1 W (.slice y1 n1 d1) g.routes) b1 t1,Thing.was (fun W=>RuRow b2 W (.slice y2 n2 d2) g.rules) b2 t2] U2):=by rw [hb2,ht2];exact Y1.out.more q ⟨was_laid r,trivial⟩
 have Oa2:Hid (P=w.heap.size∧R=P+1∧O=P+2∧O+1≤b1∧b1≤t1∧t1≤b2∧b2≤t2∧t2≤U2.heap.size):=by
  have h:=Ob1.out
  have h2:=q.size
  refine ⟨by omega,by omega,by omega,by omega,by omega,by omega,by omega,by omega⟩
 clear q r hb2 ht2 Y1 Ob1
 have off:OffT O (O+1) [Thing.box P (gc kd ex le (.slice x.a1 n1 x.c1) (.slice x.a2 n2 x.c2) (.slice x.a3 n3 x.c3) (.slice x.a4 n4 x.c4) mo (.slice x.a5 n5 x.c5) (.slice x.a6 n6 x.c6) nw (.slice x.a7 n7 x.c7) nx dr) 50,Thing.box R gz 50,Thing.was (fun W=>RtRow b1 W (.slice y1 n1 d1) g.routes) b1 t1,Thing.was (fun W=>RuRow b2 W (.slice y2 n2 d2) g.rules) b2 t2]:=⟨(by show _∨_;have:=Oa2.out;left;show P+1≤O;omega),(by show _∨_;have:=Oa2.out;left;show R+1≤O;omega),(by show _∨_;have:=Oa2.out;right;show O+1≤b1;omega),(by show _∨_;have:=Oa2.out;right;show O+1≤b2;omega),trivial⟩
 have S2_0:Lies w [Thing.box O (gc kd ex le (.slice y1 n1 d1) (.slice y2 n2 d2) (.slice x.a3 n3 x.c3) (.slice x.a4 n4 x.c4) mo (.slice x.a5 n5 x.c5) (.slice x.a6 n6 x.c6) nw (.slice x.a7 n7 x.c7) nx dr) 50,Thing.box P (gc kd ex le (.slice x.a1 n1 x.c1) (.slice x.a2 n2 x.c2) (.slice x.a3 n3 x.c3) (.slice x.a4 n4 x.c4) mo (.slice x.a5 n5 x.c5) (.slice x.a6 n6 x.c6) nw (.slice x.a7 n7 x.c7) nx dr) 50,Thing.box R gz 50,Thing.was (fun W=>RtRow b1 W (.slice y1 n1 d1) g.routes) b1 t1,Thing.was (fun W=>RuRow b2 W (.slice y2 n2 d2) g.rules) b2 t2] (U2.setCell ⟨O,4,none⟩ (.slice y2 n2 d2)):=lies_cell T2.out 4 (.slice y2 n2 d2) rfl off (by have:=Oa2.out;omega)
 have Y2:Hid (Lies w [Thing.box O (gc kd ex le (.slice y1 n1 d1) (.slice y2 n2 d2) (.slice x.a3 n3 x.c3) (.slice x.a4 n4 x.c4) mo (.slice x.a5 n5 x.c5) (.slice x.a6 n6 x.c6) nw (.slice x.a7 n7 x.c7) nx dr) 50,Thing.box P (gc kd ex le (.slice x.a1 n1 x.c1) (.slice x.a2 n2 x.c2) (.slice x.a3 n3 x.c3) (.slice x.a4 n4 x.c4) mo (.slice x.a5 n5 x.c5) (.slice x.a6 n6 x.c6) nw (.slice x.a7 n7 x.c7) nx dr) 50,Thing.box R gz 50,Thing.was (fun W=>RtRow b1 W (.slice y1 n1 d1) g.routes) b1 t1,Thing.was (fun W=>RuRow b2 W (.slice y2 n2 d2) g.rules) b2 t2] (U2.setCell ⟨O,4,none⟩ (.slice y2 n2 d2))):=S2_0
 clear off S2_0
 have sz:(U2.setCell ⟨O,4,none⟩ (.slice y2 n2 d2)).heap.size=U2.heap.size:=by simp [World.setCell]
 have Sz:Hid (_=_):=sz
 clear sz
 generalize (U2.setCell ⟨O,4,none⟩ (.slice y2 n2 d2))=X2 at Y2 Sz ⊢
 clear hOl e4 f4 T2
 have Ob2:Hid (P=w.heap.size∧R=P+1∧O=P+2∧O+1≤b1∧b1≤t1∧t1≤b2∧b2≤t2∧t2≤X2.heap.size):=by rw [Sz.out];exact Oa2.out
 clear Sz Oa2
 have c5:(X2.alloc (.cells #[] 77)).cell? ⟨P,5,none⟩=some (.slice x.a3 n3 x.c3):=Boxed.cell (show Boxed _ _ _ _ from (Y2.out.below ((Below.refl _ X2).alloc nlr _)).1.2.1) 5 rfl
 have E:Hid (NdRow X2.heap.size (X2.alloc (.cells #[] 77)) (.slice (some ⟨X2.heap.size,0,none⟩) 0 0) []∧NdsAt (X2.alloc (.cells #[] 77)) x.a3 g.tree):=⟨nd_built X2 _ nlr,(NdsV.spot' (K.out _ (Y2.out.2.trans ((Below.refl _ _).alloc Y2.out.2.size _))).tree)⟩
 go_upto_region 5 with (refine nd_app rfl (.tmp 15) (.tmp 17) rfl X2.heap.size (.slice (some ⟨X2.heap.size,0,none⟩) 0 0) [] x.a3 n3 x.c3 g.tree L3.out.1 rfl rfl E.out.1 E.out.2 L3.out.2.2 (by rw [L3.out.1];have:=L3.out.2.1;simp;omega) (by simp) ?_;intro v' U3 q1 q2 q3 q4;have q5:NdRow X2.heap.size U3 v' g.tree:=(by simpa using q1);obtain ⟨y3,d3,ev⟩:=q5.shape;rw [L3.out.1] at ev;subst ev;have q:Below X2.heap.size X2 U3:=((Below.refl _ X2).alloc nlr _).trans q2;have r:NdRow X2.heap.size U3 (.slice y3 n3 d3) g.tree:=q5;have e5:U3.cell? ⟨O,5,none⟩=some (.slice x.a3 n3 x.c3):=Boxed.cell (show Boxed _ _ _ _ from (Y2.out.below q).1.1) 5 rfl;have f5:U3.frozen? ⟨O,5,none⟩=false:=Boxed.ice (show Boxed _ _ _ _ from (Y2.out.below q).1.1) 5;have hOl:O<U3.heap.size:=Boxed.under (show Boxed _ _ _ _ from (Y2.out.below q).1.1);clear q1 q2 q3 q4 q5 E c5)
 obtain ⟨b3,hb3⟩:∃ b,b=X2.heap.size:=⟨_,rfl⟩
 obtain ⟨t3,ht3⟩:∃ b,b=U3.heap.size:=⟨_,rfl⟩
 have T3:Hid (Lies w [Thing.box O (gc kd ex le (.slice y1 n1 d1) (.slice y2 n2 d2) (.slice x.a3 n3 x.c3) (.slice x.a4 n4 x.c4) mo (.slice x.a5 n5 x.c5) (.slice x.a6 n6 x.c6) nw (.slice x.a7 n7 x.c7) nx dr) 50,Thing.box P (gc kd ex le (.slice x.a1 n1 x.c1) (.slice x.a2 n2 x.c2) (.slice x.a3 n3 x.c3) (.slice x.a4 n4 x.c4) mo (.slice x.a5 n5 x.c5) (.slice x.a6 n6 x.c6) nw (.slice x.a7 n7 x.c7) nx dr) 50,Thing.box R gz 50,Thing.was (fun W=>RtRow b1 W (.slice y1 n1 d1) g.routes) b1 t1,Thing.was (fun W=>RuRow b2 W (.slice y2 n2 d2) g.rules) b2 t2,Thing.was (fun W=>NdRow b3 W (.slice y3 n3 d3) g.tree) b3 t3] U3):=by rw [hb3,ht3];exact Y2.out.more q ⟨was_laid r,trivial⟩
 have Oa3:Hid (P=w.heap.size∧R=P+1∧O=P+2∧O+1≤b1∧b1≤t1∧t1≤b2∧b2≤t2∧t2≤b3∧b3≤t3∧t3≤U3.heap.size):=by
  have h:=Ob2.out
  have h2:=q.size
  refine ⟨by omega,by omega,by omega,by omega,by omega,by omega,by omega,by omega,by omega,by omega⟩
 clear q r hb3 ht3 Y2 Ob2
 have off:OffT O (O+1) [Thing.box P (gc kd ex le (.slice x.a1 n1 x.c1) (.slice x.a2 n2 x.c2) (.slice x.a3 n3 x.c3) (.slice x.a4 n4 x.c4) mo (.slice x.a5 n5 x.c5) (.slice x.a6 n6 x.c6) nw (.slice x.a7 n7 x.c7) nx dr) 50,Thing.box R gz 50,Thing.was (fun W=>RtRow b1 W (.slice y1 n1 d1) g.routes) b1 t1,Thing.was (fun W=>RuRow b2 W (.slice y2 n2 d2) g.rules) b2 t2,Thing.was (fun W=>NdRow b3 W (.slice y3 n3 d3) g.tree) b3 t3]:=⟨(by show _∨_;have:=Oa3.out;left;show P+1≤O;omega),(by show _∨_;have:=Oa3.out;left;show R+1≤O;omega),(by show _∨_;have:=Oa3.out;right;show O+1≤b1;omega),(by show _∨_;have:=Oa3.out;right;show O+1≤b2;omega),(by show _∨_;have:=Oa3.out;right;show O+1≤b3;omega),trivial⟩
 have S3_0:Lies w [Thing.box O (gc kd ex le (.slice y1 n1 d1) (.slice y2 n2 d2) (.slice y3 n3 d3) (.slice x.a4 n4 x.c4) mo (.slice x.a5 n5 x.c5) (.slice x.a6 n6 x.c6) nw (.slice x.a7 n7 x.c7) nx dr) 50,Thing.box P (gc kd ex le (.slice x.a1 n1 x.c1) (.slice x.a2 n2 x.c2) (.slice x.a3 n3 x.c3) (.slice x.a4 n4 x.c4) mo (.slice x.a5 n5 x.c5) (.slice x.a6 n6 x.c6) nw (.slice x.a7 n7 x.c7) nx dr) 50,Thing.box R gz 50,Thing.was (fun W=>RtRow b1 W (.slice y1 n1 d1) g.routes) b1 t1,Thing.was (fun W=>RuRow b2 W (.slice y2 n2 d2) g.rules) b2 t2,Thing.was (fun W=>NdRow b3 W (.slice y3 n3 d3) g.tree) b3 t3] (U3.setCell ⟨O,5,none⟩ (.slice y3 n3 d3)):=lies_cell T3.out 5 (.slice y3 n3 d3) rfl off (by have:=Oa3.out;omega)
 have Y3:Hid (Lies w [Thing.box O (gc kd ex le (.slice y1 n1 d1) (.slice y2 n2 d2) (.slice y3 n3 d3) (.slice x.a4 n4 x.c4) mo (.slice x.a5 n5 x.c5) (.slice x.a6 n6 x.c6) nw (.slice x.a7 n7 x.c7) nx dr) 50,Thing.box P (gc kd ex le (.slice x.a1 n1 x.c1) (.slice x.a2 n2 x.c2) (.slice x.a3 n3 x.c3) (.slice x.a4 n4 x.c4) mo (.slice x.a5 n5 x.c5) (.slice x.a6 n6 x.c6) nw (.slice x.a7 n7 x.c7) nx dr) 50,Thing.box R gz 50,Thing.was (fun W=>RtRow b1 W (.slice y1 n1 d1) g.routes) b1 t1,Thing.was (fun W=>RuRow b2 W (.slice y2 n2 d2) g.rules) b2 t2,Thing.was (fun W=>NdRow b3 W (.slice y3 n3 d3) g.tree) b3 t3] (U3.setCell ⟨O,5,none⟩ (.slice y3 n3 d3))):=S3_0
 clear off S3_0
 have sz:(U3.setCell ⟨O,5,none⟩ (.slice y3 n3 d3)).heap.size=U3.heap.size:=by simp [World.setCell]
 have Sz:Hid (_=_):=sz
 clear sz
 generalize (U3.setCell ⟨O,5,none⟩ (.slice y3 n3 d3))=X3 at Y3 Sz ⊢
 clear hOl e5 f5 T3
 have Ob3:Hid (P=w.heap.size∧R=P+1∧O=P+2∧O+1≤b1∧b1≤t1∧t1≤b2∧b2≤t2∧t2≤b3∧b3≤t3∧t3≤X3.heap.size):=by rw [Sz.out];exact Oa3.out
 clear Sz Oa3
 have c6:(X3.alloc (.cells #[] 2)).cell? ⟨P,6,none⟩=some (.slice x.a4 n4 x.c4):=Boxed.cell (show Boxed _ _ _ _ from (Y3.out.below ((Below.refl _ X3).alloc nlr _)).1.2.1) 6 rfl
 have E:Hid (IRow X3.heap.size (X3.alloc (.cells #[] 2)) (.slice (some ⟨X3.heap.size,0,none⟩) 0 0) []∧IntsAt (X3.alloc (.cells #[] 2)) x.a4 g.leaves):=⟨irow_built X3 _ nlr,(IntsV.spot' (K.out _ (Y3.out.2.trans ((Below.refl _ _).alloc Y3.out.2.size _))).leaves)⟩
 go_upto_region 6 with (refine int_row_app rfl (.tmp 20) (.tmp 22) rfl X3.heap.size (.slice (some ⟨X3.heap.size,0,none⟩) 0 0) [] x.a4 n4 x.c4 g.leaves L4.out.1 rfl rfl E.out.1 E.out.2 L4.out.2.2 (by rw [L4.out.1];have:=L4.out.2.1;simp;omega) (by simp) ?_;intro v' U4 q1 q2 q3 q4;have q5:IRow X3.heap.size U4 v' g.leaves:=(by simpa using q1);obtain ⟨y4,d4,ev⟩:=q5.shape;rw [L4.out.1] at ev;subst ev;have q:Below X3.heap.size X3 U4:=((Below.refl _ X3).alloc nlr _).trans q2;have r:IRow X3.heap.size U4 (.slice y4 n4 d4) g.leaves:=q5;have e6:U4.cell? ⟨O,6,none⟩=some (.slice x.a4 n4 x.c4):=Boxed.cell (show Boxed _ _ _ _ from (Y3.out.below q).1.1) 6 rfl;have f6:U4.frozen? ⟨O,6,none⟩=false:=Boxed.ice (show Boxed _ _ _ _ from (Y3.out.below q).1.1) 6;have hOl:O<U4.heap.size:=Boxed.under (show Boxed _ _ _ _ from (Y3.out.below q).1.1);clear q1 q2 q3 q4 q5 E c6)
 obtain ⟨b4,hb4⟩:∃ b,b=X3.heap.size:=⟨_,rfl⟩
 obtain ⟨t4,ht4⟩:∃ b,b=U4.heap.size:=⟨_,rfl⟩
 have T4:Hid (Lies w [Thing.box O (gc kd ex le (.slice y1 n1 d1) (.slice y2 n2 d2) (.slice y3 n3 d3) (.slice x.a4 n4 x.c4) mo (.slice x.a5 n5 x.c5) (.slice x.a6 n6 x.c6) nw (.slice x.a7 n7 x.c7) nx dr) 50,Thing.box P (gc kd ex le (.slice x.a1 n1 x.c1) (.slice x.a2 n2 x.c2) (.slice x.a3 n3 x.c3) (.slice x.a4 n4 x.c4) mo (.slice x.a5 n5 x.c5) (.slice x.a6 n6 x.c6) nw (.slice x.a7 n7 x.c7) nx dr) 50,Thing.box R gz 50,Thing.was (fun W=>RtRow b1 W (.slice y1 n1 d1) g.routes) b1 t1,Thing.was (fun W=>RuRow b2 W (.slice y2 n2 d2) g.rules) b2 t2,Thing.was (fun W=>NdRow b3 W (.slice y3 n3 d3) g.tree) b3 t3,Thing.was (fun W=>IRow b4 W (.slice y4 n4 d4) g.leaves) b4 t4] U4):=by rw [hb4,ht4];exact Y3.out.more q ⟨was_laid r,trivial⟩
 have Oa4:Hid (P=w.heap.size∧R=P+1∧O=P+2∧O+1≤b1∧b1≤t1∧t1≤b2∧b2≤t2∧t2≤b3∧b3≤t3∧t3≤b4∧b4≤t4∧t4≤U4.heap.size):=by
  have h:=Ob3.out
  have h2:=q.size
  refine ⟨by omega,by omega,by omega,by omega,by omega,by omega,by omega,by omega,by omega,by omega,by omega,by omega⟩
 clear q r hb4 ht4 Y3 Ob3
 have off:OffT O (O+1) [Thing.box P (gc kd ex le (.slice x.a1 n1 x.c1) (.slice x.a2 n2 x.c2) (.slice x.a3 n3 x.c3) (.slice x.a4 n4 x.c4) mo (.slice x.a5 n5 x.c5) (.slice x.a6 n6 x.c6) nw (.slice x.a7 n7 x.c7) nx dr) 50,Thing.box R gz 50,Thing.was (fun W=>RtRow b1 W (.slice y1 n1 d1) g.routes) b1 t1,Thing.was (fun W=>RuRow b2 W (.slice y2 n2 d2) g.rules) b2 t2,Thing.was (fun W=>NdRow b3 W (.slice y3 n3 d3) g.tree) b3 t3,Thing.was (fun W=>IRow b4 W (.slice y4 n4 d4) g.leaves) b4 t4]:=⟨(by show _∨_;have:=Oa4.out;left;show P+1≤O;omega),(by show _∨_;have:=Oa4.out;left;show R+1≤O;omega),(by show _∨_;have:=Oa4.out;right;show O+1≤b1;omega),(by show _∨_;have:=Oa4.out;right;show O+1≤b2;omega),(by show _∨_;have:=Oa4.out;right;show O+1≤b3;omega),(by show _∨_;have:=Oa4.out;right;show O+1≤b4;omega),trivial⟩
 have S4_0:Lies w [Thing.box O (gc kd ex le (.slice y1 n1 d1) (.slice y2 n2 d2) (.slice y3 n3 d3) (.slice y4 n4 d4) mo (.slice x.a5 n5 x.c5) (.slice x.a6 n6 x.c6) nw (.slice x.a7 n7 x.c7) nx dr) 50,Thing.box P (gc kd ex le (.slice x.a1 n1 x.c1) (.slice x.a2 n2 x.c2) (.slice x.a3 n3 x.c3) (.slice x.a4 n4 x.c4) mo (.slice x.a5 n5 x.c5) (.slice x.a6 n6 x.c6) nw (.slice x.a7 n7 x.c7) nx dr) 50,Thing.box R gz 50,Thing.was (fun W=>RtRow b1 W (.slice y1 n1 d1) g.routes) b1 t1,Thing.was (fun W=>RuRow b2 W (.slice y2 n2 d2) g.rules) b2 t2,Thing.was (fun W=>NdRow b3 W (.slice y3 n3 d3) g.tree) b3 t3,Thing.was (fun W=>IRow b4 W (.slice y4 n4 d4) g.leaves) b4 t4] (U4.setCell ⟨O,6,none⟩ (.slice y4 n4 d4)):=lies_cell T4.out 6 (.slice y4 n4 d4) rfl off (by have:=Oa4.out;omega)
 have Y4:Hid (Lies w [Thing.box O (gc kd ex le (.slice y1 n1 d1) (.slice y2 n2 d2) (.slice y3 n3 d3) (.slice y4 n4 d4) mo (.slice x.a5 n5 x.c5) (.slice x.a6 n6 x.c6) nw (.slice x.a7 n7 x.c7) nx dr) 50,Thing.box P (gc kd ex le (.slice x.a1 n1 x.c1) (.slice x.a2 n2 x.c2) (.slice x.a3 n3 x.c3) (.slice x.a4 n4 x.c4) mo (.slice x.a5 n5 x.c5) (.slice x.a6 n6 x.c6) nw (.slice x.a7 n7 x.c7) nx dr) 50,Thing.box R gz 50,Thing.was (fun W=>RtRow b1 W (.slice y1 n1 d1) g.routes) b1 t1,Thing.was (fun W=>RuRow b2 W (.slice y2 n2 d2) g.rules) b2 t2,Thing.was (fun W=>NdRow b3 W (.slice y3 n3 d3) g.tree) b3 t3,Thing.was (fun W=>IRow b4 W (.slice y4 n4 d4) g.leaves) b4 t4] (U4.setCell ⟨O,6,none⟩ (.slice y4 n4 d4))):=S4_0
 clear off S4_0
 have sz:(U4.setCell ⟨O,6,none⟩ (.slice y4 n4 d4)).heap.size=U4.heap.size:=by simp [World.setCell]
 have Sz:Hid (_=_):=sz
 clear sz
 generalize (U4.setCell ⟨O,6,none⟩ (.slice y4 n4 d4))=X4 at Y4 Sz ⊢
 clear hOl e6 f6 T4
 have Ob4:Hid (P=w.heap.size∧R=P+1∧O=P+2∧O+1≤b1∧b1≤t1∧t1≤b2∧b2≤t2∧t2≤b3∧b3≤t3∧t3≤b4∧b4≤t4∧t4≤X4.heap.size):=by rw [Sz.out];exact Oa4.out
 clear Sz Oa4
 have c7:X4.cell? ⟨P,7,none⟩=some (.int .i64 mo):=Boxed.cell (show Boxed _ _ _ _ from Y4.out.1.2.1) 7 rfl
 have c8:X4.cell? ⟨P,8,none⟩=some (.slice x.a5 n5 x.c5):=Boxed.cell (show Boxed _ _ _ _ from Y4.out.1.2.1) 8 rfl
 go_wp2_with fail
 refine (M5.out _ (K.out _ Y4.out.2)).mono ?_
 rintro e U5 ⟨⟨y5,d5,vs5,rfl,r⟩,q⟩
 obtain ⟨b5,hb5⟩:∃ b,b=X4.heap.size:=⟨_,rfl⟩
 obtain ⟨t5,ht5⟩:∃ b,b=U5.heap.size:=⟨_,rfl⟩
 have T5:Hid (Lies w [Thing.box O (gc kd ex le (.slice y1 n1 d1) (.slice y2 n2 d2) (.slice y3 n3 d3) (.slice y4 n4 d4) mo (.slice x.a5 n5 x.c5) (.slice x.a6 n6 x.c6) nw (.slice x.a7 n7 x.c7) nx dr) 50,Thing.box P (gc kd ex le (.slice x.a1 n1 x.c1) (.slice x.a2 n2 x.c2) (.slice x.a3 n3 x.c3) (.slice x.a4 n4 x.c4) mo (.slice x.a5 n5 x.c5) (.slice x.a6 n6 x.c6) nw (.slice x.a7 n7 x.c7) nx dr) 50,Thing.box R gz 50,Thing.was (fun W=>RtRow b1 W (.slice y1 n1 d1) g.routes) b1 t1,Thing.was (fun W=>RuRow b2 W (.slice y2 n2 d2) g.rules) b2 t2,Thing.was (fun W=>NdRow b3 W (.slice y3 n3 d3) g.tree) b3 t3,Thing.was (fun W=>IRow b4 W (.slice y4 n4 d4) g.leaves) b4 t4,Thing.was (fun W=>IzG b5 (.slice y5 n5 d5) vs5 g.rows.lists W) b5 t5] U5):=by rw [hb5,ht5];exact Y4.out.more q ⟨was_laid r,trivial⟩
 have Oa5:Hid (P=w.heap.size∧R=P+1∧O=P+2∧O+1≤b1∧b1≤t1∧t1≤b2∧b2≤t2∧t2≤b3∧b3≤t3∧t3≤b4∧b4≤t4∧t4≤b5∧b5≤t5∧t5≤U5.heap.size):=by
  have h:=Ob4.out
  have h2:=q.size
  refine ⟨by omega,by omega,by omega,by omega,by omega,by omega,by omega,by omega,by omega,by omega,by omega,by omega,by omega,by omega⟩
 clear q r hb5 ht5 Y4 Ob4 M5 c7 c8
 have e7:U5.cell? ⟨O,7,none⟩=some (.int .i64 mo):=Boxed.cell (show Boxed _ _ _ _ from T5.out.1.1) 7 rfl
 have f7:U5.frozen? ⟨O,7,none⟩=false:=Boxed.ice (show Boxed _ _ _ _ from T5.out.1.1) 7
 have e8:U5.cell? ⟨O,8,none⟩=some (.slice x.a5 n5 x.c5):=Boxed.cell (show Boxed _ _ _ _ from T5.out.1.1) 8 rfl
 have f8:U5.frozen? ⟨O,8,none⟩=false:=Boxed.ice (show Boxed _ _ _ _ from T5.out.1.1) 8
 have hOl:O<U5.heap.size:=Boxed.under (show Boxed _ _ _ _ from T5.out.1.1)
 have off:OffT O (O+1) [Thing.box P (gc kd ex le (.slice x.a1 n1 x.c1) (.slice x.a2 n2 x.c2) (.slice x.a3 n3 x.c3) (.slice x.a4 n4 x.c4) mo (.slice x.a5 n5 x.c5) (.slice x.a6 n6 x.c6) nw (.slice x.a7 n7 x.c7) nx dr) 50,Thing.box R gz 50,Thing.was (fun W=>RtRow b1 W (.slice y1 n1 d1) g.routes) b1 t1,Thing.was (fun W=>RuRow b2 W (.slice y2 n2 d2) g.rules) b2 t2,Thing.was (fun W=>NdRow b3 W (.slice y3 n3 d3) g.tree) b3 t3,Thing.was (fun W=>IRow b4 W (.slice y4 n4 d4) g.leaves) b4 t4,Thing.was (fun W=>IzG b5 (.slice y5 n5 d5) vs5 g.rows.lists W) b5 t5]:=⟨(by show _∨_;have:=Oa5.out;left;show P+1≤O;omega),(by show _∨_;have:=Oa5.out;left;show R+1≤O;omega),(by show _∨_;have:=Oa5.out;right;show O+1≤b1;omega),(by show _∨_;have:=Oa5.out;right;show O+1≤b2;omega),(by show _∨_;have:=Oa5.out;right;show O+1≤b3;omega),(by show _∨_;have:=Oa5.out;right;show O+1≤b4;omega),(by show _∨_;have:=Oa5.out;right;show O+1≤b5;omega),trivial⟩
 have S5_0:Lies w [Thing.box O (gc kd ex le (.slice y1 n1 d1) (.slice y2 n2 d2) (.slice y3 n3 d3) (.slice y4 n4 d4) mo (.slice x.a5 n5 x.c5) (.slice x.a6 n6 x.c6) nw (.slice x.a7 n7 x.c7) nx dr) 50,Thing.box P (gc kd ex le (.slice x.a1 n1 x.c1) (.slice x.a2 n2 x.c2) (.slice x.a3 n3 x.c3) (.slice x.a4 n4 x.c4) mo (.slice x.a5 n5 x.c5) (.slice x.a6 n6 x.c6) nw (.slice x.a7 n7 x.c7) nx dr) 50,Thing.box R gz 50,Thing.was (fun W=>RtRow b1 W (.slice y1 n1 d1) g.routes) b1 t1,Thing.was (fun W=>RuRow b2 W (.slice y2 n2 d2) g.rules) b2 t2,Thing.was (fun W=>NdRow b3 W (.slice y3 n3 d3) g.tree) b3 t3,Thing.was (fun W=>IRow b4 W (.slice y4 n4 d4) g.leaves) b4 t4,Thing.was (fun W=>IzG b5 (.slice y5 n5 d5) vs5 g.rows.lists W) b5 t5] (U5.setCell ⟨O,7,none⟩ (.int .i64 mo)):=lies_cell T5.out 7 (.int .i64 mo) rfl off (by have:=Oa5.out;omega)
 have S5_1:Lies w [Thing.box O (gc kd ex le (.slice y1 n1 d1) (.slice y2 n2 d2) (.slice y3 n3 d3) (.slice y4 n4 d4) mo (.slice y5 n5 d5) (.slice x.a6 n6 x.c6) nw (.slice x.a7 n7 x.c7) nx dr) 50,Thing.box P (gc kd ex le (.slice x.a1 n1 x.c1) (.slice x.a2 n2 x.c2) (.slice x.a3 n3 x.c3) (.slice x.a4 n4 x.c4) mo (.slice x.a5 n5 x.c5) (.slice x.a6 n6 x.c6) nw (.slice x.a7 n7 x.c7) nx dr) 50,Thing.box R gz 50,Thing.was (fun W=>RtRow b1 W (.slice y1 n1 d1) g.routes) b1 t1,Thing.was (fun W=>RuRow b2 W (.slice y2 n2 d2) g.rules) b2 t2,Thing.was (fun W=>NdRow b3 W (.slice y3 n3 d3) g.tree) b3 t3,Thing.was (fun W=>IRow b4 W (.slice y4 n4 d4) g.leaves) b4 t4,Thing.was (fun W=>IzG b5 (.slice y5 n5 d5) vs5 g.rows.lists W) b5 t5] ((U5.setCell ⟨O,7,none⟩ (.int .i64 mo)).setCell ⟨O,8,none⟩ (.slice y5 n5 d5)):=lies_cell S5_0 8 (.slice y5 n5 d5) rfl off (by have:=Oa5.out;omega)
 have Y5:Hid (Lies w [Thing.box O (gc kd ex le (.slice y1 n1 d1) (.slice y2 n2 d2) (.slice y3 n3 d3) (.slice y4 n4 d4) mo (.slice y5 n5 d5) (.slice x.a6 n6 x.c6) nw (.slice x.a7 n7 x.c7) nx dr) 50,Thing.box P (gc kd ex le (.slice x.a1 n1 x.c1) (.slice x.a2 n2 x.c2) (.slice x.a3 n3 x.c3) (.slice x.a4 n4 x.c4) mo (.slice x.a5 n5 x.c5) (.slice x.a6 n6 x.c6) nw (.slice x.a7 n7 x.c7) nx dr) 50,Thing.box R gz 50,Thing.was (fun W=>RtRow b1 W (.slice y1 n1 d1) g.routes) b1 t1,Thing.was (fun W=>RuRow b2 W (.slice y2 n2 d2) g.rules) b2 t2,Thing.was (fun W=>NdRow b3 W (.slice y3 n3 d3) g.tree) b3 t3,Thing.was (fun W=>IRow b4 W (.slice y4 n4 d4) g.leaves) b4 t4,Thing.was (fun W=>IzG b5 (.slice y5 n5 d5) vs5 g.rows.lists W) b5 t5] ((U5.setCell ⟨O,7,none⟩ (.int .i64 mo)).setCell ⟨O,8,none⟩ (.slice y5 n5 d5))):=S5_1
 clear off S5_0 S5_1
 have sz:((U5.setCell ⟨O,7,none⟩ (.int .i64 mo)).setCell ⟨O,8,none⟩ (.slice y5 n5 d5)).heap.size=U5.heap.size:=by simp [World.setCell]
 have Sz:Hid (_=_):=sz
 clear sz
 go_upto_region 7 with fail
 generalize ((U5.setCell ⟨O,7,none⟩ (.int .i64 mo)).setCell ⟨O,8,none⟩ (.slice y5 n5 d5))=X5 at Y5 Sz ⊢
 clear hOl e7 f7 e8 f8 T5
 have Ob5:Hid (P=w.heap.size∧R=P+1∧O=P+2∧O+1≤b1∧b1≤t1∧t1≤b2∧b2≤t2∧t2≤b3∧b3≤t3∧t3≤b4∧b4≤t4∧t4≤b5∧b5≤t5∧t5≤X5.heap.size):=by rw [Sz.out];exact Oa5.out
 clear Sz Oa5
 have c9:(X5.alloc (.cells #[] 143)).cell? ⟨P,9,none⟩=some (.slice x.a6 n6 x.c6):=Boxed.cell (show Boxed _ _ _ _ from (Y5.out.below ((Below.refl _ X5).alloc nlr _)).1.2.1) 9 rfl
 have E:Hid (SrRow X5.heap.size (X5.alloc (.cells #[] 143)) (.slice (some ⟨X5.heap.size,0,none⟩) 0 0) []∧SrsAt (X5.alloc (.cells #[] 143)) x.a6 g.steers):=⟨sr_built X5 _ nlr,(SrsV.spot' (K.out _ (Y5.out.2.trans ((Below.refl _ _).alloc Y5.out.2.size _))).steers)⟩
 go_upto_region 8 with (refine sr_app rfl (.tmp 29) (.tmp 31) rfl X5.heap.size (.slice (some ⟨X5.heap.size,0,none⟩) 0 0) [] x.a6 n6 x.c6 g.steers L6.out.1 rfl rfl E.out.1 E.out.2 L6.out.2.2 (by rw [L6.out.1];have:=L6.out.2.1;simp;omega) (by simp) ?_;intro v' U6 q1 q2 q3 q4;have q5:SrRow X5.heap.size U6 v' g.steers:=(by simpa using q1);obtain ⟨y6,d6,ev⟩:=q5.shape;rw [L6.out.1] at ev;subst ev;have q:Below X5.heap.size X5 U6:=((Below.refl _ X5).alloc nlr _).trans q2;have r:SrRow X5.heap.size U6 (.slice y6 n6 d6) g.steers:=q5;have e9:U6.cell? ⟨O,9,none⟩=some (.slice x.a6 n6 x.c6):=Boxed.cell (show Boxed _ _ _ _ from (Y5.out.below q).1.1) 9 rfl;have f9:U6.frozen? ⟨O,9,none⟩=false:=Boxed.ice (show Boxed _ _ _ _ from (Y5.out.below q).1.1) 9;have hOl:O<U6.heap.size:=Boxed.under (show Boxed _ _ _ _ from (Y5.out.below q).1.1);clear q1 q2 q3 q4 q5 E c9)
 obtain ⟨b6,hb6⟩:∃ b,b=X5.heap.size:=⟨_,rfl⟩
 obtain ⟨t6,ht6⟩:∃ b,b=U6.heap.size:=⟨_,rfl⟩
 have T6:Hid (Lies w [Thing.box O (gc kd ex le (.slice y1 n1 d1) (.slice y2 n2 d2) (.slice y3 n3 d3) (.slice y4 n4 d4) mo (.slice y5 n5 d5) (.slice x.a6 n6 x.c6) nw (.slice x.a7 n7 x.c7) nx dr) 50,Thing.box P (gc kd ex le (.slice x.a1 n1 x.c1) (.slice x.a2 n2 x.c2) (.slice x.a3 n3 x.c3) (.slice x.a4 n4 x.c4) mo (.slice x.a5 n5 x.c5) (.slice x.a6 n6 x.c6) nw (.slice x.a7 n7 x.c7) nx dr) 50,Thing.box R gz 50,Thing.was (fun W=>RtRow b1 W (.slice y1 n1 d1) g.routes) b1 t1,Thing.was (fun W=>RuRow b2 W (.slice y2 n2 d2) g.rules) b2 t2,Thing.was (fun W=>NdRow b3 W (.slice y3 n3 d3) g.tree) b3 t3,Thing.was (fun W=>IRow b4 W (.slice y4 n4 d4) g.leaves) b4 t4,Thing.was (fun W=>IzG b5 (.slice y5 n5 d5) vs5 g.rows.lists W) b5 t5,Thing.was (fun W=>SrRow b6 W (.slice y6 n6 d6) g.steers) b6 t6] U6):=by rw [hb6,ht6];exact Y5.out.more q ⟨was_laid r,trivial⟩
 have Oa6:Hid (P=w.heap.size∧R=P+1∧O=P+2∧O+1≤b1∧b1≤t1∧t1≤b2∧b2≤t2∧t2≤b3∧b3≤t3∧t3≤b4∧b4≤t4∧t4≤b5∧b5≤t5∧t5≤b6∧b6≤t6∧t6≤U6.heap.size):=by
  have h:=Ob5.out
  have h2:=q.size
  refine ⟨by omega,by omega,by omega,by omega,by omega,by omega,by omega,by omega,by omega,by omega,by omega,by omega,by omega,by omega,by omega,by omega⟩
 clear q r hb6 ht6 Y5 Ob5
 have off:OffT O (O+1) [Thing.box P (gc kd ex le (.slice x.a1 n1 x.c1) (.slice x.a2 n2 x.c2) (.slice x.a3 n3 x.c3) (.slice x.a4 n4 x.c4) mo (.slice x.a5 n5 x.c5) (.slice x.a6 n6 x.c6) nw (.slice x.a7 n7 x.c7) nx dr) 50,Thing.box R gz 50,Thing.was (fun W=>RtRow b1 W (.slice y1 n1 d1) g.routes) b1 t1,Thing.was (fun W=>RuRow b2 W (.slice y2 n2 d2) g.rules) b2 t2,Thing.was (fun W=>NdRow b3 W (.slice y3 n3 d3) g.tree) b3 t3,Thing.was (fun W=>IRow b4 W (.slice y4 n4 d4) g.leaves) b4 t4,Thing.was (fun W=>IzG b5 (.slice y5 n5 d5) vs5 g.rows.lists W) b5 t5,Thing.was (fun W=>SrRow b6 W (.slice y6 n6 d6) g.steers) b6 t6]:=⟨(by show _∨_;have:=Oa6.out;left;show P+1≤O;omega),(by show _∨_;have:=Oa6.out;left;show R+1≤O;omega),(by show _∨_;have:=Oa6.out;right;show O+1≤b1;omega),(by show _∨_;have:=Oa6.out;right;show O+1≤b2;omega),(by show _∨_;have:=Oa6.out;right;show O+1≤b3;omega),(by show _∨_;have:=Oa6.out;right;show O+1≤b4;omega),(by show _∨_;have:=Oa6.out;right;show O+1≤b5;omega),(by show _∨_;have:=Oa6.out;right;show O+1≤b6;omega),trivial⟩
 have S6_0:Lies w [Thing.box O (gc kd ex le (.slice y1 n1 d1) (.slice y2 n2 d2) (.slice y3 n3 d3) (.slice y4 n4 d4) mo (.slice y5 n5 d5) (.slice y6 n6 d6) nw (.slice x.a7 n7 x.c7) nx dr) 50,Thing.box P (gc kd ex le (.slice x.a1 n1 x.c1) (.slice x.a2 n2 x.c2) (.slice x.a3 n3 x.c3) (.slice x.a4 n4 x.c4) mo (.slice x.a5 n5 x.c5) (.slice x.a6 n6 x.c6) nw (.slice x.a7 n7 x.c7) nx dr) 50,Thing.box R gz 50,Thing.was (fun W=>RtRow b1 W (.slice y1 n1 d1) g.routes) b1 t1,Thing.was (fun W=>RuRow b2 W (.slice y2 n2 d2) g.rules) b2 t2,Thing.was (fun W=>NdRow b3 W (.slice y3 n3 d3) g.tree) b3 t3,Thing.was (fun W=>IRow b4 W (.slice y4 n4 d4) g.leaves) b4 t4,Thing.was (fun W=>IzG b5 (.slice y5 n5 d5) vs5 g.rows.lists W) b5 t5,Thing.was (fun W=>SrRow b6 W (.slice y6 n6 d6) g.steers) b6 t6] (U6.setCell ⟨O,9,none⟩ (.slice y6 n6 d6)):=lies_cell T6.out 9 (.slice y6 n6 d6) rfl off (by have:=Oa6.out;omega)
 have Y6:Hid (Lies w [Thing.box O (gc kd ex le (.slice y1 n1 d1) (.slice y2 n2 d2) (.slice y3 n3 d3) (.slice y4 n4 d4) mo (.slice y5 n5 d5) (.slice y6 n6 d6) nw (.slice x.a7 n7 x.c7) nx dr) 50,Thing.box P (gc kd ex le (.slice x.a1 n1 x.c1) (.slice x.a2 n2 x.c2) (.slice x.a3 n3 x.c3) (.slice x.a4 n4 x.c4) mo (.slice x.a5 n5 x.c5) (.slice x.a6 n6 x.c6) nw (.slice x.a7 n7 x.c7) nx dr) 50,Thing.box R gz 50,Thing.was (fun W=>RtRow b1 W (.slice y1 n1 d1) g.routes) b1 t1,Thing.was (fun W=>RuRow b2 W (.slice y2 n2 d2) g.rules) b2 t2,Thing.was (fun W=>NdRow b3 W (.slice y3 n3 d3) g.tree) b3 t3,Thing.was (fun W=>IRow b4 W (.slice y4 n4 d4) g.leaves) b4 t4,Thing.was (fun W=>IzG b5 (.slice y5 n5 d5) vs5 g.rows.lists W) b5 t5,Thing.was (fun W=>SrRow b6 W (.slice y6 n6 d6) g.steers) b6 t6] (U6.setCell ⟨O,9,none⟩ (.slice y6 n6 d6))):=S6_0
 clear off S6_0
 have sz:(U6.setCell ⟨O,9,none⟩ (.slice y6 n6 d6)).heap.size=U6.heap.size:=by simp [World.setCell]
 have Sz:Hid (_=_):=sz
 clear sz
 generalize (U6.setCell ⟨O,9,none⟩ (.slice y6 n6 d6))=X6 at Y6 Sz ⊢
 clear hOl e9 f9 T6
 have Ob6:Hid (P=w.heap.size∧R=P+1∧O=P+2∧O+1≤b1∧b1≤t1∧t1≤b2∧b2≤t2∧t2≤b3∧b3≤t3∧t3≤b4∧b4≤t4∧t4≤b5∧b5≤t5∧t5≤b6∧b6≤t6∧t6≤X6.heap.size):=by rw [Sz.out];exact Oa6.out
 clear Sz Oa6
 have c10:X6.cell? ⟨P,10,none⟩=some (.int .i64 nw):=Boxed.cell (show Boxed _ _ _ _ from Y6.out.1.2.1) 10 rfl
 have c11:X6.cell? ⟨P,11,none⟩=some (.slice x.a7 n7 x.c7):=Boxed.cell (show Boxed _ _ _ _ from Y6.out.1.2.1) 11 rfl
 go_wp2_with fail
 refine (M7.out _ (K.out _ Y6.out.2)).mono ?_
 rintro e U7 ⟨⟨y7,d7,rs7,rfl,r⟩,q⟩
 obtain ⟨b7,hb7⟩:∃ b,b=X6.heap.size:=⟨_,rfl⟩
 obtain ⟨t7,ht7⟩:∃ b,b=U7.heap.size:=⟨_,rfl⟩
 have T7:Hid (Lies w [Thing.box O (gc kd ex le (.slice y1 n1 d1) (.slice y2 n2 d2) (.slice y3 n3 d3) (.slice y4 n4 d4) mo (.slice y5 n5 d5) (.slice y6 n6 d6) nw (.slice x.a7 n7 x.c7) nx dr) 50,Thing.box P (gc kd ex le (.slice x.a1 n1 x.c1) (.slice x.a2 n2 x.c2) (.slice x.a3 n3 x.c3) (.slice x.a4 n4 x.c4) mo (.slice x.a5 n5 x.c5) (.slice x.a6 n6 x.c6) nw (.slice x.a7 n7 x.c7) nx dr) 50,Thing.box R gz 50,Thing.was (fun W=>RtRow b1 W (.slice y1 n1 d1) g.routes) b1 t1,Thing.was (fun W=>RuRow b2 W (.slice y2 n2 d2) g.rules) b2 t2,Thing.was (fun W=>NdRow b3 W (.slice y3 n3 d3) g.tree) b3 t3,Thing.was (fun W=>IRow b4 W (.slice y4 n4 d4) g.leaves) b4 t4,Thing.was (fun W=>IzG b5 (.slice y5 n5 d5) vs5 g.rows.lists W) b5 t5,Thing.was (fun W=>SrRow b6 W (.slice y6 n6 d6) g.steers) b6 t6,Thing.was (fun W=>FwG b7 (.slice y7 n7 d7) rs7 g.fair.flows W) b7 t7] U7):=by rw [hb7,ht7];exact Y6.out.more q ⟨was_laid r,trivial⟩
 have Oa7:Hid (P=w.heap.size∧R=P+1∧O=P+2∧O+1≤b1∧b1≤t1∧t1≤b2∧b2≤t2∧t2≤b3∧b3≤t3∧t3≤b4∧b4≤t4∧t4≤b5∧b5≤t5∧t5≤b6∧b6≤t6∧t6≤b7∧b7≤t7∧t7≤U7.heap.size):=by
  have h:=Ob6.out
  have h2:=q.size
  refine ⟨by omega,by omega,by omega,by omega,by omega,by omega,by omega,by omega,by omega,by omega,by omega,by omega,by omega,by omega,by omega,by omega,by omega,by omega⟩
 clear q r hb7 ht7 Y6 Ob6 M7 c10 c11
 have e10:U7.cell? ⟨O,10,none⟩=some (.int .i64 nw):=Boxed.cell (show Boxed _ _ _ _ from T7.out.1.1) 10 rfl
 have f10:U7.frozen? ⟨O,10,none⟩=false:=Boxed.ice (show Boxed _ _ _ _ from T7.out.1.1) 10
 have e11:U7.cell? ⟨O,11,none⟩=some (.slice x.a7 n7 x.c7):=Boxed.cell (show Boxed _ _ _ _ from T7.out.1.1) 11 rfl
 have f11:U7.frozen? ⟨O,11,none⟩=false:=Boxed.ice (show Boxed _ _ _ _ from T7.out.1.1) 11
 have hOl:O<U7.heap.size:=Boxed.under (show Boxed _ _ _ _ from T7.out.1.1)
 have off:OffT O (O+1) [Thing.box P (gc kd ex le (.slice x.a1 n1 x.c1) (.slice x.a2 n2 x.c2) (.slice x.a3 n3 x.c3) (.slice x.a4 n4 x.c4) mo (.slice x.a5 n5 x.c5) (.slice x.a6 n6 x.c6) nw (.slice x.a7 n7 x.c7) nx dr) 50,Thing.box R gz 50,Thing.was (fun W=>RtRow b1 W (.slice y1 n1 d1) g.routes) b1 t1,Thing.was (fun W=>RuRow b2 W (.slice y2 n2 d2) g.rules) b2 t2,Thing.was (fun W=>NdRow b3 W (.slice y3 n3 d3) g.tree) b3 t3,Thing.was (fun W=>IRow b4 W (.slice y4 n4 d4) g.leaves) b4 t4,Thing.was (fun W=>IzG b5 (.slice y5 n5 d5) vs5 g.rows.lists W) b5 t5,Thing.was (fun W=>SrRow b6 W (.slice y6 n6 d6) g.steers) b6 t6,Thing.was (fun W=>FwG b7 (.slice y7 n7 d7) rs7 g.fair.flows W) b7 t7]:=⟨(by show _∨_;have:=Oa7.out;left;show P+1≤O;omega),(by show _∨_;have:=Oa7.out;left;show R+1≤O;omega),(by show _∨_;have:=Oa7.out;right;show O+1≤b1;omega),(by show _∨_;have:=Oa7.out;right;show O+1≤b2;omega),(by show _∨_;have:=Oa7.out;right;show O+1≤b3;omega),(by show _∨_;have:=Oa7.out;right;show O+1≤b4;omega),(by show _∨_;have:=Oa7.out;right;show O+1≤b5;omega),(by show _∨_;have:=Oa7.out;right;show O+1≤b6;omega),(by show _∨_;have:=Oa7.out;right;show O+1≤b7;omega),trivial⟩
 have S7_0:Lies w [Thing.box O (gc kd ex le (.slice y1 n1 d1) (.slice y2 n2 d2) (.slice y3 n3 d3) (.slice y4 n4 d4) mo (.slice y5 n5 d5) (.slice y6 n6 d6) nw (.slice x.a7 n7 x.c7) nx dr) 50,Thing.box P (gc kd ex le (.slice x.a1 n1 x.c1) (.slice x.a2 n2 x.c2) (.slice x.a3 n3 x.c3) (.slice x.a4 n4 x.c4) mo (.slice x.a5 n5 x.c5) (.slice x.a6 n6 x.c6) nw (.slice x.a7 n7 x.c7) nx dr) 50,Thing.box R gz 50,Thing.was (fun W=>RtRow b1 W (.slice y1 n1 d1) g.routes) b1 t1,Thing.was (fun W=>RuRow b2 W (.slice y2 n2 d2) g.rules) b2 t2,Thing.was (fun W=>NdRow b3 W (.slice y3 n3 d3) g.tree) b3 t3,Thing.was (fun W=>IRow b4 W (.slice y4 n4 d4) g.leaves) b4 t4,Thing.was (fun W=>IzG b5 (.slice y5 n5 d5) vs5 g.rows.lists W) b5 t5,Thing.was (fun W=>SrRow b6 W (.slice y6 n6 d6) g.steers) b6 t6,Thing.was (fun W=>FwG b7 (.slice y7 n7 d7) rs7 g.fair.flows W) b7 t7] (U7.setCell ⟨O,10,none⟩ (.int .i64 nw)):=lies_cell T7.out 10 (.int .i64 nw) rfl off (by have:=Oa7.out;omega)
 have S7_1:Lies w [Thing.box O (gc kd ex le (.slice y1 n1 d1) (.slice y2 n2 d2) (.slice y3 n3 d3) (.slice y4 n4 d4) mo (.slice y5 n5 d5) (.slice y6 n6 d6) nw (.slice y7 n7 d7) nx dr) 50,Thing.box P (gc kd ex le (.slice x.a1 n1 x.c1) (.slice x.a2 n2 x.c2) (.slice x.a3 n3 x.c3) (.slice x.a4 n4 x.c4) mo (.slice x.a5 n5 x.c5) (.slice x.a6 n6 x.c6) nw (.slice x.a7 n7 x.c7) nx dr) 50,Thing.box R gz 50,Thing.was (fun W=>RtRow b1 W (.slice y1 n1 d1) g.routes) b1 t1,Thing.was (fun W=>RuRow b2 W (.slice y2 n2 d2) g.rules) b2 t2,Thing.was (fun W=>NdRow b3 W (.slice y3 n3 d3) g.tree) b3 t3,Thing.was (fun W=>IRow b4 W (.slice y4 n4 d4) g.leaves) b4 t4,Thing.was (fun W=>IzG b5 (.slice y5 n5 d5) vs5 g.rows.lists W) b5 t5,Thing.was (fun W=>SrRow b6 W (.slice y6 n6 d6) g.steers) b6 t6,Thing.was (fun W=>FwG b7 (.slice y7 n7 d7) rs7 g.fair.flows W) b7 t7] ((U7.setCell ⟨O,10,none⟩ (.int .i64 nw)).setCell ⟨O,11,none⟩ (.slice y7 n7 d7)):=lies_cell S7_0 11 (.slice y7 n7 d7) rfl off (by have:=Oa7.out;omega)
 have Y7:Hid (Lies w [Thing.box O (gc kd ex le (.slice y1 n1 d1) (.slice y2 n2 d2) (.slice y3 n3 d3) (.slice y4 n4 d4) mo (.slice y5 n5 d5) (.slice y6 n6 d6) nw (.slice y7 n7 d7) nx dr) 50,Thing.box P (gc kd ex le (.slice x.a1 n1 x.c1) (.slice x.a2 n2 x.c2) (.slice x.a3 n3 x.c3) (.slice x.a4 n4 x.c4) mo (.slice x.a5 n5 x.c5) (.slice x.a6 n6 x.c6) nw (.slice x.a7 n7 x.c7) nx dr) 50,Thing.box R gz 50,Thing.was (fun W=>RtRow b1 W (.slice y1 n1 d1) g.routes) b1 t1,Thing.was (fun W=>RuRow b2 W (.slice y2 n2 d2) g.rules) b2 t2,Thing.was (fun W=>NdRow b3 W (.slice y3 n3 d3) g.tree) b3 t3,Thing.was (fun W=>IRow b4 W (.slice y4 n4 d4) g.leaves) b4 t4,Thing.was (fun W=>IzG b5 (.slice y5 n5 d5) vs5 g.rows.lists W) b5 t5,Thing.was (fun W=>SrRow b6 W (.slice y6 n6 d6) g.steers) b6 t6,Thing.was (fun W=>FwG b7 (.slice y7 n7 d7) rs7 g.fair.flows W) b7 t7] ((U7.setCell ⟨O,10,none⟩ (.int .i64 nw)).setCell ⟨O,11,none⟩ (.slice y7 n7 d7))):=S7_1
 clear off S7_0 S7_1
 have sz:((U7.setCell ⟨O,10,none⟩ (.int .i64 nw)).setCell ⟨O,11,none⟩ (.slice y7 n7 d7)).heap.size=U7.heap.size:=by simp [World.setCell]
 have Sz:Hid (_=_):=sz
 clear sz
 go_upto_region 9 with fail
 generalize ((U7.setCell ⟨O,10,none⟩ (.int .i64 nw)).setCell ⟨O,11,none⟩ (.slice y7 n7 d7))=X7 at Y7 Sz ⊢
 clear hOl e10 f10 e11 f11 T7
 have Ob7:Hid (P=w.heap.size∧R=P+1∧O=P+2∧O+1≤b1∧b1≤t1∧t1≤b2∧b2≤t2∧t2≤b3∧b3≤t3∧t3≤b4∧b4≤t4∧t4≤b5∧b5≤t5∧t5≤b6∧b6≤t6∧t6≤b7∧b7≤t7∧t7≤X7.heap.size):=by rw [Sz.out];exact Oa7.out
 clear Sz Oa7
 go_wp2_with (first|(refine wpList_load_row rfl 50 (.tmp 3) rfl O rfl _ _ _ _ (show Boxed _ _ _ _ from Y7.out.1.1) Tryz.underlying50 rfl (by kernel_rfl) ?_)|(refine wpList_store_row rfl 50 (.tmp 2) (.tmp 38) rfl R _ rfl rfl _ _ (show Boxed _ _ _ _ from Y7.out.1.2.2.1) (by kernel_rfl) rfl (by simp [Value.oneCell']) ?_))
 have hz:(X7.setRow R (gc kd ex le (.slice y1 n1 d1) (.slice y2 n2 d2) (.slice y3 n3 d3) (.slice y4 n4 d4) mo (.slice y5 n5 d5) (.slice y6 n6 d6) nw (.slice y7 n7 d7) nx dr)).heap.size=X7.heap.size:=size_setRow _ _ _
 refine bodyPost_ret (results_cell_row Tryz.results32 _ _ R _ _ _ _ rfl (setRow_heap _ R _ _ _ _ (show Boxed _ _ _ _ from Y7.out.1.2.2.1)) Tryz.underlying50 rfl (by kernel_rfl)) rfl ⟨?_,below_setRow Y7.out.2 (by have:=Ob7.out;omega) _⟩
 have oo:=Ob7.out
 have G1:RtRow b1 (X7.setRow R (gc kd ex le (.slice y1 n1 d1) (.slice y2 n2 d2) (.slice y3 n3 d3) (.slice y4 n4 d4) mo (.slice y5 n5 d5) (.slice y6 n6 d6) nw (.slice y7 n7 d7) nx dr)) (.slice y1 n1 d1) g.routes:=was_now (b:=b1) (t:=t1) (Q:=fun W=>RtRow b1 W (.slice y1 n1 d1) g.routes) ((Thing.was (fun W=>RtRow b1 W (.slice y1 n1 d1) g.routes) b1 t1).keep (show (Thing.was (fun W=>RtRow b1 W (.slice y1 n1 d1) g.routes) b1 t1).P X7 from Y7.out.1.2.2.2.1) (by rw [hz];exact Nat.le_refl _) (fun k k1 k2=>setRow_other _ _ _ _ (by have k3:b1≤k:=k1;omega))) (fun h g=>h.carry fun k hk hl=>g k (h.lt k hk).1 hl)
 have G2:RuRow b2 (X7.setRow R (gc kd ex le (.slice y1 n1 d1) (.slice y2 n2 d2) (.slice y3 n3 d3) (.slice y4 n4 d4) mo (.slice y5 n5 d5) (.slice y6 n6 d6) nw (.slice y7 n7 d7) nx dr)) (.slice y2 n2 d2) g.rules:=was_now (b:=b2) (t:=t2) (Q:=fun W=>RuRow b2 W (.slice y2 n2 d2) g.rules) ((Thing.was (fun W=>RuRow b2 W (.slice y2 n2 d2) g.rules) b2 t2).keep (show (Thing.was (fun W=>RuRow b2 W (.slice y2 n2 d2) g.rules) b2 t2).P X7 from Y7.out.1.2.2.2.2.1) (by rw [hz];exact Nat.le_refl _) (fun k k1 k2=>setRow_other _ _ _ _ (by have k3:b2≤k:=k1;omega))) (fun h g=>h.carry fun k hk hl=>g k (h.lt k hk).1 hl)
 have G3:NdRow b3 (X7.setRow R (gc kd ex le (.slice y1 n1 d1) (.slice y2 n2 d2) (.slice y3 n3 d3) (.slice y4 n4 d4) mo (.slice y5 n5 d5) (.slice y6 n6 d6) nw (.slice y7 n7 d7) nx dr)) (.slice y3 n3 d3) g.tree:=was_now (b:=b3) (t:=t3) (Q:=fun W=>NdRow b3 W (.slice y3 n3 d3) g.tree) ((Thing.was (fun W=>NdRow b3 W (.slice y3 n3 d3) g.tree) b3 t3).keep (show (Thing.was (fun W=>NdRow b3 W (.slice y3 n3 d3) g.tree) b3 t3).P X7 from Y7.out.1.2.2.2.2.2.1) (by rw [hz];exact Nat.le_refl _) (fun k k1 k2=>setRow_other _ _ _ _ (by have k3:b3≤k:=k1;omega))) (fun h g=>h.carry fun k hk hl=>g k (h.lt k hk).1 hl)
 have G4:IRow b4 (X7.setRow R (gc kd ex le (.slice y1 n1 d1) (.slice y2 n2 d2) (.slice y3 n3 d3) (.slice y4 n4 d4) mo (.slice y5 n5 d5) (.slice y6 n6 d6) nw (.slice y7 n7 d7) nx dr)) (.slice y4 n4 d4) g.leaves:=was_now (b:=b4) (t:=t4) (Q:=fun W=>IRow b4 W (.slice y4 n4 d4) g.leaves) ((Thing.was (fun W=>IRow b4 W (.slice y4 n4 d4) g.leaves) b4 t4).keep (show (Thing.was (fun W=>IRow b4 W (.slice y4 n4 d4) g.leaves) b4 t4).P X7 from Y7.out.1.2.2.2.2.2.2.1) (by rw [hz];exact Nat.le_refl _) (fun k k1 k2=>setRow_other _ _ _ _ (by have k3:b4≤k:=k1;omega))) (fun h g=>h.carry fun k k1 k2=>g k k1 k2)
 have G5:IzG b5 (.slice y5 n5 d5) vs5 g.rows.lists (X7.setRow R (gc kd ex le (.slice y1 n1 d1) (.slice y2 n2 d2) (.slice y3 n3 d3) (.slice y4 n4 d4) mo (.slice y5 n5 d5) (.slice y6 n6 d6) nw (.slice y7 n7 d7) nx dr)):=was_now (b:=b5) (t:=t5) (Q:=fun W=>IzG b5 (.slice y5 n5 d5) vs5 g.rows.lists W) ((Thing.was (fun W=>IzG b5 (.slice y5 n5 d5) vs5 g.rows.lists W) b5 t5).keep (show (Thing.was (fun W=>IzG b5 (.slice y5 n5 d5) vs5 g.rows.lists W) b5 t5).P X7 from Y7.out.1.2.2.2.2.2.2.2.1) (by rw [hz];exact Nat.le_refl _) (fun k k1 k2=>setRow_other _ _ _ _ (by have k3:b5≤k:=k1;omega))) (fun h g=>h.other g)
 have G6:SrRow b6 (X7.setRow R (gc kd ex le (.slice y1 n1 d1) (.slice y2 n2 d2) (.slice y3 n3 d3) (.slice y4 n4 d4) mo (.slice y5 n5 d5) (.slice y6 n6 d6) nw (.slice y7 n7 d7) nx dr)) (.slice y6 n6 d6) g.steers:=was_now (b:=b6) (t:=t6) (Q:=fun W=>SrRow b6 W (.slice y6 n6 d6) g.steers) ((Thing.was (fun W=>SrRow b6 W (.slice y6 n6 d6) g.steers) b6 t6).keep (show (Thing.was (fun W=>SrRow b6 W (.slice y6 n6 d6) g.steers) b6 t6).P X7 from Y7.out.1.2.2.2.2.2.2.2.2.1) (by rw [hz];exact Nat.le_refl _) (fun k k1 k2=>setRow_other _ _ _ _ (by have k3:b6≤k:=k1;omega))) (fun h g=>h.carry fun k hk hl=>g k (h.lt k hk).1 hl)
 have G7:FwG b7 (.slice y7 n7 d7) rs7 g.fair.flows (X7.setRow R (gc kd ex le (.slice y1 n1 d1) (.slice y2 n2 d2) (.slice y3 n3 d3) (.slice y4 n4 d4) mo (.slice y5 n5 d5) (.slice y6 n6 d6) nw (.slice y7 n7 d7) nx dr)):=was_now (b:=b7) (t:=t7) (Q:=fun W=>FwG b7 (.slice y7 n7 d7) rs7 g.fair.flows W) ((Thing.was (fun W=>FwG b7 (.slice y7 n7 d7) rs7 g.fair.flows W) b7 t7).keep (show (Thing.was (fun W=>FwG b7 (.slice y7 n7 d7) rs7 g.fair.flows W) b7 t7).P X7 from Y7.out.1.2.2.2.2.2.2.2.2.2.1) (by rw [hz];exact Nat.le_refl _) (fun k k1 k2=>setRow_other _ _ _ _ (by have k3:b7≤k:=k1;omega))) (fun h g=>h.other g)
 have lt4:∀ k,(Value.slice y4 n4 d4).ownBlock=some k→k<t4:=fun k hk=>by
  obtain ⟨w0,q,h1,_⟩:=(show (Thing.was (fun W=>IRow b4 W (.slice y4 n4 d4) g.leaves) b4 t4).P X7 from Y7.out.1.2.2.2.2.2.2.1)
  exact Nat.lt_of_lt_of_le (IRow.lt q k hk).2 h1
 refine ⟨(⟨y1,d1,y2,d2,y3,d3,y4,d4,y5,d5,y6,d6,y7,d7⟩:Ga),vs5,rs7,by rw [HV.out],?_⟩
 refine ⟨(V1.out _ _ _ _ G1).mono (by omega),(V2.out _ _ _ _ G2).mono (by omega),(V3.out _ _ _ _ G3).mono (by omega),(V4.out _ _ _ _ G4).mono (by omega),(V5.out _ _ _ _ _ G5).mono (by omega),(V6.out _ _ _ _ G6).mono (by omega),(V7.out _ _ _ _ _ G7).mono (by omega),?_⟩
 intro i k hi hk hk2
 have e4:(Value.slice y4 g.leaves.length d4) = .slice y4 n4 d4:=by rw [L4.out.1]
 have a1:=lt4 k (by rw [← e4];exact hk2)
 have a2:=((G7.row i hi).lt k hk).1
 omega
end Go.Proofs.YtmfabeghfdoibaaGreat
