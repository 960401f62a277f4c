import Derived.Test.YtgebghkcikmfaaaGreatDoorQP4GtOwn
import Derived.Test.YtgebghkcikmfaaaGreatDoorQP19FsSpec
set_option maxHeartbeats 6400000
set_option maxRecDepth 100000
namespace Go.Proofs.YtgebghkcikmfaaaGreatDoor
open Go.RowKit
section
variable {base g cap:Nat} {v u:Value} {rs:List Fwr} {l:List Fw} {wr wx:World} {j:Nat}
theorem fwset0 (rs:List Fwr) (j:Nat) (hj:j<rs.length) (z:Int):(fwcells rs).set (j*3) (.int .i64 z)=fwcells (rs.set j ⟨z,(fwrAt rs j).finish,(fwrAt rs j).hd⟩):=by
 rw [← fwcells_set rs j ⟨z,(fwrAt rs j).finish,(fwrAt rs j).hd⟩]
 have hg:=fwcells_get rs j (by omega)
 have hcl:=fwcells_length rs
 apply List.ext_getElem?
 intro i
 simp only [List.getElem?_set]
 repeat' split
 all_goals first|rfl|(exfalso;omega)|skip
 all_goals (try subst_vars)
 all_goals first|rfl|(exfalso;simp only [List.length_set] at *;omega)|(simp only [hg];done)|(rw [hg.1])|(rw [hg.2.1])|(rw [hg.2.2])
theorem fwset1 (rs:List Fwr) (j:Nat) (hj:j<rs.length) (z:Int):(fwcells rs).set (j*3+1) (.int .i64 z)=fwcells (rs.set j ⟨(fwrAt rs j).weight,z,(fwrAt rs j).hd⟩):=by
 rw [← fwcells_set rs j ⟨(fwrAt rs j).weight,z,(fwrAt rs j).hd⟩]
 have hg:=fwcells_get rs j (by omega)
 have hcl:=fwcells_length rs
 apply List.ext_getElem?
 intro i
 simp only [List.getElem?_set]
 repeat' split
 all_goals first|rfl|(exfalso;omega)|skip
 all_goals (try subst_vars)
 all_goals first|rfl|(exfalso;simp only [List.length_set] at *;omega)|(simp only [hg];done)|(rw [hg.1])|(rw [hg.2.1])|(rw [hg.2.2])
theorem fwset2 (rs:List Fwr) (j:Nat) (hj:j<rs.length) (u:Value):(fwcells rs).set (j*3+2) u=fwcells (rs.set j ⟨(fwrAt rs j).weight,(fwrAt rs j).finish,u⟩):=by
 rw [← fwcells_set rs j ⟨(fwrAt rs j).weight,(fwrAt rs j).finish,u⟩]
 have hg:=fwcells_get rs j (by omega)
 have hcl:=fwcells_length rs
 apply List.ext_getElem?
 intro i
 simp only [List.getElem?_set]
 repeat' split
 all_goals first|rfl|(exfalso;omega)|skip
 all_goals (try subst_vars)
 all_goals first|rfl|(exfalso;simp only [List.length_set] at *;omega)|(simp only [hg];done)|(rw [hg.1])|(rw [hg.2.1])|(rw [hg.2.2])
theorem FwG.place (h:FwG base v rs l wr) (hj:j<l.length):∃ g cap,v = .slice (some ⟨g,0,none⟩) l.length cap∧base≤g∧g<wr.heap.size:=by
 rcases h.outer.2 with ⟨_,e⟩|⟨g,cap,cur,e,hb,hg,_⟩
 ·omega
 ·exact ⟨g,cap,e,hb,heapLt hg⟩
theorem FwG.cells (h:FwG base (.slice (some ⟨g,0,none⟩) l.length cap) rs l wr) (hj:j<l.length) :
 wr.cell? ⟨g,j*3,none⟩=some (.int .i64 (fwAt l j).weight)∧wr.cell? ⟨g,j*3+1,none⟩=some (.int .i64 (fwAt l j).finish)∧wr.cell? ⟨g,j*3+2,none⟩=some (fwrAt rs j).hd∧∀ o,wr.frozen? ⟨g,o,none⟩=false:=by
 have hl:=h.len
 obtain ⟨e0,e1,e2⟩:=fwcells_get rs j (by omega)
 obtain ⟨n0,n1⟩:=h.num j hj
 refine ⟨?_,?_,?_,fun o=>h.outer.frozenAt o⟩
 ·rw [h.outer.cellAt _ (by omega),e0,n0]
 ·rw [h.outer.cellAt _ (by omega),e1,n1]
 ·rw [h.outer.cellAt _ (by omega),e2]
theorem FwG.off (h:FwG base (.slice (some ⟨g,0,none⟩) l.length cap) rs l wr) {b2:Nat} {L:List Int} (hu:IRow b2 wr u L):u.ownBlock≠some g :=
 fwrows_unlike h.outer hu fwTypes g rfl
theorem FwG.finish (h:FwG base (.slice (some ⟨g,0,none⟩) l.length cap) rs l wr) (hj:j<l.length) (z:Int) :
 FwG base (.slice (some ⟨g,0,none⟩) l.length cap) (rs.set j ⟨(fwrAt rs j).weight,z,(fwrAt rs j).hd⟩) (l.set j ⟨(fwAt l j).weight,z,(fwAt l j).sizes⟩) (wr.setCell ⟨g,j*3+1,none⟩ (.int .i64 z)):=by
 have hl:=h.len
 have e1:∀ i,(fwrAt (rs.set j ⟨(fwrAt rs j).weight,z,(fwrAt rs j).hd⟩) i).hd=(fwrAt rs i).hd:=fun i=>by
  by_cases hij:i=j
  ·subst hij;rw [fwrAt_set (by omega)]
  ·rw [fwrAt_other hij]
 have e2:∀ i,(fwAt (l.set j ⟨(fwAt l j).weight,z,(fwAt l j).sizes⟩) i).sizes=(fwAt l i).sizes:=fun i=>by
  by_cases hij:i=j
  ·subst hij;rw [fwAt_set hj]
  ·rw [fwAt_other hij]
 refine ⟨?_,by rw [List.length_set,List.length_set,hl],fun i hi=>?_,fun i hi=>?_,fun i k x hi hk hne=>?_⟩
 ·have:=h.outer.stored (j*3+1) (.int .i64 z)
  rw [fwset1 rs j (by omega) z] at this
  rw [List.length_set]
  exact this.1
 ·rw [List.length_set] at hi
  by_cases hij:i=j
  ·subst hij;rw [fwrAt_set (by omega),fwAt_set hj];exact ⟨(h.num i hj).1,rfl⟩
  ·rw [fwrAt_other hij,fwAt_other hij];exact h.num i hi
 ·rw [List.length_set] at hi
  rw [e1,e2]
  have hr:=h.row i hi
  exact fwrows_carry hr fun k hk _=>Below.heap_setCell _ _ _ _ (fun e=>h.off hr (by rw [hk,e]))
 ·rw [List.length_set] at hi hk
  rw [e1,e1]
  exact h.apart i k x hi hk hne
theorem FwG.sizes (h:FwG base (.slice (some ⟨g,0,none⟩) l.length cap) rs l wr) (hj:j<l.length) {sz:List Int} (hu:IRow base wx u sz)
 (g1:∀ k,k<wr.heap.size→(fwrAt rs j).hd.ownBlock≠some k→wx.heap[k]? = wr.heap[k]?)
 (hn:∀ k,u.ownBlock=some k→(fwrAt rs j).hd.ownBlock=some k∨wr.heap.size≤k) :
 FwG base (.slice (some ⟨g,0,none⟩) l.length cap) (rs.set j ⟨(fwrAt rs j).weight,(fwrAt rs j).finish,u⟩) (l.set j ⟨(fwAt l j).weight,(fwAt l j).finish,sz⟩) (wx.setCell ⟨g,j*3+2,none⟩ u):=by
 have hl:=h.len
 have ho:wx.ownsRow base 116 3 (.slice (some ⟨g,0,none⟩) l.length cap) l.length (fwcells rs):=fwrows_carry h.outer fun k hk hlt=>by
  cases hk
  exact g1 _ hlt (h.off (h.row j hj))
 have hu':u.ownBlock≠some g:=fwrows_unlike ho hu fwTypes g rfl
 refine ⟨?_,by rw [List.length_set,List.length_set,hl],fun i hi=>?_,fun i hi=>?_,fun i k x hi hk hne h1 h2=>?_⟩
 ·have:=ho.stored (j*3+2) u
  rw [fwset2 rs j (by omega) u] at this
  rw [List.length_set]
  exact this.1
 ·rw [List.length_set] at hi
  by_cases hij:i=j
  ·subst hij;rw [fwrAt_set (by omega),fwAt_set hj];exact h.num i hj
  ·rw [fwrAt_other hij,fwAt_other hij];exact h.num i hi
 ·rw [List.length_set] at hi
  by_cases hij:i=j
  ·subst hij
   rw [fwrAt_set (by omega),fwAt_set hj]
   exact fwrows_carry hu fun k hk _=>Below.heap_setCell _ _ _ _ (fun e=>hu' (by rw [hk,e]))
  ·rw [fwrAt_other hij,fwAt_other hij]
   have hr:=h.row i hi
   refine fwrows_carry hr fun k hk hlt=>?_
   rw [Below.heap_setCell _ _ _ _ (fun e=>h.off hr (by rw [hk,e]))]
   exact g1 k hlt (fun q=>h.apart j i k hj hi (fun e=>hij e.symm) q hk)
 ·rw [List.length_set] at hi hk
  by_cases hij:i=j
  ·subst hij
   rw [fwrAt_set (by omega)] at h1
   rw [fwrAt_other (fun e=>hne e.symm)] at h2
   rcases hn x h1 with q|q
   ·exact h.apart i k x hi hk hne q h2
   ·have:=((h.row k hk).lt x h2).2
    omega
  ·rw [fwrAt_other hij] at h1
   by_cases hkj:k=j
   ·subst hkj
    rw [fwrAt_set (by omega)] at h2
    rcases hn x h2 with q|q
    ·exact h.apart i k x hi hk hne h1 q
    ·have:=((h.row i hi).lt x h1).2
     omega
   ·rw [fwrAt_other hkj] at h2
    exact h.apart i k x hi hk hne h1 h2
end
theorem int_row_app {ops:Array Oper} {rest:List Oper} {o:Oper} {a:Act} {Q:Exit→Act→World→Prop} {w:World} (hgd:o.guard=none) (s x:Operand)
 (ho:o.op = .call { callee:=.builtin .append,args:=#[s,x],argTypes:=#[27,27] })
 (base:Nat) (v:Value) (L:List Int) (a0:Option Addr) (m c:Nat) (M:List Int) (hm:M.length=m) (hs:a.eval s=v) (hx:a.eval x = .slice a0 m c) (hr:IRow base w v L) (hM:IntsAt w a0 M) (hn:a0=none→c=0)
 (hl:L.length+M.length≤2097152) (hb:base≤w.heap.size)
 (h:∀ v' w',IRow base w' v' (L++M)→Below base w w'→w.grownBy w' v.ownBlock→(v'.ownBlock=v.ownBlock∨v'.ownBlock=some w.heap.size)→wpList Tryz.prog ops Q rest (a.put o.dst v') w'):wpList Tryz.prog ops Q (o :: rest) a w :=
 wpList_plain hgd fun _ hK=>int_op_app s x ho base v L a0 m c M hm hs hx hr hM hn hl hb (fun v' w' h1 h2 h3 h4=>hK _ _ (h v' w' h1 h2 h3 h4))
theorem fw_row_one {ops:Array Oper} {rest:List Oper} {o:Oper} {a:Act} {Q:Exit→Act→World→Prop} {w:World} (hgd:o.guard=none) (s x:Operand)
 (ho:o.op = .call { callee:=.builtin .append,args:=#[s,x],argTypes:=#[46,46] })
 (base:Nat) (v:Value) (k:Nat) (rs:List Fwr) (r:Fwr) (hu:r.hd.oneCell'=true) (hs:a.eval s=v) (hrow:w.ownsRow base 116 3 v k (fwcells rs)) {n:Nat} (hx:a.eval x = .slice (some ⟨n,0,none⟩) 1 1) (hn:Boxed w n r.cells.toArray 116)
 (hlen:k≤1048576) (hb:base≤w.heap.size)
 (h:∀ v' w',w'.ownsRow base 116 3 v' (k+1) (fwcells (rs++[r]))→Below base w w'→(∀ k,v.ownBlock≠some k→k<w.heap.size→w'.heap[k]? = w.heap[k]?)→wpList Tryz.prog ops Q rest (a.put o.dst v') w'):wpList Tryz.prog ops Q (o :: rest) a w :=
 wpList_plain hgd fun _ hK=>fw_op_at s x ho base v k rs r hu hs hrow hx hn hlen hb (fun v' w' h1 h2 h3=>hK _ _ (h v' w' h1 h2 h3))
structure CpF (w:World) (f:Int) (a:Option Addr) (n c:Nat) (ls:List Fw) (k:Nat) (v:Value) (rs:List Fwr) (wr:World):Prop where
 g:FwG (w.heap.size+3) v rs (ls.take k) wr
 out:Boxed wr (w.heap.size+1+1) #[.int .i64 f,v] 48
 res:Boxed wr (w.heap.size+1) #[.int .i64 0,.slice none 0 0] 48
 box:Boxed wr w.heap.size #[.int .i64 f,.slice a n c] 48
 bel:Below w.heap.size w wr
theorem CpF.add {w:World} {f:Int} {a:Option Addr} {n c:Nat} {ls:List Fw} {k:Nat} {v v' u:Value} {rs:List Fwr} {wr wd wx:World} (h:CpF w f a n c ls k v rs wr) (hk:k<ls.length) (g1:Below wr.heap.size wr wd) (hu:IRow wr.heap.size wd u (fwAt ls k).sizes)
 (ho:wx.ownsRow (w.heap.size+3) 116 3 v' (k+1) (fwcells (rs++[⟨(fwAt ls k).weight,(fwAt ls k).finish,u⟩]))) (g2:∀ y,v.ownBlock≠some y→y<wd.heap.size→wx.heap[y]? = wd.heap[y]?) (g3:Below (w.heap.size+3) wd wx) :
 CpF w f a n c ls (k+1) v' (rs++[⟨(fwAt ls k).weight,(fwAt ls k).finish,u⟩]) (wx.setCell ⟨w.heap.size+1+1,1,none⟩ v'):=by
 have hs:=h.out.under
 have hlk:(ls.take k).length=k:=by simp;omega
 have e:ls.take (k+1)=ls.take k++[fwAt ls k]:=by rw [List.take_succ_eq_append_getElem hk,fwAt_lt hk]
 have hg:FwG (w.heap.size+3) v' (rs++[⟨(fwAt ls k).weight,(fwAt ls k).finish,u⟩]) (ls.take (k+1)) wx:=by
  rw [e]
  exact h.g.add (by omega) g1 hu (by rw [hlk];exact ho) g2
 have b1:∀ y,y<w.heap.size+3→wx.heap[y]? = wr.heap[y]? := fun y hy=>(g3.block y hy).trans (g1.block y (by omega))
 have oth:∀ y,y≠w.heap.size+1+1→(wx.setCell ⟨w.heap.size+1+1,1,none⟩ v').heap[y]? = wx.heap[y]? := fun y hy=>Below.heap_setCell _ _ _ _ hy
 have o1:Boxed wx (w.heap.size+1+1) #[.int .i64 f,v] 48:=(b1 _ (by omega)).trans h.out
 refine ⟨hg.other fun y hy _=>oth y (by omega),o1.put 1 v',?_,?_,?_⟩
 ·exact (oth _ (by omega)).trans ((b1 _ (by omega)).trans h.res)
 ·exact (oth _ (by omega)).trans ((b1 _ (by omega)).trans h.box)
 ·exact (h.bel.trans ((g1.mono h.bel.size).trans (g3.mono (by omega)))).setCell (by show w.heap.size≤w.heap.size+1+1;omega) _
theorem specCopyF (d:Fs) (a:Option Addr) (c:Nat) (w:World) (hB:d.big≤1048576) (h:Hid (FwsAt w a d.flows)) :
 Calls Tryz.prog 76 #[d.val a c] w fun e w'=>(∃ v rs,e = .returned (.agg #[.int .i64 d.now,v])∧FwG (w.heap.size+3) v rs d.flows w')∧Below w.heap.size w w':=by
 obtain ⟨hT,-,hin⟩:=Fs.small hB
 obtain ⟨f,ls⟩:=d
 simp only [Fs.val] at h hT hin ⊢
 clear hB
 have Hin:Hid (∀ k,k<ls.length→(fwAt ls k).sizes.length≤1048576):=hin
 obtain ⟨n,hn⟩:∃ n,ls.length=n:=⟨_,rfl⟩
 rw [hn] at hT ⊢
 have Hn:Hid (ls.length=n):=hn
 clear hn hin
 obtain ⟨W,hW⟩:∃ W,W=((w.alloc (.cells #[.int .i64 f,.slice a n c] 48)).alloc (.cells #[.int .i64 0,.slice none 0 0] 48)).alloc (.cells #[.int .i64 f,.slice none 0 0] 48):=⟨_,rfl⟩
 have X:Hid (CpF w f a n c ls 0 (.slice none 0 0) [] W):=by
  rw [hW]
  refine ⟨by rw [List.take_zero];exact FwG.nil _ _,?_,?_,((Boxed.new w _ _).more _).more _,(((Below.refl _ _).alloc nlr _).alloc (by simp) _).alloc (by simp;omega) _⟩
  ·have:=Boxed.new ((w.alloc (.cells #[.int .i64 f,.slice a n c] 48)).alloc (.cells #[.int .i64 0,.slice none 0 0] 48)) #[.int .i64 f,.slice none 0 0] 48
   simpa using this
  ·have:=(Boxed.new (w.alloc (.cells #[.int .i64 f,.slice a n c] 48)) #[.int .i64 0,.slice none 0 0] 48).more (.cells #[.int .i64 f,.slice none 0 0] 48)
   simpa using this
 have HW:Hid (W=_):=hW
 clear hW
 go_enter Tryz.func76,Tryz.ntmps76
 go_wp2
 rw [← HW.out]
 go_loopw [4,5] (fun i _ wr=>∃ k:Nat,k≤n∧i = .int .i64 k∧Hid (∃ v rs,CpF w f a n c ls k v rs wr)) (fun i _ _=>n-(intOf i).toNat)
 case atStart=>exact ⟨0,Nat.zero_le _,rfl,_,_,X.out⟩
 case round =>
  obtain ⟨k,hk,rfl,HE⟩:=hrel
  obtain ⟨v,rs,H1⟩:∃ v rs,Hid (CpF w f a n c ls k v rs wr):=HE.out
  clear X HE
  have c1:wr.cell? ⟨w.heap.size,1,none⟩=some (.slice a n c):=H1.out.box.cell 1 rfl
  by_cases hlt:k<n
  ·have hkl:k<ls.length:=by rw [Hn.out];exact hlt
   obtain ⟨b,off,ak,ck,ha,hb,⟨e0,e1,e2⟩,hr,hcap,hnil⟩:=(h.out.below H1.out.bel) k hkl
   subst ha
   have hm:=Hin.out k hkl
   have Hr:Hid (IntsAt wr ak (fwAt ls k).sizes):=hr
   have Add:Hid (∀ u v' wd wx,Below wr.heap.size wr wd→IRow wr.heap.size wd u (fwAt ls k).sizes→wx.ownsRow (w.heap.size+3) 116 3 v' (k+1) (fwcells (rs++[⟨(fwAt ls k).weight,(fwAt ls k).finish,u⟩]))→(∀ y,v.ownBlock≠some y→y<wd.heap.size→wx.heap[y]? = wd.heap[y]?)→Below (w.heap.size+3) wd wx→CpF w f (some ⟨b,off,none⟩) n c ls (k+1) v' (rs++[⟨(fwAt ls k).weight,(fwAt ls k).finish,u⟩]) (wx.setCell ⟨w.heap.size+1+1,1,none⟩ v')):=fun u v' wd wx q1 q2 q3 q4 q5=>H1.out.add hkl q1 q2 q3 q4 q5
   have Out:Hid (wr.ownsRow (w.heap.size+3) 116 3 v k (fwcells rs)∧w.heap.size+3≤wr.heap.size):=⟨by have:=H1.out.g.outer;rw [List.length_take,Nat.min_eq_left (by omega)] at this;exact this,H1.out.out.under⟩
   generalize fwAt ls k=q at e0 e1 e2 Hr hm Add hr hcap
   obtain ⟨t,u,l⟩:=q
   simp only at e0 e1 e2 Hr hm Add hr hcap
   obtain ⟨m,hml⟩:∃ m,l.length=m:=⟨_,rfl⟩
   rw [hml] at e2 hm hcap
   have Hml:Hid (l.length=m):=hml
   have l2:w.heap.size+1+1<wr.heap.size:=H1.out.out.under
   have hlt':(k:Int)<(n:Int):=by omega
   have N:Hid (Boxed (wr.alloc (.cells #[.int .i64 0,.int .i64 0,.slice none 0 0] 116)) wr.heap.size #[.int .i64 0,.int .i64 0,.slice none 0 0] 116):=Boxed.new _ _ _
   have V:Hid (Boxed ((wr.alloc (.cells #[.int .i64 0,.int .i64 0,.slice none 0 0] 116)).setRow wr.heap.size #[.int .i64 t,.int .i64 u,.slice ak m ck]) wr.heap.size #[.int .i64 t,.int .i64 u,.slice ak m ck] 116∧Below wr.heap.size wr ((wr.alloc (.cells #[.int .i64 0,.int .i64 0,.slice none 0 0] 116)).setRow wr.heap.size #[.int .i64 t,.int .i64 u,.slice ak m ck])) :=
    ⟨setRow_heap _ _ _ _ _ _ N.out,below_setRow ((Below.refl _ _).alloc nlr _) nlr _⟩
   clear hr hml
   go_upto_region 6 with (refine wpList_store_row rfl 116 (.tmp 5) (.tmp 20) rfl wr.heap.size #[.int .i64 t,.int .i64 u,.slice ak m ck] rfl rfl _ _ N.out (by kernel_rfl) rfl (by simp [Value.oneCell']) ?_)
   generalize (wr.alloc (.cells #[.int .i64 0,.int .i64 0,.slice none 0 0] 116)).setRow wr.heap.size #[.int .i64 t,.int .i64 u,.slice ak m ck]=wh at V ⊢
   clear N e0 e1 e2 c1
   have f2:(wh.alloc (.cells #[] 2)).cell? ⟨wr.heap.size,2,none⟩=some (.slice ak m ck):=(V.out.1.more _).cell 2 rfl
   have hbe:Below wh.heap.size wh (wh.alloc (.cells #[] 2)):=(Below.refl _ _).alloc nlr _
   have Ha:Hid (IRow wh.heap.size (wh.alloc (.cells #[] 2)) (.slice (some ⟨wh.heap.size,0,none⟩) 0 0) []∧IntsAt (wh.alloc (.cells #[] 2)) ak l∧wh.heap.size≤(wh.alloc (.cells #[] 2)).heap.size∧Boxed (wh.alloc (.cells #[] 2)) wr.heap.size #[.int .i64 t,.int .i64 u,.slice ak m ck] 116∧Below wr.heap.size wr (wh.alloc (.cells #[] 2))∧wr.heap.size<wh.heap.size) :=
    ⟨irow_built wh wh.heap.size nlr,(Hr.out.below V.out.2).alloc _,by simp,V.out.1.more _,V.out.2.trans (hbe.mono V.out.2.size),V.out.1.under⟩
   clear hbe
   go_upto_region 7 with (refine int_row_app rfl (.tmp 21) (.tmp 23) rfl wh.heap.size (.slice (some ⟨wh.heap.size,0,none⟩) 0 0) [] ak m ck l Hml.out rfl rfl Ha.out.1 Ha.out.2.1 hnil (by rw [Hml.out];simp;omega) Ha.out.2.2.1 ?_;intro uv w2 q1 q2 q3 q4;have q5:IRow wh.heap.size w2 uv l:=(by simpa using q1);obtain ⟨ux,uc,eu⟩:=q5.shape;rw [Hml.out] at eu;subst eu;have bx:Boxed w2 wr.heap.size #[.int .i64 t,.int .i64 u,.slice ak m ck] 116:=Ha.out.2.2.2.1.below Ha.out.2.2.2.2.2 q2;have x2:=bx.cell 2 rfl;have x3:=bx.ice 2;have U:Hid (IRow wh.heap.size w2 (.slice ux m uc) l∧Below wr.heap.size wr w2∧Boxed w2 wr.heap.size #[.int .i64 t,.int .i64 u,.slice ak m ck] 116∧wr.heap.size<wh.heap.size):=⟨q5,Ha.out.2.2.2.2.1.trans (q2.mono (Nat.le_of_lt Ha.out.2.2.2.2.2)),bx,Ha.out.2.2.2.2.2⟩;clear q1 q2 q3 q4 q5 bx)
   have U3:Hid (IRow wr.heap.size (w2.setCell ⟨wr.heap.size,2,none⟩ (.slice ux m uc)) (.slice ux m uc) l∧Below wr.heap.size wr (w2.setCell ⟨wr.heap.size,2,none⟩ (.slice ux m uc))∧Boxed (w2.setCell ⟨wr.heap.size,2,none⟩ (.slice ux m uc)) wr.heap.size #[.int .i64 t,.int .i64 u,.slice ux m uc] 116):=by
    have hl:=U.out.2.2.2
    refine ⟨(U.out.1.carry fun y hy _=>Below.heap_setCell _ _ _ _ (by show y≠wr.heap.size;omega)).mono (Nat.le_of_lt hl),U.out.2.1.setCell nlr _,U.out.2.2.1.put 2 _⟩
   clear x2 x3 U Ha V f2
   generalize w2.setCell ⟨wr.heap.size,2,none⟩ (.slice ux m uc)=w3 at U3 ⊢
   have g1:w3.cell? ⟨w.heap.size+1+1,1,none⟩=some v:=(H1.out.out.below l2 U3.out.2.1).cell 1 rfl
   have hn3:Below w3.heap.size w3 (w3.alloc (.cells #[.int .i64 t,.int .i64 u,.slice ux m uc] 116)):=(Below.refl _ _).alloc nlr _
   have Y:Hid ((w3.alloc (.cells #[.int .i64 t,.int .i64 u,.slice ux m uc] 116)).ownsRow (w.heap.size+3) 116 3 v k (fwcells rs)∧Boxed (w3.alloc (.cells #[.int .i64 t,.int .i64 u,.slice ux m uc] 116)) w3.heap.size #[.int .i64 t,.int .i64 u,.slice ux m uc] 116∧w.heap.size+3≤(w3.alloc (.cells #[.int .i64 t,.int .i64 u,.slice ux m uc] 116)).heap.size∧Below wr.heap.size wr (w3.alloc (.cells #[.int .i64 t,.int .i64 u,.slice ux m uc] 116))∧IRow wr.heap.size (w3.alloc (.cells #[.int .i64 t,.int .i64 u,.slice ux m uc] 116)) (.slice ux m uc) l∧Boxed (w3.alloc (.cells #[.int .i64 t,.int .i64 u,.slice ux m uc] 116)) (w.heap.size+1+1) #[.int .i64 f,v] 48):=by
    have o:=U3.out.2.1.trans (hn3.mono U3.out.2.1.size)
    exact ⟨fwrows_carry Out.out.1 (fun y _ hy=>o.block y hy),Boxed.new _ _ _,Nat.le_trans Out.out.2 o.size,o,U3.out.1.alloc _,H1.out.out.below l2 o⟩
   clear hn3
   obtain ⟨vx,vc,evv⟩:=fwrows_shape Out.out.1
   subst evv
   go_wp2_with (first|(refine wpList_load_row rfl 116 (.tmp 5) rfl wr.heap.size rfl _ _ _ _ U3.out.2.2 Tryz.underlying116 rfl (by kernel_rfl) ?_)|(refine fw_row_one rfl (.tmp 27) (.tmp 29) rfl (w.heap.size+3) (.slice vx k vc) k rs ⟨t,u,.slice ux m uc⟩ rfl rfl Y.out.1 rfl Y.out.2.1 (by omega) Y.out.2.2.1 ?_;intro v' w4 q1 q2 q3;obtain ⟨wx',wc',ev'⟩:=fwrows_shape q1;subst ev';have R3:Hid _:=Add.out _ _ _ _ Y.out.2.2.2.1 Y.out.2.2.2.2.1 q1 q3 q2;have o4:Boxed w4 (w.heap.size+1+1) #[.int .i64 f,.slice vx k vc] 48:=Y.out.2.2.2.2.2.below (by omega) q2;have x4:=o4.cell 1 rfl;have x5:=o4.ice 1;clear q1 q2 q3 o4))
   go_roundw
   case rel=>exact ⟨k+1,by omega,by go_num,_,_,R3.out⟩
   case measure=>simp [intOf];omega
  ·obtain rfl:k=n:=by omega
   have e:ls.take k=ls:=List.take_of_length_le (by rw [Hn.out];exact Nat.le_refl _)
   have HG:Hid (FwG (w.heap.size+3) v rs ls wr):=by have:=H1.out.g;rw [e] at this;exact this
   obtain ⟨vx,vc,ev⟩:=fwrows_shape H1.out.g.outer
   clear e
   subst ev
   go_wp2_with (first|(refine wpList_load_row rfl 48 (.tmp 3) rfl (w.heap.size+1+1) rfl _ _ _ _ H1.out.out Tryz.underlying48 rfl (by kernel_rfl) ?_)|(refine wpList_store_row rfl 48 (.tmp 2) (.tmp 32) rfl (w.heap.size+1) _ rfl rfl _ _ H1.out.res (by kernel_rfl) rfl (by simp [Value.oneCell']) ?_))
   refine bodyPost_ret (results_cell_row Tryz.results76 _ _ (w.heap.size+1) _ _ _ _ rfl (setRow_heap _ (w.heap.size+1) _ _ _ _ H1.out.res) Tryz.underlying48 rfl (by kernel_rfl)) rfl ⟨⟨_,rs,rfl,HG.out.other fun y hy _=>setRow_other _ _ _ _ (by omega)⟩,below_setRow H1.out.bel (by omega) _⟩
end Go.Proofs.YtgebghkcikmfaaaGreatDoor
