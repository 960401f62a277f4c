import Derived.Test.YtmfabeghfdoibaaGreatQT13AppWhere
import Derived.Deep.RegionLaw
import Derived.Test.YtmfabeghfdoibaaGreatQT4FsPlain
namespace Go.Proofs.YtmfabeghfdoibaaGreat
open Go.RowKit
theorem intsEmpty {w:World} {l:List Int} (h:IntsAt w none l):l=[]:=by
 cases l with
 |nil=>rfl
 |cons z zs=>obtain ⟨b,off,e,_⟩:=h 0 (by simp);cases e
theorem int_app_run (w:World) (ty:TypeId) (base:Nat) (v:Value) (L:List Int) (a0:Option Addr) (c:Nat) (M:List Int) (h:IRow base w v L) (hM:IntsAt w a0 M) (hn:a0=none→c=0) (hl:L.length+M.length≤2097152) (hb:base≤w.heap.size) :
 ∃ v' w',(Builtin.append_ #[27,27] ty #[v,.slice a0 M.length c]).run Tryz.prog w = .ok v' w'∧IRow base w' v' (L++M)∧Below base w w'∧w.grownBy w' v.ownBlock∧(v' = .slice none 0 0→v = .slice none 0 0)∧(v'.ownBlock=v.ownBlock∨v'.ownBlock=some w.heap.size):=by
 obtain ⟨i0,hi0,hz0,hz1,hz2⟩:=info_parts info2'
 cases a0 with
 |none =>
  obtain rfl:=intsEmpty hM
  obtain rfl:=hn rfl
  exact ⟨v,w,run_append_owned_none (P:=Tryz.prog) (w:=w) base 27 ty 2 i0 1 Tryz.underlying27 hi0 v _ _ h,by simpa using h,Below.refl _ _,⟨rfl,rfl,rfl,nlr,fun _ _ _=>rfl⟩,id,.inl rfl⟩
 |some ad =>
  obtain ⟨v',w',h1,h2,h3,h4,h5⟩:=run_append_where (P:=Tryz.prog) w base 27 ty 2 i0 (.int .i64 0) 1 8 Tryz.underlying27 hi0 hz0 hz1 hz2 rfl (by decide) v _ _ h ad M.length c (M.map (Value.int .i64)) (by simp)
   (by
    intro j u hj
    have hj':j<M.length:=by have:=(List.getElem?_eq_some_iff.1 hj).1;simpa using this
    obtain ⟨b,off,e,_,c0⟩:=hM j hj'
    cases e
    rw [show (⟨b,off,none⟩:Addr).add j=⟨b,off+j,none⟩ by by_cases h0:j=0<;>simp [Addr.add,h0],c0]
    rw [List.getElem?_map,List.getElem?_eq_getElem hj'] at hj
    rw [List.getElem?_eq_getElem hj']
    simpa using hj)
   (by intro u hu;simp at hu;obtain ⟨y,_,rfl⟩:=hu;rfl) (by unfold maxLen;omega) (by omega) hb
  refine ⟨v',w',h1,?_,(Below.refl base w).grown h3 hb (fun k hk=>(h.lt k hk).1),h3,fun e=>(h4.1 e).1,h5⟩
  unfold IRow
  rw [List.length_append,List.map_append]
  exact h2
theorem int_op_app {o:Oper} {a:Act} {K:Act→World→Prop} {Q:Exit→Act→World→Prop} {w:World} (s x:Operand)
 (ho:o.op = .call { callee:=.builtin .append,args:=#[s,x],argTypes:=#[27,27] })
 (base:Nat) (v:Value) (L:List Int) (a0:Option Addr) (m c:Nat) (M:List Int) (hm:M.length=m) (hs:a.eval s=v) (hx:a.eval x = .slice a0 m c) (hr:IRow base w v L) (hM:IntsAt w a0 M) (hn:a0=none→c=0)
 (hl:L.length+M.length≤2097152) (hb:base≤w.heap.size)
 (h:∀ v' w',IRow base w' v' (L++M)→Below base w w'→w.grownBy w' v.ownBlock→(v'.ownBlock=v.ownBlock∨v'.ownBlock=some w.heap.size)→K (a.put o.dst v') w'):o.wp Tryz.prog a w K Q:=by
 subst hm
 obtain ⟨v',w',hrun,h1,h2,h3,h4,h5⟩:=int_app_run w o.type base v L a0 c M hr hM hn hl hb
 unfold Oper.wp
 simp [execOp,ho,resolve,invoke,builtin,hs,hx,hrun,Result.andThen]
 exact h v' w' h1 h2 h3 h5
structure FwG (base:Nat) (v:Value) (rs:List Fwr) (l:List Fw) (wr:World):Prop where
 outer:wr.ownsRow base 109 3 v l.length (fwcells rs)
 len:rs.length=l.length
 num:∀ i,i<l.length→(fwrAt rs i).weight=(fwAt l i).weight∧(fwrAt rs i).finish=(fwAt l i).finish
 row:∀ i,i<l.length→IRow base wr (fwrAt rs i).hd (fwAt l i).sizes
 apart:∀ i j k,i<l.length→j<l.length→i≠j→(fwrAt rs i).hd.ownBlock=some k→(fwrAt rs j).hd.ownBlock≠some k
section
variable {base:Nat} {v v' u:Value} {rs:List Fwr} {l:List Fw} {wr wd wx:World}
theorem fwTypes:(109:TypeId)≠2:=by decide
theorem fwrows_unlike {b1 b2:Nat} {e1 e2:TypeId} {c1 c2 n1 n2:Nat} {v1 v2:Value} {x1 x2:List Value} {w:World} (h1:w.ownsRow b1 e1 c1 v1 n1 x1) (h2:w.ownsRow b2 e2 c2 v2 n2 x2) (hne:e1≠e2) (k:Nat) (hk:v1.ownBlock=some k):v2.ownBlock≠some k:=by
 intro hk2
 rcases h1.2 with ⟨rfl,_⟩|⟨g,cap,cur,rfl,_,hg,_⟩
 ·cases hk
 rcases h2.2 with ⟨rfl,_⟩|⟨g',cap',cur',rfl,_,hg',_⟩
 ·cases hk2
 cases hk
 cases hk2
 rw [hg] at hg'
 simp only [Option.some.injEq,Obj.cells.injEq] at hg'
 exact hne hg'.2.1
theorem fwrows_shape {b:Nat} {e:TypeId} {c n:Nat} {v:Value} {xs:List Value} {w:World} (h:w.ownsRow b e c v n xs):∃ a cap,v = .slice a n cap:=by
 rcases h.2 with ⟨rfl,rfl⟩|⟨g,cap,cur,rfl,_⟩
 ·exact ⟨none,0,rfl⟩
 ·exact ⟨_,_,rfl⟩
theorem fwrows_carry {b:Nat} {e:TypeId} {c n:Nat} {v:Value} {xs:List Value} {w w':World} (h:w.ownsRow b e c v n xs) (g:∀ k,v.ownBlock=some k→k<w.heap.size→w'.heap[k]? = w.heap[k]?):w'.ownsRow b e c v n xs:=by
 refine ⟨h.1,h.2.imp id ?_⟩
 rintro ⟨g0,cap,cur,h1,h2,h3,h4⟩
 exact ⟨g0,cap,cur,h1,h2,by rw [g g0 (by rw [h1];rfl) (Array.getElem?_eq_some_iff.1 h3).1];exact h3,h4⟩
theorem FwG.nil (base:Nat) (w:World):FwG base (.slice none 0 0) [] [] w :=
 ⟨World.ownsRow_nil w base _ 3,rfl,fun i hi=>by simp at hi,fun i hi=>by simp at hi,fun i j k hi=>by simp at hi⟩
theorem FwG.below (h:FwG base v rs l wr) (gr:Bel wr wd):FwG base v rs l wd :=
 ⟨fwrows_carry h.outer fun k _ hk=>gr.block k hk,h.len,h.num,fun i hi=>fwrows_carry (h.row i hi) fun k _ hk=>gr.block k hk,h.apart⟩
theorem FwG.other (h:FwG base v rs l wr) (gr:∀ k,base≤k→k<wr.heap.size→wd.heap[k]? = wr.heap[k]?):FwG base v rs l wd :=
 ⟨fwrows_carry h.outer fun k hk hl=>gr k (World.ownsRow.lt h.outer k hk).1 hl,h.len,h.num,fun i hi=>fwrows_carry (h.row i hi) fun k hk hl=>gr k ((h.row i hi).lt k hk).1 hl,h.apart⟩
theorem FwG.add (h:FwG base v rs l wr) {r:Fw} (hb:base≤wr.heap.size) (g1:Bel wr wd) (hu:IRow wr.heap.size wd u r.sizes) (ho:wx.ownsRow base 109 3 v' (l.length+1) (fwcells (rs++[⟨r.weight,r.finish,u⟩]))) (g2:∀ k,v.ownBlock≠some k→k<wd.heap.size→wx.heap[k]? = wd.heap[k]?) :
 FwG base v' (rs++[⟨r.weight,r.finish,u⟩]) (l++[r]) wx:=by
 have hd:=h.below g1
 have hl:=h.len
 have e1:∀ i,i<l.length→fwrAt (rs++[⟨r.weight,r.finish,u⟩]) i=fwrAt rs i:=fun i hi=>fwrAt_old (by omega)
 have e2:fwrAt (rs++[⟨r.weight,r.finish,u⟩]) l.length=⟨r.weight,r.finish,u⟩:=by rw [← hl];exact fwrAt_new
 refine ⟨by simpa using ho,by simp [hl],fun i hi=>?_,fun i hi=>?_,fun i j k hi hj hne h1 h2=>?_⟩
 ·rw [List.length_append,List.length_singleton] at hi
  by_cases e:i=l.length
  ·subst e
   rw [e2,fwAt_new]
   exact ⟨rfl,rfl⟩
  ·rw [e1 i (by omega),fwAt_old (by omega)]
   exact h.num i (by omega)
 ·rw [List.length_append,List.length_singleton] at hi
  by_cases e:i=l.length
  ·subst e
   rw [e2,fwAt_new]
   have hu':IRow wr.heap.size wx u r.sizes:=fwrows_carry hu fun k hk hlt=>g2 k (fun q=>by have a1:=(hu.lt k hk).1;have a2:=(World.ownsRow.lt h.outer k q).2;omega) hlt
   exact hu'.mono hb
  ·rw [e1 i (by omega),fwAt_old (by omega)]
   refine fwrows_carry (hd.row i (by omega)) fun k hk hlt=>g2 k (fun q=>?_) hlt
   exact fwrows_unlike hd.outer (hd.row i (by omega)) fwTypes k q hk
 ·rw [List.length_append,List.length_singleton] at hi hj
  have new:∀ i,i<l.length→(fwrAt rs i).hd.ownBlock=some k→u.ownBlock≠some k:=fun i hi a1 a2=>by
   have b1:=((h.row i hi).lt k a1).2
   have b2:=(hu.lt k a2).1
   omega
  by_cases ei:i=l.length
  ·subst ei
   rw [e2] at h1
   rw [e1 j (by omega)] at h2
   exact new j (by omega) h2 h1
  ·rw [e1 i (by omega)] at h1
   by_cases ej:j=l.length
   ·subst ej
    rw [e2] at h2
    exact new i (by omega) h1 h2
   ·rw [e1 j (by omega)] at h2
    exact h.apart i j k (by omega) (by omega) hne h1 h2
theorem FwG.done (h:FwG base v rs l wr):FwV base wr.heap.size wr v rs l:=by
 refine ⟨SlIn.of_row h.outer (fun k hk=>(World.ownsRow.lt h.outer k hk).2) nlr,h.len,h.num,fun i hi=>IntIn.of_row (h.row i hi) (fun k hk=>((h.row i hi).lt k hk).2) nlr,fun i hi=>?_,fun i j k o hi hj hne h1 h2=>?_,fun i k o hi h1 h2=>?_⟩
 ·obtain ⟨a,c,e⟩:=(h.row i hi).shape
  have hr:=h.row i hi
  rw [e] at hr
  refine ⟨a,c,e,?_,hr.none⟩
  rcases hr.2 with ⟨e1,e2⟩|⟨g0,cap,cur,e1,_,_,h4,_⟩
  ·rw [e2];exact Nat.zero_le _
  ·simp only [Value.slice.injEq] at e1;rw [e1.2.2];exact h4
 ·exact h.apart i j k hi hj hne (fwOwn h1) (fwOwn h2)
 ·exact fwrows_unlike h.outer (h.row i hi) fwTypes k (fwOwn h2) (fwOwn h1)
end
theorem fw_op_at {o:Oper} {a:Act} {w:World} {K:Act→World→Prop} {Q:Exit→Act→World→Prop} (s x:Operand)
 (ho:o.op = .call { callee:=.builtin .append,args:=#[s,x],argTypes:=#[46,46] })
 (base:Nat) (v:Value) (k:Nat) (rs:List Fwr) (r:Fwr) (hu:r.hd.oneCell'=true) (hs:a.eval s=v) (hrow:w.ownsRow base 109 3 v k (fwcells rs)) {n:Nat} (hx:a.eval x = .slice (some ⟨n,0,none⟩) 1 1) (hn:Boxed w n r.cells.toArray 109)
 (hlen:k≤1048576) (hb:base≤w.heap.size)
 (h:∀ v' w',w'.ownsRow base 109 3 v' (k+1) (fwcells (rs++[r]))→Below base w w'→(∀ k,v.ownBlock≠some k→k<w.heap.size→w'.heap[k]? = w.heap[k]?)→K (a.put o.dst v') w'):o.wp Tryz.prog a w K Q:=by
 obtain ⟨i0,hi,hz0,hz1,hz2⟩:=info_parts fwInfo
 obtain ⟨v',w',hrun,h1,h2,_⟩:=run_append_own (P:=Tryz.prog) w base 46 o.type 109 i0 _ 3 40 Tryz.underlying46 hi hz0 hz1 hz2 rfl (by decide) v _ _ hrow ⟨n,0,none⟩ 1 1 r.cells rfl
  (by
   intro j u hj
   have e:(⟨n,0,none⟩:Addr).add j=⟨n,j,none⟩:=by by_cases h0:j=0<;>simp [Addr.add,h0]
   rw [e]
   exact hn.cell j (by simpa using hj)) (by intro y hy;simp only [Fwr.cells,List.mem_cons,List.not_mem_nil,or_false] at hy;rcases hy with rfl|rfl|rfl<;>first|rfl|exact hu) (by unfold maxLen;omega) (by omega) hb
 unfold Oper.wp
 simp [execOp,ho,resolve,invoke,builtin,hs,hx,hrun,Result.andThen]
 refine h v' w' ?_ ?_ ?_
 ·rw [fwcells_append]
  simpa [fwcells] using h1
 ·exact (Below.refl base w).grown h2 hb (fun j hj=>(World.ownsRow.lt hrow j hj).1)
 ·intro j hj hl
  exact h2.block j hl (fun e=>hj e.symm)
end Go.Proofs.YtmfabeghfdoibaaGreat
