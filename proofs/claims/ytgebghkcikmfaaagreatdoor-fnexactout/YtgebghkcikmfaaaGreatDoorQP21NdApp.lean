import Derived.Test.YtgebghkcikmfaaaGreatDoorQP1IntV
import Derived.Handy
namespace Go.Proofs.YtgebghkcikmfaaaGreatDoor
open Go.RowKit
theorem nd_app_run (w:World) (ty:TypeId) (base:Nat) (v:Value) (L:List Nd) (a0:Option Addr) (c:Nat) (M:List Nd) (h:NdRow base w v L) (hM:NdsAt w a0 M) (hn:a0=none→c=0) (hl:L.length+M.length≤2097152) (hb:base≤w.heap.size) :
 ∃ v' w',(Builtin.append_ #[41,41] ty #[v,.slice a0 M.length c]).run Tryz.prog w = .ok v' w'∧NdRow base w' v' (L++M)∧Below base w w'∧w.grownBy w' v.ownBlock∧(v' = .slice none 0 0→v = .slice none 0 0):=by
 obtain ⟨i0,hi0,hz0,hz1,hz2⟩:=info_parts ndInfo
 cases a0 with
 |none =>
  obtain rfl:=hM.empty
  obtain rfl:=hn rfl
  refine ⟨v,w,run_append_owned_none (P:=Tryz.prog) (w:=w) base 41 ty 130 i0 5 Tryz.underlying41 hi0 v _ _ h,by simpa using h,Below.refl _ _,⟨rfl,rfl,rfl,nlr,fun _ _ _=>rfl⟩,id⟩
 |some ad =>
  obtain ⟨v',w',h1,h2,h3,h4⟩:=run_append_own (P:=Tryz.prog) w base 41 ty 130 i0 (.agg #[.int .i64 0,.int .i64 0,.int .i64 0,.int .i64 0,.int .i64 0]) 5 40 Tryz.underlying41 hi0 hz0 hz1 hz2 rfl (by decide) v _ _ h ad M.length c (ndcells M) (ndcells_length M)
   (by
    intro j u hj
    have hj':j<M.length*5:=by
     have:=(List.getElem?_eq_some_iff.1 hj).1
     rwa [ndcells_length] at this
    obtain ⟨k,i,rfl,hi⟩:∃ k i,j=k*5+i∧i<5:=⟨j/5,j%5,by omega,Nat.mod_lt _ (by omega)⟩
    have hk:k<M.length:=by omega
    obtain ⟨b,off,e,_,c0,c1,c2,c3,c4⟩:=hM k hk
    cases e
    obtain ⟨e0,e1,e2,e3,e4⟩:=ndcells_get M k hk
    rw [show (⟨b,off,none⟩:Addr).add (k*5+i)=⟨b,off+k*5+i,none⟩ by by_cases h0:k*5+i=0<;>simp [Addr.add,h0,Nat.add_assoc];omega]
    match i,hi with
    |0,_=>rw [Nat.add_zero] at hj;rw [e0] at hj;rw [Nat.add_zero,c0];exact hj
    |1,_=>rw [e1] at hj;rw [c1];exact hj
    |2,_=>rw [e2] at hj;rw [c2];exact hj
    |3,_=>rw [e3] at hj;rw [c3];exact hj
    |4,_=>rw [e4] at hj;rw [c4];exact hj)
   (ndcells_one M) (by unfold maxLen;omega) (by omega) hb
  refine ⟨v',w',h1,?_,(Below.refl base w).grown h3 hb (fun k hk=>(h.lt k hk).1),h3,fun e=>(h4.1 e).1⟩
  unfold NdRow
  rw [List.length_append,ndcells_append]
  exact h2
theorem nd_app {ops:Array Oper} {rest:List Oper} {o:Oper} {a:Act} {Q:Exit→Act→World→Prop} {w:World} (hgd:o.guard=none) (s x:Operand)
 (ho:o.op = .call { callee:=.builtin .append,args:=#[s,x],argTypes:=#[41,41] })
 (base:Nat) (v:Value) (L:List Nd) (a0:Option Addr) (m c:Nat) (M:List Nd) (hm:M.length=m) (hs:a.eval s=v) (hx:a.eval x = .slice a0 m c) (hr:NdRow base w v L) (hM:NdsAt w a0 M) (hn:a0=none→c=0)
 (hl:L.length+M.length≤2097152) (hb:base≤w.heap.size)
 (h:∀ v' w',NdRow base w' v' (L++M)→Below base w w'→w.grownBy w' v.ownBlock→(v' = .slice none 0 0→v = .slice none 0 0)→wpList Tryz.prog ops Q rest (a.put o.dst v') w') :
 wpList Tryz.prog ops Q (o :: rest) a w:=by
 subst hm
 obtain ⟨v',w',hrun,h1,h2,h3,h4⟩:=nd_app_run w o.type base v L a0 c M hr hM hn hl hb
 refine wpList_plain hgd fun _ hK=>?_
 unfold Oper.wp
 simp [execOp,ho,resolve,invoke,builtin,hs,hx,hrun,Result.andThen]
 exact hK _ _ (h v' w' h1 h2 h3 h4)
theorem nd_built (w:World) (base:Nat) (hb:base≤w.heap.size):NdRow base (w.alloc (.cells #[] 130)) (.slice (some ⟨w.heap.size,0,none⟩) 0 0) [] :=
 World.ownsRow_lit (size:=5) w #[] 0 hb (by unfold maxLen;omega) rfl
end Go.Proofs.YtgebghkcikmfaaaGreatDoor
