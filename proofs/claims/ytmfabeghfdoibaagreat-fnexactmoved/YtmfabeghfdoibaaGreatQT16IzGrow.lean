import Derived.Test.YtmfabeghfdoibaaGreatQT5RwPlain
import Derived.Test.YtmfabeghfdoibaaGreatQT15Quiet
import Derived.Laws.AppendOwnNone
import Derived.Lib.SliceRun
import Derived.WalkSpells
import Derived.WalkLawsBesides
import Derived.Handy
import Derived.Test.YtmfabeghfdoibaaGreatQT13AppWhere
import Derived.Deep.RegionLaw
namespace Go.Proofs.YtmfabeghfdoibaaGreat
open Go.RowKit
theorem it_app_run (w:World) (ty:TypeId) (base:Nat) (v:Value) (L:List It) (a0:Option Addr) (c:Nat) (M:List It) (h:ItRow base w v L) (hM:ItsAt w a0 M) (hn:a0=none→c=0) (hl:L.length+M.length≤2097152) (hb:base≤w.heap.size) :
 ∃ v' w',(Builtin.append_ #[78,78] ty #[v,.slice a0 M.length c]).run Tryz.prog w = .ok v' w'∧ItRow base w' v' (L++M)∧Below base w w'∧w.grownBy w' v.ownBlock∧(v' = .slice none 0 0→v = .slice none 0 0):=by
 obtain ⟨i0,hi0,hz0,hz1,hz2⟩:=info_parts itInfo
 cases a0 with
 |none =>
  obtain rfl:=hM.empty
  obtain rfl:=hn rfl
  refine ⟨v,w,run_append_owned_none (P:=Tryz.prog) (w:=w) base 78 ty 80 i0 3 Tryz.underlying78 hi0 v _ _ h,by simpa using h,Below.refl _ _,⟨rfl,rfl,rfl,nlr,fun _ _ _=>rfl⟩,id⟩
 |some ad =>
  obtain ⟨v',w',h1,h2,h3,h4⟩:=run_append_own (P:=Tryz.prog) w base 78 ty 80 i0 (.agg #[.int .i64 0,.int .i64 0,.int .i64 0]) 3 24 Tryz.underlying78 hi0 hz0 hz1 hz2 rfl (by decide) v _ _ h ad M.length c (itcells M) (itcells_length M)
   (by
    intro j u hj
    have hj':j<M.length*3:=by
     have:=(List.getElem?_eq_some_iff.1 hj).1
     rwa [itcells_length] at this
    obtain ⟨k,i,rfl,hi⟩:∃ k i,j=k*3+i∧i<3:=⟨j/3,j%3,by omega,Nat.mod_lt _ (by omega)⟩
    have hk:k<M.length:=by omega
    obtain ⟨b,off,e,_,c0,c1,c2⟩:=hM k hk
    cases e
    obtain ⟨e0,e1,e2⟩:=itcells_get M k hk
    rw [show (⟨b,off,none⟩:Addr).add (k*3+i)=⟨b,off+k*3+i,none⟩ by by_cases h0:k*3+i=0<;>simp [Addr.add,h0,Nat.add_assoc];omega]
    match i,hi with
    |0,_=>rw [Nat.add_zero] at hj;rw [e0] at hj;rw [Nat.add_zero,c0];exact hj
    |1,_=>rw [e1] at hj;rw [c1];exact hj
    |2,_=>rw [e2] at hj;rw [c2];exact hj)
   (itcells_one M) (by unfold maxLen;omega) (by omega) hb
  refine ⟨v',w',h1,?_,(Below.refl base w).grown h3 hb (fun k hk=>(h.lt k hk).1),h3,fun e=>(h4.1 e).1⟩
  unfold ItRow
  rw [List.length_append,itcells_append]
  exact h2
theorem it_op_app {o:Oper} {a:Act} {K:Act→World→Prop} {Q:Exit→Act→World→Prop} {w:World} (s x:Operand)
 (ho:o.op = .call { callee:=.builtin .append,args:=#[s,x],argTypes:=#[78,78] })
 (base:Nat) (v:Value) (L:List It) (a0:Option Addr) (m c:Nat) (M:List It) (hm:M.length=m) (hs:a.eval s=v) (hx:a.eval x = .slice a0 m c) (hr:ItRow base w v L) (hM:ItsAt w a0 M) (hn:a0=none→c=0)
 (hl:L.length+M.length≤2097152) (hb:base≤w.heap.size)
 (h:∀ v' w',ItRow base w' v' (L++M)→Below base w w'→w.grownBy w' v.ownBlock→(v' = .slice none 0 0→v = .slice none 0 0)→K (a.put o.dst v') w'):o.wp Tryz.prog a w K Q:=by
 subst hm
 obtain ⟨v',w',hrun,h1,h2,h3,h4⟩:=it_app_run w o.type base v L a0 c M hr hM hn hl hb
 unfold Oper.wp
 simp [execOp,ho,resolve,invoke,builtin,hs,hx,hrun,Result.andThen]
 exact h v' w' h1 h2 h3 h4
theorem it_built (w:World) (base:Nat) (hb:base≤w.heap.size):ItRow base (w.alloc (.cells #[] 80)) (.slice (some ⟨w.heap.size,0,none⟩) 0 0) [] :=
 World.ownsRow_lit (size:=3) w #[] 0 hb (by unfold maxLen;omega) rfl
theorem ItRow.some {base:Nat} {w:World} {v:Value} {l:List It} (h:ItRow base w v l) (hv:v ≠ .slice .none 0 0):∃ g cap,v = .slice (.some ⟨g,0,.none⟩) l.length cap:=by
 rcases h.2 with ⟨e,_⟩|⟨g,cap,cur,e,_⟩
 ·exact absurd e hv
 ·exact ⟨g,cap,e⟩
structure IzG (base:Nat) (v:Value) (vs:List Value) (ls:List (List It)) (wr:World):Prop where
 outer:wr.ownsRow base 78 1 v ls.length vs
 len:vs.length=ls.length
 row:∀ i,i<ls.length→ItRow base wr (izV vs i) (izAt ls i)
 apart:∀ i j k,i<ls.length→j<ls.length→i≠j→(izV vs i).ownBlock=some k→(izV vs j).ownBlock≠some k
section
variable {base:Nat} {v v' u:Value} {vs:List Value} {ls:List (List It)} {l:List It} {wr wd wx:World}
theorem izTypes:(78:TypeId)≠80:=by decide
theorem rows_unlike {b1 b2:Nat} {e1 e2:TypeId} {c1 c2 n1 n2:Nat} {v1 v2:Value} {x1 x2:List Value} {w:World} (h1:w.ownsRow b1 e1 c1 v1 n1 x1) (h2:w.ownsRow b2 e2 c2 v2 n2 x2) (hne:e1≠e2) (k:Nat) (hk:v1.ownBlock=some k):v2.ownBlock≠some k:=by
 intro hk2
 rcases h1.2 with ⟨rfl,_⟩|⟨g,cap,cur,rfl,_,hg,_⟩
 ·cases hk
 rcases h2.2 with ⟨rfl,_⟩|⟨g',cap',cur',rfl,_,hg',_⟩
 ·cases hk2
 cases hk
 cases hk2
 rw [hg] at hg'
 simp only [Option.some.injEq,Obj.cells.injEq] at hg'
 exact hne hg'.2.1
theorem rows_shape {b:Nat} {e:TypeId} {c n:Nat} {v:Value} {xs:List Value} {w:World} (h:w.ownsRow b e c v n xs):∃ a cap,v = .slice a n cap:=by
 rcases h.2 with ⟨rfl,rfl⟩|⟨g,cap,cur,rfl,_⟩
 ·exact ⟨none,0,rfl⟩
 ·exact ⟨_,_,rfl⟩
theorem IzG.nil (base:Nat) (w:World):IzG base (.slice none 0 0) [] [] w :=
 ⟨World.ownsRow_nil w base _ 1,rfl,fun i hi=>by simp at hi,fun i j k hi=>by simp at hi⟩
theorem rows_carry {b:Nat} {e:TypeId} {c n:Nat} {v:Value} {xs:List Value} {w w':World} (h:w.ownsRow b e c v n xs) (g:∀ k,v.ownBlock=some k→k<w.heap.size→w'.heap[k]? = w.heap[k]?):w'.ownsRow b e c v n xs:=by
 refine ⟨h.1,h.2.imp id ?_⟩
 rintro ⟨g0,cap,cur,h1,h2,h3,h4⟩
 exact ⟨g0,cap,cur,h1,h2,by rw [g g0 (by rw [h1];rfl) (Array.getElem?_eq_some_iff.1 h3).1];exact h3,h4⟩
theorem IzG.below (h:IzG base v vs ls wr) (g:Below wr.heap.size wr wd):IzG base v vs ls wd :=
 ⟨rows_carry h.outer fun k _ hk=>g.block k hk,h.len,fun i hi=>(h.row i hi).carry fun k _ hk=>g.block k hk,h.apart⟩
theorem IzG.other (h:IzG base v vs ls wr) (g:∀ k,base≤k→k<wr.heap.size→wd.heap[k]? = wr.heap[k]?):IzG base v vs ls wd :=
 ⟨rows_carry h.outer fun k hk hl=>g k (World.ownsRow.lt h.outer k hk).1 hl,h.len,fun i hi=>(h.row i hi).carry fun k hk hl=>g k ((h.row i hi).lt k hk).1 hl,h.apart⟩
theorem IzG.add (h:IzG base v vs ls wr) (hb:base≤wr.heap.size) (g1:Below wr.heap.size wr wd) (hu:ItRow wr.heap.size wd u l) (ho:wx.ownsRow base 78 1 v' (ls.length+1) (vs++[u])) (g2:∀ k,v.ownBlock≠some k→k<wd.heap.size→wx.heap[k]? = wd.heap[k]?) :
 IzG base v' (vs++[u]) (ls++[l]) wx:=by
 have hd:=h.below g1
 have hl:=h.len
 have e1:∀ i,i<ls.length→izV (vs++[u]) i=izV vs i:=fun i hi=>izV_old (by omega)
 have e2:izV (vs++[u]) ls.length=u:=by rw [← hl];exact izV_new
 have f1:∀ i,i<ls.length→izAt (ls++[l]) i=izAt ls i:=fun i hi=>by unfold izAt;rw [List.getElem?_append_left hi]
 have f2:izAt (ls++[l]) ls.length=l:=by simp [izAt]
 refine ⟨by simpa using ho,by simp [hl],fun i hi=>?_,fun i j k hi hj hne h1 h2=>?_⟩
 ·rw [List.length_append,List.length_singleton] at hi
  by_cases e:i=ls.length
  ·subst e
   rw [e2,f2]
   exact (hu.carry fun k hk hlt=>g2 k (fun q=>by have a1:=(hu.lt k hk).1;have a2:=(World.ownsRow.lt h.outer k q).2;omega) hlt).mono hb
  ·rw [e1 i (by omega),f1 i (by omega)]
   refine (hd.row i (by omega)).carry fun k hk hlt=>g2 k (fun q=>?_) hlt
   exact rows_unlike hd.outer (hd.row i (by omega)) izTypes k q hk
 ·rw [List.length_append,List.length_singleton] at hi hj
  have new:∀ i,i<ls.length→(izV vs i).ownBlock=some k→u.ownBlock≠some k:=fun i hi a1 a2=>by
   have b1:=((h.row i hi).lt k a1).2
   have b2:=(hu.lt k a2).1
   omega
  by_cases ei:i=ls.length
  ·subst ei
   rw [e2] at h1
   rw [e1 j (by omega)] at h2
   exact new j (by omega) h2 h1
  ·rw [e1 i (by omega)] at h1
   by_cases ej:j=ls.length
   ·subst ej
    rw [e2] at h2
    exact new i (by omega) h1 h2
   ·rw [e1 j (by omega)] at h2
    exact h.apart i j k (by omega) (by omega) hne h1 h2
theorem IzG.done (h:IzG base v vs ls wr):IzV base wr.heap.size wr v vs ls:=by
 refine ⟨SlIn.of_row h.outer (fun k hk=>(World.ownsRow.lt h.outer k hk).2) nlr,h.len,fun i hi=>ItIn.of_row (h.row i hi) (fun k hk=>((h.row i hi).lt k hk).2) nlr,fun i hi=>?_,fun i j k o hi hj hne h1 h2=>?_,fun i k o hi h1 h2=>?_⟩
 ·obtain ⟨a,c,e⟩:=(h.row i hi).shape
  have hr:=h.row i hi
  rw [e] at hr
  exact ⟨a,c,e,hr.cap,hr.nilCap⟩
 ·exact h.apart i j k hi hj hne (izOwn h1) (izOwn h2)
 ·exact rows_unlike h.outer (h.row i hi) izTypes k (izOwn h2) (izOwn h1)
end
theorem it_step_app {ops:Array Oper} {o:Oper} {a:Act} {w:World} {K:Act→World→Prop} {Q:Exit→Act→World→Prop} {E:Prop} (hgd:o.guard=none) (s x:Operand)
 (ho:o.op = .call { callee:=.builtin .append,args:=#[s,x],argTypes:=#[78,78] })
 (base:Nat) (v:Value) (L:List It) (a0:Option Addr) (m c:Nat) (M:List It) (hm:M.length=m) (hs:a.eval s=v) (hx:a.eval x = .slice a0 m c) (hr:ItRow base w v L) (hM:ItsAt w a0 M) (hn:a0=none→c=0)
 (hl:L.length+M.length≤2097152) (hb:base≤w.heap.size)
 (h:∀ v' w',ItRow base w' v' (L++M)→Below base w w'→w.grownBy w' v.ownBlock→(v' = .slice none 0 0→v = .slice none 0 0)→K (a.put o.dst v') w') :
 if Region.wanted o (yielded ops a.tmps)=true then Oper.wp Tryz.prog o a w K Q else E:=by
 rw [if_pos (by simp [Region.wanted,hgd])]
 exact it_op_app s x ho base v L a0 m c M hm hs hx hr hM hn hl hb h
theorem iz_step_one {ops:Array Oper} {o:Oper} {a:Act} {w wx:World} {K:Act→World→Prop} {Q:Exit→Act→World→Prop} {E:Prop} (hgd:o.guard=none) (s x:Operand)
 (ho:o.op = .call { callee:=.builtin .append,args:=#[s,x],argTypes:=#[42,42] })
 (base:Nat) (v:Value) (k:Nat) (vs:List Value) (u:Value) (hu:u.oneCell'=true) (hwx:wx=w.alloc (.cells #[u] 78)) (hs:a.eval s=v) (hrow:w.ownsRow base 78 1 v k vs) {n:Nat} (hx:a.eval x = .slice (some ⟨n,0,none⟩) 1 1) (hn:n=w.heap.size)
 (hlen:k≤1048576) (hb:base≤w.heap.size)
 (h:∀ v' w',w'.ownsRow base 78 1 v' (k+1) (vs++[u])→Below base w w'→(∀ k,v.ownBlock≠some k→k<w.heap.size→w'.heap[k]? = w.heap[k]?)→K (a.put o.dst v') w') :
 if Region.wanted o (yielded ops a.tmps)=true then Oper.wp Tryz.prog o a wx K Q else E:=by
 subst hwx
 subst hn
 rw [if_pos (by simp [Region.wanted,hgd])]
 obtain ⟨i0,hi,hz0,hz1,hz2⟩:=info_parts izInfo
 obtain ⟨v',w',hrun,h1,h2,_⟩:=run_append_own (P:=Tryz.prog) (w.alloc (.cells #[u] 78)) base 42 o.type 78 i0 (.slice none 0 0) 1 24 Tryz.underlying42 hi hz0 hz1 hz2 rfl (by decide) v _ _ (World.ownsRow.alloc hrow _) ⟨w.heap.size,0,none⟩ 1 1 [u] rfl
  (by intro j y hj
      match j,hj with
      |0,hj=>simp at hj;subst hj;simp [Addr.add]) (by intro y hy;simp at hy;subst hy;exact hu) (by unfold maxLen;omega) (by omega) (by simp;omega)
 unfold Oper.wp
 simp [execOp,ho,resolve,invoke,builtin,hs,hx,hrun,Result.andThen]
 refine h v' w' h1 ?_ ?_
 ·exact ((Below.refl base w).alloc hb _).grown h2 (by simp;omega) (fun j hj=>(World.ownsRow.lt hrow j hj).1)
 ·intro j hj hl
  rw [h2.block j (by simp;omega) (fun e=>hj e.symm),Below.heap_alloc _ _ _ hl]
end Go.Proofs.YtmfabeghfdoibaaGreat
