import Derived.Test.YtmfabeghfdoibaaGreatQT4FsPlain
namespace Go.Proofs.YtmfabeghfdoibaaGreat
open Go.RowKit
structure FwB (ls:List Fw) (len G k:Nat) (rs:List Fwr) (wr:World):Prop where
 outer:wr.ownsRow G 109 3 (.slice (some ⟨G,0,none⟩) len len) len (fwcells (rs++List.replicate (len-k) (Fwr.mk 0 0 (.slice none 0 0))))
 len:rs.length=k
 num:∀ i,i<k→(fwrAt rs i).weight=(fwAt ls i).weight∧(fwrAt rs i).finish=(fwAt ls i).finish
 row:∀ i,i<k→IRow G wr (fwrAt rs i).hd (fwAt ls i).sizes
 hdr:∀ i,i<k→∃ x,(fwrAt rs i).hd = .slice (some ⟨x,0,none⟩) (fwAt ls i).sizes.length (fwAt ls i).sizes.length∧G<x∧x<wr.heap.size
 apart:∀ i j,i<k→j<k→i≠j→(fwrAt rs i).hd.ownBlock≠(fwrAt rs j).hd.ownBlock
section
variable {ls:List Fw} {len G k:Nat} {rs:List Fwr} {wr wd:World}
theorem FwB.below (h:FwB ls len G k rs wr) (gr:Below wr.heap.size wr wd):FwB ls len G k rs wd:=by
 refine ⟨?_,h.len,h.num,fun i hi=>(h.row i hi).carry fun x _ hx=>gr.block x hx,fun i hi=>?_,h.apart⟩
 ·have hh:=h.outer
  refine ⟨hh.1,hh.2.imp id ?_⟩
  rintro ⟨g0,cp,cur,h1,h2,h3,h4⟩
  exact ⟨g0,cp,cur,h1,h2,by rw [gr.block g0 (Array.getElem?_eq_some_iff.1 h3).1];exact h3,h4⟩
 ·obtain ⟨x,e,h1,h2⟩:=h.hdr i hi
  exact ⟨x,e,h1,Nat.lt_of_lt_of_le h2 gr.size⟩
theorem FwB.add (h:FwB ls len G k rs wr) (hk:k<len) (gr:Below wr.heap.size wr wd) {x:Nat} (hx:IRow wr.heap.size wd (.slice (some ⟨x,0,none⟩) (fwAt ls k).sizes.length (fwAt ls k).sizes.length) (fwAt ls k).sizes) :
 FwB ls len G (k+1) (rs++[⟨(fwAt ls k).weight,(fwAt ls k).finish,.slice (some ⟨x,0,none⟩) (fwAt ls k).sizes.length (fwAt ls k).sizes.length⟩]) (((wd.setCell ⟨G,k*3,none⟩ (.int .i64 (fwAt ls k).weight)).setCell ⟨G,k*3+1,none⟩ (.int .i64 (fwAt ls k).finish)).setCell ⟨G,k*3+2,none⟩ (.slice (some ⟨x,0,none⟩) (fwAt ls k).sizes.length (fwAt ls k).sizes.length)):=by
 have hb:=h.below gr
 have hG:G<wr.heap.size:=(World.ownsRow.lt h.outer G rfl).2
 obtain ⟨x1,x2⟩:=hx.lt x rfl
 have hl:=h.len
 have oth:∀ y,y≠G→((((wd.setCell ⟨G,k*3,none⟩ (.int .i64 (fwAt ls k).weight)).setCell ⟨G,k*3+1,none⟩ (.int .i64 (fwAt ls k).finish)).setCell ⟨G,k*3+2,none⟩ (.slice (some ⟨x,0,none⟩) (fwAt ls k).sizes.length (fwAt ls k).sizes.length))).heap[y]? = wd.heap[y]? := fun y hy=>by
  rw [Below.heap_setCell _ _ _ _ (by exact hy),Below.heap_setCell _ _ _ _ (by exact hy),Below.heap_setCell _ _ _ _ (by exact hy)]
 have sz:((((wd.setCell ⟨G,k*3,none⟩ (.int .i64 (fwAt ls k).weight)).setCell ⟨G,k*3+1,none⟩ (.int .i64 (fwAt ls k).finish)).setCell ⟨G,k*3+2,none⟩ (.slice (some ⟨x,0,none⟩) (fwAt ls k).sizes.length (fwAt ls k).sizes.length))).heap.size=wd.heap.size:=by simp [World.setCell]
 refine ⟨?_,by simp [hl],fun i hi=>?_,fun i hi=>?_,fun i hi=>?_,fun i j hi hj hne=>?_⟩
 ·have h0:=hb.outer
  have h0:=(h0.stored (k*3) (.int .i64 (fwAt ls k).weight)).1
  have h0:=(h0.stored (k*3+1) (.int .i64 (fwAt ls k).finish)).1
  have h0:=(h0.stored (k*3+2) (.slice (some ⟨x,0,none⟩) (fwAt ls k).sizes.length (fwAt ls k).sizes.length)).1
  have hs:=fwcells_set (rs++List.replicate (len-k) (Fwr.mk 0 0 (.slice none 0 0))) k ⟨(fwAt ls k).weight,(fwAt ls k).finish,.slice (some ⟨x,0,none⟩) (fwAt ls k).sizes.length (fwAt ls k).sizes.length⟩
  simp only at hs
  rw [hs] at h0
  have e:(rs++List.replicate (len-k) (Fwr.mk 0 0 (.slice none 0 0))).set k ⟨(fwAt ls k).weight,(fwAt ls k).finish,.slice (some ⟨x,0,none⟩) (fwAt ls k).sizes.length (fwAt ls k).sizes.length⟩=(rs++[⟨(fwAt ls k).weight,(fwAt ls k).finish,.slice (some ⟨x,0,none⟩) (fwAt ls k).sizes.length (fwAt ls k).sizes.length⟩])++List.replicate (len-(k+1)) (Fwr.mk 0 0 (.slice none 0 0)):=by
   obtain ⟨n,hn⟩:∃ n,len-k=n+1:=⟨len-k-1,by omega⟩
   rw [hn,show len-(k+1)=n by omega,List.replicate_succ,List.set_append_right _ _ (by omega),hl,Nat.sub_self,List.set_cons_zero]
   simp
  rw [e] at h0
  exact h0
 ·by_cases e:i=k
  ·subst e
   rw [← hl,fwrAt_new,hl]
   exact ⟨rfl,rfl⟩
  ·rw [fwrAt_old (by omega)]
   exact h.num i (by omega)
 ·by_cases e:i=k
  ·subst e
   rw [← hl,fwrAt_new,hl]
   exact (hx.carry fun y hy hlt=>oth y (by omega)).mono (by omega)
  ·rw [fwrAt_old (by omega)]
   obtain ⟨z,e1,e2,_⟩:=h.hdr i (by omega)
   have hr:=hb.row i (by omega)
   refine ⟨hr.1,hr.2.imp id ?_⟩
   rintro ⟨g0,cp,cur,h1,h2,h3,h4⟩
   refine ⟨g0,cp,cur,h1,h2,?_,h4⟩
   rw [oth g0 ?_]
   ·exact h3
   ·rw [e1] at h1
    cases h1
    omega
 ·by_cases e:i=k
  ·subst e
   rw [← hl,fwrAt_new,hl]
   exact ⟨x,rfl,by omega,by rw [sz];exact x2⟩
  ·rw [fwrAt_old (by omega)]
   obtain ⟨z,e1,e2,e3⟩:=hb.hdr i (by omega)
   exact ⟨z,e1,e2,by rw [sz];exact e3⟩
 ·have old:∀ i,i<k→(fwrAt (rs++[⟨(fwAt ls k).weight,(fwAt ls k).finish,.slice (some ⟨x,0,none⟩) (fwAt ls k).sizes.length (fwAt ls k).sizes.length⟩]) i).hd.ownBlock≠some x:=by
   intro i hi
   rw [fwrAt_old (by omega)]
   obtain ⟨z,e1,_,e3⟩:=h.hdr i hi
   rw [e1]
   show some z≠some x
   intro e
   cases e
   omega
  have new:(fwrAt (rs++[⟨(fwAt ls k).weight,(fwAt ls k).finish,.slice (some ⟨x,0,none⟩) (fwAt ls k).sizes.length (fwAt ls k).sizes.length⟩]) k).hd.ownBlock=some x:=by
   rw [← hl,fwrAt_new]
   rfl
  by_cases ei:i=k
  ·subst ei
   rw [new]
   exact fun e=>old j (by omega) e.symm
  ·by_cases ej:j=k
   ·subst ej
    rw [new]
    exact old i (by omega)
   ·rw [fwrAt_old (by omega),fwrAt_old (by omega)]
    exact h.apart i j (by omega) (by omega) hne
theorem FwB.done (h:FwB ls len G len rs wr) (hl:ls.length=len):FwV G wr.heap.size wr (.slice (some ⟨G,0,none⟩) len len) rs ls:=by
 subst hl
 have ho:=h.outer
 rw [Nat.sub_self,List.replicate_zero,List.append_nil] at ho
 refine ⟨SlIn.of_row ho (fun k hk=>(World.ownsRow.lt ho k hk).2) nlr,h.len,h.num,fun i hi=>IntIn.of_row (h.row i hi) (fun k hk=>((h.row i hi).lt k hk).2) nlr,fun i hi=>?_,fun i j k o hi hj hne h1 h2=>?_,fun i k o hi h1 h2=>?_⟩
 ·obtain ⟨x,e,_⟩:=h.hdr i hi
  exact ⟨_,_,e,nlr,fun h=>by cases h⟩
 ·exact h.apart i j hi hj hne ((fwOwn h1).trans (fwOwn h2).symm)
 ·obtain ⟨x,e,h3,_⟩:=h.hdr i hi
  have e1:=fwOwn h1
  have e2:=fwOwn h2
  rw [e] at e1
  cases e1
  cases e2
  omega
end
theorem fwMade (n:Nat):(madeCells #[.int .i64 0,.int .i64 0,.slice none 0 0] (n*3)).toList=fwcells (List.replicate n (Fwr.mk 0 0 (.slice none 0 0))):=by
 apply List.ext_getElem?
 intro i
 by_cases hi:i<n*3
 ·obtain ⟨q,r,rfl,hr⟩:∃ q r,i=q*3+r∧r<3:=⟨i/3,i%3,by omega,by omega⟩
  have hq:q<n:=by omega
  have hk:=fwcells_get (List.replicate n (Fwr.mk 0 0 (.slice none 0 0))) q (by simpa using hq)
  rw [fwrAt_lt (by simpa using hq)] at hk
  simp only [List.getElem_replicate] at hk
  have hm:(madeCells #[.int .i64 0,.int .i64 0,.slice none 0 0] (n*3)).toList[q*3+r]? = (#[.int .i64 0,.int .i64 0,.slice none 0 0]:Array Value)[r]? := by
   have hmod:(q*3+r)%3=r:=by omega
   simp [madeCells,hi,hmod]
   match r,hr with
   |0,_=>rfl
   |1,_=>rfl
   |2,_=>rfl
  rw [hm]
  match r,hr with
  |0,_=>first|(rw [Nat.add_zero,hk.1];rfl)|(simpa using hk.1.symm)
  |1,_=>exact (hk.2.1).symm
  |2,_=>exact (hk.2.2).symm
 ·rw [List.getElem?_eq_none (by simp [madeCells];omega),List.getElem?_eq_none (by rw [fwcells_length];simp;omega)]
end Go.Proofs.YtmfabeghfdoibaaGreat
