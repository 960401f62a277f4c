import Derived.Test.YtmfabeghfdoibaaGreatQT5RwPlain
namespace Go.Proofs.YtmfabeghfdoibaaGreat
open Go.RowKit
structure IzB (ls:List (List It)) (len G k:Nat) (vs:List Value) (wr:World):Prop where
 outer:wr.ownsRow G 78 1 (.slice (some ⟨G,0,none⟩) len len) len (vs++List.replicate (len-k) (.slice none 0 0))
 len:vs.length=k
 row:∀ i,i<k→ItRow G wr (izV vs i) (izAt ls i)
 hdr:∀ i,i<k→∃ g,izV vs i = .slice (some ⟨g,0,none⟩) (izAt ls i).length (izAt ls i).length∧G<g∧g<wr.heap.size
 apart:∀ i j,i<k→j<k→i≠j→(izV vs i).ownBlock≠(izV vs j).ownBlock
section
variable {ls:List (List It)} {len G k:Nat} {vs:List Value} {wr wd:World}
theorem IzB.below (h:IzB ls len G k vs wr) (g:Bel wr wd):IzB ls len G k vs wd:=by
 refine ⟨?_,h.len,fun i hi=>(h.row i hi).carry fun x _ hx=>g.block x hx,fun i hi=>?_,h.apart⟩
 ·have hh:=h.outer
  refine ⟨hh.1,hh.2.imp id ?_⟩
  rintro ⟨g0,cp,cur,h1,h2,h3,h4⟩
  exact ⟨g0,cp,cur,h1,h2,by rw [g.block g0 (Array.getElem?_eq_some_iff.1 h3).1];exact h3,h4⟩
 ·obtain ⟨x,e,h1,h2⟩:=h.hdr i hi
  exact ⟨x,e,h1,Nat.lt_of_lt_of_le h2 g.size⟩
theorem IzB.add (h:IzB ls len G k vs wr) (hk:k<len) (g:Bel wr wd) {x:Nat} (hx:ItRow wr.heap.size wd (.slice (some ⟨x,0,none⟩) (izAt ls k).length (izAt ls k).length) (izAt ls k)) :
 IzB ls len G (k+1) (vs++[.slice (some ⟨x,0,none⟩) (izAt ls k).length (izAt ls k).length]) (wd.setCell ⟨G,k,none⟩ (.slice (some ⟨x,0,none⟩) (izAt ls k).length (izAt ls k).length)):=by
 have hb:=h.below g
 have hG:G<wr.heap.size:=(World.ownsRow.lt h.outer G rfl).2
 obtain ⟨x1,x2⟩:=hx.lt x rfl
 have hl:=h.len
 have oth:∀ y,y≠G→(wd.setCell ⟨G,k,none⟩ (.slice (some ⟨x,0,none⟩) (izAt ls k).length (izAt ls k).length)).heap[y]? = wd.heap[y]? := fun y hy=>Below.heap_setCell _ _ _ _ hy
 have sz:(wd.setCell ⟨G,k,none⟩ (.slice (some ⟨x,0,none⟩) (izAt ls k).length (izAt ls k).length)).heap.size=wd.heap.size:=by simp [World.setCell]
 refine ⟨?_,by simp [hl],fun i hi=>?_,fun i hi=>?_,fun i j hi hj hne=>?_⟩
 ·have:=(hb.outer.stored k (.slice (some ⟨x,0,none⟩) (izAt ls k).length (izAt ls k).length)).1
  have e:(vs++List.replicate (len-k) (Value.slice none 0 0)).set k (.slice (some ⟨x,0,none⟩) (izAt ls k).length (izAt ls k).length)=(vs++[.slice (some ⟨x,0,none⟩) (izAt ls k).length (izAt ls k).length])++List.replicate (len-(k+1)) (.slice none 0 0):=by
   obtain ⟨m,hm⟩:∃ m,len-k=m+1:=⟨len-k-1,by omega⟩
   rw [hm,show len-(k+1)=m by omega,List.replicate_succ,List.set_append_right _ _ (by omega),hl,Nat.sub_self,List.set_cons_zero]
   simp
  rw [e] at this
  exact this
 ·by_cases e:i=k
  ·subst e
   rw [← hl,izV_new,hl]
   exact (hx.carry fun y hy _=>oth y (by cases hy;show x≠G;omega)).mono (by omega)
  ·rw [izV_old (by omega)]
   refine (hb.row i (by omega)).carry fun y hy _=>oth y ?_
   obtain ⟨z,e1,e2,_⟩:=h.hdr i (by omega)
   rw [e1] at hy
   cases hy
   show z≠G
   omega
 ·by_cases e:i=k
  ·subst e
   rw [← hl,izV_new,hl]
   exact ⟨x,rfl,by omega,by rw [sz];exact x2⟩
  ·rw [izV_old (by omega)]
   obtain ⟨z,e1,e2,e3⟩:=hb.hdr i (by omega)
   exact ⟨z,e1,e2,by rw [sz];exact e3⟩
 ·have old:∀ i,i<k→(izV (vs++[.slice (some ⟨x,0,none⟩) (izAt ls k).length (izAt ls k).length]) i).ownBlock≠some x:=by
   intro i hi
   rw [izV_old (by omega)]
   obtain ⟨z,e1,_,e3⟩:=h.hdr i hi
   rw [e1]
   show some z≠some x
   intro e
   cases e
   omega
  have new:(izV (vs++[.slice (some ⟨x,0,none⟩) (izAt ls k).length (izAt ls k).length]) k).ownBlock=some x:=by
   rw [← hl,izV_new]
   rfl
  by_cases ei:i=k
  ·subst ei
   rw [new]
   exact fun e=>old j (by omega) e.symm
  ·by_cases ej:j=k
   ·subst ej
    rw [new]
    exact old i (by omega)
   ·rw [izV_old (by omega),izV_old (by omega)]
    exact h.apart i j (by omega) (by omega) hne
theorem IzB.done (h:IzB ls len G len vs wr) (hl:ls.length=len):IzV G wr.heap.size wr (.slice (some ⟨G,0,none⟩) len len) vs ls:=by
 subst hl
 have ho:=h.outer
 rw [Nat.sub_self,List.replicate_zero,List.append_nil] at ho
 refine ⟨SlIn.of_row ho (fun k hk=>(World.ownsRow.lt ho k hk).2) nlr,h.len,fun i hi=>ItIn.of_row (h.row i hi) (fun k hk=>((h.row i hi).lt k hk).2) nlr,fun i hi=>?_,fun i j k o hi hj hne h1 h2=>?_,fun i k o hi h1 h2=>?_⟩
 ·obtain ⟨g,e,_⟩:=h.hdr i hi
  exact ⟨_,_,e,nlr,fun h=>by cases h⟩
 ·exact h.apart i j hi hj hne ((izOwn h1).trans (izOwn h2).symm)
 ·obtain ⟨g,e,h3,_⟩:=h.hdr i hi
  have e1:=izOwn h1
  have e2:=izOwn h2
  rw [e] at e1
  cases e1
  cases e2
  omega
end
theorem izMade (n:Nat):(madeCells #[Value.slice none 0 0] (n*1)).toList=List.replicate n (.slice none 0 0):=by
 apply List.ext_getElem?
 intro i
 by_cases hi:i<n
 ·simp [madeCells,hi,Nat.mod_one]
 ·rw [List.getElem?_eq_none (by simp [madeCells];omega),List.getElem?_eq_none (by simp;omega)]
end Go.Proofs.YtmfabeghfdoibaaGreat
