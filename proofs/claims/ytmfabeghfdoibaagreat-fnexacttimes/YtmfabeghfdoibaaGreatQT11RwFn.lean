import Derived.Test.YtmfabeghfdoibaaGreatQT5RwPlain
namespace Go.Proofs.YtmfabeghfdoibaaGreat
open Go.RowKit
def It.ok (i:It):Bool:=inB 1 1000000 i.id&&(inB 1 100000 i.size&&inB 0 1099511627776 i.tm)
def goodIts (most:Int) (l:List It):Prop:=(∀ x∈l,x.ok=true)∧(l.map It.id).Nodup∧(l.length:Int)≤most
theorem goodIts.left {most:Int} {a b:List It} (h:goodIts most (a++b)):goodIts most a:=by
 refine ⟨fun x hx=>h.1 x (List.mem_append_left _ hx),?_,?_⟩
 ·have:=h.2.1
  rw [List.map_append] at this
  exact (List.nodup_append.1 this).1
 ·have:=h.2.2
  simp at this
  omega
theorem goodIts.nil {most:Int} (h:0≤most):goodIts most []:=⟨by simp,by simp,by simpa using h⟩
theorem goodIts.one {most:Int} {a:List It} {x:It} (h:goodIts most a):goodIts most (a++[x])↔x.ok=true∧x.id∉a.map It.id∧(a.length:Int)<most:=by
 constructor
 ·intro g
  refine ⟨g.1 x (by simp),?_,?_⟩
  ·have:=g.2.1
   rw [List.map_append,List.nodup_append] at this
   intro hm
   exact this.2.2 _ hm _ (by simp) rfl
  ·have:=g.2.2
   simp at this
   omega
 ·rintro ⟨h1,h2,h3⟩
  refine ⟨?_,?_,?_⟩
  ·intro y hy
   rcases List.mem_append.1 hy with hy|hy
   ·exact h.1 y hy
   ·rw [List.mem_singleton.1 hy];exact h1
  ·rw [List.map_append,List.nodup_append]
   refine ⟨h.2.1,by simp,?_⟩
   intro y hy z hz e
   simp at hz
   subst hz
   subst e
   exact h2 hy
  ·simp
   omega
def Rw.all (r:Rw):List It:=r.lists.flatten
def Rw.pre (r:Rw) (i k:Nat):List It:=(r.lists.take i).flatten++(izAt r.lists i).take k
theorem pre_zero (r:Rw):r.pre 0 0=[]:=by simp [Rw.pre]
theorem pre_next {r:Rw} {i:Nat} (h:i<r.lists.length):r.pre (i+1) 0=r.pre i (izAt r.lists i).length:=by
 unfold Rw.pre
 rw [List.take_succ_eq_append_getElem h,izAt_lt h,List.take_length,List.take_zero,List.append_nil,List.flatten_append]
 simp
theorem pre_step {r:Rw} {i k:Nat} (hk:k<(izAt r.lists i).length):r.pre i (k+1)=r.pre i k++[itAt (izAt r.lists i) k]:=by
 unfold Rw.pre
 rw [List.take_succ_eq_append_getElem hk,itAt_lt hk,List.append_assoc]
theorem pre_end (r:Rw):r.pre r.lists.length 0=r.all:=by simp [Rw.pre,Rw.all]
theorem pre_all {r:Rw} {i:Nat} (h:i<r.lists.length) (k:Nat):∃ t,r.all=r.pre i k++t:=by
 refine ⟨(izAt r.lists i).drop k++(r.lists.drop (i+1)).flatten,?_⟩
 unfold Rw.all Rw.pre
 have e:r.lists=r.lists.take i++izAt r.lists i :: r.lists.drop (i+1):=by
  rw [izAt_lt h,← List.drop_eq_getElem_cons h,List.take_append_drop]
 conv=>lhs;rw [e]
 rw [List.flatten_append,List.flatten_cons,List.append_assoc]
 congr 1
 rw [← List.append_assoc,List.take_append_drop]
def Rw.Right (r:Rw):Prop:=(1≤r.most∧r.most≤200)∧(1≤r.lists.length∧r.lists.length≤16)∧goodIts r.most r.all
def Rw.ok (r:Rw):Bool:=(inB 1 200 r.most&&decide (1≤r.lists.length∧r.lists.length≤16))&&(r.all.all It.ok&&(decide (r.all.map It.id).Nodup&&decide ((r.all.length:Int)≤r.most)))
theorem Rw.ok_iff {r:Rw}:r.ok=true↔r.Right:=by
 unfold Rw.ok Rw.Right goodIts
 simp only [Bool.and_eq_true,inB_true,decide_eq_true_eq,List.all_eq_true]
 constructor
 ·rintro ⟨⟨h1,h2⟩,h3,h4,h5⟩
  exact ⟨h1,h2,h3,h4,h5⟩
 ·rintro ⟨h1,h2,h3,h4,h5⟩
  exact ⟨⟨h1,h2⟩,h3,h4,h5⟩
theorem Rw.ok_no {r:Rw}:r.ok=false↔¬ r.Right:=by rw [← Rw.ok_iff];simp
theorem all_length (r:Rw):r.all.length=izSum r.lists r.lists.length:=by
 unfold Rw.all izSum
 rw [List.take_length,List.length_flatten]
theorem pre_no {r:Rw} {i k:Nat} (h:i<r.lists.length) (hn:¬ goodIts r.most (r.pre i k)):r.ok=false:=by
 rw [Rw.ok_no]
 intro hr
 obtain ⟨t,ht⟩:=pre_all h k
 have:=hr.2.2
 rw [ht] at this
 exact hn this.left
end Go.Proofs.YtmfabeghfdoibaaGreat
