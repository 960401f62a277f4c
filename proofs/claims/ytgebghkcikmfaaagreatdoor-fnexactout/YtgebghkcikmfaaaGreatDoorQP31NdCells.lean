import Derived.Test.YtgebghkcikmfaaaGreatDoorQP23GtFn
namespace Go.Proofs.YtgebghkcikmfaaaGreatDoor
open Go.RowKit
theorem ndcells_level (l:List Nd) (k:Nat) (size:Int) (hk:k<l.length):(ndcells l).set (k*5+3) (.int .i64 ((ndAt l k).pz.level-size))=ndcells (l.set k ((ndAt l k).less size)):=by
 induction l generalizing k with
 |nil=>simp at hk
 |cons x l ih =>
  cases k with
  |zero=>simp [ndcells_cons,ndAt,Nd.less]
  |succ k =>
   have e:ndAt (x :: l) (k+1)=ndAt l k:=by simp [ndAt]
   rw [show (k+1)*5+3=(k*5+3)+5 by omega,List.set_cons_succ,ndcells_cons,ndcells_cons,e,← ih k (by simpa using hk)]
   rfl
end Go.Proofs.YtgebghkcikmfaaaGreatDoor
