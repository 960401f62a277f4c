import Derived.Test.YtgebghkcikmfaaaGreatDoorQP23GtFn
namespace Go.Proofs.YtgebghkcikmfaaaGreatDoor
open Go.RowKit
theorem payP_snoc (size:Int):∀ (p:List Int) (x:Int) (l:List Nd),payP l size (p++[x])=(payP l size p).set x.toNat ((ndAt (payP l size p) x.toNat).less size)
 |[],_,_=>rfl
 |_ :: p,x,l=>by rw [List.cons_append,payP,payP,payP_snoc size p x]
theorem pay_step {l:List Nd} {size:Int} {P:List Int} {i k:Nat} (hn:P.Nodup) (hb:∀ x∈P,0≤x∧x<l.length) (hi:i<P.length) (hk:P[i]?.getD 0=(k:Int)) (hkl:k<l.length) :
 (payP l size (P.take (i+1)))=(payP l size (P.take i)).set k ((ndAt (payP l size (P.take i)) k).less size)∧ndAt (payP l size (P.take i)) k=ndAt l k:=by
 have e0:P[i]=(k:Int):=by rw [List.getElem?_eq_getElem hi] at hk;exact hk
 constructor
 ·rw [List.take_succ_eq_append_getElem hi,payP_snoc,e0,Int.toNat_natCast]
 ·rw [payP_at size _ _ ((List.take_sublist i P).nodup hn) (fun x hx=>hb x (List.mem_of_mem_take hx)) k hkl,if_neg]
  intro hm
  obtain ⟨j,hj,e⟩:=List.getElem_of_mem hm
  rw [List.length_take] at hj
  rw [List.getElem_take,← e0] at e
  exact List.pairwise_iff_getElem.1 hn j i (by omega) hi (by omega) e
end Go.Proofs.YtgebghkcikmfaaaGreatDoor
