import Derived.Test.YtgebghkcikmfaaaGreatDoorQP44SrStirI
import Derived.ProofKit
import Derived.OpenShut
import Derived.LaidLaws
import Derived.ChangeSame
import Derived.ChangeOld
namespace Go.Proofs.YtgebghkcikmfaaaGreatDoor
open Go.ChangeShapes Go.WideShapes Go.ChangeAt Go.RowKit
theorem dvG:Tryz.prog.globalNamed "loop.example/g00316/impl.divisors" = some 2:=by kernel_rfl
theorem dvGType:(Tryz.prog.globals[(2:Nat)]?).map (·.type)=some 300:=by kernel_rfl
theorem dvCells4:Tryz.prog.cellsOf 300=20:=by kernel_rfl
theorem dvCells1:Tryz.prog.cellsOf 299=5:=by kernel_rfl
theorem bwCells:Tryz.prog.cellsOf 296=4:=by kernel_rfl
theorem boolCells:Tryz.prog.cellsOf 4=1:=by kernel_rfl
theorem intCells:Tryz.prog.cellsOf 2=1:=by kernel_rfl
section
variable {H:Type} {enc:TypeId×Value→H} {w:World} {base:Nat} {sp:Nat→Bool} {held:Bool} {fuel:Nat}
theorem bw_of_trod {c0 c1 c2 c3:Value} {b0 b1 b2 b3:Bool} {p:List MemPlace} (h:DataW.trod enc Tryz.prog w base sp held fuel 296 [c0,c1,c2,c3]=some (.agg [.lit (.bool b0),.lit (.bool b1),.lit (.bool b2),.lit (.bool b3)],p)) :
 c0 = .bool b0∧c1 = .bool b1∧c2 = .bool b2∧c3 = .bool b3:=by
 obtain ⟨xs,m,_,hx,_,hl,hi⟩:=DataW.trod_array Tryz.underlying296 h
 simp only [boolCells,Nat.mul_one] at hi
 match xs,hl with
 |[y0,y1,y2,y3],_ =>
  have h0:=hi 0 (by omega)
  have h1:=hi 1 (by omega)
  have h2:=hi 2 (by omega)
  have h3:=hi 3 (by omega)
  simp only [List.drop_zero,List.drop_succ_cons,List.take_succ_cons,List.take_zero,List.getElem?_cons_zero,List.getElem?_cons_succ] at h0 h1 h2 h3
  obtain ⟨e0,g0,rfl⟩:=DataW.trod_bool Tryz.underlying4 h0
  obtain ⟨e1,g1,rfl⟩:=DataW.trod_bool Tryz.underlying4 h1
  obtain ⟨e2,g2,rfl⟩:=DataW.trod_bool Tryz.underlying4 h2
  obtain ⟨e3,g3,rfl⟩:=DataW.trod_bool Tryz.underlying4 h3
  simp at g0 g1 g2 g3 hx
  obtain ⟨⟨rfl,rfl,rfl,rfl⟩,_⟩:=hx
  exact ⟨g0,g1,g2,g3⟩
theorem row_of_trod {c0 c1 c2 c3 c4:Value} {b0 b1 b2 b3:Bool} {n:Int} {p:List MemPlace} (h:DataW.trod enc Tryz.prog w base sp held fuel 299 [c0,c1,c2,c3,c4]=some (.agg [.agg [.lit (.bool b0),.lit (.bool b1),.lit (.bool b2),.lit (.bool b3)],.lit (.int .i64 n)],p)) :
 c0 = .bool b0∧c1 = .bool b1∧c2 = .bool b2∧c3 = .bool b3∧c4 = .int .i64 n:=by
 obtain ⟨y0,y1,m,hx,_,h0,h1⟩:=trod_struct2 Tryz.underlying299 h
 simp only [bwCells,intCells,List.drop_zero,List.drop_succ_cons,List.take_succ_cons,List.take_zero] at h0 h1
 obtain ⟨z,g1,rfl,_⟩:=DataW.trod_int Tryz.underlying2 h1
 obtain ⟨d0,q0⟩:=y0
 simp at hx g1
 obtain ⟨⟨rfl,rfl⟩,_⟩:=hx
 obtain ⟨e0,e1,e2,e3⟩:=bw_of_trod h0
 exact ⟨e0,e1,e2,e3,g1⟩
end
theorem dv_of_laid {W:World} (h:laidMet Tryz.prog [("loop.example/g00316/impl.divisors",Rows.laid_loop_example_g00316_impl_divisors)] W):Dv W∧W.var? Tryz.prog "loop.example/g00316/impl.divisors" = some dvCells:=by
 obtain ⟨ps,⟨g,t,cs,fuel,p,q,hg,ht,hvar,hd,_,rfl⟩,_,hrow⟩:=h
 obtain rfl:=Option.some.inj (dvG.symm.trans hg)
 obtain rfl:=Option.some.inj (dvGType.symm.trans ht)
 have e:cs=dvCells:=by
  obtain ⟨l⟩:=cs
  obtain ⟨xs,m,_,hx,hl,hn,hi⟩:=DataW.trod_array Tryz.underlying300 hd
  rw [dvCells4] at hl
  simp only [dvCells1] at hi
  match l,hl with
  |[a0,a1,a2,a3,a4,a5,a6,a7,a8,a9,a10,a11,a12,a13,a14,a15,a16,a17,a18,a19],_ =>
   match xs,hn with
   |[y0,y1,y2,y3],_ =>
    have h0:=hi 0 (by omega)
    have h1:=hi 1 (by omega)
    have h2:=hi 2 (by omega)
    have h3:=hi 3 (by omega)
    simp only [Nat.zero_mul,Nat.one_mul,Nat.reduceMul,List.drop_zero,List.drop_succ_cons,List.take_succ_cons,List.take_zero,List.getElem?_cons_zero,List.getElem?_cons_succ] at h0 h1 h2 h3
    obtain ⟨d0,q0⟩:=y0
    obtain ⟨d1,q1⟩:=y1
    obtain ⟨d2,q2⟩:=y2
    obtain ⟨d3,q3⟩:=y3
    simp [Rows.laid_loop_example_g00316_impl_divisors] at hx
    obtain ⟨⟨rfl,rfl,rfl,rfl⟩,_⟩:=hx
    obtain ⟨rfl,rfl,rfl,rfl,rfl⟩:=row_of_trod h0
    obtain ⟨rfl,rfl,rfl,rfl,rfl⟩:=row_of_trod h1
    obtain ⟨rfl,rfl,rfl,rfl,rfl⟩:=row_of_trod h2
    obtain ⟨rfl,rfl,rfl,rfl,rfl⟩:=row_of_trod h3
    rfl
 subst e
 refine ⟨?_,hvar⟩
 obtain ⟨⟨c,t,hc⟩,_⟩:=hrow 2 0 (by simp [MemPlace.row,dvCells])
 refine ⟨t,?_⟩
 have hv:=hvar
 unfold World.var? at hv
 rw [dvG] at hv
 simp [hc] at hv
 show W.heap[_]? = _
 rw [hc,hv]
theorem dv_reads {H:Type} (enc:TypeId×Value→H) (W:World) (sp:Nat→Bool):DataW.trod enc Tryz.prog W 0 sp true 4 300 dvCells.toList=some (Rows.laid_loop_example_g00316_impl_divisors,[]):=by kernel_rfl
theorem dv_var_below {w w':World} {B:Nat} {cs:Array Value} (h:w.var? Tryz.prog "loop.example/g00316/impl.divisors" = some cs) (hb:Below B w w') (hlt:2<B):w'.var? Tryz.prog "loop.example/g00316/impl.divisors" = some cs:=by
 unfold World.var? at h ⊢
 rw [dvG] at h ⊢
 simp only [Option.bind_some] at h ⊢
 rw [hb.block 2 hlt]
 exact h
theorem dv_vars {H:Type} (enc:TypeId×Value→H) {W:World} (h:W.var? Tryz.prog "loop.example/g00316/impl.divisors" = some dvCells) (sp:Nat→Bool) :
 DataW.TrodVars enc Tryz.prog W sp ["loop.example/g00316/impl.divisors"] [Rows.laid_loop_example_g00316_impl_divisors] (MemPlace.row ⟨2,0,none⟩ dvCells.size++[]++[]) :=
 ⟨2,300,dvCells,4,[],[],dvG,dvGType,h,dv_reads enc W sp,rfl,rfl⟩
end Go.Proofs.YtgebghkcikmfaaaGreatDoor
